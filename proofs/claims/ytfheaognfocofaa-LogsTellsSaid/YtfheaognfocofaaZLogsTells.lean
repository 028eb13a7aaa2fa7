/- LogsTells: what is told stands behind what was there, just if the guards hold; the statement's walk. -/
import Derived.Test.YtfheaognfocofaaZLogsWant
import Derived.Test.YtfheaognfocofaaZRecoRefDone
namespace Go.Proofs.Ytfheaognfocofaa
set_option maxRecDepth 100000
open Go.ChangeShapes Go.WideShapes Go.ChangeAt Go.RowKit Go.ChangeMaps
open Sf Lg

set_option maxRecDepth 100000 in
set_option maxHeartbeats 16000000 in
theorem lgtells_any (v : Value) (l : List Int) (a1 a2 : Int) (w : World) (hl : Ints w v l) : Calls Try.prog 5 #[v, .int .i64 a1, .int .i64 a2] w fun e w' => e = .returned (.bool true) ∧ Below w.heap.size w w' := by
  have kc := fun (w : World) (C : Array Value) (n c : Nat) => Lib.run_convert_bytes_const (P := Try.prog) w 28 5 C n c Try.underlying28 Try.underlying5
  have kl : ({ data := #[108, 111, 99, 107, 47, 108, 111, 103] } : ByteArray) = str lgL := rfl
  have kt : ({ data := #[116, 109, 112, 47, 49, 46, 49, 46, 50] } : ByteArray) = str lgT := rfl
  have kr : ({ data := #[116, 114, 97, 99, 101] } : ByteArray) = str tr := rfl
  have HL := Lib.hid hl
  obtain ⟨_, hlen, A, c, rfl, _, _⟩ := hl
  obtain ⟨N, hN⟩ : ∃ N, l.length = N := ⟨_, rfl⟩
  rw [hN] at HL ⊢
  obtain ⟨m, hm, em⟩ := Rc.and_7 a1
  have em2 : bits .and .i64 a1 7 = (m : Int) := em
  obtain ⟨u, eu, hu⟩ := lg_and a2 255 (by omega)
  have eu2 : bits .and .i64 a2 255 = (u : Int) := eu
  have HU : Hid (u ≤ 255) := Lib.hid hu
  clear hlen hN em eu hm hu
  go_enter Try.func5, Try.ntmps5
  go_wp2_with fail
  refine (fs_new 1048576 w).mono ?_
  rintro e w1 ⟨p, rfl, h1⟩
  have H1 : Hid (Fk (fun _ => False) w w1 p ⟨[], 1048576, 0, -1⟩) := Lib.hid h1.keep
  clear h1
  go_wp2_with fail
  refine (fk_put lgL [120] _ (H1.out.alloc _) nice_lgL (bytes_new w1 _ rfl [120] _ _ (by simp) (by simp)) (by show 0 ≤ _; omega) (by show 0 + 1 ≤ _; omega)).mono ?_
  rw [putS_new (by simp)]
  rintro e w2 ⟨rfl, h2, -⟩
  have H2 : Hid (Fk (fun _ => False) w w2 p (aa [120] 1 none 1048576 1 (-1))) := Lib.hid h2
  clear h2 H1
  go_upto_region 6 with fail
  obtain ⟨w3, g, K3, hw3, hg3, h3, kg, -, b3, bb3, bg⟩ := H2.out.box 30 #[.string (str lgL), .int .i64 1]
  rw [hw3, hg3]
  have H3 := Lib.hid h3
  have KG := Lib.hid kg
  have B3 := Lib.hid b3
  clear hw3 hg3 h3 kg b3 bb3 H2
  go_wp2_with fail
  go_loopg [11, 12] 11 (fun gg s11 s12 wr => ∃ (i n : Nat) (o : Option (List Nat × Nat)) (L : List Rc.D) (K : Nat → Prop), i ≤ 10 ∧ 11 - i ≤ gg ∧ s12 = .int .i64 (i : Int) ∧ Hid (Fk K w wr p (aa [120] 1 o 1048576 n (-1))) ∧ Hid (WantIs K wr w.heap.size s11 L) ∧ Hid (K g ∧ Blk wr g 30 #[.string (str lgL), .int .i64 1]) ∧ Hid (TInv o L n ∧ L.length ≤ i ∧ n ≤ 1 + 5 * i))
  case atStart => exact ⟨0, 1, none, [], K3, by omega, by omega, rfl, H3, Lib.hid (WantIs.none _ _ _), Lib.hid ⟨KG.out, B3.out⟩, Lib.hid ⟨⟨by simp, .inl ⟨rfl, rfl⟩⟩, by simp, by omega⟩⟩
  case round =>
    clear H3 KG B3
    obtain ⟨i, n, o, L, K, hi, hgg, rfl, HF, HWT, HGD, HTI⟩ := hrel
    obtain ⟨wz, rfl⟩ : ∃ wx : World, wx = wr := ⟨_, rfl⟩
    by_cases h12 : i < N ∧ i < 10
    · have h1I : (i : Int) < (N : Int) := by omega
      have h2I : (i : Int) < 10 := by omega
      have HI : Hid (i < N ∧ i < 10) := Lib.hid h12
      have g0 := HGD.out.2.at 0
      have g1 := HGD.out.2.at 1
      have wi : IntKind.i64.wrap ((i : Int) + 1) = ((i + 1 : Nat) : Int) := by rw [IntWalk.i64_in _ (by omega)]; omega
      clear h12
      go_wp2_with fail
      refine (fxnew_any lgL lgT 1 wz).mono ?_
      rintro e w4 ⟨gx, rfl, hgx, hx, hb4⟩
      obtain ⟨k, n', X, hrun, htold, hstamp, hk0, hkn, hnn, hn2⟩ := HTI.out.1.fix (by have := HTI.out; omega) 5
      have HR : Hid (FxRun (fun k => K k ∨ k = gx) w w4 p gx 8 0 0 (aa [120] 1 (some (Fr.frs (L.map Rc.body), k)) 1048576 n' (-1), X, 1) n 1048576) := Lib.hid (FxRun.new (FxAt.begun HF.out hb4 hgx hx) hrun (Nat.le_refl _) (by have := HTI.out.1.len; have := HTI.out; rw [used_aa]; simp only [List.length_cons, List.length_nil]; omega))
      have HXT : Hid (X.told = 1 ∧ X.stamp = (k : Int) ∧ 0 < k ∧ k ≤ n' ∧ n ≤ n' ∧ n' ≤ n + 2) := Lib.hid ⟨htold, hstamp, hk0, hkn, hnn, hn2⟩
      have HW4 := Lib.hid (HWT.out.under hb4)
      have HG4 := Lib.hid (HGD.out.2.under hb4)
      have HKG := Lib.hid HGD.out.1
      have HGX : Hid (w.heap.size ≤ gx ∧ ∀ k, K k → k ≠ gx) := Lib.hid ⟨Nat.le_trans HF.out.fs.below.size hgx, fun k hk => by have := HF.out.lt hk; omega⟩
      have HLS : Hid (∀ x ∈ L, Rc.NumOk x) := Lib.hid HTI.out.1.1
      have HNB : Hid (L.length ≤ i ∧ n ≤ 1 + 5 * i) := Lib.hid HTI.out.2
      clear hgx hx hb4 HF HWT HGD HTI hrun htold hstamp hk0 hkn hnn hn2 g0 g1
      go_upto_block 2 with fail
      go_cut [] (fun wx => Hid (FxAt (fun k => K k ∨ k = gx) w wx p gx (aa [120] 1 (some (Fr.frs (L.map Rc.body), k)) 1048576 n' (-1)) X) ∧ Hid (Kept K w4 wx))
      case first =>
        go_wp2_with fail
        go_loopg [14] 9 (fun gg s14 wr => ∃ q : Nat, q ≤ 8 ∧ 9 - q ≤ gg ∧ s14 = .int .i64 (q : Int) ∧ Hid (FxRun (fun k => K k ∨ k = gx) w wr p gx 8 q 0 (aa [120] 1 (some (Fr.frs (L.map Rc.body), k)) 1048576 n' (-1), X, 1) n 1048576) ∧ Hid (Kept K w4 wr))
        case atStart => exact ⟨0, by omega, by omega, rfl, HR, Lib.hid (Kept.refl _ _)⟩
        case round =>
          clear HR
          obtain ⟨q, hq, hgg2, rfl, HRq, HKq⟩ := hrel
          obtain ⟨wv, rfl⟩ : ∃ wx : World, wx = wr := ⟨_, rfl⟩
          by_cases hlt : q < 8
          · have hltI : (q : Int) < 8 := by omega
            have wq : IntKind.i64.wrap ((q : Int) + 1) = ((q + 1 : Nat) : Int) := by rw [IntWalk.i64_in _ (by omega)]; omega
            have C := Lib.hid (fxrun_any HRq.out hlt (by omega) (by have := HNB.out; omega) (by omega) (.inr rfl) HGX.out.1)
            go_wp2_with fail
            refine C.out.mono ?_
            rintro e w5 ⟨qv, rfl, h5, k5⟩
            have H5 := Lib.hid h5
            have HK5 := Lib.hid (HKq.out.trans (k5.less fun k hk => ⟨.inl hk, HGX.out.2 k hk⟩))
            clear h5 k5 C HRq HKq
            by_cases h0 : qv = 0
            · subst h0
              go_wp2_with fail
              go_roundg (9 - (q + 1))
              case rel => exact ⟨q + 1, by omega, Nat.le_refl _, rfl, H5, HK5⟩
              case measure => omega
            · have h0I := lg_ne h0
              obtain ⟨rfl, hX⟩ := H5.out.done rfl (by decide) (.inl h0)
              have HXD := Lib.hid hX
              clear hX h0
              go_wp2
              go_meet
              exact ⟨HXD, HK5⟩
          · exfalso
            obtain rfl : q = 8 := by omega
            have := (HRq.out.done rfl (by decide) (.inr rfl)).1
            omega
      case rest =>
        obtain ⟨HXA, HKB⟩ := hcut
        clear HR
        obtain ⟨wb, rfl⟩ : ∃ wx : World, wx = wc := ⟨_, rfl⟩
        have HFb : Hid (Fk K w wb p (aa [120] 1 (some (Fr.frs (L.map Rc.body), k)) 1048576 n' (-1))) := Lib.hid (HXA.out.fk.less K fun _ => .inl)
        have HWb := Lib.hid (HW4.out.kept HKB.out)
        have HGb := Lib.hid (HKB.out.blk HKG.out HG4.out)
        have htr : trV X = .tuple #[guardV tr (k : Int), .bool true] := by unfold trV; rw [if_pos HXT.out.1, HXT.out.2.1]
        obtain ⟨v6, x6, -, -, -⟩ := HXA.out
        have C6 := fxtold_any X v6 gx wb x6
        rw [htr] at C6
        have HC6 := Lib.hid C6
        clear C6 htr x6 HXA HKB HW4 HG4
        go_wp2_with fail
        refine HC6.out.mono ?_
        rintro e w6 ⟨rfl, hb6⟩
        have HF6 := Lib.hid (HFb.out.under hb6)
        have HW6 := Lib.hid (HWb.out.under hb6)
        have HG6 := Lib.hid (HGb.out.under hb6)
        clear hb6 HC6 HFb HWb HGb
        go_upto_region 18 with fail
        obtain ⟨w8, t, K8, hw8, ht8, h8, kt8, kk8, b8, bb8, bt⟩ := HF6.out.box 30 #[.string (str tr), .int .i64 (k : Int)]
        rw [hw8, ht8]
        have HF8 := Lib.hid h8
        have HW8 := Lib.hid ((HW6.out.under bb8).more kk8)
        have HG8 := Lib.hid (HG6.out.under bb8)
        have HT8 := Lib.hid b8
        have HK8 : Hid (K8 g ∧ K8 t) := Lib.hid ⟨kk8 _ HKG.out, kt8⟩
        clear hw8 ht8 h8 kt8 kk8 b8 bb8 HF6 HW6 HG6 bt
        obtain ⟨b, off, rfl, kx⟩ := (HL.out.under HF8.out.fs.below).at HI.out.1
        obtain ⟨z, hz⟩ : ∃ z, l.getD i 0 = z := ⟨_, rfl⟩
        rw [hz] at kx
        obtain ⟨d, hd⟩ : ∃ d, Rc.num z = d := ⟨_, rfl⟩
        have HDK : Hid (Rc.NumOk d) := Lib.hid (by rw [← hd]; exact Rc.num_ok z)
        have C9 : Hid (Calls Try.prog 12 #[.int .i64 z] w8 (NumIs d w8)) := Lib.hid (rnum_any' z d w8 hd)
        clear hz hd
        go_wp2_with fail
        refine C9.out.mono ?_
        rintro e w9 ⟨hb9, xv, rfl, ho9⟩
        obtain ⟨_, _, A9, c9, rfl, _, _⟩ := ho9.bytes.parts
        obtain ⟨np, hnp⟩ : ∃ n, d.2.1.length = n := ⟨_, rfl⟩
        rw [hnp] at ho9 ⊢
        clear hnp
        obtain ⟨K9, h9, kx9, kk9⟩ := HF8.out.own hb9 ho9
        have HF9 := Lib.hid h9
        have HO9 := Lib.hid (ho9.more HF8.out.fs.below.size)
        have HW9 := Lib.hid ((HW8.out.under hb9).more kk9)
        have HG9 := Lib.hid (HG8.out.under hb9)
        have HT9 := Lib.hid (HT8.out.under hb9)
        have HX9 := Lib.hid kx9
        have HK9 : Hid (K9 g ∧ K9 t) := Lib.hid ⟨kk9 _ HK8.out.1, kk9 _ HK8.out.2⟩
        clear hb9 ho9 h9 kx9 kk9 HF8 HW8 HG8 HT8 HK8 C9 kx
        go_upto_region 21 with fail
        obtain ⟨wd, dq, Kd, hwd, hdq, hd10, kd10, kkd, bd, bbd, bdq⟩ := HF9.out.box 39 #[.string (str d.1), .int .i64 (d.2.2.1 : Int), .int .i64 (d.2.2.2 : Int), .slice A9 np c9]
        rw [hwd, hdq]
        have HFd := Lib.hid hd10
        have HWd := Lib.hid ((HW9.out.under bbd).more kkd)
        have HGd := Lib.hid (HG9.out.under bbd)
        have HTd := Lib.hid (HT9.out.under bbd)
        have HDd := Lib.hid bd
        have HOd := Lib.hid (HO9.out.under bbd)
        have HXd : Hid (∀ k, (Value.slice A9 np c9).ownBlock = some k → Kd k) := Lib.hid fun k e => kkd k (HX9.out k e)
        have HKd : Hid (Kd g ∧ Kd t ∧ Kd dq) := Lib.hid ⟨kkd _ HK9.out.1, kkd _ HK9.out.2, kd10⟩
        have HDQ : Hid (w9.heap.size = dq) := Lib.hid hdq
        have d0 := bd.at 0
        have d1 := bd.at 1
        have d2 := bd.at 2
        have d3 := bd.at 3
        have C10 := Lib.hid (refrdone_is d.1 d.2.1 (d.2.2.1 : Int) (d.2.2.2 : Int) (.slice A9 np c9) _ wd HOd.out.bytes (Rc.numOk_lt HDK.out) (by have := (Rc.ok_length HDK.out.1).2; omega) (by have := HDK.out.2.1; omega) rfl)
        have HDW := Lib.hid HW9.out.lt
        clear hwd hdq hd10 kd10 kkd bd bbd bdq HF9 HW9 HG9 HT9 HO9 HX9 HK9
        go_wp2_with fail
        refine C10.out.mono ?_
        rintro e we ⟨ve, rfl, hoe, hbe⟩
        have HBe := Lib.hid hbe
        have HBD : Hid ((Rc.body d).length ≤ 50) := Lib.hid (Rc.body_len HDK.out)
        have C11 := Lib.hid (refput_is (.slice none 0 0) ve [] (Rc.body d) (Fr.frm (Rc.body d)) we (bytes_nil we) hoe.bytes (by simp) (by have := HBD.out; omega) (by simp))
        clear hoe hbe d0 d1 d2 d3 C10
        go_wp2_with fail
        refine C11.out.mono ?_
        rintro e wf ⟨vf, rfl, hof, hbf⟩
        have HBf := Lib.hid (HBe.out.trans (hbf.mono HBe.out.size))
        obtain ⟨_, _, Af, cf, rfl, _, _⟩ := hof.bytes.parts
        have HFf := Lib.hid (HFd.out.under HBf.out)
        have HWf := Lib.hid (HWd.out.under HBf.out)
        have HGf := Lib.hid (HGd.out.under HBf.out)
        have HTf := Lib.hid (HTd.out.under HBf.out)
        have HDf := Lib.hid (HDd.out.under HBf.out)
        have HOf := Lib.hid (HOd.out.under HBf.out)
        obtain ⟨sz, hsz⟩ : ∃ sz, (Fr.frm (Rc.body d)).length = sz := ⟨_, rfl⟩
        rw [hsz]
        have HSZ := Lib.hid hsz
        have hsz0 : ¬ sz = 0 := by rw [← hsz, Fr.frm_length]; omega
        obtain ⟨q, hq⟩ : ∃ q, u % sz = q := ⟨_, rfl⟩
        have hqm : (u : Int).tmod (sz : Int) = (q : Int) := by rw [Int.tmod_eq_emod_of_nonneg (by omega), ← hq]; rfl
        have HQ : Hid (q < sz) := Lib.hid (by rw [← hq]; exact Nat.mod_lt _ (by rw [← hsz, Fr.frm_length]; omega))
        clear hof hbf hsz hq HBe HBf C11 HFd HWd HGd HTd HDd HOd
        go_upto_region 23 with fail
        clear hsz0 hqm
        by_cases him : i = m
        · as_aux_lemma =>
            have himI : ((i : Int) == (m : Int)) = true := by rw [him]; simp
            clear him
            go_wp2_with fail
            refine (fk_cut (q : Int) HFf.out (by have := HQ.out; have := HSZ.out; have := HBD.out; rw [Fr.frm_length] at *; omega)).mono ?_
            rintro e wg ⟨rfl, hg1, hg2⟩
            obtain ⟨o', n2, etell, htinv, hn3, hn4, t', k', rfl, ht'⟩ := tell_cut (L := L) (d := d) (k := k) (n := n') (q := q) HLS.out HDK.out (by rw [HSZ.out]; exact HQ.out) HXT.out.2.2.1 HXT.out.2.2.2.1
            have hgc : Fk Kd w wg p (aa [120] 1 (some (Fr.frs (L.map Rc.body), k)) 1048576 n' (q : Int)) := by
              have e : max (q : Int) 0 = (q : Int) := by omega
              rw [e] at hg1
              exact hg1
            have HFg := Lib.hid hgc
            have HWg := Lib.hid (HWf.out.kept (hg2.less fun k hk => hk) |>.more fun _ h => h)
            have HGg := Lib.hid (hg2.blk HKd.out.1 HGf.out)
            have HTg := Lib.hid (hg2.blk HKd.out.2.1 HTf.out)
            have HDg := Lib.hid (hg2.blk HKd.out.2.2 HDf.out)
            have HOg := Lib.hid (HOf.out.bytes.kept hg2 HXd.out)
            have HET := Lib.hid etell
            have HTV := Lib.hid htinv
            have HTT := Lib.hid ht'
            have HN2 : Hid (n2 ≤ n' + 1) := Lib.hid hn4
            clear hg1 hg2 hgc etell htinv hn3 hn4 ht' HFf HWf HGf HTf HDf HOf
            have g0 := HGg.out.at 0
            have g1 := HGg.out.at 1
            have t0 := HTg.out.at 0
            have t1 := HTg.out.at 1
            have d0 := HDg.out.at 0
            have d1 := HDg.out.at 1
            have d2 := HDg.out.at 2
            have d3 := HDg.out.at 3
            go_wp2_with fail
            have C := lgtell_any d.1 d.2.1 (d.2.2.1 : Int) (d.2.2.2 : Int) [(lgL, 1), (tr, (k : Int))] (.slice A9 np c9) _ (HFg.out.alloc _) (HOg.out.alloc _) (Rc.numOk_lt HDK.out) (by have := (Rc.ok_length HDK.out.1).2; omega) (by have := HDK.out.2.1; omega) (rdG_two' wg _ rfl lgL tr 1 (k : Int)) lg_nices (by have := HXT.out; have := HNB.out; show n' ≤ _; omega) (by rw [used_aa]; have := frs_le HLS.out; have := HNB.out; show 1 + (Fr.frs (L.map Rc.body)).length + 5000 ≤ _; omega)
            rw [HET.out] at C
            refine C.mono ?_
            clear C
            rintro e wh ⟨rfl, hh1, hh2⟩
            have HFh := Lib.hid hh1
            have HWh := Lib.hid ((HWg.out.under ((Below.refl _ _).alloc (Nat.le_refl _) _)).kept hh2)
            have HGh := Lib.hid (hh2.blk HKd.out.1 (HGg.out.alloc _))
            have HLD : Hid (ld t' = L) := Lib.hid (by rw [HTT.out]; exact (ld_tell HLS.out _ (by have := HBD.out; omega) q (by rw [HSZ.out]; exact HQ.out)).1)
            have HTL : Hid (t'.length ≤ 2000) := Lib.hid (by have := HTV.out.len1; have := HNB.out; omega)
            have HNK := HLS
            have HLN : Hid (L.length ≤ 100) := Lib.hid (by have := HNB.out; omega)
            have HEND : Hid (L.length ≤ i + 1 ∧ n2 ≤ 1 + 5 * (i + 1)) := Lib.hid (by have := HNB.out; have := HXT.out; have := HN2.out; omega)
            have HKE : Hid (Kd g) := Lib.hid HKd.out.1
            clear hh1 hh2 g0 g1 t0 t1 d0 d1 d2 d3 HFg HWg HGg HTg HDg HOg HET HTT
            go_wp2_with fail
            refine (fs_read tr w wh p _ HFh.out.fs nice_tr (Nat.le_trans (used_tt HTL.out) (by omega))).mono ?_
            rw [read_some]
            rintro e wr1 ⟨vr1, rfl, hor1, hbr1⟩
            have HFr := Lib.hid (HFh.out.under hbr1)
            have HWr := Lib.hid (HWh.out.under hbr1)
            have HGr := Lib.hid (HGh.out.under hbr1)
            have HOr := Lib.hid hor1.bytes
            clear hor1 hbr1
            go_wp2_with fail
            refine (reftrace_any _ _ _ _ wr1 HOr.out (cnt_scn _) (by have := HTL.out; omega) rfl).mono ?_
            rintro e wr2 ⟨hbr2, ur2, rfl, hor2⟩
            have hldr : Rc.lead (Fr.rows _ (cnt _)) = L := HLD.out
            rw [hldr] at hor2
            have HRr := Lib.hid hor2.rd
            have HFs := Lib.hid (HFr.out.under hbr2)
            have HWs := Lib.hid (HWr.out.under hbr2)
            have HGs := Lib.hid (HGr.out.under hbr2)
            clear hbr2 hor2 hldr HFr HWr HGr HOr
            go_wp2_with fail
            refine (sameDs_any _ _ _ _ wr2 HRr.out HWs.out.rd (fun d hd => Rc.numOk_lt (HNK.out d hd)) (fun d hd => Rc.numOk_lt (HNK.out d hd)) (by have := HLN.out; omega) (by have := HLN.out; omega) true (by simp)).mono ?_
            rintro e wr3 ⟨rfl, hbr3⟩
            have HFt := Lib.hid (HFs.out.under hbr3)
            have HWt := Lib.hid (HWs.out.under hbr3)
            have HGt := Lib.hid (HGs.out.under hbr3)
            clear hbr3 HFs HWs HGs HRr
            go_wp2_with fail
            go_roundg (11 - (i + 1))
            case rel => exact ⟨i + 1, n2, some (t', k'), L, Kd, by have := HI.out; omega, Nat.le_refl _, rfl, HFt, HWt, Lib.hid ⟨HKE.out, HGt.out⟩, Lib.hid ⟨HTV.out, HEND.out⟩⟩
            case measure => have := HI.out; omega
        · as_aux_lemma =>
            have himI : ((i : Int) == (m : Int)) = false := lg_ne him
            clear him
            have g0 := HGf.out.at 0
            have g1 := HGf.out.at 1
            have t0 := HTf.out.at 0
            have t1 := HTf.out.at 1
            have d0 := HDf.out.at 0
            have d1 := HDf.out.at 1
            have d2 := HDf.out.at 2
            have d3 := HDf.out.at 3
            go_wp2_with fail
            have C := lgtell_any d.1 d.2.1 (d.2.2.1 : Int) (d.2.2.2 : Int) [(lgL, 1), (tr, (k : Int))] (.slice A9 np c9) _ (HFf.out.alloc _) (HOf.out.bytes.alloc _) (Rc.numOk_lt HDK.out) (by have := (Rc.ok_length HDK.out.1).2; omega) (by have := HDK.out.2.1; omega) (rdG_two' wf _ rfl lgL tr 1 (k : Int)) lg_nices (by have := HXT.out; have := HNB.out; show n' ≤ _; omega) (by rw [used_aa]; have := frs_le HLS.out; have := HNB.out; show 1 + (Fr.frs (L.map Rc.body)).length + 5000 ≤ _; omega)
            rw [tell_ok HLS.out (by have := HNB.out; omega) HDK.out] at C
            refine C.mono ?_
            clear C
            rintro e wg ⟨rfl, hg1, hg2⟩
            have HFg := Lib.hid hg1
            have HWg := Lib.hid ((HWf.out.under ((Below.refl _ _).alloc (Nat.le_refl _) _)).kept hg2)
            have HGg := Lib.hid (hg2.blk HKd.out.1 (HGf.out.alloc _))
            have HTg := Lib.hid (hg2.blk HKd.out.2.1 (HTf.out.alloc _))
            have HDg := Lib.hid (hg2.blk HKd.out.2.2 (HDf.out.alloc _))
            have HOg : Hid (Own wg w.heap.size (.slice A9 np c9) d.2.1) := Lib.hid ⟨ownsRow_block (HOf.out.alloc _).1 fun k e => hg2.2 k (HXd.out k e), HOf.out.2⟩
            clear hg1 hg2 g0 g1 t0 t1 d0 d1 d2 d3 HFf HWf HGf HTf HDf HOf
            have d0 := HDg.out.at 0
            have d1 := HDg.out.at 1
            have d2 := HDg.out.at 2
            have d3 := HDg.out.at 3
            obtain ⟨T, hTm, hTo, hTp, hTk, hTq⟩ := HWg.out
            have HTM := Lib.hid hTm
            have HTO := Lib.hid hTo
            have HTP := Lib.hid hTp
            have HTK := Lib.hid hTk
            have HTQ := Lib.hid hTq
            have hTl : T.length = L.length := by rw [← hTm, List.length_map]
            have HTN : Hid (T.length ≤ 100) := Lib.hid (by have := HNB.out; omega)
            have HRN : Hid (RdN (wg.alloc (.cells #[.string (str d.1), .int .i64 (d.2.2.1 : Int), .int .i64 (d.2.2.2 : Int), .slice A9 np c9] 39)) (.slice (some ⟨wg.heap.size, 0, none⟩) 1 1) [(d, .slice A9 np c9)]) := Lib.hid (rdN_one wg (d, .slice A9 np c9) (0, 0))
            clear hTm hTo hTp hTk hTq hTl
            go_wp2_with (at_builtin; refine wpList_append_dones rfl _ _ rfl w.heap.size _ _ T [(d, .slice A9 np c9)] rfl (HTO.out.alloc _) rfl HRN.out (fun x hx => by rw [List.mem_singleton.1 hx]; rfl) (by have := HTN.out; rw [List.length_singleton]; omega) ?_ _ rfl ?_)
            case refine_1 => have := HFg.out.fs.below.size; simp; omega
            case refine_2 =>
              rintro uu wh hgr
              have hba := fun o => (Below.refl wg.heap.size wg).alloc (Nat.le_refl _) o
              obtain ⟨Kh, hh1, hh2, hh3, hh4, hh5⟩ := WantIs.grew (HFg.out.alloc _) HTM.out (HTO.out.alloc _) (fun y hy => (HTP.out y hy).alloc _) HTK.out HTQ.out (HOg.out.alloc _) HXd.out hgr
              have HFh := Lib.hid hh1
              have HWh := Lib.hid hh2
              have HGh := Lib.hid (hh5 _ _ _ (HGg.out.alloc _) (.inl (by decide)))
              have HTh := Lib.hid (hh5 _ _ _ (HTg.out.alloc _) (.inl (by decide)))
              have HDh := Lib.hid (hh5 _ _ _ (HDg.out.alloc _) (.inr fun e => by have := HDW.out _ e; have := HDQ.out; omega))
              have HOh := Lib.hid hh4
              have HKh : Hid (Kh g ∧ Kh t ∧ Kh dq) := Lib.hid ⟨hh3 _ HKd.out.1, hh3 _ HKd.out.2.1, hh3 _ HKd.out.2.2⟩
              clear hgr hba hh1 hh2 hh3 hh4 hh5 d0 d1 d2 d3 HFg HWg HGg HTg HDg HOg HTM HTO HTP HTK HTQ HRN
              have g0 := HGh.out.at 0
              have g1 := HGh.out.at 1
              have t0 := HTh.out.at 0
              have t1 := HTh.out.at 1
              have d0 := HDh.out.at 0
              have d1 := HDh.out.at 1
              have d2 := HDh.out.at 2
              have d3 := HDh.out.at 3
              have HTLa : Hid ((Fr.frs ((L ++ [d]).map Rc.body)).length ≤ 2000) := Lib.hid (frs_small (ok_snoc HLS.out HDK.out) (by have := HNB.out; rw [List.length_append, List.length_singleton]; omega))
              go_wp2_with fail
              have C := lgtell_any d.1 d.2.1 (d.2.2.1 : Int) (d.2.2.2 : Int) [(lgL, 1), (tr, (k : Int))] (.slice A9 np c9) _ (HFh.out.alloc _) (HOh.out.bytes.alloc _) (Rc.numOk_lt HDK.out) (by have := (Rc.ok_length HDK.out.1).2; omega) (by have := HDK.out.2.1; omega) (rdG_two' wh _ rfl lgL tr 1 (k : Int)) lg_nices (by have := HXT.out; have := HNB.out; show n' + 1 ≤ _; omega) (Nat.le_trans (Nat.add_le_add_right (used_tt HTLa.out) 5000) (by omega))
              rw [tell_old HDK.out (by have := HXT.out; omega)] at C
              refine C.mono ?_
              clear C
              rintro e wi' ⟨rfl, hi1, hi2⟩
              have HFi := Lib.hid hi1
              have HWi := Lib.hid ((HWh.out.under ((Below.refl _ _).alloc (Nat.le_refl _) _)).kept (hi2.less fun k hk => hk))
              have HGi := Lib.hid (hi2.blk HKh.out.1 (HGh.out.alloc _))
              have HNK : Hid (∀ x ∈ L ++ [d], Rc.NumOk x) := Lib.hid fun x hx => by
                rcases List.mem_append.1 hx with hx | hx
                · exact HLS.out x hx
                · rw [List.mem_singleton.1 hx]
                  exact HDK.out
              have HTV : Hid (TInv (some (Fr.frs ((L ++ [d]).map Rc.body), n' + 1)) (L ++ [d]) (n' + 1)) := Lib.hid (TInv.told HLS.out HDK.out (by omega) (by omega))
              have HLD : Hid (ld (Fr.frs ((L ++ [d]).map Rc.body)) = L ++ [d]) := Lib.hid (ld_all HNK.out).1
              have HLN : Hid ((L ++ [d]).length ≤ 100) := Lib.hid (by have := HNB.out; rw [List.length_append, List.length_singleton]; omega)
              have HTL := HTLa
              have HEND : Hid ((L ++ [d]).length ≤ i + 1 ∧ n' + 1 ≤ 1 + 5 * (i + 1)) := Lib.hid (by have := HNB.out; have := HXT.out; rw [List.length_append, List.length_singleton]; omega)
              have HKE : Hid (Kh g) := Lib.hid HKh.out.1
              clear hi1 hi2 g0 g1 t0 t1 d0 d1 d2 d3 HFh HWh HGh HTh HDh HOh
              go_wp2_with fail
              refine (fs_read tr w wi' p _ HFi.out.fs nice_tr (Nat.le_trans (used_tt HTL.out) (by omega))).mono ?_
              rw [read_some]
              rintro e wr1 ⟨vr1, rfl, hor1, hbr1⟩
              have HFr := Lib.hid (HFi.out.under hbr1)
              have HWr := Lib.hid (HWi.out.under hbr1)
              have HGr := Lib.hid (HGi.out.under hbr1)
              have HOr := Lib.hid hor1.bytes
              clear hor1 hbr1
              go_wp2_with fail
              refine (reftrace_any _ _ _ _ wr1 HOr.out (cnt_scn _) (by have := HTL.out; omega) rfl).mono ?_
              rintro e wr2 ⟨hbr2, ur2, rfl, hor2⟩
              have hldr : Rc.lead (Fr.rows _ (cnt _)) = (L ++ [d]) := HLD.out
              rw [hldr] at hor2
              have HRr := Lib.hid hor2.rd
              have HFs := Lib.hid (HFr.out.under hbr2)
              have HWs := Lib.hid (HWr.out.under hbr2)
              have HGs := Lib.hid (HGr.out.under hbr2)
              clear hbr2 hor2 hldr HFr HWr HGr HOr
              go_wp2_with fail
              refine (sameDs_any _ _ _ _ wr2 HRr.out HWs.out.rd (fun d hd => Rc.numOk_lt (HNK.out d hd)) (fun d hd => Rc.numOk_lt (HNK.out d hd)) (by have := HLN.out; omega) (by have := HLN.out; omega) true (by simp)).mono ?_
              rintro e wr3 ⟨rfl, hbr3⟩
              have HFt := Lib.hid (HFs.out.under hbr3)
              have HWt := Lib.hid (HWs.out.under hbr3)
              have HGt := Lib.hid (HGs.out.under hbr3)
              clear hbr3 HFs HWs HGs HRr
              go_wp2_with fail
              go_roundg (11 - (i + 1))
              case rel => exact ⟨i + 1, n' + 1, some (Fr.frs ((L ++ [d]).map Rc.body), n' + 1), L ++ [d], Kh, by have := HI.out; omega, Nat.le_refl _, rfl, HFt, HWt, Lib.hid ⟨HKE.out, HGt.out⟩, Lib.hid ⟨HTV.out, HEND.out⟩⟩
              case measure => have := HI.out; omega
    · have hor : ¬ ((i : Int) < (N : Int)) ∨ ((i : Int) < (N : Int) ∧ ¬ ((i : Int) < 10)) := by omega
      have HB := Lib.hid HF.out.fs.below
      clear HF HWT HGD HTI
      rcases hor with h1 | ⟨h1, h2⟩
      all_goals
        go_wp2_with fail
        refine (lgawake_any wz).mono ?_
        rintro e w3 ⟨rfl, hb3⟩
        have HE := Lib.hid (HB.out.trans (hb3.mono HB.out.size))
        clear hb3
        go_wp2
        go_ret
        exact ⟨rfl, HE.out⟩
end Go.Proofs.Ytfheaognfocofaa
