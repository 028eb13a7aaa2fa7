/- LogsAgain: a trace that is made whole, and told behind, tells all that was whole, and what was told; the statement's walk. -/
import Derived.Test.YtfheaognfocofaaZLogsWant
import Derived.RegionTactic
namespace Go.Proofs.Ytfheaognfocofaa
set_option maxRecDepth 100000
open Go.ChangeShapes Go.WideShapes Go.ChangeAt Go.RowKit Go.ChangeMaps
open Sf Lg

namespace Lg
theorem tell_lost {T : List Nat} {d : Rc.D} {k j n : Nat} {b : List Nat} (hd : Rc.NumOk d) (hj : j ≠ 1) : tellF (aa b j (some (T, k)) 1048576 n (-1)) d.1 d.2.1 (d.2.2.1 : Int) (d.2.2.2 : Int) [(lgL, 1), (tr, (k : Int))] = (aa b j (some (T, k)) 1048576 n (-1), 0, 5) := by
  unfold tellF
  rw [if_neg (show ¬ Rc.done d.1 d.2.1 (d.2.2.1 : Int) (d.2.2.2 : Int) = [] from body_ne hd)]
  exact app_not (by rw [decide_eq_false (show ¬ (j : Int) = 1 by omega)]; rfl)
/-- A trace with a part of its own beginning behind it. -/
theorem TInv.twice {L : List Rc.D} {k n q : Nat} (h : TInv (some (Fr.frs (L.map Rc.body), k)) L n) (h0 : L ≠ []) (hq : q < 20) : TInv (some (Fr.frs (L.map Rc.body) ++ (Fr.frs (L.map Rc.body)).take q, n + 1)) L (n + 1) := by
  obtain ⟨hL, _⟩ := h
  rcases L with _ | ⟨y, r⟩
  · exact absurd rfl h0
  · have hy := hL y List.mem_cons_self
    have e : (Fr.frs ((y :: r).map Rc.body)).take q = (Fr.frm (Rc.body y)).take q := by
      rw [List.map_cons, Rc.frs_cons, List.take_append_of_le_length]
      have : 24 ≤ (Rc.body y).length := by
        unfold Rc.body Rc.done
        rw [if_pos (Rc.numOk_okD hy), Rc.dbody_length]
        omega
      rw [Fr.frm_length]
      omega
    rw [e]
    refine ⟨hL, .inr ⟨n + 1, q, Rc.body y, rfl, by omega, Nat.le_refl _, Rc.body_len hy, ?_⟩⟩
    have : 24 ≤ (Rc.body y).length := by
      unfold Rc.body Rc.done
      rw [if_pos (Rc.numOk_okD hy), Rc.dbody_length]
      omega
    rw [Fr.frm_length]
    omega
theorem TInv.ld {o : Option (List Nat × Nat)} {L : List Rc.D} {n : Nat} (h : TInv o L n) : Lg.ld (lw o) = L := by
  obtain ⟨hL, ⟨rfl, rfl⟩ | ⟨k, m, x, rfl, _, _, hx, hm⟩⟩ := h
  · exact (ld_all (L := []) (by simp)).1
  · exact (ld_tell hL x (by omega) m hm).1
theorem lgread {b : List Nat} {j n : Nat} {o : Option (List Nat × Nat)} {r c : Int} : ∃ e, Sf.read (aa b j o r n c) tr = (lw o, lk' o, e) := by
  rcases o with _ | ⟨t, k⟩
  · exact ⟨4, read_none⟩
  · exact ⟨0, read_some⟩
theorem frs_long {L : List Rc.D} (hL : ∀ d ∈ L, Rc.NumOk d) (h0 : L ≠ []) : 20 ≤ (Fr.frs (L.map Rc.body)).length := by
  rcases L with _ | ⟨y, r⟩
  · exact absurd rfl h0
  · have hy := hL y List.mem_cons_self
    have : 24 ≤ (Rc.body y).length := by
      unfold Rc.body Rc.done
      rw [if_pos (Rc.numOk_okD hy), Rc.dbody_length]
      omega
    rw [List.map_cons, Rc.frs_cons, List.length_append, Fr.frm_length]
    omega
end Lg

set_option maxRecDepth 100000 in
set_option maxHeartbeats 16000000 in
theorem lgagain_any (v v' : Value) (l l' : List Int) (other : Bool) (w : World) (hl : Ints w v l) (hl' : Ints w v' l') : Calls Try.prog 3 #[v, v', .bool other] w fun e w' => e = .returned (.bool true) ∧ Below w.heap.size w w' := by
  have kc := fun (w : World) (C : Array Value) (n c : Nat) => Lib.run_convert_bytes_const (P := Try.prog) w 28 5 C n c Try.underlying28 Try.underlying5
  have kl : ({ data := #[108, 111, 99, 107, 47, 108, 111, 103] } : ByteArray) = str lgL := rfl
  have kt : ({ data := #[116, 109, 112, 47, 49, 46, 49, 46, 50] } : ByteArray) = str lgT := rfl
  have kr : ({ data := #[116, 114, 97, 99, 101] } : ByteArray) = str tr := rfl
  have HL := Lib.hid hl
  have HL' := Lib.hid hl'
  obtain ⟨_, hlen, A, c, rfl, _, _⟩ := hl
  obtain ⟨_, hlen', A', c', rfl, _, _⟩ := hl'
  obtain ⟨N, hN⟩ : ∃ N, l.length = N := ⟨_, rfl⟩
  obtain ⟨M, hM⟩ : ∃ N, l'.length = N := ⟨_, rfl⟩
  rw [hN] at HL ⊢
  rw [hM] at HL' ⊢
  clear hlen hlen' hN hM
  go_enter Try.func3, Try.ntmps3
  go_wp2_with fail
  refine (fs_new 1048576 w).mono ?_
  rintro e w1 ⟨p, rfl, h1⟩
  have H1 : Hid (Fk (fun _ => False) w w1 p ⟨[], 1048576, 0, -1⟩) := Lib.hid h1.keep
  clear h1
  go_wp2_with fail
  refine (fk_put lgL [120] _ (H1.out.alloc _) nice_lgL (bytes_new w1 _ rfl [120] _ _ (by simp) (by simp)) (by show 0 ≤ _; omega) (by show 0 + 1 ≤ _; omega)).mono ?_
  rw [putS_new (by simp)]
  rintro e w2 ⟨rfl, h2, -⟩
  have H2 : Hid (Fk (fun _ => False) w w2 p (aa [120] 1 none 1048576 1 (-1))) := Lib.hid h2
  clear h2 H1
  go_upto_region 6 with fail
  obtain ⟨w3, g, K3, hw3, hg3, h3, kg, -, b3, bb3, bg⟩ := H2.out.box 30 #[.string (str lgL), .int .i64 1]
  rw [hw3, hg3]
  have H3 := Lib.hid h3
  have KG := Lib.hid kg
  have B3 := Lib.hid b3
  clear hw3 hg3 h3 kg b3 bb3 H2
  go_wp2_with fail
  go_loopg [11, 12] 11 (fun gg s11 s12 wr => ∃ (i n : Nat) (o : Option (List Nat × Nat)) (L : List Rc.D) (K : Nat → Prop), i ≤ 10 ∧ 11 - i ≤ gg ∧ s12 = .int .i64 (i : Int) ∧ Hid (Fk K w wr p (aa [120] 1 o 1048576 n (-1))) ∧ Hid (WantIs K wr w.heap.size s11 L) ∧ Hid (K g ∧ Blk wr g 30 #[.string (str lgL), .int .i64 1]) ∧ Hid (TInv o L n ∧ L.length ≤ i ∧ n ≤ 1 + 5 * i))
  case atStart => exact ⟨0, 1, none, [], K3, by omega, by omega, rfl, H3, Lib.hid (WantIs.none _ _ _), Lib.hid ⟨KG.out, B3.out⟩, Lib.hid ⟨⟨by simp, .inl ⟨rfl, rfl⟩⟩, by simp, by omega⟩⟩
  case round =>
    clear H3 KG B3
    obtain ⟨i, n, o, L, K, hi, hgg, rfl, HF, HWT, HGD, HTI⟩ := hrel
    obtain ⟨wz, rfl⟩ : ∃ wx : World, wx = wr := ⟨_, rfl⟩
    by_cases h12 : i < N ∧ i < 10
    · have h1I : (i : Int) < (N : Int) := by omega
      have h2I : (i : Int) < 10 := by omega
      have HI : Hid (i < N ∧ i < 10) := Lib.hid h12
      have g0 := HGD.out.2.at 0
      have g1 := HGD.out.2.at 1
      have wi : IntKind.i64.wrap ((i : Int) + 1) = ((i + 1 : Nat) : Int) := by rw [IntWalk.i64_in _ (by omega)]; omega
      clear h12
      go_wp2_with fail
      refine (fxnew_any lgL lgT 1 wz).mono ?_
      rintro e w4 ⟨gx, rfl, hgx, hx, hb4⟩
      obtain ⟨k, n', X, hrun, htold, hstamp, hk0, hkn, hnn, hn2⟩ := HTI.out.1.fix (by have := HTI.out; omega) 5
      have HR : Hid (FxRun (fun k => K k ∨ k = gx) w w4 p gx 8 0 0 (aa [120] 1 (some (Fr.frs (L.map Rc.body), k)) 1048576 n' (-1), X, 1) n 1048576) := Lib.hid (FxRun.new (FxAt.begun HF.out hb4 hgx hx) hrun (Nat.le_refl _) (by have := HTI.out.1.len; have := HTI.out; rw [used_aa]; simp only [List.length_cons, List.length_nil]; omega))
      have HXT : Hid (X.told = 1 ∧ X.stamp = (k : Int) ∧ 0 < k ∧ k ≤ n' ∧ n ≤ n' ∧ n' ≤ n + 2) := Lib.hid ⟨htold, hstamp, hk0, hkn, hnn, hn2⟩
      have HW4 := Lib.hid (HWT.out.under hb4)
      have HG4 := Lib.hid (HGD.out.2.under hb4)
      have HKG := Lib.hid HGD.out.1
      have HGX : Hid (w.heap.size ≤ gx ∧ ∀ k, K k → k ≠ gx) := Lib.hid ⟨Nat.le_trans HF.out.fs.below.size hgx, fun k hk => by have := HF.out.lt hk; omega⟩
      have HLS : Hid (∀ x ∈ L, Rc.NumOk x) := Lib.hid HTI.out.1.1
      have HNB : Hid (L.length ≤ i ∧ n ≤ 1 + 5 * i) := Lib.hid HTI.out.2
      clear hgx hx hb4 HF HWT HGD HTI hrun htold hstamp hk0 hkn hnn hn2 g0 g1
      go_upto_block 2 with fail
      go_cut [14] (fun s14 wx => s14 = .int .i64 1 ∧ Hid (FxAt (fun k => K k ∨ k = gx) w wx p gx (aa [120] 1 (some (Fr.frs (L.map Rc.body), k)) 1048576 n' (-1)) X) ∧ Hid (Kept K w4 wx))
      case first =>
        go_wp2_with fail
        go_loopg [14, 15] 9 (fun gg s14 s15 wr => ∃ q r : Nat, q ≤ 8 ∧ 9 - q ≤ gg ∧ s14 = .int .i64 (r : Int) ∧ s15 = .int .i64 (q : Int) ∧ Hid (FxRun (fun k => K k ∨ k = gx) w wr p gx 8 q r (aa [120] 1 (some (Fr.frs (L.map Rc.body), k)) 1048576 n' (-1), X, 1) n 1048576) ∧ Hid (Kept K w4 wr))
        case atStart => exact ⟨0, 0, by omega, by omega, rfl, rfl, HR, Lib.hid (Kept.refl _ _)⟩
        case round =>
          clear HR
          obtain ⟨q, r, hq, hgg2, rfl, rfl, HRq, HKq⟩ := hrel
          obtain ⟨wv, rfl⟩ : ∃ wx : World, wx = wr := ⟨_, rfl⟩
          by_cases hlt : q < 8 ∧ r = 0
          · obtain ⟨hlt, rfl⟩ := hlt
            have hltI : (q : Int) < 8 := by omega
            have wq : IntKind.i64.wrap ((q : Int) + 1) = ((q + 1 : Nat) : Int) := by rw [IntWalk.i64_in _ (by omega)]; omega
            have C := Lib.hid (fxrun_any HRq.out hlt (by omega) (by have := HNB.out; omega) (by omega) (.inr rfl) HGX.out.1)
            go_wp2_with fail
            refine C.out.mono ?_
            rintro e w5 ⟨qv, rfl, h5, k5⟩
            have H5 := Lib.hid h5
            have HK5 := Lib.hid (HKq.out.trans (k5.less fun k hk => ⟨.inl hk, HGX.out.2 k hk⟩))
            clear h5 k5 C HRq HKq
            go_wp2_with fail
            go_roundg (9 - (q + 1))
            case rel => exact ⟨q + 1, qv, by omega, Nat.le_refl _, rfl, rfl, H5, HK5⟩
            case measure => omega
          · have hor : ¬ ((q : Int) < 8) ∨ ((q : Int) < 8 ∧ ((r : Int) == 0) = false) := by
              by_cases h : q < 8
              · exact .inr ⟨by omega, lg_ne fun e => hlt ⟨h, e⟩⟩
              · exact .inl (by omega)
            obtain ⟨rfl, hX⟩ := HRq.out.done rfl (by omega) (by omega)
            have H := Lib.hid hX
            clear hX hlt HRq
            rcases hor with h1 | ⟨h1, h2⟩
            all_goals
              go_wp2
              go_meet
              exact ⟨rfl, H, HKq⟩
      case rest =>
        obtain ⟨rfl, HXA, HKB⟩ := hcut
        clear HR
        obtain ⟨wb, rfl⟩ : ∃ wx : World, wx = wc := ⟨_, rfl⟩
        have HFb : Hid (Fk K w wb p (aa [120] 1 (some (Fr.frs (L.map Rc.body), k)) 1048576 n' (-1))) := Lib.hid (HXA.out.fk.less K fun _ => .inl)
        have HWb := Lib.hid (HW4.out.kept HKB.out)
        have HGb := Lib.hid (HKB.out.blk HKG.out HG4.out)
        have htr : trV X = .tuple #[guardV tr (k : Int), .bool true] := by unfold trV; rw [if_pos HXT.out.1, HXT.out.2.1]
        obtain ⟨v6, x6, -, -, -⟩ := HXA.out
        have C6 := fxtold_any X v6 gx wb x6
        rw [htr] at C6
        have HC6 := Lib.hid C6
        clear C6 htr x6 HXA HKB HW4 HG4
        go_wp2_with fail
        refine HC6.out.mono ?_
        rintro e w6 ⟨rfl, hb6⟩
        have HF6 := Lib.hid (HFb.out.under hb6)
        have HW6 := Lib.hid (HWb.out.under hb6)
        have HG6 := Lib.hid (HGb.out.under hb6)
        clear hb6 HC6 HFb HWb HGb
        go_upto_region 19 with fail
        obtain ⟨w8, t, K8, hw8, ht8, h8, kt8, kk8, b8, bb8, bt⟩ := HF6.out.box 30 #[.string (str tr), .int .i64 (k : Int)]
        rw [hw8, ht8]
        have HF8 := Lib.hid h8
        have HW8 := Lib.hid ((HW6.out.under bb8).more kk8)
        have HG8 := Lib.hid (HG6.out.under bb8)
        have HT8 := Lib.hid b8
        have HK8 : Hid (K8 g ∧ K8 t) := Lib.hid ⟨kk8 _ HKG.out, kt8⟩
        clear hw8 ht8 h8 kt8 kk8 b8 bb8 HF6 HW6 HG6 bt
        obtain ⟨z, hz⟩ : ∃ z, l.getD i 0 = z := ⟨_, rfl⟩
        obtain ⟨b, off, rfl, kx0⟩ := HL.out.at HI.out.1
        rw [hz] at kx0
        have HKX : Hid (∀ W, Below w.heap.size w W → W.cell? ⟨b, off + i, none⟩ = some (.int .i64 z)) := Lib.hid fun W hb => cell_later hb kx0
        obtain ⟨d, hd⟩ : ∃ d, Rc.num z = d := ⟨_, rfl⟩
        have HDK : Hid (Rc.NumOk d) := Lib.hid (by rw [← hd]; exact Rc.num_ok z)
        have HC1 : Hid (∀ W, Calls Try.prog 12 #[.int .i64 z] W (NumIs d W)) := Lib.hid fun W => rnum_any' z d W hd
        clear hz hd kx0
        by_cases hoi : other = true ∧ i = 3
        · as_aux_lemma =>
            obtain ⟨rfl, hi3⟩ := hoi
            have hi3I : ((i : Int) == 3) = true := by rw [hi3]; rfl
            clear hi3
            go_wp2_with fail
            refine (fk_put lgL [111, 116, 104, 101, 114] _ (HF8.out.alloc _) nice_lgL (bytes_new w8 _ rfl [111, 116, 104, 101, 114] _ _ (by decide) (by decide)) (by have := HXT.out; have := HNB.out; show n' ≤ _; omega) (Nat.le_trans (Nat.add_le_add_right (used_tt (frs_small HLS.out (by have := HNB.out; omega))) 5) (by omega))).mono ?_
            rw [putS_lg (by have := frs_small HLS.out (by have := HNB.out; omega); show ((5 + (Fr.frs (L.map Rc.body)).length : Nat) : Int) ≤ 1048576; omega)]
            rintro e wo ⟨rfl, ho1, ho2⟩
            have HFo := Lib.hid ho1
            have HWo := Lib.hid ((HW8.out.under ((Below.refl _ _).alloc (Nat.le_refl _) _)).kept ho2)
            have HGo := Lib.hid (ho2.blk HK8.out.1 (HG8.out.alloc _))
            have HTo := Lib.hid (ho2.blk HK8.out.2 (HT8.out.alloc _))
            clear ho1 ho2 HF8 HW8 HG8 HT8
            have HST : Hid (∀ W, Below wo.heap.size wo W → W.cell? ⟨b, off + i, none⟩ = some (.int .i64 z) ∧ W.cell? ⟨g, 0, none⟩ = some (.string (str lgL)) ∧ W.cell? ⟨g, 1, none⟩ = some (.int .i64 1) ∧ W.cell? ⟨t, 0, none⟩ = some (.string (str tr)) ∧ W.cell? ⟨t, 1, none⟩ = some (.int .i64 (k : Int))) := Lib.hid fun W hb => ⟨HKX.out W (HFo.out.fs.below.trans (hb.mono HFo.out.fs.below.size)), (HGo.out.under hb).at 0, (HGo.out.under hb).at 1, (HTo.out.under hb).at 0, (HTo.out.under hb).at 1⟩
            obtain ⟨UW, hUW⟩ : ∃ P : World → Prop, (fun W => Hid (Fk K8 w W p (aa [111, 116, 104, 101, 114] (n' + 1) (some (Fr.frs (L.map Rc.body), k)) 1048576 (n' + 1) (-1))) ∧ Hid (WantIs K8 W w.heap.size u11 L) ∧ Hid (Blk W g 30 #[.string (str lgL), .int .i64 1]) ∧ Hid (Blk W t 30 #[.string (str tr), .int .i64 (k : Int)])) = P := ⟨_, rfl⟩
            have HSX : Hid (∀ W, UW W → W.cell? ⟨b, off + i, none⟩ = some (.int .i64 z) ∧ W.cell? ⟨g, 0, none⟩ = some (.string (str lgL)) ∧ W.cell? ⟨g, 1, none⟩ = some (.int .i64 1) ∧ W.cell? ⟨t, 0, none⟩ = some (.string (str tr)) ∧ W.cell? ⟨t, 1, none⟩ = some (.int .i64 (k : Int))) := Lib.hid fun W h => by
              rw [← hUW] at h
              exact ⟨HKX.out W h.1.out.fs.below, h.2.2.1.out.at 0, h.2.2.1.out.at 1, h.2.2.2.out.at 0, h.2.2.2.out.at 1⟩
            have CT : Hid (∀ (W : World) (A9 : Option Addr) (np c9 : Nat) (vg : Value), Below wo.heap.size wo W → Bytes W (.slice A9 np c9) d.2.1 → RdG W vg [(lgL, 1), (tr, (k : Int))] → Calls Try.prog 11 #[.pointer (some ⟨p, 0, none⟩), doneV (str d.1) (d.2.2.1 : Int) (d.2.2.2 : Int) (.slice A9 np c9), vg] W fun e w' => e = .returned (.tuple #[.int .i64 (((0 : Nat) : Int)), .int .i64 5]) ∧ UW w') := Lib.hid fun W A9 np c9 vg hb hx hg => by
              have C := lgtell_any d.1 d.2.1 (d.2.2.1 : Int) (d.2.2.2 : Int) [(lgL, 1), (tr, (k : Int))] (.slice A9 np c9) vg (HFo.out.under hb) hx (Rc.numOk_lt HDK.out) (by have := (Rc.ok_length HDK.out.1).2; omega) (by have := HDK.out.2.1; omega) hg lg_nices (by have := HXT.out; have := HNB.out; show n' + 1 ≤ _; omega) (by rw [used_aa]; have := frs_small HLS.out (by have := HNB.out; omega); show 5 + (Fr.frs (L.map Rc.body)).length + 5000 ≤ _; omega)
              rw [tell_lost HDK.out (by have := HXT.out; omega)] at C
              refine C.mono ?_
              rintro e w' ⟨he, h1, h2⟩
              rw [← hUW]
              exact ⟨he, Lib.hid h1, Lib.hid ((HWo.out.under hb).kept h2), Lib.hid (h2.blk HK8.out.1 (HGo.out.under hb)), Lib.hid (h2.blk HK8.out.2 (HTo.out.under hb))⟩
            have HUW : Hid (∀ W, UW W → Hid (Fk K8 w W p (aa [111, 116, 104, 101, 114] (n' + 1) (some (Fr.frs (L.map Rc.body), k)) 1048576 (n' + 1) (-1))) ∧ Hid (WantIs K8 W w.heap.size u11 L) ∧ Hid (Blk W g 30 #[.string (str lgL), .int .i64 1]) ∧ Hid (Blk W t 30 #[.string (str tr), .int .i64 (k : Int)])) := Lib.hid fun W h => by rw [← hUW] at h; exact h
            clear hUW
            go_upto_region 23 with fail
            go_cut [19] (fun s wx => s = .int .i64 5 ∧ UW wx)
            case first =>
              refine wp_region_noPanic ?_
              refine wp_region_held_drew (S := fun W => W.cell? ⟨b, off + i, none⟩ = some (.int .i64 z) ∧ W.cell? ⟨g, 0, none⟩ = some (.string (str lgL)) ∧ W.cell? ⟨g, 1, none⟩ = some (.int .i64 1) ∧ W.cell? ⟨t, 0, none⟩ = some (.string (str tr)) ∧ W.cell? ⟨t, 1, none⟩ = some (.int .i64 (k : Int))) (by kernel_rfl) (HST.out _ (Below.refl _ _).drew) (fun hHeld => ?_)
              refine takeW 0 (some 93) (oi := ?oT1) (v := ?vT1) ?hiT1 ?hdT1 (by kernel_rfl) (by kernel_rfl) (by kernel_rfl) (fun _ _ _ h => h) ?hwT1 ?hyT1 hHeld ?_
              case hiT1 => (simp only [List.getElem?_toArray, List.getElem?_cons_zero]; with_reducible rfl)
              case hdT1 => rfl
              case hwT1 => rfl
              case hyT1 => (intro w hSw; (try dsimp only at hSw); go_simp; first | done | with_reducible rfl)
              try simp only [Act.put]
              try simp only [List.setIfInBounds_toArray, List.set_cons_zero, List.set_cons_succ]
              refine takeW 1 (some 94) (oi := ?oT2) (v := ?vT2) ?hiT2 ?hdT2 (by kernel_rfl) (by kernel_rfl) (by kernel_rfl) (fun _ _ _ h => h) ?hwT2 ?hyT2 hHeld ?_
              case hiT2 => (simp only [List.getElem?_toArray, List.getElem?_cons_succ, List.getElem?_cons_zero]; with_reducible rfl)
              case hdT2 => rfl
              case hwT2 => rfl
              case hyT2 => (intro w hSw; (try dsimp only at hSw); go_simp; first | done | with_reducible rfl)
              try simp only [Act.put]
              try simp only [List.setIfInBounds_toArray, List.set_cons_zero, List.set_cons_succ]
              refine takeW 2 (some 95) (oi := ?oT3) (v := ?vT3) ?hiT3 ?hdT3 (by kernel_rfl) (by kernel_rfl) (by kernel_rfl) (fun _ _ _ h => h) ?hwT3 ?hyT3 hHeld ?_
              case hiT3 => (simp only [List.getElem?_toArray, List.getElem?_cons_succ, List.getElem?_cons_zero]; with_reducible rfl)
              case hdT3 => rfl
              case hwT3 => rfl
              case hyT3 => (intro w hSw; (try dsimp only at hSw); go_simp; first | done | with_reducible rfl)
              try simp only [Act.put]
              try simp only [List.setIfInBounds_toArray, List.set_cons_zero, List.set_cons_succ]
              refine takeW 3 (some 96) (oi := ?oT4) (v := ?vT4) ?hiT4 ?hdT4 (by kernel_rfl) (by kernel_rfl) (by kernel_rfl) (fun _ _ _ h => h) ?hwT4 ?hyT4 hHeld ?_
              case hiT4 => (simp only [List.getElem?_toArray, List.getElem?_cons_succ, List.getElem?_cons_zero]; with_reducible rfl)
              case hdT4 => rfl
              case hwT4 => rfl
              case hyT4 => (intro w hSw; (try dsimp only at hSw); go_simp; first | done | with_reducible rfl)
              try simp only [Act.put]
              try simp only [List.setIfInBounds_toArray, List.set_cons_zero, List.set_cons_succ]
              refine takeW 4 (some 97) (oi := ?oT5) (v := ?vT5) ?hiT5 ?hdT5 (by kernel_rfl) (by kernel_rfl) (by kernel_rfl) (fun _ _ _ h => h) ?hwT5 ?hyT5 hHeld ?_
              case hiT5 => (simp only [List.getElem?_toArray, List.getElem?_cons_succ, List.getElem?_cons_zero]; with_reducible rfl)
              case hdT5 => rfl
              case hwT5 => rfl
              case hyT5 => (intro w hSw; (try dsimp only at hSw); go_simp; first | done | with_reducible rfl)
              try simp only [Act.put]
              try simp only [List.setIfInBounds_toArray, List.set_cons_zero, List.set_cons_succ]
              refine takeW 6 (some 99) (oi := ?oT6) (v := ?vT6) ?hiT6 ?hdT6 (by kernel_rfl) (by kernel_rfl) (by kernel_rfl) (fun _ _ _ h => h) ?hwT6 ?hyT6 hHeld ?_
              case hiT6 => (simp only [List.getElem?_toArray, List.getElem?_cons_succ, List.getElem?_cons_zero]; with_reducible rfl)
              case hdT6 => rfl
              case hwT6 => rfl
              case hyT6 => (intro w hSw; (try dsimp only at hSw); go_simp; first | done | with_reducible rfl)
              try simp only [Act.put]
              try simp only [List.setIfInBounds_toArray, List.set_cons_zero, List.set_cons_succ]
              refine takeW 7 (some 100) (oi := ?oT7) (v := ?vT7) ?hiT7 ?hdT7 (by kernel_rfl) (by kernel_rfl) (by kernel_rfl) (fun _ _ _ h => h) ?hwT7 ?hyT7 hHeld ?_
              case hiT7 => (simp only [List.getElem?_toArray, List.getElem?_cons_succ, List.getElem?_cons_zero]; with_reducible rfl)
              case hdT7 => rfl
              case hwT7 => rfl
              case hyT7 => (intro w hSw; (try dsimp only at hSw); go_simp; first | done | with_reducible rfl)
              try simp only [Act.put]
              try simp only [List.setIfInBounds_toArray, List.set_cons_zero, List.set_cons_succ]
              refine wpAnyH_ready (rs := [5, 8]) (by kernel_rfl) (by simp) ?_
              refine stepOf 5 (o := ?oT8) ?hiT8 ?hwT8 (fun K hK => ?_) ?_
              case hiT8 => (simp only [List.getElem?_toArray, List.getElem?_cons_succ, List.getElem?_cons_zero]; with_reducible rfl)
              case hwT8 => rfl
              · skip
                go_simp
                go_at_call 12
                refine (HC1.out wo.drew).mono ?_
                rintro e w9 ⟨hb9, xv, rfl, ho9⟩
                obtain ⟨_, _, A9, c9, rfl, _, _⟩ := ho9.bytes.parts
                have HB9 : Hid (Below wo.heap.size wo w9) := Lib.hid ((Below.refl wo.heap.size wo).drew.trans (hb9.mono (Below.refl wo.heap.size wo).drew.size))
                have HO9 := Lib.hid ho9.bytes
                clear hb9 ho9
                refine hK.out _ _ ?_ (fun hHeld => ?_)
                · exact HST.out _ HB9.out
                clear hK K
                try simp only [Act.put]
                try simp only [List.setIfInBounds_toArray, List.set_cons_zero, List.set_cons_succ]
                refine stepOne 8 (o := ?oT9) ?hiT9 (by kernel_rfl) ?hwT9 (fun K hK => ?_)
                case hiT9 => (simp only [List.getElem?_toArray, List.getElem?_cons_succ, List.getElem?_cons_zero]; with_reducible rfl)
                case hwT9 => rfl
                go_simp
                refine hK.out _ _ ?_ (fun hHeld => ?_)
                · exact HST.out _ (HB9.out.alloc HB9.out.size _)
                clear hK K
                try simp only [Act.put]
                try simp only [List.setIfInBounds_toArray, List.set_cons_zero, List.set_cons_succ]
                refine stepOne 9 (o := ?oT10) ?hiT10 (by kernel_rfl) ?hwT10 (fun K hK => ?_)
                case hiT10 => (simp only [List.getElem?_toArray, List.getElem?_cons_succ, List.getElem?_cons_zero]; with_reducible rfl)
                case hwT10 => rfl
                go_simp
                go_at_call 11
                refine (CT.out (w9.alloc (.cells #[.string (str lgL), .int .i64 1, .string (str tr), .int .i64 (k : Int)] 30)) _ _ _ _ (HB9.out.alloc HB9.out.size _) (HO9.out.alloc _) (rdG_two' w9 _ rfl lgL tr 1 (k : Int))).mono ?_
                rintro e wt ⟨rfl, HPT⟩
                refine hK.out _ _ ?_ (fun hHeld => ?_)
                · exact HSX.out _ HPT
                clear hK K
                try simp only [Act.put]
                try simp only [List.setIfInBounds_toArray, List.set_cons_zero, List.set_cons_succ]
                refine takeW 10 (some 92) (oi := ?oT11) (v := ?vT11) ?hiT11 ?hdT11 (by kernel_rfl) (by kernel_rfl) (by kernel_rfl) (fun _ _ _ h => h) ?hwT11 ?hyT11 hHeld ?_
                case hiT11 => (simp only [List.getElem?_toArray, List.getElem?_cons_succ, List.getElem?_cons_zero]; with_reducible rfl)
                case hdT11 => rfl
                case hwT11 => rfl
                case hyT11 => (intro w hSw; (try dsimp only at hSw); go_simp; first | done | with_reducible rfl)
                try simp only [Act.put]
                try simp only [List.setIfInBounds_toArray, List.set_cons_zero, List.set_cons_succ]
                refine takeW 11 (some 103) (oi := ?oT12) (v := ?vT12) ?hiT12 ?hdT12 (by kernel_rfl) (by kernel_rfl) (by kernel_rfl) (fun _ _ _ h => h) ?hwT12 ?hyT12 hHeld ?_
                case hiT12 => (simp only [List.getElem?_toArray, List.getElem?_cons_succ, List.getElem?_cons_zero]; with_reducible rfl)
                case hdT12 => rfl
                case hwT12 => rfl
                case hyT12 => (intro w hSw; (try dsimp only at hSw); go_simp; first | done | with_reducible rfl)
                try simp only [Act.put]
                try simp only [List.setIfInBounds_toArray, List.set_cons_zero, List.set_cons_succ]
                refine takeW 12 (some 104) (oi := ?oT13) (v := ?vT13) ?hiT13 ?hdT13 (by kernel_rfl) (by kernel_rfl) (by kernel_rfl) (fun _ _ _ h => h) ?hwT13 ?hyT13 hHeld ?_
                case hiT13 => (simp only [List.getElem?_toArray, List.getElem?_cons_succ, List.getElem?_cons_zero]; with_reducible rfl)
                case hdT13 => rfl
                case hwT13 => rfl
                case hyT13 => (intro w hSw; (try dsimp only at hSw); go_simp; first | done | with_reducible rfl)
                try simp only [Act.put]
                try simp only [List.setIfInBounds_toArray, List.set_cons_zero, List.set_cons_succ]
                refine takeW 13 (some 18) (oi := ?oT14) (v := ?vT14) ?hiT14 ?hdT14 (by kernel_rfl) (by kernel_rfl) (by kernel_rfl) (fun _ _ _ h => h) ?hwT14 ?hyT14 hHeld ?_
                case hiT14 => (simp only [List.getElem?_toArray, List.getElem?_cons_succ, List.getElem?_cons_zero]; with_reducible rfl)
                case hdT14 => rfl
                case hwT14 => rfl
                case hyT14 => (intro w hSw; (try dsimp only at hSw); go_simp; first | done | with_reducible rfl)
                try simp only [Act.put]
                try simp only [List.setIfInBounds_toArray, List.set_cons_zero, List.set_cons_succ]
                refine takeW 14 (some 19) (oi := ?oT15) (v := ?vT15) ?hiT15 ?hdT15 (by kernel_rfl) (by kernel_rfl) (by kernel_rfl) (fun _ _ _ h => h) ?hwT15 ?hyT15 hHeld ?_
                case hiT15 => (simp only [List.getElem?_toArray, List.getElem?_cons_succ, List.getElem?_cons_zero]; with_reducible rfl)
                case hdT15 => rfl
                case hwT15 => rfl
                case hyT15 => (intro w hSw; (try dsimp only at hSw); go_simp; first | done | with_reducible rfl)
                try simp only [Act.put]
                try simp only [List.setIfInBounds_toArray, List.set_cons_zero, List.set_cons_succ]
                refine wpAnyH_done (by kernel_rfl) ?_ _
                refine NoPanic.normal ?_
                go_wp2_with fail
                go_meet
                exact ⟨rfl, HPT⟩
              refine stepOf 8 (o := ?oT16) ?hiT16 ?hwT16 (fun K hK => ?_) AllReadyH.nil
              case hiT16 => (simp only [List.getElem?_toArray, List.getElem?_cons_succ, List.getElem?_cons_zero]; with_reducible rfl)
              case hwT16 => rfl
              go_simp
              refine hK.out _ _ ?_ (fun hHeld => ?_)
              · exact HST.out _ ((Below.refl _ _).drew.alloc (Nat.le_refl _) _)
              clear hK K
              try simp only [Act.put]
              try simp only [List.setIfInBounds_toArray, List.set_cons_zero, List.set_cons_succ]
              refine stepOne 5 (o := ?oT17) ?hiT17 (by kernel_rfl) ?hwT17 (fun K hK => ?_)
              case hiT17 => (simp only [List.getElem?_toArray, List.getElem?_cons_succ, List.getElem?_cons_zero]; with_reducible rfl)
              case hwT17 => rfl
              go_simp
              go_at_call 12
              refine (HC1.out (wo.drew.alloc (.cells #[.string (str lgL), .int .i64 1, .string (str tr), .int .i64 (k : Int)] 30))).mono ?_
              rintro e w9 ⟨hb9, xv, rfl, ho9⟩
              obtain ⟨_, _, A9, c9, rfl, _, _⟩ := ho9.bytes.parts
              have HB9 : Hid (Below wo.heap.size wo w9) := Lib.hid (((Below.refl wo.heap.size wo).drew.alloc (Nat.le_refl _) _).trans (hb9.mono ((Below.refl wo.heap.size wo).drew.alloc (Nat.le_refl _) _).size))
              have HO9 := Lib.hid ho9.bytes
              have HRG : Hid (RdG w9 (.slice (some ⟨wo.heap.size, 0, none⟩) 2 2) [(lgL, 1), (tr, (k : Int))]) := Lib.hid ((rdG_two' wo.drew _ rfl lgL tr 1 (k : Int)).under hb9)
              clear hb9 ho9
              refine hK.out _ _ ?_ (fun hHeld => ?_)
              · exact HST.out _ HB9.out
              clear hK K
              try simp only [Act.put]
              try simp only [List.setIfInBounds_toArray, List.set_cons_zero, List.set_cons_succ]
              refine stepOne 9 (o := ?oT18) ?hiT18 (by kernel_rfl) ?hwT18 (fun K hK => ?_)
              case hiT18 => (simp only [List.getElem?_toArray, List.getElem?_cons_succ, List.getElem?_cons_zero]; with_reducible rfl)
              case hwT18 => rfl
              go_simp
              go_at_call 11
              refine (CT.out w9 _ _ _ _ HB9.out HO9.out HRG.out).mono ?_
              rintro e wt ⟨rfl, HPT⟩
              refine hK.out _ _ ?_ (fun hHeld => ?_)
              · exact HSX.out _ HPT
              clear hK K
              try simp only [Act.put]
              try simp only [List.setIfInBounds_toArray, List.set_cons_zero, List.set_cons_succ]
              refine takeW 10 (some 92) (oi := ?oT19) (v := ?vT19) ?hiT19 ?hdT19 (by kernel_rfl) (by kernel_rfl) (by kernel_rfl) (fun _ _ _ h => h) ?hwT19 ?hyT19 hHeld ?_
              case hiT19 => (simp only [List.getElem?_toArray, List.getElem?_cons_succ, List.getElem?_cons_zero]; with_reducible rfl)
              case hdT19 => rfl
              case hwT19 => rfl
              case hyT19 => (intro w hSw; (try dsimp only at hSw); go_simp; first | done | with_reducible rfl)
              try simp only [Act.put]
              try simp only [List.setIfInBounds_toArray, List.set_cons_zero, List.set_cons_succ]
              refine takeW 11 (some 103) (oi := ?oT20) (v := ?vT20) ?hiT20 ?hdT20 (by kernel_rfl) (by kernel_rfl) (by kernel_rfl) (fun _ _ _ h => h) ?hwT20 ?hyT20 hHeld ?_
              case hiT20 => (simp only [List.getElem?_toArray, List.getElem?_cons_succ, List.getElem?_cons_zero]; with_reducible rfl)
              case hdT20 => rfl
              case hwT20 => rfl
              case hyT20 => (intro w hSw; (try dsimp only at hSw); go_simp; first | done | with_reducible rfl)
              try simp only [Act.put]
              try simp only [List.setIfInBounds_toArray, List.set_cons_zero, List.set_cons_succ]
              refine takeW 12 (some 104) (oi := ?oT21) (v := ?vT21) ?hiT21 ?hdT21 (by kernel_rfl) (by kernel_rfl) (by kernel_rfl) (fun _ _ _ h => h) ?hwT21 ?hyT21 hHeld ?_
              case hiT21 => (simp only [List.getElem?_toArray, List.getElem?_cons_succ, List.getElem?_cons_zero]; with_reducible rfl)
              case hdT21 => rfl
              case hwT21 => rfl
              case hyT21 => (intro w hSw; (try dsimp only at hSw); go_simp; first | done | with_reducible rfl)
              try simp only [Act.put]
              try simp only [List.setIfInBounds_toArray, List.set_cons_zero, List.set_cons_succ]
              refine takeW 13 (some 18) (oi := ?oT22) (v := ?vT22) ?hiT22 ?hdT22 (by kernel_rfl) (by kernel_rfl) (by kernel_rfl) (fun _ _ _ h => h) ?hwT22 ?hyT22 hHeld ?_
              case hiT22 => (simp only [List.getElem?_toArray, List.getElem?_cons_succ, List.getElem?_cons_zero]; with_reducible rfl)
              case hdT22 => rfl
              case hwT22 => rfl
              case hyT22 => (intro w hSw; (try dsimp only at hSw); go_simp; first | done | with_reducible rfl)
              try simp only [Act.put]
              try simp only [List.setIfInBounds_toArray, List.set_cons_zero, List.set_cons_succ]
              refine takeW 14 (some 19) (oi := ?oT23) (v := ?vT23) ?hiT23 ?hdT23 (by kernel_rfl) (by kernel_rfl) (by kernel_rfl) (fun _ _ _ h => h) ?hwT23 ?hyT23 hHeld ?_
              case hiT23 => (simp only [List.getElem?_toArray, List.getElem?_cons_succ, List.getElem?_cons_zero]; with_reducible rfl)
              case hdT23 => rfl
              case hwT23 => rfl
              case hyT23 => (intro w hSw; (try dsimp only at hSw); go_simp; first | done | with_reducible rfl)
              try simp only [Act.put]
              try simp only [List.setIfInBounds_toArray, List.set_cons_zero, List.set_cons_succ]
              refine wpAnyH_done (by kernel_rfl) ?_ _
              refine NoPanic.normal ?_
              go_wp2_with fail
              go_meet
              exact ⟨rfl, HPT⟩
            case rest =>
              obtain ⟨rfl, hcu⟩ := hcut
              obtain ⟨wt, rfl⟩ : ∃ wx : World, wx = wc := ⟨_, rfl⟩
              obtain ⟨HFt, HWt, HGt, HTt⟩ := HUW.out _ hcu
              clear hcu CT HSX HST HUW HFo HWo HGo HTo
              have HLD : Hid (ld (Fr.frs (L.map Rc.body)) = L) := Lib.hid (ld_all HLS.out).1
              have HNK := HLS
              have HLN : Hid (L.length ≤ 100) := Lib.hid (by have := HNB.out; omega)
              go_wp2_with fail
              refine (fs_read tr w wt p _ HFt.out.fs nice_tr (by rw [used_aa]; have := frs_small HLS.out (by have := HNB.out; omega); show 5 + (Fr.frs (L.map Rc.body)).length ≤ _; omega)).mono ?_
              rw [read_some]
              rintro e wr1 ⟨vr1, rfl, hor1, hbr1⟩
              have HFr := Lib.hid (HFt.out.under hbr1)
              have HWr := Lib.hid (HWt.out.under hbr1)
              have HOr := Lib.hid hor1.bytes
              clear hor1 hbr1
              go_wp2_with fail
              refine (reftrace_any _ (Fr.frs (L.map Rc.body)) _ _ wr1 HOr.out (cnt_scn _) (by have := frs_small HLS.out (by have := HNB.out; omega); omega) rfl).mono ?_
              rintro e wr2 ⟨hbr2, ur2, rfl, hor2⟩
              have hldr : Rc.lead (Fr.rows (Fr.frs (L.map Rc.body)) (cnt (Fr.frs (L.map Rc.body)))) = L := HLD.out
              rw [hldr] at hor2
              have HRr := Lib.hid hor2.rd
              have HFs := Lib.hid (HFr.out.under hbr2)
              have HWs := Lib.hid (HWr.out.under hbr2)
              clear hbr2 hor2 hldr HFr HWr HOr
              go_wp2_with fail
              refine (sameDs_any _ _ _ _ wr2 HRr.out HWs.out.rd (fun d hd => Rc.numOk_lt (HNK.out d hd)) (fun d hd => Rc.numOk_lt (HNK.out d hd)) (by have := HLN.out; omega) (by have := HLN.out; omega) true (by simp)).mono ?_
              rintro e wr3 ⟨rfl, hbr3⟩
              have HE3 := Lib.hid (HFs.out.under hbr3).fs.below
              clear hbr3 HFs HWs HRr
              go_wp2_with fail
              refine (lgawake_any wr3).mono ?_
              rintro e wr4 ⟨rfl, hbr4⟩
              have HE := Lib.hid (HE3.out.trans (hbr4.mono HE3.out.size))
              clear hbr4 HE3
              go_wp2
              go_ret
              exact ⟨rfl, HE.out⟩
        · have hoo : other = false ∨ (other = true ∧ ((i : Int) == 3) = false) := by
            cases other
            · exact .inl rfl
            · exact .inr ⟨rfl, lg_ne (m := 3) fun e => hoi ⟨rfl, e⟩⟩
          clear hoi
          go_upto_region 21 with fail
          go_cut [87] (fun s87 wx => s87 = .bool false ∧ wx = w8)
          case first =>
            rcases hoo with rfl | ⟨rfl, hi3⟩
            all_goals
              go_wp2
              go_meet
              exact ⟨rfl, rfl⟩
          case rest =>
            obtain ⟨rfl, hw8⟩ := hcut
            obtain rfl : w8 = wc := hw8.symm
            clear hoo
            as_aux_lemma =>
              have HST : Hid (∀ W, Below w8.heap.size w8 W → W.cell? ⟨b, off + i, none⟩ = some (.int .i64 z) ∧ W.cell? ⟨g, 0, none⟩ = some (.string (str lgL)) ∧ W.cell? ⟨g, 1, none⟩ = some (.int .i64 1) ∧ W.cell? ⟨t, 0, none⟩ = some (.string (str tr)) ∧ W.cell? ⟨t, 1, none⟩ = some (.int .i64 (k : Int))) := Lib.hid fun W hb => ⟨HKX.out W (HF8.out.fs.below.trans (hb.mono HF8.out.fs.below.size)), (HG8.out.under hb).at 0, (HG8.out.under hb).at 1, (HT8.out.under hb).at 0, (HT8.out.under hb).at 1⟩
              obtain ⟨UW, hUW⟩ : ∃ P : World → Prop, (fun W => Hid (Fk K8 w W p (aa [120] 1 (some (Fr.frs ((L ++ [d]).map Rc.body), n' + 1)) 1048576 (n' + 1) (-1))) ∧ Hid (WantIs K8 W w.heap.size u11 L) ∧ Hid (Blk W g 30 #[.string (str lgL), .int .i64 1]) ∧ Hid (Blk W t 30 #[.string (str tr), .int .i64 (k : Int)])) = P := ⟨_, rfl⟩
              have HSX : Hid (∀ W, UW W → W.cell? ⟨b, off + i, none⟩ = some (.int .i64 z) ∧ W.cell? ⟨g, 0, none⟩ = some (.string (str lgL)) ∧ W.cell? ⟨g, 1, none⟩ = some (.int .i64 1) ∧ W.cell? ⟨t, 0, none⟩ = some (.string (str tr)) ∧ W.cell? ⟨t, 1, none⟩ = some (.int .i64 (k : Int))) := Lib.hid fun W h => by
                rw [← hUW] at h
                exact ⟨HKX.out W h.1.out.fs.below, h.2.2.1.out.at 0, h.2.2.1.out.at 1, h.2.2.2.out.at 0, h.2.2.2.out.at 1⟩
              have CT : Hid (∀ (W : World) (A9 : Option Addr) (np c9 : Nat) (vg : Value), Below w8.heap.size w8 W → Bytes W (.slice A9 np c9) d.2.1 → RdG W vg [(lgL, 1), (tr, (k : Int))] → Calls Try.prog 11 #[.pointer (some ⟨p, 0, none⟩), doneV (str d.1) (d.2.2.1 : Int) (d.2.2.2 : Int) (.slice A9 np c9), vg] W fun e w' => e = .returned (.tuple #[.int .i64 (((n' + 1 : Nat) : Int)), .int .i64 0]) ∧ UW w') := Lib.hid fun W A9 np c9 vg hb hx hg => by
                have C := lgtell_any d.1 d.2.1 (d.2.2.1 : Int) (d.2.2.2 : Int) [(lgL, 1), (tr, (k : Int))] (.slice A9 np c9) vg (HF8.out.under hb) hx (Rc.numOk_lt HDK.out) (by have := (Rc.ok_length HDK.out.1).2; omega) (by have := HDK.out.2.1; omega) hg lg_nices (by have := HXT.out; have := HNB.out; show n' ≤ _; omega) (Nat.le_trans (Nat.add_le_add_right (used_tt (frs_small HLS.out (by have := HNB.out; omega))) 5000) (by omega))
                rw [tell_ok HLS.out (by have := HNB.out; omega) HDK.out] at C
                refine C.mono ?_
                rintro e w' ⟨he, h1, h2⟩
                rw [← hUW]
                exact ⟨he, Lib.hid h1, Lib.hid ((HW8.out.under hb).kept h2), Lib.hid (h2.blk HK8.out.1 (HG8.out.under hb)), Lib.hid (h2.blk HK8.out.2 (HT8.out.under hb))⟩
              have HUW : Hid (∀ W, UW W → Hid (Fk K8 w W p (aa [120] 1 (some (Fr.frs ((L ++ [d]).map Rc.body), n' + 1)) 1048576 (n' + 1) (-1))) ∧ Hid (WantIs K8 W w.heap.size u11 L) ∧ Hid (Blk W g 30 #[.string (str lgL), .int .i64 1]) ∧ Hid (Blk W t 30 #[.string (str tr), .int .i64 (k : Int)])) := Lib.hid fun W h => by rw [← hUW] at h; exact h
              clear hUW
              go_upto_region 27 with fail
              go_cut [26] (fun s wx => s = .int .i64 0 ∧ UW wx)
              case first =>
                refine wp_region_noPanic ?_
                refine wp_region_held_drew (S := fun W => W.cell? ⟨b, off + i, none⟩ = some (.int .i64 z) ∧ W.cell? ⟨g, 0, none⟩ = some (.string (str lgL)) ∧ W.cell? ⟨g, 1, none⟩ = some (.int .i64 1) ∧ W.cell? ⟨t, 0, none⟩ = some (.string (str tr)) ∧ W.cell? ⟨t, 1, none⟩ = some (.int .i64 (k : Int))) (by kernel_rfl) (HST.out _ (Below.refl _ _).drew) (fun hHeld => ?_)
                refine takeW 0 (some 127) (oi := ?oT24) (v := ?vT24) ?hiT24 ?hdT24 (by kernel_rfl) (by kernel_rfl) (by kernel_rfl) (fun _ _ _ h => h) ?hwT24 ?hyT24 hHeld ?_
                case hiT24 => (simp only [List.getElem?_toArray, List.getElem?_cons_zero]; with_reducible rfl)
                case hdT24 => rfl
                case hwT24 => rfl
                case hyT24 => (intro w hSw; (try dsimp only at hSw); go_simp; first | done | with_reducible rfl)
                try simp only [Act.put]
                try simp only [List.setIfInBounds_toArray, List.set_cons_zero, List.set_cons_succ]
                refine takeW 1 (some 128) (oi := ?oT25) (v := ?vT25) ?hiT25 ?hdT25 (by kernel_rfl) (by kernel_rfl) (by kernel_rfl) (fun _ _ _ h => h) ?hwT25 ?hyT25 hHeld ?_
                case hiT25 => (simp only [List.getElem?_toArray, List.getElem?_cons_succ, List.getElem?_cons_zero]; with_reducible rfl)
                case hdT25 => rfl
                case hwT25 => rfl
                case hyT25 => (intro w hSw; (try dsimp only at hSw); go_simp; first | done | with_reducible rfl)
                try simp only [Act.put]
                try simp only [List.setIfInBounds_toArray, List.set_cons_zero, List.set_cons_succ]
                refine takeW 2 (some 129) (oi := ?oT26) (v := ?vT26) ?hiT26 ?hdT26 (by kernel_rfl) (by kernel_rfl) (by kernel_rfl) (fun _ _ _ h => h) ?hwT26 ?hyT26 hHeld ?_
                case hiT26 => (simp only [List.getElem?_toArray, List.getElem?_cons_succ, List.getElem?_cons_zero]; with_reducible rfl)
                case hdT26 => rfl
                case hwT26 => rfl
                case hyT26 => (intro w hSw; (try dsimp only at hSw); go_simp; first | done | with_reducible rfl)
                try simp only [Act.put]
                try simp only [List.setIfInBounds_toArray, List.set_cons_zero, List.set_cons_succ]
                refine takeW 3 (some 130) (oi := ?oT27) (v := ?vT27) ?hiT27 ?hdT27 (by kernel_rfl) (by kernel_rfl) (by kernel_rfl) (fun _ _ _ h => h) ?hwT27 ?hyT27 hHeld ?_
                case hiT27 => (simp only [List.getElem?_toArray, List.getElem?_cons_succ, List.getElem?_cons_zero]; with_reducible rfl)
                case hdT27 => rfl
                case hwT27 => rfl
                case hyT27 => (intro w hSw; (try dsimp only at hSw); go_simp; first | done | with_reducible rfl)
                try simp only [Act.put]
                try simp only [List.setIfInBounds_toArray, List.set_cons_zero, List.set_cons_succ]
                refine takeW 4 (some 131) (oi := ?oT28) (v := ?vT28) ?hiT28 ?hdT28 (by kernel_rfl) (by kernel_rfl) (by kernel_rfl) (fun _ _ _ h => h) ?hwT28 ?hyT28 hHeld ?_
                case hiT28 => (simp only [List.getElem?_toArray, List.getElem?_cons_succ, List.getElem?_cons_zero]; with_reducible rfl)
                case hdT28 => rfl
                case hwT28 => rfl
                case hyT28 => (intro w hSw; (try dsimp only at hSw); go_simp; first | done | with_reducible rfl)
                try simp only [Act.put]
                try simp only [List.setIfInBounds_toArray, List.set_cons_zero, List.set_cons_succ]
                refine takeW 6 (some 133) (oi := ?oT29) (v := ?vT29) ?hiT29 ?hdT29 (by kernel_rfl) (by kernel_rfl) (by kernel_rfl) (fun _ _ _ h => h) ?hwT29 ?hyT29 hHeld ?_
                case hiT29 => (simp only [List.getElem?_toArray, List.getElem?_cons_succ, List.getElem?_cons_zero]; with_reducible rfl)
                case hdT29 => rfl
                case hwT29 => rfl
                case hyT29 => (intro w hSw; (try dsimp only at hSw); go_simp; first | done | with_reducible rfl)
                try simp only [Act.put]
                try simp only [List.setIfInBounds_toArray, List.set_cons_zero, List.set_cons_succ]
                refine takeW 7 (some 134) (oi := ?oT30) (v := ?vT30) ?hiT30 ?hdT30 (by kernel_rfl) (by kernel_rfl) (by kernel_rfl) (fun _ _ _ h => h) ?hwT30 ?hyT30 hHeld ?_
                case hiT30 => (simp only [List.getElem?_toArray, List.getElem?_cons_succ, List.getElem?_cons_zero]; with_reducible rfl)
                case hdT30 => rfl
                case hwT30 => rfl
                case hyT30 => (intro w hSw; (try dsimp only at hSw); go_simp; first | done | with_reducible rfl)
                try simp only [Act.put]
                try simp only [List.setIfInBounds_toArray, List.set_cons_zero, List.set_cons_succ]
                refine wpAnyH_ready (rs := [5, 8]) (by kernel_rfl) (by simp) ?_
                refine stepOf 5 (o := ?oT31) ?hiT31 ?hwT31 (fun K hK => ?_) ?_
                case hiT31 => (simp only [List.getElem?_toArray, List.getElem?_cons_succ, List.getElem?_cons_zero]; with_reducible rfl)
                case hwT31 => rfl
                · skip
                  go_simp
                  go_at_call 12
                  refine (HC1.out w8.drew).mono ?_
                  rintro e w9 ⟨hb9, xv, rfl, ho9⟩
                  obtain ⟨_, _, A9, c9, rfl, _, _⟩ := ho9.bytes.parts
                  have HB9 : Hid (Below w8.heap.size w8 w9) := Lib.hid ((Below.refl w8.heap.size w8).drew.trans (hb9.mono (Below.refl w8.heap.size w8).drew.size))
                  have HO9 := Lib.hid ho9.bytes
                  clear hb9 ho9
                  refine hK.out _ _ ?_ (fun hHeld => ?_)
                  · exact HST.out _ HB9.out
                  clear hK K
                  try simp only [Act.put]
                  try simp only [List.setIfInBounds_toArray, List.set_cons_zero, List.set_cons_succ]
                  refine stepOne 8 (o := ?oT32) ?hiT32 (by kernel_rfl) ?hwT32 (fun K hK => ?_)
                  case hiT32 => (simp only [List.getElem?_toArray, List.getElem?_cons_succ, List.getElem?_cons_zero]; with_reducible rfl)
                  case hwT32 => rfl
                  go_simp
                  refine hK.out _ _ ?_ (fun hHeld => ?_)
                  · exact HST.out _ (HB9.out.alloc HB9.out.size _)
                  clear hK K
                  try simp only [Act.put]
                  try simp only [List.setIfInBounds_toArray, List.set_cons_zero, List.set_cons_succ]
                  refine stepOne 9 (o := ?oT33) ?hiT33 (by kernel_rfl) ?hwT33 (fun K hK => ?_)
                  case hiT33 => (simp only [List.getElem?_toArray, List.getElem?_cons_succ, List.getElem?_cons_zero]; with_reducible rfl)
                  case hwT33 => rfl
                  go_simp
                  go_at_call 11
                  refine (CT.out (w9.alloc (.cells #[.string (str lgL), .int .i64 1, .string (str tr), .int .i64 (k : Int)] 30)) _ _ _ _ (HB9.out.alloc HB9.out.size _) (HO9.out.alloc _) (rdG_two' w9 _ rfl lgL tr 1 (k : Int))).mono ?_
                  rintro e wt ⟨rfl, HPT⟩
                  refine hK.out _ _ ?_ (fun hHeld => ?_)
                  · exact HSX.out _ HPT
                  clear hK K
                  try simp only [Act.put]
                  try simp only [List.setIfInBounds_toArray, List.set_cons_zero, List.set_cons_succ]
                  refine takeW 10 (some 126) (oi := ?oT34) (v := ?vT34) ?hiT34 ?hdT34 (by kernel_rfl) (by kernel_rfl) (by kernel_rfl) (fun _ _ _ h => h) ?hwT34 ?hyT34 hHeld ?_
                  case hiT34 => (simp only [List.getElem?_toArray, List.getElem?_cons_succ, List.getElem?_cons_zero]; with_reducible rfl)
                  case hdT34 => rfl
                  case hwT34 => rfl
                  case hyT34 => (intro w hSw; (try dsimp only at hSw); go_simp; first | done | with_reducible rfl)
                  try simp only [Act.put]
                  try simp only [List.setIfInBounds_toArray, List.set_cons_zero, List.set_cons_succ]
                  refine takeW 11 (some 137) (oi := ?oT35) (v := ?vT35) ?hiT35 ?hdT35 (by kernel_rfl) (by kernel_rfl) (by kernel_rfl) (fun _ _ _ h => h) ?hwT35 ?hyT35 hHeld ?_
                  case hiT35 => (simp only [List.getElem?_toArray, List.getElem?_cons_succ, List.getElem?_cons_zero]; with_reducible rfl)
                  case hdT35 => rfl
                  case hwT35 => rfl
                  case hyT35 => (intro w hSw; (try dsimp only at hSw); go_simp; first | done | with_reducible rfl)
                  try simp only [Act.put]
                  try simp only [List.setIfInBounds_toArray, List.set_cons_zero, List.set_cons_succ]
                  refine takeW 12 (some 138) (oi := ?oT36) (v := ?vT36) ?hiT36 ?hdT36 (by kernel_rfl) (by kernel_rfl) (by kernel_rfl) (fun _ _ _ h => h) ?hwT36 ?hyT36 hHeld ?_
                  case hiT36 => (simp only [List.getElem?_toArray, List.getElem?_cons_succ, List.getElem?_cons_zero]; with_reducible rfl)
                  case hdT36 => rfl
                  case hwT36 => rfl
                  case hyT36 => (intro w hSw; (try dsimp only at hSw); go_simp; first | done | with_reducible rfl)
                  try simp only [Act.put]
                  try simp only [List.setIfInBounds_toArray, List.set_cons_zero, List.set_cons_succ]
                  refine takeW 13 (some 25) (oi := ?oT37) (v := ?vT37) ?hiT37 ?hdT37 (by kernel_rfl) (by kernel_rfl) (by kernel_rfl) (fun _ _ _ h => h) ?hwT37 ?hyT37 hHeld ?_
                  case hiT37 => (simp only [List.getElem?_toArray, List.getElem?_cons_succ, List.getElem?_cons_zero]; with_reducible rfl)
                  case hdT37 => rfl
                  case hwT37 => rfl
                  case hyT37 => (intro w hSw; (try dsimp only at hSw); go_simp; first | done | with_reducible rfl)
                  try simp only [Act.put]
                  try simp only [List.setIfInBounds_toArray, List.set_cons_zero, List.set_cons_succ]
                  refine takeW 14 (some 26) (oi := ?oT38) (v := ?vT38) ?hiT38 ?hdT38 (by kernel_rfl) (by kernel_rfl) (by kernel_rfl) (fun _ _ _ h => h) ?hwT38 ?hyT38 hHeld ?_
                  case hiT38 => (simp only [List.getElem?_toArray, List.getElem?_cons_succ, List.getElem?_cons_zero]; with_reducible rfl)
                  case hdT38 => rfl
                  case hwT38 => rfl
                  case hyT38 => (intro w hSw; (try dsimp only at hSw); go_simp; first | done | with_reducible rfl)
                  try simp only [Act.put]
                  try simp only [List.setIfInBounds_toArray, List.set_cons_zero, List.set_cons_succ]
                  refine wpAnyH_done (by kernel_rfl) ?_ _
                  refine NoPanic.normal ?_
                  go_wp2_with fail
                  go_meet
                  exact ⟨rfl, HPT⟩
                refine stepOf 8 (o := ?oT39) ?hiT39 ?hwT39 (fun K hK => ?_) AllReadyH.nil
                case hiT39 => (simp only [List.getElem?_toArray, List.getElem?_cons_succ, List.getElem?_cons_zero]; with_reducible rfl)
                case hwT39 => rfl
                go_simp
                refine hK.out _ _ ?_ (fun hHeld => ?_)
                · exact HST.out _ ((Below.refl _ _).drew.alloc (Nat.le_refl _) _)
                clear hK K
                try simp only [Act.put]
                try simp only [List.setIfInBounds_toArray, List.set_cons_zero, List.set_cons_succ]
                refine stepOne 5 (o := ?oT40) ?hiT40 (by kernel_rfl) ?hwT40 (fun K hK => ?_)
                case hiT40 => (simp only [List.getElem?_toArray, List.getElem?_cons_succ, List.getElem?_cons_zero]; with_reducible rfl)
                case hwT40 => rfl
                go_simp
                go_at_call 12
                refine (HC1.out (w8.drew.alloc (.cells #[.string (str lgL), .int .i64 1, .string (str tr), .int .i64 (k : Int)] 30))).mono ?_
                rintro e w9 ⟨hb9, xv, rfl, ho9⟩
                obtain ⟨_, _, A9, c9, rfl, _, _⟩ := ho9.bytes.parts
                have HB9 : Hid (Below w8.heap.size w8 w9) := Lib.hid (((Below.refl w8.heap.size w8).drew.alloc (Nat.le_refl _) _).trans (hb9.mono ((Below.refl w8.heap.size w8).drew.alloc (Nat.le_refl _) _).size))
                have HO9 := Lib.hid ho9.bytes
                have HRG : Hid (RdG w9 (.slice (some ⟨w8.heap.size, 0, none⟩) 2 2) [(lgL, 1), (tr, (k : Int))]) := Lib.hid ((rdG_two' w8.drew _ rfl lgL tr 1 (k : Int)).under hb9)
                clear hb9 ho9
                refine hK.out _ _ ?_ (fun hHeld => ?_)
                · exact HST.out _ HB9.out
                clear hK K
                try simp only [Act.put]
                try simp only [List.setIfInBounds_toArray, List.set_cons_zero, List.set_cons_succ]
                refine stepOne 9 (o := ?oT41) ?hiT41 (by kernel_rfl) ?hwT41 (fun K hK => ?_)
                case hiT41 => (simp only [List.getElem?_toArray, List.getElem?_cons_succ, List.getElem?_cons_zero]; with_reducible rfl)
                case hwT41 => rfl
                go_simp
                go_at_call 11
                refine (CT.out w9 _ _ _ _ HB9.out HO9.out HRG.out).mono ?_
                rintro e wt ⟨rfl, HPT⟩
                refine hK.out _ _ ?_ (fun hHeld => ?_)
                · exact HSX.out _ HPT
                clear hK K
                try simp only [Act.put]
                try simp only [List.setIfInBounds_toArray, List.set_cons_zero, List.set_cons_succ]
                refine takeW 10 (some 126) (oi := ?oT42) (v := ?vT42) ?hiT42 ?hdT42 (by kernel_rfl) (by kernel_rfl) (by kernel_rfl) (fun _ _ _ h => h) ?hwT42 ?hyT42 hHeld ?_
                case hiT42 => (simp only [List.getElem?_toArray, List.getElem?_cons_succ, List.getElem?_cons_zero]; with_reducible rfl)
                case hdT42 => rfl
                case hwT42 => rfl
                case hyT42 => (intro w hSw; (try dsimp only at hSw); go_simp; first | done | with_reducible rfl)
                try simp only [Act.put]
                try simp only [List.setIfInBounds_toArray, List.set_cons_zero, List.set_cons_succ]
                refine takeW 11 (some 137) (oi := ?oT43) (v := ?vT43) ?hiT43 ?hdT43 (by kernel_rfl) (by kernel_rfl) (by kernel_rfl) (fun _ _ _ h => h) ?hwT43 ?hyT43 hHeld ?_
                case hiT43 => (simp only [List.getElem?_toArray, List.getElem?_cons_succ, List.getElem?_cons_zero]; with_reducible rfl)
                case hdT43 => rfl
                case hwT43 => rfl
                case hyT43 => (intro w hSw; (try dsimp only at hSw); go_simp; first | done | with_reducible rfl)
                try simp only [Act.put]
                try simp only [List.setIfInBounds_toArray, List.set_cons_zero, List.set_cons_succ]
                refine takeW 12 (some 138) (oi := ?oT44) (v := ?vT44) ?hiT44 ?hdT44 (by kernel_rfl) (by kernel_rfl) (by kernel_rfl) (fun _ _ _ h => h) ?hwT44 ?hyT44 hHeld ?_
                case hiT44 => (simp only [List.getElem?_toArray, List.getElem?_cons_succ, List.getElem?_cons_zero]; with_reducible rfl)
                case hdT44 => rfl
                case hwT44 => rfl
                case hyT44 => (intro w hSw; (try dsimp only at hSw); go_simp; first | done | with_reducible rfl)
                try simp only [Act.put]
                try simp only [List.setIfInBounds_toArray, List.set_cons_zero, List.set_cons_succ]
                refine takeW 13 (some 25) (oi := ?oT45) (v := ?vT45) ?hiT45 ?hdT45 (by kernel_rfl) (by kernel_rfl) (by kernel_rfl) (fun _ _ _ h => h) ?hwT45 ?hyT45 hHeld ?_
                case hiT45 => (simp only [List.getElem?_toArray, List.getElem?_cons_succ, List.getElem?_cons_zero]; with_reducible rfl)
                case hdT45 => rfl
                case hwT45 => rfl
                case hyT45 => (intro w hSw; (try dsimp only at hSw); go_simp; first | done | with_reducible rfl)
                try simp only [Act.put]
                try simp only [List.setIfInBounds_toArray, List.set_cons_zero, List.set_cons_succ]
                refine takeW 14 (some 26) (oi := ?oT46) (v := ?vT46) ?hiT46 ?hdT46 (by kernel_rfl) (by kernel_rfl) (by kernel_rfl) (fun _ _ _ h => h) ?hwT46 ?hyT46 hHeld ?_
                case hiT46 => (simp only [List.getElem?_toArray, List.getElem?_cons_succ, List.getElem?_cons_zero]; with_reducible rfl)
                case hdT46 => rfl
                case hwT46 => rfl
                case hyT46 => (intro w hSw; (try dsimp only at hSw); go_simp; first | done | with_reducible rfl)
                try simp only [Act.put]
                try simp only [List.setIfInBounds_toArray, List.set_cons_zero, List.set_cons_succ]
                refine wpAnyH_done (by kernel_rfl) ?_ _
                refine NoPanic.normal ?_
                go_wp2_with fail
                go_meet
                exact ⟨rfl, HPT⟩
              case rest =>
                obtain ⟨rfl, hcu⟩ := hcut
                obtain ⟨wt, rfl⟩ : ∃ wx : World, wx = wc := ⟨_, rfl⟩
                obtain ⟨HFt, HWt, HGt, HTt⟩ := HUW.out _ hcu
                clear hcu CT HSX HST HUW HF8 HW8 HG8 HT8
                have wi : IntKind.i64.wrap ((i : Int) + 1) = ((i + 1 : Nat) : Int) := by rw [IntWalk.i64_in _ (by have := HI.out; omega)]; omega
                have kx := HKX.out _ HFt.out.fs.below
                have h1I : (i : Int) < (N : Int) := by have := HI.out; omega
                go_wp2_with fail
                refine (HC1.out wt).mono ?_
                rintro e w9 ⟨hb9, xv, rfl, ho9⟩
                obtain ⟨_, _, A9, c9, rfl, _, _⟩ := ho9.bytes.parts
                obtain ⟨np, hnp⟩ : ∃ n, d.2.1.length = n := ⟨_, rfl⟩
                rw [hnp] at ho9 ⊢
                clear hnp
                obtain ⟨K9, h9, kx9, kk9⟩ := HFt.out.own hb9 ho9
                have HFg := Lib.hid h9
                have HOg := Lib.hid (ho9.more HFt.out.fs.below.size)
                have HWg := Lib.hid ((HWt.out.under hb9).more kk9)
                have HGg := Lib.hid (HGt.out.under hb9)
                have HXd := Lib.hid kx9
                have HKd : Hid (K9 g) := Lib.hid (kk9 _ HK8.out.1)
                clear hb9 ho9 h9 kx9 kk9 HFt HWt HGt HTt kx
                obtain ⟨T, hTm, hTo, hTp, hTk, hTq⟩ := HWg.out
                have HTM := Lib.hid hTm
                have HTO := Lib.hid hTo
                have HTP := Lib.hid hTp
                have HTK := Lib.hid hTk
                have HTQ := Lib.hid hTq
                have hTl : T.length = L.length := by rw [← hTm, List.length_map]
                have HTN : Hid (T.length ≤ 100) := Lib.hid (by have := HNB.out; omega)
                have HRN : Hid (RdN (w9.alloc (.cells #[.string (str d.1), .int .i64 (d.2.2.1 : Int), .int .i64 (d.2.2.2 : Int), .slice A9 np c9] 39)) (.slice (some ⟨w9.heap.size, 0, none⟩) 1 1) [(d, .slice A9 np c9)]) := Lib.hid (rdN_one w9 (d, .slice A9 np c9) (0, 0))
                clear hTm hTo hTp hTk hTq hTl
                go_wp2_with (at_builtin; refine wpList_append_dones rfl _ _ rfl w.heap.size _ _ T [(d, .slice A9 np c9)] rfl (HTO.out.alloc _) rfl HRN.out (fun x hx => by rw [List.mem_singleton.1 hx]; rfl) (by have := HTN.out; rw [List.length_singleton]; omega) ?_ _ rfl ?_)
                case refine_1 => have := HFg.out.fs.below.size; simp; omega
                case refine_2 =>
                  rintro uu wh hgr
                  obtain ⟨Kh, hh1, hh2, hh3, -, hh5⟩ := WantIs.grew (HFg.out.alloc _) HTM.out (HTO.out.alloc _) (fun y hy => (HTP.out y hy).alloc _) HTK.out HTQ.out (HOg.out.alloc _) HXd.out hgr
                  have HFh := Lib.hid hh1
                  have HWh := Lib.hid hh2
                  have HGh := Lib.hid (hh5 _ _ _ (HGg.out.alloc _) (.inl (by decide)))
                  have HKh : Hid (Kh g) := Lib.hid (hh3 _ HKd.out)
                  have HNK : Hid (∀ x ∈ L ++ [d], Rc.NumOk x) := Lib.hid (ok_snoc HLS.out HDK.out)
                  have HTV : Hid (TInv (some (Fr.frs ((L ++ [d]).map Rc.body), n' + 1)) (L ++ [d]) (n' + 1)) := Lib.hid (TInv.told HLS.out HDK.out (by omega) (by omega))
                  have HTL : Hid ((Fr.frs ((L ++ [d]).map Rc.body)).length ≤ 2000) := Lib.hid (frs_small HNK.out (by have := HNB.out; rw [List.length_append, List.length_singleton]; omega))
                  have HT20 : Hid (20 ≤ (Fr.frs ((L ++ [d]).map Rc.body)).length) := Lib.hid (frs_long HNK.out (by simp))
                  have HEND : Hid ((L ++ [d]).length ≤ i + 1 ∧ n' + 1 ≤ 1 + 5 * (i + 1) ∧ n' + 2 ≤ 1 + 5 * (i + 1)) := Lib.hid (by have := HNB.out; have := HXT.out; rw [List.length_append, List.length_singleton]; omega)
                  have HTW : Hid (∀ q, q < 20 → TInv (some (Fr.frs ((L ++ [d]).map Rc.body) ++ (Fr.frs ((L ++ [d]).map Rc.body)).take q, n' + 1 + 1)) (L ++ [d]) (n' + 1 + 1)) := Lib.hid fun q hq => HTV.out.twice (by simp) hq
                  obtain ⟨T2, hT2⟩ : ∃ T2, Fr.frs ((L ++ [d]).map Rc.body) = T2 := ⟨_, rfl⟩
                  obtain ⟨L2, hL2⟩ : ∃ L2, L ++ [d] = L2 := ⟨_, rfl⟩
                  rw [hT2] at HFh HTV HTL HT20 HTW
                  rw [hL2] at HWh HTV HEND HTW
                  clear hgr hh1 hh2 hh3 hh5 HFg HWg HGg HOg HTM HTO HTP HTK HTQ HRN hT2 hL2 HNK
                  by_cases hcu : i < M ∧ bits .and .i64 (l'.getD i 0) 1 = 1
                  · have hMI : (i : Int) < (M : Int) := by omega
                    obtain ⟨z2, hz2⟩ : ∃ z, l'.getD i 0 = z := ⟨_, rfl⟩
                    obtain ⟨b2, off2, rfl, kx2⟩ := HL'.out.at hcu.1
                    rw [hz2] at kx2 hcu
                    have hbit := hcu.2
                    have HKY : Hid (∀ W, Below w.heap.size w W → W.cell? ⟨b2, off2 + i, none⟩ = some (.int .i64 z2)) := Lib.hid fun W hb => cell_later hb kx2
                    have ky := HKY.out _ HFh.out.fs.below
                    obtain ⟨u, eu, hu⟩ := lg_and (z2 / 2) 255 (by omega)
                    have eu2 : bits .and .i64 (z2 / 2) 255 = (u : Int) := eu
                    clear hcu hz2 kx2 eu hu
                    go_wp2_with fail
                    refine (fs_read tr w wh p _ HFh.out.fs nice_tr (Nat.le_trans (used_tt HTL.out) (by omega))).mono ?_
                    rw [read_some]
                    rintro e wr1 ⟨vr1, rfl, hor1, hbr1⟩
                    have HFr := Lib.hid (HFh.out.under hbr1)
                    have HWr := Lib.hid (HWh.out.under hbr1)
                    have HGr := Lib.hid (HGh.out.under hbr1)
                    obtain ⟨_, _, A7, c7, rfl, hc7, _⟩ := hor1.bytes.parts
                    obtain ⟨tl, htl⟩ : ∃ n, T2.length = n := ⟨_, rfl⟩
                    rw [htl] at hor1 hc7 ⊢
                    have HOr := Lib.hid hor1
                    have HBr := Lib.hid hbr1
                    have HTL2 : Hid (T2.length = tl ∧ 20 ≤ tl ∧ tl ≤ 2000) := Lib.hid ⟨htl, by have := HT20.out; omega, by have := HTL.out; omega⟩
                    have htz : ((tl : Int) == 0) = false := lg_ne (show ¬ tl = 0 by have := HTL2.out; omega)
                    have ky := HKY.out _ HFr.out.fs.below
                    have hmin := fun (W : World) ts t => run_low2 (P := Try.prog) W ts t (tl : Int) 20 20 (by have := HTL2.out; omega)
                    obtain ⟨q, hq⟩ : ∃ q, u % 20 = q := ⟨_, rfl⟩
                    have hqm : (u : Int).tmod 20 = (q : Int) := by rw [Int.tmod_eq_emod_of_nonneg (by omega), ← hq]; rfl
                    have HQ : Hid (q < 20) := Lib.hid (by omega)
                    have hqc : (q : Int) ≤ (c7 : Int) := by have := HTL2.out; omega
                    have hqc' : q ≤ c7 := by omega
                    clear hor1 hbr1 htl hq hc7
                    go_wp2_with (at_builtin; refine wpList_append_bytes rfl _ _ rfl wh.heap.size _ _ T2 (T2.take q) rfl HOr.out rfl (HOr.out.bytes.head (by have := HTL2.out; have := HQ.out; omega) hqc') ?_ ?_ (T2 ++ T2.take q) rfl ?_)
                    case refine_1 => have := HTL2.out; rw [List.length_take]; omega
                    case refine_2 => exact HBr.out.size
                    case refine_3 =>
                      rintro v4 w4' ⟨ho4, -, -, hb4⟩
                      have HB4 := Lib.hid (HBr.out.trans hb4)
                      have HO4 := Lib.hid ho4.bytes
                      have HF4 := Lib.hid (HFh.out.under HB4.out)
                      have HW4 := Lib.hid (HWh.out.under HB4.out)
                      have HG4 := Lib.hid (HGh.out.under HB4.out)
                      have htq : (T2.take q).length ≤ q := by rw [List.length_take]; exact Nat.min_le_left _ _
                      have HTK : Hid ((T2 ++ T2.take q).length ≤ 3000) := Lib.hid (by have := HTL2.out; have := HQ.out; rw [List.length_append]; omega)
                      clear htq
                      obtain ⟨T3, hT3⟩ : ∃ T3, T2 ++ T2.take q = T3 := ⟨_, rfl⟩
                      have HTX := Lib.hid (HTW.out q HQ.out)
                      rw [hT3] at HO4 HTK HTX
                      clear ho4 hb4 hT3 HFh HWh HGh HFr HWr HGr HOr HBr ky
                      go_wp2_with fail
                      refine (fk_put tr T3 _ HF4.out nice_tr HO4.out (by have := HXT.out; have := HNB.out; show n' + 1 ≤ _; omega) (Nat.le_trans (Nat.add_le_add (used_tt HTL.out) HTK.out) (by omega))).mono ?_
                      rw [putS_tr (by have := HTK.out; show ((1 + T3.length : Nat) : Int) ≤ 1048576; omega)]
                      rintro e w5 ⟨rfl, h5, k5⟩
                      have HF5 := Lib.hid h5
                      have HW5 := Lib.hid (HW4.out.kept k5)
                      have HG5 := Lib.hid (k5.blk HKh.out HG4.out)
                      clear h5 k5 HF4 HW4 HG4
                      go_wp2_with fail
                      go_roundg (11 - (i + 1))
                      case rel => exact ⟨i + 1, n' + 1 + 1, some (T3, n' + 1 + 1), L2, Kh, by have := HI.out; omega, Nat.le_refl _, rfl, HF5, HW5, Lib.hid ⟨HKh.out, HG5.out⟩, Lib.hid ⟨HTX.out, by have := HEND.out; omega⟩⟩
                      case measure => have := HI.out; omega
                  · have hor : ¬ (i < M) ∨ (i < M ∧ ¬ bits .and .i64 (l'.getD i 0) 1 = 1) := by
                      by_cases h : i < M
                      · exact .inr ⟨h, fun e => hcu ⟨h, e⟩⟩
                      · exact .inl h
                    clear hcu
                    rcases hor with h1 | ⟨h1, h2⟩
                    · have hMI : decide ((i : Int) < (M : Int)) = false := decide_eq_false (by omega)
                      have hMN : decide (i < M) = false := decide_eq_false h1
                      clear h1
                      go_wp2_with fail
                      go_roundg (11 - (i + 1))
                      case rel => exact ⟨i + 1, n' + 1, some (T2, n' + 1), L2, Kh, by have := HI.out; omega, Nat.le_refl _, rfl, HFh, HWh, Lib.hid ⟨HKh.out, HGh.out⟩, Lib.hid ⟨HTV.out, by have := HEND.out; omega⟩⟩
                      case measure => have := HI.out; omega
                    · have hMI : (i : Int) < (M : Int) := by omega
                      obtain ⟨z2, hz2⟩ : ∃ z, l'.getD i 0 = z := ⟨_, rfl⟩
                      obtain ⟨b2, off2, rfl, kx2⟩ := HL'.out.at h1
                      rw [hz2] at kx2 h2
                      have ky := cell_later HFh.out.fs.below kx2
                      have hbit : (bits .and .i64 z2 1 == 1) = false := by simpa using h2
                      clear h1 h2 hz2 kx2
                      go_wp2_with fail
                      go_roundg (11 - (i + 1))
                      case rel => exact ⟨i + 1, n' + 1, some (T2, n' + 1), L2, Kh, by have := HI.out; omega, Nat.le_refl _, rfl, HFh, HWh, Lib.hid ⟨HKh.out, HGh.out⟩, Lib.hid ⟨HTV.out, by have := HEND.out; omega⟩⟩
                      case measure => have := HI.out; omega
    · have hor : ¬ ((i : Int) < (N : Int)) ∨ ((i : Int) < (N : Int) ∧ ¬ ((i : Int) < 10)) := by omega
      have HLD : Hid (ld (lw o) = L) := Lib.hid HTI.out.1.ld
      have HNK : Hid (∀ x ∈ L, Rc.NumOk x) := Lib.hid HTI.out.1.1
      have HLN : Hid (L.length ≤ 100) := Lib.hid (by have := HTI.out; omega)
      have HTL : Hid ((lw o).length ≤ 2000) := Lib.hid (by have := HTI.out.1.len; have := HTI.out; omega)
      obtain ⟨er, hrd⟩ := lgread (b := [120]) (j := 1) (o := o) (r := 1048576) (n := n) (c := -1)
      clear h12 HGD HTI
      rcases hor with h1 | ⟨h1, h2⟩
      all_goals
        go_wp2_with fail
        refine (fs_read tr w wz p _ HF.out.fs nice_tr (by rw [used_aa]; have := HTL.out; show 1 + (lw o).length ≤ _; omega)).mono ?_
        rw [hrd]
        rintro e wr1 ⟨vr1, rfl, hor1, hbr1⟩
        have HFr := Lib.hid (HF.out.under hbr1)
        have HWr := Lib.hid (HWT.out.under hbr1)
        have HOr := Lib.hid hor1.bytes
        clear hor1 hbr1
        go_wp2_with fail
        refine (reftrace_any _ (lw o) _ _ wr1 HOr.out (cnt_scn _) (by have := HTL.out; omega) rfl).mono ?_
        rintro e wr2 ⟨hbr2, ur2, rfl, hor2⟩
        have hldr : Rc.lead (Fr.rows (lw o) (cnt (lw o))) = L := HLD.out
        rw [hldr] at hor2
        have HRr := Lib.hid hor2.rd
        have HFs := Lib.hid (HFr.out.under hbr2)
        have HWs := Lib.hid (HWr.out.under hbr2)
        clear hbr2 hor2 hldr HFr HWr HOr
        go_wp2_with fail
        refine (sameDs_any _ _ _ _ wr2 HRr.out HWs.out.rd (fun d hd => Rc.numOk_lt (HNK.out d hd)) (fun d hd => Rc.numOk_lt (HNK.out d hd)) (by have := HLN.out; omega) (by have := HLN.out; omega) true (by simp)).mono ?_
        rintro e wr3 ⟨rfl, hbr3⟩
        have HE3 := Lib.hid (HFs.out.under hbr3).fs.below
        clear hbr3 HFs HWs HRr
        go_wp2_with fail
        refine (lgawake_any wr3).mono ?_
        rintro e wr4 ⟨rfl, hbr4⟩
        have HE := Lib.hid (HE3.out.trans (hbr4.mono HE3.out.size))
        clear hbr4 HE3
        go_wp2
        go_ret
        exact ⟨rfl, HE.out⟩
end Go.Proofs.Ytfheaognfocofaa
