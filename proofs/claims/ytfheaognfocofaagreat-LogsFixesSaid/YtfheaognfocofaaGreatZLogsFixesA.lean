/- LogsFixes: the statement's walk. -/
import Derived.Test.YtfheaognfocofaaGreatZLogsFixes
namespace Go.Proofs.YtfheaognfocofaaGreat
set_option maxRecDepth 100000
open Go.ChangeShapes Go.WideShapes Go.ChangeAt Go.RowKit Go.ChangeMaps
open Sf Lg

theorem Fk.newer {K : Nat → Prop} {w0 w w1 : World} {p : Nat} {s : S} (h : Fk K w0 w p s) (hb : Below w.heap.size w w1) : Fk (fun k => K k ∨ (w.heap.size ≤ k ∧ k < w1.heap.size)) w0 w1 p s := h.grow hb _ fun _ h => h
theorem WantIs.of_ds {K : Nat → Prop} {w : World} {base : Nat} {v : Value} {R : List Rc.D} (h : OwnDs w base v R) (hK : ∀ k, base ≤ k → k < w.heap.size → K k) : WantIs K w base v R := by
  obtain ⟨T, e, h1, h2⟩ := h
  exact ⟨T, e, h1, h2, fun k hk => hK k (World.ownsRow.lt h1 k hk).1 (World.ownsRow.lt h1 k hk).2, fun y hy k hk => hK k ((h2 y hy).lt k hk).1 ((h2 y hy).lt k hk).2⟩

set_option maxRecDepth 100000 in
set_option maxHeartbeats 16000000 in
theorem lgfixes_any (v vr : Value) (l : List Int) (cut : Int) (raw : List Nat) (there mine : Bool) (w : World) (hl : Ints w v l) (hr : Bytes w vr raw) : Calls Tryz.prog 3 #[v, .int .i64 cut, vr, .bool there, .bool mine] w fun e w' => e = .returned (.bool true) ∧ Below w.heap.size w w' := by
  have kc := fun (w : World) (C : Array Value) (n c : Nat) => Lib.run_convert_bytes_const (P := Tryz.prog) w 23 5 C n c Tryz.underlying23 Tryz.underlying5
  have kl : ({ data := #[108, 111, 99, 107, 47, 108, 111, 103] } : ByteArray) = str lgL := rfl
  have kt : ({ data := #[116, 109, 112, 47, 49, 46, 49, 46, 50] } : ByteArray) = str lgT := rfl
  have kr : ({ data := #[116, 114, 97, 99, 101] } : ByteArray) = str tr := rfl
  have km : ({ data := #[116, 109, 112] } : ByteArray) = str [116, 109, 112] := rfl
  have HL := Lib.hid hl
  have HR := Lib.hid hr
  obtain ⟨_, hlen, A, c, rfl, _, _⟩ := hl
  obtain ⟨_, hlen', A', c', rfl, _, _⟩ := hr.parts
  obtain ⟨N, hN⟩ : ∃ N, l.length = N := ⟨_, rfl⟩
  obtain ⟨M, hM⟩ : ∃ N, raw.length = N := ⟨_, rfl⟩
  rw [hN] at HL ⊢
  rw [hM] at HR ⊢
  have HLN := Lib.hid hN
  have HRM := Lib.hid hM
  obtain ⟨u, eu, hu⟩ := lg_and cut 65535 (by omega)
  have eu2 : bits .and .i64 cut 65535 = (u : Int) := eu
  have HU : Hid (u ≤ 65535) := Lib.hid hu
  clear hlen hlen' hN hM hr eu hu
  go_enter Tryz.func3, Tryz.ntmps3
  by_cases hbig : 200 < M
  · have hbI : (200 : Int) < (M : Int) := by omega
    go_wp2_with fail
    refine (lgawake_any w).mono ?_
    rintro e w3 ⟨rfl, hb3⟩
    have HE := Lib.hid hb3
    clear hb3
    go_wp2
    go_ret
    exact ⟨rfl, HE.out⟩
  · have hbI : decide ((200 : Int) < (M : Int)) = false := decide_eq_false (by omega)
    have hbN : decide (200 < M) = false := decide_eq_false hbig
    have HM : Hid (M ≤ 200) := Lib.hid (by omega)
    clear hbig
    go_wp2_with fail
    refine (fs_new 1048576 w).mono ?_
    rintro e w1 ⟨p, rfl, h1⟩
    have H1 : Hid (Fk (fun _ => False) w w1 p ⟨[], 1048576, 0, -1⟩) := Lib.hid h1.keep
    clear h1 hbI hbN
    obtain ⟨NN, hNN⟩ : ∃ NN, min 10 N = NN := ⟨_, rfl⟩
    have HNN : Hid (NN ≤ 10 ∧ NN ≤ N ∧ (NN = 10 ∨ NN = N)) := Lib.hid (by omega)
    clear hNN
    go_upto_block 0 with fail
    go_cut [12] (fun s12 wx => Hid (Own wx w1.heap.size s12 (nft l NN)) ∧ Hid (Below w1.heap.size w1 wx))
    case first =>
      as_aux_lemma =>
      go_wp2_with fail
      go_loopg [12, 13] 11 (fun gg s12 s13 wr => ∃ k : Nat, k ≤ NN ∧ 11 - k ≤ gg ∧ s13 = .int .i64 (k : Int) ∧ Hid (Own wr w1.heap.size s12 (nft l k)) ∧ Hid (Below w1.heap.size w1 wr))
      case atStart => exact ⟨0, by omega, by omega, rfl, Lib.hid (by rw [nft_zero]; exact own_none _ _), Lib.hid (Below.refl _ _)⟩
      case round =>
        obtain ⟨k, hk, hgg, rfl, HT, HB⟩ := hrel
        obtain ⟨wz, rfl⟩ : ∃ wx : World, wx = wr := ⟨_, rfl⟩
        by_cases hlt : k < NN
        · have h1I : (k : Int) < (N : Int) := by have := HNN.out; omega
          have h2I : (k : Int) < 10 := by have := HNN.out; omega
          have wk : IntKind.i64.wrap ((k : Int) + 1) = ((k + 1 : Nat) : Int) := by rw [IntWalk.i64_in _ (by omega)]; omega
          have hbw : Below w.heap.size w wz := H1.out.fs.below.trans (HB.out.mono H1.out.fs.below.size)
          obtain ⟨b, off, rfl, kx⟩ := (HL.out.under hbw).at (k := k) (by have := HNN.out; have := HLN.out; omega)
          obtain ⟨z, hz⟩ : ∃ z, l.getD k 0 = z := ⟨_, rfl⟩
          rw [hz] at kx
          obtain ⟨d, hd⟩ : ∃ d, Rc.num z = d := ⟨_, rfl⟩
          have HDK : Hid (Rc.NumOk d) := Lib.hid (by rw [← hd]; exact Rc.num_ok _)
          have HNF : Hid (nft l k ++ Fr.frm (Rc.body d) = nft l (k + 1)) := Lib.hid (by rw [← hd, ← hz]; exact nft_next l (by have := HNN.out; have := HLN.out; omega))
          have C1 : Hid (Calls Tryz.prog 8 #[.int .i64 z] wz (NumIs d wz)) := Lib.hid (rnum_any' _ d wz hd)
          clear hd hz hbw
          obtain ⟨_, _, At, ct, rfl, hct, _⟩ := HT.out.bytes.parts
          obtain ⟨nt, hnt⟩ : ∃ n, (nft l k).length = n := ⟨_, rfl⟩
          rw [hnt] at HT ⊢
          have HNT : Hid (nt ≤ 600) := Lib.hid (by have := nft_len l k; have := HNN.out; omega)
          clear hct
          go_wp2_with fail
          refine C1.out.mono ?_
          rintro e w2 ⟨hb2, x2, rfl, ho2⟩
          have HB2 := Lib.hid hb2
          have C2 := Lib.hid (refrdone_is d.1 d.2.1 (d.2.2.1 : Int) (d.2.2.2 : Int) x2 _ w2 ho2.bytes (Rc.numOk_lt HDK.out) (by have := (Rc.ok_length HDK.out.1).2; omega) (by have := HDK.out.2.1; omega) rfl)
          have HBD : Hid ((Rc.body d).length ≤ 50) := Lib.hid (Rc.body_len HDK.out)
          clear hb2 ho2 C1 kx
          go_wp2_with fail
          refine C2.out.mono ?_
          rintro e w3 ⟨v3, rfl, ho3, hb3⟩
          have HB3 := Lib.hid (HB2.out.trans (hb3.mono HB2.out.size))
          have HX3 := Lib.hid ho3.bytes
          clear ho3 hb3 C2
          go_wp2_with fail
          refine (refput_is _ _ (nft l k) (Rc.body d) (nft l (k + 1)) w3 (HT.out.under HB3.out).bytes HX3.out (by have := HNT.out; omega) (by have := HBD.out; omega) HNF.out).mono ?_
          rintro e w4 ⟨v4, rfl, ho4, hb4⟩
          have HB4 := Lib.hid (HB.out.trans ((HB3.out.trans (hb4.mono HB3.out.size)).mono HB.out.size))
          have HT4 := Lib.hid (ho4.more (base' := w1.heap.size) (Nat.le_trans HB.out.size HB3.out.size))
          clear ho4 hb4 HX3 HB HT
          go_wp2_with fail
          go_roundg (11 - (k + 1))
          case rel => exact ⟨k + 1, hlt, Nat.le_refl _, rfl, HT4, HB4⟩
          case measure => have := HNN.out; omega
        · obtain rfl : k = NN := by omega
          have hor : ¬ ((k : Int) < (N : Int)) ∨ ((k : Int) < (N : Int) ∧ ¬ ((k : Int) < 10)) := by have := HNN.out; omega
          rcases hor with h1 | ⟨h1, h2⟩
          all_goals
            go_wp2
            go_meet
            exact ⟨HT, HB⟩
    case rest =>
      obtain ⟨HT, HB⟩ := hcut
      obtain ⟨wz, rfl⟩ : ∃ wx : World, wx = wc := ⟨_, rfl⟩
      obtain ⟨_, _, At, ct, rfl, hct, _⟩ := HT.out.bytes.parts
      obtain ⟨T0, hT0⟩ : ∃ T, nft l NN = T := ⟨_, rfl⟩
      obtain ⟨n0, hn0⟩ : ∃ n, (nft l NN).length = n := ⟨_, rfl⟩
      have HN0 : Hid (n0 ≤ 600 ∧ T0.length = n0) := Lib.hid (by have := nft_len l NN; have := HNN.out; rw [← hT0]; omega)
      rw [hn0] at HT hct ⊢
      rw [hT0] at HT
      have HCT := Lib.hid hct
      clear hT0 hn0 hct
      have H2 := Lib.hid (H1.out.under HB.out)
      obtain ⟨q, hq⟩ : ∃ q, u % (n0 + 1) = q := ⟨_, rfl⟩
      have hqm : (u : Int).tmod (((n0 + 1 : Nat) : Int)) = (q : Int) := by rw [Int.tmod_eq_emod_of_nonneg (by omega), ← hq]; rfl
      have HQ : Hid (q ≤ n0) := Lib.hid (by have := Nat.mod_lt u (show 0 < n0 + 1 by omega); omega)
      obtain ⟨r, hrr⟩ : ∃ r, n0 - q = r := ⟨_, rfl⟩
      obtain ⟨n1, hn1⟩ : ∃ n, n0 + 1 = n := ⟨_, rfl⟩
      have w1' : IntKind.i64.wrap ((n0 : Int) + 1) = (n1 : Int) := by rw [IntWalk.i64_in _ (by have := HN0.out; omega)]; omega
      have w2' : IntKind.i64.wrap ((n0 : Int) - (q : Int)) = (r : Int) := by rw [IntWalk.i64_in _ (by have := HN0.out; have := HQ.out; omega)]; have := HQ.out; omega
      rw [hn1] at hqm
      have hn1z : ¬ n1 = 0 := by omega
      have HRR : Hid (r ≤ n0) := Lib.hid (by omega)
      have hrn : (r : Int) ≤ (ct : Int) := by have := HCT.out; omega
      have hrn' : r ≤ ct := by have := HCT.out; omega
      clear H1 HB hq hrr hn1
      go_wp2_with (at_builtin; refine wpList_append_bytes rfl _ _ rfl wz.heap.size _ _ [] (T0.take r) rfl (own_empty wz _ 0 #[] (Nat.le_refl _) (by unfold maxLen; omega) rfl) rfl ((HT.out.alloc _).bytes.head HRR.out hrn') ?_ ?_ (T0.take r) rfl ?_)
      case refine_1 => have := HN0.out; rw [List.length_take]; simp only [List.length_nil]; omega
      case refine_2 => simp
      case refine_3 =>
        rintro v3 w3 ⟨ho3, -, -, hb3⟩
        have HO3 := Lib.hid ho3
        have HB3 := Lib.hid (((Below.refl wz.heap.size wz).alloc (Nat.le_refl _) _).trans hb3)
        have HRW := Lib.hid (HR.out.under (H2.out.fs.below.trans (HB3.out.mono H2.out.fs.below.size)))
        clear ho3 hb3 hqm w1' w2' hn1z hrn hrn'
        go_wp2_with (at_builtin; refine wpList_append_bytes rfl _ _ rfl wz.heap.size _ _ (T0.take r) raw rfl HO3.out rfl HRW.out ?_ ?_ (T0.take r ++ raw) rfl ?_)
        case refine_1 => have := HN0.out; have := HM.out; have := HRM.out; rw [List.length_take]; omega
        case refine_2 => exact HB3.out.size
        case refine_3 =>
          rintro v4 w4 ⟨ho4, -, -, hb4⟩
          have HB4 := Lib.hid (HB3.out.trans hb4)
          obtain ⟨T, hTT⟩ : ∃ T, T0.take r ++ raw = T := ⟨_, rfl⟩
          have HTL : Hid (T.length ≤ 800) := Lib.hid (by have := HN0.out; have := HM.out; have := HRM.out; rw [← hTT, List.length_append, List.length_take]; omega)
          rw [hTT] at ho4
          obtain ⟨K4, h4, k4, -⟩ := H2.out.own HB4.out ho4
          obtain ⟨_, _, A4, c4, rfl, _, _⟩ := ho4.bytes.parts
          have HO4 := Lib.hid ho4.bytes
          have H4 := Lib.hid h4
          have KO4 := Lib.hid k4
          clear ho4 hb4 h4 k4 hTT HT H2 HO3 HB3 HRW HB4
          go_upto_region 12 with fail
          go_cut [75] (fun s wx => s = .bool there ∧ wx = w4)
          case first =>
            go_wp2
            go_meet
            exact ⟨rfl, rfl⟩
          case rest =>
            obtain ⟨rfl, hw4⟩ := hcut
            obtain rfl : w4 = wc := hw4.symm
            rename_i hKK
            refine hKK _ _ ?_
            clear hKK
            go_cut [12] (fun s12 wx => ∃ (o : Option (List Nat × Nat)) (n0 : Nat) (S0 : S) (TT : List Nat) (At : Option Addr) (ct : Nat), s12 = .slice At TT.length ct ∧ Hid (Fk K4 w wx p S0) ∧ Hid (Bytes wx (.slice At TT.length ct) TT) ∧ Hid (∀ k, (Value.slice At TT.length ct).ownBlock = some k → K4 k) ∧ Hid (putS S0 lgL [120] = (aa [120] (n0 + 1) o 1048576 (n0 + 1) (-1), n0 + 1, 0) ∧ S0.next ≤ 10 ∧ used S0.l ≤ 2000) ∧ Hid (lw o = TT ∧ TT.length ≤ 800 ∧ n0 ≤ 1 ∧ lk' o ≤ 1 ∧ (∀ t k, o = some (t, k) → k ≠ 0) ∧ ((there = true ∧ o = some (TT, 1)) ∨ (there = false ∧ o = none))))
            case first =>
              as_aux_lemma =>
              cases there
              · go_wp2
                go_meet
                exact ⟨none, 0, ⟨[], 1048576, 0, -1⟩, [], none, 0, rfl, H4, Lib.hid (bytes_nil w4), Lib.hid (fun k h => absurd h (nil_own k)), Lib.hid ⟨putS_new (by simp), by show 0 ≤ 10; omega, by show 0 ≤ 2000; omega⟩, Lib.hid ⟨rfl, by simp, by omega, by show 0 ≤ 1; omega, fun t k e => (nomatch e), .inr ⟨rfl, rfl⟩⟩⟩
              · go_wp2_with fail
                refine (fk_put tr T _ H4.out nice_tr HO4.out (by show 0 ≤ _; omega) (by have := HTL.out; show 0 + T.length ≤ _; omega)).mono ?_
                rw [putS_newt (by have := HTL.out; omega)]
                rintro e w5 ⟨rfl, h5, k5⟩
                have H5 := Lib.hid h5
                have HO5 := Lib.hid (HO4.out.kept k5 KO4.out)
                clear h5 k5
                go_wp2
                go_meet
                exact ⟨some (T, 1), 1, tt1 T 1 1048576 1 (-1), T, A4, c4, rfl, H5, HO5, KO4, Lib.hid ⟨putS_lgt (by have := HTL.out; show ((1 + T.length : Nat) : Int) ≤ 1048576; omega), by show 1 ≤ 10; omega, by have := HTL.out; simp [used]; omega⟩, Lib.hid ⟨rfl, HTL.out, by omega, by show 1 ≤ 1; omega, (fun t k e => by injection e with e; injection e with _ e; omega), .inl ⟨rfl, rfl⟩⟩⟩
            case rest =>
              as_aux_lemma =>
              obtain ⟨o, n0', S0, TT, Au, cu, rfl, H5, HO5, KO5, HP, HOT⟩ := hcut
              obtain ⟨w5, rfl⟩ : ∃ wx : World, wx = wc := ⟨_, rfl⟩
              clear H4 HO4 KO4 HTL HN0 HCT HQ HRR hw4
              obtain ⟨tn, htn⟩ : ∃ n, TT.length = n := ⟨_, rfl⟩
              rw [htn] at HO5 KO5 ⊢
              have HTN := Lib.hid htn
              have HLD : Hid ((ld TT).length ≤ 1000) := Lib.hid (by have := ld_few' TT; have := HOT.out; omega)
              clear htn
              go_wp2_with fail
              refine (reftrace_any _ TT _ _ w5 HO5.out (cnt_scn TT) (by have := HOT.out; omega) rfl).mono ?_
              rintro e w6 ⟨hb6, uw, rfl, ho6⟩
              obtain ⟨en, hen⟩ : ∃ n, Rc.ends (Fr.rows TT (cnt TT)) = n := ⟨_, rfl⟩
              rw [hen]
              have HEN : Hid (ed TT = en) := Lib.hid hen
              have ho6' : OwnDs w6 w5.heap.size uw (ld TT) := ho6
              have h6 := H5.out.newer hb6
              have hw6 : WantIs (fun k => K4 k ∨ (w5.heap.size ≤ k ∧ k < w6.heap.size)) w6 w5.heap.size uw (ld TT) := WantIs.of_ds ho6' fun k h1 h2 => .inr ⟨h1, h2⟩
              obtain ⟨K6, hK6⟩ : ∃ K', (fun k => K4 k ∨ (w5.heap.size ≤ k ∧ k < w6.heap.size)) = K' := ⟨_, rfl⟩
              have HO6 := Lib.hid (HO5.out.under hb6)
              have KO6 : Hid (∀ k, (Value.slice Au tn cu).ownBlock = some k → K6 k) := Lib.hid fun k e => by rw [← hK6]; exact .inl (KO5.out k e)
              rw [hK6] at h6 hw6
              have H6 := Lib.hid h6
              have HW6 := Lib.hid hw6
              clear hb6 ho6 ho6' h6 hw6 hK6 hen H5 HO5 KO5
              go_wp2_with fail
              refine (fk_put lgL [120] _ (H6.out.alloc _) nice_lgL (bytes_new w6 _ rfl [120] _ _ (by simp) (by simp)) (by have := HP.out; omega) (by have := HP.out; simp only [List.length_cons, List.length_nil]; omega)).mono ?_
              rw [HP.out.1]
              rintro e w7 ⟨rfl, h7, k7⟩
              obtain ⟨j, hj⟩ : ∃ j, n0' + 1 = j := ⟨_, rfl⟩
              rw [hj] at h7 ⊢
              have H7 := Lib.hid h7
              have HJ : Hid (j ≤ 2 ∧ 1 ≤ j) := Lib.hid (by have := HOT.out; omega)
              have HW7 := Lib.hid ((HW6.out.under ((Below.refl _ _).alloc (Nat.le_refl _) _)).kept k7)
              have HO7 := Lib.hid ((HO6.out.alloc (.cells #[.int .u8 120] 5 (1, 2))).kept k7 KO6.out)
              clear h7 k7 hj H6 HW6 HO6 HP
              go_upto_region 18 with fail
              obtain ⟨w8, g, K8, hw8, hg8, h8, kg, kk8, b8, bb8, bg⟩ := H7.out.box 39 #[.string (str lgL), .int .i64 (j : Int)]
              rw [hw8, hg8]
              have H8 := Lib.hid h8
              have HW8 := Lib.hid (HW7.out.under bb8)
              have HO8 := Lib.hid (HO7.out.under bb8)
              have HG8 := Lib.hid b8
              have KG := Lib.hid kg
              have KK := Lib.hid kk8
              have KNE : Hid (∀ k, K6 k → k ≠ g) := Lib.hid fun k hk => by have := H7.out.lt hk; omega
              have HBG : Hid (w.heap.size ≤ g) := Lib.hid bg
              clear hw8 hg8 h8 kg kk8 b8 bb8 H7 HW7 HO7 bg
              go_cut [94] (fun s wx => s = .bool (!mine) ∧ wx = w8)
              case first =>
                go_wp2
                go_meet
                exact ⟨rfl, rfl⟩
              case rest =>
                obtain ⟨rfl, hw8⟩ := hcut
                obtain rfl : w8 = wc := hw8.symm
                rename_i hKK
                refine hKK _ _ ?_
                clear hKK hw8
                go_cut [] (fun wx => Hid (Fk K8 w wx p (aa [120] j o 1048576 j (-1))) ∧ Hid (Blk wx g 39 #[.string (str lgL), .int .i64 (FLk mine j)]) ∧ Hid (Kept K6 w8 wx))
                case first =>
                  have g1 := HG8.out.at 1
                  have f1 := HG8.out.free 1
                  have wj : IntKind.i64.wrap ((j : Int) + 1) = (j : Int) + 1 := by rw [IntWalk.i64_in _ (by have := HJ.out; omega)]
                  cases mine
                  · have X1 := Lib.hid (H8.out.set KG.out HBG.out 1 (.int .i64 ((j : Int) + 1)))
                    have X2 := Lib.hid (blk_put (l := [.string (str lgL), .int .i64 (j : Int)]) HG8.out 1 (.int .i64 ((j : Int) + 1)) (l' := [.string (str lgL), .int .i64 ((j : Int) + 1)]) rfl)
                    have X3 := Lib.hid ((Kept.set K8 w8 g 1 (.int .i64 ((j : Int) + 1))).less (K' := K6) fun k hk => ⟨KK.out k hk, KNE.out k hk⟩)
                    go_wp2
                    go_meet
                    exact ⟨X1, X2, X3⟩
                  · go_wp2
                    go_meet
                    exact ⟨H8, HG8, Lib.hid (Kept.refl _ _)⟩
                case rest =>
                  as_aux_lemma =>
                  obtain ⟨H9, HG9, HK9⟩ := hcut
                  obtain ⟨w9, rfl⟩ : ∃ wx : World, wx = wc := ⟨_, rfl⟩
                  have HW9 := Lib.hid (HW8.out.kept HK9.out)
                  have HO9 := Lib.hid (HO8.out.kept HK9.out KO6.out)
                  have CS := fs_stamp tr w w9 p _ H9.out.fs nice_tr
                  rw [stamp_aa] at CS
                  have CS' := Lib.hid CS
                  have HFI : Hid (FInv there mine TT j 0 j (lk' o) o) := Lib.hid (finv0 HOT.out.1 HOT.out.2.1 HOT.out.2.2.2.1 HOT.out.2.2.2.2.1 HJ.out HOT.out.2.2.2.2.2)
                  clear CS HK9 H8 HW8 HO8 HG8 HOT
                  go_wp2_with fail
                  refine CS'.out.mono ?_
                  rintro e w10 ⟨rfl, rfl⟩
                  clear CS'
                  go_wp2_with fail
                  go_loopg [19, 20] 3 (fun gg s19 s20 wr => ∃ (q n was : Nat) (o : Option (List Nat × Nat)), q ≤ 2 ∧ 3 - q ≤ gg ∧ s19 = .int .i64 (was : Int) ∧ s20 = .int .i64 (q : Int) ∧ Hid (Fk K8 w wr p (aa [120] j o 1048576 n (-1))) ∧ Hid (Blk wr g 39 #[.string (str lgL), .int .i64 (FLk mine j)]) ∧ Hid (Kept K6 w9 wr) ∧ Hid (FInv there mine TT j q n was o))
                  case atStart => exact ⟨0, j, _, o, by omega, by omega, rfl, rfl, H9, HG9, Lib.hid (Kept.refl _ _), HFI⟩
                  case round =>
                    clear H9 HG9 HFI
                    obtain ⟨q, n, was, o, hq, hgg, rfl, rfl, HF, HGD, HKW, HFI⟩ := hrel
                    obtain ⟨wz, rfl⟩ : ∃ wx : World, wx = wr := ⟨_, rfl⟩
                    by_cases hq2 : q < 2
                    · have hqI : (q : Int) < 2 := by omega
                      have wi : IntKind.i64.wrap ((q : Int) + 1) = ((q + 1 : Nat) : Int) := by rw [IntWalk.i64_in _ (by omega)]; omega
                      have g0 := HGD.out.at 0
                      have g1 := HGD.out.at 1
                      have HQ2 : Hid (q < 2) := Lib.hid hq2
                      go_wp2_with fail
                      refine (fxnew_any lgL lgT (FLk mine j) wz).mono ?_
                      rintro e w11 ⟨gx, rfl, hgx, hx, hb11⟩
                      obtain ⟨o2, n2, X, kk, hrun, htold, hcs⟩ := fstep HFI.out hq2
                      have hkk : kk ≠ 0 := by rcases hcs with ⟨h, _⟩ | ⟨h, _⟩ <;> omega
                      have HR : Hid (FxRun (fun k => K8 k ∨ k = gx) w w11 p gx 8 0 0 (aa [120] j o2 1048576 n2 (-1), X, kk) n 1048576) := Lib.hid (FxRun.new (FxAt.begun HF.out hb11 hgx hx) hrun (Nat.le_refl _) (by have := HFI.out.2.2.2.1; rw [used_aa]; simp only [List.length_cons, List.length_nil]; omega))
                      have HCS := Lib.hid hcs
                      have HXT : Hid (X.told = kk ∧ kk ≠ 0 ∧ n ≤ 10) := Lib.hid ⟨htold, hkk, by have := HFI.out.2.2.1; omega⟩
                      have HG11 := Lib.hid (HGD.out.under hb11)
                      have HKW2 := Lib.hid (HKW.out.trans (Kept.of_below (HF.out.less K6 KK.out) hb11))
                      have HGX : Hid (w.heap.size ≤ gx ∧ ∀ k, K8 k → k ≠ gx) := Lib.hid ⟨Nat.le_trans HF.out.fs.below.size hgx, fun k hk => by have := HF.out.lt hk; omega⟩
                      clear hgx hx hb11 HF HGD HKW HFI hrun htold hcs hkk g0 g1 hq2
                      go_upto_block 4 with fail
                      go_cut [22] (fun s22 wx => s22 = .int .i64 (kk : Int) ∧ Hid (FxAt (fun k => K8 k ∨ k = gx) w wx p gx (aa [120] j o2 1048576 n2 (-1)) X) ∧ Hid (Kept K8 w11 wx))
                      case first =>
                        as_aux_lemma =>
                        go_wp2_with fail
                        go_loopg [22, 23] 9 (fun gg s22 s23 wr => ∃ q r : Nat, q ≤ 8 ∧ 9 - q ≤ gg ∧ s22 = .int .i64 (r : Int) ∧ s23 = .int .i64 (q : Int) ∧ Hid (FxRun (fun k => K8 k ∨ k = gx) w wr p gx 8 q r (aa [120] j o2 1048576 n2 (-1), X, kk) n 1048576) ∧ Hid (Kept K8 w11 wr))
                        case atStart => exact ⟨0, 0, by omega, by omega, rfl, rfl, HR, Lib.hid (Kept.refl _ _)⟩
                        case round =>
                          clear HR
                          obtain ⟨q, r, hq, hgg2, rfl, rfl, HRq, HKq⟩ := hrel
                          obtain ⟨wv, rfl⟩ : ∃ wx : World, wx = wr := ⟨_, rfl⟩
                          by_cases hlt : q < 8 ∧ r = 0
                          · obtain ⟨hlt, rfl⟩ := hlt
                            have hltI : (q : Int) < 8 := by omega
                            have wq : IntKind.i64.wrap ((q : Int) + 1) = ((q + 1 : Nat) : Int) := by rw [IntWalk.i64_in _ (by omega)]; omega
                            have C := Lib.hid (fxrun_any HRq.out hlt (by omega) (by have := HXT.out; omega) (by omega) (.inr rfl) HGX.out.1)
                            go_wp2_with fail
                            refine C.out.mono ?_
                            rintro e w5 ⟨qv, rfl, h5, k5⟩
                            have H5 := Lib.hid h5
                            have HK5 := Lib.hid (HKq.out.trans (k5.less fun k hk => ⟨.inl hk, HGX.out.2 k hk⟩))
                            clear h5 k5 C HRq HKq
                            go_wp2_with fail
                            go_roundg (9 - (q + 1))
                            case rel => exact ⟨q + 1, qv, by omega, Nat.le_refl _, rfl, rfl, H5, HK5⟩
                            case measure => omega
                          · have hor : ¬ ((q : Int) < 8) ∨ ((q : Int) < 8 ∧ ((r : Int) == 0) = false) := by
                              by_cases h : q < 8
                              · exact .inr ⟨by omega, lg_ne fun e => hlt ⟨h, e⟩⟩
                              · exact .inl (by omega)
                            obtain ⟨rfl, hX⟩ := HRq.out.done rfl HXT.out.2.1 (by omega)
                            have H := Lib.hid hX
                            clear hX hlt HRq
                            rcases hor with h1 | ⟨h1, h2⟩
                            all_goals
                              go_wp2
                              go_meet
                              exact ⟨rfl, H, HKq⟩
                      case rest =>
                        as_aux_lemma =>
                        obtain ⟨rfl, HXA, HKB⟩ := hcut
                        clear HR
                        obtain ⟨wb, rfl⟩ : ∃ wx : World, wx = wc := ⟨_, rfl⟩
                        have HFb : Hid (Fk K8 w wb p (aa [120] j o2 1048576 n2 (-1))) := Lib.hid (HXA.out.fk.less K8 fun _ => .inl)
                        have HGb := Lib.hid (HKB.out.blk KG.out HG11.out)
                        have HKb := Lib.hid (HKW2.out.trans (HKB.out.less KK.out))
                        have HWb := Lib.hid (HW9.out.kept HKb.out)
                        have HOb := Lib.hid (HO9.out.kept HKb.out KO6.out)
                        obtain ⟨v6, x6, -, -, -⟩ := HXA.out
                        have HC6 := Lib.hid (fxtold_any X v6 gx wb x6)
                        have CL : Hid (∀ W, Fs w W p (aa [120] j o2 1048576 n2 (-1)) → Calls Tryz.prog 16 #[.pointer (some ⟨p, 0, none⟩), .string (str [116, 109, 112])] W fun e w' => (∃ A c, e = .returned (.slice A 0 c)) ∧ Below W.heap.size W w') := Lib.hid fun W hf => (fs_list [116, 109, 112] w W p _ hf (by decide) (by have := HCS.out; show n2 ≤ _; rcases this with ⟨_, t, k, _, _, _, _, _, _, _, h⟩ | ⟨_, _, _, _, _, _, h⟩ <;> (have := h.2.2.1; omega))).mono fun e w' ⟨v, he, ho, hb⟩ => by
                          rw [list_aa] at ho
                          refine ⟨?_, hb⟩
                          rcases ho.2 with ⟨rfl, _⟩ | ⟨g, cap, cur, rfl, _⟩
                          · exact ⟨_, _, he⟩
                          · exact ⟨_, _, he⟩
                        clear x6 HXA HKB HG11 HKW2
                        rcases HCS.out with ⟨rfl, t, k, rfl, hst, het, hlt, htl, hwb, hgate, hfi⟩ | ⟨rfl, hmf, hth, hlo, hws, htl, hfi⟩
                        · as_aux_lemma =>
                            have htr : trV X = .tuple #[guardV tr (k : Int), .bool true] := by unfold trV; rw [if_pos HXT.out.1, hst]
                            have HFIN := Lib.hid hfi
                            have HLT := Lib.hid hlt
                            have HET := Lib.hid (And.intro het htl)
                            have HGATE := Lib.hid hgate
                            have HWB := Lib.hid hwb
                            clear hst het hlt htl hwb hgate hfi HCS
                            go_wp2_with fail
                            refine HC6.out.mono ?_
                            rw [htr]
                            rintro e w12 ⟨rfl, hb12⟩
                            have HF12 := Lib.hid (HFb.out.under hb12)
                            have HG12 := Lib.hid (HGb.out.under hb12)
                            have HW12 := Lib.hid (HWb.out.under hb12)
                            have HK12 := Lib.hid (HKb.out.trans (Kept.of_below (HFb.out.less K6 KK.out) hb12))
                            clear hb12 htr HC6 HFb HGb HWb HKb HOb
                            go_upto_region 32 with fail
                            obtain ⟨w13, y, K13, hw13, hy13, h13, -, kk13, b13, bb13, -⟩ := HF12.out.box 39 #[.string (str tr), .int .i64 (k : Int)]
                            rw [hw13, hy13]
                            have HF13 := Lib.hid (h13.less K8 kk13)
                            have HG13 := Lib.hid (HG12.out.under bb13)
                            have HW13 := Lib.hid (HW12.out.under bb13)
                            have HK13 := Lib.hid (HK12.out.trans (Kept.of_below (HF12.out.less K6 KK.out) bb13))
                            have HY13 := Lib.hid b13
                            clear hw13 hy13 h13 kk13 b13 bb13 HF12 HG12 HW12 HK12
                            go_cut [26] (fun s26 wx => s26 = .bool (decide (k = was)) ∧ wx = w13)
                            case first =>
                              have hwb := HWB.out
                              rcases (show q = 0 ∨ q = 1 by have := HQ2.out; omega) with rfl | rfl
                              · cases there
                                · go_wp2
                                  go_meet
                                  exact ⟨by rw [← hwb]; rfl, rfl⟩
                                · by_cases he : en = tn
                                  · have heI : ((en : Int) == (tn : Int)) = true := by rw [he]; simp
                                    have hE : decide (ed TT = TT.length) = true := decide_eq_true (by rw [HEN.out, HTN.out, he])
                                    rw [hE] at hwb
                                    clear he
                                    go_wp2
                                    go_meet
                                    exact ⟨by rw [← hwb]; rfl, rfl⟩
                                  · have heI := lg_ne he
                                    have hE : decide (ed TT = TT.length) = false := decide_eq_false (by rw [HEN.out, HTN.out]; exact he)
                                    rw [hE] at hwb
                                    clear he
                                    go_wp2
                                    go_meet
                                    exact ⟨by rw [← hwb]; rfl, rfl⟩
                              · go_wp2
                                go_meet
                                exact ⟨by rw [← hwb]; rfl, rfl⟩
                            case rest =>
                              obtain ⟨rfl, hw13⟩ := hcut
                              obtain rfl : w13 = wc := hw13.symm
                              clear hw13
                              go_upto_region 33 with fail
                              go_cut [146] (fun s wx => s = .bool false ∧ wx = w13)
                              case first =>
                                cases mine
                                · obtain ⟨hth, he⟩ : there = true ∧ ed TT = TT.length := HGATE.out.elim (fun h => by cases h) id
                                  have heI : ((en : Int) == (tn : Int)) = true := by rw [← HEN.out, ← HTN.out, he]; simp
                                  subst hth
                                  clear he
                                  go_wp2
                                  go_meet
                                  exact ⟨rfl, rfl⟩
                                · go_wp2
                                  go_meet
                                  exact ⟨rfl, rfl⟩
                              case rest =>
                                obtain ⟨rfl, hw13⟩ := hcut
                                obtain rfl : w13 = wc := hw13.symm
                                clear hw13
                                go_wp2_with fail
                                refine (fs_read tr w w13 p _ HF13.out.fs nice_tr (by rw [used_aa]; have := HET.out; show 1 + t.length ≤ _; omega)).mono ?_
                                rw [read_some]
                                rintro e w14 ⟨v14, rfl, ho14, hb14⟩
                                have HF14 := Lib.hid (HF13.out.under hb14)
                                have HG14 := Lib.hid (HG13.out.under hb14)
                                have HW14 := Lib.hid (HW13.out.under hb14)
                                have HY14 := Lib.hid (HY13.out.under hb14)
                                have HK14 := Lib.hid (HK13.out.trans (Kept.of_below (HF13.out.less K6 KK.out) hb14))
                                obtain ⟨_, _, A14, c14, rfl, _, _⟩ := ho14.bytes.parts
                                have HO14 := Lib.hid ho14.bytes
                                obtain ⟨tl, htl⟩ : ∃ n, t.length = n := ⟨_, rfl⟩
                                rw [htl] at HO14 ⊢
                                have HTL := Lib.hid htl
                                clear ho14 hb14 htl HF13 HG13 HW13 HY13 HK13
                                go_wp2_with fail
                                refine (reftrace_any _ t _ _ w14 HO14.out (cnt_scn t) (by have := HET.out; omega) rfl).mono ?_
                                rintro e w15 ⟨hb15, u15, rfl, ho15⟩
                                have hld : Rc.lead (Fr.rows t (cnt t)) = ld TT := HLT.out
                                rw [hld] at ho15
                                rw [show Rc.ends (Fr.rows t (cnt t)) = tl from (show ed t = tl by rw [HET.out.1, HTL.out])]
                                have HR15 := Lib.hid ho15.rd
                                have HF15 := Lib.hid (HF14.out.under hb15)
                                have HG15 := Lib.hid (HG14.out.under hb15)
                                have HW15 := Lib.hid (HW14.out.under hb15)
                                have HY15 := HY14.out.under hb15
                                have HK15 := Lib.hid (HK14.out.trans (Kept.of_below (HF14.out.less K6 KK.out) hb15))
                                have y0 := HY15.at 0
                                have y1 := HY15.at 1
                                have hse := str_same (l := tr) (m := tr) (by decide) (by decide)
                                rw [decide_eq_true rfl] at hse
                                have hss : ((str tr).toList != (str tr).toList) = false := by simp
                                have hkk : ((k : Int) == (k : Int)) = true := by simp
                                have htt : ((tl : Int) != (tl : Int)) = false := by simp
                                obtain ⟨wb', hwb'⟩ : ∃ b, decide (k = was) = b := ⟨_, rfl⟩
                                rw [hwb']
                                have hkw : ((k : Int) == (was : Int)) = wb' := by
                                  rw [← hwb']
                                  by_cases h : k = was
                                  · rw [h, decide_eq_true rfl]; simp
                                  · rw [decide_eq_false h]; exact lg_ne h
                                have hww : (wb' != wb') = false := by simp
                                have hwe : (wb' == wb') = true := by simp
                                clear hb15 ho15 hld HF14 HG14 HW14 HY14 HK14 HY15 hwb'
                                go_wp2_with fail
                                refine (sameDs_any _ _ _ _ w15 HR15.out HW15.out.rd (fun d hd => ld_byte TT d hd) (fun d hd => ld_byte TT d hd) (by have := HLD.out; omega) (by have := HLD.out; omega) true (by simp)).mono ?_
                                rintro e w16 ⟨rfl, hb16⟩
                                have HF16 := Lib.hid (HF15.out.under hb16)
                                have HG16 := Lib.hid (HG15.out.under hb16)
                                have HK16 := Lib.hid (HK15.out.trans (Kept.of_below (HF15.out.less K6 KK.out) hb16))
                                clear hb16 HF15 HG15 HW15 HK15 HR15
                                go_wp2_with fail
                                refine (CL.out _ HF16.out.fs).mono ?_
                                rintro e w17 ⟨⟨A17, c17, rfl⟩, hb17⟩
                                have HF17 := Lib.hid (HF16.out.under hb17)
                                have HG17 := Lib.hid (HG16.out.under hb17)
                                have HK17 := Lib.hid (HK16.out.trans (Kept.of_below (HF16.out.less K6 KK.out) hb17))
                                clear hb17 HF16 HG16 HK16
                                go_wp2_with fail
                                go_roundg (3 - (q + 1))
                                case rel => exact ⟨q + 1, n2, k, some (t, k), by have := HQ2.out; omega, Nat.le_refl _, rfl, rfl, HF17, HG17, HK17, HFIN⟩
                                case measure => have := HQ2.out; omega
                        · as_aux_lemma =>
                            subst hmf
                            have htr : trV X = .tuple #[guardV [] 0, .bool false] := by unfold trV; rw [if_neg (by rw [HXT.out.1]; decide)]
                            have HFIN := Lib.hid hfi
                            have HLO := Lib.hid (And.intro hlo (And.intro hws htl))
                            have HTH := Lib.hid hth
                            clear hlo hws htl hfi hth HCS
                            go_wp2_with fail
                            refine HC6.out.mono ?_
                            rw [htr]
                            rintro e w12 ⟨rfl, hb12⟩
                            have HF12 := Lib.hid (HFb.out.under hb12)
                            have HG12 := Lib.hid (HGb.out.under hb12)
                            have HO12 := Lib.hid (HOb.out.under hb12)
                            have HK12 := Lib.hid (HKb.out.trans (Kept.of_below (HFb.out.less K6 KK.out) hb12))
                            clear hb12 htr HC6 HFb HGb HWb HKb HOb
                            go_upto_region 32 with fail
                            obtain ⟨w13, y, K13, hw13, hy13, h13, -, kk13, b13, bb13, -⟩ := HF12.out.box 39 #[.string (str []), .int .i64 0]
                            rw [hw13, hy13]
                            have HF13 := Lib.hid (h13.less K8 kk13)
                            have HG13 := Lib.hid (HG12.out.under bb13)
                            have HO13 := Lib.hid (HO12.out.under bb13)
                            have HK13 := Lib.hid (HK12.out.trans (Kept.of_below (HF12.out.less K6 KK.out) bb13))
                            clear hw13 hy13 h13 kk13 b13 bb13 HF12 HG12 HO12 HK12
                            go_cut [26] (fun s26 wx => (∃ b, s26 = .bool b) ∧ wx = w13)
                            case first =>
                              rcases (show q = 0 ∨ q = 1 by have := HQ2.out; omega) with rfl | rfl
                              · cases there
                                · go_wp2
                                  go_meet
                                  exact ⟨⟨_, rfl⟩, rfl⟩
                                · have heI : ((en : Int) == (tn : Int)) = false := lg_ne (by rw [← HEN.out, ← HTN.out]; exact HTH.out rfl)
                                  go_wp2
                                  go_meet
                                  exact ⟨⟨_, rfl⟩, rfl⟩
                              · go_wp2
                                go_meet
                                exact ⟨⟨_, rfl⟩, rfl⟩
                            case rest =>
                              obtain ⟨⟨b26, rfl⟩, hw13⟩ := hcut
                              obtain rfl : w13 = wc := hw13.symm
                              clear hw13
                              go_upto_region 33 with fail
                              go_cut [146] (fun s wx => s = .bool true ∧ wx = w13)
                              case first =>
                                cases there
                                · go_wp2
                                  go_meet
                                  exact ⟨rfl, rfl⟩
                                · have heI : ((en : Int) == (tn : Int)) = false := lg_ne (by rw [← HEN.out, ← HTN.out]; exact HTH.out rfl)
                                  go_wp2
                                  go_meet
                                  exact ⟨rfl, rfl⟩
                              case rest =>
                                obtain ⟨rfl, hw13⟩ := hcut
                                obtain rfl : w13 = wc := hw13.symm
                                clear hw13
                                obtain ⟨er, hrd⟩ := lgread2 (b := [120]) (j := j) (o := o2) (r := 1048576) (n := n2) (c := -1)
                                go_wp2_with fail
                                refine (fs_read tr w w13 p _ HF13.out.fs nice_tr (by rw [used_aa, HLO.out.1]; have := HLO.out; show 1 + TT.length ≤ _; omega)).mono ?_
                                rw [hrd, HLO.out.1]
                                rintro e w14 ⟨v14, rfl, ho14, hb14⟩
                                have HF14 := Lib.hid (HF13.out.under hb14)
                                have HG14 := Lib.hid (HG13.out.under hb14)
                                have HO14 := Lib.hid (HO13.out.under hb14)
                                have HK14 := Lib.hid (HK13.out.trans (Kept.of_below (HF13.out.less K6 KK.out) hb14))
                                have CS := fs_stamp tr w w14 p _ HF14.out.fs nice_tr
                                rw [stamp_aa, ← HLO.out.2.1] at CS
                                have HCS2 := Lib.hid CS
                                have hwas : ((was : Int) != (was : Int)) = false := by simp
                                obtain ⟨_, _, A14, c14, rfl, _, _⟩ := ho14.bytes.parts
                                rw [HTN.out] at ho14 ⊢
                                have hx1 := run_text ho14.bytes
                                have hx2 := run_text HO14.out
                                have hse := str_same (l := TT) (m := TT) ho14.2 ho14.2
                                rw [decide_eq_true rfl] at hse
                                have hss : ((str TT).toList != (str TT).toList) = false := by simp
                                clear ho14 hb14 CS HF13 HG13 HO13 HK13
                                go_wp2_with fail
                                refine HCS2.out.mono ?_
                                rintro e w15 ⟨rfl, rfl⟩
                                go_wp2_with fail
                                refine (CL.out _ HF14.out.fs).mono ?_
                                rintro e w17 ⟨⟨A17, c17, rfl⟩, hb17⟩
                                have HF17 := Lib.hid (HF14.out.under hb17)
                                have HG17 := Lib.hid (HG14.out.under hb17)
                                have HK17 := Lib.hid (HK14.out.trans (Kept.of_below (HF14.out.less K6 KK.out) hb17))
                                clear hb17 HF14 HG14 HK14 HCS2
                                go_wp2_with fail
                                go_roundg (3 - (q + 1))
                                case rel => exact ⟨q + 1, n2, was, o2, by have := HQ2.out; omega, Nat.le_refl _, rfl, rfl, HF17, HG17, HK17, HFIN⟩
                                case measure => have := HQ2.out; omega
                    · have hqI : ¬ ((q : Int) < 2) := by omega
                      have HB := Lib.hid HF.out.fs.below
                      clear HF HGD HKW HFI
                      go_wp2_with fail
                      refine (lgawake_any wz).mono ?_
                      rintro e w3 ⟨rfl, hb3⟩
                      have HE := Lib.hid (HB.out.trans (hb3.mono HB.out.size))
                      clear hb3
                      go_wp2
                      go_ret
                      exact ⟨rfl, HE.out⟩
end Go.Proofs.YtfheaognfocofaaGreat
