/- SimfPlays: the program's file system answers as the document's, whatever the script. -/
import Derived.Test.YtlfgadcfjjjbfaaPlaysDuo
import Derived.Test.YtlfgadcfjjjbfaaSimAwake
import Derived.Test.YtlfgadcfjjjbfaaSimStampMath
import Derived.Deep.CutRange
import Derived.Deep.RegionHeld
import Derived.Deep.CutBlock
import Derived.BigQuiet
import Derived.Deep.QuietTactic
namespace Go.Proofs.Ytlfgadcfjjjbfaa
set_option maxRecDepth 100000
open Go.ChangeShapes Go.WideShapes Go.ChangeAt Go.RowKit Go.ChangeMaps
open Sf

theorem Duo.good {X : Nat → Prop} {w wr : World} {p q : Nat} {s s' : S} (h : Duo X w wr p q s s') : Sf.Good s := by
  obtain ⟨lv, G, h1, _⟩ := h.ex
  exact h1.good
theorem guard_cells (w : World) (x : Gd) : ∀ j y, (cellsG x)[j]? = some y → (w.alloc (.cells #[.string (str x.1), .int .i64 x.2] 35)).cell? ⟨w.heap.size, j, none⟩ = some y := fun j y hy => by
  have h : Blk (w.alloc (.cells (cellsG x).toArray 35)) w.heap.size 35 (cellsG x).toArray := heap_alloc_new _ _
  have h2 := h.at j
  rw [List.getElem?_toArray, hy] at h2
  exact h2
theorem duo_list1e {X : Nat → Prop} {w wr : World} {p q i : Nat} {s : S} (h : Duo X w wr p q s s) (hB : Bd s i) (hi : i ≤ 120) :
    Calls Try.prog 29 #[.pointer (some ⟨p, 0, none⟩), .string ⟨#[]⟩] wr fun e w' => ∃ v, e = .returned v ∧ OwnT w' wr.heap.size v (list s.l []) ∧ Below wr.heap.size wr w' := duo_list1 [] h hB hi (by simp) (by simp)
theorem duo_list2e {X : Nat → Prop} {w wr : World} {p q i : Nat} {s : S} (h : Duo X w wr p q s s) (hB : Bd s i) (hi : i ≤ 120) :
    Calls Try.prog 30 #[.pointer (some ⟨q, 0, none⟩), .string ⟨#[]⟩] wr fun e w' => ∃ v, e = .returned v ∧ OwnT w' wr.heap.size v (list s.l []) ∧ Below wr.heap.size wr w' := duo_list2 [] h hB hi (by simp) (by simp)
theorem duo_list1t {X : Nat → Prop} {w wr : World} {p q i : Nat} {s : S} (h : Duo X w wr p q s s) (hB : Bd s i) (hi : i ≤ 120) :
    Calls Try.prog 29 #[.pointer (some ⟨p, 0, none⟩), .string ⟨#[116, 109, 112]⟩] wr fun e w' => ∃ v, e = .returned v ∧ OwnT w' wr.heap.size v (list s.l [116, 109, 112]) ∧ Below wr.heap.size wr w' := duo_list1 [116, 109, 112] h hB hi (by simp) (by simp)
theorem duo_list2t {X : Nat → Prop} {w wr : World} {p q i : Nat} {s : S} (h : Duo X w wr p q s s) (hB : Bd s i) (hi : i ≤ 120) :
    Calls Try.prog 30 #[.pointer (some ⟨q, 0, none⟩), .string ⟨#[116, 109, 112]⟩] wr fun e w' => ∃ v, e = .returned v ∧ OwnT w' wr.heap.size v (list s.l [116, 109, 112]) ∧ Below wr.heap.size wr w' := duo_list2 [116, 109, 112] h hB hi (by simp) (by simp)
theorem duo_same (d : List Nat) {w : World} {x y i : Nat} {va vb : Value} {s : S} (ha : OwnT w x va (list s.l d)) (hb : OwnT w y vb (list s.l d)) (hg : Sf.Good s) (hB : Bd s i) (hi : i ≤ 120) :
    Calls Try.prog 28 #[va, vb] w fun e w' => e = .returned (.bool true) ∧ Below w.heap.size w w' := by
  have h1 : ∀ t ∈ list s.l d, ∀ c ∈ t, c < 256 := fun t ht => ((mem_list hg d t).1 ht).1
  have h2 : (list s.l d).length ≤ 1099511627776 := by
    have h3 : (list s.l d).length ≤ s.l.length := by unfold list; exact Nat.le_trans (List.length_filter_le _ _) (by rw [List.length_map]; exact Nat.le_refl _)
    have h4 := hB.len
    omega
  have h := fsame_any _ _ va vb w x y ha hb h1 h1 h2 h2
  rw [decide_eq_true rfl] at h
  exact h
theorem nameN (z : Int) (w : World) : Calls Try.prog 6 #[.int .i64 z] w fun e w' => ∃ t, e = .returned (.string (str t)) ∧ Nice t ∧ Below w.heap.size w w' :=
  (name12_any z w).mono fun _ _ ⟨he, hb⟩ => ⟨nm (nmOf z), he, nice_nm _ (nmOf_lt z), hb⟩
set_option maxHeartbeats 16000000 in
theorem plays_law (n : Int) (va vr : Value) (zs : List Int) (L : List (List Nat)) (w : World) (hz : Ints w va zs) (hr : Rows2 w vr L) : Calls Try.prog 3 #[.int .i64 n, va, vr] w fun e w' => e = .returned (.bool true) ∧ Below w.heap.size w w' := by
  have hz' := hz
  obtain ⟨hz1, hz2, A, ca, rfl, hca, hzx⟩ := hz
  obtain ⟨N, hN⟩ : ∃ N, zs.length = N := ⟨_, rfl⟩
  rw [hN] at hz' hca ⊢
  have HZ := Lib.hid hz'
  have HN2 : Hid (N ≤ 9223372036854775807) := Lib.hid (by rw [← hN]; exact hz2)
  clear hz' hz1 hz2 hzx hN
  have hr' := hr
  obtain ⟨hr1, A2, c2, rfl, hc2, hrx⟩ := hr
  obtain ⟨M, hM⟩ : ∃ M, L.length = M := ⟨_, rfl⟩
  rw [hM] at hr' hc2 hr1 ⊢
  have HR := Lib.hid hr'
  clear hr' hrx hM
  go_enter Try.func3, Try.ntmps3
  go_upto_if 41 with fail
  go_cut [0] from 39 to 43 (fun s0 wx => (∃ m : Int, s0 = .int .i64 m) ∧ wx = w)
  case first =>
    go_wp2_with fail
    all_goals (go_meet; exact ⟨⟨_, rfl⟩, rfl⟩)
  case rest =>
    obtain ⟨⟨m, rfl⟩, hw⟩ := hcut
    subst hw
    obtain ⟨w, rfl⟩ : ∃ w : World, w = wc := ⟨_, rfl⟩
    go_wp2_with fail
    refine (duo_new1 m w).mono ?_
    rintro e w1 ⟨p, rfl, h1⟩
    have H1 := Lib.hid h1
    clear h1
    go_wp2_with fail
    refine (duo_new2 m H1.out).mono ?_
    rintro e w2 ⟨q, rfl, h2⟩
    have H2 := Lib.hid h2
    clear h2
    go_wp2_with fail
    go_loopw [9] (fun iv wr => ∃ (i : Nat) (s : S), i ≤ N ∧ i ≤ 120 ∧ iv = .int .i64 (i : Int) ∧ Hid (Duo (fun _ => False) w wr p q s s) ∧ Hid (Bd s i)) (fun iv _ => N - (intOf iv).toNat)
    case atStart => exact ⟨0, _, by omega, by omega, rfl, H2, Lib.hid ⟨by simp [new, used], by simp [new], by simp [new], by simp [new], List.Pairwise.nil⟩⟩
    case round =>
      obtain ⟨i, s, hiN, hi120, rfl, HS, HBD⟩ := hrel
      as_aux_lemma =>
      by_cases hlt : i < N ∧ i < 120
      · obtain ⟨hlt1, hlt2⟩ := hlt
        have k1 : (i : Int) < (N : Int) := by omega
        have k2 : (i : Int) < 120 := by omega
        obtain ⟨b, off, rfl, hcz⟩ := HZ.out.at (k := i) (by omega)
        have hs0 := scell_later HS.out.below hcz
        obtain ⟨z, hz0⟩ : ∃ z, zs.getD i 0 = z := ⟨_, rfl⟩
        rw [hz0] at hs0 hcz
        have HC := Lib.hid hcz
        clear hcz hz0
        go_wp2_with fail
        refine (nameN _ wr).mono ?_
        rintro e w3 ⟨a, rfl, hna, hb3⟩
        have HNA := Lib.hid hna
        have HS3 := Lib.hid (HS.out.under hb3)
        clear hna hb3 hs0
        go_wp2_with fail
        refine (nameN _ w3).mono ?_
        rintro e w4 ⟨c, rfl, hnc, hb4⟩
        have HNC := Lib.hid hnc
        have HS4 := Lib.hid (HS3.out.under hb4)
        clear hnc hb4
        go_upto_if 72 with fail
        go_cut [13] from 70 to 81 (fun s13 wx => (∃ bx, Hid (Bytes w s13 bx)) ∧ wx = w4)
        case first =>
          by_cases hM : M = 0
          · subst hM
            go_wp2_with fail
            go_meet
            exact ⟨⟨[], Lib.hid (bytes_none _)⟩, rfl⟩
          · obtain ⟨m1, hm1, h255⟩ := nand_low (z / 65536) 255 (by omega)
            change bits .and .i64 (z / 65536) 255 = (m1 : Int) at hm1
            obtain ⟨k, hk⟩ : ∃ k, m1 % M = k := ⟨_, rfl⟩
            have hkM : k < M := by rw [← hk]; exact Nat.mod_lt _ (by omega)
            have hkI : (m1 : Int).tmod (M : Int) = (k : Int) := by rw [← hk, Int.tmod_eq_emod_of_nonneg (by omega)]; omega
            have hMI : (0 : Int) < (M : Int) := by omega
            have hMI2 : ¬ (M : Int) = 0 := by omega
            have hkMI : (k : Int) < (M : Int) := by omega
            obtain ⟨b2, off2, ux, rfl, hc2x, hbx⟩ := HR.out.at hkM
            have hcx := scell_later HS4.out.below hc2x
            have HBX := Lib.hid hbx
            clear hk hc2x hbx
            as_aux_lemma =>
            go_wp2_with fail
            go_meet
            exact ⟨⟨_, HBX⟩, rfl⟩
        case rest =>
          obtain ⟨⟨bx, HBX⟩, hw5⟩ := hcut
          subst hw5
          obtain ⟨w4, rfl⟩ : ∃ wx : World, wx = wc := ⟨_, rfl⟩
          as_aux_lemma =>
          obtain ⟨_, _, Ax, cx, rfl, hcx2, _⟩ := HBX.out.parts
          obtain ⟨l, hl⟩ : ∃ l, bx.length = l := ⟨_, rfl⟩
          rw [hl] at HBX hcx2
          have HL := Lib.hid hl
          rw [hl]
          clear hl
          by_cases hl3 : 300 < l
          · have hl4 : (300 : Int) < (l : Int) := by omega
            go_wp2_with fail
            refine (fawake_any w4).mono ?_
            rintro e w5 ⟨rfl, hb5⟩
            have HB5 := Lib.hid (HS4.out.below.trans (hb5.mono HS4.out.below.size))
            clear hb5
            go_wp2
            go_ret
            exact ⟨rfl, HB5.out⟩
          · have hl4 : ¬ (300 : Int) < (l : Int) := by omega
            obtain ⟨m3, hm3, h3⟩ := nand_low (z / 1048576) 3 (by omega)
            change bits .and .i64 (z / 1048576) 3 = (m3 : Int) at hm3
            obtain ⟨m7, hm7, h7⟩ := nand_low (z / 16777216) 7 (by omega)
            change bits .and .i64 (z / 16777216) 7 = (m7 : Int) at hm7
            have HG := Lib.hid HS4.out.good
            go_wp2_with fail
            go_loopw [14, 15] (fun gv kv wx => ∃ (k : Nat) (gs : List Gd), k ≤ m3 ∧ kv = .int .i64 (k : Int) ∧ Hid (gs.length = k) ∧ Hid (OwnG wx w4.heap.size gv gs) ∧ Hid (Below w4.heap.size w4 wx) ∧ Hid (∀ x ∈ gs, Nice x.1)) (fun _ kv _ => m3 - (intOf kv).toNat)
            case atStart => exact ⟨0, [], by omega, rfl, Lib.hid rfl, Lib.hid (ownG_none _ _), Lib.hid (Below.refl _ _), Lib.hid (by simp)⟩
            case round =>
              obtain ⟨k, gs, hk3, rfl, HGL, HGO, HGB, HGN⟩ := hrel
              by_cases hkm : k < m3
              · have hkmi : (k : Int) < (m3 : Int) := by omega
                have hk012 : k = 0 ∨ k = 1 ∨ k = 2 := by omega
                rcases hk012 with rfl | rfl | rfl
                · as_aux_lemma =>
                  go_wp2_with fail
                  refine (nameN _ wr).mono ?_
                  rintro e w5 ⟨t, rfl, hnt, hb5⟩
                  have HB5 := Lib.hid (HGB.out.trans (hb5.mono HGB.out.size))
                  have HO5 := Lib.hid (HGO.out.under hb5)
                  have HS5 := Lib.hid (HS4.out.under HB5.out)
                  have HNT := Lib.hid hnt
                  clear hnt hb5
                  go_wp2_with fail
                  refine (duo_stamp2 t HS5.out HBD.out (by omega) HNT.out).mono ?_
                  rintro e w6 ⟨rfl, rfl⟩
                  obtain ⟨st, hst⟩ : ∃ st, stamp s.l t = st := ⟨_, rfl⟩
                  have hst2 : st ≤ 120 := by
                    have h1 := stamp_le HG.out t
                    have h2 := HBD.out.next
                    omega
                  rw [hst]
                  clear hst
                  obtain ⟨y, hy⟩ : ∃ y, m7 / 7 = y := ⟨_, rfl⟩
                  have hy1 : y ≤ 1 := by omega
                  have hq7 : (m7 : Int).tdiv 7 = (y : Int) := by rw [Int.tdiv_eq_ediv_of_nonneg (by omega)]; omega
                  clear hy
                  go_wp2_with (first
                    | (at_builtin; refine wpList_append_guard rfl _ _ rfl w4.heap.size w5.heap.size u14 gs (t, ((st : Int) + (y : Int))) rfl (HO5.out.alloc _) rfl (guard_cells w5 _) (by rw [HGL.out]; omega) (Nat.le_trans HB5.out.size (by simp)) (gs ++ [(t, ((st : Int) + (y : Int)))]) rfl ?_; intro v6 w6 ho6 hb6)
                    | fail)
                  refine ⟨⟨0 + 1, gs ++ [(t, ((st : Int) + (y : Int)))], by omega, by go_num, Lib.hid (by rw [List.length_append, HGL.out]; rfl), Lib.hid ho6, Lib.hid ((HB5.out.alloc HB5.out.size _).trans hb6), Lib.hid (fun x hx => by
                    rcases List.mem_append.1 hx with hx | hx
                    · exact HGN.out x hx
                    · obtain rfl := List.mem_singleton.1 hx
                      exact HNT.out)⟩, ?_⟩
                  simp [intOf]
                  omega
                · as_aux_lemma =>
                  go_wp2_with fail
                  refine (nameN _ wr).mono ?_
                  rintro e w5 ⟨t, rfl, hnt, hb5⟩
                  have HB5 := Lib.hid (HGB.out.trans (hb5.mono HGB.out.size))
                  have HO5 := Lib.hid (HGO.out.under hb5)
                  have HS5 := Lib.hid (HS4.out.under HB5.out)
                  have HNT := Lib.hid hnt
                  clear hnt hb5
                  go_wp2_with fail
                  refine (duo_stamp2 t HS5.out HBD.out (by omega) HNT.out).mono ?_
                  rintro e w6 ⟨rfl, rfl⟩
                  obtain ⟨st, hst⟩ : ∃ st, stamp s.l t = st := ⟨_, rfl⟩
                  have hst2 : st ≤ 120 := by
                    have h1 := stamp_le HG.out t
                    have h2 := HBD.out.next
                    omega
                  rw [hst]
                  clear hst
                  obtain ⟨y, hy⟩ : ∃ y, m7 / 7 = y := ⟨_, rfl⟩
                  have hy1 : y ≤ 1 := by omega
                  have hq7 : (m7 : Int).tdiv 7 = (y : Int) := by rw [Int.tdiv_eq_ediv_of_nonneg (by omega)]; omega
                  clear hy
                  go_wp2_with (first
                    | (at_builtin; refine wpList_append_guard rfl _ _ rfl w4.heap.size w5.heap.size u14 gs (t, ((st : Int) + (y : Int))) rfl (HO5.out.alloc _) rfl (guard_cells w5 _) (by rw [HGL.out]; omega) (Nat.le_trans HB5.out.size (by simp)) (gs ++ [(t, ((st : Int) + (y : Int)))]) rfl ?_; intro v6 w6 ho6 hb6)
                    | fail)
                  refine ⟨⟨1 + 1, gs ++ [(t, ((st : Int) + (y : Int)))], by omega, by go_num, Lib.hid (by rw [List.length_append, HGL.out]; rfl), Lib.hid ho6, Lib.hid ((HB5.out.alloc HB5.out.size _).trans hb6), Lib.hid (fun x hx => by
                    rcases List.mem_append.1 hx with hx | hx
                    · exact HGN.out x hx
                    · obtain rfl := List.mem_singleton.1 hx
                      exact HNT.out)⟩, ?_⟩
                  simp [intOf]
                  omega
                · as_aux_lemma =>
                  go_wp2_with fail
                  refine (nameN _ wr).mono ?_
                  rintro e w5 ⟨t, rfl, hnt, hb5⟩
                  have HB5 := Lib.hid (HGB.out.trans (hb5.mono HGB.out.size))
                  have HO5 := Lib.hid (HGO.out.under hb5)
                  have HS5 := Lib.hid (HS4.out.under HB5.out)
                  have HNT := Lib.hid hnt
                  clear hnt hb5
                  go_wp2_with fail
                  refine (duo_stamp2 t HS5.out HBD.out (by omega) HNT.out).mono ?_
                  rintro e w6 ⟨rfl, rfl⟩
                  obtain ⟨st, hst⟩ : ∃ st, stamp s.l t = st := ⟨_, rfl⟩
                  have hst2 : st ≤ 120 := by
                    have h1 := stamp_le HG.out t
                    have h2 := HBD.out.next
                    omega
                  rw [hst]
                  clear hst
                  obtain ⟨y, hy⟩ : ∃ y, m7 / 7 = y := ⟨_, rfl⟩
                  have hy1 : y ≤ 1 := by omega
                  have hq7 : (m7 : Int).tdiv 7 = (y : Int) := by rw [Int.tdiv_eq_ediv_of_nonneg (by omega)]; omega
                  clear hy
                  go_wp2_with (first
                    | (at_builtin; refine wpList_append_guard rfl _ _ rfl w4.heap.size w5.heap.size u14 gs (t, ((st : Int) + (y : Int))) rfl (HO5.out.alloc _) rfl (guard_cells w5 _) (by rw [HGL.out]; omega) (Nat.le_trans HB5.out.size (by simp)) (gs ++ [(t, ((st : Int) + (y : Int)))]) rfl ?_; intro v6 w6 ho6 hb6)
                    | fail)
                  refine ⟨⟨2 + 1, gs ++ [(t, ((st : Int) + (y : Int)))], by omega, by go_num, Lib.hid (by rw [List.length_append, HGL.out]; rfl), Lib.hid ho6, Lib.hid ((HB5.out.alloc HB5.out.size _).trans hb6), Lib.hid (fun x hx => by
                    rcases List.mem_append.1 hx with hx | hx
                    · exact HGN.out x hx
                    · obtain rfl := List.mem_singleton.1 hx
                      exact HNT.out)⟩, ?_⟩
                  simp [intOf]
                  omega
              · obtain rfl : k = m3 := by omega
                have HRG := Lib.hid (HGO.out.rd (by rw [HGL.out]; omega))
                have HDU : Hid (Duo (fun j => u14.ownBlock = some j) w wr p q s s) := Lib.hid (HS4.out.also HGB.out fun j hj => .inr (HGO.out.lt j hj))
                have HL3 : Hid (bx.length ≤ 300) := Lib.hid (by rw [HL.out]; omega)
                obtain ⟨y, hy, hy15⟩ := nand_low z 15 (by omega)
                change bits .and .i64 z 15 = (y : Int) at hy
                obtain ⟨m8, hm8, hm85⟩ := nand_low (z / 256) 15 (by omega)
                change bits .and .i64 (z / 256) 15 = (m8 : Int) at hm8
                go_upto_block 4 with fail
                go_cut [17, 18, 19, 20, 21, 22, 23, 24, 25, 26, 27, 28, 29, 30, 31, 32] from 114 to 257 (fun _ _ _ _ _ _ _ _ _ _ _ _ _ _ _ _ wx => ∃ s', Hid (Duo (fun _ => False) w wx p q s' s') ∧ Hid (Bd s' (i + 1)))
                case first =>
                  have h16 : y = 0 ∨ y = 1 ∨ y = 2 ∨ y = 3 ∨ y = 4 ∨ y = 5 ∨ y = 6 ∨ y = 7 ∨ y = 8 ∨ y = 9 ∨ y = 10 ∨ y = 11 ∨ y = 12 ∨ y = 13 ∨ y = 14 ∨ y = 15 := by omega
                  clear hy15
                  rcases h16 with rfl | rfl | rfl | rfl | rfl | rfl | rfl | rfl | rfl | rfl | rfl | rfl | rfl | rfl | rfl | rfl
                  · as_aux_lemma =>
                    go_wp2_with fail
                    refine (duo_make1 a bx _ HDU.out HBD.out (by omega) HNA.out HBX.out HL3.out).mono ?_
                    rintro e w5 ⟨rfl, hd, hk⟩
                    have HD1 := Lib.hid hd
                    clear hd hk
                    go_wp2_with fail
                    refine (duo_make2 a bx _ HD1.out HBD.out (by omega) HNA.out HBX.out HL3.out rfl).mono ?_
                    rintro e w6 ⟨rfl, hd⟩
                    have HD2 := Lib.hid (hd.less (X' := fun _ => False) fun _ h => h.elim)
                    clear hd
                    generalize (make s a bx).2.1 = r1, (make s a bx).2.2 = r2
                    go_wp2
                    go_meet
                    exact ⟨_, HD2, Lib.hid (HBD.out.make a HL3.out)⟩
                  · as_aux_lemma =>
                    go_wp2_with fail
                    refine (duo_make1 a bx _ HDU.out HBD.out (by omega) HNA.out HBX.out HL3.out).mono ?_
                    rintro e w5 ⟨rfl, hd, hk⟩
                    have HD1 := Lib.hid hd
                    clear hd hk
                    go_wp2_with fail
                    refine (duo_make2 a bx _ HD1.out HBD.out (by omega) HNA.out HBX.out HL3.out rfl).mono ?_
                    rintro e w6 ⟨rfl, hd⟩
                    have HD2 := Lib.hid (hd.less (X' := fun _ => False) fun _ h => h.elim)
                    clear hd
                    generalize (make s a bx).2.1 = r1, (make s a bx).2.2 = r2
                    go_wp2
                    go_meet
                    exact ⟨_, HD2, Lib.hid (HBD.out.make a HL3.out)⟩
                  · as_aux_lemma =>
                    go_wp2_with fail
                    refine (duo_put1 a bx _ HDU.out HBD.out (by omega) HNA.out HBX.out HL3.out).mono ?_
                    rintro e w5 ⟨rfl, hd, hk⟩
                    have HD1 := Lib.hid hd
                    clear hd hk
                    go_wp2_with fail
                    refine (duo_put2 a bx _ HD1.out HBD.out (by omega) HNA.out HBX.out HL3.out rfl).mono ?_
                    rintro e w6 ⟨rfl, hd⟩
                    have HD2 := Lib.hid (hd.less (X' := fun _ => False) fun _ h => h.elim)
                    clear hd
                    generalize (putS s a bx).2.1 = r1, (putS s a bx).2.2 = r2
                    go_wp2
                    go_meet
                    exact ⟨_, HD2, Lib.hid (HBD.out.put a HL3.out)⟩
                  · as_aux_lemma =>
                    go_wp2_with fail
                    refine (duo_put1 a bx _ HDU.out HBD.out (by omega) HNA.out HBX.out HL3.out).mono ?_
                    rintro e w5 ⟨rfl, hd, hk⟩
                    have HD1 := Lib.hid hd
                    clear hd hk
                    go_wp2_with fail
                    refine (duo_put2 a bx _ HD1.out HBD.out (by omega) HNA.out HBX.out HL3.out rfl).mono ?_
                    rintro e w6 ⟨rfl, hd⟩
                    have HD2 := Lib.hid (hd.less (X' := fun _ => False) fun _ h => h.elim)
                    clear hd
                    generalize (putS s a bx).2.1 = r1, (putS s a bx).2.2 = r2
                    go_wp2
                    go_meet
                    exact ⟨_, HD2, Lib.hid (HBD.out.put a HL3.out)⟩
                  · as_aux_lemma =>
                    go_wp2_with fail
                    refine (duo_put1 a bx _ HDU.out HBD.out (by omega) HNA.out HBX.out HL3.out).mono ?_
                    rintro e w5 ⟨rfl, hd, hk⟩
                    have HD1 := Lib.hid hd
                    clear hd hk
                    go_wp2_with fail
                    refine (duo_put2 a bx _ HD1.out HBD.out (by omega) HNA.out HBX.out HL3.out rfl).mono ?_
                    rintro e w6 ⟨rfl, hd⟩
                    have HD2 := Lib.hid (hd.less (X' := fun _ => False) fun _ h => h.elim)
                    clear hd
                    generalize (putS s a bx).2.1 = r1, (putS s a bx).2.2 = r2
                    go_wp2
                    go_meet
                    exact ⟨_, HD2, Lib.hid (HBD.out.put a HL3.out)⟩
                  · as_aux_lemma =>
                    go_wp2_with fail
                    refine (duo_app1 a bx gs _ _ HDU.out HBD.out (by omega) HNA.out HBX.out HL3.out HRG.out HGN.out).mono ?_
                    rintro e w5 ⟨rfl, hd, hk⟩
                    have HD1 := Lib.hid hd
                    have HRG1 := Lib.hid (HRG.out.kept hk fun _ h => h)
                    clear hd hk
                    go_wp2_with fail
                    refine (duo_app2 a bx gs _ _ HD1.out HBD.out (by omega) HNA.out HBX.out HL3.out HRG1.out HGN.out rfl).mono ?_
                    rintro e w6 ⟨rfl, hd⟩
                    have HD2 := Lib.hid (hd.less (X' := fun _ => False) fun _ h => h.elim)
                    clear hd
                    generalize (app s a bx gs).2.1 = r1, (app s a bx gs).2.2 = r2
                    go_wp2
                    go_meet
                    exact ⟨_, HD2, Lib.hid (HBD.out.app a gs HL3.out)⟩
                  · as_aux_lemma =>
                    go_wp2_with fail
                    refine (duo_app1 a bx gs _ _ HDU.out HBD.out (by omega) HNA.out HBX.out HL3.out HRG.out HGN.out).mono ?_
                    rintro e w5 ⟨rfl, hd, hk⟩
                    have HD1 := Lib.hid hd
                    have HRG1 := Lib.hid (HRG.out.kept hk fun _ h => h)
                    clear hd hk
                    go_wp2_with fail
                    refine (duo_app2 a bx gs _ _ HD1.out HBD.out (by omega) HNA.out HBX.out HL3.out HRG1.out HGN.out rfl).mono ?_
                    rintro e w6 ⟨rfl, hd⟩
                    have HD2 := Lib.hid (hd.less (X' := fun _ => False) fun _ h => h.elim)
                    clear hd
                    generalize (app s a bx gs).2.1 = r1, (app s a bx gs).2.2 = r2
                    go_wp2
                    go_meet
                    exact ⟨_, HD2, Lib.hid (HBD.out.app a gs HL3.out)⟩
                  · as_aux_lemma =>
                    go_wp2_with fail
                    refine (duo_app1 a bx gs _ _ HDU.out HBD.out (by omega) HNA.out HBX.out HL3.out HRG.out HGN.out).mono ?_
                    rintro e w5 ⟨rfl, hd, hk⟩
                    have HD1 := Lib.hid hd
                    have HRG1 := Lib.hid (HRG.out.kept hk fun _ h => h)
                    clear hd hk
                    go_wp2_with fail
                    refine (duo_app2 a bx gs _ _ HD1.out HBD.out (by omega) HNA.out HBX.out HL3.out HRG1.out HGN.out rfl).mono ?_
                    rintro e w6 ⟨rfl, hd⟩
                    have HD2 := Lib.hid (hd.less (X' := fun _ => False) fun _ h => h.elim)
                    clear hd
                    generalize (app s a bx gs).2.1 = r1, (app s a bx gs).2.2 = r2
                    go_wp2
                    go_meet
                    exact ⟨_, HD2, Lib.hid (HBD.out.app a gs HL3.out)⟩
                  · as_aux_lemma =>
                    go_wp2_with fail
                    refine (duo_move1 a c gs _ HDU.out HBD.out (by omega) HNA.out HNC.out HRG.out HGN.out).mono ?_
                    rintro e w5 ⟨rfl, hd, hk⟩
                    have HD1 := Lib.hid hd
                    have HRG1 := Lib.hid (HRG.out.kept hk fun _ h => h)
                    clear hd hk
                    go_wp2_with fail
                    refine (duo_move2 a c gs _ HD1.out HBD.out (by omega) HNA.out HNC.out HRG1.out HGN.out rfl).mono ?_
                    rintro e w6 ⟨rfl, hd⟩
                    have HD2 := Lib.hid (hd.less (X' := fun _ => False) fun _ h => h.elim)
                    clear hd
                    generalize (Sf.move s a c gs).2.1 = r1, (Sf.move s a c gs).2.2 = r2
                    go_wp2
                    go_meet
                    exact ⟨_, HD2, Lib.hid (HBD.out.move a c gs)⟩
                  · as_aux_lemma =>
                    go_wp2_with fail
                    refine (duo_move1 a c gs _ HDU.out HBD.out (by omega) HNA.out HNC.out HRG.out HGN.out).mono ?_
                    rintro e w5 ⟨rfl, hd, hk⟩
                    have HD1 := Lib.hid hd
                    have HRG1 := Lib.hid (HRG.out.kept hk fun _ h => h)
                    clear hd hk
                    go_wp2_with fail
                    refine (duo_move2 a c gs _ HD1.out HBD.out (by omega) HNA.out HNC.out HRG1.out HGN.out rfl).mono ?_
                    rintro e w6 ⟨rfl, hd⟩
                    have HD2 := Lib.hid (hd.less (X' := fun _ => False) fun _ h => h.elim)
                    clear hd
                    generalize (Sf.move s a c gs).2.1 = r1, (Sf.move s a c gs).2.2 = r2
                    go_wp2
                    go_meet
                    exact ⟨_, HD2, Lib.hid (HBD.out.move a c gs)⟩
                  · as_aux_lemma =>
                    go_wp2_with fail
                    refine (duo_move1 a c gs _ HDU.out HBD.out (by omega) HNA.out HNC.out HRG.out HGN.out).mono ?_
                    rintro e w5 ⟨rfl, hd, hk⟩
                    have HD1 := Lib.hid hd
                    have HRG1 := Lib.hid (HRG.out.kept hk fun _ h => h)
                    clear hd hk
                    go_wp2_with fail
                    refine (duo_move2 a c gs _ HD1.out HBD.out (by omega) HNA.out HNC.out HRG1.out HGN.out rfl).mono ?_
                    rintro e w6 ⟨rfl, hd⟩
                    have HD2 := Lib.hid (hd.less (X' := fun _ => False) fun _ h => h.elim)
                    clear hd
                    generalize (Sf.move s a c gs).2.1 = r1, (Sf.move s a c gs).2.2 = r2
                    go_wp2
                    go_meet
                    exact ⟨_, HD2, Lib.hid (HBD.out.move a c gs)⟩
                  · as_aux_lemma =>
                    go_wp2_with fail
                    refine (duo_drop1 a gs _ HDU.out HBD.out (by omega) HNA.out HRG.out HGN.out).mono ?_
                    rintro e w5 ⟨rfl, hd, hk⟩
                    have HD1 := Lib.hid hd
                    have HRG1 := Lib.hid (HRG.out.kept hk fun _ h => h)
                    clear hd hk
                    go_wp2_with fail
                    refine (duo_drop2 a gs _ HD1.out HBD.out (by omega) HNA.out HRG1.out HGN.out rfl).mono ?_
                    rintro e w6 ⟨rfl, hd⟩
                    have HD2 := Lib.hid (hd.less (X' := fun _ => False) fun _ h => h.elim)
                    clear hd
                    generalize (Sf.drop s a gs).2 = r1
                    go_wp2
                    go_meet
                    exact ⟨_, HD2, Lib.hid (HBD.out.drop a gs)⟩
                  · as_aux_lemma =>
                    go_wp2_with fail
                    refine (duo_room1 _ HDU.out HBD.out (by omega)).mono ?_
                    rintro e w5 ⟨rfl, hd, hk⟩
                    have HD1 := Lib.hid hd
                    clear hd hk
                    go_wp2_with fail
                    refine (duo_room2 _ HD1.out HBD.out (by omega) rfl).mono ?_
                    rintro e w6 ⟨rfl, hd⟩
                    have HD2 := Lib.hid (hd.less (X' := fun _ => False) fun _ h => h.elim)
                    clear hd
                    go_wp2
                    go_meet
                    exact ⟨_, HD2, Lib.hid ((HBD.out.with (by rfl) (by rfl)).more (by omega))⟩
                  · as_aux_lemma =>
                    go_wp2_with fail
                    refine (duo_cut1 _ HDU.out HBD.out (by omega) (by omega)).mono ?_
                    rintro e w5 ⟨rfl, hd, hk⟩
                    have HD1 := Lib.hid hd
                    clear hd hk
                    go_wp2_with fail
                    refine (duo_cut2 _ HD1.out HBD.out (by omega) (by omega) rfl).mono ?_
                    rintro e w6 ⟨rfl, hd⟩
                    have HD2 := Lib.hid (hd.less (X' := fun _ => False) fun _ h => h.elim)
                    clear hd
                    go_wp2
                    go_meet
                    exact ⟨_, HD2, Lib.hid ((HBD.out.with (by rfl) (by rfl)).more (by omega))⟩
                  · as_aux_lemma =>
                    go_wp2
                    go_meet
                    exact ⟨s, Lib.hid (HDU.out.less (X' := fun _ => False) fun _ h => h.elim), Lib.hid (HBD.out.more (by omega))⟩
                  · as_aux_lemma =>
                    go_wp2
                    go_meet
                    exact ⟨s, Lib.hid (HDU.out.less (X' := fun _ => False) fun _ h => h.elim), Lib.hid (HBD.out.more (by omega))⟩
                case rest =>
                  obtain ⟨s', HD, HB⟩ := hcut
                  obtain ⟨w6, rfl⟩ : ∃ wx : World, wx = wc := ⟨_, rfl⟩
                  as_aux_lemma =>
                  go_wp2_with fail
                  refine (duo_read1 a HD.out HB.out (by omega) HNA.out).mono ?_
                  rintro e w7 ⟨v1, rfl, ho1, hb1⟩
                  have HD7 := Lib.hid (HD.out.under hb1)
                  go_wp2_with fail
                  refine (duo_read2 a HD7.out HB.out (by omega) HNA.out).mono ?_
                  rintro e w8 ⟨v2, rfl, ho2, hb2⟩
                  have HD8 := Lib.hid (HD7.out.under hb2)
                  have HB1 : Hid (Bytes w8 v1 (Sf.read s' a).1) := Lib.hid (ho1.under hb2).bytes
                  have HB2 : Hid (Bytes w8 v2 (Sf.read s' a).1) := Lib.hid ho2.bytes
                  clear ho1 ho2 hb1 hb2
                  generalize (Sf.read s' a).2.1 = r1, (Sf.read s' a).2.2 = r2
                  obtain ⟨T, hT⟩ : ∃ T, (Sf.read s' a).1 = T := ⟨_, rfl⟩
                  rw [hT] at HB1 HB2
                  clear hT
                  have hc1 := run_text HB1.out
                  have hc2 := run_text HB2.out
                  go_wp2_with fail
                  refine (duo_stamp1 c HD8.out HB.out (by omega) HNC.out).mono ?_
                  rintro e w8' ⟨rfl, rfl⟩
                  go_wp2_with fail
                  refine (duo_stamp2 c HD8.out HB.out (by omega) HNC.out).mono ?_
                  rintro e w8' ⟨rfl, rfl⟩
                  generalize stamp s'.l c = st3
                  go_wp2_with fail
                  refine (duo_used1 HD8.out HB.out (by omega)).mono ?_
                  rintro e w8' ⟨rfl, rfl⟩
                  go_wp2_with fail
                  refine (duo_used2 HD8.out HB.out (by omega)).mono ?_
                  rintro e w8' ⟨rfl, rfl⟩
                  generalize used s'.l = us3
                  clear hc1 hc2
                  as_aux_lemma =>
                  go_wp2_with fail
                  refine (duo_list1e HD8.out HB.out (by omega)).mono ?_
                  rintro e w9 ⟨x9, rfl, ho1, hb1⟩
                  have HD9 := Lib.hid (HD8.out.under hb1)
                  have HO1e := Lib.hid ho1
                  clear ho1 hb1
                  go_wp2_with fail
                  refine (duo_list2e HD9.out HB.out (by omega)).mono ?_
                  rintro e w10 ⟨x10, rfl, ho2, hb2⟩
                  have HD10 := Lib.hid (HD9.out.under hb2)
                  have HSe := Lib.hid (duo_same [] (HO1e.out.under hb2) ho2 HD10.out.good HB.out (by omega))
                  clear ho2 hb2
                  go_wp2_with fail
                  refine HSe.out.mono ?_
                  rintro e w11 ⟨rfl, hb3⟩
                  have HD11 := Lib.hid (HD10.out.under hb3)
                  clear hb3
                  as_aux_lemma =>
                  go_wp2_with fail
                  refine (duo_list1t HD11.out HB.out (by omega)).mono ?_
                  rintro e w12 ⟨x12, rfl, ho1, hb1⟩
                  have HD12 := Lib.hid (HD11.out.under hb1)
                  have HO1t := Lib.hid ho1
                  clear ho1 hb1
                  go_wp2_with fail
                  refine (duo_list2t HD12.out HB.out (by omega)).mono ?_
                  rintro e w13 ⟨x13, rfl, ho2, hb2⟩
                  have HD13 := Lib.hid (HD12.out.under hb2)
                  have HSt := Lib.hid (duo_same [116, 109, 112] (HO1t.out.under hb2) ho2 HD13.out.good HB.out (by omega))
                  clear ho2 hb2
                  go_wp2_with fail
                  refine HSt.out.mono ?_
                  rintro e w14 ⟨rfl, hb3⟩
                  have HD14 := Lib.hid (HD13.out.under hb3)
                  clear hb3
                  as_aux_lemma =>
                  go_wp2_with fail
                  refine (duo_list1 a HD14.out HB.out (by omega) HNA.out.1 HNA.out.2).mono ?_
                  rintro e w15 ⟨x15, rfl, ho1, hb1⟩
                  have HD15 := Lib.hid (HD14.out.under hb1)
                  have HO1a := Lib.hid ho1
                  clear ho1 hb1
                  go_wp2_with fail
                  refine (duo_list2 a HD15.out HB.out (by omega) HNA.out.1 HNA.out.2).mono ?_
                  rintro e w16 ⟨x16, rfl, ho2, hb2⟩
                  have HD16 := Lib.hid (HD15.out.under hb2)
                  have HSa := Lib.hid (duo_same a (HO1a.out.under hb2) ho2 HD16.out.good HB.out (by omega))
                  clear ho2 hb2
                  go_wp2_with fail
                  refine HSa.out.mono ?_
                  rintro e w17 ⟨rfl, hb3⟩
                  have HD17 := Lib.hid (HD16.out.under hb3)
                  clear hb3
                  as_aux_lemma =>
                  go_wp2
                  go_roundw
                  case rel => exact ⟨i + 1, s', by omega, by omega, by go_num, HD17, HB⟩
                  case measure => simp [intOf]; omega
      · have k1 : ¬ ((i : Int) < (N : Int) ∧ (i : Int) < 120) := by omega
        by_cases k2 : (i : Int) < (N : Int)
        · have k3 : ¬ ((i : Int) < 120) := by omega
          clear k1
          as_aux_lemma =>
          go_wp2_with fail
          refine (fawake_any wr).mono ?_
          rintro e w5 ⟨rfl, hb5⟩
          have HB5 := Lib.hid (HS.out.below.trans (hb5.mono HS.out.below.size))
          clear hb5
          go_wp2
          go_ret
          exact ⟨rfl, HB5.out⟩
        · clear k1
          go_wp2_with fail
          refine (fawake_any wr).mono ?_
          rintro e w5 ⟨rfl, hb5⟩
          have HB5 := Lib.hid (HS.out.below.trans (hb5.mono HS.out.below.size))
          clear hb5
          go_wp2
          go_ret
          exact ⟨rfl, HB5.out⟩
end Go.Proofs.Ytlfgadcfjjjbfaa
