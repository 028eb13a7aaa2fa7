/- The document's own answer for temps' texts. -/
import Derived.Test.YtpgoofkpcbbhjaaDoorNameRef
import Derived.Test.YtpgoofkpcbbhjaaDoorTexts
namespace Go.Proofs.YtpgoofkpcbbhjaaDoor
open Go.ChangeShapes Go.WideShapes Go.ChangeAt Go.RowKit

def OfIs (l : List Nat) (w : World) (e : Ending) (w' : World) : Prop := e = .returned (.tuple #[.int .i64 (Nm.ofWho l : Nat), .int .i64 (Nm.ofInc l : Nat), .bool (Nm.isOf l)]) ∧ Below w.heap.size w w'
theorem ofIs_not {l : List Nat} {w w' : World} (h : Nm.isOf l = false) (hb : Below w.heap.size w w') : OfIs l w (.returned (.tuple #[.int .i64 0, .int .i64 0, .bool false])) w' := by
  refine ⟨?_, hb⟩
  rw [Nm.ofWho, Nm.ofInc, h]
  rfl
set_option maxHeartbeats 2000000 in
theorem refof_any (l : List Nat) (w : World) (hl : ∀ c ∈ l, c < 256) (hm : l.length ≤ 1073741824) :
    Calls Tryd.prog 12 #[.string (str l)] w (OfIs l w) := by
  have hsz := str_size l
  obtain ⟨n, hn⟩ : ∃ n, l.length = n := ⟨_, rfl⟩
  rw [hn] at hm hsz
  have HN := Lib.hid hn
  have HL := Lib.hid hl
  have HG := Lib.hid (fun k h => str_get hl k h)
  have hpart := fun (a b : Nat) => str_part l a b
  clear hn hl
  go_enter Tryd.func12, Tryd.ntmps12
  by_cases h4 : n < 4
  · have HZ := Lib.hid (Nm.isOf_short (l := l) (by rw [HN.out]; exact h4))
    go_wp2
    go_ret3
    exact ofIs_not HZ.out (Below.refl _ _)
  have h4' : (4 : Int) ≤ (n : Int) := by omega
  have HE := Lib.hid (show ∀ m : List Nat, (∀ c ∈ m, c < 256) → ((str (l.take 4)).toList == (str m).toList) = decide (l.take 4 = m) from fun m hm' => str_same (fun c hc => HL.out c (List.mem_of_mem_take hc)) hm')
  by_cases ht : l.take 4 = [116, 109, 112, 47]
  · have he : ((str (l.take 4)).toList == [116, 109, 112, 47]) = true := by
      rw [show ([116, 109, 112, 47] : List UInt8) = (str [116, 109, 112, 47]).toList from by rw [str_toList]; rfl, HE.out _ (by simp)]
      exact decide_eq_true ht
    have HT := Lib.hid ht
    clear ht h4
    go_wp2_with fail
    go_loopw [5, 6] (fun v i wr => ∃ K : Nat, 4 ≤ K ∧ K ≤ n ∧ i = .int .i64 K ∧ OwnT wr w.heap.size v (Nm.parts ((l.drop 4).take (K - 4))) ∧ Below w.heap.size w wr) (fun _ i _ => n - (intOf i).toNat)
    case atStart => exact ⟨4, by omega, by omega, rfl, ownT_one w _ [] (Nat.le_refl _), (Below.refl _ _).alloc (Nat.le_refl _) _⟩
    case round =>
      obtain ⟨K, hK4, hK, rfl, ho, hb⟩ := hrel
      have HP := Lib.hid (show K < n → Nm.parts ((l.drop 4).take (K + 1 - 4)) = Nm.addTo (Nm.parts ((l.drop 4).take (K - 4))) (l.getD K 0) from fun h => by
        have := Nm.parts_take (l := l) (k := K - 4) (by rw [HN.out]; omega)
        rwa [show K - 4 + 1 = K + 1 - 4 from by omega, show K - 4 + 4 = K from by omega] at this)
      have HF := Lib.hid (Nm.parts_fit (l := (l.drop 4).take (K - 4)) fun c hc => HL.out c (List.mem_of_mem_drop (List.mem_of_mem_take hc)))
      have HLn := Lib.hid (Nm.parts_len ((l.drop 4).take (K - 4)))
      have HLt := Lib.hid (show ((l.drop 4).take (K - 4)).length ≤ 1073741824 by rw [List.length_take]; omega)
      have HEnd := Lib.hid (show K = n → Nm.parts ((l.drop 4).take (K - 4)) = Nm.parts (l.drop 4) from fun h => by rw [List.take_of_length_le (by rw [List.length_drop, HN.out]; omega)])
      obtain ⟨L, hL⟩ : ∃ L, Nm.parts ((l.drop 4).take (K - 4)) = L := ⟨_, rfl⟩
      rw [hL] at ho HP HF HLn HEnd
      clear hL
      obtain ⟨N, hN⟩ : ∃ N, L.length = N := ⟨_, rfl⟩
      have hN1 : 1 ≤ N := by rw [← hN]; exact HLn.out.1
      have hN2 : N ≤ 1073741825 := by rw [← hN]; have := HLn.out.2; have := HLt.out; omega
      obtain ⟨g, c, rfl, hg1, hg2⟩ := ho.parts (fun e => by rw [e] at hN; simp at hN; omega)
      rw [hN] at ho ⊢
      have HNN := Lib.hid hN
      have HO := Lib.hid ho
      clear ho hN
      by_cases hlt : K < n
      · have hlt' : (K : Int) < (n : Int) := by omega
        have hks : K < (str l).size := by rw [hsz]; exact hlt
        obtain ⟨x, hx, HX⟩ : ∃ x, ((str l)[K]'hks).toNat = x ∧ Hid (l.getD K 0 = x) := ⟨_, rfl, Lib.hid (HG.out K hks).symm⟩
        by_cases h46 : x = 46
        · subst h46
          have HA : Hid (L ++ [[]] = Nm.parts ((l.drop 4).take (K + 1 - 4))) := Lib.hid (by rw [HP.out hlt, HX.out]; rfl)
          go_wp2_with (at_builtin; refine wpList_append_text rfl _ _ rfl w.heap.size (.slice (some ⟨g, 0, none⟩) N c) L [] rfl HO.out rfl _ ?_ ?_ (Nm.parts ((l.drop 4).take (K + 1 - 4))) HA.out ?_)
          case _ => rw [HNN.out]; omega
          case _ => exact hb.size
          rintro v' w' ⟨hv, hgr, hbl⟩
          have hb2 := (hb.alloc hb.size (.cells #[.string (str [])] 9)).trans hbl
          have HO' := Lib.hid hv
          clear hv
          go_wp2
          go_roundw
          case rel => exact ⟨K + 1, by omega, by omega, by go_num, HO'.out, hb2⟩
          case measure => simp [intOf]; omega
        · have hx46 : ¬ (x : Int) = 46 := by omega
          have hfz := HO.out.frozen (N - 1)
          obtain ⟨P, hP⟩ : ∃ P, L.getD (N - 1) [] = P := ⟨_, rfl⟩
          have hcl : wr.cell? ⟨g, N - 1, none⟩ = some (.string (str P)) := hP ▸ HO.out.cell (k := N - 1) (by rw [HNN.out]; omega)
          have hx1 : List.take 1 (List.drop K l) = [x] := by
            rw [List.drop_eq_getElem_cons (by rw [HN.out]; exact hlt), List.take_succ_cons, List.take_zero, ← HX.out, List.getD_eq_getElem?_getD, List.getElem?_eq_getElem (by rw [HN.out]; exact hlt)]
            rfl
          have hPl : P.length ≤ 1073741824 := by
            have h1 := (HF.out.getD (N - 1)).1
            rw [hP] at h1
            have := HLt.out
            omega
          have HA : Hid (L.set (N - 1) (P ++ [x]) = Nm.parts ((l.drop 4).take (K + 1 - 4))) := Lib.hid (by rw [HP.out hlt, HX.out, Nm.addTo, if_neg h46, HNN.out, hP])
          have hfit := str_fits (l := P) (m := List.take 1 (List.drop K l)) (by rw [hx1, List.length_singleton]; omega)
          have hadd : str P ++ str (List.take 1 (List.drop K l)) = str (P ++ [x]) := by rw [hx1, str_add]
          have hb3 : (N : Int) - 1 < (N : Int) := by omega
          have hb4 : (0 : Int) ≤ (N : Int) - 1 := by omega
          clear hP hx1 hPl
          go_wp2_with fail
          go_region
          go_wp2
          go_roundw
          case rel => exact ⟨K + 1, by omega, by omega, by go_num, by have := HO.out.set (N - 1) (P ++ [x]); rw [HA.out] at this; exact this, (hb.setCell hg1 _).drew⟩
          case measure => simp [intOf]; omega
      · obtain rfl : K = n := by omega
        have HE2 := Lib.hid (HEnd.out rfl)
        by_cases hN3 : N = 3
        · subst hN3
          have hc0 := HO.out.cell (k := 0) (by rw [HNN.out]; omega)
          have hc1 := HO.out.cell (k := 1) (by rw [HNN.out]; omega)
          have hc2 := HO.out.cell (k := 2) (by rw [HNN.out]; omega)
          have HQ := Lib.hid (Nm.isOf_eq (l := l) HT.out (by rw [← HE2.out, HNN.out]))
          have HQ0 : Hid (Nm.isOf l = true → Nm.ofWho l = Nm.num (L.getD 0 []) 3) := Lib.hid fun h => by rw [Nm.ofWho, if_pos h, ← HE2.out]
          have HQ1 : Hid (Nm.isOf l = true → Nm.ofInc l = Nm.num (L.getD 1 []) 5) := Lib.hid fun h => by rw [Nm.ofInc, if_pos h, ← HE2.out]
          have HQ' : Hid (Nm.isOf l = (Nm.isNum (L.getD 0 []) 3 && Nm.isNum (L.getD 1 []) 5 && Nm.isNum (L.getD 2 []) 5)) := Lib.hid (by rw [HQ.out, ← HE2.out])
          have HF0 := Lib.hid (HF.out.getD 0)
          have HF1 := Lib.hid (HF.out.getD 1)
          have HF2 := Lib.hid (HF.out.getD 2)
          obtain ⟨P0, hP0⟩ : ∃ P, L.getD 0 [] = P := ⟨_, rfl⟩
          obtain ⟨P1, hP1⟩ : ∃ P, L.getD 1 [] = P := ⟨_, rfl⟩
          obtain ⟨P2, hP2⟩ : ∃ P, L.getD 2 [] = P := ⟨_, rfl⟩
          rw [hP0] at hc0 HQ0 HQ' HF0
          rw [hP1] at hc1 HQ1 HQ' HF1
          rw [hP2] at hc2 HQ' HF2
          clear hP0 hP1 hP2 HQ
          go_wp2_with fail
          refine (refnumber_any P0 3 wr HF0.out.2 (by have := HF0.out.1; have := HLt.out; omega) (by omega)).mono ?_
          rintro e w' ⟨rfl, rfl⟩
          go_wp2_with fail
          refine (refnumber_any P1 5 wr HF1.out.2 (by have := HF1.out.1; have := HLt.out; omega) (by omega)).mono ?_
          rintro e w' ⟨rfl, rfl⟩
          go_wp2_with fail
          refine (refnumber_any P2 5 wr HF2.out.2 (by have := HF2.out.1; have := HLt.out; omega) (by omega)).mono ?_
          rintro e w' ⟨rfl, rfl⟩
          obtain ⟨q0, hq0⟩ : ∃ q, Nm.isNum P0 3 = q := ⟨_, rfl⟩
          obtain ⟨q1, hq1⟩ : ∃ q, Nm.isNum P1 5 = q := ⟨_, rfl⟩
          obtain ⟨q2, hq2⟩ : ∃ q, Nm.isNum P2 5 = q := ⟨_, rfl⟩
          rw [hq0, hq1, hq2] at HQ'
          rw [hq0, hq1, hq2]
          clear hq0 hq1 hq2
          rcases q0 with _ | _
          · go_wp2
            go_ret3
            exact ofIs_not (by rw [HQ'.out]; rfl) hb
          rcases q1 with _ | _
          · go_wp2
            go_ret3
            exact ofIs_not (by rw [HQ'.out]; rfl) hb
          rcases q2 with _ | _
          · go_wp2
            go_ret3
            exact ofIs_not (by rw [HQ'.out]; rfl) hb
          have HY : Hid (Nm.isOf l = true) := Lib.hid HQ'.out
          go_wp2
          go_ret3
          exact ⟨by rw [HQ0.out HY.out, HQ1.out HY.out, HY.out]; rfl, hb⟩
        · have HZ := Lib.hid (Nm.isOf_parts (l := l) (by rw [← HE2.out, HNN.out]; exact hN3))
          have hn3 : ((N : Int) != 3) = true := by simp; omega
          clear hN3
          go_wp2
          go_ret3
          exact ofIs_not HZ.out hb
  · have he : ((str (l.take 4)).toList == [116, 109, 112, 47]) = false := by
      rw [show ([116, 109, 112, 47] : List UInt8) = (str [116, 109, 112, 47]).toList from by rw [str_toList]; rfl, HE.out _ (by simp)]
      exact decide_eq_false ht
    have HZ := Lib.hid (Nm.isOf_head ht)
    clear ht h4
    go_wp2
    go_ret3
    exact ofIs_not HZ.out (Below.refl _ _)
end Go.Proofs.YtpgoofkpcbbhjaaDoor
