/- Contracts of the program's own calls on names. -/
import Derived.Test.YtpgoofkpcbbhjaaDoorNameTabs
namespace Go.Proofs.YtpgoofkpcbbhjaaDoor
open Go.ChangeShapes Go.WideShapes Go.ChangeAt Go.RowKit

set_option maxRecDepth 100000 in
set_option maxHeartbeats 2000000 in
theorem may_any (x : Nat) (w : World) :
    Calls Tryd.prog 19 #[.int .u8 x] w fun e w' => e = .returned (.bool (Nm.okc x)) ∧ w = w' := by
  go_enter Tryd.func19, Tryd.ntmps19
  rcases Nm.okc_split x with ⟨ho, hc⟩ | ⟨ho, hc⟩
  · have HO := Lib.hid ho
    clear ho
    have hc' : ((97 : Int) ≤ (x : Int) ∧ (x : Int) ≤ 122) ∨ ((x : Int) < 97 ∧ (48 : Int) ≤ (x : Int) ∧ (x : Int) ≤ 57) ∨ x = 46 ∨ x = 45 ∨ x = 95 := by omega
    clear hc
    rcases hc' with ⟨c1, c2⟩ | ⟨c1, c2, c3⟩ | rfl | rfl | rfl
    all_goals
      go_wp2
      go_ret
      exact ⟨by rw [HO.out]; rfl, rfl⟩
  · have HO := Lib.hid ho
    clear ho
    have hc' : ((x : Int) < 45) ∨ x = 47 ∨ ((57 : Int) < (x : Int) ∧ (x : Int) < 95) ∨ x = 96 ∨ (122 : Int) < (x : Int) := by omega
    clear hc
    rcases hc' with c1 | rfl | ⟨c1, c2⟩ | rfl | c1
    all_goals
      go_wp2
      go_ret
      exact ⟨by rw [HO.out]; first | rfl | (simp; omega), rfl⟩

set_option maxRecDepth 100000 in
set_option maxHeartbeats 2000000 in
theorem ok_any (l : List Nat) (w : World) (hl : ∀ c ∈ l, c < 256) (hm : l.length ≤ 1073741824) :
    Calls Tryd.prog 7 #[.string (str l)] w fun e w' => e = .returned (.bool (Nm.ok l)) ∧ w = w' := by
  have hsz := str_size l
  obtain ⟨n, hn⟩ : ∃ n, l.length = n := ⟨_, rfl⟩
  rw [hn] at hm hsz
  have HN := Lib.hid hn
  have HG := Lib.hid (fun k h => str_get hl k h)
  clear hn hl
  obtain ⟨s, hs⟩ : ∃ s, str l = s := ⟨_, rfl⟩
  rw [hs] at hsz HG ⊢
  clear hs
  go_enter Tryd.func7, Tryd.ntmps7
  have hnc : (n : Int) < 1 ∨ ((1 : Int) ≤ (n : Int) ∧ (16 : Int) < (n : Int)) ∨ ((1 : Int) ≤ (n : Int) ∧ (n : Int) ≤ 16) := by omega
  have HW : Hid ((∀ j, j < n → Nm.okc (l.getD j 0) = true) → Nm.ok l = (decide (1 ≤ n) && decide (n ≤ 16))) := Lib.hid fun h => by
    rw [Nm.ok_of (Nm.all_of fun j hj => h j (by rw [HN.out] at hj; exact hj)), HN.out]
  have HZ : Hid (n < 1 ∨ 16 < n → Nm.ok l = false) := Lib.hid fun h => by
    unfold Nm.ok
    rw [HN.out]
    rcases h with h | h
    · rw [decide_eq_false (show ¬ 1 ≤ n by omega)]; simp
    · rw [decide_eq_false (show ¬ n ≤ 16 by omega)]; simp
  rcases hnc with c1 | ⟨c1, c2⟩ | ⟨c1, c2⟩
  · have HY := Lib.hid (HZ.out (.inl (by omega)))
    go_wp2
    go_ret
    exact ⟨by rw [HY.out]; rfl, rfl⟩
  · have HY := Lib.hid (HZ.out (.inr (by omega)))
    go_wp2
    go_ret
    exact ⟨by rw [HY.out]; rfl, rfl⟩
  · go_wp2_with fail
    go_loop [3, 14] (fun c i => ∃ k : Nat, k ≤ n ∧ i = .int .i64 k ∧ Hid (∀ j, j < k → Nm.okc (l.getD j 0) = true)) (fun _ i => n - (intOf i).toNat)
    case atStart => exact ⟨0, by omega, rfl, Lib.hid (by omega)⟩
    case round =>
      obtain ⟨k, hk, rfl, hall⟩ := hrel
      by_cases hlt : k < n
      · have hlt' : (k : Int) < (n : Int) := by omega
        have hks : k < s.size := by rw [hsz]; exact hlt
        obtain ⟨x, hx, HX⟩ : ∃ x, (s[k]'hks).toNat = x ∧ Hid (l.getD k 0 = x) := ⟨_, rfl, Lib.hid (HG.out k hks).symm⟩
        have hnext : Nm.okc x = true → ∀ j, j < k + 1 → Nm.okc (l.getD j 0) = true := fun h j hj => by
          rcases Nat.lt_or_ge j k with h1 | h1
          · exact hall.out j h1
          · rw [show j = k from by omega, HX.out]; exact h
        have HNX := Lib.hid hnext
        clear hnext
        go_wp2_with fail
        refine (may_any x w).mono ?_
        rintro e w' ⟨rfl, rfl⟩
        rcases ho : Nm.okc x with _ | _
        · have HV := Lib.hid (Nm.ok_not (l := l) (k := k) (by rw [HN.out]; exact hlt) (by rw [HX.out]; exact ho))
          clear ho
          go_wp2
          go_ret
          exact ⟨by rw [HV.out]; rfl, rfl⟩
        · have HO := Lib.hid (HNX.out ho)
          clear ho
          go_wp2
          go_round
          case rel => exact ⟨k + 1, by omega, by go_num, HO⟩
          case measure => simp [intOf]; omega
      · obtain rfl : k = n := by omega
        have HY : Hid (Nm.ok l = true) := Lib.hid (by rw [HW.out hall.out, decide_eq_true (show 1 ≤ k by omega), decide_eq_true (show k ≤ 16 by omega)]; rfl)
        go_wp2
        go_ret
        exact ⟨by rw [HY.out]; rfl, rfl⟩

set_option maxRecDepth 100000 in
set_option maxHeartbeats 2000000 in
theorem file_any (l : List Nat) (w : World) (hl : ∀ c ∈ l, c < 256) (hm : l.length ≤ 1073741824) (hT : Tabs w) :
    Calls Tryd.prog 8 #[.string (str l)] w fun e w' => e = .returned (.bool (Nm.file l)) ∧ Below w.heap.size w w' := by
  obtain ⟨-, ⟨M, hM⟩, -⟩ := hT
  have hC := Tryd.strings_Cut (str l) { data := #[47] } M w (by rw [str_size]; omega) hM
  rw [show ({ data := #[47] } : ByteArray).data.toList = [47] from rfl] at hC
  rcases cut_is l hl with ⟨hno, e1, e2, e3⟩ | ⟨k, hk, hx, hall, e1, e2, e3⟩
  · rw [e1, e2, e3] at hC
    have HC := Lib.hid hC
    have HW := Lib.hid (show Nm.file l = Nm.ok l by simp [Nm.file, hno])
    have HL := Lib.hid hl
    have HM := Lib.hid hm
    clear hC hl hm hno e1 e2 e3 hM
    go_enter Tryd.func8, Tryd.ntmps8
    go_wp2_with fail
    refine HC.out.mono ?_
    rintro e w' ⟨rfl, N, rfl⟩
    go_wp2_with fail
    refine (ok_any l _ HL.out HM.out).mono ?_
    rintro e w' ⟨rfl, rfl⟩
    go_wp2
    go_ret
    exact ⟨by rw [HW.out]; rfl, below_drewN w N⟩
  · rw [e1, e2, e3] at hC
    have HC := Lib.hid hC
    have HW := Lib.hid (Nm.file_at hk hx hall)
    have HL1 := Lib.hid (show ∀ c ∈ l.take k, c < 256 from fun c hc => hl c (List.mem_of_mem_take hc))
    have HL2 := Lib.hid (show ∀ c ∈ l.drop (k + 1), c < 256 from fun c hc => hl c (List.mem_of_mem_drop hc))
    have HM1 := Lib.hid (show (l.take k).length ≤ 1073741824 from by rw [List.length_take]; omega)
    have HM2 := Lib.hid (show (l.drop (k + 1)).length ≤ 1073741824 from by rw [List.length_drop]; omega)
    clear hC hl hm hk hx hall e1 e2 e3 hM
    obtain ⟨A, hA⟩ : ∃ A, l.take k = A := ⟨_, rfl⟩
    obtain ⟨B, hB⟩ : ∃ B, l.drop (k + 1) = B := ⟨_, rfl⟩
    rw [hA] at HC HW HL1 HM1
    rw [hB] at HC HW HL2 HM2
    clear hA hB
    go_enter Tryd.func8, Tryd.ntmps8
    go_wp2_with fail
    refine HC.out.mono ?_
    rintro e w' ⟨rfl, N, rfl⟩
    go_wp2_with fail
    refine (ok_any A _ HL1.out HM1.out).mono ?_
    rintro e w' ⟨rfl, rfl⟩
    rcases ha : Nm.ok A with _ | _
    · have HV : Hid (Nm.file l = false) := Lib.hid (by rw [HW.out, ha]; rfl)
      clear ha
      go_wp2
      go_ret
      exact ⟨by rw [HV.out]; rfl, below_drewN w N⟩
    · have HV : Hid (Nm.file l = Nm.ok B) := Lib.hid (by rw [HW.out, ha]; rfl)
      clear ha
      go_wp2_with fail
      refine (ok_any B _ HL2.out HM2.out).mono ?_
      rintro e w' ⟨rfl, rfl⟩
      go_wp2
      go_ret
      exact ⟨by rw [HV.out]; rfl, below_drewN w N⟩
set_option maxHeartbeats 1000000 in
theorem claim_any (l : List Nat) (w : World) (_hl : ∀ c ∈ l, c < 256) (hm : l.length ≤ 1073741824) :
    Calls Tryd.prog 15 #[.string (str l)] w fun e w' => e = .returned (.string (str ([99, 108, 97, 105, 109, 47] ++ l))) ∧ Below w.heap.size w w' := by
  have k1 : ({ data := #[99, 108, 97, 105, 109, 47] } : ByteArray) = str [99, 108, 97, 105, 109, 47] := rfl
  have hf := str_fits (l := [99, 108, 97, 105, 109, 47]) (m := l) (by simp only [List.length_cons, List.length_nil]; omega)
  have hadd := str_add [99, 108, 97, 105, 109, 47] l
  clear hm
  go_enter Tryd.func15, Tryd.ntmps15
  go_wp2
  go_ret
  exact ⟨rfl, Below.refl _ _⟩
set_option maxHeartbeats 1000000 in
theorem decimal_any (n : Int) (m : Nat) (hm : m ≤ 99999) (w : World) (hT : Tabs w) :
    Calls Tryd.prog 21 #[.int .i64 n, .int .i64 m] w fun e w' => e = .returned (.string (str (Nm.dec (Nm.held n m)))) ∧ Below w.heap.size w w' := by
  obtain ⟨a, ha⟩ : ∃ a, Nm.held n m = a := ⟨_, rfl⟩
  obtain ⟨M1, hM1⟩ : ∃ M, max n 0 = M := ⟨_, rfl⟩
  have x1 := fun (W : World) ts t => run_top2 (P := Tryd.prog) W ts t n 0 M1 hM1
  have y1 := fun (W : World) ts t => run_low2 (P := Tryd.prog) W ts t M1 m a (by rw [← ha, ← Nm.held_eq, hM1])
  have HA := Lib.hid (show a ≤ 99999 from by have := Nm.held_le n m; omega)
  have HT := Lib.hid hT
  rw [ha]
  clear ha hM1 hm hT
  go_enter Tryd.func21, Tryd.ntmps21
  go_wp2_with fail
  refine (itoa_any a HA.out w HT.out).mono ?_
  rintro e w' ⟨rfl, hb⟩
  go_wp2
  go_ret
  exact ⟨rfl, hb⟩
set_option maxRecDepth 100000 in
set_option maxHeartbeats 2000000 in
theorem temp_any (who inc n : Int) (w : World) (hT : Tabs w) :
    Calls Tryd.prog 10 #[.int .i64 who, .int .i64 inc, .int .i64 n] w fun e w' => e = .returned (.string (str (Nm.temp (Nm.held who 999) (Nm.held inc 99999) (Nm.held n 99999)))) ∧ Below w.heap.size w w' := by
  have d1 := fun (W : World) (h : Tabs W) => decimal_any who 999 (by omega) W h
  have d2 := fun (W : World) (h : Tabs W) => decimal_any inc 99999 (by omega) W h
  have d3 := fun (W : World) (h : Tabs W) => decimal_any n 99999 (by omega) W h
  have la := Nm.held_le who 999
  have lb := Nm.held_le inc 99999
  have lc := Nm.held_le n 99999
  obtain ⟨a, ha⟩ : ∃ a, Nm.held who 999 = a := ⟨_, rfl⟩
  obtain ⟨b, hb⟩ : ∃ b, Nm.held inc 99999 = b := ⟨_, rfl⟩
  obtain ⟨c, hc⟩ : ∃ c, Nm.held n 99999 = c := ⟨_, rfl⟩
  simp only [ha, hb, hc] at d1 d2 d3 la lb lc ⊢
  clear ha hb hc
  have k1 : ({ data := #[116, 109, 112, 47] } : ByteArray) = str [116, 109, 112, 47] := rfl
  have k2 : ({ data := #[46] } : ByteArray) = str [46] := rfl
  have hadd := str_add
  obtain ⟨D1, hD1⟩ : ∃ D, Nm.dec a = D := ⟨_, rfl⟩
  obtain ⟨D2, hD2⟩ : ∃ D, Nm.dec b = D := ⟨_, rfl⟩
  obtain ⟨D3, hD3⟩ : ∃ D, Nm.dec c = D := ⟨_, rfl⟩
  have L1 : D1.length ≤ 5 := hD1 ▸ Nm.dec_len (by omega) (by omega)
  have L2 : D2.length ≤ 5 := hD2 ▸ Nm.dec_len (by omega) (by omega)
  have L3 : D3.length ≤ 5 := hD3 ▸ Nm.dec_len (by omega) (by omega)
  have F1 := str_fits (l := [116, 109, 112, 47]) (m := D1) (by simp only [List.length_cons, List.length_nil]; omega)
  have F2 := str_fits (l := 116 :: 109 :: 112 :: 47 :: D1) (m := [46]) (by simp only [List.length_cons, List.length_nil]; omega)
  have F3 := str_fits (l := 116 :: 109 :: 112 :: 47 :: (D1 ++ [46])) (m := D2) (by simp only [List.length_cons, List.length_nil, List.length_append]; omega)
  have F4 := str_fits (l := 116 :: 109 :: 112 :: 47 :: (D1 ++ 46 :: D2)) (m := [46]) (by simp only [List.length_cons, List.length_nil, List.length_append]; omega)
  have F5 := str_fits (l := 116 :: 109 :: 112 :: 47 :: (D1 ++ 46 :: (D2 ++ [46]))) (m := D3) (by simp only [List.length_cons, List.length_nil, List.length_append]; omega)
  have HT : Hid (Nm.temp a b c = 116 :: 109 :: 112 :: 47 :: (D1 ++ 46 :: (D2 ++ 46 :: D3))) := Lib.hid (by rw [← hD1, ← hD2, ← hD3]; simp [Nm.temp])
  rw [hD1] at d1
  rw [hD2] at d2
  rw [hD3] at d3
  have E1 := Lib.hid d1
  have E2 := Lib.hid d2
  have E3 := Lib.hid d3
  have HTT := Lib.hid hT
  clear L1 L2 L3 hD1 hD2 hD3 d1 d2 d3 la lb lc hT
  go_enter Tryd.func10, Tryd.ntmps10
  go_wp2_with fail
  refine (E1.out w HTT.out).mono ?_
  rintro e w1 ⟨rfl, hb1⟩
  go_wp2_with fail
  refine (E2.out w1 (HTT.out.under hb1)).mono ?_
  rintro e w2 ⟨rfl, hb2⟩
  have hb12 := hb1.trans (hb2.mono hb1.size)
  clear hb1 hb2
  go_wp2_with fail
  refine (E3.out w2 (HTT.out.under hb12)).mono ?_
  rintro e w3 ⟨rfl, hb3⟩
  have hb13 := hb12.trans (hb3.mono hb12.size)
  clear hb12 hb3
  go_wp2
  go_ret
  exact ⟨by rw [HT.out]; rfl, hb13⟩
end Go.Proofs.YtpgoofkpcbbhjaaDoor
