/- The document's own answer for names. -/
import Derived.Test.YtemliglhippdcaaText
import Derived.Test.YtemliglhippdcaaNameMath
namespace Go.Proofs.Ytemliglhippdcaa
set_option maxRecDepth 100000
open Go.ChangeShapes Go.WideShapes Go.ChangeAt Go.RowKit

set_option maxHeartbeats 2000000 in
theorem refok_any (l : List Nat) (w : World) (hl : ∀ c ∈ l, c < 256) (hm : l.length ≤ 1099511627776) :
    Calls Try.prog 71 #[.string (str l)] w fun e w' => e = .returned (.bool (Nm.ok l)) ∧ w = w' := by
  have hsz := str_size l
  obtain ⟨n, hn⟩ : ∃ n, l.length = n := ⟨_, rfl⟩
  rw [hn] at hm hsz
  have HN := Lib.hid hn
  have HG := Lib.hid (fun k h => str_get hl k h)
  clear hn hl
  obtain ⟨s, hs⟩ : ∃ s, str l = s := ⟨_, rfl⟩
  rw [hs] at hsz HG ⊢
  clear hs
  go_enter Try.func71, Try.ntmps71
  go_wp2
  go_loop [3] (fun i => ∃ k : Nat, k ≤ n ∧ i = .int .i64 k ∧ Hid (∀ j, j < k → Nm.okc (l.getD j 0) = true)) (fun i => n - (intOf i).toNat)
  case atStart => exact ⟨0, by omega, rfl, Lib.hid (by omega)⟩
  case round =>
    obtain ⟨k, hk, rfl, hall⟩ := hrel
    by_cases hlt : k < n
    · have hlt' : (k : Int) < (n : Int) := by omega
      have hks : k < s.size := by rw [hsz]; exact hlt
      obtain ⟨x, hx, HX⟩ : ∃ x, (s[k]'hks).toNat = x ∧ Hid (l.getD k 0 = x) := ⟨_, rfl, Lib.hid (HG.out k hks).symm⟩
      have hnext : Nm.okc x = true → ∀ j, j < k + 1 → Nm.okc (l.getD j 0) = true := fun h j hj => by
        rcases Nat.lt_or_ge j k with h1 | h1
        · exact hall.out j h1
        · rw [show j = k from by omega, HX.out]; exact h
      have HNX := Lib.hid hnext
      clear hnext
      rcases Nm.okc_split x with ⟨ho, hc⟩ | ⟨ho, hc⟩
      · have HO := Lib.hid ho
        clear ho
        have hc' : ((97 : Int) ≤ (x : Int) ∧ (x : Int) ≤ 122) ∨ ((x : Int) < 97 ∧ (48 : Int) ≤ (x : Int) ∧ (x : Int) ≤ 57) ∨ x = 46 ∨ x = 45 ∨ x = 95 := by omega
        clear hc
        rcases hc' with ⟨c1, c2⟩ | ⟨c1, c2, c3⟩ | rfl | rfl | rfl
        all_goals
          go_wp2
          go_round
          case rel => exact ⟨k + 1, by omega, by go_num, Lib.hid (HNX.out HO.out)⟩
          case measure => simp [intOf]; omega
      · have hw := Nm.ok_not (l := l) (k := k) (by rw [HN.out]; exact hlt) (by rw [HX.out]; exact ho)
        have HW := Lib.hid hw
        clear ho hw
        have hc' : (x : Int) < 45 ∨ x = 47 ∨ ((57 : Int) < (x : Int) ∧ (x : Int) < 95) ∨ x = 96 ∨ (122 : Int) < (x : Int) := by omega
        clear hc
        rcases hc' with c1 | rfl | ⟨c1, c2⟩ | rfl | c1
        all_goals
          go_wp2
          all_goals first
          | (go_ret; exact ⟨by rw [HW.out]; rfl, rfl⟩)
          | (exfalso; rename_i h; simp at h; omega)
    · obtain rfl : k = n := by omega
      have HW := Lib.hid (Nm.ok_of (Nm.all_of fun j hj => hall.out j (by rw [HN.out] at hj; exact hj)))
      have hnc : (k : Int) < 1 ∨ ((1 : Int) ≤ (k : Int) ∧ (k : Int) ≤ 16) ∨ ((1 : Int) ≤ (k : Int) ∧ (16 : Int) < (k : Int)) := by omega
      rcases hnc with c1 | ⟨c1, c2⟩ | ⟨c1, c2⟩
      · go_wp2
        go_ret
        exact ⟨by rw [HW.out, HN.out, decide_eq_false (show ¬ 1 ≤ k by omega)]; rfl, rfl⟩
      · go_wp2
        go_ret
        exact ⟨by rw [HW.out, HN.out, decide_eq_true (show 1 ≤ k by omega), decide_eq_true (show k ≤ 16 by omega)]; rfl, rfl⟩
      · go_wp2
        go_ret
        refine ⟨?_, rfl⟩
        rw [HW.out, HN.out, decide_eq_true (show 1 ≤ k by omega), decide_eq_false (show ¬ k ≤ 16 by omega)]
        show Ending.returned (.bool (decide ((k : Int) ≤ 16))) = _
        rw [decide_eq_false (show ¬ (k : Int) ≤ 16 by omega)]
        rfl

def szOf : Value → Nat
  | .string b => b.size
  | _ => 0
theorem dec_less (m : Nat) (l : List Nat) (h : ¬ m = 0) : 2 * (m / 10) + (1 - szOf (.string (str ((48 + m % 10) :: l)))) < 2 * m + (1 - szOf (.string (str l))) := by
  simp only [szOf, str_size, List.length_cons]
  omega
theorem run_low2 {P : Program} (w : World) (ts : Array TypeId) (t : TypeId) (x y n : Int) (h : min x y = n) : (Builtin.min_ ts t #[.int .i64 x, .int .i64 y]).run P w = .ok (.int .i64 n) w := by
  have e : (if y < x then y else x) = n := by
    subst h
    simp only [Int.min_def]
    split <;> split <;> omega
  simp [Builtin.min_, Builtin.min2, e]
theorem run_top2 {P : Program} (w : World) (ts : Array TypeId) (t : TypeId) (x y n : Int) (h : max x y = n) : (Builtin.max_ ts t #[.int .i64 x, .int .i64 y]).run P w = .ok (.int .i64 n) w := by
  have e : (if y > x then y else x) = n := by
    subst h
    simp only [Int.max_def]
    split <;> split <;> omega
  simp [Builtin.max_, Builtin.max2, e]
set_option maxHeartbeats 2000000 in
theorem refnumber_any (l : List Nat) (D : Nat) (w : World) (hl : ∀ c ∈ l, c < 256) (hm : l.length ≤ 1099511627776) (hD : D ≤ 9) :
    Calls Try.prog 79 #[.string (str l), .int .i64 D] w fun e w' => e = .returned (.tuple #[.int .i64 (Nm.num l D : Nat), .bool (Nm.isNum l D)]) ∧ w = w' := by
  have hsz := str_size l
  obtain ⟨n, hn⟩ : ∃ n, l.length = n := ⟨_, rfl⟩
  rw [hn] at hm hsz
  have HN := Lib.hid hn
  have HL := Lib.hid hl
  have HG := Lib.hid (fun k h => str_get hl k h)
  clear hn hl
  go_enter Try.func79, Try.ntmps79
  go_wp2
  go_loop [6, 7] (fun t i => ∃ k : Nat, k ≤ n ∧ k ≤ D ∧ i = .int .i64 k ∧ t = .int .i64 ((Nm.val (l.take k) : Nat) : Int) ∧ Hid (∀ j, j < k → Nm.dig (l.getD j 0) = true)) (fun _ i => n - (intOf i).toNat)
  case atStart => exact ⟨0, by omega, by omega, rfl, rfl, Lib.hid (by omega)⟩
  case round =>
    obtain ⟨k, hk, hkD, rfl, rfl, hall⟩ := hrel
    obtain ⟨V, hV⟩ : ∃ V, Nm.val (l.take k) = V := ⟨_, rfl⟩
    have HV := Lib.hid hV
    rw [hV]
    clear hV
    by_cases hlt : k < n
    · have hlt' : (k : Int) < (n : Int) := by omega
      have hks : k < (str l).size := by rw [hsz]; exact hlt
      obtain ⟨x, hx, HX⟩ : ∃ x, ((str l)[k]'hks).toNat = x ∧ Hid (l.getD k 0 = x) := ⟨_, rfl, Lib.hid (HG.out k hks).symm⟩
      have HB : Hid (Nm.dig x = false → Nm.isNum l D = false) := Lib.hid fun h => Nm.isNum_bad (k := k) D (by rw [HN.out]; exact hlt) (by rw [HX.out]; exact h)
      have hc : (x : Int) < 48 ∨ (57 : Int) < (x : Int) ∨ ((48 : Int) ≤ (x : Int) ∧ (x : Int) ≤ 57 ∧ (D : Int) ≤ (k : Int)) ∨ ((48 : Int) ≤ (x : Int) ∧ (x : Int) ≤ 57 ∧ (k : Int) < (D : Int)) := by omega
      rcases hc with c1 | c1 | ⟨c1, c2, c3⟩ | ⟨c1, c2, c3⟩
      · have HZ := Lib.hid (HB.out (by simp [Nm.dig]; omega))
        go_wp2
        go_ret2
        exact ⟨by rw [Nm.num, HZ.out]; rfl, rfl⟩
      · have HZ := Lib.hid (HB.out (by simp [Nm.dig]; omega))
        go_wp2
        go_ret2
        exact ⟨by rw [Nm.num, HZ.out]; rfl, rfl⟩
      · have HZ := Lib.hid (Nm.isNum_long (l := l) (d := D) (by rw [HN.out]; omega))
        go_wp2
        go_ret2
        exact ⟨by rw [Nm.num, HZ.out]; rfl, rfl⟩
      · have HX2 : Hid (∀ j, j < k + 1 → Nm.dig (l.getD j 0) = true) := Lib.hid fun j hj => by
          rcases Nat.lt_or_ge j k with h1 | h1
          · exact hall.out j h1
          · rw [show j = k from by omega, HX.out]
            simp [Nm.dig]
            omega
        have HV2 : Hid (Nm.val (l.take (k + 1)) = 10 * V + (x - 48)) := Lib.hid (by rw [Nm.val_take (by rw [HN.out]; exact hlt), HV.out, HX.out])
        have hV9 : V < 100000000 := by
          have h1 := Nm.val_lt (l := l) k (by rw [HN.out]; omega) fun j hj => Nm.dig_le (hall.out j hj)
          rw [HV.out] at h1
          exact Nat.lt_of_lt_of_le h1 (Nat.pow_le_pow_right (by omega) (show k ≤ 8 by omega))
        clear HB
        go_wp2
        go_round
        case rel => exact ⟨k + 1, by omega, by omega, by go_num, by rw [HV2.out]; go_num, HX2⟩
        case measure => simp [intOf]; omega
    · obtain rfl : k = n := by omega
      have hcs : k = 0 ∨ l = [48] ∨ (2 ≤ k ∧ l.getD 0 0 = 48) ∨ (1 ≤ k ∧ l.getD 0 0 ≠ 48) := by
        by_cases h0 : k = 0
        · exact .inl h0
        · by_cases h1 : l.getD 0 0 = 48
          · by_cases h2 : k = 1
            · refine .inr (.inl ?_)
              have := HN.out
              rw [h2] at this
              obtain ⟨a, rfl⟩ := List.length_eq_one_iff.1 this
              simpa using h1
            · exact .inr (.inr (.inl ⟨by omega, h1⟩))
          · exact .inr (.inr (.inr ⟨by omega, h1⟩))
      have HVF : Hid (Nm.val l = V) := Lib.hid (by rw [← HV.out, ← HN.out, List.take_length])
      rcases hcs with h | h | ⟨h1, h2⟩ | ⟨h1, h2⟩
      · have HZ := Lib.hid (Nm.isNum_nil D (HN.out.trans h))
        have he : (str l).toList = [] := by rw [List.length_eq_zero_iff.1 (HN.out.trans h), str_toList]; rfl
        clear h
        go_wp2
        go_ret2
        exact ⟨by rw [Nm.num, HZ.out]; rfl, rfl⟩
      · have hk1 : 1 ≤ k := by rw [← HN.out, h]; exact Nat.le_refl _
        have HZ := Lib.hid (Nm.isNum_yes HN.out hkD hk1 hall.out (.inl h))
        have he : (str l).toList = [48] := by rw [h, str_toList]; rfl
        clear h
        go_wp2
        go_ret2
        exact ⟨by rw [Nm.num, HZ.out, HVF.out]; rfl, rfl⟩
      all_goals
        have hks : 0 < (str l).size := by rw [hsz]; omega
        have hne : (str l).toList.isEmpty = false := by
          rw [str_toList]
          cases l with
          | nil => rw [HN.out.symm] at h1; simp at h1
          | cons c l => rfl
        obtain ⟨x, hx, HX⟩ : ∃ x, ((str l)[0]'hks).toNat = x ∧ Hid (l.getD 0 0 = x) := ⟨_, rfl, Lib.hid (HG.out 0 hks).symm⟩
      · have hn48 : ((str l).toList == [48]) = false := by
          rw [show ([48] : List UInt8) = (str [48]).toList from by rw [str_toList]; rfl, str_same HL.out (by simp)]
          exact decide_eq_false fun e => by rw [← HN.out, e] at h1; simp at h1
        have HZ := Lib.hid (Nm.isNum_lead D (by rw [HN.out]; exact h1) h2)
        obtain rfl : x = 48 := by rw [← HX.out]; exact h2
        clear h2
        go_wp2
        go_ret2
        exact ⟨by rw [Nm.num, HZ.out]; rfl, rfl⟩
      · have hn48 : ((str l).toList == [48]) = false := by
          rw [show ([48] : List UInt8) = (str [48]).toList from by rw [str_toList]; rfl, str_same HL.out (by simp)]
          exact decide_eq_false fun e => by rw [e] at h2; exact h2 rfl
        have HZ := Lib.hid (Nm.isNum_yes HN.out hkD h1 hall.out (.inr h2))
        have hx48 : ¬ (x : Int) = 48 := by have := HX.out; omega
        clear h2
        go_wp2
        go_ret2
        exact ⟨by rw [Nm.num, HZ.out, HVF.out]; rfl, rfl⟩
end Go.Proofs.Ytemliglhippdcaa
