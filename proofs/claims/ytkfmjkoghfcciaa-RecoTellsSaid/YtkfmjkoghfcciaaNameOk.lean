/- What package name answers of a name: is it one? -/
import Derived.Test.YtkfmjkoghfcciaaText
import Derived.Test.YtkfmjkoghfcciaaNameMath
namespace Go.Proofs.Ytkfmjkoghfcciaa
set_option maxRecDepth 100000
open Go.ChangeShapes Go.WideShapes Go.ChangeAt Go.RowKit

set_option maxRecDepth 100000 in
set_option maxHeartbeats 2000000 in
theorem nmay_any (x : Nat) (w : World) :
    Calls Try.prog 101 #[.int .u8 x] w fun e w' => e = .returned (.bool (Nm.okc x)) ∧ w = w' := by
  go_enter Try.func101, Try.ntmps101
  rcases Nm.okc_split x with ⟨ho, hc⟩ | ⟨ho, hc⟩
  · have HO := Lib.hid ho
    clear ho
    have hc' : ((97 : Int) ≤ (x : Int) ∧ (x : Int) ≤ 122) ∨ ((x : Int) < 97 ∧ (48 : Int) ≤ (x : Int) ∧ (x : Int) ≤ 57) ∨ x = 46 ∨ x = 45 ∨ x = 95 := by omega
    clear hc
    rcases hc' with ⟨c1, c2⟩ | ⟨c1, c2, c3⟩ | rfl | rfl | rfl
    all_goals
      go_wp2
      go_ret
      exact ⟨by rw [HO.out]; rfl, rfl⟩
  · have HO := Lib.hid ho
    clear ho
    have hc' : ((x : Int) < 45) ∨ x = 47 ∨ ((57 : Int) < (x : Int) ∧ (x : Int) < 95) ∨ x = 96 ∨ (122 : Int) < (x : Int) := by omega
    clear hc
    rcases hc' with c1 | rfl | ⟨c1, c2⟩ | rfl | c1
    all_goals
      go_wp2
      go_ret
      exact ⟨by rw [HO.out]; first | rfl | (simp; omega), rfl⟩

set_option maxRecDepth 100000 in
set_option maxHeartbeats 2000000 in
theorem nok_any (l : List Nat) (w : World) (hl : ∀ c ∈ l, c < 256) (hm : l.length ≤ 1073741824) :
    Calls Try.prog 80 #[.string (str l)] w fun e w' => e = .returned (.bool (Nm.ok l)) ∧ w = w' := by
  have hsz := str_size l
  obtain ⟨n, hn⟩ : ∃ n, l.length = n := ⟨_, rfl⟩
  rw [hn] at hm hsz
  have HN := Lib.hid hn
  have HG := Lib.hid (fun k h => str_get hl k h)
  clear hn hl
  obtain ⟨s, hs⟩ : ∃ s, str l = s := ⟨_, rfl⟩
  rw [hs] at hsz HG ⊢
  clear hs
  go_enter Try.func80, Try.ntmps80
  have hnc : (n : Int) < 1 ∨ ((1 : Int) ≤ (n : Int) ∧ (16 : Int) < (n : Int)) ∨ ((1 : Int) ≤ (n : Int) ∧ (n : Int) ≤ 16) := by omega
  have HW : Hid ((∀ j, j < n → Nm.okc (l.getD j 0) = true) → Nm.ok l = (decide (1 ≤ n) && decide (n ≤ 16))) := Lib.hid fun h => by
    rw [Nm.ok_of (Nm.all_of fun j hj => h j (by rw [HN.out] at hj; exact hj)), HN.out]
  have HZ : Hid (n < 1 ∨ 16 < n → Nm.ok l = false) := Lib.hid fun h => by
    unfold Nm.ok
    rw [HN.out]
    rcases h with h | h
    · rw [decide_eq_false (show ¬ 1 ≤ n by omega)]; simp
    · rw [decide_eq_false (show ¬ n ≤ 16 by omega)]; simp
  rcases hnc with c1 | ⟨c1, c2⟩ | ⟨c1, c2⟩
  · have HY := Lib.hid (HZ.out (.inl (by omega)))
    go_wp2
    go_ret
    exact ⟨by rw [HY.out]; rfl, rfl⟩
  · have HY := Lib.hid (HZ.out (.inr (by omega)))
    go_wp2
    go_ret
    exact ⟨by rw [HY.out]; rfl, rfl⟩
  · go_wp2_with fail
    go_loop [3, 14] (fun c i => ∃ k : Nat, k ≤ n ∧ i = .int .i64 k ∧ Hid (∀ j, j < k → Nm.okc (l.getD j 0) = true)) (fun _ i => n - (intOf i).toNat)
    case atStart => exact ⟨0, by omega, rfl, Lib.hid (by omega)⟩
    case round =>
      obtain ⟨k, hk, rfl, hall⟩ := hrel
      by_cases hlt : k < n
      · have hlt' : (k : Int) < (n : Int) := by omega
        have hks : k < s.size := by rw [hsz]; exact hlt
        obtain ⟨x, hx, HX⟩ : ∃ x, (s[k]'hks).toNat = x ∧ Hid (l.getD k 0 = x) := ⟨_, rfl, Lib.hid (HG.out k hks).symm⟩
        have hnext : Nm.okc x = true → ∀ j, j < k + 1 → Nm.okc (l.getD j 0) = true := fun h j hj => by
          rcases Nat.lt_or_ge j k with h1 | h1
          · exact hall.out j h1
          · rw [show j = k from by omega, HX.out]; exact h
        have HNX := Lib.hid hnext
        clear hnext
        go_wp2_with fail
        refine (nmay_any x w).mono ?_
        rintro e w' ⟨rfl, rfl⟩
        rcases ho : Nm.okc x with _ | _
        · have HV := Lib.hid (Nm.ok_not (l := l) (k := k) (by rw [HN.out]; exact hlt) (by rw [HX.out]; exact ho))
          clear ho
          go_wp2
          go_ret
          exact ⟨by rw [HV.out]; rfl, rfl⟩
        · have HO := Lib.hid (HNX.out ho)
          clear ho
          go_wp2
          go_round
          case rel => exact ⟨k + 1, by omega, by go_num, HO⟩
          case measure => simp [intOf]; omega
      · obtain rfl : k = n := by omega
        have HY : Hid (Nm.ok l = true) := Lib.hid (by rw [HW.out hall.out, decide_eq_true (show 1 ≤ k by omega), decide_eq_true (show k ≤ 16 by omega)]; rfl)
        go_wp2
        go_ret
        exact ⟨by rw [HY.out]; rfl, rfl⟩
end Go.Proofs.Ytkfmjkoghfcciaa
