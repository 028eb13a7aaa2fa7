/- The document's own answer for names. -/
import Derived.Test.YtlfgadcfjjjbfaaText
import Derived.Test.YtlfgadcfjjjbfaaNameMath
namespace Go.Proofs.Ytlfgadcfjjjbfaa
set_option maxRecDepth 100000
open Go.ChangeShapes Go.WideShapes Go.ChangeAt Go.RowKit

set_option maxHeartbeats 2000000 in
theorem refok_any (l : List Nat) (w : World) (hl : ∀ c ∈ l, c < 256) (hm : l.length ≤ 1099511627776) :
    Calls Try.prog 48 #[.string (str l)] w fun e w' => e = .returned (.bool (Nm.ok l)) ∧ w = w' := by
  have hsz := str_size l
  obtain ⟨n, hn⟩ : ∃ n, l.length = n := ⟨_, rfl⟩
  rw [hn] at hm hsz
  have HN := Lib.hid hn
  have HG := Lib.hid (fun k h => str_get hl k h)
  clear hn hl
  obtain ⟨s, hs⟩ : ∃ s, str l = s := ⟨_, rfl⟩
  rw [hs] at hsz HG ⊢
  clear hs
  go_enter Try.func48, Try.ntmps48
  go_wp2
  go_loop [3] (fun i => ∃ k : Nat, k ≤ n ∧ i = .int .i64 k ∧ Hid (∀ j, j < k → Nm.okc (l.getD j 0) = true)) (fun i => n - (intOf i).toNat)
  case atStart => exact ⟨0, by omega, rfl, Lib.hid (by omega)⟩
  case round =>
    obtain ⟨k, hk, rfl, hall⟩ := hrel
    by_cases hlt : k < n
    · have hlt' : (k : Int) < (n : Int) := by omega
      have hks : k < s.size := by rw [hsz]; exact hlt
      obtain ⟨x, hx, HX⟩ : ∃ x, (s[k]'hks).toNat = x ∧ Hid (l.getD k 0 = x) := ⟨_, rfl, Lib.hid (HG.out k hks).symm⟩
      have hnext : Nm.okc x = true → ∀ j, j < k + 1 → Nm.okc (l.getD j 0) = true := fun h j hj => by
        rcases Nat.lt_or_ge j k with h1 | h1
        · exact hall.out j h1
        · rw [show j = k from by omega, HX.out]; exact h
      have HNX := Lib.hid hnext
      clear hnext
      rcases Nm.okc_split x with ⟨ho, hc⟩ | ⟨ho, hc⟩
      · have HO := Lib.hid ho
        clear ho
        have hc' : ((97 : Int) ≤ (x : Int) ∧ (x : Int) ≤ 122) ∨ ((x : Int) < 97 ∧ (48 : Int) ≤ (x : Int) ∧ (x : Int) ≤ 57) ∨ x = 46 ∨ x = 45 ∨ x = 95 := by omega
        clear hc
        rcases hc' with ⟨c1, c2⟩ | ⟨c1, c2, c3⟩ | rfl | rfl | rfl
        all_goals
          go_wp2
          go_round
          case rel => exact ⟨k + 1, by omega, by go_num, Lib.hid (HNX.out HO.out)⟩
          case measure => simp [intOf]; omega
      · have hw := Nm.ok_not (l := l) (k := k) (by rw [HN.out]; exact hlt) (by rw [HX.out]; exact ho)
        have HW := Lib.hid hw
        clear ho hw
        have hc' : (x : Int) < 45 ∨ x = 47 ∨ ((57 : Int) < (x : Int) ∧ (x : Int) < 95) ∨ x = 96 ∨ (122 : Int) < (x : Int) := by omega
        clear hc
        rcases hc' with c1 | rfl | ⟨c1, c2⟩ | rfl | c1
        all_goals
          go_wp2
          all_goals first
          | (go_ret; exact ⟨by rw [HW.out]; rfl, rfl⟩)
          | (exfalso; rename_i h; simp at h; omega)
    · obtain rfl : k = n := by omega
      have HW := Lib.hid (Nm.ok_of (Nm.all_of fun j hj => hall.out j (by rw [HN.out] at hj; exact hj)))
      have hnc : (k : Int) < 1 ∨ ((1 : Int) ≤ (k : Int) ∧ (k : Int) ≤ 16) ∨ ((1 : Int) ≤ (k : Int) ∧ (16 : Int) < (k : Int)) := by omega
      rcases hnc with c1 | ⟨c1, c2⟩ | ⟨c1, c2⟩
      · go_wp2
        go_ret
        exact ⟨by rw [HW.out, HN.out, decide_eq_false (show ¬ 1 ≤ k by omega)]; rfl, rfl⟩
      · go_wp2
        go_ret
        exact ⟨by rw [HW.out, HN.out, decide_eq_true (show 1 ≤ k by omega), decide_eq_true (show k ≤ 16 by omega)]; rfl, rfl⟩
      · go_wp2
        go_ret
        refine ⟨?_, rfl⟩
        rw [HW.out, HN.out, decide_eq_true (show 1 ≤ k by omega), decide_eq_false (show ¬ k ≤ 16 by omega)]
        show Ending.returned (.bool (decide ((k : Int) ≤ 16))) = _
        rw [decide_eq_false (show ¬ (k : Int) ≤ 16 by omega)]
        rfl

set_option maxHeartbeats 2000000 in
theorem reffile_any (l : List Nat) (w : World) (hl : ∀ c ∈ l, c < 256) (hm : l.length ≤ 1099511627776) :
    Calls Try.prog 35 #[.string (str l)] w fun e w' => e = .returned (.bool (Nm.file l)) ∧ w = w' := by
  have hsz := str_size l
  obtain ⟨n, hn⟩ : ∃ n, l.length = n := ⟨_, rfl⟩
  rw [hn] at hm hsz
  have HN := Lib.hid hn
  have HL := Lib.hid hl
  have HG := Lib.hid (fun k h => str_get hl k h)
  have hpart := fun (a b : Nat) => str_part l a b
  clear hn hl
  go_enter Try.func35, Try.ntmps35
  go_wp2
  go_loop [3] (fun i => ∃ k : Nat, k ≤ n ∧ i = .int .i64 k ∧ Hid (∀ j, j < k → l.getD j 0 ≠ 47)) (fun i => n - (intOf i).toNat)
  case atStart => exact ⟨0, by omega, rfl, Lib.hid (by omega)⟩
  case round =>
    obtain ⟨k, hk, rfl, hall⟩ := hrel
    by_cases hlt : k < n
    · have hlt' : (k : Int) < (n : Int) := by omega
      have hks : k < (str l).size := by rw [hsz]; exact hlt
      obtain ⟨x, hx, HX⟩ : ∃ x, ((str l)[k]'hks).toNat = x ∧ Hid (l.getD k 0 = x) := ⟨_, rfl, Lib.hid (HG.out k hks).symm⟩
      by_cases h47 : x = 47
      · subst h47
        have hkn : (k : Int) ≤ (n : Int) := by omega
        have hkn1 : (k : Int) + 1 ≤ (n : Int) := by omega
        have HW := Lib.hid (Nm.file_at (l := l) (by rw [HN.out]; exact hlt) HX.out hall.out)
        go_wp2_with fail
        refine (refok_any (l.take k) w (fun c hc => HL.out c (List.mem_of_mem_take hc)) (by rw [List.length_take]; omega)).mono ?_
        rintro e w' ⟨rfl, rfl⟩
        rcases hb : Nm.ok (l.take k) with _ | _
        · have HB := Lib.hid hb
          clear hb
          go_wp2
          go_ret
          exact ⟨by rw [HW.out, HB.out]; rfl, rfl⟩
        · have HB := Lib.hid hb
          clear hb
          have hdr : List.take (n - (k + 1)) (List.drop (k + 1) l) = l.drop (k + 1) := List.take_of_length_le (by rw [List.length_drop, HN.out]; exact Nat.le_refl _)
          have HD := Lib.hid hdr
          clear hdr
          go_wp2_with fail
          rw [HD.out]
          refine (refok_any (l.drop (k + 1)) w (fun c hc => HL.out c (List.mem_of_mem_drop hc)) (by rw [List.length_drop, HN.out]; omega)).mono ?_
          rintro e w' ⟨rfl, rfl⟩
          go_wp2
          go_ret
          exact ⟨by rw [HW.out, HB.out]; rfl, rfl⟩
      · have h47' : ¬ (x : Int) = 47 := by omega
        have hnext : ∀ j, j < k + 1 → l.getD j 0 ≠ 47 := fun j hj => by
          rcases Nat.lt_or_ge j k with h1 | h1
          · exact hall.out j h1
          · rw [show j = k from by omega, HX.out]; exact h47
        have HNX := Lib.hid hnext
        clear hnext h47
        go_wp2
        go_round
        case rel => exact ⟨k + 1, by omega, by go_num, HNX⟩
        case measure => simp [intOf]; omega
    · obtain rfl : k = n := by omega
      have hno : 47 ∉ l := fun h => by
        obtain ⟨j, hj, e⟩ := List.getElem_of_mem h
        have := hall.out j (by rw [← HN.out]; exact hj)
        rw [List.getD_eq_getElem?_getD, List.getElem?_eq_getElem hj] at this
        exact this e
      have HW := Lib.hid (show Nm.file l = Nm.ok l by simp [Nm.file, hno])
      clear hno
      go_wp2_with fail
      refine (refok_any l w HL.out (by rw [HN.out]; exact hm)).mono ?_
      rintro e w' ⟨rfl, rfl⟩
      go_wp2
      go_ret
      exact ⟨by rw [HW.out]; rfl, rfl⟩

def szOf : Value → Nat
  | .string b => b.size
  | _ => 0
theorem dec_less (m : Nat) (l : List Nat) (h : ¬ m = 0) : 2 * (m / 10) + (1 - szOf (.string (str ((48 + m % 10) :: l)))) < 2 * m + (1 - szOf (.string (str l))) := by
  simp only [szOf, str_size, List.length_cons]
  omega
theorem run_low2 {P : Program} (w : World) (ts : Array TypeId) (t : TypeId) (x y n : Int) (h : min x y = n) : (Builtin.min_ ts t #[.int .i64 x, .int .i64 y]).run P w = .ok (.int .i64 n) w := by
  have e : (if y < x then y else x) = n := by
    subst h
    simp only [Int.min_def]
    split <;> split <;> omega
  simp [Builtin.min_, Builtin.min2, e]
theorem run_top2 {P : Program} (w : World) (ts : Array TypeId) (t : TypeId) (x y n : Int) (h : max x y = n) : (Builtin.max_ ts t #[.int .i64 x, .int .i64 y]).run P w = .ok (.int .i64 n) w := by
  have e : (if y > x then y else x) = n := by
    subst h
    simp only [Int.max_def]
    split <;> split <;> omega
  simp [Builtin.max_, Builtin.max2, e]
end Go.Proofs.Ytlfgadcfjjjbfaa
