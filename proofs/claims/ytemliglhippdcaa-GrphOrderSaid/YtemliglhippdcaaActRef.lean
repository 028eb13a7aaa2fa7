/- The document's own answer for actions: which texts, which things and rows of them may be. -/
import Derived.Test.YtemliglhippdcaaActRows
import Derived.Test.YtemliglhippdcaaSame
import Derived.Deep.CutBlock
namespace Go.Proofs.Ytemliglhippdcaa
set_option maxRecDepth 100000
open Go.ChangeShapes Go.WideShapes Go.ChangeAt Go.RowKit

def plainC (c : Nat) : Bool := decide (32 ≤ c) && decide (c ≤ 126) && decide (c ≠ 34)
theorem plainT_of {l : List Nat} (h : ∀ j, j < l.length → plainC (l.getD j 0) = true) : Ac.plainT l = decide (l.length ≤ 64) := by
  unfold Ac.plainT
  rw [show (l.all fun c => decide (32 ≤ c) && decide (c ≤ 126) && decide (c ≠ 34)) = true from List.all_eq_true.2 fun c hc => by
    obtain ⟨j, hj, rfl⟩ := List.getElem_of_mem hc
    have := h j hj
    rwa [List.getD_eq_getElem?_getD, List.getElem?_eq_getElem hj] at this, Bool.true_and]
theorem plainT_not {l : List Nat} {k : Nat} (hk : k < l.length) (h : plainC (l.getD k 0) = false) : Ac.plainT l = false := by
  unfold Ac.plainT
  rw [show (l.all fun c => decide (32 ≤ c) && decide (c ≤ 126) && decide (c ≠ 34)) = false from ?_, Bool.false_and]
  rw [List.all_eq_false]
  refine ⟨_, List.getElem_mem hk, ?_⟩
  rw [List.getD_eq_getElem?_getD, List.getElem?_eq_getElem hk] at h
  rw [show (decide (32 ≤ l[k]) && decide (l[k] ≤ 126) && decide (l[k] ≠ 34)) = plainC l[k] from rfl, show plainC l[k] = false from h]
  simp
set_option maxHeartbeats 2000000 in
theorem refplain_any (l : List Nat) (w : World) (hl : ∀ c ∈ l, c < 256) (hm : l.length ≤ 1099511627776) :
    Calls Try.prog 80 #[.string (str l)] w fun e w' => e = .returned (.bool (Ac.plainT l)) ∧ w = w' := by
  have hsz := str_size l
  obtain ⟨n, hn⟩ : ∃ n, l.length = n := ⟨_, rfl⟩
  rw [hn] at hm hsz
  have HN := Lib.hid hn
  have HG := Lib.hid (fun k h => str_get hl k h)
  clear hn hl
  obtain ⟨s, hs⟩ : ∃ s, str l = s := ⟨_, rfl⟩
  rw [hs] at hsz HG ⊢
  clear hs
  go_enter Try.func80, Try.ntmps80
  go_wp2
  go_loop [3] (fun i => ∃ k : Nat, k ≤ n ∧ i = .int .i64 k ∧ Hid (∀ j, j < k → plainC (l.getD j 0) = true)) (fun i => n - (intOf i).toNat)
  case atStart => exact ⟨0, by omega, rfl, Lib.hid (by omega)⟩
  case round =>
    obtain ⟨k, hk, rfl, hall⟩ := hrel
    by_cases hlt : k < n
    · have hlt' : (k : Int) < (n : Int) := by omega
      have hks : k < s.size := by rw [hsz]; exact hlt
      obtain ⟨x, hx, HX⟩ : ∃ x, (s[k]'hks).toNat = x ∧ Hid (l.getD k 0 = x) := ⟨_, rfl, Lib.hid (HG.out k hks).symm⟩
      have hnext : plainC x = true → ∀ j, j < k + 1 → plainC (l.getD j 0) = true := fun h j hj => by
        rcases Nat.lt_or_ge j k with h1 | h1
        · exact hall.out j h1
        · rw [show j = k from by omega, HX.out]; exact h
      have HNX := Lib.hid hnext
      have hbad : plainC x = false → Ac.plainT l = false := fun h => plainT_not (k := k) (by rw [HN.out]; exact hlt) (by rw [HX.out]; exact h)
      have HBAD := Lib.hid hbad
      clear hnext hbad
      have hways : (x : Int) < 32 ∨ (¬ (x : Int) < 32 ∧ (126 : Int) < (x : Int)) ∨ (¬ (x : Int) < 32 ∧ ¬ (126 : Int) < (x : Int) ∧ x = 34) ∨ (¬ (x : Int) < 32 ∧ ¬ (126 : Int) < (x : Int) ∧ x ≠ 34) := by omega
      rcases hways with c1 | ⟨c1, c2⟩ | ⟨c1, c2, rfl⟩ | ⟨c1, c2, c3⟩
      · have HW := Lib.hid (HBAD.out (by unfold plainC; rw [decide_eq_false (by omega)]; rfl))
        clear HNX HBAD
        go_wp2
        go_ret
        exact ⟨by rw [HW.out]; rfl, rfl⟩
      · have HW := Lib.hid (HBAD.out (by unfold plainC; rw [decide_eq_false (show ¬ x ≤ 126 by omega)]; simp))
        clear HNX HBAD
        go_wp2
        go_ret
        exact ⟨by rw [HW.out]; rfl, rfl⟩
      · have HW := Lib.hid (HBAD.out rfl)
        clear HNX HBAD
        go_wp2
        go_ret
        exact ⟨by rw [HW.out]; rfl, rfl⟩
      · have HW := Lib.hid (HNX.out (by unfold plainC; simp; omega))
        have d34 : ((x : Int) == 34) = false := by simp; omega
        clear HNX HBAD c3
        go_wp2
        go_round
        case rel => exact ⟨k + 1, by omega, by go_num, HW⟩
        case measure => simp [intOf]; omega
    · obtain rfl : k = n := by omega
      have HW := Lib.hid (plainT_of fun j hj => hall.out j (by rw [HN.out] at hj; exact hj))
      rcases Nat.lt_or_ge 64 k with h | h
      · have h1 : ¬ (k : Int) ≤ 64 := by omega
        go_wp2
        go_ret
        refine ⟨?_, rfl⟩
        rw [HW.out, HN.out, decide_eq_false (show ¬ k ≤ 64 by omega)]
        rfl
      · have h1 : (k : Int) ≤ 64 := by omega
        go_wp2
        go_ret
        refine ⟨?_, rfl⟩
        rw [HW.out, HN.out, decide_eq_true (show k ≤ 64 by omega)]
        rfl
set_option maxRecDepth 100000 in
set_option maxHeartbeats 4000000 in
theorem refis_any (x : Ln.W) (t : List Nat) (w : World) (hx : ∀ c ∈ x.text, c < 256) (ht : ∀ c ∈ t, c < 256) :
    Calls Try.prog 52 #[.agg (cellsW x).toArray, .string (str t)] w fun e w' => e = .returned (.bool (decide (x.text = t) && !x.q)) ∧ Below w.heap.size w w' := by
  obtain ⟨xt, xl, xc, xq⟩ := x
  change ∀ c ∈ xt, c < 256 at hx
  have hse := str_same hx ht
  rw [show (cellsW ⟨xt, xl, xc, xq⟩).toArray = #[.string (str xt), .int .i64 xl, .int .i64 xc, .bool xq] from rfl]
  show Calls _ _ _ _ fun e w' => e = .returned (.bool (decide (xt = t) && !xq)) ∧ Below w.heap.size w w'
  clear hx ht
  rcases hd : decide (xt = t) with _ | _
  · rw [hd] at hse
    clear hd
    go_enter Try.func52, Try.ntmps52
    go_wp2
    go_ret
    exact ⟨rfl, (Below.refl _ _).alloc (Nat.le_refl _) _⟩
  · rw [hd] at hse
    clear hd
    go_enter Try.func52, Try.ntmps52
    go_wp2
    go_ret
    exact ⟨rfl, (Below.refl _ _).alloc (Nat.le_refl _) _⟩
theorem refwords_any (w : World) : Calls Try.prog 78 #[] w fun e w' => e = .returned (.slice (some ⟨w.heap.size, 0, none⟩) 12 12) ∧ w' = w.alloc (.cells (Ac.names.map fun l => Value.string (str l)).toArray 9) := by
  go_enter Try.func78, Try.ntmps78
  go_wp2
  go_ret
  exact ⟨rfl, rfl⟩
end Go.Proofs.Ytemliglhippdcaa
