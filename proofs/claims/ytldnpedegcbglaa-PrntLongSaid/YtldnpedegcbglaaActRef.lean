/- The document's own answer for actions: which texts, which things and rows of them may be. -/
import Derived.Test.YtldnpedegcbglaaActRows
import Derived.Test.YtldnpedegcbglaaSame
import Derived.Deep.CutBlock
namespace Go.Proofs.Ytldnpedegcbglaa
set_option maxRecDepth 100000
open Go.ChangeShapes Go.WideShapes Go.ChangeAt Go.RowKit

def plainC (c : Nat) : Bool := decide (32 ≤ c) && decide (c ≤ 126) && decide (c ≠ 34)
theorem plainT_of {l : List Nat} (h : ∀ j, j < l.length → plainC (l.getD j 0) = true) : Ac.plainT l = decide (l.length ≤ 64) := by
  unfold Ac.plainT
  rw [show (l.all fun c => decide (32 ≤ c) && decide (c ≤ 126) && decide (c ≠ 34)) = true from List.all_eq_true.2 fun c hc => by
    obtain ⟨j, hj, rfl⟩ := List.getElem_of_mem hc
    have := h j hj
    rwa [List.getD_eq_getElem?_getD, List.getElem?_eq_getElem hj] at this, Bool.true_and]
theorem plainT_not {l : List Nat} {k : Nat} (hk : k < l.length) (h : plainC (l.getD k 0) = false) : Ac.plainT l = false := by
  unfold Ac.plainT
  rw [show (l.all fun c => decide (32 ≤ c) && decide (c ≤ 126) && decide (c ≠ 34)) = false from ?_, Bool.false_and]
  rw [List.all_eq_false]
  refine ⟨_, List.getElem_mem hk, ?_⟩
  rw [List.getD_eq_getElem?_getD, List.getElem?_eq_getElem hk] at h
  rw [show (decide (32 ≤ l[k]) && decide (l[k] ≤ 126) && decide (l[k] ≠ 34)) = plainC l[k] from rfl, show plainC l[k] = false from h]
  simp
end Go.Proofs.Ytldnpedegcbglaa
