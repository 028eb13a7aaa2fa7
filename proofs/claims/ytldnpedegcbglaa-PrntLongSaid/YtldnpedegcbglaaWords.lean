/- Rows of words, and rows of such rows, all of the call's own: read, kept, grown by one. -/
import Derived.Test.YtldnpedegcbglaaText
import Derived.Test.YtldnpedegcbglaaLineMath
import Derived.Maps.AppendAt
namespace Go.Proofs.Ytldnpedegcbglaa
set_option maxRecDepth 100000
open Go.ChangeShapes Go.WideShapes Go.ChangeAt Go.RowKit

def cellsW (x : Ln.W) : List Value := [.string (str x.text), .int .i64 x.line, .int .i64 x.col, .bool x.q]
def rowW (L : List Ln.W) : List Value := L.flatMap cellsW
theorem cellsW_len (x : Ln.W) : (cellsW x).length = 4 := rfl
theorem cellsW_one (x : Ln.W) : ∀ u ∈ cellsW x, u.oneCell' = true := by
  intro u hu
  simp only [cellsW, List.mem_cons, List.not_mem_nil, or_false] at hu
  rcases hu with rfl | rfl | rfl | rfl <;> rfl
theorem rowW_len (L : List Ln.W) : (rowW L).length = L.length * 4 := by
  induction L with
  | nil => rfl
  | cons x L ih =>
    simp only [rowW, List.flatMap_cons, List.length_append, cellsW_len, List.length_cons] at ih ⊢
    omega
theorem rowW_snoc (L : List Ln.W) (x : Ln.W) : rowW (L ++ [x]) = rowW L ++ cellsW x := by simp [rowW]
theorem rowW_at : ∀ (L : List Ln.W) (k j : Nat) (h : k < L.length), j < 4 → (rowW L)[k * 4 + j]? = (cellsW (L[k]'h))[j]?
  | x :: L, 0, j, _, hj => by
    rw [rowW, List.flatMap_cons, List.getElem?_append_left (by rw [cellsW_len]; omega), Nat.zero_mul, Nat.zero_add]
    rfl
  | x :: L, k + 1, j, h, hj => by
    rw [rowW, List.flatMap_cons, List.getElem?_append_right (by rw [cellsW_len]; omega), cellsW_len, show (k + 1) * 4 + j - 4 = k * 4 + j from by omega]
    exact rowW_at L k j (by simpa using h) hj
theorem apart_symm {u v : Value} (h : u.ownBlock = none ∨ u.ownBlock ≠ v.ownBlock) : v.ownBlock = none ∨ v.ownBlock ≠ u.ownBlock := by
  rcases h with h | h
  · rw [h]
    cases hv : v.ownBlock with
    | none => exact .inl rfl
    | some k => exact .inr (by simp)
  · exact .inr fun e => h e.symm
theorem getD_snoc_lt {α : Type} {l : List α} {x d : α} {i : Nat} (h : i < l.length) : (l ++ [x]).getD i d = l.getD i d := by
  rw [List.getD_eq_getElem?_getD, List.getD_eq_getElem?_getD, List.getElem?_append_left h]
theorem getD_snoc_eq {α : Type} {l : List α} {x d : α} {i : Nat} (h : i = l.length) : (l ++ [x]).getD i d = x := by
  subst h
  simp
end Go.Proofs.Ytldnpedegcbglaa
