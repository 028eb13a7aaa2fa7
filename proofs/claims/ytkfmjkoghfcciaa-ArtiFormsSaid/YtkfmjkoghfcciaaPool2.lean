/- Some of a pool's rows, in another order. -/
import Derived.Test.YtkfmjkoghfcciaaPool
namespace Go.Proofs.Ytkfmjkoghfcciaa
set_option maxRecDepth 100000
open Go.ChangeShapes Go.WideShapes Go.ChangeAt Go.RowKit

theorem Pool.pick {w : World} {base : Nat} {L : List (Value × List Nat)} (h : Pool w base L) (is : List Nat) (hn : is.Nodup) (hl : ∀ i ∈ is, i < L.length) : Pool w base (is.map fun i => L.getD i (undef, [])) := by
  have key : ∀ (k : Nat) (x : Value × List Nat), (is.map fun i => L.getD i (undef, []))[k]? = some x → ∃ i, is[k]? = some i ∧ L[i]? = some x := fun k x hx => by
    rw [List.getElem?_map] at hx
    rcases hi : is[k]? with _ | i
    · rw [hi] at hx; cases hx
    · rw [hi] at hx
      have hlt := hl i (List.mem_of_getElem? hi)
      simp only [Option.map_some, Option.some.injEq, List.getD_eq_getElem?_getD, List.getElem?_eq_getElem hlt, Option.getD_some] at hx
      exact ⟨i, rfl, by rw [List.getElem?_eq_getElem hlt, hx]⟩
  refine ⟨h.1, fun k x hx => ?_, fun j k x y hjk hx hy => ?_⟩
  · obtain ⟨i, _, hi⟩ := key k x hx
    exact h.2.1 i x hi
  · obtain ⟨i, hi, hi2⟩ := key j x hx
    obtain ⟨i', hi', hi2'⟩ := key k y hy
    refine h.2.2 i i' x y (fun e => hjk ?_) hi2 hi2'
    subst e
    have h1 := List.getElem?_eq_some_iff.1 hi
    have h2 := List.getElem?_eq_some_iff.1 hi'
    obtain ⟨l1, e1⟩ := h1
    obtain ⟨l2, e2⟩ := h2
    exact (List.getElem_inj hn).1 (e1.trans e2.symm)
end Go.Proofs.Ytkfmjkoghfcciaa
