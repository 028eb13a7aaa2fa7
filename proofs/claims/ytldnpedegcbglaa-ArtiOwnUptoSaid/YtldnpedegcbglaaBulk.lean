/- A slice of bytes among the arguments: the bound on the arguments' bulk bounds its length. -/
import Derived.Test.YtldnpedegcbglaaRowsOpen
namespace Go.Proofs.Ytldnpedegcbglaa
set_option maxRecDepth 100000
open Go.ChangeShapes Go.WideShapes Go.ChangeAt Go.RowKit Go.Deep

theorem open_bytes_bulk {H : Type} {enc : TypeId × Value → H} {W : World} {base : Nat} {v : Value} {d : DataW H} {p : List MemPlace} (hv : Value.okWide Try.prog W .any base 23 v)
    (h : DataW.Trod enc Try.prog W 0 (fun _ => true) true 23 v d p) : ∃ l, Bytes W v l ∧ l.length ≤ Rows.uptoBulk d := by
  obtain ⟨l, hl⟩ := open_bytes hv h
  refine ⟨l, hl, ?_⟩
  obtain ⟨_, _, A, c, e, _, _⟩ := hl.parts
  obtain ⟨fuel, hf⟩ := h
  subst e
  rcases open_ints Try.underlying23 Try.underlying5 (by kernel_rfl) hf with ⟨hcs, _⟩ | ⟨a, len', cap', zs, hcs, _, hle, _, hz, hx, _⟩
  · simp [Value.cells] at hcs
    omega
  · simp [Value.cells] at hcs
    obtain ⟨_, h1, _⟩ := hcs
    simp only [Prod.mk.injEq] at hx
    obtain ⟨rfl, _⟩ := hx
    simp only [if_true] at hz
    have := bulk_length (lits (H := H) .u8 (zs.take len'))
    have e : (lits (H := H) .u8 (zs.take len')).length = len' := by simp [lits]; omega
    simp only [Rows.uptoBulk]
    omega
end Go.Proofs.Ytldnpedegcbglaa
