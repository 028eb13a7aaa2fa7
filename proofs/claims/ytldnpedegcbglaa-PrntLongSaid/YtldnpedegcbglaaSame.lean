/- Lines of words as they read; two rows of them that are the same are told so. -/
import Derived.Test.YtldnpedegcbglaaWords
import Derived.RegionTactic
import Derived.BigQuiet
import Derived.Deep.QuietTactic
namespace Go.Proofs.Ytldnpedegcbglaa
set_option maxRecDepth 100000
open Go.ChangeShapes Go.WideShapes Go.ChangeAt Go.RowKit

/-- A slice of words that reads as a row. -/
def RdW (w : World) (v : Value) (R : List Ln.W) : Prop :=
  ∃ A c, v = .slice A R.length c ∧ R.length ≤ c ∧ R.length ≤ maxLen ∧ (0 < R.length → ∃ b off, A = some ⟨b, off, none⟩ ∧ ∀ k (h : k < R.length), w.cell? ⟨b, off + k * 4, none⟩ = some (.string (str (R[k]'h).text)) ∧ w.cell? ⟨b, off + k * 4 + 1, none⟩ = some (.int .i64 (R[k]'h).line) ∧ w.cell? ⟨b, off + k * 4 + 2, none⟩ = some (.int .i64 (R[k]'h).col) ∧ w.cell? ⟨b, off + k * 4 + 3, none⟩ = some (.bool (R[k]'h).q))
/-- A slice of slices of words that reads as rows. -/
def RdL (w : World) (v : Value) (LL : List (List Ln.W)) : Prop :=
  ∃ A c, v = .slice A LL.length c ∧ LL.length ≤ c ∧ LL.length ≤ maxLen ∧ (0 < LL.length → ∃ b off, A = some ⟨b, off, none⟩ ∧ ∀ i (h : i < LL.length), ∃ u, w.cell? ⟨b, off + i, none⟩ = some u ∧ RdW w u (LL[i]'h))
theorem RdW.under {w w' : World} {v : Value} {R : List Ln.W} (h : RdW w v R) (hb : Below w.heap.size w w') : RdW w' v R := by
  obtain ⟨A, c, rfl, h1, h2, h3⟩ := h
  refine ⟨A, c, rfl, h1, h2, fun h0 => ?_⟩
  obtain ⟨b, off, rfl, hc⟩ := h3 h0
  exact ⟨b, off, rfl, fun k hk => ⟨cell_later hb (hc k hk).1, cell_later hb (hc k hk).2.1, cell_later hb (hc k hk).2.2.1, cell_later hb (hc k hk).2.2.2⟩⟩
theorem RdL.under {w w' : World} {v : Value} {LL : List (List Ln.W)} (h : RdL w v LL) (hb : Below w.heap.size w w') : RdL w' v LL := by
  obtain ⟨A, c, rfl, h1, h2, h3⟩ := h
  refine ⟨A, c, rfl, h1, h2, fun h0 => ?_⟩
  obtain ⟨b, off, rfl, hc⟩ := h3 h0
  refine ⟨b, off, rfl, fun i hi => ?_⟩
  obtain ⟨u, hu1, hu2⟩ := hc i hi
  exact ⟨u, cell_later hb hu1, hu2.under hb⟩
end Go.Proofs.Ytldnpedegcbglaa
