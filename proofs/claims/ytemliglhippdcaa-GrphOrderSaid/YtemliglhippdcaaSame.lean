/- Lines of words as they read; two rows of them that are the same are told so. -/
import Derived.Test.YtemliglhippdcaaWords
import Derived.RegionTactic
import Derived.BigQuiet
import Derived.Deep.QuietTactic
namespace Go.Proofs.Ytemliglhippdcaa
set_option maxRecDepth 100000
open Go.ChangeShapes Go.WideShapes Go.ChangeAt Go.RowKit

/-- A slice of words that reads as a row. -/
def RdW (w : World) (v : Value) (R : List Ln.W) : Prop :=
  ∃ A c, v = .slice A R.length c ∧ R.length ≤ c ∧ R.length ≤ maxLen ∧ (0 < R.length → ∃ b off, A = some ⟨b, off, none⟩ ∧ ∀ k (h : k < R.length), w.cell? ⟨b, off + k * 4, none⟩ = some (.string (str (R[k]'h).text)) ∧ w.cell? ⟨b, off + k * 4 + 1, none⟩ = some (.int .i64 (R[k]'h).line) ∧ w.cell? ⟨b, off + k * 4 + 2, none⟩ = some (.int .i64 (R[k]'h).col) ∧ w.cell? ⟨b, off + k * 4 + 3, none⟩ = some (.bool (R[k]'h).q))
/-- A slice of slices of words that reads as rows. -/
def RdL (w : World) (v : Value) (LL : List (List Ln.W)) : Prop :=
  ∃ A c, v = .slice A LL.length c ∧ LL.length ≤ c ∧ LL.length ≤ maxLen ∧ (0 < LL.length → ∃ b off, A = some ⟨b, off, none⟩ ∧ ∀ i (h : i < LL.length), ∃ u, w.cell? ⟨b, off + i, none⟩ = some u ∧ RdW w u (LL[i]'h))
theorem OwnW.rd {w : World} {base : Nat} {v : Value} {R : List Ln.W} (h : OwnW w base v R) : RdW w v R := by
  have h' := h
  rcases h.2 with ⟨rfl, h0⟩ | ⟨g, cap, cur, rfl, hb, hg, hn, hm, hs, ht⟩
  · exact ⟨none, 0, by rw [h0], by omega, by unfold maxLen; omega, fun h => by omega⟩
  · refine ⟨_, cap, rfl, hn, Nat.le_trans hn hm, fun _ => ⟨g, 0, rfl, fun k hk => ?_⟩⟩
    have hc : ∀ j, j < 4 → w.cell? ⟨g, 0 + k * 4 + j, none⟩ = (cellsW (R[k]'hk))[j]? := fun j hj => by
      rw [show 0 + k * 4 + j = k * 4 + j from by omega, World.ownsRow.cellAt h' (k * 4 + j) (by omega), rowW_at R k j hk hj]
    exact ⟨hc 0 (by omega), hc 1 (by omega), hc 2 (by omega), hc 3 (by omega)⟩
theorem St.rd {w : World} {base : Nat} {v u : Value} {LL : List (List Ln.W)} {R : List Ln.W} (h : St w base v LL u R) : RdL w v LL := by
  obtain ⟨us, h1, h2, h3, h4, _⟩ := h
  have h2' := h2
  rcases h2.2 with ⟨rfl, h0⟩ | ⟨g, cap, cur, rfl, hb, hg, hn, hm, hs, ht⟩
  · exact ⟨none, 0, by rw [h0], by omega, by unfold maxLen; omega, fun h => by omega⟩
  · refine ⟨_, cap, rfl, hn, Nat.le_trans hn hm, fun _ => ⟨g, 0, rfl, fun i hi => ⟨us.getD i undef, ?_, ?_⟩⟩⟩
    · rw [show 0 + i = i from by omega, World.ownsRow.cellAt h2' i (by omega), List.getD_eq_getElem?_getD, List.getElem?_eq_getElem (by omega)]
      rfl
    · have := (h4 i hi).rd
      rw [List.getD_eq_getElem?_getD (l := LL), List.getElem?_eq_getElem hi] at this
      exact this
theorem RdW.under {w w' : World} {v : Value} {R : List Ln.W} (h : RdW w v R) (hb : Below w.heap.size w w') : RdW w' v R := by
  obtain ⟨A, c, rfl, h1, h2, h3⟩ := h
  refine ⟨A, c, rfl, h1, h2, fun h0 => ?_⟩
  obtain ⟨b, off, rfl, hc⟩ := h3 h0
  exact ⟨b, off, rfl, fun k hk => ⟨cell_later hb (hc k hk).1, cell_later hb (hc k hk).2.1, cell_later hb (hc k hk).2.2.1, cell_later hb (hc k hk).2.2.2⟩⟩
theorem RdL.under {w w' : World} {v : Value} {LL : List (List Ln.W)} (h : RdL w v LL) (hb : Below w.heap.size w w') : RdL w' v LL := by
  obtain ⟨A, c, rfl, h1, h2, h3⟩ := h
  refine ⟨A, c, rfl, h1, h2, fun h0 => ?_⟩
  obtain ⟨b, off, rfl, hc⟩ := h3 h0
  refine ⟨b, off, rfl, fun i hi => ?_⟩
  obtain ⟨u, hu1, hu2⟩ := hc i hi
  exact ⟨u, cell_later hb hu1, hu2.under hb⟩
end Go.Proofs.Ytemliglhippdcaa
