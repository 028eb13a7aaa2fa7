/- Stores into two cells of one block: their order is of no account. -/
import Derived.Test.YtfheaognfocofaaGreatDoorZ16
namespace Go.Proofs.YtfheaognfocofaaGreatDoor
set_option maxRecDepth 100000
open Go.ChangeShapes Go.WideShapes Go.ChangeAt Go.RowKit Go.ChangeMaps
open Sf Lk

theorem setCell_comm (w : World) (g i j : Nat) (x y : Value) (h : i ≠ j) : (w.setCell ⟨g, i, none⟩ x).setCell ⟨g, j, none⟩ y = (w.setCell ⟨g, j, none⟩ y).setCell ⟨g, i, none⟩ x := by
  unfold World.setCell
  refine congrArg (fun z => { w with heap := z }) ?_
  apply Array.ext_getElem?
  intro k
  simp only [Array.getElem?_modify]
  by_cases hk : g = k
  · subst hk
    rcases w.heap[g]? with _ | o
    · simp
    · rcases o with ⟨c, e, f⟩ | _ <;> simp [Array.setIfInBounds_comm _ _ h]
  · simp [hk]
/-- What a region needs that stores into the hands' row. -/
def PWd (W : World) (q q1 q2 : Nat) (k La Lb Lc Ld : Int) (f : ByteArray) : Prop :=
  Blk W q1 28 #[.string f, .int .i64 k] ∧ Blk W q2 30 #[.int .i64 La, .int .i64 Lb, .int .i64 Lc, .int .i64 Ld] ∧ (∀ o, W.frozen? ⟨q, o, none⟩ = false) ∧ (∀ o, o < 30 → ∃ v, W.cell? ⟨q, o, none⟩ = some v) ∧ q1 ≠ q ∧ q2 ≠ q
theorem PWd.set {W : World} {q q1 q2 : Nat} {k La Lb Lc Ld : Int} {f : ByteArray} (h : PWd W q q1 q2 k La Lb Lc Ld f) (i : Nat) (v : Value) : PWd (W.setCell ⟨q, i, none⟩ v) q q1 q2 k La Lb Lc Ld f := by
  obtain ⟨h1, h2, h3, h4, h5, h6⟩ := h
  refine ⟨h1.setOther h5 v, h2.setOther h6 v, fun o => (World.frozen?_setCell _ _ _ _).trans (h3 o), fun o ho => ?_, h5, h6⟩
  obtain ⟨u, hu⟩ := h4 o ho
  by_cases e : i = o
  · subst e
    exact ⟨v, World.cell?_setCell_same' _ _ _ (by rw [hu]; rfl)⟩
  · exact ⟨u, off_cell hu e v⟩
theorem W3.cell30 {w0 w : World} {p pa : Nat} {s : Sf.S} {hs : Nat → Hd} {K : Nat → Prop} {R : Nat → List Value} {gb : Nat → Nat} (h : W3 w0 w p pa s hs K R gb) : ∀ o, o < 30 → ∃ v, w.cell? ⟨pa, o, none⟩ = some v := fun o ho => by
  have hl : (all3 R).length = 30 := by
    have h0 := h.len 0 (by omega)
    have h1 := h.len 1 (by omega)
    have h2 := h.len 2 (by omega)
    unfold all3
    rw [List.length_append, List.length_append]
    omega
  refine ⟨(all3 R)[o]'(by omega), (h.blk.at o).trans ?_⟩
  simp
end Go.Proofs.YtfheaognfocofaaGreatDoor
