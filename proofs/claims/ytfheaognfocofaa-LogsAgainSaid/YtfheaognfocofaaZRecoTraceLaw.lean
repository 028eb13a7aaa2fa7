/- RecoTrace: a trace that is cut anywhere tells the commits that are whole, in their order; cut there, and gone on with, it tells those and the new ones. -/
import Derived.Test.YtfheaognfocofaaZRecoCut
import Derived.Test.YtfheaognfocofaaZInts
import Derived.Test.YtfheaognfocofaaZRecoAwake
namespace Go.Proofs.Ytfheaognfocofaa
set_option maxRecDepth 100000
open Go.ChangeShapes Go.WideShapes Go.ChangeAt Go.RowKit

theorem rows_apart {w : World} {base base' n m s s' : Nat} {e e' : TypeId} {v u : Value} {us us' : List Value} (h : w.ownsRow base e s v n us) (h' : w.ownsRow base' e' s' u m us') (hne : e ≠ e') : v.ownBlock = none ∨ v.ownBlock ≠ u.ownBlock := by
  rcases h.2 with ⟨rfl, _⟩ | ⟨g, cap, cur, rfl, _, hg, _⟩
  · exact .inl rfl
  · right
    rcases h'.2 with ⟨rfl, _⟩ | ⟨g', cap', cur', rfl, _, hg', _⟩
    · simp [Value.ownBlock]
    · intro e0
      simp [Value.ownBlock] at e0
      subst e0
      rw [hg] at hg'
      injection hg' with hg'
      injection hg' with _ e2
      exact hne e2
/-- Commits stay when a row of another type grows. -/
theorem OwnDs.beside {w w' : World} {base base' n s : Nat} {v u : Value} {R : List Rc.D} {e : TypeId} {us : List Value} (h : OwnDs w base v R) (hu : w.ownsRow base' e s u n us) (h1 : 39 ≠ e) (h2 : 5 ≠ e) (hg : w.grownBy w' u.ownBlock) : OwnDs w' base v R := by
  obtain ⟨T, e1, o1, o2⟩ := h
  exact ⟨T, e1, World.ownsRow.kept o1 hg (rows_apart o1 hu h1), fun y hy => (o2 y hy).grown hg (rows_apart (o2 y hy).1 hu h2)⟩
theorem RdN.take_ {w : World} {A : Option Addr} {n c k : Nat} {T : List Dv} (h : RdN w (.slice A n c) T) (hk : k ≤ n) : RdN w (.slice A k c) (T.take k) := by
  obtain ⟨A', c', e, h1, h2⟩ := h
  injection e with e1 e2 e3
  subst e1 e2 e3
  refine ⟨_, _, by rw [List.length_take, Nat.min_eq_left hk], by rw [List.length_take]; omega, fun h0 => ?_⟩
  have h0' : 0 < T.length := by rw [List.length_take] at h0; omega
  obtain ⟨b, off, rfl, hc⟩ := h2 h0'
  refine ⟨b, off, rfl, fun j hj => ?_⟩
  rw [List.length_take] at hj
  simp only [List.getElem_take]
  exact hc j (by omega)
theorem ownN_empty (w : World) (base : Nat) (hb : base ≤ w.heap.size) : OwnN (w.alloc (.cells #[] 39)) base (.slice (some ⟨w.heap.size, 0, none⟩) 0 0) [] :=
  ⟨rfl, .inr ⟨w.heap.size, 0, #[], rfl, hb, heap_alloc_new w _, Nat.le_refl _, by unfold maxLen; omega, rfl, rfl⟩⟩

end Go.Proofs.Ytfheaognfocofaa
