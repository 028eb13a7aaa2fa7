/- What FramTells asks first: known frames, written and found; frames of rows. -/
import Derived.Test.YtfheaognfocofaaZ08
import Derived.Test.YtfheaognfocofaaZ07
namespace Go.Proofs.Ytfheaognfocofaa
set_option maxRecDepth 100000
open Go.ChangeShapes Go.WideShapes Go.ChangeAt Go.RowKit Go.Shelf

attribute [local go_sem] Oper.semAt_some

/-- Frames, one behind the other. -/
def Fr.frs (L : List (List Nat)) : List Nat := (L.map Fr.frm).flatten
theorem frs_next (L : List (List Nat)) (k : Nat) (h : k < L.length) : Fr.frs (L.take k) ++ Fr.frm (L.getD k []) = Fr.frs (L.take (k + 1)) := by
  unfold Fr.frs
  rw [List.take_succ_eq_append_getElem h, List.map_append, List.flatten_append, List.getD_eq_getElem?_getD, List.getElem?_eq_getElem h]
  simp
theorem frs_length : ∀ (L : List (List Nat)), (Fr.frs L).length = L.flatten.length + 10 * L.length
  | [] => rfl
  | x :: L => by
    have := frs_length L
    unfold Fr.frs at *
    simp [Fr.frm_length] at *
    omega

theorem OwnR.setOther {w : World} {base g : Nat} {v : Value} {L : List (List Nat)} {e : TypeId} {cs : Array Value} (h : OwnR w base v L) (hb : Blk w g e cs) (h1 : e ≠ 28) (h2 : e ≠ 5) (i : Nat) (x : Value) : OwnR (w.setCell ⟨g, i, none⟩ x) base v L := by
  obtain ⟨us, e1, e2, e4, e3⟩ := h
  have hg := grown_setCell w ⟨g, i, none⟩ x
  have apart : ∀ {ty : TypeId} {n sz : Nat} {u : Value} {xs : List Value}, w.ownsRow base ty sz u n xs → ty ≠ e → u.ownBlock = none ∨ u.ownBlock ≠ some g := by
    intro ty n sz u xs hu hne
    rcases hu.2 with ⟨rfl, _⟩ | ⟨g', cap, cur, rfl, _, hgc, _⟩
    · exact .inl rfl
    · refine .inr fun e5 => ?_
      simp [Value.ownBlock] at e5
      subst e5
      rw [show w.heap[g']? = some (.cells cs e (0, 0)) from hb] at hgc
      injection hgc with e6
      injection e6 with _ e7
      exact hne e7.symm
  exact ⟨us, e1, e2.kept hg (apart e2 (Ne.symm h1)), e4, fun j hj => (e3 j hj).grown hg (apart (e3 j hj).1 (Ne.symm h2))⟩

/-- The two known frames. -/
def aw1 : List Nat := [0, 0, 0, 0, 0, 1, 97, 190, 194, 191, 241]
def aw2 : List Nat := [0, 0, 0, 0, 0, 1, 97, 190, 194, 191, 241, 0, 0, 0, 0, 0, 0, 177, 194, 161, 163]
def aw3 : List Nat := [0, 0, 0, 0, 0, 1, 97, 190, 194, 191, 241, 0, 0, 0, 0, 0, 0, 177, 194, 161, 163, 1, 2, 3]
theorem aw1_eq : [] ++ Fr.frm [97] = aw1 := by decide +kernel
theorem aw2_eq : aw1 ++ Fr.frm [] = aw2 := by decide +kernel
theorem scn_two (b : List Nat) (h0 : Fr.whole (b.drop (Fr.pos b 0)) = true) (h1 : Fr.whole (b.drop (Fr.pos b 1)) = true) (h2 : Fr.whole (b.drop (Fr.pos b 2)) = false) : Fr.Scn b 2 := by
  refine ⟨fun k hk => ?_, h2⟩
  have : k = 0 ∨ k = 1 := by omega
  rcases this with rfl | rfl
  · exact h0
  · exact h1
theorem aw2_scn : Fr.Scn aw2 2 := scn_two _ (by decide +kernel) (by decide +kernel) (by decide +kernel)
theorem aw3_scn : Fr.Scn aw3 2 := scn_two _ (by decide +kernel) (by decide +kernel) (by decide +kernel)
theorem aw3_rows : Fr.rows aw3 2 = [[97], []] := by decide +kernel
theorem aw3_pos : Fr.pos aw3 2 = 21 := by decide +kernel
def awN (k : Nat) : Int := if k = 0 then 0 else if k = 1 then 1 else 12
theorem awN_next {k : Nat} (h : k < 2) : awN k + ((Fr.pos aw2 k : Nat) : Int) + (((Fr.held (aw2.drop (Fr.pos aw2 k))).length : Nat) : Int) = awN (k + 1) := by
  have : k = 0 ∨ k = 1 := by omega
  rcases this with rfl | rfl <;> decide +kernel

end Go.Proofs.Ytfheaognfocofaa
