/- Package mani's own reader: noting an Out; what the loop over Outs keeps beside it. -/
import Derived.Test.YtemliglhippdcaaZ25
import Derived.Test.YtemliglhippdcaaZ15
import Derived.Test.YtemliglhippdcaaZ24
namespace Go.Proofs.Ytemliglhippdcaa
set_option maxRecDepth 100000
open Go.ChangeShapes Go.WideShapes Go.ChangeAt Go.RowKit Go.Shelf

theorem has_snoc (t k : List Nat) (i : Nat) : ∀ (L : List (List Nat × Nat)), Mo.has t (L ++ [(k, i)]) = if k = t then some i else Mo.has t L
  | [] => by
    rw [List.nil_append]
    unfold Mo.has Mo.has
    rfl
  | (u, m) :: r => by
    rw [List.cons_append]
    conv => lhs; unfold Mo.has
    rw [has_snoc t k i r]
    by_cases h : k = t
    · rw [if_pos h, if_pos h]
    · rw [if_neg h, if_neg h]
      conv => rhs; unfold Mo.has
/-- Nothing old is turned but two blocks. -/
structure MTwo (w w' : World) (g m : Nat) : Prop where
  os : w'.os = w.os
  tape : w'.tape = w.tape
  output : w'.output = w.output
  size : w.heap.size ≤ w'.heap.size
  block : ∀ k, k < w.heap.size → k ≠ g → k ≠ m → w'.heap[k]? = w.heap[k]?
theorem MTwo.refl (w : World) (g m : Nat) : MTwo w w g m := ⟨rfl, rfl, rfl, Nat.le_refl _, fun _ _ _ _ => rfl⟩
theorem MTwo.left {w A B : World} {g m : Nat} (h : MTwo w A g m) (k : A.grownBy B (some g)) : MTwo w B g m :=
  ⟨k.os.trans h.os, k.tape.trans h.tape, k.output.trans h.output, Nat.le_trans h.size k.size, fun j hj h1 h2 => (k.block j (Nat.lt_of_lt_of_le hj h.size) (by intro e; injection e with e; exact h1 e)).trans (h.block j hj h1 h2)⟩
theorem MTwo.below {w A B : World} {g m lo : Nat} (h : MTwo w A g m) (k : Below lo A B) (hlo : w.heap.size ≤ lo) : MTwo w B g m :=
  ⟨k.os.trans h.os, k.tape.trans h.tape, k.output.trans h.output, Nat.le_trans h.size k.size, fun j hj h1 h2 => (k.block j (by omega)).trans (h.block j hj h1 h2)⟩
theorem MTwo.store {w A B : World} {g m : Nat} (h : MTwo w A g m) (k : A.grownBy B (some m)) : MTwo w B g m :=
  ⟨k.os.trans h.os, k.tape.trans h.tape, k.output.trans h.output, Nat.le_trans h.size k.size, fun j hj h1 h2 => (k.block j (Nat.lt_of_lt_of_le hj h.size) (by intro e; injection e with e; exact h2 e)).trans (h.block j hj h1 h2)⟩
theorem MTwo.toBelow {w A : World} {g m base : Nat} (h : MTwo w A g m) (h1 : base ≤ g) (h2 : base ≤ m) (h3 : base ≤ w.heap.size) : Below base w A :=
  ⟨h.os, h.tape, h.output, h.size, fun k hk => h.block k (by omega) (by omega) (by omega)⟩
/-- The texts so far, in a box. -/
def BoxT (W : World) (lx b0 : Nat) (L : List (List Nat)) : Prop := ∃ hv, Blk W lx 24 #[hv] ∧ OwnT W b0 hv L
theorem BoxT.kept {A B : World} {lx b0 : Nat} {L : List (List Nat)} {row : Option Nat} (h : BoxT A lx b0 L) (hg : A.grownBy B row) (hr : ∀ r, row = some r → ∃ o : Obj, A.heap[r]? = some o ∧ o.isCells = false) : BoxT B lx b0 L :=
  h.imp fun _ hb => ⟨hb.1.kept hg hr, hb.2.kept hg hr⟩
theorem BoxT.left {A B : World} {lx b0 g : Nat} {L : List (List Nat)} (h : BoxT A lx b0 L) (hg : A.grownBy B (some g)) (h1 : g < lx) (h2 : g < b0) : BoxT B lx b0 L :=
  h.imp fun hv hb => ⟨hb.1.grown hg (by intro e; injection e with e; omega), World.ownsRow.kept hb.2 hg (by
    cases hu : hv.ownBlock with
    | none => exact .inl rfl
    | some k =>
      refine .inr fun e => ?_
      injection e with e
      have := (hb.2.lt k hu).1
      omega)⟩
theorem BoxT.under {A B : World} {lx b0 : Nat} {L : List (List Nat)} (h : BoxT A lx b0 L) (hb : Below A.heap.size A B) : BoxT B lx b0 L := h.imp fun _ h => ⟨h.1.under hb, h.2.under hb⟩
theorem BoxT.heap {A B : World} {lx b0 : Nat} {L : List (List Nat)} (h : BoxT A lx b0 L) (e : B.heap = A.heap) : BoxT B lx b0 L := by
  obtain ⟨hv, h1, h2⟩ := h
  refine ⟨hv, by unfold Blk at *; rw [e]; exact h1, ?_⟩
  unfold OwnT World.ownsRow at *
  rw [e]
  exact h2
theorem note_step : Mo.Step Mo.note := fun x s => by
  unfold Mo.note
  dsimp only
  split
  · unfold Mo.fail
    split <;> rfl
  · rfl
theorem note_yes {x : Ln.W} {s : Mo.S} {i : Nat} (h : Mo.has x.text s.makers = some i) : Mo.note x s = { Mo.fail 8 x s with makers := (Mo.fail 8 x s).makers ++ [(x.text, (Mo.fail 8 x s).rules.length)] } := by
  unfold Mo.note
  rw [h]
  rfl
theorem note_no {x : Ln.W} {s : Mo.S} (h : Mo.has x.text s.makers = none) : Mo.note x s = { s with makers := s.makers ++ [(x.text, s.rules.length)] } := by
  unfold Mo.note
  rw [h]
  rfl
theorem fail_makers (k : Nat) (x : Ln.W) (s : Mo.S) : (Mo.fail k x s).makers = s.makers := by unfold Mo.fail; split <;> rfl
theorem fail_rules (k : Nat) (x : Ln.W) (s : Mo.S) : (Mo.fail k x s).rules = s.rules := by unfold Mo.fail; split <;> rfl
theorem note_makers (x : Ln.W) (s : Mo.S) : (Mo.note x s).makers.length = s.makers.length + 1 := by
  rcases h : Mo.has x.text s.makers with _ | i
  · rw [note_no h, List.length_append]; rfl
  · rw [note_yes h, List.length_append, fail_makers]; rfl
theorem note_rules (x : Ln.W) (s : Mo.S) : (Mo.note x s).rules = s.rules := by
  rcases h : Mo.has x.text s.makers with _ | i
  · rw [note_no h]
  · rw [note_yes h, fail_rules]
theorem st_note (ws : List Ln.W) (s : Mo.S) : ∀ k, (Mo.st Mo.note ws s k).makers.length = s.makers.length + k ∧ (Mo.st Mo.note ws s k).rules = s.rules
  | 0 => ⟨rfl, rfl⟩
  | k + 1 => by
    obtain ⟨h1, h2⟩ := st_note ws s k
    rw [Mo.st, note_makers, note_rules]
    exact ⟨by dsimp only; omega, h2⟩
end Go.Proofs.Ytemliglhippdcaa

/- Package mani's own reader: one action's words are taken. -/
namespace Go.Proofs.Ytemliglhippdcaa
set_option maxRecDepth 100000
open Go.ChangeShapes Go.WideShapes Go.ChangeAt Go.RowKit Go.Shelf

theorem SlW.heap {w w' : World} {hi : Nat} {v : Value} {R : List Ln.W} (h : SlW w hi v R) (e : w'.heap = w.heap) : SlW w' hi v R := h.keep (Q := PartTy) (fun b _ _ _ _ => by rw [e]) (.inr (.inr (.inr rfl)))
theorem drop_mem {α : Type} {l : List α} {n : Nat} {x : α} (h : x ∈ l.drop n) : x ∈ l := List.mem_of_mem_drop h
end Go.Proofs.Ytemliglhippdcaa

/- Package mani's own reader: the Outs of the rule that comes next. -/
namespace Go.Proofs.Ytemliglhippdcaa
set_option maxRecDepth 100000
open Go.ChangeShapes Go.WideShapes Go.ChangeAt Go.RowKit Go.Shelf

attribute [local go_sem] Oper.semAt_some

theorem outs_is {s s1 : Mo.S} {most N : Nat} (h1 : s1 = if s.rules.length = 64 then Mo.fail 11 s.first s else s) (hN : (Mo.run Mo.note most Mo.file s1.rest 0 s1).1 = N) :
    Mo.outs most s = (Mo.texts (s1.rest.take N), if N = 0 then Mo.wrong (Mo.run Mo.note most Mo.file s1.rest 0 s1).2 else (Mo.run Mo.note most Mo.file s1.rest 0 s1).2) := by
  subst hN
  unfold Mo.outs
  rw [← h1]
theorem two_set {w A : World} {g m : Nat} (h : MTwo w A g m) {k : Nat} (hk : w.heap.size ≤ k) (u : Value) : MTwo w (A.setCell ⟨k, 0, none⟩ u) g m :=
  ⟨h.os, h.tape, h.output, by simpa using h.size, fun j hj h1 h2 => (Below.heap_setCell _ _ _ _ (by intro e; dsimp only at e; omega)).trans (h.block j hj h1 h2)⟩
end Go.Proofs.Ytemliglhippdcaa
