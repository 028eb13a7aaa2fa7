/- One number is put behind a row that stands in a box, while an iterator holds blocks of its own. -/
import Derived.Test.YtemliglhippdcaaZGrphStable
import Derived.Test.YtemliglhippdcaaZSeen
namespace Go.Proofs.Ytemliglhippdcaa
set_option maxRecDepth 100000
open Go.ChangeShapes Go.WideShapes Go.ChangeAt Go.RowKit Go.Shelf

theorem gr_cells {w : World} {base n s : Nat} {e : TypeId} {v : Value} {us : List Value} (h : w.ownsRow base e s v n us) : ∀ r, v.ownBlock = some r → ∃ o : Obj, w.heap[r]? = some o ∧ o.isCells = true := by
  rcases h.2 with ⟨rfl, _⟩ | ⟨g, cap, cur, rfl, _, hg, _⟩
  · intro r hr
    cases hr
  · intro r hr
    injection hr with hr
    subst hr
    exact ⟨_, hg, rfl⟩
/-- A row abides the turn of a block that is no cells. -/
theorem gr_from {W W' : World} {base B : Nat} {row : Option Nat} {v : Value} {l : List Nat} (h : OwnI W base v l) (hg : W.grownBy W' row) (hr : ∀ r, row = some r → B ≤ r ∧ ∃ o : Obj, W.heap[r]? = some o ∧ o.isCells = false) : OwnI W' base v l :=
  h.moves (Moves.grown hg) fun k hk e => by
    obtain ⟨o, h1, h2⟩ := gr_cells h k hk
    obtain ⟨_, o', h3, h4⟩ := hr k e
    rw [h1] at h3
    injection h3 with h3
    subst h3
    rw [h2] at h4
    cases h4
/-- The box at ps holds a row of l; the iterator's blocks F are others. -/
structure GrBox (B ps : Nat) (w9 : World) (F : Nat → Prop) (W : World) (l : List Nat) (v : Value) : Prop where
  blk : Blk W ps 22 #[v]
  own : OwnI W B v l
  apart : ∀ j, F j → (B ≤ j ∧ j < W.heap.size) ∧ v.ownBlock ≠ some j
  moves : Moves (fun j => j = ps) w9 W
variable {B ps : Nat} {w9 W W' : World} {F : Nat → Prop} {l : List Nat} {v : Value}
theorem GrBox.from' (h : GrBox B ps w9 F W l v) (hps : ps < B) (hB : w9.heap.size ≤ B) {row : Option Nat} (hg : W.grownBy W' row) (hr : ∀ r, row = some r → B ≤ r ∧ ∃ o : Obj, W.heap[r]? = some o ∧ o.isCells = false) : GrBox B ps w9 F W' l v := by
  have hmv := Moves.grown hg
  refine ⟨h.blk.moves hmv (fun e => ?_), gr_from h.own hg hr, fun j hj => ⟨⟨(h.apart j hj).1.1, Nat.lt_of_lt_of_le (h.apart j hj).1.2 hg.size⟩, (h.apart j hj).2⟩, h.moves.then hmv fun i hi e => ?_⟩
  · have := (hr _ e).1
    omega
  · have := (hr _ e).1
    omega
theorem GrBox.mono (h : GrBox B ps w9 F W l v) (hps : ps < B) (hB : w9.heap.size ≤ B) (hBW : B ≤ W.heap.size) (hmv : Moves F W W') : GrBox B ps w9 (Fresh F W W') W' l v := by
  refine ⟨h.blk.moves hmv (fun e => ?_), h.own.moves hmv fun k hk e => (h.apart k e).2 hk, fun j hj => ?_, h.moves.then hmv fun i hi e => ?_⟩
  · have := (h.apart _ e).1
    omega
  · rcases hj with hj | hj
    · exact ⟨⟨(h.apart j hj).1.1, Nat.lt_of_lt_of_le (h.apart j hj).1.2 hmv.size⟩, (h.apart j hj).2⟩
    · refine ⟨⟨by omega, hj.2⟩, fun e => ?_⟩
      have := (h.own.lt j e).2
      omega
  · have := (h.apart _ e).1
    omega
theorem GrBox.append (h : GrBox B ps w9 F W l v) (hps : ps < B) (hB : w9.heap.size ≤ B) (hBW : B ≤ W.heap.size) (hl : l.length ≤ 1000) (x : Nat) {F0 : Nat → Prop} (hF0 : ∀ j, F0 j → j < B ∧ j ≠ ps) :
    ∃ v' W2, (Builtin.append_ #[22, 22] 22 #[v, .slice (some ⟨W.heap.size, 0, none⟩) 1 1]).run Try.prog (W.alloc (.cells #[.int .i64 (x : Int)] 3)) = .ok v' W2 ∧ Blk W2 ps 22 #[v] ∧ (∃ A n c, v' = .slice A n c) ∧
      KeepsFrom B W (W2.setCell ⟨ps, 0, none⟩ v') ∧ Lie (fun j => F j ∨ F0 j) W (W2.setCell ⟨ps, 0, none⟩ v') ∧ GrBox B ps w9 F (W2.setCell ⟨ps, 0, none⟩ v') (l ++ [x]) v' := by
  have hba := bel_alloc W (.cells #[.int .i64 (x : Int)] 3)
  have hown := h.own.under hba
  obtain ⟨v', W2, hr, ho, hg, hat⟩ := run_append_int (T := 22) (ty := 22) Try.underlying22 W.heap.size x 1 hown (cell_new_int W _ _) (by omega) (by simp; omega)
  have hb1 := h.blk.under hba
  have hvp : v.ownBlock ≠ some ps := fun e => by
    have := (h.own.lt ps e).1
    omega
  have hb2 : Blk W2 ps 22 #[v] := hb1.moves (Moves.grown hg) fun e => hvp e
  have hvp' : v'.ownBlock ≠ some ps := fun e => by
    have := (ho.lt ps e).1
    omega
  have hset := Moves.setCell W2 ⟨ps, 0, none⟩ v'
  have hm12 : Moves (fun j => v.ownBlock = some j) W W2 := (Moves.under hba).trans (Moves.grown hg)
  have hm13 : Moves (fun j => v.ownBlock = some j ∨ j = ps) W (W2.setCell ⟨ps, 0, none⟩ v') := (hm12.wide fun _ _ e => .inl e).then hset fun _ _ e => .inr e
  refine ⟨v', W2, hr, hb2, ?_, ?_, ⟨hm13.size, fun j hj hlt => hm13.block j hlt fun e => ?_⟩, ⟨hb2.set 0 v', ho.moves hset fun k hk e => hvp' (hk.trans (by rw [e])), fun j hj => ⟨⟨(h.apart j hj).1.1, Nat.lt_of_lt_of_le (h.apart j hj).1.2 hm13.size⟩, fun e => ?_⟩, h.moves.then hm13 fun i hi e => ?_⟩⟩
  · obtain ⟨A, c, e, _⟩ := ho.parts
    exact ⟨A, _, c, e⟩
  · exact (((KeepsOthers.alloc W _).trans (KeepsOthers.of_grownBy hg (own_cells hown))).trans (KeepsOthers.setCell _ _ _)).from _
  · rcases hj with hj | hj
    · rcases e with e | e
      · exact (h.apart j hj).2 e
      · have := (h.apart j hj).1
        omega
    · rcases e with e | e
      · have := (h.own.lt j e).1
        have := (hF0 j hj).1
        omega
      · exact (hF0 j hj).2 e
  · rcases hat with hat | hat
    · rw [hat] at e
      exact (h.apart j hj).2 e
    · rw [hat] at e
      injection e with e
      have := (h.apart j hj).1.2
      have := hba.size
      omega
  · rcases e with e | e
    · have := (h.own.lt i e).1
      omega
    · exact e
end Go.Proofs.Ytemliglhippdcaa
