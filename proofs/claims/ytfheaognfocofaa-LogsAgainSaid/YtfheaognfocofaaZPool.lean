/- A pool of rows of bytes of a call's own, no two of them in one block: for regions that draw their order, where each step makes or turns one of them. -/
import Derived.Test.YtfheaognfocofaaZ01
import Derived.Test.YtfheaognfocofaaZConcat
namespace Go.Proofs.Ytfheaognfocofaa
set_option maxRecDepth 100000
open Go.ChangeShapes Go.WideShapes Go.ChangeAt Go.RowKit

def Apt (x y : Value) : Prop := ∀ k, x.ownBlock = some k → y.ownBlock ≠ some k
theorem Apt.symm {x y : Value} (h : Apt x y) : Apt y x := fun k hk e => h k e hk
theorem Apt.or {x y : Value} (h : Apt x y) : x.ownBlock = none ∨ x.ownBlock ≠ y.ownBlock := by
  rcases hx : x.ownBlock with _ | k
  · exact .inl rfl
  · exact .inr fun e => h k hx e.symm
theorem Apt.grew {x v v' : Value} {n : Nat} (h : Apt x v) (ho : v'.ownBlock = v.ownBlock ∨ v'.ownBlock = some n) (hlt : ∀ k, x.ownBlock = some k → k < n) : Apt x v' := fun k hk e => by
  rcases ho with ho | ho
  · exact h k hk (ho ▸ e)
  · rw [ho] at e
    injection e with e
    have := hlt k hk
    omega
theorem Own.heap_ {w W : World} {base : Nat} {v : Value} {l : List Nat} (h : Own w base v l) (e : W.heap = w.heap) : Own W base v l := by
  unfold Own World.ownsRow at *
  rw [e]
  exact h
/-- Rows of bytes of one's own, each apart from the others. -/
def Pool (w : World) (base : Nat) (L : List (Value × List Nat)) : Prop :=
  base ≤ w.heap.size ∧ (∀ (i : Nat) (x : Value × List Nat), L[i]? = some x → Own w base x.1 x.2) ∧ ∀ (i j : Nat) (x y : Value × List Nat), i ≠ j → L[i]? = some x → L[j]? = some y → Apt x.1 y.1
theorem pool_none {w : World} {base : Nat} (h : base ≤ w.heap.size) : Pool w base [] := ⟨h, by simp, by simp⟩
theorem Pool.get {w : World} {base : Nat} {L : List (Value × List Nat)} (h : Pool w base L) (i : Nat) {v : Value} {l : List Nat} (e : L[i]? = some (v, l)) : Own w base v l := h.2.1 i _ e
theorem Pool.heap {w W : World} {base : Nat} {L : List (Value × List Nat)} (h : Pool w base L) (e : W.heap = w.heap) : Pool W base L :=
  ⟨by rw [e]; exact h.1, fun i x hx => (h.2.1 i x hx).heap_ e, h.2.2⟩
theorem Pool.under {w w' : World} {base : Nat} {L : List (Value × List Nat)} (h : Pool w base L) (hb : Below w.heap.size w w') : Pool w' base L :=
  ⟨Nat.le_trans h.1 hb.size, fun i x hx => (h.2.1 i x hx).under hb, h.2.2⟩
/-- A row that was made behind all that were there. -/
theorem Pool.made {w w' : World} {base : Nat} {L : List (Value × List Nat)} {v : Value} {l : List Nat} (h : Pool w base L) (hb : Below w.heap.size w w') (ho : Own w' w.heap.size v l) : Pool w' base ((v, l) :: L) := by
  have h' := h.under hb
  have hap : ∀ (i : Nat) (y : Value × List Nat), L[i]? = some y → Apt v y.1 := fun i y hy k hk e => by
    have h1 := (ho.lt k hk).1
    have h2 := ((h.2.1 i y hy).lt k e).2
    omega
  refine ⟨h'.1, fun i x hx => ?_, fun i j x y hij hx hy => ?_⟩
  · rcases i with _ | i
    · simp at hx
      subst hx
      exact ho.more h.1
    · exact h'.2.1 i x (by simpa using hx)
  · rcases i with _ | i
    · rcases j with _ | j
      · exact absurd rfl hij
      · simp at hx hy
        subst hx
        exact hap j y hy
    · rcases j with _ | j
      · simp at hx hy
        subst hy
        exact (hap i x hx).symm
      · simp at hx hy
        exact h.2.2 i j x y (by omega) hx hy
theorem Pool.nil {w : World} {base : Nat} {L : List (Value × List Nat)} (h : Pool w base L) : Pool (w.alloc (.cells #[] 5)) base ((.slice (some ⟨w.heap.size, 0, none⟩) 0 0, []) :: L) :=
  h.made ((Below.refl _ _).alloc (Nat.le_refl _) _) (own_empty w w.heap.size 0 #[] (Nat.le_refl _) (by unfold maxLen; omega) rfl)
theorem Pool.one {w : World} {base : Nat} {L : List (Value × List Nat)} (h : Pool w base L) (x : Nat) (hx : x < 256) : Pool (w.alloc (.cells #[.int .u8 (x : Int)] 5)) base ((.slice (some ⟨w.heap.size, 0, none⟩) 1 1, [x]) :: L) :=
  h.made ((Below.refl _ _).alloc (Nat.le_refl _) _) (own_new w w.heap.size [x] (by simpa using hx) (by simp [maxLen]) (Nat.le_refl _))
theorem set_getElem? {α : Type} (L : List α) (i j : Nat) (x y : α) (h : (L.set i x)[j]? = some y) : (i = j ∧ y = x) ∨ (i ≠ j ∧ L[j]? = some y) := by
  rw [List.getElem?_set] at h
  by_cases e : i = j
  · rw [if_pos e] at h
    subst e
    by_cases hl : i < L.length
    · rw [if_pos hl] at h
      injection h with h
      exact .inl ⟨rfl, h.symm⟩
    · rw [if_neg hl] at h
      cases h
  · rw [if_neg e] at h
    exact .inr ⟨e, h⟩
/-- One of them has grown. -/
theorem Pool.app {w w' : World} {base : Nat} {L : List (Value × List Nat)} (h : Pool w base L) (i : Nat) {v v' : Value} {l r : List Nat} (e : L[i]? = some (v, l)) (hg : Grew base v r w v' w') : Pool w' base (L.set i (v', r)) := by
  obtain ⟨g1, g2, g3, g4⟩ := hg
  have key : ∀ (j : Nat) (y : Value × List Nat), i ≠ j → L[j]? = some y → Own w' base y.1 y.2 ∧ Apt y.1 v' := fun j y hij hy => by
    have hap := h.2.2 j i y (v, l) (Ne.symm hij) hy e
    have ho := h.2.1 j y hy
    exact ⟨ho.grown g2 hap.or, hap.grew g3 fun k hk => (ho.lt k hk).2⟩
  refine ⟨Nat.le_trans h.1 g4.size, fun j x hx => ?_, fun j k x y hjk hx hy => ?_⟩
  · rcases set_getElem? L i j _ x hx with ⟨rfl, rfl⟩ | ⟨hne, hx⟩
    · exact g1
    · exact (key j x hne hx).1
  · rcases set_getElem? L i j _ x hx with ⟨rfl, rfl⟩ | ⟨hne, hx⟩
    · rcases set_getElem? L i k _ y hy with ⟨rfl, rfl⟩ | ⟨hne2, hy⟩
      · exact absurd rfl hjk
      · exact (key k y hne2 hy).2.symm
    · rcases set_getElem? L i k _ y hy with ⟨rfl, rfl⟩ | ⟨hne2, hy⟩
      · exact (key j x hne hx).2
      · exact h.2.2 j k x y hjk hx hy
end Go.Proofs.Ytfheaognfocofaa
