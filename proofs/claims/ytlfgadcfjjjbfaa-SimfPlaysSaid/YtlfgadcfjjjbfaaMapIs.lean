/- A map keyed by texts, as a function from texts to values: asked, stored into. -/
import Derived.Test.YtlfgadcfjjjbfaaText
import Derived.Maps.OwnSet
import Derived.Maps.Own
namespace Go.Proofs.Ytlfgadcfjjjbfaa
set_option maxRecDepth 100000
open Go.ChangeShapes Go.WideShapes Go.ChangeAt Go.RowKit Go.ChangeMaps

def heldR (v : Value) : Option (DataW Value × List MemPlace) := some (.held v, [])
def keyL (t : List Nat) : Lit := .string (t.map UInt8.ofNat)
theorem keyed : Go.Maps.Keyed Try.prog 9 := Go.Maps.string_keyed Try.underlying9
theorem key_of (t : List Nat) (h : t.length ≤ maxLen) : keyOf Try.prog 9 (.string (str t)) = some (keyL t) := by
  have := WideMaps.keyOf_string_mk (P := Try.prog) Try.underlying9 (s := str t) (by rw [str_size]; exact h)
  rw [this]
  simp [keyL, str_data]
theorem keyL_inj {t u : List Nat} (ht : ∀ c ∈ t, c < 256) (hu : ∀ c ∈ u, c < 256) (h : keyL t = keyL u) : t = u := by
  unfold keyL at h
  injection h with h
  have : ((str t).toList == (str u).toList) = true := by rw [str_toList, str_toList, h]; simp
  rw [str_same ht hu] at this
  simpa using this
theorem keyL_key (t : List Nat) : WideAt.IsKeyLit (keyL t) := trivial
/-- Block b is a map of at most n entries that answers as f does. -/
def MapIs (w : World) (b n : Nat) (f : List Nat → Option Value) : Prop :=
  ∃ D, w.ownsMap Try.prog 9 heldR b n D ∧ ∀ t, (∀ c ∈ t, c < 256) → Maps.has D (keyL t) = (f t).isSome ∧ ∀ v z, f t = some v → D.atKey (keyL t) z = .held v
theorem mapIs_made (w : World) : MapIs (w.alloc (.map #[] 0)) w.heap.size 0 fun _ => none :=
  ⟨_, World.ownsMap_made _ _ _ _, fun t _ => ⟨rfl, fun v z h => by cases h⟩⟩
theorem MapIs.kept {w w' : World} {b n : Nat} {f : List Nat → Option Value} {row : Option Nat} (h : MapIs w b n f) (hg : w.grownBy w' row) (hne : some b ≠ row) : MapIs w' b n f := by
  obtain ⟨D, h1, h2⟩ := h
  exact ⟨D, h1.kept hg hne, h2⟩
theorem MapIs.lt {w : World} {b n : Nat} {f : List Nat → Option Value} (h : MapIs w b n f) : b < w.heap.size := by
  obtain ⟨D, h1, _⟩ := h
  exact h1.lt
theorem MapIs.map {w : World} {b n : Nat} {f : List Nat → Option Value} (h : MapIs w b n f) : ∃ es c, w.heap[b]? = some (.map es c) := by
  obtain ⟨D, ⟨es, c, hb, _⟩, _⟩ := h
  exact ⟨es, c, hb⟩
theorem MapIs.same {w w' : World} {b n : Nat} {f : List Nat → Option Value} (h : MapIs w b n f) (hb : w'.heap[b]? = w.heap[b]?) : MapIs w' b n f := by
  obtain ⟨D, ⟨es, c, h1, h3⟩, h2⟩ := h
  exact ⟨D, ⟨es, c, hb.trans h1, h3⟩, h2⟩
theorem MapIs.mono {w : World} {b n n' : Nat} {f : List Nat → Option Value} (h : MapIs w b n f) (hn : n ≤ n') : MapIs w b n' f := by
  obtain ⟨D, h1, h2⟩ := h
  exact ⟨D, h1.mono hn, h2⟩
section
variable (w : World) {ops : Array Oper} {rest : List Oper} {o : Oper} {a : Act} {Q : Exit → Act → World → Prop}
theorem wpList_look (hg : o.guard = none) (m x : Operand) (T : TypeId) (hop : o.op = Op.lookup T m x true) (e : TypeId) (ht : Try.prog.underlying T = some (.map 9 e)) (z : Value) (hz : (zeroValue e).run Try.prog w = .ok z w)
    (b n : Nat) (f : List Nat → Option Value) (hm : a.eval m = .map (some b)) (h : MapIs w b n f) (t : List Nat) (ht1 : ∀ c ∈ t, c < 256) (ht2 : t.length ≤ 1099511627776) (hx : a.eval x = .string (str t))
    (hK : wpList Try.prog ops Q rest (a.put o.dst (.tuple #[(f t).getD z, .bool (f t).isSome])) w) : wpList Try.prog ops Q (o :: rest) a w := by
  obtain ⟨D, h1, h2⟩ := h
  refine wpList_lookup_own_ok w hg m x T hop 9 e keyed ht heldR hz (.held z) [] rfl b n D hm h1 _ _ hx (key_of t (by unfold maxLen; omega)) ?_
  intro v ps hv
  obtain ⟨e1, e2⟩ := h2 t ht1
  rw [e1]
  unfold heldR at hv
  injection hv with hv
  injection hv with hv _
  rcases hf : f t with _ | u
  · rw [hf] at e1 hK
    rw [Maps.atKey_of_not_has e1] at hv
    injection hv with hv
    subst hv
    exact hK
  · rw [hf] at hK
    rw [e2 u _ hf] at hv
    injection hv with hv
    subst hv
    exact hK
theorem wpList_store (hg : o.guard = none) (m x v : Operand) (T : TypeId) (hop : o.op = Op.mapUpdate T m x v) (e : TypeId) (ht : Try.prog.underlying T = some (.map 9 e))
    (b n : Nat) (f : List Nat → Option Value) (hm : a.eval m = .map (some b)) (h : MapIs w b n f) (hn : n ≤ 1099511627776) (t : List Nat) (ht1 : ∀ c ∈ t, c < 256) (ht2 : t.length ≤ 1099511627776) (hx : a.eval x = .string (str t)) (val : Value) (hv : a.eval v = val)
    (hK : ∀ w', MapIs w' b (n + 1) (fun u => if u = t then some val else f u) → w.grownBy w' (some b) → (∀ k, k ≠ b → w'.heap[k]? = w.heap[k]?) → w'.heap.size = w.heap.size → wpList Try.prog ops Q rest (a.put o.dst undef) w') : wpList Try.prog ops Q (o :: rest) a w := by
  obtain ⟨D, h1, h2⟩ := h
  refine wpList_mapUpdate_in w hg m x v T hop 9 e keyed ht heldR b n D hm h1 (by unfold maxLen; omega) _ val (keyL t) hx hv (key_of t (by unfold maxLen; omega)) (.held val) [] rfl ?_
  intro w' h3 h4
  have hD := h1.isMap
  refine hK w' ⟨_, h3, fun u hu => ?_⟩ h4.grown ?_ ?_
  · by_cases hut : u = t
    · subst hut
      simp only [if_true]
      exact ⟨Maps.has_put_same hD (keyL_key u) _, fun v z hv => by injection hv with hv; rw [← hv]; exact Maps.atKey_put_same hD (keyL_key u) _ _⟩
    · have hne : keyL u ≠ keyL t := fun e => hut (keyL_inj hu ht1 e)
      dsimp only
      rw [Maps.has_put_other hne, if_neg hut]
      exact ⟨(h2 u hu).1, fun v z hv => by rw [Maps.atKey_put_other hne]; exact (h2 u hu).2 v z hv⟩
  · obtain ⟨es, c, es', c', hb, rfl⟩ := h4
    intro k hk
    exact heap_setBlock_other hb _ hk
  · obtain ⟨es, c, es', c', hb, rfl⟩ := h4
    simp [setBlock]
end
end Go.Proofs.Ytlfgadcfjjjbfaa
