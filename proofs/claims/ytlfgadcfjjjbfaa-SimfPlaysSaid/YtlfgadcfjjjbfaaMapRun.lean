/- A map keyed by texts: what asking it, and storing into it, come to as they run. -/
import Derived.Test.YtlfgadcfjjjbfaaMapIs
namespace Go.Proofs.Ytlfgadcfjjjbfaa
set_option maxRecDepth 100000
open Go.ChangeShapes Go.WideShapes Go.ChangeAt Go.RowKit Go.ChangeMaps

theorem MapIs.run_look {w : World} {b n : Nat} {f : List Nat → Option Value} (h : MapIs w b n f) {T e : TypeId} (ht : Try.prog.underlying T = some (.map 9 e)) {z : Value} (hz : (zeroValue e).run Try.prog w = .ok z w) {t : List Nat} (ht1 : ∀ c ∈ t, c < 256) (ht2 : t.length ≤ 1099511627776) :
    (Instr.lookup T (.map (some b)) (.string (str t)) true).run Try.prog w = .ok (.tuple #[(f t).getD z, .bool (f t).isSome]) w := by
  obtain ⟨D, h1, h2⟩ := h
  obtain ⟨v, ps, hrun, hv⟩ := h1.look_ok keyed ht hz (zd := .held z) (zp := []) rfl (key_of t (by unfold maxLen; omega))
  rw [hrun]
  obtain ⟨e1, e2⟩ := h2 t ht1
  rw [e1]
  unfold heldR at hv
  injection hv with hv
  injection hv with hv _
  rcases hf : f t with _ | u
  · rw [hf] at e1
    rw [Maps.atKey_of_not_has e1] at hv
    injection hv with hv
    subst hv
    rfl
  · rw [e2 u _ hf] at hv
    injection hv with hv
    subst hv
    rfl
theorem MapIs.run_store {w : World} {b n : Nat} {f : List Nat → Option Value} (h : MapIs w b n f) {T e : TypeId} (ht : Try.prog.underlying T = some (.map 9 e)) (hn : n ≤ 1099511627776) {t : List Nat} (ht1 : ∀ c ∈ t, c < 256) (ht2 : t.length ≤ 1099511627776) (val : Value) :
    ∃ w', (Instr.mapUpdate T (.map (some b)) (.string (str t)) val).run Try.prog w = .ok () w' ∧ MapIs w' b (n + 1) (fun u => if u = t then some val else f u) ∧ w.grownBy w' (some b) ∧ (∀ k, k ≠ b → w'.heap[k]? = w.heap[k]?) ∧ w'.heap.size = w.heap.size := by
  obtain ⟨D, h1, h2⟩ := h
  obtain ⟨w', hrun, h3, h4⟩ := h1.store keyed ht (val := val) (d := .held val) (ps := []) (by unfold maxLen; omega) (key_of t (by unfold maxLen; omega)) rfl
  have hD := h1.isMap
  refine ⟨w', hrun, ⟨_, h3, fun u hu => ?_⟩, h4.grown, ?_, ?_⟩
  · by_cases hut : u = t
    · subst hut
      simp only [if_true]
      exact ⟨Maps.has_put_same hD (keyL_key u) _, fun v z hv => by injection hv with hv; rw [← hv]; exact Maps.atKey_put_same hD (keyL_key u) _ _⟩
    · have hne : keyL u ≠ keyL t := fun e => hut (keyL_inj hu ht1 e)
      dsimp only
      rw [Maps.has_put_other hne, if_neg hut]
      exact ⟨(h2 u hu).1, fun v z hv => by rw [Maps.atKey_put_other hne]; exact (h2 u hu).2 v z hv⟩
  · obtain ⟨es, c, es', c', hb, rfl⟩ := h4
    intro k hk
    exact heap_setBlock_other hb _ hk
  · obtain ⟨es, c, es', c', hb, rfl⟩ := h4
    simp [setBlock]
end Go.Proofs.Ytlfgadcfjjjbfaa
