/- A map of truths keyed by places: those that were seen. -/
import Derived.Test.YtemliglhippdcaaZ03
namespace Go.Proofs.Ytemliglhippdcaa
set_option maxRecDepth 100000
open Go.ChangeShapes Go.WideShapes Go.ChangeAt Go.RowKit

/-- Block b is the map that has true at the things of l, each once. -/
def Seen (w : World) (b : Nat) (l : List Nat) : Prop :=
  ∃ es c, w.heap[b]? = some (.map es c) ∧ es.toList.map (fun e => (e.key, e.val)) = l.map fun x : Nat => (Value.int .i64 (x : Int), Value.bool true)
theorem Seen.same {w w' : World} {b : Nat} {l : List Nat} (h : Seen w b l) (e : w'.heap[b]? = w.heap[b]?) : Seen w' b l := by
  obtain ⟨es, c, h1, h2⟩ := h
  exact ⟨es, c, e.trans h1, h2⟩
theorem Seen.lt {w : World} {b : Nat} {l : List Nat} (h : Seen w b l) : b < w.heap.size := by
  obtain ⟨es, c, h1, _⟩ := h
  exact (Array.getElem?_eq_some_iff.1 h1).1
theorem Seen.under {w w' : World} {b : Nat} {l : List Nat} (h : Seen w b l) (hb : Below w.heap.size w w') : Seen w' b l := h.same (hb.block b h.lt)
theorem seen_made (w : World) : Seen (w.alloc (.map #[] 0)) w.heap.size [] := ⟨#[], 0, heap_alloc_new w _, by simp⟩
theorem find_seen (x : Nat) : ∀ (es : List MapEntry) (l : List Nat) (i : Nat), es.map (fun e => (e.key, e.val)) = l.map (fun y : Nat => (Value.int .i64 (y : Int), Value.bool true)) →
    Instr.findNow (.int .i64) (.int .i64 (x : Int)) es i = some ((l.findIdx? fun y => decide (x = y)).map fun j => (i + j, Value.bool true)) := by
  intro es
  induction es with
  | nil =>
    intro l i h
    rcases l with _ | ⟨y, l⟩
    · simp [Instr.findNow]
    · simp at h
  | cons e es ih =>
    intro l i h
    rcases l with _ | ⟨y, l⟩
    · simp at h
    · simp only [List.map_cons, List.cons.injEq, Prod.mk.injEq] at h
      obtain ⟨⟨hk, hv⟩, h⟩ := h
      rw [List.findIdx?_cons]
      unfold Instr.findNow
      rw [hk, ih l (i + 1) h]
      by_cases e : x = y
      · subst e
        simp [Instr.sameNow, hv]
      · have hq : ((x : Int) == (y : Int)) = false := by simp; omega
        simp only [Instr.sameNow, hq, decide_eq_false e, Bool.false_eq_true, if_false]
        rcases l.findIdx? (fun y => decide (x = y)) with _ | j
        · rfl
        · simp
          omega
theorem find_memS (x : Nat) (l : List Nat) : (l.findIdx? fun y => decide (x = y)).isSome = decide (x ∈ l) := by
  rcases h : l.findIdx? (fun y => decide (x = y)) with _ | j
  · rw [List.findIdx?_eq_none_iff] at h
    have : x ∉ l := fun hm => by have := h x hm; simp at this
    simp [this]
  · obtain ⟨hj, hp, _⟩ := List.findIdx?_eq_some_iff_getElem.1 h
    have : x ∈ l := by
      have e : x = l[j] := by simpa using hp
      rw [e]
      exact List.getElem_mem hj
    simp [this]
theorem Seen.run_look {w : World} {b : Nat} {l : List Nat} (h : Seen w b l) (x : Nat) :
    (Instr.lookup 36 (.map (some b)) (.int .i64 (x : Int)) false).run Try.prog w = .ok (.bool (decide (x ∈ l))) w := by
  obtain ⟨es, c, h1, h2⟩ := h
  have hf := MapKept.run_findKey (w := w) Try.underlying3 (find_seen x es.toList l 0 h2)
  have hz : (zeroValue 4).run Try.prog w = .ok (.bool false) w := by kernel_rfl
  have hc : ∀ e, (Instr.checkKey e 10000 3 (.int .i64 (x : Int))).run Try.prog w = .ok () w := fun e => checkI 9999 e x w
  have hm := find_memS x l
  unfold Instr.lookup
  simp only [Sem.run_bind, run_underlying Try.underlying36, Result.andThen_ok, MapKept.run_getObj_map h1, Sem.run_pure, hc, hf]
  rcases hfi : l.findIdx? (fun y => decide (x = y)) with _ | j
  · rw [hfi] at hm
    rw [← hm]
    simp [hz]
  · rw [hfi] at hm
    rw [← hm]
    simp
theorem Seen.run_store {w : World} {b : Nat} {l : List Nat} (h : Seen w b l) (x : Nat) (hx : x ∉ l) :
    ∃ w', (Instr.mapUpdate 36 (.map (some b)) (.int .i64 (x : Int)) (.bool true)).run Try.prog w = .ok () w' ∧ Seen w' b (l ++ [x]) ∧ w.grownBy w' (some b) ∧ w'.heap.size = w.heap.size := by
  obtain ⟨es, c, h1, h2⟩ := h
  have hf := MapKept.run_findKey (w := w) Try.underlying3 (find_seen x es.toList l 0 h2)
  have hm := find_memS x l
  have hn : l.findIdx? (fun y => decide (x = y)) = none := by
    rw [decide_eq_false hx] at hm
    exact Option.not_isSome_iff_eq_none.1 (by simp [hm])
  rw [hn] at hf
  have hlt := (Array.getElem?_eq_some_iff.1 h1).1
  have hc : ∀ e, (Instr.checkKey e 10000 3 (.int .i64 (x : Int))).run Try.prog w = .ok () w := fun e => checkI 9999 e x w
  refine ⟨{ w with heap := w.heap.setIfInBounds b (.map (es.push { key := .int .i64 (x : Int), val := .bool true, born := c }) (c + 1)) }, ?_, ⟨es.push { key := .int .i64 (x : Int), val := .bool true, born := c }, c + 1, ?_, ?_⟩, ⟨rfl, rfl, rfl, by simp, fun k hk hne => ?_⟩, by simp⟩
  · unfold Instr.mapUpdate
    simp only [Sem.run_bind, run_underlying Try.underlying36, Result.andThen_ok, MapKept.run_getObj_map h1, hc, hf, Option.map_none, MapKept.run_setObj_map _ h1]
  · show (w.heap.setIfInBounds b _)[b]? = _
    rw [Array.getElem?_setIfInBounds]
    simp [hlt]
  · simp [h2]
  · show (w.heap.setIfInBounds b _)[k]? = _
    rw [Array.getElem?_setIfInBounds]
    rw [if_neg (fun e => hne (by rw [e]))]
end Go.Proofs.Ytemliglhippdcaa
