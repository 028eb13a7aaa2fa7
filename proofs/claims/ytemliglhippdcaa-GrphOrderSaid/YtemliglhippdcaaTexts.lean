/- A row of texts of the call's own: read, kept, grown by one, set at one place. -/
import Derived.Test.YtemliglhippdcaaText
namespace Go.Proofs.Ytemliglhippdcaa
set_option maxRecDepth 100000
open Go.ChangeShapes Go.WideShapes Go.ChangeAt Go.RowKit

def rowT (L : List (List Nat)) : List Value := L.map fun l => Value.string (str l)
def OwnT (w : World) (base : Nat) (v : Value) (L : List (List Nat)) : Prop := w.ownsRow base 9 1 v L.length (rowT L)
theorem ownT_none (w : World) (base : Nat) : OwnT w base (.slice none 0 0) [] := World.ownsRow_nil w base _ 1
theorem OwnT.under {w w' : World} {base : Nat} {v : Value} {L : List (List Nat)} (h : OwnT w base v L) (hb : Below w.heap.size w w') : OwnT w' base v L :=
  h.kept (row := none) ⟨hb.os, hb.tape, hb.output, hb.size, fun i hi _ => hb.block i hi⟩ (by cases hv : v.ownBlock <;> simp)
theorem OwnT.alloc {w : World} {base : Nat} {v : Value} {L : List (List Nat)} (h : OwnT w base v L) (o : Obj) : OwnT (w.alloc o) base v L := World.ownsRow.alloc h o
theorem OwnT.lt {w : World} {base : Nat} {v : Value} {L : List (List Nat)} (h : OwnT w base v L) : Between base w.heap.size v := fun k hk => World.ownsRow.lt h k hk
theorem OwnT.parts {w : World} {base : Nat} {v : Value} {L : List (List Nat)} (h : OwnT w base v L) (h0 : L ≠ []) : ∃ g c, v = .slice (some ⟨g, 0, none⟩) L.length c ∧ base ≤ g ∧ g < w.heap.size := by
  have hb := h.lt
  rcases h.2 with ⟨rfl, h1⟩ | ⟨g, cap, cur, rfl, _⟩
  · exact absurd (List.length_eq_zero_iff.1 h1) h0
  · exact ⟨g, cap, rfl, hb g rfl⟩
theorem OwnT.len {w : World} {base n c : Nat} {A : Option Addr} {L : List (List Nat)} (h : OwnT w base (.slice A n c) L) : n = L.length := by
  rcases h.2 with ⟨e, h0⟩ | ⟨g', cap, cur, e, _⟩
  · injection e with _ e _
    omega
  · injection e with _ e _
theorem OwnT.cell {w : World} {base g n c : Nat} {L : List (List Nat)} (h : OwnT w base (.slice (some ⟨g, 0, none⟩) n c) L) {k : Nat} (hk : k < L.length) : w.cell? ⟨g, k, none⟩ = some (.string (str (L.getD k []))) := by
  obtain rfl := h.len
  rcases h.2 with ⟨e, h0⟩ | ⟨g', cap, cur, e, _⟩
  · cases e
  · rw [World.ownsRow.cellAt h k (by omega)]
    unfold rowT
    rw [List.getElem?_map, List.getD_eq_getElem?_getD, List.getElem?_eq_getElem hk]
    rfl
theorem rowT_set (L : List (List Nat)) (k : Nat) (l : List Nat) : rowT (L.set k l) = (rowT L).set k (.string (str l)) := by
  unfold rowT
  exact List.map_set
/-- One text is put in another's place. -/
theorem OwnT.set {w : World} {base g n c : Nat} {L : List (List Nat)} (h : OwnT w base (.slice (some ⟨g, 0, none⟩) n c) L) (k : Nat) (l : List Nat) :
    OwnT (w.setCell ⟨g, k, none⟩ (.string (str l))) base (.slice (some ⟨g, 0, none⟩) n c) (L.set k l) := by
  obtain rfl := h.len
  unfold OwnT at *
  rw [List.length_set, rowT_set]
  exact (World.ownsRow.stored h k _).1
theorem OwnT.frozen {w : World} {base g n c : Nat} {L : List (List Nat)} (h : OwnT w base (.slice (some ⟨g, 0, none⟩) n c) L) (k : Nat) : w.frozen? ⟨g, k, none⟩ = false := by
  obtain rfl := h.len
  exact World.ownsRow.frozenAt h k
theorem infoText : (Try.prog.info? 9).map (fun i => (i.zero, i.size, i.bytes)) = some (some (.string ⟨#[]⟩), 1, 16) := by kernel_rfl
/-- A row of one text, newly made. -/
theorem ownT_one (w : World) (base : Nat) (l : List Nat) (hb : base ≤ w.heap.size) : OwnT (w.alloc (.cells #[.string (str l)] 9)) base (.slice (some ⟨w.heap.size, 0, none⟩) 1 1) [l] :=
  ⟨rfl, .inr ⟨w.heap.size, 1, #[.string (str l)], rfl, hb, heap_alloc_new w _, Nat.le_refl _, by unfold maxLen; omega, rfl, rfl⟩⟩
def GrewT (base : Nat) (v : Value) (L : List (List Nat)) (w : World) (v' : Value) (w' : World) : Prop := OwnT w' base v' L ∧ w.grownBy w' v.ownBlock ∧ Below base w w'
theorem wpList_append_text {w : World} {ops : Array Oper} {rest : List Oper} {o : Oper} {a : Act} {Q : Exit → Act → World → Prop} (hgd : o.guard = none) (s x : Operand)
    (ho : o.op = .call { callee := .builtin .append, args := #[s, x], argTypes := #[24, 24] }) (base : Nat) (v : Value) (L : List (List Nat)) (l : List Nat) (hs : a.eval s = v) (hown : OwnT w base v L)
    (hx : a.eval x = .slice (some ⟨w.heap.size, 0, none⟩) 1 1) (m : Nat × Nat)
    (hlen : L.length ≤ 1099511627776) (hbase : base ≤ w.heap.size) (r : List (List Nat)) (hr : L ++ [l] = r)
    (h : ∀ v' w', GrewT base v r (w.alloc (.cells #[.string (str l)] 9 m)) v' w' → wpList Try.prog ops Q rest (a.put o.dst v') w') : wpList Try.prog ops Q (o :: rest) a (w.alloc (.cells #[.string (str l)] 9 m)) := by
  subst hr
  obtain ⟨i, hi, hz0, hz1, hz2⟩ := info_parts infoText
  refine wpList_append_own _ hgd s x 24 ho base 9 i (.string ⟨#[]⟩) 1 16 Try.underlying24 hi hz0 hz1 hz2 rfl (by decide) v L.length (rowT L) hs (World.ownsRow.alloc hown _) ⟨w.heap.size, 0, none⟩ 1 1 [.string (str l)] hx rfl ?_ ?_ (by unfold maxLen; omega) (by omega) (by simp; omega) ?_
  · intro j u hu
    have hj : j = 0 := by
      rcases j with _ | j
      · rfl
      · simp at hu
    subst hj
    simp at hu
    subst hu
    rw [add_plain]
    have e1 : (w.alloc (.cells #[.string (str l)] 9 m)).heap[w.heap.size]? = some (.cells #[.string (str l)] 9 m) := heap_alloc_new w _
    unfold World.cell?
    rw [e1]
    rfl
  · intro u hu
    simp at hu
    subst hu
    rfl
  · intro v' w' h1 h2 _
    refine h v' w' ⟨?_, h2, (Below.refl _ _).grown h2 (by simp; omega) fun k hk => (World.ownsRow.lt hown k hk).1⟩
    unfold OwnT
    rw [List.length_append, show rowT (L ++ [l]) = rowT L ++ [.string (str l)] from List.map_append]
    exact h1
end Go.Proofs.Ytemliglhippdcaa
