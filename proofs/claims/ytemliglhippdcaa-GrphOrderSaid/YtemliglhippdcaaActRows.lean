/- Rows of things that are done: read, kept, grown by one; two that are the same are told so. -/
import Derived.Test.YtemliglhippdcaaText
import Derived.Test.YtemliglhippdcaaActMath
import Derived.Maps.AppendAt
import Derived.RegionTactic
import Derived.BigQuiet
import Derived.Deep.QuietTactic
namespace Go.Proofs.Ytemliglhippdcaa
set_option maxRecDepth 100000
open Go.ChangeShapes Go.WideShapes Go.ChangeAt Go.RowKit

def cellsD (x : Ac.D) : List Value := [.int .i64 (x.kind : Int), .int .i64 (x.n : Int), .string (str x.text)]
def rowD (L : List Ac.D) : List Value := L.flatMap cellsD
theorem cellsD_len (x : Ac.D) : (cellsD x).length = 3 := rfl
theorem cellsD_one (x : Ac.D) : ∀ u ∈ cellsD x, u.oneCell' = true := by
  intro u hu
  simp only [cellsD, List.mem_cons, List.not_mem_nil, or_false] at hu
  rcases hu with rfl | rfl | rfl <;> rfl
theorem rowD_len (L : List Ac.D) : (rowD L).length = L.length * 3 := by
  induction L with
  | nil => rfl
  | cons x L ih =>
    simp only [rowD, List.flatMap_cons, List.length_append, cellsD_len, List.length_cons] at ih ⊢
    omega
theorem rowD_snoc (L : List Ac.D) (x : Ac.D) : rowD (L ++ [x]) = rowD L ++ cellsD x := by simp [rowD]
theorem rowD_at : ∀ (L : List Ac.D) (k j : Nat) (h : k < L.length), j < 3 → (rowD L)[k * 3 + j]? = (cellsD (L[k]'h))[j]?
  | x :: L, 0, j, _, hj => by
    rw [rowD, List.flatMap_cons, List.getElem?_append_left (by rw [cellsD_len]; omega), Nat.zero_mul, Nat.zero_add]
    rfl
  | x :: L, k + 1, j, h, hj => by
    rw [rowD, List.flatMap_cons, List.getElem?_append_right (by rw [cellsD_len]; omega), cellsD_len, show (k + 1) * 3 + j - 3 = k * 3 + j from by omega]
    exact rowD_at L k j (by simpa using h) hj
/-- A row of things of the call's own. -/
def OwnD (w : World) (base : Nat) (v : Value) (L : List Ac.D) : Prop := w.ownsRow base 145 3 v L.length (rowD L)
theorem ownD_none (w : World) (base : Nat) : OwnD w base (.slice none 0 0) [] := World.ownsRow_nil w base _ 3
theorem OwnD.grown {w w' : World} {row : Option Nat} {base : Nat} {v : Value} {L : List Ac.D} (h : OwnD w base v L) (hg : w.grownBy w' row) (hne : v.ownBlock = none ∨ v.ownBlock ≠ row) : OwnD w' base v L := World.ownsRow.kept h hg hne
theorem OwnD.under {w w' : World} {base : Nat} {v : Value} {L : List Ac.D} (h : OwnD w base v L) (hb : Below w.heap.size w w') : OwnD w' base v L := h.grown (Below.toGrown hb none) (by cases v.ownBlock <;> simp)
theorem OwnD.alloc {w : World} {base : Nat} {v : Value} {L : List Ac.D} (h : OwnD w base v L) (o : Obj) : OwnD (w.alloc o) base v L := World.ownsRow.alloc h o
theorem OwnD.lt {w : World} {base : Nat} {v : Value} {L : List Ac.D} (h : OwnD w base v L) : Between base w.heap.size v := fun k hk => World.ownsRow.lt h k hk
theorem OwnD.parts {w : World} {base : Nat} {v : Value} {L : List Ac.D} (h : OwnD w base v L) : ∃ A c, v = .slice A L.length c ∧ L.length ≤ c := by
  rcases h.2 with ⟨rfl, h0⟩ | ⟨g, cap, cur, rfl, _, _, hn, _⟩
  · exact ⟨none, 0, by rw [h0], by omega⟩
  · exact ⟨_, _, rfl, hn⟩
theorem OwnD.more {w : World} {base base' : Nat} {v : Value} {L : List Ac.D} (h : OwnD w base v L) (hb : base' ≤ base) : OwnD w base' v L := by
  refine ⟨h.1, ?_⟩
  rcases h.2 with h2 | ⟨g, cap, cur, e, hg, rest⟩
  · exact .inl h2
  · exact .inr ⟨g, cap, cur, e, Nat.le_trans hb hg, rest⟩
theorem OwnD.heap {w W : World} {base : Nat} {v : Value} {L : List Ac.D} (h : OwnD w base v L) (e : W.heap = w.heap) : OwnD W base v L := by
  unfold OwnD World.ownsRow at *
  rw [e]
  exact h
/-- A slice of things that reads as a row. -/
def RdD (w : World) (v : Value) (R : List Ac.D) : Prop :=
  ∃ A c, v = .slice A R.length c ∧ R.length ≤ c ∧ R.length ≤ maxLen ∧ (0 < R.length → ∃ b off, A = some ⟨b, off, none⟩ ∧ ∀ k (h : k < R.length), w.cell? ⟨b, off + k * 3, none⟩ = some (.int .i64 ((R[k]'h).kind : Int)) ∧ w.cell? ⟨b, off + k * 3 + 1, none⟩ = some (.int .i64 ((R[k]'h).n : Int)) ∧ w.cell? ⟨b, off + k * 3 + 2, none⟩ = some (.string (str (R[k]'h).text)))
theorem OwnD.rd {w : World} {base : Nat} {v : Value} {R : List Ac.D} (h : OwnD w base v R) : RdD w v R := by
  have h' := h
  rcases h.2 with ⟨rfl, h0⟩ | ⟨g, cap, cur, rfl, hb, hg, hn, hm, hs, ht⟩
  · exact ⟨none, 0, by rw [h0], by omega, by unfold maxLen; omega, fun h => by omega⟩
  · refine ⟨_, cap, rfl, hn, Nat.le_trans hn hm, fun _ => ⟨g, 0, rfl, fun k hk => ?_⟩⟩
    have hc : ∀ j, j < 3 → w.cell? ⟨g, 0 + k * 3 + j, none⟩ = (cellsD (R[k]'hk))[j]? := fun j hj => by
      rw [show 0 + k * 3 + j = k * 3 + j from by omega, World.ownsRow.cellAt h' (k * 3 + j) (by omega), rowD_at R k j hk hj]
    exact ⟨hc 0 (by omega), hc 1 (by omega), hc 2 (by omega)⟩
theorem RdD.under {w w' : World} {v : Value} {R : List Ac.D} (h : RdD w v R) (hb : Below w.heap.size w w') : RdD w' v R := by
  obtain ⟨A, c, rfl, h1, h2, h3⟩ := h
  refine ⟨A, c, rfl, h1, h2, fun h0 => ?_⟩
  obtain ⟨b, off, rfl, hc⟩ := h3 h0
  exact ⟨b, off, rfl, fun k hk => ⟨cell_later hb (hc k hk).1, cell_later hb (hc k hk).2.1, cell_later hb (hc k hk).2.2⟩⟩
theorem RdD.alloc {w : World} {v : Value} {R : List Ac.D} (h : RdD w v R) (o : Obj) : RdD (w.alloc o) v R := h.under ((Below.refl _ _).alloc (Nat.le_refl _) _)
theorem rdD_none (w : World) : RdD w (.slice none 0 0) [] := ⟨none, 0, rfl, Nat.le_refl _, Nat.zero_le _, fun h => absurd h (by simp)⟩
theorem RdD.parts {w : World} {v : Value} {R : List Ac.D} (h : RdD w v R) : ∃ A c, v = .slice A R.length c ∧ R.length ≤ c := by
  obtain ⟨A, c, e, h, _⟩ := h
  exact ⟨A, c, e, h⟩
theorem RdD.at {w : World} {A : Option Addr} {n c : Nat} {R : List Ac.D} (h : RdD w (.slice A n c) R) (k : Nat) (hk : k < R.length) : ∃ b off, A = some ⟨b, off, none⟩ ∧ w.cell? ⟨b, off + k * 3, none⟩ = some (.int .i64 ((R[k]'hk).kind : Int)) ∧ w.cell? ⟨b, off + k * 3 + 1, none⟩ = some (.int .i64 ((R[k]'hk).n : Int)) ∧ w.cell? ⟨b, off + k * 3 + 2, none⟩ = some (.string (str (R[k]'hk).text)) := by
  obtain ⟨A', c', e, _, _, hx⟩ := h
  injection e with e1 e2 e3
  subst e1
  obtain ⟨b, off, rfl, hc⟩ := hx (by omega)
  exact ⟨b, off, rfl, hc k hk⟩
theorem infoDo : (Try.prog.info? 145).map (fun i => (i.zero, i.size, i.bytes)) = some (some (.agg #[.int .i64 0, .int .i64 0, .string ⟨#[]⟩]), 3, 32) := by kernel_rfl
/-- A row of things, newly made. -/
theorem ownD_lit (w : World) (base : Nat) (L : List Ac.D) (C : Array Value) (n : Nat) (hn : L.length = n) (hC : C.toList = rowD L) (hb : base ≤ w.heap.size) (hm : L.length ≤ 1000000) : OwnD (w.alloc (.cells C 145)) base (.slice (some ⟨w.heap.size, 0, none⟩) n n) L := by
  subst hn
  have hl := rowD_len L
  have hs : C.size = L.length * 3 := by rw [← hl, ← hC]; simp
  exact ⟨hl, .inr ⟨w.heap.size, L.length, C, rfl, hb, heap_alloc_new w _, Nat.le_refl _, by unfold maxLen; omega, hs, by rw [hC, List.take_of_length_le (Nat.le_of_eq hl)]⟩⟩
theorem wpList_append_do {w : World} {ops : Array Oper} {rest : List Oper} {o : Oper} {a : Act} {Q : Exit → Act → World → Prop} (hgd : o.guard = none) (s x : Operand)
    (ho : o.op = .call { callee := .builtin .append, args := #[s, x], argTypes := #[140, 140] }) (base B : Nat) (u : Value) (R : List Ac.D) (z : Ac.D) (hs : a.eval s = u) (hst : OwnD w base u R)
    (hx : a.eval x = .slice (some ⟨B, 0, none⟩) 1 1) (hB : ∀ j y, (cellsD z)[j]? = some y → w.cell? ⟨B, j, none⟩ = some y)
    (hlen : R.length ≤ 1099511627776) (hbase : base ≤ w.heap.size) (R' : List Ac.D) (hR : R ++ [z] = R')
    (h : ∀ u' w', OwnD w' base u' R' → w.grownBy w' u.ownBlock → Below base w w' → wpList Try.prog ops Q rest (a.put o.dst u') w') : wpList Try.prog ops Q (o :: rest) a w := by
  subst hR
  obtain ⟨i, hi, hz0, hz1, hz2⟩ := info_parts infoDo
  refine wpList_append_own_at w hgd s x 140 ho base 145 i (.agg #[.int .i64 0, .int .i64 0, .string ⟨#[]⟩]) 3 32 Try.underlying140 hi hz0 hz1 hz2 (by kernel_rfl) (by decide) u R.length (rowD R) hs hst ⟨B, 0, none⟩ 1 1 (cellsD z) hx rfl ?_ (cellsD_one z) (by unfold maxLen; omega) (by omega) hbase ?_
  · intro j y hy
    rw [add_plain]
    simpa using hB j y hy
  · intro u' w' g1 g2 _ _
    refine h u' w' ?_ g2 ((Below.refl _ _).grown g2 hbase fun k hk => (World.ownsRow.lt hst k hk).1)
    unfold OwnD
    rw [List.length_append, List.length_singleton, rowD_snoc]
    exact g1
end Go.Proofs.Ytemliglhippdcaa
