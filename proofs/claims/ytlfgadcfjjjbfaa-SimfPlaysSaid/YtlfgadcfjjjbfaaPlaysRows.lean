/- Rows of guards of the call's own; two file systems, the program's and the document's, side by side. -/
import Derived.Test.YtlfgadcfjjjbfaaRfList
import Derived.Test.YtlfgadcfjjjbfaaSimNames
import Derived.Test.YtlfgadcfjjjbfaaRowsB
import Derived.Maps.AppendAt
namespace Go.Proofs.Ytlfgadcfjjjbfaa
set_option maxRecDepth 100000
open Go.ChangeShapes Go.WideShapes Go.ChangeAt Go.RowKit Go.ChangeMaps
open Sf

abbrev Gd := List Nat × Int
def cellsG (x : Gd) : List Value := [.string (str x.1), .int .i64 x.2]
def rowG (L : List Gd) : List Value := L.flatMap cellsG
theorem cellsG_len (x : Gd) : (cellsG x).length = 2 := rfl
theorem cellsG_one (x : Gd) : ∀ u ∈ cellsG x, u.oneCell' = true := by
  intro u hu
  simp only [cellsG, List.mem_cons, List.not_mem_nil, or_false] at hu
  rcases hu with rfl | rfl <;> rfl
theorem rowG_snoc (L : List Gd) (x : Gd) : rowG (L ++ [x]) = rowG L ++ cellsG x := by simp [rowG]
theorem rowG_at : ∀ (L : List Gd) (k j : Nat) (h : k < L.length), j < 2 → (rowG L)[k * 2 + j]? = (cellsG (L[k]'h))[j]?
  | x :: L, 0, j, _, hj => by
    rw [rowG, List.flatMap_cons, List.getElem?_append_left (by rw [cellsG_len]; omega), Nat.zero_mul, Nat.zero_add]
    rfl
  | x :: L, k + 1, j, h, hj => by
    rw [rowG, List.flatMap_cons, List.getElem?_append_right (by rw [cellsG_len]; omega), cellsG_len, show (k + 1) * 2 + j - 2 = k * 2 + j from by omega]
    exact rowG_at L k j (by simpa using h) hj
def OwnG (w : World) (base : Nat) (v : Value) (L : List Gd) : Prop := w.ownsRow base 35 2 v L.length (rowG L)
theorem ownG_none (w : World) (base : Nat) : OwnG w base (.slice none 0 0) [] := World.ownsRow_nil w base _ 2
theorem OwnG.under {w w' : World} {base : Nat} {v : Value} {L : List Gd} (h : OwnG w base v L) (hb : Below w.heap.size w w') : OwnG w' base v L := World.ownsRow.kept h (Below.toGrown hb none) (by cases v.ownBlock <;> simp)
theorem OwnG.alloc {w : World} {base : Nat} {v : Value} {L : List Gd} (h : OwnG w base v L) (o : Obj) : OwnG (w.alloc o) base v L := World.ownsRow.alloc h o
theorem OwnG.lt {w : World} {base : Nat} {v : Value} {L : List Gd} (h : OwnG w base v L) : Between base w.heap.size v := fun k hk => World.ownsRow.lt h k hk
theorem OwnG.rd {w : World} {base : Nat} {v : Value} {R : List Gd} (h : OwnG w base v R) (hm : R.length ≤ 1048576) : RdG w v R := by
  have h' := h
  rcases h.2 with ⟨rfl, h0⟩ | ⟨g, cap, cur, rfl, hb, hg, hn, hm2, hs, ht⟩
  · exact ⟨none, 0, by rw [h0], by omega, hm, fun h => by omega⟩
  · refine ⟨_, cap, rfl, hn, hm, fun _ => ⟨g, 0, rfl, fun k hk => ?_⟩⟩
    have hc : ∀ j, j < 2 → w.cell? ⟨g, 0 + k * 2 + j, none⟩ = (cellsG (R[k]'hk))[j]? := fun j hj => by
      rw [show 0 + k * 2 + j = k * 2 + j from by omega, World.ownsRow.cellAt h' (k * 2 + j) (by omega), rowG_at R k j hk hj]
    exact ⟨hc 0 (by omega), hc 1 (by omega)⟩
theorem infoGd : (Try.prog.info? 35).map (fun i => (i.zero, i.size, i.bytes)) = some (some (.agg #[.string ⟨#[]⟩, .int .i64 0]), 2, 24) := by kernel_rfl
theorem wpList_append_guard {w : World} {ops : Array Oper} {rest : List Oper} {o : Oper} {a : Act} {Q : Exit → Act → World → Prop} (hgd : o.guard = none) (s x : Operand)
    (ho : o.op = .call { callee := .builtin .append, args := #[s, x], argTypes := #[32, 32] }) (base B : Nat) (u : Value) (R : List Gd) (z : Gd) (hs : a.eval s = u) (hst : OwnG w base u R)
    (hx : a.eval x = .slice (some ⟨B, 0, none⟩) 1 1) (hB : ∀ j y, (cellsG z)[j]? = some y → w.cell? ⟨B, j, none⟩ = some y)
    (hlen : R.length ≤ 1099511627776) (hbase : base ≤ w.heap.size) (R' : List Gd) (hR : R ++ [z] = R')
    (h : ∀ u' w', OwnG w' base u' R' → Below base w w' → wpList Try.prog ops Q rest (a.put o.dst u') w') : wpList Try.prog ops Q (o :: rest) a w := by
  subst hR
  obtain ⟨i, hi, hz0, hz1, hz2⟩ := info_parts infoGd
  refine wpList_append_own_at w hgd s x 32 ho base 35 i (.agg #[.string ⟨#[]⟩, .int .i64 0]) 2 24 Try.underlying32 hi hz0 hz1 hz2 (by kernel_rfl) (by decide) u R.length (rowG R) hs hst ⟨B, 0, none⟩ 1 1 (cellsG z) hx rfl ?_ (cellsG_one z) (by unfold maxLen; omega) (by omega) hbase ?_
  · intro j y hy
    rw [add_plain]
    simpa using hB j y hy
  · intro u' w' g1 g2 _ _
    refine h u' w' ?_ ((Below.refl _ _).grown g2 hbase fun k hk => (World.ownsRow.lt hst k hk).1)
    unfold OwnG
    rw [List.length_append, List.length_singleton, rowG_snoc]
    exact g1

/-- How much is held at most behind i acts. -/
structure Bd (s : S) (i : Nat) : Prop where
  used : used s.l ≤ 300 * i
  next : s.next ≤ i
  len : s.l.length ≤ i
  file : ∀ x ∈ s.l, Nm.file x.name = true
  ord : Ord s.l
theorem len_put (l : List Fi) (x : Fi) : (put l x).length ≤ l.length + 1 := by
  unfold put
  have h1 : ((gone l x.name).takeWhile fun y => decide (y.name < x.name)).length + ((gone l x.name).dropWhile fun y => decide (y.name < x.name)).length = (gone l x.name).length := by
    rw [← List.length_append, List.takeWhile_append_dropWhile]
  have h2 := gone_len l x.name
  rw [List.length_append, List.length_cons]
  omega
theorem Bd.more {s : S} {i j : Nat} (h : Bd s i) (hij : i ≤ j) : Bd s j := ⟨by have := h.used; omega, by have := h.next; omega, by have := h.len; omega, h.file, h.ord⟩
theorem Bd.wr2 {s : S} {i : Nat} (h : Bd s i) {t b : List Nat} (hf : Nm.file t = true) (hu : Sf.used (Sf.wr s t b).l ≤ 300 * (i + 1)) : Bd (Sf.wr s t b) (i + 1) := by
  refine ⟨hu, by have := h.next; simp [Sf.wr]; omega, by have := len_put s.l ⟨t, b, s.next + 1⟩; have := h.len; simp [Sf.wr]; omega, fun x hx => ?_, ord_put h.ord _⟩
  rcases mem_put hx with rfl | hx
  · exact hf
  · exact h.file x hx
theorem Bd.wr {s : S} {i : Nat} (h : Bd s i) {t b : List Nat} (hf : Nm.file t = true) (hb : b.length ≤ (Sf.bytes s.l t).length + 300) : Bd (Sf.wr s t b) (i + 1) := by
  refine h.wr2 hf ?_
  have h1 := used_nat h.ord (s := s) t b
  have h2 := h.used
  omega
theorem Bd.rm {s : S} {i : Nat} (h : Bd s i) (t : List Nat) : Bd (rm s t) i := by
  refine ⟨?_, h.next, Nat.le_trans (gone_len s.l t) h.len, fun x hx => h.file x (List.mem_filter.1 hx).1, ord_gone h.ord _⟩
  have h1 := used_rmN h.ord (s := s) t
  have h2 := h.used
  omega
theorem Bd.with {s s' : S} {i : Nat} (h : Bd s i) (hl : s'.l = s.l) (hn : s'.next = s.next) : Bd s' i := ⟨by rw [hl]; exact h.used, by rw [hn]; exact h.next, by rw [hl]; exact h.len, by rw [hl]; exact h.file, by rw [hl]; exact h.ord⟩
theorem Bd.put {s : S} {i : Nat} (h : Bd s i) (t : List Nat) {b : List Nat} (hb : b.length ≤ 300) : Bd (putS s t b).1 (i + 1) := by
  unfold putS
  split
  · rename_i hf
    split
    · exact h.wr hf (by omega)
    · exact h.more (by omega)
  · exact h.more (by omega)
theorem Bd.make {s : S} {i : Nat} (h : Bd s i) (t : List Nat) {b : List Nat} (hb : b.length ≤ 300) : Bd (make s t b).1 (i + 1) := by
  unfold Sf.make
  split
  · split
    · exact h.more (by omega)
    · exact h.put t hb
  · exact h.more (by omega)
theorem refuse_file {l : List Fi} {g : List Gd} {names : List (List Nat)} (h : refuse l g names = 0) : ∀ t ∈ names, Nm.file t = true := by
  unfold refuse at h
  split at h
  · rename_i hn
    exact fun t ht => List.all_eq_true.1 hn t ht
  · cases h
theorem part_same (s : S) (n : Nat) : (Sf.part s n).1.l = s.l ∧ (Sf.part s n).1.next = s.next := by
  unfold Sf.part
  split
  · split <;> exact ⟨rfl, rfl⟩
  · exact ⟨rfl, rfl⟩
theorem Bd.app {s : S} {i : Nat} (h : Bd s i) (t : List Nat) {b : List Nat} (g : List Gd) (hb : b.length ≤ 300) : Bd (app s t b g).1 (i + 1) := by
  obtain ⟨e1, e2⟩ := part_same s b.length
  have hp : Bd (Sf.part s b.length).1 i := h.with e1 e2
  unfold Sf.app
  split
  · rename_i hr
    have hf := refuse_file hr t (by simp)
    split
    · exact hp.wr hf (by rw [e1, List.length_append]; omega)
    · split
      · exact hp.wr hf (by rw [e1, List.length_append, List.length_take]; omega)
      · exact hp.more (by omega)
  · exact h.more (by omega)
theorem Bd.move {s : S} {i : Nat} (h : Bd s i) (a b : List Nat) (g : List Gd) : Bd (Sf.move s a b g).1 (i + 1) := by
  unfold Sf.move
  split
  · exact h.more (by omega)
  · rename_i hab
    split
    · rename_i hr
      have hf := refuse_file hr b (by simp)
      split
      · have h1 := h.rm a
        refine h1.wr2 hf ?_
        have e1 := used_nat h1.ord (s := Sf.rm s a) b (Sf.bytes s.l a)
        have e2 := used_rmN h.ord (s := s) a
        have := h.used
        omega
      · exact h.more (by omega)
    · exact h.more (by omega)
theorem Bd.drop {s : S} {i : Nat} (h : Bd s i) (t : List Nat) (g : List Gd) : Bd (Sf.drop s t g).1 (i + 1) := by
  unfold Sf.drop
  split
  · split
    · exact (h.rm t).more (by omega)
    · exact h.more (by omega)
  · exact h.more (by omega)

/-- More blocks are held behind a call that turned one that was held. -/
theorem Fk.turnedTo {K K' : Nat → Prop} {w0 w w1 : World} {p b : Nat} {s : S} (h : Fk K w0 w p s) (hb : K b ∧ w0.heap.size ≤ b) (hg : w.grownBy w1 (some b)) (hK : ∀ k, K' k → (K k ∨ w.heap.size ≤ k) ∧ k < w1.heap.size) : Fk K' w0 w1 p s := by
  obtain ⟨mb, V, F, h1, h2, h3, h4⟩ := h
  refine ⟨mb, V, F, h1.same hg.size fun k hk => hg.block k (h1.lt k hk) fun e => (h4 b hb.1).2 (by injection e with e; exact e ▸ hk), h2, h3.grown hg h3.size fun k hk => by injection hk with hk; rw [← hk]; exact hb.2, fun k hk => ⟨(hK k hk).2, fun e => ?_⟩⟩
  rcases (hK k hk).1 with e1 | e1
  · exact (h4 k e1).2 e
  · have := h1.lt k e
    omega
/-- The program's files at p, the document's at q: the same; what X says is kept, too. -/
structure Duo (X : Nat → Prop) (w wr : World) (p q : Nat) (s s' : S) : Prop where
  ex : ∃ lv G, Rf wr q lv G s ∧ Fk (fun k => G k ∨ X k) w wr p s' ∧ (∀ k, G k → w.heap.size ≤ k) ∧ (∀ k, X k → w.heap.size ≤ k ∧ ¬ G k)
variable {X : Nat → Prop} {w wr w1 : World} {p q : Nat} {s s' : S}
theorem Duo.under (h : Duo X w wr p q s s') (hb : Below wr.heap.size wr w1) : Duo X w w1 p q s s' := by
  obtain ⟨lv, G, h1, h2, h3, h4⟩ := h.ex
  exact ⟨lv, G, h1.under hb, h2.under hb, h3, h4⟩
theorem Duo.below (h : Duo X w wr p q s s') : Below w.heap.size w wr := by
  obtain ⟨lv, G, h1, h2, h3, h4⟩ := h.ex
  exact h2.fs.below
theorem Duo.less {X' : Nat → Prop} (h : Duo X w wr p q s s') (hX : ∀ k, X' k → X k) : Duo X' w wr p q s s' := by
  obtain ⟨lv, G, h1, h2, h3, h4⟩ := h.ex
  exact ⟨lv, G, h1, h2.less _ fun k hk => hk.imp_right (hX k), h3, fun k hk => h4 k (hX k hk)⟩
/-- New blocks are kept, too. -/
theorem Duo.also {X' : Nat → Prop} (h : Duo X w wr p q s s') (hb : Below wr.heap.size wr w1) (hX : ∀ k, X' k → X k ∨ (wr.heap.size ≤ k ∧ k < w1.heap.size)) : Duo X' w w1 p q s s' := by
  obtain ⟨lv, G, h1, h2, h3, h4⟩ := h.ex
  refine ⟨lv, G, h1.under hb, h2.grow hb _ fun k hk => ?_, h3, fun k hk => ?_⟩
  · rcases hk with hk | hk
    · exact .inl (.inl hk)
    · rcases hX k hk with e | e
      · exact .inl (.inr e)
      · exact .inr e
  · rcases hX k hk with e | ⟨e1, e2⟩
    · exact h4 k e
    · have := h.below.size
      exact ⟨by omega, fun e => by have := h1.lt k e; omega⟩
/-- Behind a call of the document's. -/
theorem duo_done {lv : Value} {G : Nat → Prop} {s2 : S} (h1 : Rf wr q lv G s) (h2 : Fk (fun k => G k ∨ X k) w wr p s') (h3 : ∀ k, G k → w.heap.size ≤ k) (h4 : ∀ k, X k → w.heap.size ≤ k ∧ ¬ G k) (hd : RDone G q s2 wr w1) : Duo X w w1 p q s2 s' := by
  obtain ⟨lv', G', d1, d2, d3⟩ := hd
  have hlt : ∀ k, X k → k < wr.heap.size := fun k hk => h2.lt (.inr hk)
  refine ⟨lv', G', d1, h2.turnedTo ⟨.inl h1.gq, h3 q h1.gq⟩ d2 fun k hk => ?_, fun k hk => ?_, fun k hk => ⟨(h4 k hk).1, fun e => ?_⟩⟩
  · rcases hk with hk | hk
    · exact ⟨(d3 k hk).imp_left .inl, d1.lt k hk⟩
    · exact ⟨.inl (.inr hk), Nat.lt_of_lt_of_le (hlt k hk) d2.size⟩
  · rcases d3 k hk with e | e
    · exact h3 k e
    · have := h2.fs.below.size
      omega
  · rcases d3 k e with e1 | e1
    · exact (h4 k hk).2 e1
    · have := hlt k hk
      omega
end Go.Proofs.Ytlfgadcfjjjbfaa
