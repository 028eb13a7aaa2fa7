/- Rows of words, and rows of such rows, all of the call's own: read, kept, grown by one. -/
import Derived.Test.YtemliglhippdcaaText
import Derived.Test.YtemliglhippdcaaLineMath
import Derived.Maps.AppendAt
namespace Go.Proofs.Ytemliglhippdcaa
set_option maxRecDepth 100000
open Go.ChangeShapes Go.WideShapes Go.ChangeAt Go.RowKit

def cellsW (x : Ln.W) : List Value := [.string (str x.text), .int .i64 x.line, .int .i64 x.col, .bool x.q]
def rowW (L : List Ln.W) : List Value := L.flatMap cellsW
theorem cellsW_len (x : Ln.W) : (cellsW x).length = 4 := rfl
theorem cellsW_one (x : Ln.W) : ∀ u ∈ cellsW x, u.oneCell' = true := by
  intro u hu
  simp only [cellsW, List.mem_cons, List.not_mem_nil, or_false] at hu
  rcases hu with rfl | rfl | rfl | rfl <;> rfl
theorem rowW_len (L : List Ln.W) : (rowW L).length = L.length * 4 := by
  induction L with
  | nil => rfl
  | cons x L ih =>
    simp only [rowW, List.flatMap_cons, List.length_append, cellsW_len, List.length_cons] at ih ⊢
    omega
theorem rowW_snoc (L : List Ln.W) (x : Ln.W) : rowW (L ++ [x]) = rowW L ++ cellsW x := by simp [rowW]
theorem rowW_at : ∀ (L : List Ln.W) (k j : Nat) (h : k < L.length), j < 4 → (rowW L)[k * 4 + j]? = (cellsW (L[k]'h))[j]?
  | x :: L, 0, j, _, hj => by
    rw [rowW, List.flatMap_cons, List.getElem?_append_left (by rw [cellsW_len]; omega), Nat.zero_mul, Nat.zero_add]
    rfl
  | x :: L, k + 1, j, h, hj => by
    rw [rowW, List.flatMap_cons, List.getElem?_append_right (by rw [cellsW_len]; omega), cellsW_len, show (k + 1) * 4 + j - 4 = k * 4 + j from by omega]
    exact rowW_at L k j (by simpa using h) hj
/-- A row of words of the call's own. -/
def OwnW (w : World) (base : Nat) (v : Value) (L : List Ln.W) : Prop := w.ownsRow base 70 4 v L.length (rowW L)
theorem ownW_none (w : World) (base : Nat) : OwnW w base (.slice none 0 0) [] := World.ownsRow_nil w base _ 4
theorem OwnW.grown {w w' : World} {row : Option Nat} {base : Nat} {v : Value} {L : List Ln.W} (h : OwnW w base v L) (hg : w.grownBy w' row) (hne : v.ownBlock = none ∨ v.ownBlock ≠ row) : OwnW w' base v L := World.ownsRow.kept h hg hne
theorem OwnW.under {w w' : World} {base : Nat} {v : Value} {L : List Ln.W} (h : OwnW w base v L) (hb : Below w.heap.size w w') : OwnW w' base v L := h.grown (Below.toGrown hb none) (by cases v.ownBlock <;> simp)
theorem OwnW.lt {w : World} {base : Nat} {v : Value} {L : List Ln.W} (h : OwnW w base v L) : Between base w.heap.size v := fun k hk => World.ownsRow.lt h k hk
theorem OwnW.parts {w : World} {base : Nat} {v : Value} {L : List Ln.W} (h : OwnW w base v L) : ∃ A c, v = .slice A L.length c ∧ L.length ≤ c := by
  rcases h.2 with ⟨rfl, h0⟩ | ⟨g, cap, cur, rfl, _, _, hn, _⟩
  · exact ⟨none, 0, by rw [h0], by omega⟩
  · exact ⟨_, _, rfl, hn⟩
theorem OwnW.oneCell {w : World} {base : Nat} {v : Value} {L : List Ln.W} (h : OwnW w base v L) : v.oneCell' = true := by
  rcases h.2 with ⟨rfl, _⟩ | ⟨g, cap, cur, rfl, _⟩ <;> rfl
/-- Rows of words do not lie where rows of rows do. -/
theorem ownW_apart {w : World} {base base' n : Nat} {v u : Value} {L : List Ln.W} {us : List Value} (h : OwnW w base u L) (h' : w.ownsRow base' 64 1 v n us) : u.ownBlock = none ∨ u.ownBlock ≠ v.ownBlock := by
  rcases h.2 with ⟨rfl, _⟩ | ⟨g, cap, cur, rfl, _, hg, _⟩
  · exact .inl rfl
  · rcases h'.2 with ⟨rfl, _⟩ | ⟨g', cap', cur', rfl, _, hg', _⟩
    · exact .inr (by simp [Value.ownBlock])
    · refine .inr fun e => ?_
      simp [Value.ownBlock] at e
      subst e
      rw [hg] at hg'
      injection hg' with e
      injection e with _ e
      exact absurd e (by decide)
theorem apart_symm {u v : Value} (h : u.ownBlock = none ∨ u.ownBlock ≠ v.ownBlock) : v.ownBlock = none ∨ v.ownBlock ≠ u.ownBlock := by
  rcases h with h | h
  · rw [h]
    cases hv : v.ownBlock with
    | none => exact .inl rfl
    | some k => exact .inr (by simp)
  · exact .inr fun e => h e.symm
/-- Lines that are done, and the line that is being read. -/
def St (w : World) (base : Nat) (v : Value) (LL : List (List Ln.W)) (u : Value) (R : List Ln.W) : Prop :=
  ∃ us : List Value, us.length = LL.length ∧ w.ownsRow base 64 1 v LL.length us ∧ (∀ x ∈ us, x.oneCell' = true) ∧ (∀ i, i < LL.length → OwnW w base (us.getD i undef) (LL.getD i [])) ∧
    (∀ i j, i < j → j < LL.length → (us.getD i undef).ownBlock = none ∨ (us.getD i undef).ownBlock ≠ (us.getD j undef).ownBlock) ∧
    OwnW w base u R ∧ ∀ i, i < LL.length → (us.getD i undef).ownBlock = none ∨ (us.getD i undef).ownBlock ≠ u.ownBlock
theorem st_none (w : World) (base : Nat) : St w base (.slice none 0 0) [] (.slice none 0 0) [] :=
  ⟨[], rfl, World.ownsRow_nil w base _ 1, by simp, fun i hi => absurd hi (by simp), fun i j _ hj => absurd hj (by simp), ownW_none w base, fun i hi => absurd hi (by simp)⟩
theorem St.row {w : World} {base : Nat} {v u : Value} {LL : List (List Ln.W)} {R : List Ln.W} (h : St w base v LL u R) : ∃ A c, u = .slice A R.length c ∧ R.length ≤ c := by
  obtain ⟨us, _, _, _, _, _, h6, _⟩ := h
  exact h6.parts
theorem St.nil {w : World} {base : Nat} {v u : Value} {LL : List (List Ln.W)} {R : List Ln.W} (h0 : R.length = 0) (h : St w base v LL u R) : St w base v LL u [] := by
  rw [List.length_eq_zero_iff.1 h0] at h
  exact h
theorem St.under {w w' : World} {base : Nat} {v u : Value} {LL : List (List Ln.W)} {R : List Ln.W} (h : St w base v LL u R) (hb : Below w.heap.size w w') : St w' base v LL u R := by
  obtain ⟨us, h1, h2, h3, h4, h5, h6, h7⟩ := h
  exact ⟨us, h1, h2.kept (Below.toGrown hb none) (by cases v.ownBlock <;> simp), h3, fun i hi => (h4 i hi).under hb, h5, h6.under hb, h7⟩
theorem OwnW.more {w : World} {base base' : Nat} {v : Value} {L : List Ln.W} (h : OwnW w base v L) (hb : base' ≤ base) : OwnW w base' v L := by
  refine ⟨h.1, ?_⟩
  rcases h.2 with h2 | ⟨g, cap, cur, e, hg, rest⟩
  · exact .inl h2
  · exact .inr ⟨g, cap, cur, e, Nat.le_trans hb hg, rest⟩
theorem St.more {w : World} {base base' : Nat} {v u : Value} {LL : List (List Ln.W)} {R : List Ln.W} (h : St w base v LL u R) (hb : base' ≤ base) : St w base' v LL u R := by
  obtain ⟨us, h1, h2, h3, h4, h5, h6, h7⟩ := h
  refine ⟨us, h1, ⟨h2.1, ?_⟩, h3, fun i hi => (h4 i hi).more hb, h5, h6.more hb, h7⟩
  rcases h2.2 with h2 | ⟨g, cap, cur, e, hg, rest⟩
  · exact .inl h2
  · exact .inr ⟨g, cap, cur, e, Nat.le_trans hb hg, rest⟩
theorem St.alloc {w : World} {base : Nat} {v u : Value} {LL : List (List Ln.W)} {R : List Ln.W} (h : St w base v LL u R) (o : Obj) : St (w.alloc o) base v LL u R := h.under ((Below.refl _ _).alloc (Nat.le_refl _) _)
theorem St.heap {w W : World} {base : Nat} {v u : Value} {LL : List (List Ln.W)} {R : List Ln.W} (h : St w base v LL u R) (e : W.heap = w.heap) : St W base v LL u R := by
  unfold St OwnW World.ownsRow at *
  rw [e]
  exact h
theorem St.setLow {w : World} {base : Nat} {v u : Value} {LL : List (List Ln.W)} {R : List Ln.W} (h : St w base v LL u R) {p : Addr} (hp : p.block < base) (x : Value) : St (w.setCell p x) base v LL u R := by
  obtain ⟨us, h1, h2, h3, h4, h5, h6, h7⟩ := h
  have hg := grown_setCell w p x
  have hlow : ∀ {t : Value}, Between base w.heap.size t → t.ownBlock = none ∨ t.ownBlock ≠ some p.block := fun {t} hb => .inr fun e => by
    have := (hb _ e).1
    omega
  exact ⟨us, h1, h2.kept hg (hlow fun k hk => World.ownsRow.lt h2 k hk), h3, fun i hi => (h4 i hi).grown hg (hlow (h4 i hi).lt), h5, h6.grown hg (hlow h6.lt), h7⟩
theorem St.drop {w : World} {base : Nat} {v u : Value} {LL : List (List Ln.W)} {R : List Ln.W} (h : St w base v LL u R) : St w base v LL (.slice none 0 0) [] := by
  obtain ⟨us, h1, h2, h3, h4, h5, _, _⟩ := h
  exact ⟨us, h1, h2, h3, h4, h5, ownW_none w base, fun i _ => by
    cases (us.getD i undef).ownBlock with
    | none => exact .inl rfl
    | some k => exact .inr (by simp [Value.ownBlock])⟩
theorem infoWord : (Try.prog.info? 70).map (fun i => (i.zero, i.size, i.bytes)) = some (some (.agg #[.string ⟨#[]⟩, .int .i64 0, .int .i64 0, .bool false]), 4, 40) := by kernel_rfl
theorem infoRow : (Try.prog.info? 64).map (fun i => (i.zero, i.size, i.bytes)) = some (some (.slice none 0 0), 1, 24) := by kernel_rfl
theorem getD_snoc_lt {α : Type} {l : List α} {x d : α} {i : Nat} (h : i < l.length) : (l ++ [x]).getD i d = l.getD i d := by
  rw [List.getD_eq_getElem?_getD, List.getD_eq_getElem?_getD, List.getElem?_append_left h]
theorem getD_snoc_eq {α : Type} {l : List α} {x d : α} {i : Nat} (h : i = l.length) : (l ++ [x]).getD i d = x := by
  subst h
  simp
theorem wpList_append_word {w : World} {ops : Array Oper} {rest : List Oper} {o : Oper} {a : Act} {Q : Exit → Act → World → Prop} (hgd : o.guard = none) (s x : Operand)
    (ho : o.op = .call { callee := .builtin .append, args := #[s, x], argTypes := #[64, 64] }) (base B : Nat) (v u : Value) (LL : List (List Ln.W)) (R : List Ln.W) (z : Ln.W) (hs : a.eval s = u) (hst : St w base v LL u R)
    (hx : a.eval x = .slice (some ⟨B, 0, none⟩) 1 1) (hB : ∀ j y, (cellsW z)[j]? = some y → w.cell? ⟨B, j, none⟩ = some y)
    (hlen : R.length ≤ 1099511627776) (hbase : base ≤ w.heap.size) (R' : List Ln.W) (hR : R ++ [z] = R')
    (h : ∀ u' w', St w' base v LL u' R' → Below base w w' → wpList Try.prog ops Q rest (a.put o.dst u') w') : wpList Try.prog ops Q (o :: rest) a w := by
  subst hR
  obtain ⟨us, h1, h2, h3, h4, h5, h6, h7⟩ := hst
  obtain ⟨i, hi, hz0, hz1, hz2⟩ := info_parts infoWord
  refine wpList_append_own_at w hgd s x 64 ho base 70 i (.agg #[.string ⟨#[]⟩, .int .i64 0, .int .i64 0, .bool false]) 4 40 Try.underlying64 hi hz0 hz1 hz2 (by kernel_rfl) (by decide) u R.length (rowW R) hs h6 ⟨B, 0, none⟩ 1 1 (cellsW z) hx rfl ?_ (cellsW_one z) (by unfold maxLen; omega) (by omega) hbase ?_
  · intro j y hy
    rw [add_plain]
    simpa using hB j y hy
  · intro u' w' g1 g2 _ g4
    have hb : Below base w w' := (Below.refl _ _).grown g2 hbase fun k hk => (World.ownsRow.lt h6 k hk).1
    refine h u' w' ⟨us, h1, h2.kept g2 (apart_symm (ownW_apart h6 h2)), h3, fun i hi => (h4 i hi).grown g2 (h7 i hi), h5, ?_, fun i hi => ?_⟩ hb
    · unfold OwnW
      rw [List.length_append, List.length_singleton, rowW_snoc]
      exact g1
    · rcases g4 with e | e
      · rw [e]; exact h7 i hi
      · rw [e]
        refine .inr fun e2 => ?_
        have := ((h4 i hi).lt _ e2).2
        omega
theorem wpList_append_line {w : World} {ops : Array Oper} {rest : List Oper} {o : Oper} {a : Act} {Q : Exit → Act → World → Prop} (hgd : o.guard = none) (s x : Operand)
    (ho : o.op = .call { callee := .builtin .append, args := #[s, x], argTypes := #[59, 59] }) (base B : Nat) (v u : Value) (LL : List (List Ln.W)) (R : List Ln.W) (hs : a.eval s = v) (hst : St w base v LL u R)
    (hx : a.eval x = .slice (some ⟨B, 0, none⟩) 1 1) (hB : w.cell? ⟨B, 0, none⟩ = some u)
    (hlen : LL.length ≤ 1099511627776) (hbase : base ≤ w.heap.size) (LL' : List (List Ln.W)) (hR : LL ++ [R] = LL')
    (h : ∀ v' w', St w' base v' LL' (.slice none 0 0) [] → Below base w w' → wpList Try.prog ops Q rest (a.put o.dst v') w') : wpList Try.prog ops Q (o :: rest) a w := by
  subst hR
  obtain ⟨us, h1, h2, h3, h4, h5, h6, h7⟩ := hst
  obtain ⟨i, hi, hz0, hz1, hz2⟩ := info_parts infoRow
  refine wpList_append_own_at w hgd s x 59 ho base 64 i (.slice none 0 0) 1 24 Try.underlying59 hi hz0 hz1 hz2 rfl (by decide) v LL.length us hs h2 ⟨B, 0, none⟩ 1 1 [u] hx rfl ?_ (by simpa using h6.oneCell) (by unfold maxLen; omega) (by omega) hbase ?_
  · intro j y hy
    have hj : j = 0 := by
      rcases j with _ | j
      · rfl
      · simp at hy
    subst hj
    simp at hy
    subst hy
    rw [add_plain]
    exact hB
  · intro v' w' g1 g2 _ _
    have hb : Below base w w' := (Below.refl _ _).grown g2 hbase fun k hk => (World.ownsRow.lt h2 k hk).1
    have hap : ∀ i, i < LL.length → OwnW w' base (us.getD i undef) (LL.getD i []) := fun i hi => (h4 i hi).grown g2 (ownW_apart (h4 i hi) h2)
    have hu : OwnW w' base u R := h6.grown g2 (ownW_apart h6 h2)
    refine h v' w' ⟨us ++ [u], by simp [h1], by simpa using g1, fun y hy => (List.mem_append.1 hy).elim (h3 y) (fun e => by simp at e; subst e; exact h6.oneCell), fun i hi => ?_, fun i j hij hj => ?_, ownW_none w' base, fun i hi => ?_⟩ hb
    · rcases Nat.lt_or_ge i LL.length with hlt | hge
      · rw [getD_snoc_lt (by omega), getD_snoc_lt hlt]
        exact hap i hlt
      · have : i = LL.length := by simp at hi; omega
        rw [getD_snoc_eq (by omega), getD_snoc_eq this]
        exact hu
    · rw [List.length_append, List.length_singleton] at hj
      rw [getD_snoc_lt (by omega)]
      rcases Nat.lt_or_ge j LL.length with hlt | hge
      · rw [getD_snoc_lt (by omega)]
        exact h5 i j hij hlt
      · rw [getD_snoc_eq (by omega)]
        exact h7 i (by omega)
    · cases hv : ((us ++ [u]).getD i undef).ownBlock with
      | none => exact .inl rfl
      | some k => exact .inr (by simp [Value.ownBlock])
end Go.Proofs.Ytemliglhippdcaa
