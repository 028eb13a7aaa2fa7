/- Slices of slices of bytes: as they came in, and of the call's own; append of one. -/
import Derived.Test.YtoloidfkpfdboaaZ02
import Derived.OwnWalkIn
import Derived.RangeFuncOwn
namespace Go.Proofs.Ytoloidfkpfdboaa
set_option maxRecDepth 100000
open Go.ChangeShapes Go.WideShapes Go.ChangeAt Go.RowKit

/-- A slice of slices of bytes that reads as a list of lists. -/
def Rows2 (w : World) (v : Value) (L : List (List Nat)) : Prop :=
  L.length ≤ 9223372036854775807 ∧ ∃ A c, v = .slice A L.length c ∧ L.length ≤ c ∧
    (0 < L.length → ∃ b off, A = some ⟨b, off, none⟩ ∧ ∀ i, i < L.length → ∃ u, w.cell? ⟨b, off + i, none⟩ = some u ∧ Bytes w u (L.getD i []))
theorem rows2_none (w : World) : Rows2 w (.slice none 0 0) [] := ⟨by simp, none, 0, rfl, Nat.le_refl _, fun h => absurd h (by simp)⟩
theorem Rows2.at {w : World} {A : Option Addr} {n c : Nat} {L : List (List Nat)} (h : Rows2 w (.slice A n c) L) {k : Nat} (hk : k < n) : ∃ b off u, A = some ⟨b, off, none⟩ ∧ w.cell? ⟨b, off + k, none⟩ = some u ∧ Bytes w u (L.getD k []) := by
  obtain ⟨_, A', c', e, _, hx⟩ := h
  injection e with e1 e2 e3
  subst e1 e2
  obtain ⟨b, off, rfl, hc⟩ := hx (by omega)
  obtain ⟨u, h1, h2⟩ := hc k hk
  exact ⟨b, off, u, rfl, h1, h2⟩
theorem Rows2.len {w : World} {A : Option Addr} {n c : Nat} {L : List (List Nat)} (h : Rows2 w (.slice A n c) L) : L.length = n := by
  obtain ⟨_, B, d, e, _⟩ := h
  injection e with _ e
  exact e.symm
theorem Rows2.under {w w' : World} {v : Value} {L : List (List Nat)} (h : Rows2 w v L) (hb : Below w.heap.size w w') : Rows2 w' v L := by
  obtain ⟨h1, A, c, rfl, h3, hx⟩ := h
  refine ⟨h1, A, c, rfl, h3, fun h0 => ?_⟩
  obtain ⟨b, off, rfl, hc⟩ := hx h0
  refine ⟨b, off, rfl, fun i hi => ?_⟩
  obtain ⟨u, hu1, hu2⟩ := hc i hi
  exact ⟨u, cell_later hb hu1, hu2.under hb⟩
theorem Rows2.heap {w W : World} {v : Value} {L : List (List Nat)} (h : Rows2 w v L) (e : W.heap = w.heap) : Rows2 W v L := by
  obtain ⟨h1, A, c, rfl, h3, hx⟩ := h
  refine ⟨h1, A, c, rfl, h3, fun h0 => ?_⟩
  obtain ⟨b, off, rfl, hc⟩ := hx h0
  refine ⟨b, off, rfl, fun i hi => ?_⟩
  obtain ⟨u, hu1, hu2⟩ := hc i hi
  refine ⟨u, ?_, hu2.heap e⟩
  rw [← hu1]
  unfold World.cell?
  rw [e]

/-- A row of rows of bytes, all of the call's own. -/
def OwnR (w : World) (base : Nat) (v : Value) (L : List (List Nat)) : Prop :=
  ∃ us : List Value, us.length = L.length ∧ w.ownsRow base 25 1 v L.length us ∧ (∀ u ∈ us, u.oneCell' = true) ∧ ∀ i, i < L.length → Own w base (us.getD i undef) (L.getD i [])
theorem ownR_none (w : World) (base : Nat) : OwnR w base (.slice none 0 0) [] := ⟨[], rfl, World.ownsRow_nil w base _ 1, by simp, fun i hi => absurd hi (by simp)⟩
/-- Rows of rows do not lie where bytes do. -/
theorem own_apartR {w : World} {base base' n : Nat} {v u : Value} {l : List Nat} {us : List Value} (h : Own w base v l) (h' : w.ownsRow base' 25 1 u n us) : v.ownBlock = none ∨ v.ownBlock ≠ u.ownBlock := by
  rcases h.1.2 with ⟨rfl, _⟩ | ⟨g, cap, cur, rfl, _, hg, _⟩
  · exact .inl rfl
  · rcases h'.2 with ⟨rfl, _⟩ | ⟨g', cap', cur', rfl, _, hg', _⟩
    · exact .inr (by simp [Value.ownBlock])
    · refine .inr fun e => ?_
      simp [Value.ownBlock] at e
      subst e
      rw [hg] at hg'
      injection hg' with e
      injection e with _ e
      exact absurd e (by decide)
theorem Own.oneCell {w : World} {base : Nat} {v : Value} {l : List Nat} (h : Own w base v l) : v.oneCell' = true := by
  rcases h.1.2 with ⟨rfl, _⟩ | ⟨g, cap, cur, rfl, _⟩ <;> rfl
theorem OwnR.lt {w : World} {base : Nat} {v : Value} {L : List (List Nat)} (h : OwnR w base v L) : Between base w.heap.size v := by
  obtain ⟨us, _, h2, _⟩ := h
  exact fun k hk => World.ownsRow.lt h2 k hk
theorem OwnR.parts {w : World} {base : Nat} {v : Value} {L : List (List Nat)} (h : OwnR w base v L) : ∃ A c, v = .slice A L.length c ∧ L.length ≤ c := by
  obtain ⟨us, _, h2, _⟩ := h
  rcases h2.2 with ⟨rfl, h0⟩ | ⟨g, cap, cur, rfl, _, _, hn, _⟩
  · exact ⟨none, 0, by rw [h0], by omega⟩
  · exact ⟨_, _, rfl, hn⟩
theorem OwnR.rows {w : World} {base : Nat} {v : Value} {L : List (List Nat)} (h : OwnR w base v L) : Rows2 w v L := by
  obtain ⟨us, h1, h2, h4, h3⟩ := h
  have hr := h2
  rcases h2.2 with ⟨rfl, h0⟩ | ⟨g, cap, cur, rfl, hb, hg, hn, hm, hs, ht⟩
  · have : L = [] := List.eq_nil_of_length_eq_zero h0
    subst this
    exact rows2_none w
  · unfold maxLen at hm
    refine ⟨by omega, _, _, rfl, hn, fun _ => ⟨g, 0, rfl, fun i hi => ⟨us.getD i undef, ?_, (h3 i hi).bytes⟩⟩⟩
    rw [show 0 + i = i from by omega, hr.cellAt i (by omega), List.getD_eq_getElem?_getD, List.getElem?_eq_getElem (by omega)]
    rfl
theorem OwnR.grown {w w' : World} {row : Option Nat} {base : Nat} {v : Value} {L : List (List Nat)} (h : OwnR w base v L) (hg : w.grownBy w' row) (hne : ∀ r, row = some r → r < base ∨ ∃ o : Obj, w.heap[r]? = some o ∧ o.isCells = false) : OwnR w' base v L := by
  obtain ⟨us, h1, h2, h4, h3⟩ := h
  refine ⟨us, h1, h2.kept hg ?_, h4, fun i hi => (h3 i hi).grown hg ?_⟩
  · rcases h2.2 with ⟨rfl, _⟩ | ⟨g, cap, cur, rfl, hb, hgc, _⟩
    · exact .inl rfl
    · refine .inr fun e => ?_
      rcases hne g e.symm with h | ⟨o, ho, hc⟩
      · omega
      · rw [hgc] at ho
        injection ho with ho
        rw [← ho] at hc
        cases hc
  · rcases (h3 i hi).1.2 with ⟨e, _⟩ | ⟨g, cap, cur, e, hb, hgc, _⟩
    · rw [e]; exact .inl rfl
    · rw [e]
      refine .inr fun e => ?_
      rcases hne g e.symm with h | ⟨o, ho, hc⟩
      · omega
      · rw [hgc] at ho
        injection ho with ho
        rw [← ho] at hc
        cases hc
theorem OwnR.under {w w' : World} {base : Nat} {v : Value} {L : List (List Nat)} (h : OwnR w base v L) (hb : Below w.heap.size w w') : OwnR w' base v L :=
  h.grown (Below.toGrown hb none) (by simp)
theorem OwnR.setCell {w : World} {base : Nat} {v : Value} {L : List (List Nat)} (h : OwnR w base v L) {p : Addr} (hp : p.block < base) (u : Value) : OwnR (w.setCell p u) base v L :=
  h.grown (grown_setCell w p u) (by simp; exact .inl hp)
theorem OwnR.more {w : World} {base base' : Nat} {v : Value} {L : List (List Nat)} (h : OwnR w base v L) (hb : base' ≤ base) : OwnR w base' v L := by
  obtain ⟨us, h1, ⟨h2a, h2⟩, h4, h3⟩ := h
  refine ⟨us, h1, ⟨h2a, ?_⟩, h4, fun i hi => (h3 i hi).more hb⟩
  rcases h2 with h2 | ⟨g, cap, cur, e, hg, rest⟩
  · exact .inl h2
  · exact .inr ⟨g, cap, cur, e, Nat.le_trans hb hg, rest⟩
theorem infoBytes : (Try.prog.info? 25).map (fun i => (i.zero, i.size, i.bytes)) = some (some (.slice none 0 0), 1, 24) := by kernel_rfl

theorem run_append_row {w : World} {base B : Nat} {ty : TypeId} {v u : Value} {L : List (List Nat)} {m : List Nat} (hown : OwnR w base v L) (hu : Own w base u m) (hB : w.cell? ⟨B, 0, none⟩ = some u) (hlen : L.length ≤ 1099511627776) (hbase : base ≤ w.heap.size) :
    ∃ v' w', (Builtin.append_ #[33, 33] ty #[v, .slice (some ⟨B, 0, none⟩) 1 1]).run Try.prog w = .ok v' w' ∧ OwnR w' base v' (L ++ [m]) ∧ w.grownBy w' v.ownBlock ∧ (v'.ownBlock = v.ownBlock ∨ v'.ownBlock = some w.heap.size) := by
  obtain ⟨i, hi, hz0, hz1, hz2⟩ := info_parts infoBytes
  obtain ⟨us, h1, h2, h4, h3⟩ := hown
  obtain ⟨v', w', hr, ho, hg, _, hat⟩ := run_append_own_at (P := Try.prog) w base 33 ty 25 i (.slice none 0 0) 1 24 Try.underlying33 hi hz0 hz1 hz2 rfl (by decide) v L.length us h2 ⟨B, 0, none⟩ 1 1 [u] rfl
    (fun j x hx => by
      have hj : j = 0 := by
        rcases j with _ | j
        · rfl
        · simp at hx
      subst hj
      simp at hx
      subst hx
      rw [add_plain]
      exact hB) (fun x hx => by simp at hx; subst hx; exact hu.oneCell) (by unfold maxLen; omega) (by omega) hbase
  refine ⟨v', w', hr, ⟨us ++ [u], by simp [h1], by simpa using ho, fun x hx => (List.mem_append.1 hx).elim (h4 x) (fun e => by simp at e; subst e; exact hu.oneCell), fun j hj => ?_⟩, hg, hat⟩
  rcases Nat.lt_or_ge j L.length with hlt | hge
  · rw [List.getD_eq_getElem?_getD, List.getD_eq_getElem?_getD, List.getElem?_append_left (by omega), List.getElem?_append_left hlt, ← List.getD_eq_getElem?_getD, ← List.getD_eq_getElem?_getD]
    exact (h3 j hlt).grown hg (own_apartR (h3 j hlt) h2)
  · have hj' : j = L.length := by simp at hj; omega
    subst hj'
    have e1 : (us ++ [u]).getD L.length undef = u := by rw [← h1]; simp
    have e2 : (L ++ [m]).getD L.length [] = m := by simp
    rw [e1, e2]
    exact hu.grown hg (own_apartR hu h2)

/-- What an append of one leaves. -/
def GrewR (base : Nat) (v : Value) (L : List (List Nat)) (w : World) (v' : Value) (w' : World) : Prop := OwnR w' base v' L ∧ w.grownBy w' v.ownBlock ∧ (v'.ownBlock = v.ownBlock ∨ v'.ownBlock = some w.heap.size) ∧ Below base w w'
theorem wpList_append_row {w : World} {ops : Array Oper} {rest : List Oper} {o : Oper} {a : Act} {Q : Exit → Act → World → Prop} (hgd : o.guard = none) (s x : Operand)
    (ho : o.op = .call { callee := .builtin .append, args := #[s, x], argTypes := #[33, 33] }) (base B : Nat) (v u : Value) (L : List (List Nat)) (m : List Nat) (hs : a.eval s = v) (hown : OwnR w base v L)
    (hx : a.eval x = .slice (some ⟨B, 0, none⟩) 1 1) (hu : Own w base u m) (hB : w.cell? ⟨B, 0, none⟩ = some u) (hlen : L.length ≤ 1099511627776) (hbase : base ≤ w.heap.size) (R : List (List Nat)) (hR : L ++ [m] = R)
    (h : ∀ v' w', GrewR base v R w v' w' → wpList Try.prog ops Q rest (a.put o.dst v') w') : wpList Try.prog ops Q (o :: rest) a w := by
  subst hR
  obtain ⟨v', w', hr, h2, h3, h4⟩ := run_append_row (ty := o.type) hown hu hB hlen hbase
  refine wpList_plain hgd fun K hK => ?_
  unfold Oper.wp execOp
  simp only [ho, resolve, invoke, builtin, Sem.run_bind, Sem.run_pure, Result.andThen_ok, List.map_toArray, List.map_cons, List.map_nil, hs, hx, hr]
  exact hK _ _ (h v' w' ⟨h2, h3, h4, (Below.refl _ _).grown h3 hbase fun k hk => (hown.lt k hk).1⟩)
theorem wpListIn_append_row {F : Fence} {n : Nat} {w : World} {ops : Array Oper} {rest : List Oper} {o : Oper} {a : Act} {Q : Exit → Act → World → Prop} (hgd : o.guard = none) (s x : Operand)
    (ho : o.op = .call { callee := .builtin .append, args := #[s, x], argTypes := #[33, 33] }) (base B : Nat) (v u : Value) (L : List (List Nat)) (m : List Nat) (hs : a.eval s = v) (hown : OwnR w base v L)
    (hx : a.eval x = .slice (some ⟨B, 0, none⟩) 1 1) (hu : Own w base u m) (hB : w.cell? ⟨B, 0, none⟩ = some u) (hlen : L.length ≤ 1099511627776) (hbase : base ≤ w.heap.size) (R : List (List Nat)) (hR : L ++ [m] = R)
    (h : ∀ v' w', GrewR base v R w v' w' → wpListIn F n Try.prog ops Q rest (a.put o.dst v') w') : wpListIn F n Try.prog ops Q (o :: rest) a w := by
  subst hR
  obtain ⟨v', w', hr, h2, h3, h4⟩ := run_append_row (ty := o.type) hown hu hB hlen hbase
  refine wpListIn_plain hgd fun K hK => ?_
  unfold Oper.wpIn
  refine ⟨?_, ?_⟩
  · simp [Oper.about, ho, resolve, Target.leads, Sem.run_pure]
  · rw [Oper.semAt_plain F _ _ (by rw [ho]; intro c hc'; cases hc')]
    simp only [execOp, ho, resolve, invoke, builtin, Sem.run_bind, Sem.run_pure, Result.andThen_ok, List.map_toArray, List.map_cons, List.map_nil, hs, hx, hr]
    exact hK _ _ (h v' w' ⟨h2, h3, h4, (Below.refl _ _).grown h3 hbase fun k hk => (hown.lt k hk).1⟩)
end Go.Proofs.Ytoloidfkpfdboaa
