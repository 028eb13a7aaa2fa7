/- Rows of commits: read, kept, grown by one. -/
import Derived.Test.YtfheaognfocofaaZReco
import Derived.Maps.AppendAt
import Derived.RegionTactic
import Derived.Deep.RegionLaw
import Derived.Deep.AppendLies
import Derived.Test.YtfheaognfocofaaZRowsB
import Derived.Test.YtfheaognfocofaaZ08
namespace Go.Proofs.Ytfheaognfocofaa
set_option maxRecDepth 100000
open Go.ChangeShapes Go.WideShapes Go.ChangeAt Go.RowKit Go.ChangeMaps

/-- A commit with the value that its print is. -/
abbrev Dv := Rc.D × Value
def cellsN (x : Dv) : List Value := [.string (str x.1.1), .int .i64 (x.1.2.2.1 : Int), .int .i64 (x.1.2.2.2 : Int), x.2]
def rowN (L : List Dv) : List Value := L.flatMap cellsN
theorem cellsN_len (x : Dv) : (cellsN x).length = 4 := rfl
theorem rowN_len (L : List Dv) : (rowN L).length = L.length * 4 := by
  induction L with
  | nil => rfl
  | cons x L ih =>
    simp only [rowN, List.flatMap_cons, List.length_append, cellsN_len, List.length_cons] at ih ⊢
    omega
theorem rowN_snoc (L : List Dv) (x : Dv) : rowN (L ++ [x]) = rowN L ++ cellsN x := by simp [rowN]
theorem rowN_app (L M : List Dv) : rowN (L ++ M) = rowN L ++ rowN M := by simp [rowN]
theorem rowN_at : ∀ (L : List Dv) (k j : Nat) (h : k < L.length), j < 4 → (rowN L)[k * 4 + j]? = (cellsN (L[k]'h))[j]?
  | x :: L, 0, j, _, hj => by
    rw [rowN, List.flatMap_cons, List.getElem?_append_left (by rw [cellsN_len]; omega), Nat.zero_mul, Nat.zero_add]
    rfl
  | x :: L, k + 1, j, h, hj => by
    rw [rowN, List.flatMap_cons, List.getElem?_append_right (by rw [cellsN_len]; omega), cellsN_len, show (k + 1) * 4 + j - 4 = k * 4 + j from by omega]
    exact rowN_at L k j (by simpa using h) hj
/-- Each value is one cell. -/
def OneN (L : List Dv) : Prop := ∀ x ∈ L, x.2.oneCell' = true
theorem cellsN_one {x : Dv} (h : x.2.oneCell' = true) : ∀ u ∈ cellsN x, u.oneCell' = true := by
  intro u hu
  simp only [cellsN, List.mem_cons, List.not_mem_nil, or_false] at hu
  rcases hu with rfl | rfl | rfl | rfl
  · rfl
  · rfl
  · rfl
  · exact h
def OwnN (w : World) (base : Nat) (v : Value) (L : List Dv) : Prop := w.ownsRow base 39 4 v L.length (rowN L)
theorem ownN_none (w : World) (base : Nat) : OwnN w base (.slice none 0 0) [] := World.ownsRow_nil w base _ 4
theorem OwnN.under {w w' : World} {base : Nat} {v : Value} {L : List Dv} (h : OwnN w base v L) (hb : Below w.heap.size w w') : OwnN w' base v L := h.kept (row := none) (Below.toGrown hb none) (by cases v.ownBlock <;> simp)
theorem OwnN.alloc {w : World} {base : Nat} {v : Value} {L : List Dv} (h : OwnN w base v L) (o : Obj) : OwnN (w.alloc o) base v L := World.ownsRow.alloc h o
theorem OwnN.lt {w : World} {base : Nat} {v : Value} {L : List Dv} (h : OwnN w base v L) : Between base w.heap.size v := fun k hk => World.ownsRow.lt h k hk
/-- A slice of commits whose cells are these. -/
def RdN (w : World) (v : Value) (L : List Dv) : Prop := ∃ A c, v = .slice A L.length c ∧ L.length ≤ c ∧ (0 < L.length → ∃ b off, A = some ⟨b, off, none⟩ ∧ ∀ k (h : k < L.length), w.cell? ⟨b, off + k * 4, none⟩ = some (.string (str (L[k]'h).1.1)) ∧ w.cell? ⟨b, off + k * 4 + 1, none⟩ = some (.int .i64 (((L[k]'h).1.2.2.1 : Nat) : Int)) ∧ w.cell? ⟨b, off + k * 4 + 2, none⟩ = some (.int .i64 (((L[k]'h).1.2.2.2 : Nat) : Int)) ∧ w.cell? ⟨b, off + k * 4 + 3, none⟩ = some (L[k]'h).2)
theorem OwnN.rd {w : World} {base : Nat} {v : Value} {R : List Dv} (h : OwnN w base v R) : RdN w v R := by
  have h' := h
  rcases h.2 with ⟨rfl, h0⟩ | ⟨g, cap, cur, rfl, hb, hg, hn, hm, hs, ht⟩
  · exact ⟨none, 0, by rw [h0], by omega, fun h => by omega⟩
  · refine ⟨_, cap, rfl, hn, fun _ => ⟨g, 0, rfl, fun k hk => ?_⟩⟩
    have hc : ∀ j, j < 4 → w.cell? ⟨g, 0 + k * 4 + j, none⟩ = (cellsN (R[k]'hk))[j]? := fun j hj => by
      rw [show 0 + k * 4 + j = k * 4 + j from by omega, World.ownsRow.cellAt h' (k * 4 + j) (by omega), rowN_at R k j hk hj]
    exact ⟨hc 0 (by omega), hc 1 (by omega), hc 2 (by omega), hc 3 (by omega)⟩
theorem RdN.at {w : World} {A : Option Addr} {n c : Nat} {L : List Dv} (hL : RdN w (.slice A n c) L) (k : Nat) (h : k < L.length) : ∃ b off, A = some ⟨b, off, none⟩ ∧ w.cell? ⟨b, off + k * 4, none⟩ = some (.string (str (L[k]'h).1.1)) ∧ w.cell? ⟨b, off + k * 4 + 1, none⟩ = some (.int .i64 (((L[k]'h).1.2.2.1 : Nat) : Int)) ∧ w.cell? ⟨b, off + k * 4 + 2, none⟩ = some (.int .i64 (((L[k]'h).1.2.2.2 : Nat) : Int)) ∧ w.cell? ⟨b, off + k * 4 + 3, none⟩ = some (L[k]'h).2 := by
  obtain ⟨A', c', e, _, hx⟩ := hL
  injection e with e1 e2 e3
  subst e1
  obtain ⟨b, off, rfl, hc⟩ := hx (by omega)
  exact ⟨b, off, rfl, hc k h⟩
theorem RdN.same {w w' : World} {v : Value} {R : List Dv} (h : RdN w v R) (hb : ∀ k, v.ownBlock = some k → w'.heap[k]? = w.heap[k]?) : RdN w' v R := by
  obtain ⟨A, c, rfl, h1, h2⟩ := h
  refine ⟨A, c, rfl, h1, fun h0 => ?_⟩
  obtain ⟨b, off, rfl, hc⟩ := h2 h0
  have hcell : ∀ o, w'.cell? ⟨b, o, none⟩ = w.cell? ⟨b, o, none⟩ := fun o => World.cell?_of_block (hb b rfl)
  exact ⟨b, off, rfl, fun k hk => ⟨(hcell _).trans (hc k hk).1, (hcell _).trans (hc k hk).2.1, (hcell _).trans (hc k hk).2.2.1, (hcell _).trans (hc k hk).2.2.2⟩⟩
theorem infoN : (Try.prog.info? 39).map (fun i => (i.zero, i.size, i.bytes)) = some (some (.agg #[.string ⟨#[]⟩, .int .i64 0, .int .i64 0, .slice none 0 0]), 4, 56) := by kernel_rfl
theorem bytes_one_cellN {w : World} {v : Value} {l : List Nat} (h : Bytes w v l) : v.oneCell' = true := by
  obtain ⟨_, _, A, c, rfl, _⟩ := h.parts
  rfl
/-- What an append of a row of files onto one of the call's own comes to. -/
theorem run_append_dones {w : World} {base : Nat} {ty : TypeId} {u v : Value} {R M : List Dv} (hst : OwnN w base u R) (hM : RdN w v M) (h1 : OneN M) (hlen : R.length + M.length ≤ 1099511627776) (hbase : base ≤ w.heap.size) :
    ∃ u' w', (Builtin.append_ #[31, 31] ty #[u, v]).run Try.prog w = .ok u' w' ∧ OwnN w' base u' (R ++ M) ∧ w.grownBy w' u.ownBlock ∧ (u'.ownBlock = u.ownBlock ∨ u'.ownBlock = some w.heap.size) := by
  obtain ⟨i, hi, hz0, hz1, hz2⟩ := info_parts infoN
  obtain ⟨A, c, rfl, hc, hcell⟩ := hM
  have hkey : ∀ ad : Addr, A = some ad → ∃ u' w', (Builtin.append_ #[31, 31] ty #[u, .slice (some ad) M.length c]).run Try.prog w = .ok u' w' ∧ OwnN w' base u' (R ++ M) ∧ w.grownBy w' u.ownBlock ∧ (u'.ownBlock = u.ownBlock ∨ u'.ownBlock = some w.heap.size) := by
    rintro ad rfl
    obtain ⟨u', w', hr, ho, hg, _, hat⟩ := run_append_own_at (P := Try.prog) w base 31 ty 39 i (.agg #[.string ⟨#[]⟩, .int .i64 0, .int .i64 0, .slice none 0 0]) 4 56 Try.underlying31 hi hz0 hz1 hz2 (by kernel_rfl) (by decide) u R.length (rowN R) hst ad M.length c (rowN M) (rowN_len M)
      (fun j y hy => by
        have hj : j < M.length * 4 := by
          rw [← rowN_len]
          exact (List.getElem?_eq_some_iff.1 hy).1
        have hk : j / 4 < M.length := by omega
        obtain ⟨b, off, e, hcl⟩ := hcell (by omega)
        injection e with e
        subst e
        rw [add_plain]
        have he := rowN_at M (j / 4) (j % 4) hk (Nat.mod_lt _ (by decide))
        rw [show j / 4 * 4 + j % 4 = j from by omega, hy] at he
        obtain ⟨p0, p1, p2, p3⟩ := hcl (j / 4) hk
        have : j % 4 = 0 ∨ j % 4 = 1 ∨ j % 4 = 2 ∨ j % 4 = 3 := by omega
        rcases this with e | e | e | e
        · rw [e] at he
          rw [show off + j = off + j / 4 * 4 from by omega, p0]
          exact he.symm
        · rw [e] at he
          rw [show off + j = off + j / 4 * 4 + 1 from by omega, p1]
          exact he.symm
        · rw [e] at he
          rw [show off + j = off + j / 4 * 4 + 2 from by omega, p2]
          exact he.symm
        · rw [e] at he
          rw [show off + j = off + j / 4 * 4 + 3 from by omega, p3]
          exact he.symm)
      (fun y hy => by
        obtain ⟨d, hdm, hd⟩ := List.mem_flatMap.1 hy
        exact cellsN_one (h1 d hdm) y hd) (by unfold maxLen; omega) (by omega) hbase
    refine ⟨u', w', hr, ?_, hg, hat⟩
    unfold OwnN
    rw [List.length_append, rowN_app]
    exact ho
  rcases A with _ | ad
  · rcases Nat.eq_zero_or_pos M.length with hz | hz
    · have : M = [] := List.eq_nil_of_length_eq_zero hz
      subst this
      refine ⟨u, w, run_append_none Try.underlying31 hi hst, by simpa using hst, World.grownBy.refl w _, .inl rfl⟩
    · obtain ⟨b, off, e, _⟩ := hcell hz
      cases e
  · exact hkey ad rfl
/-- What an append of a row of files leaves. -/
def GrewN (base : Nat) (u : Value) (R : List Dv) (w : World) (u' : Value) (w' : World) : Prop :=
  OwnN w' base u' R ∧ w.grownBy w' u.ownBlock ∧ Below base w w' ∧ (u'.ownBlock = u.ownBlock ∨ u'.ownBlock = some w.heap.size)
theorem wp_append_dones {w : World} {o : Oper} {a : Act} {K : Act → World → Prop} {Q : Exit → Act → World → Prop} (s x : Operand)
    (ho : o.op = .call { callee := .builtin .append, args := #[s, x], argTypes := #[31, 31] }) (base : Nat) (u v : Value) (R M : List Dv) (hs : a.eval s = u) (hst : OwnN w base u R)
    (hx : a.eval x = v) (hM : RdN w v M) (h1 : OneN M) (hlen : R.length + M.length ≤ 1099511627776) (hbase : base ≤ w.heap.size) (R' : List Dv) (hR : R ++ M = R')
    (h : ∀ u' w', GrewN base u R' w u' w' → K (a.put o.dst u') w') : Oper.wp Try.prog o a w K Q := by
  subst hR
  obtain ⟨u', w', hr, h2, h3, h4⟩ := run_append_dones (ty := o.type) hst hM h1 hlen hbase
  unfold Oper.wp execOp
  simp only [ho, resolve, invoke, builtin, Sem.run_bind, Sem.run_pure, Result.andThen_ok, List.map_toArray, List.map_cons, List.map_nil, hs, hx, hr]
  exact h _ _ ⟨h2, h3, (Below.refl _ _).grown h3 hbase fun k hk => (World.ownsRow.lt hst k hk).1, h4⟩
theorem wpList_append_dones {w : World} {ops : Array Oper} {rest : List Oper} {o : Oper} {a : Act} {Q : Exit → Act → World → Prop} (hgd : o.guard = none) (s x : Operand)
    (ho : o.op = .call { callee := .builtin .append, args := #[s, x], argTypes := #[31, 31] }) (base : Nat) (u v : Value) (R M : List Dv) (hs : a.eval s = u) (hst : OwnN w base u R)
    (hx : a.eval x = v) (hM : RdN w v M) (h1 : OneN M) (hlen : R.length + M.length ≤ 1099511627776) (hbase : base ≤ w.heap.size) (R' : List Dv) (hR : R ++ M = R')
    (h : ∀ u' w', GrewN base u R' w u' w' → wpList Try.prog ops Q rest (a.put o.dst u') w') : wpList Try.prog ops Q (o :: rest) a w :=
  wpList_plain hgd fun _ hK => wp_append_dones s x ho base u v R M hs hst hx hM h1 hlen hbase R' hR fun v' w' hg => hK _ _ (h v' w' hg)
theorem step_append_dones {w : World} {ops : Array Oper} {o : Oper} {a : Act} {K : Act → World → Prop} {Q : Exit → Act → World → Prop} {E : Prop} (hgd : o.guard = none) (s x : Operand)
    (ho : o.op = .call { callee := .builtin .append, args := #[s, x], argTypes := #[31, 31] }) (base : Nat) (u v : Value) (R M : List Dv) (hs : a.eval s = u) (hst : OwnN w base u R)
    (hx : a.eval x = v) (hM : RdN w v M) (h1 : OneN M) (hlen : R.length + M.length ≤ 1099511627776) (hbase : base ≤ w.heap.size) (R' : List Dv) (hR : R ++ M = R')
    (h : ∀ u' w', GrewN base u R' w u' w' → K (a.put o.dst u') w') : if Region.wanted o (yielded ops a.tmps) = true then Oper.wp Try.prog o a w K Q else E := by
  rw [if_pos (by simp [Region.wanted, hgd])]
  exact wp_append_dones s x ho base u v R M hs hst hx hM h1 hlen hbase R' hR h
theorem rdN_one (w : World) (x : Dv) (m : Nat × Nat) : RdN (w.alloc (.cells #[.string (str x.1.1), .int .i64 (x.1.2.2.1 : Int), .int .i64 (x.1.2.2.2 : Int), x.2] 39 m)) (.slice (some ⟨w.heap.size, 0, none⟩) 1 1) [x] := by
  refine ⟨_, 1, rfl, Nat.le_refl _, fun _ => ⟨w.heap.size, 0, rfl, fun j hj => ?_⟩⟩
  have : j = 0 := by simpa using hj
  subst this
  exact ⟨cell_of_row _ _ 0 _ _ _ (heap_alloc_new w _), cell_of_row _ _ 1 _ _ _ (heap_alloc_new w _), cell_of_row _ _ 2 _ _ _ (heap_alloc_new w _), cell_of_row _ _ 3 _ _ _ (heap_alloc_new w _)⟩

theorem own_apartN {w : World} {base base' n : Nat} {v u : Value} {l : List Nat} {us : List Value} (h : Own w base v l) (h' : w.ownsRow base' 39 4 u n us) : v.ownBlock = none ∨ v.ownBlock ≠ u.ownBlock := by
  rcases h.1.2 with ⟨rfl, _⟩ | ⟨g, cap, cur, rfl, _, hg, _⟩
  · exact .inl rfl
  · right
    rcases h'.2 with ⟨rfl, _⟩ | ⟨g', cap', cur', rfl, _, hg', _⟩
    · simp [Value.ownBlock]
    · intro e
      simp [Value.ownBlock] at e
      subst e
      rw [hg] at hg'
      injection hg' with hg'
      injection hg' with _ e2
      exact absurd e2 (by decide)
/-- Commits in a row of the call's own, each with a print of the call's own. -/
def OwnDs (w : World) (base : Nat) (v : Value) (R : List Rc.D) : Prop := ∃ T : List Dv, T.map Prod.fst = R ∧ OwnN w base v T ∧ ∀ y ∈ T, Own w base y.2 y.1.2.1
/-- Commits that a slice reads as. -/
def RdDs (w : World) (v : Value) (R : List Rc.D) : Prop := ∃ T : List Dv, T.map Prod.fst = R ∧ RdN w v T ∧ ∀ y ∈ T, Bytes w y.2 y.1.2.1
theorem ownDs_none (w : World) (base : Nat) : OwnDs w base (.slice none 0 0) [] := ⟨[], rfl, ownN_none _ _, by simp⟩
theorem OwnDs.under {w w' : World} {base : Nat} {v : Value} {R : List Rc.D} (h : OwnDs w base v R) (hb : Below w.heap.size w w') : OwnDs w' base v R := by
  obtain ⟨T, e, h1, h2⟩ := h
  exact ⟨T, e, h1.under hb, fun y hy => (h2 y hy).under hb⟩
theorem OwnDs.rd {w : World} {base : Nat} {v : Value} {R : List Rc.D} (h : OwnDs w base v R) : RdDs w v R := by
  obtain ⟨T, e, h1, h2⟩ := h
  exact ⟨T, e, h1.rd, fun y hy => (h2 y hy).bytes⟩
theorem OwnDs.parts {w : World} {base : Nat} {v : Value} {R : List Rc.D} (h : OwnDs w base v R) : ∃ A c, v = .slice A R.length c ∧ R.length ≤ c := by
  obtain ⟨T, rfl, h1, _⟩ := h
  obtain ⟨A, c, e, h2, _⟩ := h1.rd
  rw [List.length_map]
  exact ⟨A, c, e, h2⟩
theorem RdDs.parts {w : World} {v : Value} {R : List Rc.D} (h : RdDs w v R) : ∃ A c, v = .slice A R.length c ∧ R.length ≤ c := by
  obtain ⟨T, rfl, ⟨A, c, e, h2, _⟩, _⟩ := h
  rw [List.length_map]
  exact ⟨A, c, e, h2⟩
theorem OwnN.more {w : World} {base base' : Nat} {v : Value} {L : List Dv} (h : OwnN w base v L) (hb : base' ≤ base) : OwnN w base' v L := by
  refine ⟨h.1, ?_⟩
  rcases h.2 with h2 | ⟨g, cap, cur, e, hg, rest⟩
  · exact .inl h2
  · exact .inr ⟨g, cap, cur, e, Nat.le_trans hb hg, rest⟩
theorem OwnDs.more {w : World} {base base' : Nat} {v : Value} {R : List Rc.D} (h : OwnDs w base v R) (hb : base' ≤ base) : OwnDs w base' v R := by
  obtain ⟨T, e, h1, h2⟩ := h
  exact ⟨T, e, h1.more hb, fun y hy => (h2 y hy).more hb⟩
theorem OwnDs.heap {w W : World} {base : Nat} {v : Value} {R : List Rc.D} (h : OwnDs w base v R) (e : W.heap = w.heap) : OwnDs W base v R := by
  obtain ⟨T, e1, h1, h2⟩ := h
  refine ⟨T, e1, ?_, fun y hy => ?_⟩
  · unfold OwnN World.ownsRow at *
    rw [e]
    exact h1
  · have := h2 y hy
    unfold Own World.ownsRow at *
    rw [e]
    exact this
/-- A row of commits grows by one. -/
theorem OwnDs.grew {w w' : World} {base : Nat} {u u' x : Value} {R : List Rc.D} {d : Rc.D} {T : List Dv} (e : T.map Prod.fst = R) (h1 : OwnN w base u T) (h2 : ∀ y ∈ T, Own w base y.2 y.1.2.1) (hx : Own w base x d.2.1)
    (hg : GrewN base u (T ++ [(d, x)]) w u' w') : OwnDs w' base u' (R ++ [d]) := by
  obtain ⟨g1, g2, g3, g4⟩ := hg
  refine ⟨T ++ [(d, x)], by rw [List.map_append, e]; rfl, g1, fun y hy => ?_⟩
  rcases List.mem_append.1 hy with hy | hy
  · exact (h2 y hy).grown g2 (own_apartN (h2 y hy) h1)
  · rw [List.mem_singleton.1 hy]
    exact hx.grown g2 (own_apartN hx h1)
theorem RdN.under {w w' : World} {v : Value} {T : List Dv} (h : RdN w v T) (hb : Below w.heap.size w w') : RdN w' v T := by
  obtain ⟨A, c, rfl, h1, h2⟩ := h
  refine ⟨A, c, rfl, h1, fun h0 => ?_⟩
  obtain ⟨b, off, rfl, hc⟩ := h2 h0
  exact ⟨b, off, rfl, fun k hk => ⟨cell_later hb (hc k hk).1, cell_later hb (hc k hk).2.1, cell_later hb (hc k hk).2.2.1, cell_later hb (hc k hk).2.2.2⟩⟩
theorem RdDs.under {w w' : World} {v : Value} {R : List Rc.D} (h : RdDs w v R) (hb : Below w.heap.size w w') : RdDs w' v R := by
  obtain ⟨T, e, h1, h2⟩ := h
  exact ⟨T, e, h1.under hb, fun y hy => (h2 y hy).under hb⟩
theorem RdDs.at {w : World} {A : Option Addr} {n c : Nat} {R : List Rc.D} (h : RdDs w (.slice A n c) R) {k : Nat} {d : Rc.D} (hk : R[k]? = some d) : ∃ b off x, A = some ⟨b, off, none⟩ ∧ w.cell? ⟨b, off + k * 4, none⟩ = some (.string (str d.1)) ∧ w.cell? ⟨b, off + k * 4 + 1, none⟩ = some (.int .i64 (d.2.2.1 : Int)) ∧ w.cell? ⟨b, off + k * 4 + 2, none⟩ = some (.int .i64 (d.2.2.2 : Int)) ∧ w.cell? ⟨b, off + k * 4 + 3, none⟩ = some x ∧ Bytes w x d.2.1 := by
  obtain ⟨T, rfl, h1, h2⟩ := h
  obtain ⟨hk1, hk2⟩ := List.getElem?_eq_some_iff.1 hk
  have hkT : k < T.length := by simpa using hk1
  obtain ⟨b, off, e, c0, c1, c2, c3⟩ := h1.at k hkT
  rw [List.getElem_map] at hk2
  subst hk2
  exact ⟨b, off, _, e, c0, c1, c2, c3, h2 _ (List.getElem_mem hkT)⟩
theorem RdDs.take {w : World} {A : Option Addr} {n c : Nat} {R : List Rc.D} (h : RdDs w (.slice A n c) R) {k : Nat} (hk : k ≤ n) : RdDs w (.slice A k c) (R.take k) := by
  obtain ⟨T, rfl, ⟨A', c', e, h1, h2⟩, h3⟩ := h
  injection e with e1 e2 e3
  subst e1 e2 e3
  refine ⟨T.take k, by rw [List.map_take], ⟨_, _, by rw [List.length_take, Nat.min_eq_left hk], by rw [List.length_take]; omega, fun h0 => ?_⟩, fun y hy => h3 y (List.mem_of_mem_take hy)⟩
  have h0' : 0 < T.length := by rw [List.length_take] at h0; omega
  obtain ⟨b, off, rfl, hc⟩ := h2 h0'
  refine ⟨b, off, rfl, fun j hj => ?_⟩
  rw [List.length_take] at hj
  simp only [List.getElem_take]
  exact hc j (by omega)
theorem rdN_two (w : World) (o : Obj) (t p : List Nat) (who inc : Nat) (x : Value) (m : Nat × Nat) : RdN ((w.alloc o).alloc (.cells #[.string (str t), .int .i64 (who : Int), .int .i64 (inc : Int), x] 39 m)) (.slice (some ⟨w.heap.size + 1, 0, none⟩) 1 1) [((t, p, who, inc), x)] := by
  have := rdN_one (w.alloc o) ((t, p, who, inc), x) m
  rwa [show (w.alloc o).heap.size = w.heap.size + 1 from by simp] at this
end Go.Proofs.Ytfheaognfocofaa
