/- Rows of the document's files: read, kept, grown by one, grown by a row. -/
import Derived.Test.YtlfgadcfjjjbfaaRfGuard
import Derived.Maps.AppendAt
import Derived.RegionTactic
import Derived.Deep.RegionLaw
import Derived.Deep.AppendLies
namespace Go.Proofs.Ytlfgadcfjjjbfaa
set_option maxRecDepth 100000
open Go.ChangeShapes Go.WideShapes Go.ChangeAt Go.RowKit Go.ChangeMaps
open Sf

/-- A file with the value that its bytes are. -/
abbrev Fv := Fi × Value
def cellsF (x : Fv) : List Value := [.string (str x.1.name), x.2, .int .i64 (x.1.stamp : Int)]
def rowF (L : List Fv) : List Value := L.flatMap cellsF
theorem cellsF_len (x : Fv) : (cellsF x).length = 3 := rfl
theorem rowF_len (L : List Fv) : (rowF L).length = L.length * 3 := by
  induction L with
  | nil => rfl
  | cons x L ih =>
    simp only [rowF, List.flatMap_cons, List.length_append, cellsF_len, List.length_cons] at ih ⊢
    omega
theorem rowF_snoc (L : List Fv) (x : Fv) : rowF (L ++ [x]) = rowF L ++ cellsF x := by simp [rowF]
theorem rowF_app (L M : List Fv) : rowF (L ++ M) = rowF L ++ rowF M := by simp [rowF]
theorem rowF_at : ∀ (L : List Fv) (k j : Nat) (h : k < L.length), j < 3 → (rowF L)[k * 3 + j]? = (cellsF (L[k]'h))[j]?
  | x :: L, 0, j, _, hj => by
    rw [rowF, List.flatMap_cons, List.getElem?_append_left (by rw [cellsF_len]; omega), Nat.zero_mul, Nat.zero_add]
    rfl
  | x :: L, k + 1, j, h, hj => by
    rw [rowF, List.flatMap_cons, List.getElem?_append_right (by rw [cellsF_len]; omega), cellsF_len, show (k + 1) * 3 + j - 3 = k * 3 + j from by omega]
    exact rowF_at L k j (by simpa using h) hj
/-- Each value is one cell. -/
def OneC (L : List Fv) : Prop := ∀ x ∈ L, x.2.oneCell' = true
theorem cellsF_one {x : Fv} (h : x.2.oneCell' = true) : ∀ u ∈ cellsF x, u.oneCell' = true := by
  intro u hu
  simp only [cellsF, List.mem_cons, List.not_mem_nil, or_false] at hu
  rcases hu with rfl | rfl | rfl
  · rfl
  · exact h
  · rfl
def OwnF (w : World) (base : Nat) (v : Value) (L : List Fv) : Prop := w.ownsRow base 58 3 v L.length (rowF L)
theorem ownF_none (w : World) (base : Nat) : OwnF w base (.slice none 0 0) [] := World.ownsRow_nil w base _ 3
theorem OwnF.under {w w' : World} {base : Nat} {v : Value} {L : List Fv} (h : OwnF w base v L) (hb : Below w.heap.size w w') : OwnF w' base v L := h.kept (row := none) (Below.toGrown hb none) (by cases v.ownBlock <;> simp)
theorem OwnF.alloc {w : World} {base : Nat} {v : Value} {L : List Fv} (h : OwnF w base v L) (o : Obj) : OwnF (w.alloc o) base v L := World.ownsRow.alloc h o
theorem OwnF.lt {w : World} {base : Nat} {v : Value} {L : List Fv} (h : OwnF w base v L) : Between base w.heap.size v := fun k hk => World.ownsRow.lt h k hk
/-- A slice of files whose cells are these. -/
def RdV (w : World) (v : Value) (L : List Fv) : Prop := ∃ A c, v = .slice A L.length c ∧ L.length ≤ c ∧ (0 < L.length → ∃ b off, A = some ⟨b, off, none⟩ ∧ ∀ k (h : k < L.length), w.cell? ⟨b, off + k * 3, none⟩ = some (.string (str (L[k]'h).1.name)) ∧ w.cell? ⟨b, off + k * 3 + 1, none⟩ = some (L[k]'h).2 ∧ w.cell? ⟨b, off + k * 3 + 2, none⟩ = some (.int .i64 (((L[k]'h).1.stamp : Nat) : Int)))
theorem OwnF.rd {w : World} {base : Nat} {v : Value} {R : List Fv} (h : OwnF w base v R) : RdV w v R := by
  have h' := h
  rcases h.2 with ⟨rfl, h0⟩ | ⟨g, cap, cur, rfl, hb, hg, hn, hm, hs, ht⟩
  · exact ⟨none, 0, by rw [h0], by omega, fun h => by omega⟩
  · refine ⟨_, cap, rfl, hn, fun _ => ⟨g, 0, rfl, fun k hk => ?_⟩⟩
    have hc : ∀ j, j < 3 → w.cell? ⟨g, 0 + k * 3 + j, none⟩ = (cellsF (R[k]'hk))[j]? := fun j hj => by
      rw [show 0 + k * 3 + j = k * 3 + j from by omega, World.ownsRow.cellAt h' (k * 3 + j) (by omega), rowF_at R k j hk hj]
    exact ⟨hc 0 (by omega), hc 1 (by omega), hc 2 (by omega)⟩
theorem RdV.at {w : World} {A : Option Addr} {n c : Nat} {R : List Fv} (h : RdV w (.slice A n c) R) (k : Nat) (hk : k < R.length) : ∃ b off, A = some ⟨b, off, none⟩ ∧ w.cell? ⟨b, off + k * 3, none⟩ = some (.string (str (R[k]'hk).1.name)) ∧ w.cell? ⟨b, off + k * 3 + 1, none⟩ = some (R[k]'hk).2 ∧ w.cell? ⟨b, off + k * 3 + 2, none⟩ = some (.int .i64 (((R[k]'hk).1.stamp : Nat) : Int)) := by
  obtain ⟨A', c', e, _, hx⟩ := h
  injection e with e1 e2 e3
  subst e1
  obtain ⟨b, off, rfl, hc⟩ := hx (by omega)
  exact ⟨b, off, rfl, hc k hk⟩
theorem RdV.same {w w' : World} {v : Value} {R : List Fv} (h : RdV w v R) (hb : ∀ k, v.ownBlock = some k → w'.heap[k]? = w.heap[k]?) : RdV w' v R := by
  obtain ⟨A, c, rfl, h1, h2⟩ := h
  refine ⟨A, c, rfl, h1, fun h0 => ?_⟩
  obtain ⟨b, off, rfl, hc⟩ := h2 h0
  have hcell : ∀ o, w'.cell? ⟨b, o, none⟩ = w.cell? ⟨b, o, none⟩ := fun o => World.cell?_of_block (hb b rfl)
  exact ⟨b, off, rfl, fun k hk => ⟨(hcell _).trans (hc k hk).1, (hcell _).trans (hc k hk).2.1, (hcell _).trans (hc k hk).2.2⟩⟩
theorem infoF : (Try.prog.info? 58).map (fun i => (i.zero, i.size, i.bytes)) = some (some (.agg #[.string ⟨#[]⟩, .slice none 0 0, .int .i64 0]), 3, 48) := by kernel_rfl
/-- The files of a row with the values of their bytes. -/
theorem RdF.pairs {q : Nat} {G : Nat → Prop} {w : World} {lv : Value} {l : List Fi} (h : RdF q G w lv l) : ∃ T : List Fv, T.map Prod.fst = l ∧ RdV w lv T ∧ ∀ y ∈ T, Bytes w y.2 y.1.b ∧ ∀ j, y.2.ownBlock = some j → G j ∧ j ≠ q := by
  obtain ⟨A, c, rfl, h1, h2, h3⟩ := h
  rcases Nat.eq_zero_or_pos l.length with h0 | h0
  · have : l = [] := List.eq_nil_of_length_eq_zero h0
    subst this
    exact ⟨[], rfl, ⟨A, c, rfl, h1, fun h => by simp at h⟩, by simp⟩
  · obtain ⟨b, off, rfl, hb, hbq, hc⟩ := h3 h0
    have hlen : (l.mapIdx fun k x => (x, (w.cell? ⟨b, off + k * 3 + 1, none⟩).getD undef)).length = l.length := by simp
    refine ⟨l.mapIdx fun k x => (x, (w.cell? ⟨b, off + k * 3 + 1, none⟩).getD undef), ?_, ⟨_, c, by rw [hlen], by rw [hlen]; exact h1, fun _ => ⟨b, off, rfl, fun k hk => ?_⟩⟩, fun y hy => ?_⟩
    · apply List.ext_getElem (by simp)
      intro i _ _
      simp
    · have hk' : k < l.length := by rw [← hlen]; exact hk
      obtain ⟨c1, ⟨bv, c2, _⟩, c3⟩ := hc k hk'
      simp only [List.getElem_mapIdx]
      exact ⟨c1, by rw [c2]; rfl, c3⟩
    · obtain ⟨k, hk, rfl⟩ := List.getElem_of_mem hy
      have hk' : k < l.length := by rw [← hlen]; exact hk
      obtain ⟨c1, ⟨bv, c2, c3, c4⟩, c5⟩ := hc k hk'
      simp only [List.getElem_mapIdx]
      rw [c2]
      exact ⟨c3, c4⟩
theorem RdF.of {q : Nat} {G : Nat → Prop} {w : World} {lv : Value} {T : List Fv} (h : RdV w lv T) (hm : T.length ≤ 1048576) (hl : ∀ j, lv.ownBlock = some j → G j ∧ j ≠ q) (hT : ∀ y ∈ T, Bytes w y.2 y.1.b ∧ ∀ j, y.2.ownBlock = some j → G j ∧ j ≠ q) : RdF q G w lv (T.map Prod.fst) := by
  obtain ⟨A, c, rfl, h1, h2⟩ := h
  refine ⟨A, c, by rw [List.length_map], by rw [List.length_map]; exact h1, by rw [List.length_map]; exact hm, fun h0 => ?_⟩
  rw [List.length_map] at h0
  obtain ⟨b, off, rfl, hc⟩ := h2 h0
  refine ⟨b, off, rfl, (hl b rfl).1, (hl b rfl).2, fun k hk => ?_⟩
  have hk' : k < T.length := by simpa using hk
  obtain ⟨c1, c2, c3⟩ := hc k hk'
  simp only [List.getElem_map]
  exact ⟨c1, ⟨_, c2, (hT _ (List.getElem_mem hk')).1, (hT _ (List.getElem_mem hk')).2⟩, c3⟩
theorem bytes_one_cell {w : World} {v : Value} {l : List Nat} (h : Bytes w v l) : v.oneCell' = true := by
  obtain ⟨_, _, A, c, rfl, _⟩ := h.parts
  rfl
/-- What an append of a row of files onto one of the call's own comes to. -/
theorem run_append_files {w : World} {base : Nat} {ty : TypeId} {u v : Value} {R M : List Fv} (hst : OwnF w base u R) (hM : RdV w v M) (h1 : OneC M) (hlen : R.length + M.length ≤ 2097152) (hbase : base ≤ w.heap.size) :
    ∃ u' w', (Builtin.append_ #[54, 54] ty #[u, v]).run Try.prog w = .ok u' w' ∧ OwnF w' base u' (R ++ M) ∧ w.grownBy w' u.ownBlock ∧ (u'.ownBlock = u.ownBlock ∨ u'.ownBlock = some w.heap.size) := by
  obtain ⟨i, hi, hz0, hz1, hz2⟩ := info_parts infoF
  obtain ⟨A, c, rfl, hc, hcell⟩ := hM
  have hkey : ∀ ad : Addr, A = some ad → ∃ u' w', (Builtin.append_ #[54, 54] ty #[u, .slice (some ad) M.length c]).run Try.prog w = .ok u' w' ∧ OwnF w' base u' (R ++ M) ∧ w.grownBy w' u.ownBlock ∧ (u'.ownBlock = u.ownBlock ∨ u'.ownBlock = some w.heap.size) := by
    rintro ad rfl
    obtain ⟨u', w', hr, ho, hg, _, hat⟩ := run_append_own_at (P := Try.prog) w base 54 ty 58 i (.agg #[.string ⟨#[]⟩, .slice none 0 0, .int .i64 0]) 3 48 Try.underlying54 hi hz0 hz1 hz2 (by kernel_rfl) (by decide) u R.length (rowF R) hst ad M.length c (rowF M) (rowF_len M)
      (fun j y hy => by
        have hj : j < M.length * 3 := by
          rw [← rowF_len]
          exact (List.getElem?_eq_some_iff.1 hy).1
        have hk : j / 3 < M.length := by omega
        obtain ⟨b, off, e, hcl⟩ := hcell (by omega)
        injection e with e
        subst e
        rw [add_plain]
        have he := rowF_at M (j / 3) (j % 3) hk (Nat.mod_lt _ (by decide))
        rw [show j / 3 * 3 + j % 3 = j from by omega, hy] at he
        obtain ⟨p0, p1, p2⟩ := hcl (j / 3) hk
        have : j % 3 = 0 ∨ j % 3 = 1 ∨ j % 3 = 2 := by omega
        rcases this with e | e | e
        · rw [e] at he
          rw [show off + j = off + j / 3 * 3 from by omega, p0]
          exact he.symm
        · rw [e] at he
          rw [show off + j = off + j / 3 * 3 + 1 from by omega, p1]
          exact he.symm
        · rw [e] at he
          rw [show off + j = off + j / 3 * 3 + 2 from by omega, p2]
          exact he.symm)
      (fun y hy => by
        obtain ⟨d, hdm, hd⟩ := List.mem_flatMap.1 hy
        exact cellsF_one (h1 d hdm) y hd) (by unfold maxLen; omega) (by omega) hbase
    refine ⟨u', w', hr, ?_, hg, hat⟩
    unfold OwnF
    rw [List.length_append, rowF_app]
    exact ho
  rcases A with _ | ad
  · rcases Nat.eq_zero_or_pos M.length with hz | hz
    · have : M = [] := List.eq_nil_of_length_eq_zero hz
      subst this
      refine ⟨u, w, run_append_none Try.underlying54 hi hst, by simpa using hst, World.grownBy.refl w _, .inl rfl⟩
    · obtain ⟨b, off, e, _⟩ := hcell hz
      cases e
  · exact hkey ad rfl
/-- What an append of a row of files leaves. -/
def GrewF (base : Nat) (u : Value) (R : List Fv) (w : World) (u' : Value) (w' : World) : Prop :=
  OwnF w' base u' R ∧ w.grownBy w' u.ownBlock ∧ Below base w w' ∧ (u'.ownBlock = u.ownBlock ∨ u'.ownBlock = some w.heap.size)
theorem wp_append_files {w : World} {o : Oper} {a : Act} {K : Act → World → Prop} {Q : Exit → Act → World → Prop} (s x : Operand)
    (ho : o.op = .call { callee := .builtin .append, args := #[s, x], argTypes := #[54, 54] }) (base : Nat) (u v : Value) (R M : List Fv) (hs : a.eval s = u) (hst : OwnF w base u R)
    (hx : a.eval x = v) (hM : RdV w v M) (h1 : OneC M) (hlen : R.length + M.length ≤ 2097152) (hbase : base ≤ w.heap.size) (R' : List Fv) (hR : R ++ M = R')
    (h : ∀ u' w', GrewF base u R' w u' w' → K (a.put o.dst u') w') : Oper.wp Try.prog o a w K Q := by
  subst hR
  obtain ⟨u', w', hr, h2, h3, h4⟩ := run_append_files (ty := o.type) hst hM h1 hlen hbase
  unfold Oper.wp execOp
  simp only [ho, resolve, invoke, builtin, Sem.run_bind, Sem.run_pure, Result.andThen_ok, List.map_toArray, List.map_cons, List.map_nil, hs, hx, hr]
  exact h _ _ ⟨h2, h3, (Below.refl _ _).grown h3 hbase fun k hk => (World.ownsRow.lt hst k hk).1, h4⟩
theorem wpList_append_files {w : World} {ops : Array Oper} {rest : List Oper} {o : Oper} {a : Act} {Q : Exit → Act → World → Prop} (hgd : o.guard = none) (s x : Operand)
    (ho : o.op = .call { callee := .builtin .append, args := #[s, x], argTypes := #[54, 54] }) (base : Nat) (u v : Value) (R M : List Fv) (hs : a.eval s = u) (hst : OwnF w base u R)
    (hx : a.eval x = v) (hM : RdV w v M) (h1 : OneC M) (hlen : R.length + M.length ≤ 2097152) (hbase : base ≤ w.heap.size) (R' : List Fv) (hR : R ++ M = R')
    (h : ∀ u' w', GrewF base u R' w u' w' → wpList Try.prog ops Q rest (a.put o.dst u') w') : wpList Try.prog ops Q (o :: rest) a w :=
  wpList_plain hgd fun _ hK => wp_append_files s x ho base u v R M hs hst hx hM h1 hlen hbase R' hR fun v' w' hg => hK _ _ (h v' w' hg)
theorem step_append_files {w : World} {ops : Array Oper} {o : Oper} {a : Act} {K : Act → World → Prop} {Q : Exit → Act → World → Prop} {E : Prop} (hgd : o.guard = none) (s x : Operand)
    (ho : o.op = .call { callee := .builtin .append, args := #[s, x], argTypes := #[54, 54] }) (base : Nat) (u v : Value) (R M : List Fv) (hs : a.eval s = u) (hst : OwnF w base u R)
    (hx : a.eval x = v) (hM : RdV w v M) (h1 : OneC M) (hlen : R.length + M.length ≤ 2097152) (hbase : base ≤ w.heap.size) (R' : List Fv) (hR : R ++ M = R')
    (h : ∀ u' w', GrewF base u R' w u' w' → K (a.put o.dst u') w') : if Region.wanted o (yielded ops a.tmps) = true then Oper.wp Try.prog o a w K Q else E := by
  rw [if_pos (by simp [Region.wanted, hgd])]
  exact wp_append_files s x ho base u v R M hs hst hx hM h1 hlen hbase R' hR h
theorem rdV_one (w : World) (x : Fv) : RdV (w.alloc (.cells #[.string (str x.1.name), x.2, .int .i64 (x.1.stamp : Int)] 58)) (.slice (some ⟨w.heap.size, 0, none⟩) 1 1) [x] := by
  refine ⟨_, 1, rfl, Nat.le_refl _, fun _ => ⟨w.heap.size, 0, rfl, fun j hj => ?_⟩⟩
  have : j = 0 := by simpa using hj
  subst this
  exact ⟨cell_of_row _ _ 0 _ _ _ (heap_alloc_new w _), cell_of_row _ _ 1 _ _ _ (heap_alloc_new w _), cell_of_row _ _ 2 _ _ _ (heap_alloc_new w _)⟩
end Go.Proofs.Ytlfgadcfjjjbfaa
