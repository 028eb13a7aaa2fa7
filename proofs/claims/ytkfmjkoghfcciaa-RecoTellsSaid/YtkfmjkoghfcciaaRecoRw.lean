/- A row of slices of bytes that grows, whatever its slices share; the first row's block stays as it was. -/
import Derived.Test.YtkfmjkoghfcciaaRecoTraceLaw
import Derived.Test.YtkfmjkoghfcciaaPool
import Derived.Maps.AppendAt
namespace Go.Proofs.Ytkfmjkoghfcciaa
set_option maxRecDepth 100000
open Go.ChangeShapes Go.WideShapes Go.ChangeAt Go.RowKit Go.ChangeMaps

/-- Bytes that no row of slices of the call's own holds. -/
def Sh (w : World) (base : Nat) (u : Value) (l : List Nat) : Prop :=
  Bytes w u l ∧ l.length ≤ 5000 ∧ (l ≠ [] → ∀ k, u.ownBlock = some k → k < base ∨ ∃ cs m, w.heap[k]? = some (.cells cs 5 m))
theorem Sh.under {w w' : World} {base : Nat} {u : Value} {l : List Nat} (h : Sh w base u l) (hb : Below w.heap.size w w') : Sh w' base u l := by
  refine ⟨h.1.under hb, h.2.1, fun h0 k hk => ?_⟩
  rcases h.2.2 h0 k hk with h1 | ⟨cs, m, h1⟩
  · exact .inl h1
  · exact .inr ⟨cs, m, (hb.block k (Array.getElem?_eq_some_iff.1 h1).1).trans h1⟩
theorem Sh.kept {w w' : World} {base g : Nat} {u : Value} {l : List Nat} (h : Sh w base u l) (hb : base ≤ g) (ht : ∃ cs m, w.heap[g]? = some (.cells cs 30 m)) (hg : w.grownBy w' (some g)) : Sh w' base u l := by
  obtain ⟨cs, m, ht⟩ := ht
  have hne : l ≠ [] → u.ownBlock ≠ some g := fun h0 e => by
    rcases h.2.2 h0 g e with h1 | ⟨cs', m', h1⟩
    · omega
    · rw [ht] at h1
      injection h1 with h1
      injection h1 with _ h1
      exact absurd h1 (by decide)
  refine ⟨h.1.grown_ hg fun h0 => .inr (hne h0), h.2.1, fun h0 k hk => ?_⟩
  rcases h.2.2 h0 k hk with h1 | ⟨cs', m', h1⟩
  · exact .inl h1
  · refine .inr ⟨cs', m', (hg.block k (Array.getElem?_eq_some_iff.1 h1).1 fun e => hne h0 ?_).trans h1⟩
    rw [hk, e]
theorem Own.sh {w : World} {b base : Nat} {u : Value} {l : List Nat} (h : Own w b u l) (hl : l.length ≤ 5000) : Sh w base u l := by
  refine ⟨h.bytes, hl, fun h0 k hk => ?_⟩
  rcases h.1.2 with ⟨rfl, hn⟩ | ⟨g, cap, cur, rfl, _, hg, _⟩
  · cases hk
  · simp [Value.ownBlock] at hk
    subst hk
    exact .inr ⟨cur, (0, 0), hg⟩
theorem Sh.head {w : World} {base n c k : Nat} {A : Option Addr} {l : List Nat} (h : Sh w base (.slice A n c) l) (hk : k ≤ n) (hc : k ≤ c) : Sh w base (.slice A k c) (l.take k) := by
  refine ⟨h.1.head hk hc, by rw [List.length_take]; have := h.2.1; omega, fun h0 j hj => h.2.2 (fun e => h0 (by rw [e]; simp)) j ((own_block_eq A n c k c).trans hj)⟩
theorem Bytes.sh {w : World} {base : Nat} {u : Value} {l : List Nat} (h : Bytes w u l) (hl : l.length ≤ 5000) (hb : w.heap.size ≤ base) : Sh w base u l :=
  ⟨h, hl, fun h0 k hk => .inl (Nat.lt_of_lt_of_le (h.lt h0 k hk) hb)⟩
/-- Rows of such bytes, in a row of the call's own; if it is the first one it has no room. -/
def Rw (w : World) (base gR : Nat) (v : Value) (n : Nat) : Prop :=
  ∃ (us : List Value) (LL : List (List Nat)) (g cap : Nat), v = .slice (some ⟨g, 0, none⟩) n cap ∧ w.ownsRow base 30 1 v n us ∧ LL.length = n ∧ (g = gR → n = cap) ∧ ∀ i, i < n → Sh w base (us.getD i undef) (LL.getD i [])
theorem ownsRow_typed {w : World} {base n g cap : Nat} {us : List Value} (h : w.ownsRow base 30 1 (.slice (some ⟨g, 0, none⟩) n cap) n us) : base ≤ g ∧ ∃ cs m, w.heap[g]? = some (.cells cs 30 m) := by
  rcases h.2 with ⟨e, _⟩ | ⟨g', cap', cur, e, hb, hg, _⟩
  · cases e
  · injection e with e
    injection e with e
    injection e with e
    subst e
    exact ⟨hb, cur, (0, 0), hg⟩
theorem Rw.under {w w' : World} {base gR n : Nat} {v : Value} (h : Rw w base gR v n) (hb : Below w.heap.size w w') : Rw w' base gR v n := by
  obtain ⟨us, LL, g, cap, rfl, h1, h2, h3, h4⟩ := h
  exact ⟨us, LL, g, cap, rfl, World.ownsRow.kept h1 (row := none) (Below.toGrown hb none) (by simp [Value.ownBlock]), h2, h3, fun i hi => (h4 i hi).under hb⟩
theorem Rw.rows {w : World} {base gR n : Nat} {v : Value} (h : Rw w base gR v n) : ∃ L, Rows2 w v L ∧ L.length = n ∧ ∀ x ∈ L, x.length ≤ 5000 := by
  obtain ⟨us, LL, g, cap, rfl, h1, h2, h3, h4⟩ := h
  rcases h1.2 with ⟨e, _⟩ | ⟨g', cap', cur, e, hb, hg, hn, hm, hs, ht⟩
  · cases e
  · injection e with e e1 e2
    injection e with e
    injection e with e
    subst e e2
    refine ⟨LL, ⟨by unfold maxLen at hm; omega, some ⟨g, 0, none⟩, cap, by rw [h2], by omega, fun h0 => ⟨g, 0, rfl, fun i hi => ⟨us.getD i undef, ?_, (h4 i (by omega)).1⟩⟩⟩, h2, fun x hx => ?_⟩
    · rw [World.ownsRow.cellAt h1 (0 + i) (by omega), Nat.zero_add, List.getD_eq_getElem?_getD, List.getElem?_eq_getElem (by have := h1.1; omega)]
      rfl
    · obtain ⟨i, hi, rfl⟩ := List.mem_iff_getElem.1 hx
      have := (h4 i (by omega)).2.1
      rwa [List.getD_eq_getElem?_getD, List.getElem?_eq_getElem hi] at this
/-- The first row. -/
theorem rw_first (w : World) (base : Nat) (x0 x1 x2 x3 : Value) (l0 l1 l2 l3 : List Nat) (hb : base ≤ w.heap.size) (h0 : Sh w base x0 l0) (h1 : Sh w base x1 l1) (h2 : Sh w base x2 l2) (h3 : Sh w base x3 l3) :
    Rw (w.alloc (.cells #[x0, x1, x2, x3] 30)) base w.heap.size (.slice (some ⟨w.heap.size, 0, none⟩) 4 4) 4 := by
  have hba : Below w.heap.size w (w.alloc (.cells #[x0, x1, x2, x3] 30)) := (Below.refl _ _).alloc (Nat.le_refl _) _
  refine ⟨[x0, x1, x2, x3], [l0, l1, l2, l3], w.heap.size, 4, rfl, ⟨rfl, .inr ⟨w.heap.size, 4, #[x0, x1, x2, x3], rfl, hb, heap_alloc_new w _, Nat.le_refl _, by unfold maxLen; omega, rfl, rfl⟩⟩, rfl, fun _ => rfl, fun i hi => ?_⟩
  have : i = 0 ∨ i = 1 ∨ i = 2 ∨ i = 3 := by omega
  rcases this with rfl | rfl | rfl | rfl
  · exact h0.under hba
  · exact h1.under hba
  · exact h2.under hba
  · exact h3.under hba
/-- Three more. -/
theorem Rw.app {w : World} {base gR n B : Nat} {ty : TypeId} {v x y z : Value} {lx ly lz : List Nat} (h : Rw w base gR v n) (hx : Sh w base x lx) (hy : Sh w base y ly) (hz : Sh w base z lz)
    (hB : ∀ j u, [x, y, z][j]? = some u → w.cell? ⟨B, j, none⟩ = some u) (hn : n ≤ 1000) (hbase : base ≤ w.heap.size) (hR : gR < w.heap.size) :
    ∃ v' w', (Builtin.append_ #[23, 23] ty #[v, .slice (some ⟨B, 0, none⟩) 3 3]).run Try.prog w = .ok v' w' ∧ Rw w' base gR v' (n + 3) ∧ w'.heap[gR]? = w.heap[gR]? ∧ Below base w w' ∧ ∀ u l, Sh w base u l → Sh w' base u l := by
  obtain ⟨i, hi, hz0, hz1, hz2⟩ := info_parts infoBytes
  obtain ⟨us, LL, g, cap, rfl, h1, h2, h3, h4⟩ := h
  obtain ⟨hbg, htyp⟩ := ownsRow_typed h1
  have hone : ∀ u ∈ [x, y, z], u.oneCell' = true := by
    intro u hu
    simp only [List.mem_cons, List.not_mem_nil, or_false] at hu
    rcases hu with rfl | rfl | rfl
    · exact bytes_one_cellN hx.1
    · exact bytes_one_cellN hy.1
    · exact bytes_one_cellN hz.1
  have hnews : ∀ j u, [x, y, z][j]? = some u → w.cell? ((⟨B, 0, none⟩ : Addr).add j) = some u := fun j u hj => by
    rw [add_plain]
    simpa using hB j u hj
  have hus : us.length = n := by have := h1.1; omega
  -- the shares of the grown row
  have shares : ∀ w', (∀ u l, Sh w base u l → Sh w' base u l) → ∀ j, j < n + 3 → Sh w' base ((us ++ [x, y, z]).getD j undef) ((LL ++ [lx, ly, lz]).getD j []) := by
    intro w' hk j hj
    by_cases hjn : j < n
    · rw [List.getD_eq_getElem?_getD, List.getD_eq_getElem?_getD, List.getElem?_append_left (by omega), List.getElem?_append_left (by omega), ← List.getD_eq_getElem?_getD, ← List.getD_eq_getElem?_getD]
      exact hk _ _ (h4 j hjn)
    · rw [List.getD_eq_getElem?_getD, List.getD_eq_getElem?_getD, List.getElem?_append_right (by omega), List.getElem?_append_right (by omega), hus, h2]
      have : j - n = 0 ∨ j - n = 1 ∨ j - n = 2 := by omega
      rcases this with e | e | e <;> rw [e]
      · exact hk _ _ hx
      · exact hk _ _ hy
      · exact hk _ _ hz
  by_cases hgR : g = gR
  · -- the first row has no room: it grows elsewhere
    have hcap := h3 hgR
    subst hgR hcap
    have holds : ∀ j u, us[j]? = some u → w.cell? ((⟨g, 0, none⟩ : Addr).add j) = some u := h1.cells (g := g) rfl
    have hr := run_append_grow (P := Try.prog) w 23 ty 30 i (.slice none 0 0) Try.underlying23 hi hz0 ⟨g, 0, none⟩ n n us (by rw [hz1]; omega) holds ⟨B, 0, none⟩ 3 3 [x, y, z] (by rw [hz1]; rfl) hnews (by omega) (by omega) (growslice_fits (by omega) (by rw [hz2]; omega))
    have hge := grownCap_ge w (n + 3) n 30
    have hcm : grownCap w (n + 3) n 30 ≤ maxLen := grownCap_le_maxLen w (n + 3) n _ (by unfold maxLen; omega)
    have hbel : Below w.heap.size w (w.drew.alloc (.cells (us.toArray ++ #[x, y, z] ++ Builtin.zeroCells (Value.slice none 0 0).cells (grownCap w (n + 3) n 30 - (n + 3))) 30)) := (Below.refl _ _).drew.alloc (Nat.le_refl _) _
    refine ⟨_, _, hr, ⟨us ++ [x, y, z], LL ++ [lx, ly, lz], w.heap.size, _, rfl, ⟨by simp; omega, .inr ⟨w.heap.size, _, _, rfl, hbase, heap_alloc_new w.drew _, hge, hcm, ?_, ?_⟩⟩, by simp; omega, fun e => by omega, shares _ fun u l hu => hu.under hbel⟩, hbel.block g hR, hbel.mono hbase, fun u l hu => hu.under hbel⟩
    · simp only [Array.size_append, List.size_toArray, size_zeroCells]
      have : (Value.slice none 0 0).cells.size = 1 := rfl
      rw [this, hus]
      simp
      omega
    · simp only [Array.toList_append]
      have : (n + 3) * 1 = (us ++ [x, y, z]).length := by simp; omega
      rw [this]
      exact List.take_left
  · obtain ⟨v', w', hr, ho, hg, _, hat⟩ := run_append_own_at (P := Try.prog) w base 23 ty 30 i (.slice none 0 0) 1 24 Try.underlying23 hi hz0 hz1 hz2 rfl (by decide) _ n us h1 ⟨B, 0, none⟩ 3 3 [x, y, z] rfl hnews hone (by unfold maxLen; omega) (by omega) hbase
    have hkeep : ∀ u l, Sh w base u l → Sh w' base u l := fun u l hu => hu.kept hbg htyp hg
    refine ⟨v', w', hr, ?_, hg.block gR hR fun e => hgR (by simp [Value.ownBlock] at e; exact e.symm), (Below.refl _ _).grown hg hbase fun k hk => (World.ownsRow.lt h1 k hk).1, hkeep⟩
    rcases ho.2 with ⟨rfl, h0⟩ | ⟨g', cap', cur', rfl, hb', hg', hrest⟩
    · omega
    · refine ⟨us ++ [x, y, z], LL ++ [lx, ly, lz], g', cap', rfl, ⟨ho.1, .inr ⟨g', cap', cur', rfl, hb', hg', hrest⟩⟩, by simp; omega, fun e => ?_, shares w' hkeep⟩
      exfalso
      simp only [Value.ownBlock, Option.some.injEq] at hat
      rcases hat with e' | e'
      · exact hgR (by omega)
      · omega
theorem wp_append_three {w : World} {o : Oper} {a : Act} {K : Act → World → Prop} {Q : Exit → Act → World → Prop} (s t : Operand)
    (ho : o.op = .call { callee := .builtin .append, args := #[s, t], argTypes := #[23, 23] }) {base gR n B : Nat} {v x y z : Value} {lx ly lz : List Nat} (hs : a.eval s = v) (h : Rw w base gR v n)
    (ht : a.eval t = .slice (some ⟨B, 0, none⟩) 3 3) (hx : Sh w base x lx) (hy : Sh w base y ly) (hz : Sh w base z lz) (hB : ∀ j u, [x, y, z][j]? = some u → w.cell? ⟨B, j, none⟩ = some u) (hn : n ≤ 1000) (hbase : base ≤ w.heap.size) (hR : gR < w.heap.size)
    (hK : ∀ v' w', Rw w' base gR v' (n + 3) → w'.heap[gR]? = w.heap[gR]? → Below base w w' → (∀ u l, Sh w base u l → Sh w' base u l) → K (a.put o.dst v') w') : Oper.wp Try.prog o a w K Q := by
  obtain ⟨v', w', hr, h2, h3, h4, h5⟩ := Rw.app (ty := o.type) h hx hy hz hB hn hbase hR
  unfold Oper.wp execOp
  simp only [ho, resolve, invoke, builtin, Sem.run_bind, Sem.run_pure, Result.andThen_ok, List.map_toArray, List.map_cons, List.map_nil, hs, ht, hr]
  exact hK _ _ h2 h3 h4 h5
end Go.Proofs.Ytkfmjkoghfcciaa
