/- What a slice of bytes is; what the call owns; append of bytes onto bytes; bytes and strings. -/
import Derived.Test.YtemliglhippdcaaKit
import Derived.Maps.AppendAt
import Derived.Deep.AppendLies
import Derived.OwnWalk
import Derived.RegionTactic
import Derived.WalkSpells
import Derived.WalkLawsBesides
import Derived.Lib.Hide
import Derived.Lib.SlBytesConst
namespace Go.Proofs.Ytemliglhippdcaa
set_option maxRecDepth 100000
open Go.ChangeShapes Go.WideShapes Go.ChangeAt Go.RowKit

/-- A slice of bytes that reads as a list: nil, empty, or a row of cells. -/
def Bytes (w : World) (v : Value) (l : List Nat) : Prop :=
  (∀ c ∈ l, c < 256) ∧ l.length ≤ 9223372036854775807 ∧ ((l = [] ∧ ∃ A c, v = .slice A 0 c) ∨
    ∃ b off c, v = .slice (some ⟨b, off, none⟩) l.length c ∧ l.length ≤ c ∧ ∀ i, i < l.length → w.cell? ⟨b, off + i, none⟩ = some (.int .u8 ((l.getD i 0 : Nat) : Int)))

theorem Bytes.parts {w : World} {v : Value} {l : List Nat} (h : Bytes w v l) : (∀ c ∈ l, c < 256) ∧ l.length ≤ 9223372036854775807 ∧
    ∃ A c, v = .slice A l.length c ∧ l.length ≤ c ∧ (0 < l.length → ∃ b off, A = some ⟨b, off, none⟩ ∧ ∀ i, i < l.length → w.cell? ⟨b, off + i, none⟩ = some (.int .u8 ((l.getD i 0 : Nat) : Int))) := by
  obtain ⟨h1, h2, ⟨rfl, A, c, rfl⟩ | ⟨b, off, c, rfl, hc, hcell⟩⟩ := h
  · exact ⟨h1, h2, A, c, rfl, Nat.zero_le _, fun h => absurd h (by simp)⟩
  · exact ⟨h1, h2, some ⟨b, off, none⟩, c, rfl, hc, fun _ => ⟨b, off, rfl, hcell⟩⟩
theorem Bytes.of {w : World} {l : List Nat} {n : Nat} {A : Option Addr} {c : Nat} (h1 : ∀ c ∈ l, c < 256) (hn : l.length = n) (hm : n ≤ 9223372036854775807) (hc : n ≤ c)
    (h : 0 < n → ∃ b off, A = some ⟨b, off, none⟩ ∧ ∀ i, i < n → w.cell? ⟨b, off + i, none⟩ = some (.int .u8 ((l.getD i 0 : Nat) : Int))) : Bytes w (.slice A n c) l := by
  subst hn
  rcases Nat.eq_zero_or_pos l.length with h0 | h0
  · have : l = [] := List.eq_nil_of_length_eq_zero h0
    subst this
    exact ⟨h1, hm, .inl ⟨rfl, A, c, rfl⟩⟩
  · obtain ⟨b, off, rfl, hcell⟩ := h h0
    exact ⟨h1, hm, .inr ⟨b, off, c, rfl, hc, hcell⟩⟩

theorem u8_lt {l : List Nat} (h : ∀ c ∈ l, c < 256) (i : Nat) : l.getD i 0 < 256 := by
  rw [List.getD_eq_getElem?_getD]
  by_cases hi : i < l.length
  · rw [List.getElem?_eq_getElem hi]; exact h _ (List.getElem_mem hi)
  · rw [List.getElem?_eq_none (by omega)]; decide

theorem take_snoc (l : List Nat) (k : Nat) (h : k < l.length) : l.take (k + 1) = l.take k ++ [l.getD k 0] := by
  rw [List.take_succ_eq_append_getElem h, List.getD_eq_getElem?_getD, List.getElem?_eq_getElem h]; rfl
theorem getD_hid {w : World} {l : List Nat} {b off k n : Nat} (hb : ∀ c ∈ l, c < 256) (hc : ∀ i, i < n → w.cell? ⟨b, off + i, none⟩ = some (.int .u8 ((l.getD i 0 : Nat) : Int))) (h : k < n) :
    ∃ x : Nat, x < 256 ∧ Hid (l.getD k 0 = x) ∧ w.cell? ⟨b, off + k, none⟩ = some (.int .u8 (x : Int)) :=
  ⟨_, u8_lt hb k, rfl, hc k h⟩
theorem bytes_none (w : World) : Bytes w (.slice none 0 0) [] := ⟨by simp, by simp, .inl ⟨rfl, none, 0, rfl⟩⟩

/-- A row of bytes that has just been laid. -/
theorem bytes_new (w : World) (g : Nat) (hg : g = w.heap.size) (l : List Nat) (e : TypeId) (m : Nat × Nat) (hl : ∀ c ∈ l, c < 256) (hm : l.length ≤ 9223372036854775807) :
    Bytes (w.alloc (.cells (l.map fun n : Nat => Value.int .u8 (n : Int)).toArray e m)) (.slice (some ⟨g, 0, none⟩) l.length l.length) l := by
  subst hg
  refine ⟨hl, hm, .inr ⟨w.heap.size, 0, l.length, rfl, Nat.le_refl _, fun i hi => ?_⟩⟩
  have e1 : (w.alloc (.cells (l.map fun n : Nat => Value.int .u8 (n : Int)).toArray e m)).heap[w.heap.size]? = some (.cells (l.map fun n : Nat => Value.int .u8 (n : Int)).toArray e m) := heap_alloc_new w _
  unfold World.cell?
  rw [show 0 + i = i from by omega, e1]
  simp [hi]
theorem convert_second {P : Program} (w : World) (O : Obj) (t e : TypeId) (C : Array Value) (n c : Nat) (ht : P.underlying t = some (.slice e)) (he : P.underlying e = some (.int .u8)) :
    (convert t t (.slice (some ⟨w.heap.size + 1, 0, none⟩) n c)).run P ((w.alloc O).alloc (.cells C e)) = .ok (.slice (some ⟨w.heap.size + 1, 0, none⟩) n c) ((w.alloc O).alloc (.cells C e (C.size, C.size + 1))) := by
  have := Lib.run_convert_bytes_const (P := P) (w.alloc O) t e C n c ht he
  simpa using this

/-- Bytes as cells. -/
def row8 (l : List Nat) : List Value := l.map fun n : Nat => Value.int .u8 (n : Int)
theorem row8_at {l : List Nat} {j : Nat} {u : Value} (h : (row8 l)[j]? = some u) : j < l.length ∧ u = .int .u8 ((l.getD j 0 : Nat) : Int) := by
  unfold row8 at h
  rw [List.getElem?_map] at h
  by_cases hj : j < l.length
  · rw [List.getElem?_eq_getElem hj] at h
    refine ⟨hj, ?_⟩
    rw [List.getD_eq_getElem?_getD, List.getElem?_eq_getElem hj]
    simpa using h.symm
  · rw [List.getElem?_eq_none (by omega)] at h
    cases h
theorem row8_set (l : List Nat) (q x : Nat) : row8 (l.set q x) = (row8 l).set q (.int .u8 (x : Int)) := by
  unfold row8
  exact List.map_set
theorem getD_set (l : List Nat) (i k x : Nat) : (l.set i x).getD k 0 = if i = k ∧ i < l.length then x else l.getD k 0 := by
  simp only [List.getD_eq_getElem?_getD, List.getElem?_set]
  by_cases h : i = k
  · subst h
    by_cases hi : i < l.length
    · simp [hi]
    · simp [hi]
  · simp [h]
theorem Bytes.keep {w w' : World} {v : Value} {l : List Nat} (h : Bytes w v l) (hk : ∀ p : Addr, v.ownBlock = some p.block → w'.cell? p = w.cell? p) : Bytes w' v l := by
  obtain ⟨h1, h2, h3 | ⟨b, off, c, rfl, hc, hcell⟩⟩ := h
  · exact ⟨h1, h2, .inl h3⟩
  · exact ⟨h1, h2, .inr ⟨b, off, c, rfl, hc, fun i hi => (hk ⟨b, off + i, none⟩ rfl).trans (hcell i hi)⟩⟩
theorem infoU8 : (Try.prog.info? 5).map (fun i => (i.zero, i.size, i.bytes)) = some (some (.int .u8 0), 1, 1) := by kernel_rfl

/-- A slice of bytes among the arguments. -/
theorem open_bytes {H : Type} {enc : TypeId × Value → H} {W : World} {base : Nat} {v : Value} {d : DataW H} {p : List MemPlace} (hv : Value.okWide Try.prog W .any base 31 v)
    (h : DataW.Trod enc Try.prog W 0 (fun _ => true) true 31 v d p) : ∃ l, Bytes W v l := by
  obtain ⟨a0, len, cap, rfl⟩ := okWide_slice Try.underlying31 hv
  obtain ⟨fuel, hf⟩ := h
  rcases open_ints Try.underlying31 Try.underlying5 (by kernel_rfl) hf with ⟨hcs, _⟩ | ⟨a, len', cap', zs, hcs, _, hl, hm, hz, _, hcell, hw⟩
  · simp [Value.cells] at hcs
    obtain ⟨rfl, rfl, rfl⟩ := hcs
    exact ⟨[], bytes_none W⟩
  · simp [Value.cells] at hcs
    obtain ⟨rfl, rfl, rfl⟩ := hcs
    simp only [if_true] at hz
    have hwf : ∀ n ∈ zs, 0 ≤ n ∧ n < 256 := fun n hn => by
      have := hw n hn
      simp [Lit.wf, IntKind.min, IntKind.max, IntKind.signed, IntKind.bits] at this
      omega
    unfold maxLen at hm
    refine ⟨(zs.take len).map Int.toNat, Bytes.of (fun c hc => ?_) (by simp; omega) (by omega) hl fun h0 => ?_⟩
    · obtain ⟨n, hn, rfl⟩ := List.mem_map.1 hc
      have := hwf n (List.mem_of_mem_take hn)
      omega
    · obtain ⟨b, off, rfl, hc⟩ := ints_at hcell (by omega)
      refine ⟨b, off, rfl, fun i hi => ?_⟩
      rw [hc i (by omega)]
      have hi' : i < zs.length := by omega
      have := hwf _ (List.getElem_mem hi')
      simp [hi, hi']
      omega

theorem Bytes.lt {w : World} {v : Value} {l : List Nat} (h : Bytes w v l) (h0 : l ≠ []) : ∀ k, v.ownBlock = some k → k < w.heap.size := by
  obtain ⟨_, _, ⟨rfl, _⟩ | ⟨b, off, c, rfl, _, hc⟩⟩ := h
  · exact absurd rfl h0
  · intro k hk
    simp [Value.ownBlock] at hk
    subst hk
    exact World.block_lt_of_cell? w _ (hc 0 (by cases l <;> simp at h0 ⊢))
theorem Bytes.same {w w' : World} {v : Value} {l : List Nat} (h : Bytes w v l) (hk : ∀ k, k < w.heap.size → v.ownBlock = some k → w'.heap[k]? = w.heap[k]?) : Bytes w' v l := by
  obtain ⟨h1, h2, ⟨rfl, A, c, rfl⟩ | ⟨b, off, c, rfl, h3, hc⟩⟩ := h
  · exact ⟨h1, h2, .inl ⟨rfl, A, c, rfl⟩⟩
  · refine ⟨h1, h2, .inr ⟨b, off, c, rfl, h3, fun i hi => ?_⟩⟩
    have := hc i hi
    exact (World.cell?_of_block (hk b (World.block_lt_of_cell? w _ this) rfl)).trans this
theorem Bytes.grown {w w' : World} {row : Option Nat} {v : Value} {l : List Nat} (h : Bytes w v l) (hg : w.grownBy w' row) (hne : v.ownBlock = none ∨ v.ownBlock ≠ row) : Bytes w' v l :=
  h.same fun k hk e => hg.block k hk (by rw [e] at hne; simpa using hne)
theorem Bytes.below {w w' : World} {B : Nat} {v : Value} {l : List Nat} (h : Bytes w v l) (hb : Below B w w') (hB : ∀ k, v.ownBlock = some k → k < w.heap.size → k < B) : Bytes w' v l :=
  h.same fun k hk e => hb.block k (hB k e hk)
theorem Bytes.under {w w' : World} {v : Value} {l : List Nat} (h : Bytes w v l) (hb : Below w.heap.size w w') : Bytes w' v l :=
  h.below hb fun _ _ h => h
theorem Bytes.alloc {w : World} {v : Value} {l : List Nat} (h : Bytes w v l) (o : Obj) : Bytes (w.alloc o) v l :=
  h.same fun k hk _ => Below.heap_alloc w o k hk
theorem Bytes.drew {w : World} {v : Value} {l : List Nat} (h : Bytes w v l) : Bytes w.drew v l := h
theorem Bytes.setCell {w : World} {v : Value} {l : List Nat} (h : Bytes w v l) {p : Addr} (hp : v.ownBlock ≠ some p.block) (u : Value) : Bytes (w.setCell p u) v l :=
  h.same fun k _ e => Below.heap_setCell w p u k fun e' => hp (by rw [e, e'])

/-- One byte, laid. -/
theorem bytes_one (w : World) (x : Int) (b : Nat) (e : TypeId) (m : Nat × Nat) (h : x = (b : Int)) (hb : b < 256) : Bytes (w.alloc (.cells #[.int .u8 x] e m)) (.slice (some ⟨w.heap.size, 0, none⟩) 1 1) [b] := by
  subst h
  exact bytes_new w _ rfl [b] e m (by simpa using hb) (by simp)

/-- A row of bytes of the call's own. -/
def Own (w : World) (base : Nat) (v : Value) (l : List Nat) : Prop := w.ownsRow base 5 1 v l.length (row8 l) ∧ ∀ c ∈ l, c < 256

theorem Own.bytes {w : World} {base : Nat} {v : Value} {l : List Nat} (h : Own w base v l) : Bytes w v l := by
  obtain ⟨h, hl⟩ := h
  rcases h.2 with ⟨rfl, h0⟩ | ⟨g, cap, cur, rfl, hb, hg, hn, hm, hs, ht⟩
  · have : l = [] := List.eq_nil_of_length_eq_zero h0
    subst this
    exact bytes_none w
  · unfold maxLen at hm
    refine Bytes.of hl rfl (by omega) hn fun _ => ⟨g, 0, rfl, fun i hi => ?_⟩
    rw [show 0 + i = i from by omega, h.cellAt i (by omega)]
    unfold row8
    rw [List.getElem?_map, List.getD_eq_getElem?_getD, List.getElem?_eq_getElem (by omega)]
    rfl
theorem Own.lt {w : World} {base : Nat} {v : Value} {l : List Nat} (h : Own w base v l) : ∀ k, v.ownBlock = some k → base ≤ k ∧ k < w.heap.size := h.1.lt
theorem Own.grown {w w' : World} {row : Option Nat} {base : Nat} {v : Value} {l : List Nat} (h : Own w base v l) (hg : w.grownBy w' row) (hne : v.ownBlock = none ∨ v.ownBlock ≠ row) : Own w' base v l :=
  ⟨h.1.kept hg hne, h.2⟩
theorem Own.alloc {w : World} {base : Nat} {v : Value} {l : List Nat} (h : Own w base v l) (o : Obj) : Own (w.alloc o) base v l := ⟨h.1.alloc o, h.2⟩
theorem Own.under {w w' : World} {base : Nat} {v : Value} {l : List Nat} (h : Own w base v l) (hb : Below w.heap.size w w') : Own w' base v l :=
  ⟨h.1.kept (row := none) ⟨hb.os, hb.tape, hb.output, hb.size, fun i hi _ => hb.block i hi⟩ (by cases hv : v.ownBlock <;> simp), h.2⟩
theorem Own.more {w : World} {base base' : Nat} {v : Value} {l : List Nat} (h : Own w base v l) (hb : base' ≤ base) : Own w base' v l := by
  obtain ⟨⟨h1, h2⟩, h3⟩ := h
  refine ⟨⟨h1, ?_⟩, h3⟩
  rcases h2 with h2 | ⟨g, cap, cur, e, hg, rest⟩
  · exact .inl h2
  · exact .inr ⟨g, cap, cur, e, Nat.le_trans hb hg, rest⟩
theorem own_none (w : World) (base : Nat) : Own w base (.slice none 0 0) [] := ⟨World.ownsRow_nil w base _ 1, by simp⟩
/-- An empty row with room. -/
theorem own_empty (w : World) (base cap : Nat) (cur : Array Value) (hb : base ≤ w.heap.size) (hm : cap ≤ maxLen) (hs : cur.size = cap) : Own (w.alloc (.cells cur 5)) base (.slice (some ⟨w.heap.size, 0, none⟩) 0 cap) [] :=
  ⟨World.ownsRow_made w cur cap hb hm (by omega), by simp⟩

theorem row8_one {l : List Nat} : ∀ u ∈ row8 l, u.oneCell' = true := by
  intro u hu
  obtain ⟨n, _, rfl⟩ := List.mem_map.1 hu
  rfl
theorem run_append_none {P : Program} {w : World} {base n c : Nat} {t ty e : TypeId} {i : TypeInfo} {size : Nat} {v : Value} {xs : List Value} (ht : P.underlying t = some (.slice e)) (hi : P.info? e = some i)
    (h : w.ownsRow base e size v n xs) : (Builtin.append_ #[t, t] ty #[v, .slice none 0 c]).run P w = .ok v w := by
  rcases h.2 with ⟨rfl, rfl⟩ | ⟨g, cap, cur, rfl, _, _, hn, _⟩ <;> simp [Builtin.append_, run_underlying ht, sizeOf, typeInfo, Builtin.lenOf, Builtin.firstCells, storeCells, *]

theorem run_append_bytes {w : World} {base : Nat} {ty : TypeId} {v vx : Value} {l m : List Nat} (hown : Own w base v l) (hx : Bytes w vx m) (hlen : l.length + m.length ≤ 70368744177664) (hbase : base ≤ w.heap.size) :
    ∃ v' w', (Builtin.append_ #[31, 31] ty #[v, vx]).run Try.prog w = .ok v' w' ∧ Own w' base v' (l ++ m) ∧ w.grownBy w' v.ownBlock ∧ (v'.ownBlock = v.ownBlock ∨ v'.ownBlock = some w.heap.size) := by
  obtain ⟨i, hi, hz0, hz1, hz2⟩ := info_parts infoU8
  have hall : ∀ c ∈ l ++ m, c < 256 := fun c hc => (List.mem_append.1 hc).elim (hown.2 c) (hx.1 c)
  have hrow : row8 (l ++ m) = row8 l ++ row8 m := List.map_append
  obtain ⟨h1, h2, A, c, rfl, hc, h0⟩ := hx.parts
  have hc3 : ∀ (ad : Addr), A = some ad → ∃ v' w', (Builtin.append_ #[31, 31] ty #[v, .slice (some ad) m.length c]).run Try.prog w = .ok v' w' ∧ Own w' base v' (l ++ m) ∧ w.grownBy w' v.ownBlock ∧ (v'.ownBlock = v.ownBlock ∨ v'.ownBlock = some w.heap.size) := by
    rintro ad rfl
    obtain ⟨v', w', hr, ho, hg, _, hat⟩ := run_append_own_at (P := Try.prog) w base 31 ty 5 i (.int .u8 0) 1 1 Try.underlying31 hi hz0 hz1 hz2 rfl (by decide) v l.length (row8 l) hown.1 ad m.length c (row8 m) (by simp [row8])
      (fun j u hu => by
        obtain ⟨hj, rfl⟩ := row8_at hu
        obtain ⟨b, off, e, hcell⟩ := h0 (by omega)
        injection e with e
        subst e
        rw [add_plain]
        exact hcell j hj) row8_one (by unfold maxLen; omega) (by omega) hbase
    exact ⟨v', w', hr, ⟨by rw [hrow, List.length_append]; exact ho, hall⟩, hg, hat⟩
  rcases A with _ | ad
  · rcases Nat.eq_zero_or_pos m.length with hz | hz
    · have : m = [] := List.eq_nil_of_length_eq_zero hz
      subst this
      refine ⟨v, w, run_append_none Try.underlying31 hi hown.1, by simpa using hown, World.grownBy.refl w _, .inl rfl⟩
    · obtain ⟨b, off, e, _⟩ := h0 hz
      cases e
  · exact hc3 ad rfl

/-- What an append leaves: the row of the call's own with more behind it; nothing else that was there is turned. -/
def Grew (base : Nat) (v : Value) (l : List Nat) (w : World) (v' : Value) (w' : World) : Prop := Own w' base v' l ∧ w.grownBy w' v.ownBlock ∧ (v'.ownBlock = v.ownBlock ∨ v'.ownBlock = some w.heap.size) ∧ Below base w w'
theorem wp_append_bytes {w : World} {o : Oper} {a : Act} {K : Act → World → Prop} {Q : Exit → Act → World → Prop} (s x : Operand)
    (ho : o.op = .call { callee := .builtin .append, args := #[s, x], argTypes := #[31, 31] }) (base : Nat) (v vx : Value) (l m : List Nat) (hs : a.eval s = v) (hown : Own w base v l) (hx : a.eval x = vx) (hb : Bytes w vx m)
    (hlen : l.length + m.length ≤ 70368744177664) (hbase : base ≤ w.heap.size) (r : List Nat) (hr : l ++ m = r)
    (h : ∀ v' w', Grew base v r w v' w' → K (a.put o.dst v') w') : o.wp Try.prog a w K Q := by
  subst hr
  obtain ⟨v', w', hr, h2, h3, h4⟩ := run_append_bytes (ty := o.type) hown hb hlen hbase
  unfold Oper.wp execOp
  simp only [ho, resolve, invoke, builtin, Sem.run_bind, Sem.run_pure, Result.andThen_ok, List.map_toArray, List.map_cons, List.map_nil, hs, hx, hr]
  exact h v' w' ⟨h2, h3, h4, (Below.refl _ _).grown h3 hbase fun k hk => (hown.lt k hk).1⟩
theorem wpList_append_bytes {w : World} {ops : Array Oper} {rest : List Oper} {o : Oper} {a : Act} {Q : Exit → Act → World → Prop} (hgd : o.guard = none) (s x : Operand)
    (ho : o.op = .call { callee := .builtin .append, args := #[s, x], argTypes := #[31, 31] }) (base : Nat) (v vx : Value) (l m : List Nat) (hs : a.eval s = v) (hown : Own w base v l) (hx : a.eval x = vx) (hb : Bytes w vx m)
    (hlen : l.length + m.length ≤ 70368744177664) (hbase : base ≤ w.heap.size) (r : List Nat) (hr : l ++ m = r)
    (h : ∀ v' w', Grew base v r w v' w' → wpList Try.prog ops Q rest (a.put o.dst v') w') : wpList Try.prog ops Q (o :: rest) a w :=
  wpList_plain hgd fun _ hK => wp_append_bytes s x ho base v vx l m hs hown hx hb hlen hbase r hr fun v' w' hg => hK _ _ (h v' w' hg)
theorem step_append_bytes {w : World} {ops : Array Oper} {o : Oper} {a : Act} {K : Act → World → Prop} {Q : Exit → Act → World → Prop} {E : Prop} (hgd : o.guard = none) (s x : Operand)
    (ho : o.op = .call { callee := .builtin .append, args := #[s, x], argTypes := #[31, 31] }) (base : Nat) (v vx : Value) (l m : List Nat) (hs : a.eval s = v) (hown : Own w base v l) (hx : a.eval x = vx) (hb : Bytes w vx m)
    (hlen : l.length + m.length ≤ 70368744177664) (hbase : base ≤ w.heap.size) (r : List Nat) (hr : l ++ m = r)
    (h : ∀ v' w', Grew base v r w v' w' → K (a.put o.dst v') w') : if Region.wanted o (yielded ops a.tmps) = true then Oper.wp Try.prog o a w K Q else E := by
  rw [if_pos (by simp [Region.wanted, hgd])]
  exact wp_append_bytes s x ho base v vx l m hs hown hx hb hlen hbase r hr h

/-- A call that answers bytes of its own. -/
def Made (base : Nat) (l : List Nat) (w : World) (e : Ending) (w' : World) : Prop := ∃ v, e = .returned v ∧ Own w' base v l ∧ Below base w w'

/-- A block of cells, known whole. -/
def Blk (w : World) (g : Nat) (t : TypeId) (cs : Array Value) : Prop := w.heap[g]? = some (.cells cs t (0, 0))
theorem Blk.size {w : World} {g : Nat} {t : TypeId} {cs : Array Value} (h : Blk w g t cs) : g < w.heap.size := (Array.getElem?_eq_some_iff.1 h).1
theorem Blk.at {w : World} {g : Nat} {t : TypeId} {cs : Array Value} (h : Blk w g t cs) (i : Nat) : w.cell? ⟨g, i, none⟩ = cs[i]? := cell_of_row w g i cs t (0, 0) h
theorem Blk.free {w : World} {g : Nat} {t : TypeId} {cs : Array Value} (h : Blk w g t cs) (i : Nat) : w.frozen? ⟨g, i, none⟩ = false := by
  unfold Blk at h
  simp [World.frozen?, h]
theorem Blk.set {w : World} {g : Nat} {t : TypeId} {cs : Array Value} (h : Blk w g t cs) (i : Nat) (u : Value) : Blk (w.setCell ⟨g, i, none⟩ u) g t (cs.setIfInBounds i u) := by
  unfold Blk at *
  simp [World.setCell, Array.getElem?_modify, h]
theorem Blk.grown {w w' : World} {g : Nat} {t : TypeId} {cs : Array Value} {row : Option Nat} (h : Blk w g t cs) (hg : w.grownBy w' row) (hne : some g ≠ row) : Blk w' g t cs := (hg.block g h.size hne).trans h
theorem Blk.below {w w' : World} {g B : Nat} {t : TypeId} {cs : Array Value} (h : Blk w g t cs) (hb : Below B w w') (hlt : g < B) : Blk w' g t cs := (hb.block g hlt).trans h
theorem Blk.under {w w' : World} {g : Nat} {t : TypeId} {cs : Array Value} (h : Blk w g t cs) (hb : Below w.heap.size w w') : Blk w' g t cs := (hb.block g h.size).trans h
theorem Blk.alloc {w : World} {g : Nat} {t : TypeId} {cs : Array Value} (h : Blk w g t cs) (o : Obj) : Blk (w.alloc o) g t cs := (Below.heap_alloc w o g h.size).trans h
theorem Blk.setOther {w : World} {g : Nat} {t : TypeId} {cs : Array Value} (h : Blk w g t cs) {p : Addr} (hp : g ≠ p.block) (u : Value) : Blk (w.setCell p u) g t cs := (Below.heap_setCell w p u g hp).trans h
theorem grown_setCell (w : World) (p : Addr) (u : Value) : w.grownBy (w.setCell p u) (some p.block) :=
  ⟨rfl, rfl, rfl, Nat.le_of_eq (by simp), fun k _ hk => Below.heap_setCell w p u k fun e => hk (by rw [e])⟩
theorem own_block_eq (A : Option Addr) (n c n' c' : Nat) : (Value.slice A n c).ownBlock = (Value.slice A n' c').ownBlock := by cases A <;> rfl
theorem own_block_add (A : Option Addr) (k n c n' c' : Nat) : (Value.slice (A.map fun x => x.add k) n c).ownBlock = (Value.slice A n' c').ownBlock := by
  rcases A with _ | a
  · rfl
  · simp only [Option.map_some, Value.ownBlock]
    unfold Addr.add
    split <;> rfl
/-- Where a value's block lies. -/
def Between (lo hi : Nat) (v : Value) : Prop := ∀ k, v.ownBlock = some k → lo ≤ k ∧ k < hi
theorem Between.eq {lo hi n c n' c' : Nat} {A : Option Addr} (h : Between lo hi (.slice A n c)) : Between lo hi (.slice A n' c') := fun k hk => h k ((own_block_eq A n c n' c').trans hk)
theorem Between.add {lo hi n c k n' c' : Nat} {A : Option Addr} (h : Between lo hi (.slice A n c)) : Between lo hi (.slice (A.map fun x => x.add k) n' c') := fun j hj => h j ((own_block_add A k n' c' n c).symm.trans hj)
theorem Between.add' {lo hi n c k n' c' b off : Nat} (h : Between lo hi (.slice (some ⟨b, off, none⟩) n c)) : Between lo hi (.slice (some ⟨b, off + k, none⟩) n' c') := h
theorem Between.ne {lo hi g : Nat} {v : Value} (h : Between lo hi v) (hg : ¬ (lo ≤ g ∧ g < hi)) : v.ownBlock ≠ some g := fun e => hg (h g e)
theorem Own.between {w : World} {base : Nat} {v : Value} {l : List Nat} (h : Own w base v l) : Between base w.heap.size v := h.lt
theorem Bytes.between {w : World} {v : Value} {l : List Nat} (h : Bytes w v l) (h0 : l ≠ []) : Between 0 w.heap.size v := fun k hk => ⟨Nat.zero_le _, h.lt h0 k hk⟩
theorem Below.toGrown {w w' : World} (h : Below w.heap.size w w') (row : Option Nat) : w.grownBy w' row := ⟨h.os, h.tape, h.output, h.size, fun k hk _ => h.block k hk⟩
/-- What was made below a world's end, or in one block of it. -/
theorem Below.ofGrown {w w' : World} {g B : Nat} (h : w.grownBy w' (some g)) (hg : B ≤ g) (hB : B ≤ w.heap.size) : Below B w w' :=
  ⟨h.os, h.tape, h.output, h.size, fun k hk => h.block k (by omega) (by simp; omega)⟩

theorem Bytes.len {w : World} {A : Option Addr} {n c : Nat} {l : List Nat} (h : Bytes w (.slice A n c) l) : l.length = n := by
  obtain ⟨_, _, B, d, e, _⟩ := h.parts
  injection e with _ e
  exact e.symm
theorem Bytes.head {w : World} {A : Option Addr} {n c k : Nat} {l : List Nat} (h : Bytes w (.slice A n c) l) (hk : k ≤ n) (hc : k ≤ c) : Bytes w (.slice A k c) (l.take k) := by
  have hn := h.len
  obtain ⟨h1, h2, B, d, e, _, hx⟩ := h.parts
  injection e with e1 e2 e3
  subst e1
  refine Bytes.of (fun c hc => h1 c (List.mem_of_mem_take hc)) (by rw [List.length_take]; omega) (by omega) hc fun h0 => ?_
  obtain ⟨b, off, rfl, hcell⟩ := hx (by omega)
  refine ⟨b, off, rfl, fun i hi => ?_⟩
  rw [hcell i (by omega), List.getD_eq_getElem?_getD, List.getD_eq_getElem?_getD, List.getElem?_take, if_pos hi]
theorem Bytes.tail {w : World} {A A' : Option Addr} {n c k d : Nat} {l : List Nat} (h : Bytes w (.slice A n c) l) (hk : k ≤ n) (hd : n - k ≤ d) (hA : k < n → ∀ b off, A = some ⟨b, off, none⟩ → A' = some ⟨b, off + k, none⟩) :
    Bytes w (.slice A' (n - k) d) (l.drop k) := by
  have hn := h.len
  obtain ⟨h1, h2, B, d', e, _, hx⟩ := h.parts
  injection e with e1 e2 e3
  subst e1
  refine Bytes.of (fun c hc => h1 c (List.mem_of_mem_drop hc)) (by rw [List.length_drop]; omega) (by omega) (by omega) fun h0 => ?_
  obtain ⟨b, off, rfl, hcell⟩ := hx (by omega)
  refine ⟨b, off + k, hA (by omega) b off rfl, fun i hi => ?_⟩
  rw [show off + k + i = off + (k + i) from by omega, hcell (k + i) (by omega), List.getD_eq_getElem?_getD, List.getD_eq_getElem?_getD, List.getElem?_drop]
theorem or8 (a x : Nat) (ha : a < 281474976710656) (hx : x < 256) : bits .or .i64 ((a : Int) * 256) (x : Int) = ((a * 256 + x : Nat) : Int) := by
  have h : bits .or .i64 ((a : Int) * 256) (x : Int) = IntKind.i64.wrap ((BitVec.ofInt 64 ((a : Int) * 256) ||| BitVec.ofInt 64 (x : Int)).toNat : Int) := rfl
  have h1 : BitVec.ofInt 64 ((a : Int) * 256) = BitVec.ofNat 64 (a * 256) := by
    rw [← BitVec.ofInt_natCast]
    rfl
  have hv : (BitVec.ofInt 64 ((a : Int) * 256) ||| BitVec.ofInt 64 (x : Int)).toNat = a * 256 + x := by
    rw [h1, BitVec.ofInt_natCast, BitVec.toNat_or, BitVec.toNat_ofNat, BitVec.toNat_ofNat, Nat.mod_eq_of_lt (by omega), Nat.mod_eq_of_lt (by omega)]
    have := Nat.two_pow_add_eq_or_of_lt (i := 8) (b := x) (by omega) a
    rw [Nat.mul_comm a 256]
    exact this.symm
  rw [h, hv, IntKind.wrap_i64]
  omega

/-- The string's bytes, laid as a row. -/
theorem bytes_of_string (w : World) (s : ByteArray) (e : TypeId) (cap : Nat) (hc : s.size ≤ cap) (hs : s.size ≤ 9223372036854775807) (m : Nat × Nat) :
    Bytes (w.alloc (.cells (bytesRow s cap) e m)) (.slice (some ⟨w.heap.size, 0, none⟩) s.size cap) (s.data.toList.map (·.toNat)) := by
  refine ⟨fun c hc => ?_, by simpa using hs, .inr ⟨w.heap.size, 0, cap, by simp, by simpa using hc, fun i hi => ?_⟩⟩
  · obtain ⟨b, _, rfl⟩ := List.mem_map.1 hc
    exact UInt8.toNat_lt b
  · have hi' : i < s.size := by simpa using hi
    have e1 : (w.alloc (.cells (bytesRow s cap) e m)).heap[w.heap.size]? = some (.cells (bytesRow s cap) e m) := heap_alloc_new w _
    have hd : i < s.data.size := hi'
    have e2 : (bytesRow s cap)[i]? = some (.int .u8 ((s.data[i].toNat : Nat) : Int)) := by
      unfold bytesRow
      rw [Array.getElem?_append_left (by rw [Array.size_map]; exact hd), Array.getElem?_map, Array.getElem?_eq_getElem hd]
      rfl
    unfold World.cell?
    rw [show 0 + i = i from by omega, e1]
    refine e2.trans ?_
    simp [Array.getElem?_eq_getElem hd]

theorem bytes_of_text (w : World) (s : ByteArray) (l : List Nat) (g : Nat) (hg : g = w.heap.size) (e : TypeId) (cap : Nat) (hl : s.data.toList.map (·.toNat) = l) (hc : s.size ≤ cap) (hs : s.size ≤ 9223372036854775807) (m : Nat × Nat) :
    Bytes (w.alloc (.cells (bytesRow s cap) e m)) (.slice (some ⟨g, 0, none⟩) s.size cap) l := by
  subst hl hg
  exact bytes_of_string w s e cap hc hs m
/-- Bytes as a text. -/
def str (l : List Nat) : ByteArray := ⟨(l.map UInt8.ofNat).toArray⟩
theorem str_toList (l : List Nat) : (str l).toList = l.map UInt8.ofNat := by simp [str]
theorem str_nat {l : List Nat} (h : ∀ c ∈ l, c < 256) : (l.map UInt8.ofNat).map (·.toNat) = l := by
  rw [List.map_map]
  conv => rhs; rw [← List.map_id l]
  refine List.map_congr_left fun c hc => ?_
  have := h c hc
  simp
  omega
theorem str_eq {l m : List Nat} (hl : ∀ c ∈ l, c < 256) (hm : ∀ c ∈ m, c < 256) : ((str l).toList == (str m).toList) = decide (l = m) := by
  rw [str_toList, str_toList, Bool.eq_iff_iff]
  simp only [beq_iff_eq, decide_eq_true_eq]
  refine ⟨fun h => ?_, fun h => by rw [h]⟩
  rw [← str_nat hl, ← str_nat hm, h]
theorem run_text {w : World} {v : Value} {l : List Nat} (h : Bytes w v l) : (convert 31 9 v).run Try.prog w = .ok (.string (str l)) w := by
  obtain ⟨h1, h2, A, c, rfl, hc, hx⟩ := h.parts
  rcases A with _ | a
  · have h0 : l = [] := by
      rcases Nat.eq_zero_or_pos l.length with h0 | h0
      · exact List.eq_nil_of_length_eq_zero h0
      · obtain ⟨b, off, e, _⟩ := hx h0
        cases e
    subst h0
    rw [run_convert_bytes_string w _ _ 5 none _ c Try.underlying31 Try.underlying5 Try.underlying9]
    rfl
  · have := run_convert_bytes_back (P := Try.prog) w 31 9 5 a c (l.map UInt8.ofNat) Try.underlying31 Try.underlying5 Try.underlying9 (fun j hj => by
      have hj' : j < l.length := by simpa using hj
      obtain ⟨b, off, e, hcell⟩ := hx (by omega)
      injection e with e
      subst e
      rw [add_plain, hcell j hj']
      have := h1 _ (List.getElem_mem hj')
      simp [List.getElem?_eq_getElem hj']
      omega)
    rw [List.length_map] at this
    exact this
theorem Bytes.heap {w W : World} {v : Value} {l : List Nat} (h : Bytes w v l) (e : W.heap = w.heap) : Bytes W v l := h.same fun k _ _ => by rw [e]
theorem run_text_at {w : World} {v : Value} {l : List Nat} (h : Bytes w v l) (W : World) (e : W.heap = w.heap) : (convert 31 9 v).run Try.prog W = .ok (.string (str l)) W := run_text (h.heap e)
theorem Blk.heap {w W : World} {g : Nat} {t : TypeId} {cs : Array Value} (h : Blk w g t cs) (e : W.heap = w.heap) : Blk W g t cs := by unfold Blk at *; rw [e]; exact h
end Go.Proofs.Ytemliglhippdcaa
