/- What a slice of bytes is; what the call owns; append of bytes onto bytes; bytes and strings. -/
import Derived.Test.YtoloidfkpfdboaaZKit
import Derived.Maps.AppendAt
import Derived.Deep.AppendLies
import Derived.OwnWalk
import Derived.RegionTactic
import Derived.WalkSpells
import Derived.WalkLawsBesides
import Derived.Lib.Hide
import Derived.Lib.SlBytesConst
import Derived.Test.YtoloidfkpfdboaaZ00
namespace Go.Proofs.Ytoloidfkpfdboaa
set_option maxRecDepth 100000
open Go.ChangeShapes Go.WideShapes Go.ChangeAt Go.RowKit

/-- A slice of bytes that reads as a list: nil, empty, or a row of cells. -/
def Bytes (w : World) (v : Value) (l : List Nat) : Prop :=
  (∀ c ∈ l, c < 256) ∧ l.length ≤ 9223372036854775807 ∧ ((l = [] ∧ ∃ A c, v = .slice A 0 c) ∨
    ∃ b off c, v = .slice (some ⟨b, off, none⟩) l.length c ∧ l.length ≤ c ∧ ∀ i, i < l.length → w.cell? ⟨b, off + i, none⟩ = some (.int .u8 ((l.getD i 0 : Nat) : Int)))

theorem Bytes.parts {w : World} {v : Value} {l : List Nat} (h : Bytes w v l) : (∀ c ∈ l, c < 256) ∧ l.length ≤ 9223372036854775807 ∧
    ∃ A c, v = .slice A l.length c ∧ l.length ≤ c ∧ (0 < l.length → ∃ b off, A = some ⟨b, off, none⟩ ∧ ∀ i, i < l.length → w.cell? ⟨b, off + i, none⟩ = some (.int .u8 ((l.getD i 0 : Nat) : Int))) := by
  obtain ⟨h1, h2, ⟨rfl, A, c, rfl⟩ | ⟨b, off, c, rfl, hc, hcell⟩⟩ := h
  · exact ⟨h1, h2, A, c, rfl, Nat.zero_le _, fun h => absurd h (by simp)⟩
  · exact ⟨h1, h2, some ⟨b, off, none⟩, c, rfl, hc, fun _ => ⟨b, off, rfl, hcell⟩⟩
theorem Bytes.of {w : World} {l : List Nat} {n : Nat} {A : Option Addr} {c : Nat} (h1 : ∀ c ∈ l, c < 256) (hn : l.length = n) (hm : n ≤ 9223372036854775807) (hc : n ≤ c)
    (h : 0 < n → ∃ b off, A = some ⟨b, off, none⟩ ∧ ∀ i, i < n → w.cell? ⟨b, off + i, none⟩ = some (.int .u8 ((l.getD i 0 : Nat) : Int))) : Bytes w (.slice A n c) l := by
  subst hn
  rcases Nat.eq_zero_or_pos l.length with h0 | h0
  · have : l = [] := List.eq_nil_of_length_eq_zero h0
    subst this
    exact ⟨h1, hm, .inl ⟨rfl, A, c, rfl⟩⟩
  · obtain ⟨b, off, rfl, hcell⟩ := h h0
    exact ⟨h1, hm, .inr ⟨b, off, c, rfl, hc, hcell⟩⟩

theorem u8_lt {l : List Nat} (h : ∀ c ∈ l, c < 256) (i : Nat) : l.getD i 0 < 256 := by
  rw [List.getD_eq_getElem?_getD]
  by_cases hi : i < l.length
  · rw [List.getElem?_eq_getElem hi]; exact h _ (List.getElem_mem hi)
  · rw [List.getElem?_eq_none (by omega)]; decide

theorem take_snoc (l : List Nat) (k : Nat) (h : k < l.length) : l.take (k + 1) = l.take k ++ [l.getD k 0] := by
  rw [List.take_succ_eq_append_getElem h, List.getD_eq_getElem?_getD, List.getElem?_eq_getElem h]; rfl
theorem getD_hid {w : World} {l : List Nat} {b off k n : Nat} (hb : ∀ c ∈ l, c < 256) (hc : ∀ i, i < n → w.cell? ⟨b, off + i, none⟩ = some (.int .u8 ((l.getD i 0 : Nat) : Int))) (h : k < n) :
    ∃ x : Nat, x < 256 ∧ Hid (l.getD k 0 = x) ∧ w.cell? ⟨b, off + k, none⟩ = some (.int .u8 (x : Int)) :=
  ⟨_, u8_lt hb k, rfl, hc k h⟩
theorem bytes_none (w : World) : Bytes w (.slice none 0 0) [] := ⟨by simp, by simp, .inl ⟨rfl, none, 0, rfl⟩⟩

/-- A row of bytes that has just been laid. -/
theorem bytes_new (w : World) (g : Nat) (hg : g = w.heap.size) (l : List Nat) (e : TypeId) (m : Nat × Nat) (hl : ∀ c ∈ l, c < 256) (hm : l.length ≤ 9223372036854775807) :
    Bytes (w.alloc (.cells (l.map fun n : Nat => Value.int .u8 (n : Int)).toArray e m)) (.slice (some ⟨g, 0, none⟩) l.length l.length) l := by
  subst hg
  refine ⟨hl, hm, .inr ⟨w.heap.size, 0, l.length, rfl, Nat.le_refl _, fun i hi => ?_⟩⟩
  have e1 : (w.alloc (.cells (l.map fun n : Nat => Value.int .u8 (n : Int)).toArray e m)).heap[w.heap.size]? = some (.cells (l.map fun n : Nat => Value.int .u8 (n : Int)).toArray e m) := heap_alloc_new w _
  unfold World.cell?
  rw [show 0 + i = i from by omega, e1]
  simp [hi]
theorem convert_second {P : Program} (w : World) (O : Obj) (t e : TypeId) (C : Array Value) (n c : Nat) (ht : P.underlying t = some (.slice e)) (he : P.underlying e = some (.int .u8)) :
    (convert t t (.slice (some ⟨w.heap.size + 1, 0, none⟩) n c)).run P ((w.alloc O).alloc (.cells C e)) = .ok (.slice (some ⟨w.heap.size + 1, 0, none⟩) n c) ((w.alloc O).alloc (.cells C e (C.size, C.size + 1))) := by
  have := Lib.run_convert_bytes_const (P := P) (w.alloc O) t e C n c ht he
  simpa using this

/-- Bytes as cells. -/
def row8 (l : List Nat) : List Value := l.map fun n : Nat => Value.int .u8 (n : Int)
theorem row8_at {l : List Nat} {j : Nat} {u : Value} (h : (row8 l)[j]? = some u) : j < l.length ∧ u = .int .u8 ((l.getD j 0 : Nat) : Int) := by
  unfold row8 at h
  rw [List.getElem?_map] at h
  by_cases hj : j < l.length
  · rw [List.getElem?_eq_getElem hj] at h
    refine ⟨hj, ?_⟩
    rw [List.getD_eq_getElem?_getD, List.getElem?_eq_getElem hj]
    simpa using h.symm
  · rw [List.getElem?_eq_none (by omega)] at h
    cases h
theorem row8_set (l : List Nat) (q x : Nat) : row8 (l.set q x) = (row8 l).set q (.int .u8 (x : Int)) := by
  unfold row8
  exact List.map_set
theorem getD_set (l : List Nat) (i k x : Nat) : (l.set i x).getD k 0 = if i = k ∧ i < l.length then x else l.getD k 0 := by
  simp only [List.getD_eq_getElem?_getD, List.getElem?_set]
  by_cases h : i = k
  · subst h
    by_cases hi : i < l.length
    · simp [hi]
    · simp [hi]
  · simp [h]
theorem Bytes.keep {w w' : World} {v : Value} {l : List Nat} (h : Bytes w v l) (hk : ∀ p : Addr, v.ownBlock = some p.block → w'.cell? p = w.cell? p) : Bytes w' v l := by
  obtain ⟨h1, h2, h3 | ⟨b, off, c, rfl, hc, hcell⟩⟩ := h
  · exact ⟨h1, h2, .inl h3⟩
  · exact ⟨h1, h2, .inr ⟨b, off, c, rfl, hc, fun i hi => (hk ⟨b, off + i, none⟩ rfl).trans (hcell i hi)⟩⟩
theorem infoU8 : (Try.prog.info? 5).map (fun i => (i.zero, i.size, i.bytes)) = some (some (.int .u8 0), 1, 1) := by kernel_rfl

/-- A slice of bytes among the arguments. -/
theorem open_bytes {H : Type} {enc : TypeId × Value → H} {W : World} {base : Nat} {v : Value} {d : DataW H} {p : List MemPlace} (hv : Value.okWide Try.prog W .any base 25 v)
    (h : DataW.Trod enc Try.prog W 0 (fun _ => true) true 25 v d p) : ∃ l, Bytes W v l := by
  obtain ⟨a0, len, cap, rfl⟩ := okWide_slice Try.underlying25 hv
  obtain ⟨fuel, hf⟩ := h
  rcases open_ints Try.underlying25 Try.underlying5 (by kernel_rfl) hf with ⟨hcs, _⟩ | ⟨a, len', cap', zs, hcs, _, hl, hm, hz, _, hcell, hw⟩
  · simp [Value.cells] at hcs
    obtain ⟨rfl, rfl, rfl⟩ := hcs
    exact ⟨[], bytes_none W⟩
  · simp [Value.cells] at hcs
    obtain ⟨rfl, rfl, rfl⟩ := hcs
    simp only [if_true] at hz
    have hwf : ∀ n ∈ zs, 0 ≤ n ∧ n < 256 := fun n hn => by
      have := hw n hn
      simp [Lit.wf, IntKind.min, IntKind.max, IntKind.signed, IntKind.bits] at this
      omega
    unfold maxLen at hm
    refine ⟨(zs.take len).map Int.toNat, Bytes.of (fun c hc => ?_) (by simp; omega) (by omega) hl fun h0 => ?_⟩
    · obtain ⟨n, hn, rfl⟩ := List.mem_map.1 hc
      have := hwf n (List.mem_of_mem_take hn)
      omega
    · obtain ⟨b, off, rfl, hc⟩ := ints_at hcell (by omega)
      refine ⟨b, off, rfl, fun i hi => ?_⟩
      rw [hc i (by omega)]
      have hi' : i < zs.length := by omega
      have := hwf _ (List.getElem_mem hi')
      simp [hi, hi']
      omega

theorem Bytes.lt {w : World} {v : Value} {l : List Nat} (h : Bytes w v l) (h0 : l ≠ []) : ∀ k, v.ownBlock = some k → k < w.heap.size := by
  obtain ⟨_, _, ⟨rfl, _⟩ | ⟨b, off, c, rfl, _, hc⟩⟩ := h
  · exact absurd rfl h0
  · intro k hk
    simp [Value.ownBlock] at hk
    subst hk
    exact World.block_lt_of_cell? w _ (hc 0 (by cases l <;> simp at h0 ⊢))
theorem Bytes.same {w w' : World} {v : Value} {l : List Nat} (h : Bytes w v l) (hk : ∀ k, k < w.heap.size → v.ownBlock = some k → w'.heap[k]? = w.heap[k]?) : Bytes w' v l := by
  obtain ⟨h1, h2, ⟨rfl, A, c, rfl⟩ | ⟨b, off, c, rfl, h3, hc⟩⟩ := h
  · exact ⟨h1, h2, .inl ⟨rfl, A, c, rfl⟩⟩
  · refine ⟨h1, h2, .inr ⟨b, off, c, rfl, h3, fun i hi => ?_⟩⟩
    have := hc i hi
    exact (World.cell?_of_block (hk b (World.block_lt_of_cell? w _ this) rfl)).trans this
theorem Bytes.grown {w w' : World} {row : Option Nat} {v : Value} {l : List Nat} (h : Bytes w v l) (hg : w.grownBy w' row) (hne : v.ownBlock = none ∨ v.ownBlock ≠ row) : Bytes w' v l :=
  h.same fun k hk e => hg.block k hk (by rw [e] at hne; simpa using hne)
theorem Bytes.below {w w' : World} {B : Nat} {v : Value} {l : List Nat} (h : Bytes w v l) (hb : Below B w w') (hB : ∀ k, v.ownBlock = some k → k < w.heap.size → k < B) : Bytes w' v l :=
  h.same fun k hk e => hb.block k (hB k e hk)
theorem Bytes.under {w w' : World} {v : Value} {l : List Nat} (h : Bytes w v l) (hb : Below w.heap.size w w') : Bytes w' v l :=
  h.below hb fun _ _ h => h
theorem Bytes.alloc {w : World} {v : Value} {l : List Nat} (h : Bytes w v l) (o : Obj) : Bytes (w.alloc o) v l :=
  h.same fun k hk _ => Below.heap_alloc w o k hk
theorem Bytes.drew {w : World} {v : Value} {l : List Nat} (h : Bytes w v l) : Bytes w.drew v l := h
theorem Bytes.setCell {w : World} {v : Value} {l : List Nat} (h : Bytes w v l) {p : Addr} (hp : v.ownBlock ≠ some p.block) (u : Value) : Bytes (w.setCell p u) v l :=
  h.same fun k _ e => Below.heap_setCell w p u k fun e' => hp (by rw [e, e'])

/-- One byte, laid. -/
theorem bytes_one (w : World) (x : Int) (b : Nat) (e : TypeId) (m : Nat × Nat) (h : x = (b : Int)) (hb : b < 256) : Bytes (w.alloc (.cells #[.int .u8 x] e m)) (.slice (some ⟨w.heap.size, 0, none⟩) 1 1) [b] := by
  subst h
  exact bytes_new w _ rfl [b] e m (by simpa using hb) (by simp)

/-- A row of bytes of the call's own. -/
def Own (w : World) (base : Nat) (v : Value) (l : List Nat) : Prop := w.ownsRow base 5 1 v l.length (row8 l) ∧ ∀ c ∈ l, c < 256

theorem Own.bytes {w : World} {base : Nat} {v : Value} {l : List Nat} (h : Own w base v l) : Bytes w v l := by
  obtain ⟨h, hl⟩ := h
  rcases h.2 with ⟨rfl, h0⟩ | ⟨g, cap, cur, rfl, hb, hg, hn, hm, hs, ht⟩
  · have : l = [] := List.eq_nil_of_length_eq_zero h0
    subst this
    exact bytes_none w
  · unfold maxLen at hm
    refine Bytes.of hl rfl (by omega) hn fun _ => ⟨g, 0, rfl, fun i hi => ?_⟩
    rw [show 0 + i = i from by omega, h.cellAt i (by omega)]
    unfold row8
    rw [List.getElem?_map, List.getD_eq_getElem?_getD, List.getElem?_eq_getElem (by omega)]
    rfl
theorem Own.lt {w : World} {base : Nat} {v : Value} {l : List Nat} (h : Own w base v l) : ∀ k, v.ownBlock = some k → base ≤ k ∧ k < w.heap.size := h.1.lt
theorem Own.grown {w w' : World} {row : Option Nat} {base : Nat} {v : Value} {l : List Nat} (h : Own w base v l) (hg : w.grownBy w' row) (hne : v.ownBlock = none ∨ v.ownBlock ≠ row) : Own w' base v l :=
  ⟨h.1.kept hg hne, h.2⟩
theorem Own.alloc {w : World} {base : Nat} {v : Value} {l : List Nat} (h : Own w base v l) (o : Obj) : Own (w.alloc o) base v l := ⟨h.1.alloc o, h.2⟩
theorem Own.under {w w' : World} {base : Nat} {v : Value} {l : List Nat} (h : Own w base v l) (hb : Below w.heap.size w w') : Own w' base v l :=
  ⟨h.1.kept (row := none) ⟨hb.os, hb.tape, hb.output, hb.size, fun i hi _ => hb.block i hi⟩ (by cases hv : v.ownBlock <;> simp), h.2⟩
theorem Own.more {w : World} {base base' : Nat} {v : Value} {l : List Nat} (h : Own w base v l) (hb : base' ≤ base) : Own w base' v l := by
  obtain ⟨⟨h1, h2⟩, h3⟩ := h
  refine ⟨⟨h1, ?_⟩, h3⟩
  rcases h2 with h2 | ⟨g, cap, cur, e, hg, rest⟩
  · exact .inl h2
  · exact .inr ⟨g, cap, cur, e, Nat.le_trans hb hg, rest⟩
theorem own_none (w : World) (base : Nat) : Own w base (.slice none 0 0) [] := ⟨World.ownsRow_nil w base _ 1, by simp⟩
/-- An empty row with room. -/
theorem own_empty (w : World) (base cap : Nat) (cur : Array Value) (hb : base ≤ w.heap.size) (hm : cap ≤ maxLen) (hs : cur.size = cap) : Own (w.alloc (.cells cur 5)) base (.slice (some ⟨w.heap.size, 0, none⟩) 0 cap) [] :=
  ⟨World.ownsRow_made w cur cap hb hm (by omega), by simp⟩

theorem row8_one {l : List Nat} : ∀ u ∈ row8 l, u.oneCell' = true := by
  intro u hu
  obtain ⟨n, _, rfl⟩ := List.mem_map.1 hu
  rfl
theorem run_append_none {P : Program} {w : World} {base n c : Nat} {t ty e : TypeId} {i : TypeInfo} {size : Nat} {v : Value} {xs : List Value} (ht : P.underlying t = some (.slice e)) (hi : P.info? e = some i)
    (h : w.ownsRow base e size v n xs) : (Builtin.append_ #[t, t] ty #[v, .slice none 0 c]).run P w = .ok v w := by
  rcases h.2 with ⟨rfl, rfl⟩ | ⟨g, cap, cur, rfl, _, _, hn, _⟩ <;> simp [Builtin.append_, run_underlying ht, sizeOf, typeInfo, Builtin.lenOf, Builtin.firstCells, storeCells, *]

theorem run_append_bytes {w : World} {base : Nat} {ty : TypeId} {v vx : Value} {l m : List Nat} (hown : Own w base v l) (hx : Bytes w vx m) (hlen : l.length + m.length ≤ 70368744177664) (hbase : base ≤ w.heap.size) :
    ∃ v' w', (Builtin.append_ #[25, 25] ty #[v, vx]).run Try.prog w = .ok v' w' ∧ Own w' base v' (l ++ m) ∧ w.grownBy w' v.ownBlock ∧ (v'.ownBlock = v.ownBlock ∨ v'.ownBlock = some w.heap.size) := by
  obtain ⟨i, hi, hz0, hz1, hz2⟩ := info_parts infoU8
  have hall : ∀ c ∈ l ++ m, c < 256 := fun c hc => (List.mem_append.1 hc).elim (hown.2 c) (hx.1 c)
  have hrow : row8 (l ++ m) = row8 l ++ row8 m := List.map_append
  obtain ⟨h1, h2, A, c, rfl, hc, h0⟩ := hx.parts
  have hc3 : ∀ (ad : Addr), A = some ad → ∃ v' w', (Builtin.append_ #[25, 25] ty #[v, .slice (some ad) m.length c]).run Try.prog w = .ok v' w' ∧ Own w' base v' (l ++ m) ∧ w.grownBy w' v.ownBlock ∧ (v'.ownBlock = v.ownBlock ∨ v'.ownBlock = some w.heap.size) := by
    rintro ad rfl
    obtain ⟨v', w', hr, ho, hg, _, hat⟩ := run_append_own_at (P := Try.prog) w base 25 ty 5 i (.int .u8 0) 1 1 Try.underlying25 hi hz0 hz1 hz2 rfl (by decide) v l.length (row8 l) hown.1 ad m.length c (row8 m) (by simp [row8])
      (fun j u hu => by
        obtain ⟨hj, rfl⟩ := row8_at hu
        obtain ⟨b, off, e, hcell⟩ := h0 (by omega)
        injection e with e
        subst e
        rw [add_plain]
        exact hcell j hj) row8_one (by unfold maxLen; omega) (by omega) hbase
    exact ⟨v', w', hr, ⟨by rw [hrow, List.length_append]; exact ho, hall⟩, hg, hat⟩
  rcases A with _ | ad
  · rcases Nat.eq_zero_or_pos m.length with hz | hz
    · have : m = [] := List.eq_nil_of_length_eq_zero hz
      subst this
      refine ⟨v, w, run_append_none Try.underlying25 hi hown.1, by simpa using hown, World.grownBy.refl w _, .inl rfl⟩
    · obtain ⟨b, off, e, _⟩ := h0 hz
      cases e
  · exact hc3 ad rfl

/-- What an append leaves: the row of the call's own with more behind it; nothing else that was there is turned. -/
def Grew (base : Nat) (v : Value) (l : List Nat) (w : World) (v' : Value) (w' : World) : Prop := Own w' base v' l ∧ w.grownBy w' v.ownBlock ∧ (v'.ownBlock = v.ownBlock ∨ v'.ownBlock = some w.heap.size) ∧ Below base w w'
theorem wp_append_bytes {w : World} {o : Oper} {a : Act} {K : Act → World → Prop} {Q : Exit → Act → World → Prop} (s x : Operand)
    (ho : o.op = .call { callee := .builtin .append, args := #[s, x], argTypes := #[25, 25] }) (base : Nat) (v vx : Value) (l m : List Nat) (hs : a.eval s = v) (hown : Own w base v l) (hx : a.eval x = vx) (hb : Bytes w vx m)
    (hlen : l.length + m.length ≤ 70368744177664) (hbase : base ≤ w.heap.size) (r : List Nat) (hr : l ++ m = r)
    (h : ∀ v' w', Grew base v r w v' w' → K (a.put o.dst v') w') : o.wp Try.prog a w K Q := by
  subst hr
  obtain ⟨v', w', hr, h2, h3, h4⟩ := run_append_bytes (ty := o.type) hown hb hlen hbase
  unfold Oper.wp execOp
  simp only [ho, resolve, invoke, builtin, Sem.run_bind, Sem.run_pure, Result.andThen_ok, List.map_toArray, List.map_cons, List.map_nil, hs, hx, hr]
  exact h v' w' ⟨h2, h3, h4, (Below.refl _ _).grown h3 hbase fun k hk => (hown.lt k hk).1⟩
theorem wpList_append_bytes {w : World} {ops : Array Oper} {rest : List Oper} {o : Oper} {a : Act} {Q : Exit → Act → World → Prop} (hgd : o.guard = none) (s x : Operand)
    (ho : o.op = .call { callee := .builtin .append, args := #[s, x], argTypes := #[25, 25] }) (base : Nat) (v vx : Value) (l m : List Nat) (hs : a.eval s = v) (hown : Own w base v l) (hx : a.eval x = vx) (hb : Bytes w vx m)
    (hlen : l.length + m.length ≤ 70368744177664) (hbase : base ≤ w.heap.size) (r : List Nat) (hr : l ++ m = r)
    (h : ∀ v' w', Grew base v r w v' w' → wpList Try.prog ops Q rest (a.put o.dst v') w') : wpList Try.prog ops Q (o :: rest) a w :=
  wpList_plain hgd fun _ hK => wp_append_bytes s x ho base v vx l m hs hown hx hb hlen hbase r hr fun v' w' hg => hK _ _ (h v' w' hg)
theorem step_append_bytes {w : World} {ops : Array Oper} {o : Oper} {a : Act} {K : Act → World → Prop} {Q : Exit → Act → World → Prop} {E : Prop} (hgd : o.guard = none) (s x : Operand)
    (ho : o.op = .call { callee := .builtin .append, args := #[s, x], argTypes := #[25, 25] }) (base : Nat) (v vx : Value) (l m : List Nat) (hs : a.eval s = v) (hown : Own w base v l) (hx : a.eval x = vx) (hb : Bytes w vx m)
    (hlen : l.length + m.length ≤ 70368744177664) (hbase : base ≤ w.heap.size) (r : List Nat) (hr : l ++ m = r)
    (h : ∀ v' w', Grew base v r w v' w' → K (a.put o.dst v') w') : if Region.wanted o (yielded ops a.tmps) = true then Oper.wp Try.prog o a w K Q else E := by
  rw [if_pos (by simp [Region.wanted, hgd])]
  exact wp_append_bytes s x ho base v vx l m hs hown hx hb hlen hbase r hr h

/-- A call that answers bytes of its own. -/
def Made (base : Nat) (l : List Nat) (w : World) (e : Ending) (w' : World) : Prop := ∃ v, e = .returned v ∧ Own w' base v l ∧ Below base w w'

/-- A block of cells, known whole. -/
def Blk (w : World) (g : Nat) (t : TypeId) (cs : Array Value) : Prop := w.heap[g]? = some (.cells cs t (0, 0))
theorem Blk.size {w : World} {g : Nat} {t : TypeId} {cs : Array Value} (h : Blk w g t cs) : g < w.heap.size := (Array.getElem?_eq_some_iff.1 h).1
theorem Blk.at {w : World} {g : Nat} {t : TypeId} {cs : Array Value} (h : Blk w g t cs) (i : Nat) : w.cell? ⟨g, i, none⟩ = cs[i]? := cell_of_row w g i cs t (0, 0) h
theorem Blk.free {w : World} {g : Nat} {t : TypeId} {cs : Array Value} (h : Blk w g t cs) (i : Nat) : w.frozen? ⟨g, i, none⟩ = false := by
  unfold Blk at h
  simp [World.frozen?, h]
theorem Blk.set {w : World} {g : Nat} {t : TypeId} {cs : Array Value} (h : Blk w g t cs) (i : Nat) (u : Value) : Blk (w.setCell ⟨g, i, none⟩ u) g t (cs.setIfInBounds i u) := by
  unfold Blk at *
  simp [World.setCell, Array.getElem?_modify, h]
theorem Blk.grown {w w' : World} {g : Nat} {t : TypeId} {cs : Array Value} {row : Option Nat} (h : Blk w g t cs) (hg : w.grownBy w' row) (hne : some g ≠ row) : Blk w' g t cs := (hg.block g h.size hne).trans h
theorem Blk.below {w w' : World} {g B : Nat} {t : TypeId} {cs : Array Value} (h : Blk w g t cs) (hb : Below B w w') (hlt : g < B) : Blk w' g t cs := (hb.block g hlt).trans h
theorem Blk.under {w w' : World} {g : Nat} {t : TypeId} {cs : Array Value} (h : Blk w g t cs) (hb : Below w.heap.size w w') : Blk w' g t cs := (hb.block g h.size).trans h
theorem Blk.alloc {w : World} {g : Nat} {t : TypeId} {cs : Array Value} (h : Blk w g t cs) (o : Obj) : Blk (w.alloc o) g t cs := (Below.heap_alloc w o g h.size).trans h
theorem Blk.setOther {w : World} {g : Nat} {t : TypeId} {cs : Array Value} (h : Blk w g t cs) {p : Addr} (hp : g ≠ p.block) (u : Value) : Blk (w.setCell p u) g t cs := (Below.heap_setCell w p u g hp).trans h
theorem grown_setCell (w : World) (p : Addr) (u : Value) : w.grownBy (w.setCell p u) (some p.block) :=
  ⟨rfl, rfl, rfl, Nat.le_of_eq (by simp), fun k _ hk => Below.heap_setCell w p u k fun e => hk (by rw [e])⟩
theorem own_block_eq (A : Option Addr) (n c n' c' : Nat) : (Value.slice A n c).ownBlock = (Value.slice A n' c').ownBlock := by cases A <;> rfl
theorem own_block_add (A : Option Addr) (k n c n' c' : Nat) : (Value.slice (A.map fun x => x.add k) n c).ownBlock = (Value.slice A n' c').ownBlock := by
  rcases A with _ | a
  · rfl
  · simp only [Option.map_some, Value.ownBlock]
    unfold Addr.add
    split <;> rfl
/-- Where a value's block lies. -/
def Between (lo hi : Nat) (v : Value) : Prop := ∀ k, v.ownBlock = some k → lo ≤ k ∧ k < hi
theorem Between.eq {lo hi n c n' c' : Nat} {A : Option Addr} (h : Between lo hi (.slice A n c)) : Between lo hi (.slice A n' c') := fun k hk => h k ((own_block_eq A n c n' c').trans hk)
theorem Between.add {lo hi n c k n' c' : Nat} {A : Option Addr} (h : Between lo hi (.slice A n c)) : Between lo hi (.slice (A.map fun x => x.add k) n' c') := fun j hj => h j ((own_block_add A k n' c' n c).symm.trans hj)
theorem Between.add' {lo hi n c k n' c' b off : Nat} (h : Between lo hi (.slice (some ⟨b, off, none⟩) n c)) : Between lo hi (.slice (some ⟨b, off + k, none⟩) n' c') := h
theorem Between.ne {lo hi g : Nat} {v : Value} (h : Between lo hi v) (hg : ¬ (lo ≤ g ∧ g < hi)) : v.ownBlock ≠ some g := fun e => hg (h g e)
theorem Own.between {w : World} {base : Nat} {v : Value} {l : List Nat} (h : Own w base v l) : Between base w.heap.size v := h.lt
theorem Bytes.between {w : World} {v : Value} {l : List Nat} (h : Bytes w v l) (h0 : l ≠ []) : Between 0 w.heap.size v := fun k hk => ⟨Nat.zero_le _, h.lt h0 k hk⟩
theorem Below.toGrown {w w' : World} (h : Below w.heap.size w w') (row : Option Nat) : w.grownBy w' row := ⟨h.os, h.tape, h.output, h.size, fun k hk _ => h.block k hk⟩
/-- What was made below a world's end, or in one block of it. -/
theorem Below.ofGrown {w w' : World} {g B : Nat} (h : w.grownBy w' (some g)) (hg : B ≤ g) (hB : B ≤ w.heap.size) : Below B w w' :=
  ⟨h.os, h.tape, h.output, h.size, fun k hk => h.block k (by omega) (by simp; omega)⟩

theorem Bytes.len {w : World} {A : Option Addr} {n c : Nat} {l : List Nat} (h : Bytes w (.slice A n c) l) : l.length = n := by
  obtain ⟨_, _, B, d, e, _⟩ := h.parts
  injection e with _ e
  exact e.symm
theorem Bytes.head {w : World} {A : Option Addr} {n c k : Nat} {l : List Nat} (h : Bytes w (.slice A n c) l) (hk : k ≤ n) (hc : k ≤ c) : Bytes w (.slice A k c) (l.take k) := by
  have hn := h.len
  obtain ⟨h1, h2, B, d, e, _, hx⟩ := h.parts
  injection e with e1 e2 e3
  subst e1
  refine Bytes.of (fun c hc => h1 c (List.mem_of_mem_take hc)) (by rw [List.length_take]; omega) (by omega) hc fun h0 => ?_
  obtain ⟨b, off, rfl, hcell⟩ := hx (by omega)
  refine ⟨b, off, rfl, fun i hi => ?_⟩
  rw [hcell i (by omega), List.getD_eq_getElem?_getD, List.getD_eq_getElem?_getD, List.getElem?_take, if_pos hi]
theorem Bytes.tail {w : World} {A A' : Option Addr} {n c k d : Nat} {l : List Nat} (h : Bytes w (.slice A n c) l) (hk : k ≤ n) (hd : n - k ≤ d) (hA : k < n → ∀ b off, A = some ⟨b, off, none⟩ → A' = some ⟨b, off + k, none⟩) :
    Bytes w (.slice A' (n - k) d) (l.drop k) := by
  have hn := h.len
  obtain ⟨h1, h2, B, d', e, _, hx⟩ := h.parts
  injection e with e1 e2 e3
  subst e1
  refine Bytes.of (fun c hc => h1 c (List.mem_of_mem_drop hc)) (by rw [List.length_drop]; omega) (by omega) (by omega) fun h0 => ?_
  obtain ⟨b, off, rfl, hcell⟩ := hx (by omega)
  refine ⟨b, off + k, hA (by omega) b off rfl, fun i hi => ?_⟩
  rw [show off + k + i = off + (k + i) from by omega, hcell (k + i) (by omega), List.getD_eq_getElem?_getD, List.getD_eq_getElem?_getD, List.getElem?_drop]
theorem or8 (a x : Nat) (ha : a < 281474976710656) (hx : x < 256) : bits .or .i64 ((a : Int) * 256) (x : Int) = ((a * 256 + x : Nat) : Int) := by
  have h : bits .or .i64 ((a : Int) * 256) (x : Int) = IntKind.i64.wrap ((BitVec.ofInt 64 ((a : Int) * 256) ||| BitVec.ofInt 64 (x : Int)).toNat : Int) := rfl
  have h1 : BitVec.ofInt 64 ((a : Int) * 256) = BitVec.ofNat 64 (a * 256) := by
    rw [← BitVec.ofInt_natCast]
    rfl
  have hv : (BitVec.ofInt 64 ((a : Int) * 256) ||| BitVec.ofInt 64 (x : Int)).toNat = a * 256 + x := by
    rw [h1, BitVec.ofInt_natCast, BitVec.toNat_or, BitVec.toNat_ofNat, BitVec.toNat_ofNat, Nat.mod_eq_of_lt (by omega), Nat.mod_eq_of_lt (by omega)]
    have := Nat.two_pow_add_eq_or_of_lt (i := 8) (b := x) (by omega) a
    rw [Nat.mul_comm a 256]
    exact this.symm
  rw [h, hv, IntKind.wrap_i64]
  omega

/-- The string's bytes, laid as a row. -/
theorem bytes_of_string (w : World) (s : ByteArray) (e : TypeId) (cap : Nat) (hc : s.size ≤ cap) (hs : s.size ≤ 9223372036854775807) (m : Nat × Nat) :
    Bytes (w.alloc (.cells (bytesRow s cap) e m)) (.slice (some ⟨w.heap.size, 0, none⟩) s.size cap) (s.data.toList.map (·.toNat)) := by
  refine ⟨fun c hc => ?_, by simpa using hs, .inr ⟨w.heap.size, 0, cap, by simp, by simpa using hc, fun i hi => ?_⟩⟩
  · obtain ⟨b, _, rfl⟩ := List.mem_map.1 hc
    exact UInt8.toNat_lt b
  · have hi' : i < s.size := by simpa using hi
    have e1 : (w.alloc (.cells (bytesRow s cap) e m)).heap[w.heap.size]? = some (.cells (bytesRow s cap) e m) := heap_alloc_new w _
    have hd : i < s.data.size := hi'
    have e2 : (bytesRow s cap)[i]? = some (.int .u8 ((s.data[i].toNat : Nat) : Int)) := by
      unfold bytesRow
      rw [Array.getElem?_append_left (by rw [Array.size_map]; exact hd), Array.getElem?_map, Array.getElem?_eq_getElem hd]
      rfl
    unfold World.cell?
    rw [show 0 + i = i from by omega, e1]
    refine e2.trans ?_
    simp [Array.getElem?_eq_getElem hd]

theorem bytes_of_text (w : World) (s : ByteArray) (l : List Nat) (g : Nat) (hg : g = w.heap.size) (e : TypeId) (cap : Nat) (hl : s.data.toList.map (·.toNat) = l) (hc : s.size ≤ cap) (hs : s.size ≤ 9223372036854775807) (m : Nat × Nat) :
    Bytes (w.alloc (.cells (bytesRow s cap) e m)) (.slice (some ⟨g, 0, none⟩) s.size cap) l := by
  subst hl hg
  exact bytes_of_string w s e cap hc hs m
/-- Bytes as a text. -/
def str (l : List Nat) : ByteArray := ⟨(l.map UInt8.ofNat).toArray⟩
theorem str_toList (l : List Nat) : (str l).toList = l.map UInt8.ofNat := by simp [str]
theorem str_nat {l : List Nat} (h : ∀ c ∈ l, c < 256) : (l.map UInt8.ofNat).map (·.toNat) = l := by
  rw [List.map_map]
  conv => rhs; rw [← List.map_id l]
  refine List.map_congr_left fun c hc => ?_
  have := h c hc
  simp
  omega
theorem str_eq {l m : List Nat} (hl : ∀ c ∈ l, c < 256) (hm : ∀ c ∈ m, c < 256) : ((str l).toList == (str m).toList) = decide (l = m) := by
  rw [str_toList, str_toList, Bool.eq_iff_iff]
  simp only [beq_iff_eq, decide_eq_true_eq]
  refine ⟨fun h => ?_, fun h => by rw [h]⟩
  rw [← str_nat hl, ← str_nat hm, h]
theorem run_text {w : World} {v : Value} {l : List Nat} (h : Bytes w v l) : (convert 25 9 v).run Try.prog w = .ok (.string (str l)) w := by
  obtain ⟨h1, h2, A, c, rfl, hc, hx⟩ := h.parts
  rcases A with _ | a
  · have h0 : l = [] := by
      rcases Nat.eq_zero_or_pos l.length with h0 | h0
      · exact List.eq_nil_of_length_eq_zero h0
      · obtain ⟨b, off, e, _⟩ := hx h0
        cases e
    subst h0
    rw [run_convert_bytes_string w _ _ 5 none _ c Try.underlying25 Try.underlying5 Try.underlying9]
    rfl
  · have := run_convert_bytes_back (P := Try.prog) w 25 9 5 a c (l.map UInt8.ofNat) Try.underlying25 Try.underlying5 Try.underlying9 (fun j hj => by
      have hj' : j < l.length := by simpa using hj
      obtain ⟨b, off, e, hcell⟩ := hx (by omega)
      injection e with e
      subst e
      rw [add_plain, hcell j hj']
      have := h1 _ (List.getElem_mem hj')
      simp [List.getElem?_eq_getElem hj']
      omega)
    rw [List.length_map] at this
    exact this
theorem Bytes.heap {w W : World} {v : Value} {l : List Nat} (h : Bytes w v l) (e : W.heap = w.heap) : Bytes W v l := h.same fun k _ _ => by rw [e]
theorem run_text_at {w : World} {v : Value} {l : List Nat} (h : Bytes w v l) (W : World) (e : W.heap = w.heap) : (convert 25 9 v).run Try.prog W = .ok (.string (str l)) W := run_text (h.heap e)
theorem Blk.heap {w W : World} {g : Nat} {t : TypeId} {cs : Array Value} (h : Blk w g t cs) (e : W.heap = w.heap) : Blk W g t cs := by unfold Blk at *; rw [e]; exact h
end Go.Proofs.Ytoloidfkpfdboaa

/- Plain facts on artifacts: what one is, what is read of one; turned in one byte, cut or with more behind it is none. -/
namespace Go.Proofs.Ytoloidfkpfdboaa.Ar
set_option maxRecDepth 100000

def body (p v : List Nat) : List Nat := ([] ++ Cd.enc p.length ++ p) ++ Cd.enc v.length ++ v
def make (p v : List Nat) : List Nat := [] ++ Fr.frm (body p v)
/-- Is one frame there, and nothing else? -/
def one (b : List Nat) : Bool := Fr.whole b && decide (10 + Fr.told b = b.length)
def p1 (s : Cd.St) : List Nat := Cd.bytesL s 4000
def s1 (s : Cd.St) : Cd.St := Cd.bytesS s 4000
def v1 (s : Cd.St) : List Nat := Cd.bytesL (s1 s) 256
def s2 (s : Cd.St) : Cd.St := Cd.bytesS (s1 s) 256
def opn (b : List Nat) : Option (List Nat × List Nat) := if one b && Cd.endB (s2 (some (Fr.held b))) then some (p1 (some (Fr.held b)), v1 (some (Fr.held b))) else none

theorem body_length (p v : List Nat) : (body p v).length = p.length + v.length + 12 := by simp [body, Cd.enc_length]; omega
theorem make_length (p v : List Nat) : (make p v).length = p.length + v.length + 22 := by simp [make, Fr.frm_length, body_length]
theorem body_lt {p v : List Nat} (hp : ∀ c ∈ p, c < 256) (hv : ∀ c ∈ v, c < 256) : ∀ c ∈ body p v, c < 256 := by
  intro c hc
  simp only [body, List.mem_append, List.nil_append] at hc
  rcases hc with ((h | h) | h) | h
  · exact Cd.enc_lt _ c h
  · exact hp c h
  · exact Cd.enc_lt _ c h
  · exact hv c h
theorem frm_lt {x : List Nat} (hx : ∀ c ∈ x, c < 256) : ∀ c ∈ Fr.frm x, c < 256 := by
  intro c hc
  simp only [Fr.frm, List.mem_append, Fr.sum4] at hc
  rcases hc with (h | h) | h
  · exact Cd.enc_lt _ c h
  · exact hx c h
  · exact Fr.four_lt _ c h
theorem make_lt {p v : List Nat} (hp : ∀ c ∈ p, c < 256) (hv : ∀ c ∈ v, c < 256) : ∀ c ∈ make p v, c < 256 := by
  unfold make
  rw [List.nil_append]
  exact frm_lt (body_lt hp hv)

/-- Frames, counted: is there just one, to the end? -/
theorem one_scn {b : List Nat} {N : Nat} (h : Fr.Scn b N) : one b = (decide (N = 1) && decide (Fr.pos b N = b.length)) := by
  rcases N with _ | _ | N
  · have : Fr.whole b = false := by simpa [Fr.pos] using h.2
    simp [one, this]
  · have h0 : Fr.whole b = true := by simpa [Fr.pos] using h.1 0 (by omega)
    simp [one, h0, Fr.pos]
  · have h0 : Fr.whole b = true := by simpa [Fr.pos] using h.1 0 (by omega)
    have h1 := h.1 1 (by omega)
    have h2 := Fr.pos_next h1
    have h3 : Fr.pos b 1 = 10 + Fr.told b := by simp [Fr.pos]
    simp [one, h0]
    omega

theorem told_frm (x r : List Nat) (h : x.length < 281474976710656) : Fr.told (Fr.frm x ++ r) = x.length := by
  unfold Fr.told Fr.frm
  rw [List.append_assoc, List.append_assoc, List.take_append_of_le_length (by simp [Cd.enc_length]), List.take_of_length_le (by simp [Cd.enc_length])]
  exact Cd.dec_enc _ h
theorem whole_frm (x r : List Nat) (h : x.length ≤ 10000) : Fr.whole (Fr.frm x ++ r) = true := by
  have ht := told_frm x r (by omega)
  rw [Fr.whole_iff, ht]
  refine ⟨by rw [List.length_append, Fr.frm_length]; omega, h, by rw [List.length_append, Fr.frm_length]; omega, ?_⟩
  have e : Fr.frm x ++ r = (Cd.enc x.length ++ x) ++ (Fr.sum4 (Cd.enc x.length ++ x) ++ r) := by simp [Fr.frm]
  have hl : (Cd.enc x.length ++ x).length = 6 + x.length := by rw [List.length_append, Cd.enc_length]
  rw [e, ← hl, List.drop_left, List.take_left, List.take_append_of_le_length (by simp [Fr.sum4_length]), List.take_of_length_le (by simp [Fr.sum4_length])]
theorem held_frm (x r : List Nat) (h : x.length ≤ 10000) : Fr.held (Fr.frm x ++ r) = x := by
  unfold Fr.held
  rw [told_frm x r (by omega)]
  have e : Fr.frm x ++ r = Cd.enc x.length ++ (x ++ (Fr.sum4 (Cd.enc x.length ++ x) ++ r)) := by simp [Fr.frm]
  rw [e, List.drop_left' (by rfl), List.take_left' rfl]
theorem one_frm (x : List Nat) (h : x.length ≤ 10000) : one (Fr.frm x) = true := by
  have h1 := whole_frm x [] h
  have h2 := told_frm x [] (by omega)
  rw [List.append_nil] at h1 h2
  simp [one, h1, h2, Fr.frm_length]
  omega
theorem opn_frm (x : List Nat) (h : x.length ≤ 10000) : opn (Fr.frm x) = if Cd.endB (s2 (some x)) then some (p1 (some x), v1 (some x)) else none := by
  have h3 := held_frm x [] h
  rw [List.append_nil] at h3
  simp [opn, one_frm x h, h3]

theorem take_enc (n : Nat) (x : List Nat) : (Cd.enc n ++ x).take 6 = Cd.enc n := List.take_left' rfl
theorem drop_enc (n : Nat) (x : List Nat) : (Cd.enc n ++ x).drop 6 = x := List.drop_left' rfl
theorem bytesL_enc (x r : List Nat) (most : Int) (h : (x.length : Int) ≤ most) (hn : x.length < 281474976710656) : Cd.bytesL (some (Cd.enc x.length ++ x ++ r)) most = x := by
  have hd := Cd.dec_enc _ hn
  have hl : (Cd.enc x.length ++ (x ++ r)).length = 6 + (x.length + r.length) := by rw [List.length_append, Cd.enc_length, List.length_append]
  rw [List.append_assoc]
  unfold Cd.bytesL
  rw [if_pos, Cd.rest, Option.getD_some, take_enc, hd, drop_enc, List.take_left' rfl]
  unfold Cd.fitsB Cd.fits Cd.rest
  simp only [Option.getD_some, take_enc, hd, hl, Bool.and_eq_true, decide_eq_true_eq]
  omega
theorem bytesS_enc (x r : List Nat) (most : Int) (h : (x.length : Int) ≤ most) (hn : x.length < 281474976710656) : Cd.bytesS (some (Cd.enc x.length ++ x ++ r)) most = some r := by
  have hd := Cd.dec_enc _ hn
  have hl : (Cd.enc x.length ++ (x ++ r)).length = 6 + (x.length + r.length) := by rw [List.length_append, Cd.enc_length, List.length_append]
  rw [List.append_assoc]
  unfold Cd.bytesS
  rw [if_pos, Cd.rest, Option.getD_some, take_enc, hd]
  · rw [← List.drop_drop, drop_enc, List.drop_left' rfl]
  unfold Cd.fitsB Cd.fits Cd.rest
  simp only [Option.getD_some, take_enc, hd, hl, Bool.and_eq_true, decide_eq_true_eq]
  omega
theorem opn_make (p v : List Nat) (hp : p.length ≤ 4000) (hv : v.length ≤ 256) : opn (make p v) = some (p, v) := by
  have hb := body_length p v
  have e : body p v = Cd.enc p.length ++ p ++ (Cd.enc v.length ++ v ++ []) := by simp [body]
  have e1 : s1 (some (body p v)) = some (Cd.enc v.length ++ v ++ []) := by rw [e]; exact bytesS_enc _ _ _ (by omega) (by omega)
  have e2 : p1 (some (body p v)) = p := by rw [e]; exact bytesL_enc _ _ _ (by omega) (by omega)
  have e3 : s2 (some (body p v)) = some [] := by rw [s2, e1]; exact bytesS_enc _ _ _ (by omega) (by omega)
  have e4 : v1 (some (body p v)) = v := by rw [v1, e1]; exact bytesL_enc _ _ _ (by omega) (by omega)
  rw [make, List.nil_append, opn_frm _ (by omega), e2, e3, e4]
  rfl
theorem make_inj {p v q u : List Nat} (hp : p.length ≤ 4000) (hv : v.length ≤ 256) (hq : q.length ≤ 4000) (hu : u.length ≤ 256) : make p v = make q u ↔ p = q ∧ v = u := by
  refine ⟨fun e => ?_, fun ⟨h1, h2⟩ => by rw [h1, h2]⟩
  have h1 := opn_make p v hp hv
  rw [e, opn_make q u hq hu] at h1
  simp only [Option.some.injEq, Prod.mk.injEq] at h1
  exact ⟨h1.1.symm, h1.2.symm⟩

theorem opn_none_of {b : List Nat} (h : one b = false) : opn b = none := by simp [opn, h]
/-- Cut anywhere it is none. -/
theorem opn_cut (p v : List Nat) (hp : p.length ≤ 4000) (hv : v.length ≤ 256) (k : Nat) (hk : k < (make p v).length) : opn ((make p v).take k) = none := by
  apply opn_none_of
  have hb := body_length p v
  have ht := told_frm (body p v) [] (by omega)
  have hm := make_length p v
  rw [hm] at hk
  rw [List.append_nil] at ht
  have e : make p v = Fr.frm (body p v) := by simp [make]
  rcases hw : one ((make p v).take k) with _ | _
  · rfl
  · exfalso
    simp only [one, Bool.and_eq_true, decide_eq_true_eq] at hw
    have h6 := (Fr.whole_iff.1 hw.1).1
    have hlen : ((make p v).take k).length = k := by simp [hm]; omega
    rw [hlen] at h6 hw
    have : Fr.told ((make p v).take k) = Fr.told (make p v) := by
      unfold Fr.told
      rw [List.take_take, Nat.min_eq_left h6]
    rw [this, e, ht] at hw
    omega
/-- With more behind it is none. -/
theorem opn_long (p v r : List Nat) (hp : p.length ≤ 4000) (hv : v.length ≤ 256) (hr : r ≠ []) : opn (make p v ++ r) = none := by
  apply opn_none_of
  have hb := body_length p v
  have ht := told_frm (body p v) r (by omega)
  have hm := make_length p v
  have hr' : 0 < r.length := List.length_pos_iff.2 hr
  have e : make p v = Fr.frm (body p v) := by simp [make]
  rcases hw : one (make p v ++ r) with _ | _
  · rfl
  · exfalso
    simp only [one, Bool.and_eq_true, decide_eq_true_eq] at hw
    have h2 := hw.2
    rw [List.length_append, hm, e, ht] at h2
    omega

/-- Two rows that differ in a few places: laid on each other they are those places' turns alone. -/
theorem diff_row {l m es : List Nat} {q : Nat} (hlen : m.length = l.length) (hq : q + es.length ≤ l.length)
    (hm : ∀ i, i < l.length → m.getD i 0 = l.getD i 0 ^^^ (if q ≤ i ∧ i < q + es.length then es.getD (i - q) 0 else 0)) :
    List.zipWith (· ^^^ ·) m l = List.replicate q 0 ++ es ++ List.replicate (l.length - q - es.length) 0 := by
  apply List.ext_getElem
  · simp; omega
  · intro i h1 h2
    have hi : i < l.length := by simp at h1; omega
    have him : i < m.length := by omega
    have e := hm i hi
    simp only [List.getD_eq_getElem?_getD] at e
    rw [List.getElem?_eq_getElem hi, List.getElem?_eq_getElem him, Option.getD_some, Option.getD_some] at e
    rw [List.getElem_zipWith, e]
    have e2 : l[i] ^^^ (if q ≤ i ∧ i < q + es.length then es[i - q]?.getD 0 else 0) ^^^ l[i] = if q ≤ i ∧ i < q + es.length then es[i - q]?.getD 0 else 0 := by
      rw [Nat.xor_comm (l[i]), Nat.xor_assoc, Nat.xor_self, Nat.xor_zero]
    rw [e2]
    by_cases ha : i < q
    · rw [if_neg (by omega)]
      rw [List.getElem_append_left (by simp; omega), List.getElem_append_left (by simp; omega)]
      simp
    · by_cases hb : i < q + es.length
      · rw [if_pos ⟨by omega, hb⟩]
        rw [List.getElem_append_left (by simp; omega), List.getElem_append_right (by simp; omega)]
        simp only [List.length_replicate]
        rw [List.getElem?_eq_getElem (by omega)]
        rfl
      · rw [if_neg (by omega)]
        rw [List.getElem_append_right (by simp; omega)]
        simp
/-- One byte turned: another sum. -/
theorem sum_turned {l : List Nat} {q y : Nat} (hb : ∀ c ∈ l, c < 256) (hq : q < l.length) (hy : y < 256) (hne : y ≠ l.getD q 0) : Crc.sum (l.set q y) ≠ Crc.sum l := by
  have hx : l.getD q 0 < 256 := u8_lt hb q
  refine Crc.sum_ne_of _ _ (by simp) ?_
  rw [diff_row (es := [l.getD q 0 ^^^ y]) (q := q) (by simp) (by simp; omega) (fun i hi => ?_)]
  · have hxy := Nat.xor_lt_two_pow (n := 8) hx hy
    refine Crc.run_burst q _ [l.getD q 0 ^^^ y] (by simp) (fun c hc => by rw [List.mem_singleton.1 hc]; exact hxy) ⟨l.getD q 0 ^^^ y, List.mem_singleton.2 rfl, fun e => hne ?_⟩
    exact (Crc.xor_self_eq e).symm
  · rw [getD_set]
    by_cases h : q = i
    · subst h
      rw [if_pos ⟨rfl, hq⟩, if_pos (by simp)]
      simp [← Nat.xor_assoc]
    · rw [if_neg (by omega), if_neg (by simp; omega), Nat.xor_zero]
theorem four_inj {a b : Nat} (ha : a < 4294967296) (hb : b < 4294967296) (h : Fr.four a = Fr.four b) : a = b := by
  simp only [Fr.four, List.cons.injEq, and_true] at h
  omega
theorem enc_inj {a b : Nat} (ha : a < 281474976710656) (hb : b < 281474976710656) (h : Cd.enc a = Cd.enc b) : a = b := by
  rw [← Cd.dec_enc a ha, ← Cd.dec_enc b hb, h]

/-- Six bytes that tell the same number are the same. -/
theorem dec_inj : ∀ (n : Nat) (l m : List Nat), l.length = n → m.length = n → (∀ c ∈ l, c < 256) → (∀ c ∈ m, c < 256) → Cd.dec l = Cd.dec m → l = m := by
  intro n
  induction n with
  | zero =>
    intro l m hl hm _ _ _
    rw [List.eq_nil_of_length_eq_zero hl, List.eq_nil_of_length_eq_zero hm]
  | succ n ih =>
    intro l m hl hm hbl hbm h
    rcases List.eq_nil_or_concat l with rfl | ⟨l', c, rfl⟩
    · simp at hl
    · rcases List.eq_nil_or_concat m with rfl | ⟨m', d, rfl⟩
      · simp at hm
      · rw [List.concat_eq_append] at hl hbl h ⊢
        rw [List.concat_eq_append] at hm hbm h ⊢
        have hc := hbl c (by simp)
        have hd := hbm d (by simp)
        rw [Cd.dec_snoc, Cd.dec_snoc] at h
        have h1 : Cd.dec l' = Cd.dec m' := by omega
        have h2 : c = d := by omega
        rw [ih l' m' (by simpa using hl) (by simpa using hm) (fun x hx => hbl x (by simp [hx])) (fun x hx => hbm x (by simp [hx])) h1, h2]

/-- Turned in one byte a frame is none. -/
theorem one_turned {x : List Nat} (hx : ∀ c ∈ x, c < 256) (hl : x.length ≤ 10000) {q y : Nat} (hq : q < (Fr.frm x).length) (hy : y < 256) (hne : y ≠ (Fr.frm x).getD q 0) : one ((Fr.frm x).set q y) = false := by
  rcases hw : one ((Fr.frm x).set q y) with _ | _
  · rfl
  · exfalso
    simp only [one, Bool.and_eq_true, decide_eq_true_eq, List.length_set, Fr.frm_length] at hw
    obtain ⟨hw, hlen⟩ := hw
    have ht : Fr.told ((Fr.frm x).set q y) = x.length := by omega
    have hwf := (Fr.whole_iff.1 hw).2.2.2
    rw [ht] at hwf
    have hfl := Fr.frm_length x
    have hF : (Fr.frm x) = (Cd.enc x.length ++ x) ++ Fr.sum4 (Cd.enc x.length ++ x) := rfl
    obtain ⟨H, hH⟩ : ∃ H, Cd.enc x.length ++ x = H := ⟨_, rfl⟩
    rw [hH] at hF
    have hHl : H.length = 6 + x.length := by rw [← hH, List.length_append, Cd.enc_length]
    have hHb : ∀ c ∈ H, c < 256 := by
      rw [← hH]
      intro c hc
      rcases List.mem_append.1 hc with h | h
      · exact Cd.enc_lt _ c h
      · exact hx c h
    have hfb : ∀ c ∈ Fr.frm x, c < 256 := frm_lt hx
    by_cases h6 : q < 6
    · -- the length
      have e1 : ((Fr.frm x).set q y).take 6 = (Fr.frm x).take 6 := by
        refine dec_inj 6 _ _ (by simp [hfl]) (by simp [hfl]) (fun c hc => ?_) (fun c hc => hfb c (List.mem_of_mem_take hc)) ?_
        · rcases List.mem_or_eq_of_mem_set (List.mem_of_mem_take hc) with h | rfl
          · exact hfb c h
          · exact hy
        · have h1 := told_frm x [] (by omega)
          rw [List.append_nil] at h1
          exact ht.trans h1.symm
      apply hne
      have h1 : (((Fr.frm x).set q y).take 6).getD q 0 = ((Fr.frm x).take 6).getD q 0 := by rw [e1]
      simp only [List.getD_eq_getElem?_getD, List.getElem?_take] at h1
      rw [if_pos h6, if_pos h6, List.getElem?_set, if_pos rfl, if_pos hq] at h1
      simpa [List.getD_eq_getElem?_getD] using h1
    · by_cases hs : q < 6 + x.length
      · -- what it holds
        have e1 : ((Fr.frm x).set q y) = H.set q y ++ Fr.sum4 H := by
          rw [hF, List.set_append_left _ _ (by omega)]
        have hl2 : (H.set q y).length = 6 + x.length := by simp [hHl]
        rw [e1, ← hl2, List.drop_left, List.take_left, List.take_of_length_le (by simp [Fr.sum4_length])] at hwf
        have hxb : ∀ c ∈ H.set q y, c < 256 := fun c hc => by
          rcases List.mem_or_eq_of_mem_set hc with h | rfl
          · exact hHb c h
          · exact hy
        have := four_inj (Crc.sum_lt H hHb) (Crc.sum_lt _ hxb) hwf
        refine sum_turned hHb (by omega) hy ?_ this.symm
        intro e
        apply hne
        rw [e, hF]
        simp only [List.getD_eq_getElem?_getD]
        rw [List.getElem?_append_left (by omega)]
      · -- its sum
        have e1 : ((Fr.frm x).set q y) = H ++ (Fr.sum4 H).set (q - H.length) y := by
          rw [hF, List.set_append_right _ _ (by omega)]
        rw [e1, ← hHl, List.drop_left, List.take_left, List.take_of_length_le (by simp [Fr.sum4_length])] at hwf
        apply hne
        have h1 : ((Fr.sum4 H).set (q - H.length) y).getD (q - H.length) 0 = (Fr.sum4 H).getD (q - H.length) 0 := by rw [hwf]
        rw [hF]
        simp only [List.getD_eq_getElem?_getD] at h1 ⊢
        rw [List.getElem?_append_right (by omega)]
        rw [List.getElem?_set, if_pos rfl, if_pos (by rw [Fr.sum4_length]; omega)] at h1
        simpa using h1
theorem opn_turned (p v : List Nat) (hp : p.length ≤ 4000) (hv : v.length ≤ 256) (hbp : ∀ c ∈ p, c < 256) (hbv : ∀ c ∈ v, c < 256) {q y : Nat} (hq : q < (make p v).length) (hy : y < 256) (hne : y ≠ (make p v).getD q 0) :
    opn ((make p v).set q y) = none := by
  have e : make p v = Fr.frm (body p v) := by simp [make]
  rw [e] at hq hne ⊢
  exact opn_none_of (one_turned (body_lt hbp hbv) (by rw [body_length]; omega) hq hy hne)
theorem opn_short {b : List Nat} (h : b.length < 10) : opn b = none := by
  apply opn_none_of
  rcases hw : one b with _ | _
  · rfl
  · exfalso
    simp only [one, Bool.and_eq_true, decide_eq_true_eq] at hw
    omega
end Go.Proofs.Ytoloidfkpfdboaa.Ar

/- What package crcs returns: the plain sum of the slice's bytes. -/
namespace Go.Proofs.Ytoloidfkpfdboaa
set_option maxRecDepth 100000
open Go.ChangeShapes Go.WideShapes Go.ChangeAt Go.RowKit

theorem ret_u32 {a b : Int} (h : a = b) : Ending.returned (.int .u32 a) = .returned (.int .u32 b) := by rw [h]

theorem u32_eq {a b : Int} (h : a = b) : Value.int .u32 a = .int .u32 b := by rw [h]
theorem and_one {t : Nat} (ht : t < 4294967296) : bits .and .u32 (t : Int) 1 = ((t % 2 : Nat) : Int) := by
  have := u32_and_nat t 1 ht (by omega)
  rw [Nat.and_one_is_mod] at this
  exact this
theorem half_even {t : Nat} (ht : t < 4294967296) (h : (bits .and .u32 (t : Int) 1 == 1) = false) : (t : Int) / 2 = ((Crc.half t : Nat) : Int) := by
  rw [and_one ht] at h
  have h' : t % 2 ≠ 1 := fun e => by rw [e] at h; simp at h
  unfold Crc.half
  rw [if_neg h']
  omega
theorem half_odd {t : Nat} (ht : t < 4294967296) (h : (bits .and .u32 (t : Int) 1 == 1) = true) : bits .xor .u32 ((t : Int) / 2) 3988292384 = ((Crc.half t : Nat) : Int) := by
  rw [and_one ht] at h
  have h' : t % 2 = 1 := by
    rcases Nat.mod_two_eq_zero_or_one t with e | e
    · rw [e] at h; simp at h
    · exact e
  unfold Crc.half Crc.poly
  rw [if_pos h']
  exact u32_xor_nat (t / 2) 3988292384 (by omega) (by omega)

set_option maxHeartbeats 400000 in
theorem shift_any (s : Nat) (hs : s < 4294967296) (w : World) :
    Calls Try.prog 72 #[.int .u32 (s : Int)] w fun e w' => e = .returned (.int .u32 ((Crc.times 8 s : Nat) : Int)) ∧ w = w' := by
  go_enter Try.func72, Try.ntmps72
  go_wp2
  go_loop [0, 4] (fun t i => ∃ k : Nat, k ≤ 8 ∧ i = .int .i64 k ∧ t = .int .u32 ((Crc.times k s : Nat) : Int)) (fun _ i => 8 - (intOf i).toNat)
  case atStart => exact ⟨0, by omega, rfl, rfl⟩
  case round =>
    obtain ⟨k, hk, rfl, rfl⟩ := hrel
    have ht : Crc.times k s < 4294967296 := Crc.times_lt k hs
    by_cases hlt : k < 8
    · go_wp2
      · go_round
        case rel => exact ⟨k + 1, by omega, by go_num, u32_eq (by rw [Crc.times_succ']; exact half_odd ht (by assumption))⟩
        case measure => simp [intOf]; omega
      · go_round
        case rel => exact ⟨k + 1, by omega, by go_num, u32_eq (by rw [Crc.times_succ']; exact half_even ht (by assumption))⟩
        case measure => simp [intOf]; omega
    · obtain rfl : k = 8 := by omega
      go_wp2
      go_ret
      exact ⟨rfl, rfl⟩

theorem not_u32 {s : Nat} (hs : s < 4294967296) : bits .xor .u32 IntKind.u32.max (s : Int) = ((s ^^^ 0xFFFFFFFF : Nat) : Int) := by
  rw [Nat.xor_comm]
  exact u32_xor_nat 4294967295 s (by omega) hs

theorem run_snoc (s : Nat) (l : List Nat) (c : Nat) : Crc.run s (l ++ [c]) = Crc.step (Crc.run s l) c := by
  unfold Crc.run; rw [List.foldl_append]; rfl

theorem run_next {l : List Nat} {k x : Nat} (s : Nat) (h : k < l.length) (hx : l.getD k 0 = x) : Crc.times 8 (Crc.run s (l.take k) ^^^ x) = Crc.run s (l.take (k + 1)) := by
  rw [take_snoc l k h, run_snoc, hx]; rfl

set_option maxHeartbeats 400000 in
theorem sum_any (v : Value) (l : List Nat) (w : World) (h : Bytes w v l) :
    Calls Try.prog 71 #[v] w fun e w' => e = .returned (.int .u32 ((Crc.sum l : Nat) : Int)) ∧ w = w' := by
  obtain ⟨hb, hm, ⟨rfl, A, c, rfl⟩ | ⟨b, off, c, rfl, hc, hcell⟩⟩ := h
  · have hz := not_u32 (s := 4294967295) (by decide)
    go_enter Try.func71, Try.ntmps71
    go_wp2
    go_loop [3, 8] (fun t i => i = .int .i64 0 ∧ t = .int .u32 4294967295) (fun _ i => 0 - (intOf i).toNat)
    case atStart => exact ⟨rfl, rfl⟩
    case round =>
      obtain ⟨rfl, rfl⟩ := hrel
      go_wp2
      go_ret
      exact ⟨ret_u32 (by decide +kernel), rfl⟩
  · obtain ⟨n, hn⟩ : ∃ n, l.length = n := ⟨_, rfl⟩
    rw [hn] at hm hc hcell ⊢
    have HN := Lib.hid hn
    clear hn
    go_enter Try.func71, Try.ntmps71
    go_wp2
    go_loop [3, 8] (fun t i => ∃ k : Nat, k ≤ n ∧ i = .int .i64 k ∧ t = .int .u32 ((Crc.run 0xFFFFFFFF (l.take k) : Nat) : Int)) (fun _ i => n - (intOf i).toNat)
    case atStart => exact ⟨0, by omega, rfl, rfl⟩
    case round =>
      obtain ⟨k, hk, rfl, rfl⟩ := hrel
      have ht : Crc.run 0xFFFFFFFF (l.take k) < 4294967296 := Crc.run_lt _ (by decide) fun c hc => hb c (List.mem_of_mem_take hc)
      obtain ⟨S, hS⟩ : ∃ S, Crc.run 0xFFFFFFFF (l.take k) = S := ⟨_, rfl⟩
      rw [hS] at ht ⊢
      have HS := Lib.hid hS
      clear hS
      by_cases hlt : k < n
      · obtain ⟨x, hx, HX, hcx⟩ := getD_hid hb hcell hlt
        clear hcell hb
        go_wp2_with fail
        rw [u32_xor_nat S x ht (by omega)]
        refine (shift_any (S ^^^ x) (Crc.xor_lt ht (by omega)) _).mono ?_
        rintro e w' ⟨rfl, rfl⟩
        go_wp2
        go_round
        case rel => exact ⟨k + 1, by omega, by go_num, u32_eq (by rw [← run_next _ (by rw [HN.out]; exact hlt) HX.out, HS.out])⟩
        case measure => simp [intOf]; omega
      · obtain rfl : k = n := by omega
        go_wp2
        go_ret
        refine ⟨ret_u32 ?_, rfl⟩
        rw [not_u32 ht]
        unfold Crc.sum
        rw [← HS.out, List.take_of_length_le (by rw [HN.out]; exact Nat.le_refl _)]

theorem sum_is (v : Value) (l : List Nat) (w : World) (n : Int) (h : Bytes w v l) (hn : ((Crc.sum l : Nat) : Int) = n) :
    Calls Try.prog 71 #[v] w fun e w' => e = .returned (.int .u32 n) ∧ w = w' :=
  (sum_any v l w h).mono fun _ _ ⟨he, hw⟩ => ⟨by rw [he, hn], hw⟩

end Go.Proofs.Ytoloidfkpfdboaa

/- The document's own answer for the sum of bytes is the same plain function. -/
namespace Go.Proofs.Ytoloidfkpfdboaa
set_option maxRecDepth 100000
open Go.RowKit

set_option maxHeartbeats 400000 in
theorem ref_any (v : Value) (l : List Nat) (w : World) (h : Bytes w v l) :
    Calls Try.prog 43 #[v] w fun e w' => e = .returned (.int .u32 ((Crc.sum l : Nat) : Int)) ∧ w = w' := by
  obtain ⟨hb, hm, ⟨rfl, A, c, rfl⟩ | ⟨b, off, c, rfl, hc, hcell⟩⟩ := h
  · have hz : bits .xor .u32 4294967295 4294967295 = ((4294967295 ^^^ 4294967295 : Nat) : Int) := u32_xor_nat 4294967295 4294967295 (by omega) (by omega)
    go_enter Try.func43, Try.ntmps43
    go_wp2
    go_loop [3, 4] (fun t i => i = .int .i64 0 ∧ t = .int .u32 4294967295) (fun _ i => 0 - (intOf i).toNat)
    case atStart => exact ⟨rfl, rfl⟩
    case round =>
      obtain ⟨rfl, rfl⟩ := hrel
      go_wp2
      go_ret
      exact ⟨ret_u32 (by decide +kernel), rfl⟩
  · obtain ⟨n, hn⟩ : ∃ n, l.length = n := ⟨_, rfl⟩
    rw [hn] at hm hc hcell ⊢
    have HN := Lib.hid hn
    clear hn
    go_enter Try.func43, Try.ntmps43
    go_wp2
    go_loop [3, 4] (fun t i => ∃ k : Nat, k ≤ n ∧ i = .int .i64 k ∧ t = .int .u32 ((Crc.run 0xFFFFFFFF (l.take k) : Nat) : Int)) (fun _ i => n - (intOf i).toNat)
    case atStart => exact ⟨0, by omega, rfl, rfl⟩
    case round =>
      obtain ⟨k, hk, rfl, rfl⟩ := hrel
      have ht : Crc.run 0xFFFFFFFF (l.take k) < 4294967296 := Crc.run_lt _ (by decide) fun c hc => hb c (List.mem_of_mem_take hc)
      obtain ⟨S, hS⟩ : ∃ S, Crc.run 0xFFFFFFFF (l.take k) = S := ⟨_, rfl⟩
      rw [hS] at ht ⊢
      have HS := Lib.hid hS
      clear hS
      by_cases hlt : k < n
      · obtain ⟨x, hx, HX, hcx⟩ := getD_hid hb hcell hlt
        clear hcell hb
        have hT : S ^^^ x < 4294967296 := Crc.xor_lt ht (by omega)
        have hxor := u32_xor_nat S x ht (by omega)
        go_wp2
        clear hxor
        obtain ⟨T, hTe⟩ : ∃ T, S ^^^ x = T := ⟨_, rfl⟩
        rw [hTe] at hT ⊢
        have HT := Lib.hid hTe
        clear hTe
        go_loop [3, 5] (fun t i => ∃ j : Nat, j ≤ 8 ∧ i = .int .i64 j ∧ t = .int .u32 ((Crc.times j T : Nat) : Int)) (fun _ i => 8 - (intOf i).toNat)
        case atStart => exact ⟨0, by omega, rfl, rfl⟩
        case round =>
          obtain ⟨j, hj, rfl, rfl⟩ := hrel
          have hu : Crc.times j T < 4294967296 := Crc.times_lt j hT
          by_cases hlj : j < 8
          · go_wp2
            · go_round
              case rel => exact ⟨j + 1, by omega, by go_num, u32_eq (by rw [Crc.times_succ']; exact half_odd hu (by assumption))⟩
              case measure => simp [intOf]; omega
            · go_round
              case rel => exact ⟨j + 1, by omega, by go_num, u32_eq (by rw [Crc.times_succ']; exact half_even hu (by assumption))⟩
              case measure => simp [intOf]; omega
          · obtain rfl : j = 8 := by omega
            go_wp2
            go_round
            case rel => exact ⟨k + 1, by omega, by go_num, u32_eq (by rw [← run_next _ (by rw [HN.out]; exact hlt) HX.out, HS.out, HT.out])⟩
            case measure => simp [intOf]; omega
      · obtain rfl : k = n := by omega
        go_wp2
        go_ret
        refine ⟨ret_u32 ((u32_xor_nat S 4294967295 ht (by omega)).trans ?_), rfl⟩
        unfold Crc.sum
        rw [← HS.out, List.take_of_length_le (by rw [HN.out]; exact Nat.le_refl _)]

theorem ref_is (v : Value) (l : List Nat) (w : World) (n : Int) (h : Bytes w v l) (hn : ((Crc.sum l : Nat) : Int) = n) :
    Calls Try.prog 43 #[v] w fun e w' => e = .returned (.int .u32 n) ∧ w = w' :=
  (ref_any v l w h).mono fun _ _ ⟨he, hw⟩ => ⟨by rw [he, hn], hw⟩

end Go.Proofs.Ytoloidfkpfdboaa
