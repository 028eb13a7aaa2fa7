/- CrcsTells: any bytes have the sum that the document says, and another one if a bit, or bits within four bytes in a row, are turned. -/
import Derived.Test.YtcohnmnkoammlaaCrcRef
import Derived.Deep.DeepCutAuto
import Derived.Deep.LoopGhost
import Derived.Deep.OwnRows
import Derived.IntWalk
import Derived.BigQuiet
import Derived.Deep.QuietTactic
import Derived.RegionTactic
import Derived.Deep.RegionWith
namespace Go.Proofs.Ytcohnmnkoammlaa
open Go.ChangeShapes Go.WideShapes Go.ChangeAt Go.RowKit

set_option maxHeartbeats 1000000 in
theorem tells_long (v : Value) (l : List Nat) (at_ turn : Int) (w : World) (hv : Bytes w v l) (hl : 400 < l.length) :
    Calls Try.prog 5 #[v, .int .i64 at_, .int .i64 turn] w fun e w' => e = .returned (.bool true) ∧ Below w.heap.size w w' := by
  obtain ⟨hb, hm, A, c, rfl, hc, hx⟩ := hv.parts
  have h4 : (400 : Int) < (l.length : Int) := by omega
  go_enter Try.func5, Try.ntmps5
  go_wp2_with (go_at_call 7; refine (awake_any _).mono ?_; rintro e w' ⟨rfl, hbw⟩)
  go_ret
  exact ⟨rfl, hbw⟩

set_option maxHeartbeats 1000000 in
theorem tells_none (v : Value) (at_ turn : Int) (w : World) (hv : Bytes w v []) :
    Calls Try.prog 5 #[v, .int .i64 at_, .int .i64 turn] w fun e w' => e = .returned (.bool true) ∧ Below w.heap.size w w' := by
  have hv' := Lib.hid hv
  obtain ⟨hb, hm, A, c, rfl, hc, hx⟩ := hv.parts
  clear hv hx hm hb
  have hs : ((Crc.sum [] : Nat) : Int) = 0 := by decide +kernel
  have HS := Lib.hid hs
  clear hs
  go_enter Try.func5, Try.ntmps5
  go_wp2_with (first | (go_at_call 6; refine (sum_is _ [] _ 0 hv'.out HS.out).mono ?_; rintro e w' ⟨rfl, rfl⟩) | (go_at_call 8; refine (ref_is _ [] _ 0 hv'.out HS.out).mono ?_; rintro e w' ⟨rfl, rfl⟩) | (go_at_call 7; refine (awake_any _).mono ?_; rintro e w' ⟨rfl, hbw⟩))
  go_ret
  exact ⟨rfl, hbw⟩

/-- Bytes as cells. -/
def row8 (l : List Nat) : List Value := l.map fun n : Nat => Value.int .u8 (n : Int)
theorem row8_at {l : List Nat} {j : Nat} {u : Value} (h : (row8 l)[j]? = some u) : j < l.length ∧ u = .int .u8 ((l.getD j 0 : Nat) : Int) := by
  unfold row8 at h
  rw [List.getElem?_map] at h
  by_cases hj : j < l.length
  · rw [List.getElem?_eq_getElem hj] at h
    refine ⟨hj, ?_⟩
    rw [List.getD_eq_getElem?_getD, List.getElem?_eq_getElem hj]
    simpa using h.symm
  · rw [List.getElem?_eq_none (by omega)] at h
    cases h
theorem own_bytes {w : World} {base g n cap : Nat} {e : TypeId} {l : List Nat} (h : w.ownsRow base e 1 (.slice (some ⟨g, 0, none⟩) n cap) n (row8 l)) (hl : ∀ c ∈ l, c < 256) (hn : l.length = n) (hm : n ≤ 400) (hc : n ≤ cap) :
    Bytes w (.slice (some ⟨g, 0, none⟩) n cap) l := by
  refine Bytes.of hl hn (by omega) hc fun _ => ⟨g, 0, rfl, fun i hi => ?_⟩
  rw [show 0 + i = i from by omega, h.cellAt i (by omega)]
  unfold row8
  rw [List.getElem?_map, List.getD_eq_getElem?_getD, List.getElem?_eq_getElem (by omega)]
  rfl
theorem wpList_copy {P : Program} {w : World} {ops : Array Oper} {rest : List Oper} {o : Oper} {a : Act} {Q : Exit → Act → World → Prop} (hgd : o.guard = none) (s x : Operand) (t : TypeId)
    (ho : o.op = .call { callee := .builtin .append, args := #[s, x], argTypes := #[t, t] }) (e : TypeId) (ht : P.underlying t = some (.slice e))
    (hinfo : (P.info? e).map (fun i => (i.zero, i.size, i.bytes)) = some (some (.int .u8 0), 1, 1)) (hs : a.eval s = .slice (some ⟨w.heap.size, 0, none⟩) 0 0)
    (b off n c : Nat) (l : List Nat) (hx : a.eval x = .slice (some ⟨b, off, none⟩) n c) (hn : l.length = n) (hn0 : 0 < n) (hn4 : n ≤ 400)
    (hcell : ∀ i, i < n → w.cell? ⟨b, off + i, none⟩ = some (.int .u8 ((l.getD i 0 : Nat) : Int)))
    (h : ∀ g cap w', w.heap.size ≤ g → g < w'.heap.size → n ≤ cap → w'.ownsRow w.heap.size e 1 (.slice (some ⟨g, 0, none⟩) n cap) n (row8 l) → Below w.heap.size w w' → wpList P ops Q rest (a.put o.dst (.slice (some ⟨g, 0, none⟩) n cap)) w') :
    wpList P ops Q (o :: rest) a (w.alloc (.cells #[] e)) := by
  obtain ⟨i, hi, hz0, hz1, hz2⟩ := info_parts hinfo
  refine wpList_append_own _ hgd s x t ho w.heap.size e i (.int .u8 0) 1 1 ht hi hz0 hz1 hz2 rfl (by decide) _ 0 [] hs (World.ownsRow_made w #[] 0 (Nat.le_refl _) (by simp) (by simp)) ⟨b, off, none⟩ n c (row8 l) hx (by simp [row8, hn]) ?_ ?_ (by unfold maxLen; omega) (by omega) (by simp) ?_
  · intro j u hu
    obtain ⟨hj, rfl⟩ := row8_at hu
    have h1 := hcell j (by omega)
    rw [add_plain]
    exact (World.cell?_alloc_lt w _ _ (World.block_lt_of_cell? w _ h1)).trans h1
  · intro u hu
    obtain ⟨n, _, rfl⟩ := List.mem_map.1 hu
    rfl
  · intro v' w' hown hgrow _
    rw [Nat.zero_add, List.nil_append] at hown
    have hb : Below w.heap.size w w' := ((Below.refl _ _).alloc (Nat.le_refl _) _).grown hgrow (by simp) fun k hk => by
      have : w.heap.size = k := by simpa [Value.ownBlock] using hk
      omega
    rcases hown.2 with ⟨_, h0⟩ | ⟨g, cap, cur, rfl, hg, hgg, hnc, _⟩
    · omega
    · exact h g cap w' hg ((hown.lt g rfl).2) hnc hown hb

theorem infoU8 : (Try.prog.info? 5).map (fun i => (i.zero, i.size, i.bytes)) = some (some (.int .u8 0), 1, 1) := by kernel_rfl

theorem own_cell {w : World} {base g n cap q x : Nat} {e : TypeId} {l : List Nat} (h : w.ownsRow base e 1 (.slice (some ⟨g, 0, none⟩) n cap) n (row8 l)) (hn : l.length = n) (hq : q < n) (hx : l.getD q 0 = x) :
    w.cell? ⟨g, q, none⟩ = some (.int .u8 (x : Int)) := by
  rw [h.cellAt q (by omega)]
  unfold row8
  rw [List.getElem?_map, List.getElem?_eq_getElem (by omega)]
  rw [List.getD_eq_getElem?_getD, List.getElem?_eq_getElem (by omega), Option.getD_some] at hx
  rw [← hx]
  rfl
theorem and7 (k : Nat) (hk : k < 65536) : bits .and .i64 (k : Int) 7 = ((k % 8 : Nat) : Int) := by
  have h : bits .and .i64 (k : Int) 7 = IntKind.i64.wrap ((BitVec.ofInt 64 (k : Int) &&& BitVec.ofInt 64 7).toNat : Int) := rfl
  have hx : (BitVec.ofInt 64 (k : Int) &&& BitVec.ofInt 64 7).toNat = k % 8 := by
    rw [BitVec.toNat_and, BitVec.ofInt_natCast, BitVec.toNat_ofNat, Nat.mod_eq_of_lt (by omega)]
    exact Nat.and_two_pow_sub_one_eq_mod k 3
  rw [h, hx, IntKind.wrap_i64]
  omega
theorem parts8 (k n : Nat) (h : k < 8 * n) (hn : n ≤ 400) : ∃ q r : Nat, q < n ∧ r < 8 ∧ Hid (k = 8 * q + r) ∧ (k : Int) / 8 = (q : Int) ∧ bits .and .i64 (k : Int) 7 = (r : Int) :=
  ⟨k / 8, k % 8, by omega, by omega, (by omega : k = 8 * (k / 8) + k % 8), by omega, and7 k (by omega)⟩

theorem and_low16 (a : Int) : (bits .and .i64 a 65535).toNat ≤ 65535 ∧ bits .and .i64 a 65535 = ((bits .and .i64 a 65535).toNat : Int) := by
  have h : bits .and .i64 a 65535 = IntKind.i64.wrap ((BitVec.ofInt 64 a &&& BitVec.ofInt 64 65535).toNat : Int) := rfl
  have hx : (BitVec.ofInt 64 a &&& BitVec.ofInt 64 65535).toNat ≤ 65535 := by
    rw [BitVec.toNat_and]
    exact Nat.le_trans Nat.and_le_right (by decide)
  rw [h, IntKind.wrap_i64]
  omega
theorem rem_low (x n : Nat) (h : 0 < n) : ((x : Int).tmod (8 * (n : Int))).toNat < 8 * n ∧ (x : Int).tmod (8 * (n : Int)) = (((x : Int).tmod (8 * (n : Int))).toNat : Int) := by
  rw [Int.tmod_eq_emod_of_nonneg (by omega)]
  have h1 := Int.emod_lt_of_pos (x : Int) (show (0 : Int) < 8 * (n : Int) by omega)
  have h2 := Int.emod_nonneg (x : Int) (show (8 * (n : Int)) ≠ 0 by omega)
  omega

theorem bit_eq (x r : Nat) (hx : x < 256) (hr : r < 8) : bits .xor .u8 (x : Int) (2 ^ r % 256) = ((x ^^^ 2 ^ r : Nat) : Int) := by
  have h : (2 : Int) ^ r % 256 = ((2 ^ r : Nat) : Int) := by
    have : r = 0 ∨ r = 1 ∨ r = 2 ∨ r = 3 ∨ r = 4 ∨ r = 5 ∨ r = 6 ∨ r = 7 := by omega
    rcases this with rfl | rfl | rfl | rfl | rfl | rfl | rfl | rfl <;> decide
  rw [h]
  exact u8_xor_nat x (2 ^ r) hx (Nat.pow_lt_pow_right (by omega) hr)
theorem row8_set (l : List Nat) (q x : Nat) : row8 (l.set q x) = (row8 l).set q (.int .u8 (x : Int)) := by
  unfold row8
  exact List.map_set
/-- The byte of the turn that falls on place i. -/
def turnByte (turn : Int) (i : Nat) : Nat := ((turn / 2 ^ (8 * i)) % 256).toNat
def turnedTo (turn : Int) : Nat → Bool
  | 0 => false
  | j + 1 => turnedTo turn j || turnByte turn j != 0
/-- The row behind j rounds. -/
def yTo (l : List Nat) (q : Nat) (turn : Int) : Nat → List Nat
  | 0 => l
  | j + 1 => (yTo l q turn j).set (q + j) (l.getD (q + j) 0 ^^^ turnByte turn j)
theorem yTo_length (l : List Nat) (q : Nat) (turn : Int) (j : Nat) : (yTo l q turn j).length = l.length := by
  induction j with
  | zero => rfl
  | succ j ih => unfold yTo; rw [List.length_set, ih]
theorem getD_set (l : List Nat) (i k x : Nat) : (l.set i x).getD k 0 = if i = k ∧ i < l.length then x else l.getD k 0 := by
  simp only [List.getD_eq_getElem?_getD, List.getElem?_set]
  by_cases h : i = k
  · subst h
    by_cases hi : i < l.length
    · simp [hi]
    · simp [hi]
  · simp [h]
theorem yTo_past (l : List Nat) (q : Nat) (turn : Int) (j i : Nat) (h : q + j ≤ i ∨ i < q) : (yTo l q turn j).getD i 0 = l.getD i 0 := by
  induction j with
  | zero => rfl
  | succ j ih =>
    unfold yTo
    rw [getD_set, if_neg (by omega), ih (by omega)]
theorem yTo_next (l : List Nat) (q : Nat) (turn : Int) (j : Nat) : (yTo l q turn j).getD (q + j) 0 = l.getD (q + j) 0 := yTo_past l q turn j _ (Or.inl (Nat.le_refl _))
theorem yTo_in (l : List Nat) (q : Nat) (turn : Int) (j i : Nat) (h1 : q ≤ i) (h2 : i < q + j) (h3 : i < l.length) : (yTo l q turn j).getD i 0 = l.getD i 0 ^^^ turnByte turn (i - q) := by
  induction j with
  | zero => omega
  | succ j ih =>
    unfold yTo
    rw [getD_set, yTo_length]
    by_cases h : q + j = i
    · rw [if_pos ⟨h, by omega⟩, ← h, show q + j - q = j from by omega]
    · rw [if_neg (by omega), ih (by omega)]

theorem turn_eq (turn : Int) (j : Nat) : turn / 2 ^ (8 * j) % 256 = ((turnByte turn j : Nat) : Int) := by
  unfold turnByte
  have := Int.emod_nonneg (turn / 2 ^ (8 * j)) (show (256 : Int) ≠ 0 by decide)
  omega
theorem turnByte_lt (turn : Int) (j : Nat) : turnByte turn j < 256 := by
  have h1 := turn_eq turn j
  have h2 := Int.emod_lt_of_pos (turn / 2 ^ (8 * j)) (show (0 : Int) < 256 by decide)
  omega
theorem turn_xor (x : Nat) (turn : Int) (j : Nat) (hx : x < 256) : bits .xor .u8 (x : Int) (turn / 2 ^ (8 * j) % 256) = ((x ^^^ turnByte turn j : Nat) : Int) := by
  rw [turn_eq]
  exact u8_xor_nat x _ hx (turnByte_lt turn j)
theorem turned_no {turn : Int} {j : Nat} (h : ¬ turnedTo turn j = true) : Value.bool (turn / 2 ^ (8 * j) % 256 != 0) = .bool (turnedTo turn (j + 1)) := by
  congr 1
  unfold turnedTo
  rw [turn_eq]
  simp only [Bool.not_eq_true] at h
  rw [h, Bool.false_or]
  rw [Bool.eq_iff_iff]
  simp
theorem turned_yes {turn : Int} {j : Nat} (h : turnedTo turn j = true) : Value.bool true = .bool (turnedTo turn (j + 1)) := by
  congr 1
  unfold turnedTo
  rw [h, Bool.true_or]
theorem y_next {wr : World} {base g n cap q j x : Nat} {e : TypeId} {l : List Nat} {turn : Int} (h : wr.ownsRow base e 1 (.slice (some ⟨g, 0, none⟩) n cap) n (row8 (yTo l q turn j))) (hx : l.getD (q + j) 0 = x) :
    (wr.setCell ⟨g, q + j, none⟩ (.int .u8 ((x ^^^ turnByte turn j : Nat) : Int))).ownsRow base e 1 (.slice (some ⟨g, 0, none⟩) n cap) n (row8 (yTo l q turn (j + 1))) := by
  unfold yTo
  rw [row8_set, hx]
  exact (h.stored _ _).1

theorem Bytes.keep {w w' : World} {v : Value} {l : List Nat} (h : Bytes w v l) (hk : ∀ p : Addr, v.ownBlock = some p.block → w'.cell? p = w.cell? p) : Bytes w' v l := by
  obtain ⟨h1, h2, h3 | ⟨b, off, c, rfl, hc, hcell⟩⟩ := h
  · exact ⟨h1, h2, .inl h3⟩
  · exact ⟨h1, h2, .inr ⟨b, off, c, rfl, hc, fun i hi => (hk ⟨b, off + i, none⟩ rfl).trans (hcell i hi)⟩⟩
theorem set_lt {l : List Nat} {q x r : Nat} (hb : ∀ c ∈ l, c < 256) (hx : x < 256) (hr : r < 8) : ∀ c ∈ l.set q (x ^^^ 2 ^ r), c < 256 := fun c hc => by
  rcases List.mem_or_eq_of_mem_set hc with h | rfl
  · exact hb c h
  · exact Nat.xor_lt_two_pow (n := 8) hx (Nat.pow_lt_pow_right (by omega) hr)
theorem yTo_lt {l : List Nat} {q j : Nat} {turn : Int} (hb : ∀ c ∈ l, c < 256) : ∀ c ∈ yTo l q turn j, c < 256 := by
  induction j with
  | zero => exact hb
  | succ j ih =>
    intro c hc
    unfold yTo at hc
    rcases List.mem_or_eq_of_mem_set hc with h | rfl
    · exact ih c h
    · exact Nat.xor_lt_two_pow (n := 8) (u8_lt hb _) (turnByte_lt turn j)
/-- Two rows that differ in a few places: laid on each other they are those places' turns alone. -/
theorem diff_row {l m es : List Nat} {q : Nat} (hlen : m.length = l.length) (hq : q + es.length ≤ l.length)
    (hm : ∀ i, i < l.length → m.getD i 0 = l.getD i 0 ^^^ (if q ≤ i ∧ i < q + es.length then es.getD (i - q) 0 else 0)) :
    List.zipWith (· ^^^ ·) m l = List.replicate q 0 ++ es ++ List.replicate (l.length - q - es.length) 0 := by
  apply List.ext_getElem
  · simp; omega
  · intro i h1 h2
    have hi : i < l.length := by simp at h1; omega
    have him : i < m.length := by omega
    have e := hm i hi
    simp only [List.getD_eq_getElem?_getD] at e
    rw [List.getElem?_eq_getElem hi, List.getElem?_eq_getElem him, Option.getD_some, Option.getD_some] at e
    rw [List.getElem_zipWith, e]
    have e2 : l[i] ^^^ (if q ≤ i ∧ i < q + es.length then es[i - q]?.getD 0 else 0) ^^^ l[i] = if q ≤ i ∧ i < q + es.length then es[i - q]?.getD 0 else 0 := by
      rw [Nat.xor_comm (l[i]), Nat.xor_assoc, Nat.xor_self, Nat.xor_zero]
    rw [e2]
    by_cases ha : i < q
    · rw [if_neg (by omega)]
      rw [List.getElem_append_left (by simp; omega), List.getElem_append_left (by simp; omega)]
      simp
    · by_cases hb : i < q + es.length
      · rw [if_pos ⟨by omega, hb⟩]
        rw [List.getElem_append_left (by simp; omega), List.getElem_append_right (by simp; omega)]
        simp only [List.length_replicate]
        rw [List.getElem?_eq_getElem (by omega)]
        rfl
      · rw [if_neg (by omega)]
        rw [List.getElem_append_right (by simp; omega)]
        simp
theorem bit_ne {l : List Nat} {q x r : Nat} (_hb : ∀ c ∈ l, c < 256) (hq : q < l.length) (hx : l.getD q 0 = x) (hr : r < 8) : Crc.sum (l.set q (x ^^^ 2 ^ r)) ≠ Crc.sum l := by
  have hp : 2 ^ r < 256 := Nat.pow_lt_pow_right (n := 8) (by omega) hr
  refine Crc.sum_ne_of _ _ (by simp) ?_
  rw [diff_row (es := [2 ^ r]) (q := q) (by simp) (by simp; omega) (fun i hi => ?_)]
  · exact Crc.run_burst q _ [2 ^ r] (by simp) (by simpa using hp) ⟨2 ^ r, by simp, by have := Nat.two_pow_pos r; omega⟩
  · rw [getD_set]
    by_cases h : q = i
    · subst h
      rw [if_pos ⟨rfl, hq⟩, if_pos (by simp), hx]
      simp
    · rw [if_neg (by omega), if_neg (by simp; omega), Nat.xor_zero]
theorem turned_some {turn : Int} {j : Nat} (h : turnedTo turn j = true) : ∃ i, i < j ∧ turnByte turn i ≠ 0 := by
  induction j with
  | zero => cases h
  | succ j ih =>
    unfold turnedTo at h
    rcases Bool.or_eq_true_iff.1 h with h | h
    · obtain ⟨i, hi, h⟩ := ih h
      exact ⟨i, by omega, h⟩
    · exact ⟨j, by omega, by simpa using h⟩
theorem turned_none {turn : Int} {j : Nat} (h : turnedTo turn j = false) (i : Nat) (hi : i < j) : turnByte turn i = 0 := by
  induction j with
  | zero => omega
  | succ j ih =>
    unfold turnedTo at h
    rw [Bool.or_eq_false_iff] at h
    by_cases e : i = j
    · subst e; simpa using h.2
    · exact ih h.1 (by omega)
theorem turn_ne {l : List Nat} {q j : Nat} {turn : Int} (_hb : ∀ c ∈ l, c < 256) (hq : q + j ≤ l.length) (hj : j ≤ 4) (ht : turnedTo turn j = true) : Crc.sum (yTo l q turn j) ≠ Crc.sum l := by
  obtain ⟨i0, hi0, hne⟩ := turned_some ht
  refine Crc.sum_ne_of _ _ (yTo_length l q turn j) ?_
  rw [diff_row (es := (List.range j).map (turnByte turn)) (q := q) (yTo_length l q turn j) (by simp; omega) (fun i hi => ?_)]
  · refine Crc.run_burst q _ _ (by simp; omega) (fun c hc => ?_) ⟨turnByte turn i0, List.mem_map.2 ⟨i0, by simpa using hi0, rfl⟩, hne⟩
    obtain ⟨i, _, rfl⟩ := List.mem_map.1 hc
    exact turnByte_lt turn i
  · simp only [List.length_map, List.length_range]
    by_cases h : q ≤ i ∧ i < q + j
    · rw [if_pos h, yTo_in l q turn j i h.1 h.2 hi]
      congr 1
      rw [List.getD_eq_getElem?_getD, List.getElem?_map, List.getElem?_range (by omega)]
      rfl
    · rw [if_neg h, yTo_past l q turn j i (by omega), Nat.xor_zero]
theorem turn_same (l : List Nat) (q : Nat) (turn : Int) (j : Nat) (ht : turnedTo turn j = false) : yTo l q turn j = l := by
  apply List.ext_getElem (yTo_length l q turn j)
  intro i h1 h2
  have : (yTo l q turn j).getD i 0 = l.getD i 0 := by
    by_cases h : q ≤ i ∧ i < q + j
    · rw [yTo_in l q turn j i h.1 h.2 h2, turned_none ht (i - q) (by omega), Nat.xor_zero]
    · exact yTo_past l q turn j i (by omega)
  simp only [List.getD_eq_getElem?_getD] at this
  rwa [List.getElem?_eq_getElem h1, List.getElem?_eq_getElem h2, Option.getD_some, Option.getD_some] at this

set_option maxHeartbeats 1000000 in
theorem tells_some (v : Value) (l : List Nat) (at_ turn : Int) (w : World) (hv : Bytes w v l) (h0 : 0 < l.length) (hl : l.length ≤ 400) :
    Calls Try.prog 5 #[v, .int .i64 at_, .int .i64 turn] w fun e w' => e = .returned (.bool true) ∧ Below w.heap.size w w' := by
  have hv' := Lib.hid hv
  obtain ⟨hb, hm, A, c, rfl, hc, hx⟩ := hv.parts
  obtain ⟨b, off, rfl, hcell⟩ := hx h0
  have hblk : b < w.heap.size := World.block_lt_of_cell? w _ (hcell 0 h0)
  clear hv hx hm
  obtain ⟨n, hn⟩ : ∃ n, l.length = n := ⟨_, rfl⟩
  rw [hn] at hv' hc hcell h0 hl ⊢
  obtain ⟨s, hs⟩ : ∃ s : Nat, Crc.sum l = s := ⟨_, rfl⟩
  have HS := Lib.hid (show ((Crc.sum l : Nat) : Int) = (s : Int) by rw [hs])
  have HN := Lib.hid hn
  clear hn hs
  have z0 : ((n : Int) == 0) = false := by simp; omega
  have z1 : ¬ (400 : Int) < (n : Int) := by omega
  obtain ⟨x, hx0, hx1⟩ : ∃ x : Nat, x ≤ 65535 ∧ bits .and .i64 at_ 65535 = (x : Int) := ⟨_, and_low16 at_⟩
  obtain ⟨k, hk0, hk1⟩ : ∃ k : Nat, k < 8 * n ∧ (x : Int).tmod (8 * (n : Int)) = (k : Int) := ⟨_, rem_low x n h0⟩
  go_enter Try.func5, Try.ntmps5
  go_wp2_with (first | (go_at_call 6; refine (sum_is _ l _ s hv'.out HS.out).mono ?_; rintro e w' ⟨rfl, rfl⟩) | (go_at_call 8; refine (ref_is _ l _ s hv'.out HS.out).mono ?_; rintro e w' ⟨rfl, rfl⟩) | (at_builtin; refine wpList_copy rfl _ _ _ rfl _ Try.underlying26 infoU8 rfl b off n c l rfl HN.out h0 hl ?_ ?_))
  case refine_1 => exact hcell
  case refine_2 =>
  intro g1 c1 w1 hg1 hg1' hc1 hown1 hbel1
  have hcell1 : ∀ i, i < n → w1.cell? ⟨b, off + i, none⟩ = some (.int .u8 ((l.getD i 0 : Nat) : Int)) := fun i hi => (hbel1.cell (p := ⟨b, off + i, none⟩) (World.block_lt_of_cell? w _ (hcell i hi))).trans (hcell i hi)
  clear hcell
  go_wp2_with (at_builtin; refine wpList_copy rfl _ _ _ rfl _ Try.underlying26 infoU8 rfl b off n c l rfl HN.out h0 hl ?_ ?_)
  case refine_1 => exact hcell1
  case refine_2 =>
  intro g2 c2 w2 hg2 hg2' hc2 hown2 hbel2
  clear hcell1
  obtain ⟨q, r, hq, hr, HK, q1, r1⟩ := parts8 k n hk0 hl
  obtain ⟨xq, hxq, HXQ⟩ : ∃ xq : Nat, xq < 256 ∧ Hid (l.getD q 0 = xq) := ⟨_, u8_lt hb q, rfl⟩
  have f1 : w2.cell? ⟨g1, q, none⟩ = some (.int .u8 (xq : Int)) := (hbel2.cell (p := ⟨g1, q, none⟩) hg1').trans (own_cell hown1 HN.out hq HXQ.out)
  have z1 : w2.frozen? ⟨g1, q, none⟩ = false := (hbel2.frozen (p := ⟨g1, q, none⟩) hg1').trans (hown1.frozenAt q)
  go_wp2
  rw [bit_eq xq r hxq hr]
  obtain ⟨w3, hw3⟩ : ∃ w3, w2.setCell ⟨g1, q, none⟩ (.int .u8 ((xq ^^^ 2 ^ r : Nat) : Int)) = w3 := ⟨_, rfl⟩
  have hx3 : w3.ownsRow w.heap.size 5 1 (.slice (some ⟨g1, 0, none⟩) n c1) n (row8 (l.set q (xq ^^^ 2 ^ r))) := by
    rw [← hw3, row8_set]; exact ((hown1.kept (row := none) ⟨hbel2.os, hbel2.tape, hbel2.output, hbel2.size, fun i hi _ => hbel2.block i hi⟩ (by simp [Value.ownBlock])).stored q _).1
  have hy3 : w3.ownsRow w1.heap.size 5 1 (.slice (some ⟨g2, 0, none⟩) n c2) n (row8 l) := by
    rw [← hw3]; exact hown2.kept ((hown1.kept (row := none) ⟨hbel2.os, hbel2.tape, hbel2.output, hbel2.size, fun i hi _ => hbel2.block i hi⟩ (by simp [Value.ownBlock])).stored q _).2 (by simp [Value.ownBlock]; omega)
  have hb3 : Below w.heap.size w w3 := by
    rw [← hw3]; exact ((hbel1.trans (hbel2.mono hbel1.size)).setCell hg1 _)
  rw [hw3]
  clear hw3 hown1 hown2 hbel1 hbel2 f1 z1
  go_loopw [10, 11] (fun t i wr => ∃ j : Nat, j ≤ 4 ∧ q + j ≤ n ∧ i = .int .i64 j ∧ t = .bool (turnedTo turn j) ∧ wr.ownsRow w1.heap.size 5 1 (.slice (some ⟨g2, 0, none⟩) n c2) n (row8 (yTo l q turn j)) ∧ Below g2 w3 wr) (fun _ i _ => 4 - (intOf i).toNat)
  case atStart => exact ⟨0, by omega, by omega, rfl, rfl, hy3, Below.refl _ _⟩
  case round =>
    obtain ⟨j, hj4, hjn, rfl, rfl, hy, hby⟩ := hrel
    by_cases hlt : j < 4 ∧ q + j < n
    · obtain ⟨hj, hq2⟩ := hlt
      have t1 : (j : Int) < 4 := by omega
      have t2 : (q : Int) + (j : Int) < (n : Int) := by omega
      have t3 : IntKind.i64.wrap ((q : Int) + (j : Int)) = (q : Int) + (j : Int) := IntWalk.i64_in _ (by omega)
      obtain ⟨xj, hxj, HXJ⟩ : ∃ xj : Nat, xj < 256 ∧ Hid (l.getD (q + j) 0 = xj) := ⟨_, u8_lt hb _, rfl⟩
      have f2 : wr.cell? ⟨g2, q + j, none⟩ = some (.int .u8 (xj : Int)) := own_cell hy (by rw [yTo_length]; exact HN.out) hq2 (by rw [yTo_next]; exact HXJ.out)
      have z2 : wr.frozen? ⟨g2, q + j, none⟩ = false := hy.frozenAt (q + j)
      go_wp2
      all_goals
        rw [turn_xor xj turn j hxj]
        go_roundw
        case rel => exact ⟨j + 1, by omega, by omega, by go_num, (by first | exact turned_yes (by assumption) | exact turned_no (by assumption)), y_next hy HXJ.out, hby.setCell (Nat.le_refl _) _⟩
        case measure => simp [intOf]; omega
    · have hstop : j = 4 ∨ (j < 4 ∧ q + j = n) := by omega
      have K0 : Hid (Bytes wr (.slice (some ⟨b, off, none⟩) n c) l) := hv'.out.keep fun p hp => by
        have hbp : b = p.block := by simpa [Value.ownBlock] using hp
        exact (hby.cell (by omega)).trans (hb3.cell (by omega))
      have KX : Hid (Bytes wr (.slice (some ⟨g1, 0, none⟩) n c1) (l.set q (xq ^^^ 2 ^ r))) := (own_bytes hx3 (set_lt hb hxq hr) (by rw [List.length_set]; exact HN.out) hl hc1).keep fun p hp => by
        have hbp : g1 = p.block := by simpa [Value.ownBlock] using hp
        exact hby.cell (by omega)
      have KY : Hid (Bytes wr (.slice (some ⟨g2, 0, none⟩) n c2) (yTo l q turn j)) := own_bytes hy (yTo_lt hb) (by rw [yTo_length]; exact HN.out) hl hc2
      obtain ⟨sx, hsx⟩ : ∃ sx : Nat, Crc.sum (l.set q (xq ^^^ 2 ^ r)) = sx := ⟨_, rfl⟩
      obtain ⟨sy, hsy⟩ : ∃ sy : Nat, Crc.sum (yTo l q turn j) = sy := ⟨_, rfl⟩
      have n1 : ((sx : Int) != (s : Int)) = true := by
        have := bit_ne hb (by rw [HN.out]; exact hq) HXQ.out hr
        have hs' : Crc.sum l = s := by have := HS.out; omega
        rw [hsx, hs'] at this
        simpa using fun e : (sx : Int) = (s : Int) => this (by omega)
      have hyes : turnedTo turn j = true → ((sy : Int) == (s : Int)) = false := fun ht => by
        have := turn_ne hb (by rw [HN.out]; exact hjn) hj4 ht
        have hs' : Crc.sum l = s := by have := HS.out; omega
        rw [hsy, hs'] at this
        simpa using fun e : (sy : Int) = (s : Int) => this (by omega)
      have hno : turnedTo turn j = false → sy = s := fun ht => by
        have := turn_same l q turn j ht
        have hs' : Crc.sum l = s := by have := HS.out; omega
        rw [← hsy, this, hs']
      have HSX := Lib.hid (show ((Crc.sum (l.set q (xq ^^^ 2 ^ r)) : Nat) : Int) = (sx : Int) by rw [hsx])
      have HSY := Lib.hid (show ((Crc.sum (yTo l q turn j) : Nat) : Int) = (sy : Int) by rw [hsy])
      have hbel : Below w.heap.size w wr := hb3.trans (hby.mono (by omega))
      clear hsx hsy hx3 hy3 hy hby hb3 hq hx0 hk0 hb HXQ HK hxq hr
      have t3 : IntKind.i64.wrap ((q : Int) + (j : Int)) = (q : Int) + (j : Int) := IntWalk.i64_in _ (by omega)
      rcases hstop with h4 | ⟨h4, hend⟩
      · subst h4
        rcases Bool.eq_false_or_eq_true (turnedTo turn 4) with ht | ht
        · have n2 := hyes ht
          clear hyes hno
          rw [ht] at *
          go_wp2_with (first | (go_at_call_of 6 (Value.slice (some ⟨g1, 0, none⟩) n c1); refine (sum_is _ _ _ _ KX.out HSX.out).mono ?_; rintro e w' ⟨rfl, rfl⟩) | (go_at_call_of 6 (Value.slice (some ⟨g2, 0, none⟩) n c2); refine (sum_is _ _ _ _ KY.out HSY.out).mono ?_; rintro e w' ⟨rfl, rfl⟩) | (go_at_call_of 6 (Value.slice (some ⟨b, off, none⟩) n c); refine (sum_is _ _ _ _ K0.out HS.out).mono ?_; rintro e w' ⟨rfl, rfl⟩) | (go_at_call 7; refine (awake_any _).mono ?_; rintro e w' ⟨rfl, hbw⟩))
          go_ret
          exact ⟨rfl, hbel.trans (hbw.mono hbel.size)⟩
        · obtain rfl := hno ht
          clear hyes hno
          rw [ht] at *
          go_wp2_with (first | (go_at_call_of 6 (Value.slice (some ⟨g1, 0, none⟩) n c1); refine (sum_is _ _ _ _ KX.out HSX.out).mono ?_; rintro e w' ⟨rfl, rfl⟩) | (go_at_call_of 6 (Value.slice (some ⟨g2, 0, none⟩) n c2); refine (sum_is _ _ _ _ KY.out HSY.out).mono ?_; rintro e w' ⟨rfl, rfl⟩) | (go_at_call_of 6 (Value.slice (some ⟨b, off, none⟩) n c); refine (sum_is _ _ _ _ K0.out HS.out).mono ?_; rintro e w' ⟨rfl, rfl⟩) | (go_at_call 7; refine (awake_any _).mono ?_; rintro e w' ⟨rfl, hbw⟩))
          go_ret
          exact ⟨rfl, hbel.trans (hbw.mono hbel.size)⟩
      · have t1 : (j : Int) < 4 := by omega
        have t2 : ¬ (q : Int) + (j : Int) < (n : Int) := by omega
        rcases Bool.eq_false_or_eq_true (turnedTo turn j) with ht | ht
        · have n2 := hyes ht
          clear hyes hno hend
          rw [ht] at *
          go_wp2_with (first | (go_at_call_of 6 (Value.slice (some ⟨g1, 0, none⟩) n c1); refine (sum_is _ _ _ _ KX.out HSX.out).mono ?_; rintro e w' ⟨rfl, rfl⟩) | (go_at_call_of 6 (Value.slice (some ⟨g2, 0, none⟩) n c2); refine (sum_is _ _ _ _ KY.out HSY.out).mono ?_; rintro e w' ⟨rfl, rfl⟩) | (go_at_call_of 6 (Value.slice (some ⟨b, off, none⟩) n c); refine (sum_is _ _ _ _ K0.out HS.out).mono ?_; rintro e w' ⟨rfl, rfl⟩) | (go_at_call 7; refine (awake_any _).mono ?_; rintro e w' ⟨rfl, hbw⟩))
          go_ret
          exact ⟨rfl, hbel.trans (hbw.mono hbel.size)⟩
        · obtain rfl := hno ht
          clear hyes hno hend
          rw [ht] at *
          go_wp2_with (first | (go_at_call_of 6 (Value.slice (some ⟨g1, 0, none⟩) n c1); refine (sum_is _ _ _ _ KX.out HSX.out).mono ?_; rintro e w' ⟨rfl, rfl⟩) | (go_at_call_of 6 (Value.slice (some ⟨g2, 0, none⟩) n c2); refine (sum_is _ _ _ _ KY.out HSY.out).mono ?_; rintro e w' ⟨rfl, rfl⟩) | (go_at_call_of 6 (Value.slice (some ⟨b, off, none⟩) n c); refine (sum_is _ _ _ _ K0.out HS.out).mono ?_; rintro e w' ⟨rfl, rfl⟩) | (go_at_call 7; refine (awake_any _).mono ?_; rintro e w' ⟨rfl, hbw⟩))
          go_ret
          exact ⟨rfl, hbel.trans (hbw.mono hbel.size)⟩

set_option maxRecDepth 100000 in
theorem tells_lifted (os : Os) (started : os.Started) (H : Type) (enc : TypeId × Value → H) :
    ReturnsInHanded {} Try.checked os 5 .any (Rows.crcsTellsSpec.pre6 enc Try.prog Try.f5 Rows.crcsTellsRow.domain false) (Rows.crcsTellsSpec.post enc Try.prog Try.f5 false true false false) := by
  refine returnsInHanded_of_change (C := Try.checked) own started (by kernel_rfl) Try.func5
    (ChangeSpec.witness6 (enc := enc) (C := Try.checked) false ⟨#[], #[.slice none 0 0, .int .i64 0, .int .i64 0], []⟩ 8 (by kernel_rfl) (by kernel_rfl) (by kernel_rfl) (by kernel_rfl)) ?_
  intro W base args ds gs before hval hW _ _
  have hW' := hW
  obtain ⟨p, q, hA, hV, _, _, _⟩ := hW
  rw [show Try.f5.params.toList = [26, 3, 3] from by kernel_rfl] at hA
  obtain ⟨v0, v1, v2, d0, d1, d2, p0, p1, p2, rfl, rfl, rfl, h0, h1, h2⟩ := trodAll_three hA
  obtain ⟨l, hb⟩ := open_bytes (hval 0 26 v0 (by kernel_rfl) rfl) h0
  obtain ⟨a, rfl, rfl, rfl, _⟩ := open_int Try.underlying3 (hval 1 3 v1 (by kernel_rfl) rfl) h1
  obtain ⟨t, rfl, rfl, rfl, _⟩ := open_int Try.underlying3 (hval 2 3 v2 (by kernel_rfl) rfl) h2
  have walk : Calls Try.prog 5 #[v0, .int .i64 a, .int .i64 t] W fun e w' => e = .returned (.bool true) ∧ Below W.heap.size W w' := by
    rcases Nat.lt_or_ge 400 l.length with h | h
    · exact tells_long v0 l a t W hb h
    · rcases Nat.eq_zero_or_pos l.length with h0 | h0
      · have : l = [] := List.eq_nil_of_length_eq_zero h0
        subst this
        exact tells_none v0 a t W hb
      · exact tells_some v0 l a t W hb h0 h
  refine walk.mono fun e W' ⟨he, hb⟩ => ⟨_, he, ?_⟩
  exact law_post laidOut (by kernel_rfl) (by kernel_rfl) Try.underlying4 rfl hW' (by simp [Rows.crcsTellsSpec]) hb

theorem tells_holds : Rows.CrcsTellsSaid :=
  OpenClaim.holds_of_wide 5 Try.f5 rfl rfl rfl rfl rfl rfl rfl ⟨rfl, rfl, rfl, rfl, rfl⟩ rfl rfl rfl rfl rfl (by kernel_rfl) Try.func5 (by kernel_rfl)
    (of_decide_eq_true (by kernel_rfl)) (by unfold Func.isWrapper; first | (rw [if_pos (by decide +kernel)]; kernel_rfl) | (rw [if_neg (by decide +kernel)]; exact ⟨rfl, rfl⟩))
    (fun os started H enc _ => tells_lifted os started H enc)

#print axioms tells_holds
end Go.Proofs.Ytcohnmnkoammlaa
