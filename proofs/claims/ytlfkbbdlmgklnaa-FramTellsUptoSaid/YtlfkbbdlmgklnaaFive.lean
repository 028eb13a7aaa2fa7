/- What the statements on any bytes share: five rows of bytes in a row; a number's low bits; a byte of a row turned. -/
import Derived.Test.YtlfkbbdlmgklnaaBytes
import Derived.Deep.RegionHeld
import Derived.Deep.RegionHeld3
namespace Go.Proofs.Ytlfkbbdlmgklnaa
open Go.ChangeShapes Go.WideShapes Go.ChangeAt Go.RowKit

theorem below_drew {w W w' : World} (e : W = w ∨ W = w.drew ∨ W = w.drew.drew) (h : Below W.heap.size W w') : Below w.heap.size w w' := by
  rcases e with rfl | rfl | rfl <;> exact ⟨h.os, h.tape, h.output, h.size, h.block⟩

theorem and_low16 (a : Int) : (bits .and .i64 a 65535).toNat ≤ 65535 ∧ bits .and .i64 a 65535 = ((bits .and .i64 a 65535).toNat : Int) := by
  have h : bits .and .i64 a 65535 = IntKind.i64.wrap ((BitVec.ofInt 64 a &&& BitVec.ofInt 64 65535).toNat : Int) := rfl
  have hx : (BitVec.ofInt 64 a &&& BitVec.ofInt 64 65535).toNat ≤ 65535 := by
    rw [BitVec.toNat_and]
    exact Nat.le_trans Nat.and_le_right (by decide)
  rw [h, IntKind.wrap_i64]
  omega
theorem low_rem (a : Int) (M : Nat) (h : 0 < M) : ∃ p : Nat, p < M ∧ (bits .and .i64 a 65535).tmod (M : Int) = (p : Int) := by
  obtain ⟨q1, q2⟩ := and_low16 a
  rw [q2, Int.tmod_eq_emod_of_nonneg (by omega)]
  have h1 := Int.emod_lt_of_pos (((bits .and .i64 a 65535).toNat : Nat) : Int) (show (0 : Int) < (M : Int) by omega)
  have h2 := Int.emod_nonneg (((bits .and .i64 a 65535).toNat : Nat) : Int) (show (M : Int) ≠ 0 by omega)
  exact ⟨((((bits .and .i64 a 65535).toNat : Nat) : Int) % (M : Int)).toNat, by omega, by omega⟩
theorem Own.heap {w W : World} {base : Nat} {v : Value} {l : List Nat} (h : Own w base v l) (e : W.heap = w.heap) : Own W base v l := by
  unfold Own World.ownsRow at *
  rw [e]
  exact h
theorem Own.addr {w : World} {base n c : Nat} {A : Option Addr} {l : List Nat} (h : Own w base (.slice A n c) l) (h0 : 0 < n) : ∃ g, A = some ⟨g, 0, none⟩ ∧ base ≤ g ∧ (∀ i, w.frozen? ⟨g, i, none⟩ = false) ∧ ∀ i, i < n → w.cell? ⟨g, i, none⟩ = some (.int .u8 ((l.getD i 0 : Nat) : Int)) := by
  have hn := h.bytes.len
  have hb := h.bytes
  rcases h.1.2 with ⟨e, _⟩ | ⟨g, cap, cur, e, hg, _⟩
  · injection e with _ e
    omega
  · injection e with e1 e2 e3
    subst e1
    have hrow := h.1
    rw [hn] at hrow
    refine ⟨g, rfl, hg, fun i => hrow.frozenAt i, fun i hi => ?_⟩
    obtain ⟨_, _, B, d, e, _, hx⟩ := hb.parts
    injection e with e4 e5 e6
    subst e4
    obtain ⟨b, off, e, hc⟩ := hx (by omega)
    injection e with e
    injection e with e7 e8
    subst e7 e8
    have := hc i (by omega)
    rwa [show 0 + i = i from by omega] at this
theorem Own.set {w : World} {base n c g p b : Nat} {l : List Nat} (h : Own w base (.slice (some ⟨g, 0, none⟩) n c) l) (hb : b < 256) : Own (w.setCell ⟨g, p, none⟩ (.int .u8 (b : Int))) base (.slice (some ⟨g, 0, none⟩) n c) (l.set p b) := by
  have hn := h.bytes.len
  refine ⟨?_, fun x hx => ?_⟩
  · rw [List.length_set, row8_set, hn]
    have := h.1
    rw [hn] at this
    exact (this.stored p _).1
  · rcases List.mem_or_eq_of_mem_set hx with h1 | rfl
    · exact h.2 x h1
    · exact hb
theorem run_min2 {P : Program} (w : World) (ts : Array TypeId) (t : TypeId) (x y n : Int) (h : min x y = n) : (Builtin.min_ ts t #[.int .i64 x, .int .i64 y]).run P w = .ok (.int .i64 n) w := by
  have e : (if y < x then y else x) = n := by
    subst h
    simp only [Int.min_def]
    split <;> split <;> omega
  simp [Builtin.min_, Builtin.min2, e]

/-- A slice of few bytes. -/
def Good (w : World) (x : Value) : Prop := ∃ l, Bytes w x l ∧ l.length ≤ 2097152
theorem Good.under {w w' : World} {x : Value} (h : Good w x) (hb : Below w.heap.size w w') : Good w' x := by
  obtain ⟨l, h1, h2⟩ := h
  exact ⟨l, h1.under hb, h2⟩
def Five (T : Nat) (w : World) : Prop := ∀ j, j < 5 → ∃ x, w.cell? ⟨T, j, none⟩ = some x ∧ Good w x
theorem five_of {w : World} {x0 x1 x2 x3 x4 : Value} {e : TypeId} (h0 : Good w x0) (h1 : Good w x1) (h2 : Good w x2) (h3 : Good w x3) (h4 : Good w x4) : Five w.heap.size (w.alloc (.cells #[x0, x1, x2, x3, x4] e)) := by
  have hB : Blk (w.alloc (.cells #[x0, x1, x2, x3, x4] e)) w.heap.size e #[x0, x1, x2, x3, x4] := heap_alloc_new w _
  have hb : Below w.heap.size w (w.alloc (.cells #[x0, x1, x2, x3, x4] e)) := (Below.refl _ _).alloc (Nat.le_refl _) _
  intro j hj
  have : j = 0 ∨ j = 1 ∨ j = 2 ∨ j = 3 ∨ j = 4 := by omega
  rcases this with rfl | rfl | rfl | rfl | rfl
  · exact ⟨x0, hB.at 0, h0.under hb⟩
  · exact ⟨x1, hB.at 1, h1.under hb⟩
  · exact ⟨x2, hB.at 2, h2.under hb⟩
  · exact ⟨x3, hB.at 3, h3.under hb⟩
  · exact ⟨x4, hB.at 4, h4.under hb⟩
theorem Five.heap {T : Nat} {w W : World} (h : Five T w) (e : W.heap = w.heap) : Five T W := fun j hj => by
  obtain ⟨x, h1, l, h2, h3⟩ := h j hj
  refine ⟨x, ?_, l, h2.heap e, h3⟩
  rw [← h1]
  unfold World.cell?
  rw [e]
theorem Five.under {T : Nat} {w w' : World} (h : Five T w) (hb : Below w.heap.size w w') : Five T w' := fun j hj => by
  obtain ⟨x, h1, h2⟩ := h j hj
  exact ⟨x, cell_later hb h1, h2.under hb⟩

end Go.Proofs.Ytlfkbbdlmgklnaa
