/- The program's own reader of one line: what each of its calls tells, and where it leaves the reader. -/
import Derived.Test.YtpebkdmoloiecaaLineRef
import Derived.Test.YtpebkdmoloiecaaLineOwnMath
import Derived.BigRegion
import Derived.Deep.RegionHeld3
import Derived.Deep.RegionWith
import Derived.Deep.CutBlock
namespace Go.Proofs.Ytpebkdmoloiecaa
open Go.ChangeShapes Go.WideShapes Go.ChangeAt Go.RowKit

/-- A reader of a line, in a block of its own: the line's bytes as they were at the beginning; which line; how far it is. -/
def Rd (w0 : World) (v : Value) (t : List Nat) (num g i : Nat) (w : World) : Prop :=
  Bytes w0 v t ∧ Below w0.heap.size w0 w ∧ w0.heap.size ≤ g ∧ Blk w g 53 #[v, .int .i64 (num : Int), .int .i64 (i : Int)]
theorem Rd.bytes {w0 w : World} {v : Value} {t : List Nat} {num g i : Nat} (h : Rd w0 v t num g i w) : Bytes w v t := h.1.under h.2.1
theorem Rd.blk {w0 w : World} {v : Value} {t : List Nat} {num g i : Nat} (h : Rd w0 v t num g i w) : Blk w g 53 #[v, .int .i64 (num : Int), .int .i64 (i : Int)] := h.2.2.2
theorem Rd.size {w0 w : World} {v : Value} {t : List Nat} {num g i : Nat} (h : Rd w0 v t num g i w) : g < w.heap.size := h.2.2.2.size
theorem Rd.alloc {w0 w : World} {v : Value} {t : List Nat} {num g i : Nat} (h : Rd w0 v t num g i w) (o : Obj) : Rd w0 v t num g i (w.alloc o) := ⟨h.1, h.2.1.alloc h.2.1.size _, h.2.2.1, h.2.2.2.alloc _⟩
theorem Rd.under {w0 w w' : World} {v : Value} {t : List Nat} {num g i : Nat} (h : Rd w0 v t num g i w) (hb : Below w.heap.size w w') : Rd w0 v t num g i w' := ⟨h.1, h.2.1.trans (hb.mono h.2.1.size), h.2.2.1, h.2.2.2.under hb⟩
theorem Rd.heap {w0 w W : World} {v : Value} {t : List Nat} {num g i : Nat} (h : Rd w0 v t num g i w) (nq : Nat) (e : W = w.drewN nq) : Rd w0 v t num g i W := by
  subst e
  exact ⟨h.1, ⟨h.2.1.1, h.2.1.2, h.2.1.3, h.2.1.4, h.2.1.5⟩, h.2.2.1, h.2.2.2⟩
theorem Rd.setOther {w0 w : World} {v : Value} {t : List Nat} {num g i : Nat} (h : Rd w0 v t num g i w) {p : Addr} (hp : g ≠ p.block) (h0 : w0.heap.size ≤ p.block) (u : Value) : Rd w0 v t num g i (w.setCell p u) := ⟨h.1, h.2.1.setCell h0 _, h.2.2.1, h.2.2.2.setOther hp _⟩
theorem Rd.move {w0 w : World} {v : Value} {t : List Nat} {num g i : Nat} (h : Rd w0 v t num g i w) (j : Nat) : Rd w0 v t num g j (w.setCell ⟨g, 2, none⟩ (.int .i64 (j : Int))) := ⟨h.1, h.2.1.setCell h.2.2.1 _, h.2.2.1, h.2.2.2.set 2 _⟩

theorem grow_below {w W W' : World} {row : Option Nat} (h : w.grownBy W row) (hb : Below w.heap.size W W') : w.grownBy W' row :=
  ⟨hb.os.trans h.os, hb.tape.trans h.tape, hb.output.trans h.output, Nat.le_trans h.size hb.size, fun k hk hne => (hb.block k hk).trans (h.block k hk hne)⟩
theorem grow_set {w W : World} {g : Nat} (h : w.grownBy W (some g)) {p : Addr} (hp : w.heap.size ≤ p.block ∨ p.block = g) (u : Value) : w.grownBy (W.setCell p u) (some g) :=
  ⟨h.os, h.tape, h.output, by simpa using h.size, fun k hk hne => (Below.heap_setCell W p u k fun e => by
    rcases hp with hp | hp
    · omega
    · exact hne (by rw [e, hp])).trans (h.block k hk hne)⟩
theorem grow_trans {w w1 w2 : World} {row : Option Nat} (h : w.grownBy w1 row) (h2 : w1.grownBy w2 row) : w.grownBy w2 row :=
  ⟨h2.os.trans h.os, h2.tape.trans h.tape, h2.output.trans h.output, Nat.le_trans h.size h2.size, fun k hk hne => (h2.block k (Nat.lt_of_lt_of_le hk h.size) hne).trans (h.block k hk hne)⟩

set_option maxRecDepth 100000 in
set_option maxHeartbeats 2000000 in
theorem blank_any (x : Nat) (w : World) : Calls Try.prog 26 #[.int .u8 x] w fun e w' => e = .returned (.bool (decide (x = 32 ∨ x = 9))) ∧ w = w' := by
  go_enter Try.func26, Try.ntmps26
  by_cases h1 : x = 32
  · subst h1
    go_wp2
    go_ret
    exact ⟨rfl, rfl⟩
  · have d1 : ((x : Int) == 32) = false := by simp; omega
    by_cases h2 : x = 9
    · subst h2
      go_wp2
      go_ret
      exact ⟨rfl, rfl⟩
    · have d2 : ((x : Int) == 9) = false := by simp; omega
      have e : decide (x = 32 ∨ x = 9) = false := by simp [h1, h2]
      rw [e]
      clear e h1 h2
      go_wp2
      go_ret
      exact ⟨rfl, rfl⟩
set_option maxRecDepth 100000 in
set_option maxHeartbeats 2000000 in
theorem within_any (x : Nat) (w : World) : Calls Try.prog 35 #[.int .u8 x] w fun e w' => e = .returned (.bool (Ln.okq x && decide (x ≠ 34))) ∧ w = w' := by
  go_enter Try.func35, Try.ntmps35
  by_cases h1 : 32 ≤ x
  · have d1 : (32 : Int) ≤ (x : Int) := by omega
    by_cases h2 : x ≤ 126
    · have d2 : (x : Int) ≤ 126 := by omega
      by_cases h3 : x = 34
      · subst h3
        go_wp2
        go_ret
        exact ⟨rfl, rfl⟩
      · have d3 : ((x : Int) != 34) = true := by simp; omega
        have e : (Ln.okq x && decide (x ≠ 34)) = true := by simp [Ln.okq, h1, h2, h3]
        rw [e]
        clear e h1 h2 h3
        go_wp2
        go_ret
        exact ⟨rfl, rfl⟩
    · have d2 : ¬ (x : Int) ≤ 126 := by omega
      have e : (Ln.okq x && decide (x ≠ 34)) = false := by simp [Ln.okq, h2]
      rw [e]
      clear e h1 h2
      go_wp2
      go_ret
      exact ⟨rfl, rfl⟩
  · have d1 : ¬ (32 : Int) ≤ (x : Int) := by omega
    have e : (Ln.okq x && decide (x ≠ 34)) = false := by simp [Ln.okq, h1]
    rw [e]
    clear e h1
    go_wp2
    go_ret
    exact ⟨rfl, rfl⟩
set_option maxRecDepth 100000 in
set_option maxHeartbeats 2000000 in
theorem ownfault_any (k : Int) (v : Value) (t : List Nat) (num g i a : Nat) (w0 w : World) (h : Rd w0 v t num g i w) (ha : a ≤ 1000000) :
    Calls Try.prog 32 #[.pointer (some ⟨g, 0, none⟩), .int .i64 k, .int .i64 (a : Int)] w fun e w' => e = .returned (.agg #[.int .i64 k, .int .i64 (num : Int), .int .i64 ((a + 1 : Nat) : Int)]) ∧ Below w.heap.size w w' := by
  have g1 : ∀ o, (w.alloc o).cell? ⟨g, 1, none⟩ = some (.int .i64 (num : Int)) := fun o => (h.alloc o).blk.at 1
  have hg := h.size
  clear h
  go_enter Try.func32, Try.ntmps32
  go_wp2
  refine bodyPost_ret (results_cell_row rfl _ _ w.heap.size _ _ _ _ (by rfl) (heap_alloc_new w _) Try.underlying29 rfl (by kernel_rfl)) rfl ?_
  exact ⟨rfl, (Below.refl _ _).alloc (Nat.le_refl _) _⟩
end Go.Proofs.Ytpebkdmoloiecaa
