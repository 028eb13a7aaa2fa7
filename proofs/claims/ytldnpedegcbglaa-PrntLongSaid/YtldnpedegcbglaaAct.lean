/- What the statements of layer 6 take as actions: things of numbers. -/
import Derived.Test.YtldnpedegcbglaaActRows
import Derived.Test.YtldnpedegcbglaaInts
namespace Go.Proofs.Ytldnpedegcbglaa
set_option maxRecDepth 100000
open Go.ChangeShapes Go.WideShapes Go.ChangeAt Go.RowKit

theorem and_low (a : Int) (k : Nat) (hk : k < 4294967296) : ∃ m : Nat, bits .and .i64 a (k : Int) = (m : Int) ∧ m ≤ k := by
  have h : bits .and .i64 a (k : Int) = IntKind.i64.wrap ((BitVec.ofInt 64 a &&& BitVec.ofInt 64 (k : Int)).toNat : Int) := rfl
  have hx : (BitVec.ofInt 64 a &&& BitVec.ofInt 64 (k : Int)).toNat ≤ k := by
    rw [BitVec.toNat_and]
    refine Nat.le_trans Nat.and_le_right ?_
    rw [BitVec.ofInt_natCast, BitVec.toNat_ofNat]
    exact Nat.mod_le _ _
  refine ⟨(BitVec.ofInt 64 a &&& BitVec.ofInt 64 (k : Int)).toNat, ?_, hx⟩
  rw [h, IntKind.wrap_i64]
  omega
def GoodL (L : List Ac.D) : Prop := ∀ i (h : i < L.length), Ac.okD (decide (i = 0)) (L[i]'h) = true ∧ (L[i]'h).n ≤ 31
theorem GoodL.snoc {L : List Ac.D} (h : GoodL L) {d : Ac.D} (h1 : Ac.okD (decide (L.length = 0)) d = true) (h2 : d.n ≤ 31) : GoodL (L ++ [d]) := by
  intro i hi
  rw [List.length_append, List.length_singleton] at hi
  rcases Nat.lt_or_ge i L.length with hlt | hge
  · rw [List.getElem_append_left hlt]
    exact h i hlt
  · obtain rfl : i = L.length := by omega
    rw [List.getElem_append_right (Nat.le_refl _)]
    simp only [Nat.sub_self, List.getElem_cons_zero]
    exact ⟨h1, h2⟩
theorem GoodL.ok {L : List Ac.D} (h : GoodL L) (h0 : L ≠ []) (h8 : L.length ≤ 8) : Ac.ok L = true ∧ ∀ d ∈ L, d.n ≤ 31 := by
  refine ⟨?_, fun d hd => ?_⟩
  · cases L with
    | nil => exact absurd rfl h0
    | cons d r =>
      unfold Ac.ok
      simp only [Bool.and_eq_true, decide_eq_true_eq, List.all_eq_true]
      refine ⟨⟨(h 0 (by simp)).1, fun x hx => ?_⟩, by simpa using h8⟩
      obtain ⟨i, hi, rfl⟩ := List.getElem_of_mem hx
      have := (h (i + 1) (by simpa using hi)).1
      rw [List.getElem_cons_succ] at this
      exact this
  · obtain ⟨i, hi, rfl⟩ := List.getElem_of_mem hd
    exact (h i hi).2
def texts6 : List (List Nat) := [[], [97], [104, 105, 32, 116, 104, 101, 114, 101], [45], [120, 121, 122], [48, 49, 50, 51, 52, 53, 54, 55, 56, 57, 48, 49, 50, 51, 52, 53, 54, 55, 56, 57, 48, 49, 50, 51, 52, 53, 54, 55, 56, 57, 48, 49, 50, 51, 52, 53, 54, 55, 56, 57, 48, 49, 50, 51, 52, 53, 54, 55, 56, 57, 48, 49, 50, 51, 52, 53, 54, 55, 56, 57, 48, 49, 50, 51]]
theorem texts6_good : ∀ i, i < 6 → Ac.plainT (texts6.getD i []) = true := by
  intro i hi
  have : i = 0 ∨ i = 1 ∨ i = 2 ∨ i = 3 ∨ i = 4 ∨ i = 5 := by omega
  rcases this with rfl | rfl | rfl | rfl | rfl | rfl <;> rfl
theorem do_cells (w : World) (o : Obj) (z : Ac.D) : ∀ j y, (cellsD z)[j]? = some y → ((w.alloc o).alloc (.cells (cellsD z).toArray 26)).cell? ⟨w.heap.size + 1, j, none⟩ = some y := fun j y hy => by
  have hs : w.heap.size + 1 = (w.alloc o).heap.size := by simp
  have h : Blk ((w.alloc o).alloc (.cells (cellsD z).toArray 26)) (w.heap.size + 1) 26 (cellsD z).toArray := by
    rw [hs]
    exact heap_alloc_new _ _
  rw [h.at j, List.getElem?_toArray]
  exact hy
end Go.Proofs.Ytldnpedegcbglaa
