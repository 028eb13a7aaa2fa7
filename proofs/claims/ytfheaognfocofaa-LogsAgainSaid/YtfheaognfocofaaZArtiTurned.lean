/- ArtiTurned: an artifact of which one bit was turned is none, whichever it is, nor is one that is cut, or has more behind. -/
import Derived.Test.YtfheaognfocofaaZArtiAwake
import Derived.Test.YtfheaognfocofaaZ04
import Derived.Deep.CutBlock
import Derived.Deep.DeepCutAuto
import Derived.IntWalk
import Derived.BigQuiet
namespace Go.Proofs.Ytfheaognfocofaa
set_option maxRecDepth 100000
open Go.ChangeShapes Go.WideShapes Go.ChangeAt Go.RowKit

namespace Ar
theorem and7 (k : Nat) (hk : k < 65536) : bits .and .i64 (k : Int) 7 = ((k % 8 : Nat) : Int) := by
  have h : bits .and .i64 (k : Int) 7 = IntKind.i64.wrap ((BitVec.ofInt 64 (k : Int) &&& BitVec.ofInt 64 7).toNat : Int) := rfl
  have hx : (BitVec.ofInt 64 (k : Int) &&& BitVec.ofInt 64 7).toNat = k % 8 := by
    rw [BitVec.toNat_and, BitVec.ofInt_natCast, BitVec.toNat_ofNat, Nat.mod_eq_of_lt (by omega)]
    exact Nat.and_two_pow_sub_one_eq_mod k 3
  rw [h, hx, IntKind.wrap_i64]
  omega
theorem parts8 (k n : Nat) (h : k < 8 * n) (hn : n ≤ 8000) : ∃ q r : Nat, q < n ∧ r < 8 ∧ (k : Int) / 8 = (q : Int) ∧ bits .and .i64 (k : Int) 7 = (r : Int) :=
  ⟨k / 8, k % 8, by omega, by omega, by omega, and7 k (by omega)⟩
theorem and_low16 (a : Int) : (bits .and .i64 a 65535).toNat ≤ 65535 ∧ bits .and .i64 a 65535 = ((bits .and .i64 a 65535).toNat : Int) := by
  have h : bits .and .i64 a 65535 = IntKind.i64.wrap ((BitVec.ofInt 64 a &&& BitVec.ofInt 64 65535).toNat : Int) := rfl
  have hx : (BitVec.ofInt 64 a &&& BitVec.ofInt 64 65535).toNat ≤ 65535 := by
    rw [BitVec.toNat_and]
    exact Nat.le_trans Nat.and_le_right (by decide)
  rw [h, IntKind.wrap_i64]
  omega
theorem rem_of (x n : Nat) (h : 0 < n) : ∃ k : Nat, k < n ∧ (x : Int).tmod (n : Int) = (k : Int) := by
  refine ⟨x % n, Nat.mod_lt _ h, ?_⟩
  rw [Int.tmod_eq_emod_of_nonneg (by omega)]
  exact (Int.natCast_emod x n).symm
theorem rem8 (x n : Nat) (h : 0 < n) : ∃ k : Nat, k < 8 * n ∧ (x : Int).tmod (8 * (n : Int)) = (k : Int) := by
  obtain ⟨k, h1, h2⟩ := rem_of x (8 * n) (by omega)
  exact ⟨k, h1, by rw [← h2]; rfl⟩
theorem bit_eq (x r : Nat) (hx : x < 256) (hr : r < 8) : bits .xor .u8 (x : Int) (2 ^ r % 256) = ((x ^^^ 2 ^ r : Nat) : Int) := by
  have h : (2 : Int) ^ r % 256 = ((2 ^ r : Nat) : Int) := by
    have : r = 0 ∨ r = 1 ∨ r = 2 ∨ r = 3 ∨ r = 4 ∨ r = 5 ∨ r = 6 ∨ r = 7 := by omega
    rcases this with rfl | rfl | rfl | rfl | rfl | rfl | rfl | rfl <;> decide
  rw [h]
  exact u8_xor_nat x (2 ^ r) hx (Nat.pow_lt_pow_right (by omega) hr)
theorem bit_lt {x r : Nat} (hx : x < 256) (hr : r < 8) : x ^^^ 2 ^ r < 256 := Nat.xor_lt_two_pow (n := 8) hx (Nat.pow_lt_pow_right (by omega) hr)
theorem bit_ne (x r : Nat) : x ^^^ 2 ^ r ≠ x := fun e => by
  have h : x ^^^ 2 ^ r ^^^ x = x ^^^ x := by rw [e]
  rw [Nat.xor_comm x, Nat.xor_assoc, Nat.xor_self, Nat.xor_zero] at h
  have := Nat.two_pow_pos r
  omega
end Ar

end Go.Proofs.Ytfheaognfocofaa
