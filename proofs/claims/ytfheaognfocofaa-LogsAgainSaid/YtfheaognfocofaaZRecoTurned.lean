/- RecoTurned: a lock of which one bit was turned is none, whichever it is; so is one that is cut, or has more behind. -/
import Derived.Test.YtfheaognfocofaaZRecoAwake
import Derived.Test.YtfheaognfocofaaZArtiTurned
namespace Go.Proofs.Ytfheaognfocofaa
set_option maxRecDepth 100000
open Go.ChangeShapes Go.WideShapes Go.ChangeAt Go.RowKit

namespace Rc
theorem and_mask (a : Int) (m : Nat) (h : (BitVec.ofInt 64 (m : Int)).toNat = m) (hm : m ≤ 4294967295) : ∃ k : Nat, k ≤ m ∧ bits .and .i64 a (m : Int) = (k : Int) := by
  refine ⟨(BitVec.ofInt 64 a &&& BitVec.ofInt 64 (m : Int)).toNat, ?_, ?_⟩
  · rw [BitVec.toNat_and, h]
    exact Nat.and_le_right
  · have hx : (BitVec.ofInt 64 a &&& BitVec.ofInt 64 (m : Int)).toNat ≤ m := by
      rw [BitVec.toNat_and, h]
      exact Nat.and_le_right
    show IntKind.i64.wrap ((BitVec.ofInt 64 a &&& BitVec.ofInt 64 (m : Int)).toNat : Int) = _
    rw [IntKind.wrap_i64]
    omega
theorem and_7 (a : Int) : ∃ k : Nat, k ≤ 7 ∧ bits .and .i64 a 7 = (k : Int) := and_mask a 7 (by decide) (by decide)
theorem and_255 (a : Int) : ∃ k : Nat, k ≤ 255 ∧ bits .and .i64 a 255 = (k : Int) := and_mask a 255 (by decide) (by decide)
theorem and_15 (a : Int) : ∃ k : Nat, k ≤ 15 ∧ bits .and .i64 a 15 = (k : Int) := and_mask a 15 (by decide) (by decide)
theorem and_3 (a : Int) : ∃ k : Nat, k ≤ 3 ∧ bits .and .i64 a 3 = (k : Int) := and_mask a 3 (by decide) (by decide)
theorem and_65535 (a : Int) : ∃ k : Nat, k ≤ 65535 ∧ bits .and .i64 a 65535 = (k : Int) := and_mask a 65535 (by decide) (by decide)
theorem and_far (a : Int) : ∃ k : Nat, k ≤ 4294967295 ∧ bits .and .i64 a 4294967295 = (k : Int) := and_mask a 4294967295 (by decide) (by decide)
theorem held_nat {n : Nat} (h : n ≤ 1099511627776) : Cd.held (n : Int) = n := by unfold Cd.held; omega
end Rc

end Go.Proofs.Ytfheaognfocofaa
