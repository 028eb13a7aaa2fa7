/- RecoForms: locks and commits at their bounds, and beyond, are told, or are none: rows of such, by hand. -/
import Derived.Test.YtfheaognfocofaaZRecoTurned
import Derived.Test.YtfheaognfocofaaZ01
import Derived.Deep.OwnRows
namespace Go.Proofs.Ytfheaognfocofaa
set_option maxRecDepth 100000
open Go.ChangeShapes Go.WideShapes Go.ChangeAt Go.RowKit

namespace Rc
/-- What a row of the table says. -/
def FRow (t p : List Nat) (who inc : Int) (ok : Bool) : Prop := (∀ c ∈ t, c < 256) ∧ t.length ≤ 100 ∧ p.length ≤ 5000 ∧ okD t p who inc = ok
theorem fr0 : FRow [] [] 0 0 false := ⟨by decide, by decide, by decide, by decide +kernel⟩
theorem fr1 : FRow [97] [] 0 0 true := ⟨by decide, by decide, by decide, by decide +kernel⟩
theorem fr2 : FRow [65] [] 0 0 false := ⟨by decide, by decide, by decide, by decide +kernel⟩
theorem fr3 : FRow [97, 47, 98] [] 0 0 false := ⟨by decide, by decide, by decide, by decide +kernel⟩
theorem fr4 : FRow [48, 49, 50, 51, 52, 53, 54, 55, 56, 57, 97, 98, 99, 100, 101, 102] [] 0 0 true := ⟨by decide, by decide, by decide, by decide +kernel⟩
theorem fr5 : FRow [48, 49, 50, 51, 52, 53, 54, 55, 56, 57, 97, 98, 99, 100, 101, 102, 103] [] 0 0 false := ⟨by decide, by decide, by decide, by decide +kernel⟩
theorem fr6 : FRow [97] [] 1099511627776 1099511627776 true := ⟨by decide, by decide, by decide, by decide +kernel⟩
theorem fr7 : FRow [97] [] 1099511627777 0 false := ⟨by decide, by decide, by decide, by decide +kernel⟩
theorem fr8 : FRow [97] [] 0 (-1) false := ⟨by decide, by decide, by decide, by decide +kernel⟩
theorem fr9 : FRow [97] (List.replicate 4000 0) 0 0 true := ⟨by decide, by decide, by rw [List.length_replicate]; decide, by decide +kernel⟩
theorem fr10 : FRow [97] (List.replicate 4001 0) 0 0 false := ⟨by decide, by decide, by rw [List.length_replicate]; decide, by decide +kernel⟩
theorem held_ok {n : Int} (h : okN n = true) : ((Cd.held n : Nat) : Int) = n := by
  simp only [okN, Bool.and_eq_true, decide_eq_true_eq] at h
  exact Cd.held_of n h.1 h.2
theorem done_pos {t p : List Nat} {who inc : Int} (h : okD t p who inc = true) : 0 < (done t p who inc).length := by
  unfold done
  rw [if_pos h, dbody_length]
  omega
end Rc
theorem rown_zeros (w : World) (n : Nat) (hm : n ≤ 1000000) : Bytes (w.alloc (.cells (madeCells #[.int .u8 0] n) 5)) (.slice (some ⟨w.heap.size, 0, none⟩) n n) (List.replicate n 0) := by
  have h := own_new w w.heap.size (List.replicate n 0) (fun c hc => by rw [List.eq_of_mem_replicate hc]; decide) (by rw [List.length_replicate]; unfold maxLen; omega) (Nat.le_refl _)
  have e : (row8 (List.replicate n 0)).toArray = madeCells #[.int .u8 0] n := by
    apply Array.ext'
    rw [toList_madeCells_one]
    simp [row8]
  rw [e, List.length_replicate] at h
  exact h.bytes

end Go.Proofs.Ytfheaognfocofaa
