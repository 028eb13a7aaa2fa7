/- The operations of a region, taken from the program itself: so that a state within a region can be told of in a theorem of its own. -/
import Derived.Test.YtkfmjkoghfcciaaRegion2
namespace Go.Proofs.Ytkfmjkoghfcciaa
set_option maxRecDepth 100000
open Go.ChangeShapes Go.WideShapes Go.ChangeAt Go.RowKit

/-- Region number k of a code made of a sequence. -/
def regionOf (k : Nat) : Code → Option (Array Oper)
  | .region id ops _ => if id = k then some ops else none
  | .seq a b => match regionOf k a with
    | some o => some o
    | none => regionOf k b
  | _ => none
def opsOf (f : Func) (k : Nat) : Array Oper := match f.body with
  | some c => (regionOf k c).getD #[]
  | none => #[]
theorem opsOf_size : (opsOf Try.f4 3).size = 68 := by kernel_rfl
/-- How its operations are written out: by simp, in a second. -/
theorem opsOf_out (P : Array Oper → Prop) (h : ∀ o, P o) : P (opsOf Try.f4 3) := by
  simp only [opsOf, Try.f4, regionOf, Nat.reduceEqDiff, Option.getD_some, List.append_eq, List.cons_append, List.nil_append, ↓reduceIte, reduceCtorEq]
  exact h _
end Go.Proofs.Ytkfmjkoghfcciaa
