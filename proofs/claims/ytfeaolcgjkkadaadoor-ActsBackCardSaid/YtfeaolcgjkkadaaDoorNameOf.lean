/- The document's own answer for temps' texts. -/
import Derived.Test.YtfeaolcgjkkadaaDoorNameRef
import Derived.Test.YtfeaolcgjkkadaaDoorTexts
namespace Go.Proofs.YtfeaolcgjkkadaaDoor
set_option maxRecDepth 100000
open Go.ChangeShapes Go.WideShapes Go.ChangeAt Go.RowKit

def OfIs (l : List Nat) (w : World) (e : Ending) (w' : World) : Prop := e = .returned (.tuple #[.int .i64 (Nm.ofWho l : Nat), .int .i64 (Nm.ofInc l : Nat), .bool (Nm.isOf l)]) ∧ Below w.heap.size w w'
theorem ofIs_not {l : List Nat} {w w' : World} (h : Nm.isOf l = false) (hb : Below w.heap.size w w') : OfIs l w (.returned (.tuple #[.int .i64 0, .int .i64 0, .bool false])) w' := by
  refine ⟨?_, hb⟩
  rw [Nm.ofWho, Nm.ofInc, h]
  rfl
end Go.Proofs.YtfeaolcgjkkadaaDoor
