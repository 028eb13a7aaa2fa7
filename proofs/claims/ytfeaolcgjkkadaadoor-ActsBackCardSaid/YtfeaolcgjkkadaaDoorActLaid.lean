/- What the rows list of the library's variables: a world that holds it, and what it gives the walks. -/
import Derived.Test.YtfeaolcgjkkadaaDoorNameTabs
import Derived.Test.YtfeaolcgjkkadaaDoorCards
import Derived.Test.YtfeaolcgjkkadaaDoorTie
import Derived.Deep.DeepHandedRow
import Derived.Deep.DeepWitnessRowRef
import Derived.Stop.LaidErr
import Derived.Shelf.Vars
import Derived.MakeChecks
namespace Go.Proofs.YtfeaolcgjkkadaaDoor
set_option maxRecDepth 100000
open Go.ChangeShapes Go.WideShapes Go.ChangeAt Go.RowKit

/-- The cells that a table holds. -/
def litCells : DataW Unit → Array Value
  | .agg ps => (ps.flatMap fun d => match d with
    | .lit (.int k n) => [Value.int k n]
    | .agg qs => qs.map fun d => (match d with | .lit (.int k n) => Value.int k n | _ => undef)
    | _ => [undef]).toArray
  | _ => #[]
def laidAt (d : DataW Unit) : Obj → Obj
  | .cells _ t frozen => .cells (litCells d) t frozen
  | o => o
def errAt (N : Nat) : Obj → Obj
  | .cells _ t frozen => .cells #[.iface 109 (.pointer (some ⟨N, 0, none⟩))] t frozen
  | o => o
abbrev rangeS : ByteArray := { data := #[118, 97, 108, 117, 101, 32, 111, 117, 116, 32, 111, 102, 32, 114, 97, 110, 103, 101] }
abbrev syntaxS : ByteArray := { data := #[105, 110, 118, 97, 108, 105, 100, 32, 115, 121, 110, 116, 97, 120] }
noncomputable def low : Nat := (World.holding Tryd.prog default ⟨#[], #[], []⟩).heap.size
/-- A world for the witness: the variables hold what their initialisers lay. -/
noncomputable def laidWorld (os : Os) : World :=
  let w0 := World.holding Tryd.prog os ⟨#[.cells #[.string rangeS] 111, .cells #[.string syntaxS] 111], #[], []⟩
  { w0 with heap := ((((w0.heap.modify 3 (laidAt Rows.laid_internal_strconv_uint64pow10)).modify 4 (laidAt Rows.laid_math_bits_deBruijn32tab)).modify 5 (laidAt Rows.laid_math_bits_deBruijn64tab)).modify 2 (errAt low)).modify 1 (errAt (low + 1)) }
theorem laid_met (os : Os) (args : Array Value) : laidMet Tryd.prog Rows.actsBackRow.laid ((laidWorld os).forCall (fun _ _ => 0) ⟨#[], args, []⟩).memory :=
  laidMet_of_run' 8 (by kernel_rfl) (by kernel_rfl)
end Go.Proofs.YtfeaolcgjkkadaaDoor
