/- What the rows list of the library's tables: a world that holds it, and what it gives the walks. -/
import Derived.Test.YtfheaognfocofaaGreatDoorZLockTemp
import Derived.Test.YtfheaognfocofaaGreatDoorCards
import Derived.Test.YtfheaognfocofaaGreatDoorTie
import Derived.Deep.DeepHandedRow
import Derived.Deep.DeepWitnessRowRef
import Derived.Stop.LaidErr
import Derived.Shelf.Vars
import Derived.MakeChecks
namespace Go.Proofs.YtfheaognfocofaaGreatDoor
set_option maxRecDepth 100000
open Go.ChangeShapes Go.WideShapes Go.ChangeAt Go.RowKit

/-- The cells that a table holds. -/
def litCells : DataW Unit → Array Value
  | .agg ps => (ps.map fun d => match d with | .lit (.int k n) => Value.int k n | _ => undef).toArray
  | _ => #[]
def laidAt (d : DataW Unit) : Obj → Obj
  | .cells _ t frozen => .cells (litCells d) t frozen
  | o => o
/-- A world for the witness: the variables hold what their initialisers lay. -/
noncomputable def laidWorld (os : Os) : World :=
  let w0 := World.holding Tryz.prog os ⟨#[], #[], []⟩
  { w0 with heap := ((w0.heap.modify 1 (laidAt Rows.laid_internal_strconv_uint64pow10)).modify 2 (laidAt Rows.laid_math_bits_deBruijn32tab)).modify 3 (laidAt Rows.laid_math_bits_deBruijn64tab) }
theorem laid_met (os : Os) (args : Array Value) : laidMet Tryz.prog Rows.lockOneRow.laid ((laidWorld os).forCall (fun _ _ => 0) ⟨#[], args, []⟩).memory :=
  laidMet_of_run' 8 (by kernel_rfl) (by kernel_rfl)
theorem pow_of_laid {W : World} (hL : laidMetH Tryz.prog Rows.lockOneRow.laid W) : Pow W := by
  rw [Go.MakeChecks.laidMetH_plain _ _ _ (by kernel_rfl)] at hL
  exact Lib.tabIs_of_head (g := 1) (by kernel_rfl) (by kernel_rfl) Tryz.underlying150 Tryz.underlying117 (by kernel_rfl) (by kernel_rfl) hL.tail.tail
end Go.Proofs.YtfheaognfocofaaGreatDoor
