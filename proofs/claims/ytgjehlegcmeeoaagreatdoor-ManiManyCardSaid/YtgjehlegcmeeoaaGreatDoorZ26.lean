/- What the rows list of the library's variables: a world that holds it, and what it gives the walks. -/
import Derived.Test.YtgjehlegcmeeoaaGreatDoorZ16
import Derived.Test.YtgjehlegcmeeoaaGreatDoorCards
import Derived.Test.YtgjehlegcmeeoaaGreatDoorTie
import Derived.Deep.DeepHandedRow
import Derived.Deep.DeepWitnessRowRef
import Derived.Stop.LaidErr
import Derived.Shelf.Vars
import Derived.MakeChecks
namespace Go.Proofs.YtgjehlegcmeeoaaGreatDoor
set_option maxRecDepth 100000
open Go.ChangeShapes Go.WideShapes Go.ChangeAt Go.RowKit

/-- The cells that a table holds. -/
def litCells : DataW Unit → Array Value
  | .agg ps => (ps.flatMap fun d => match d with
    | .lit (.int k n) => [Value.int k n]
    | .agg qs => qs.map fun d => (match d with | .lit (.int k n) => Value.int k n | _ => undef)
    | _ => [undef]).toArray
  | _ => #[]
def laidAt (d : DataW Unit) : Obj → Obj
  | .cells _ t frozen => .cells (litCells d) t frozen
  | o => o
def errAt (N : Nat) : Obj → Obj
  | .cells _ t frozen => .cells #[.iface 202 (.pointer (some ⟨N, 0, none⟩))] t frozen
  | o => o
abbrev rangeS : ByteArray := { data := #[118, 97, 108, 117, 101, 32, 111, 117, 116, 32, 111, 102, 32, 114, 97, 110, 103, 101] }
abbrev syntaxS : ByteArray := { data := #[105, 110, 118, 97, 108, 105, 100, 32, 115, 121, 110, 116, 97, 120] }
noncomputable def low : Nat := (World.holding Tryz.prog default ⟨#[], #[], []⟩).heap.size
/-- A world for the witness: the variables hold what their initialisers lay. -/
noncomputable def laidWorld (os : Os) : World :=
  let w0 := World.holding Tryz.prog os ⟨#[.cells #[.string rangeS] 204, .cells #[.string syntaxS] 204], #[], []⟩
  { w0 with heap := ((((w0.heap.modify 1 (laidAt Rows.laid_internal_strconv_uint64pow10)).modify 2 (laidAt Rows.laid_math_bits_deBruijn32tab)).modify 3 (laidAt Rows.laid_math_bits_deBruijn64tab)).modify 5 (errAt low)).modify 4 (errAt (low + 1)) }
theorem laid_met (os : Os) (args : Array Value) : laidMet Tryz.prog Rows.maniBackRow.laid ((laidWorld os).forCall (fun _ _ => 0) ⟨#[], args, []⟩).memory :=
  laidMet_of_run' 8 (by kernel_rfl) (by kernel_rfl)
end Go.Proofs.YtgjehlegcmeeoaaGreatDoor

/- What the rows list of the library's variables gives the walks. -/
namespace Go.Proofs.YtgjehlegcmeeoaaGreatDoor
set_option maxRecDepth 100000
open Go.ChangeShapes Go.WideShapes Go.ChangeAt Go.RowKit

theorem errStar : "*" ++ "errors.errorString" = "*errors.errorString" := by decide
set_option maxRecDepth 100000 in
theorem errRow (u : TypeId) (h : Tryz.prog.typeName? 3 u = some "*errors.errorString") : u = 202 :=
  typeName_ptr_named (nm := "errors.errorString") (by rw [errStar]; kernel_rfl) (by kernel_rfl) (by decide) u (by rw [errStar]; exact h)
theorem tabs_of_laid {W : World} (hL : laidMetH Tryz.prog Rows.maniBackRow.laid W) (hS : W.ShapedOpen Tryz.prog) : Tabs W := by
  rw [Go.MakeChecks.laidMetH_plain _ _ _ (by kernel_rfl)] at hL
  obtain ⟨a0, s0, hv0, -, -, -⟩ := laid_sentinel hL.tail.tail.tail (g := 5) (by kernel_rfl) (by kernel_rfl) Tryz.underlying126 errRow Tryz.underlying202 Tryz.underlying204 rfl rfl Tryz.underlying9 (by kernel_rfl) (by kernel_rfl)
  obtain ⟨a1, s1, hv1, -, -, -⟩ := laid_sentinel hL.tail.tail.tail.tail (g := 4) (by kernel_rfl) (by kernel_rfl) Tryz.underlying126 errRow Tryz.underlying202 Tryz.underlying204 rfl rfl Tryz.underlying9 (by kernel_rfl) (by kernel_rfl)
  obtain ⟨m, hm⟩ := Go.Proofs.cell_of_shapedOpen_int (P := Tryz.prog) (g := 0) (zero := #[.int .i64 0]) (t := 3) hS (of_decide_eq_true (by kernel_rfl)) (by kernel_rfl) rfl (by kernel_rfl) (by kernel_rfl) Tryz.underlying3
  have h0 := World.var?_cell (P := Tryz.prog) (g := 5) (by kernel_rfl) hv0 0
  have h1 := World.var?_cell (P := Tryz.prog) (g := 4) (by kernel_rfl) hv1 0
  exact ⟨Lib.tabIs_of_head (g := 1) (by kernel_rfl) (by kernel_rfl) Tryz.underlying181 Tryz.underlying175 (by kernel_rfl) (by kernel_rfl) hL.tail.tail, ⟨m, hm⟩, ⟨_, _, by simpa using h1⟩, ⟨_, _, by simpa using h0⟩⟩
end Go.Proofs.YtgjehlegcmeeoaaGreatDoor
