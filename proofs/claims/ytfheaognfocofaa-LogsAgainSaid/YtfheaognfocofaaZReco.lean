/- What package reco answers: a lock's bytes, and a lock of bytes. -/
import Derived.Test.YtfheaognfocofaaZ02
import Derived.Test.YtfheaognfocofaaZ08
import Derived.Test.YtfheaognfocofaaZ03
namespace Go.Proofs.Ytfheaognfocofaa
set_option maxRecDepth 100000
open Go.ChangeShapes Go.WideShapes Go.ChangeAt Go.RowKit

/-- A struct of a commit's cells, of a lock's. -/
abbrev lockV (a b c d : Int) : Value := .agg #[.int .i64 a, .int .i64 b, .int .i64 c, .int .i64 d]
abbrev doneV (t : ByteArray) (a b : Int) (p : Value) : Value := .agg #[.string t, .int .i64 a, .int .i64 b, p]
theorem rresults_cell_tmp {P : Program} {fn : Func} {t p : Tmp} {ty : TypeId} (h : fn.results = #[.cell p ty, .tmp t]) (tmps : Array Value) (w : World) (g : Nat) (bt : TypeId) (cs : Array Value) (fr : Nat × Nat) (d : TypeDesc)
    (hp : tmps.getD p undef = .pointer (some ⟨g, 0, none⟩)) (hg : w.heap[g]? = some (.cells cs bt fr))
    (hu : P.underlying ty = some d) (hd : (match d with | .struct _ | .array _ _ => true | _ => false) = true) (hi : (P.info? ty).map (·.size) = some cs.size) :
    (results fn tmps).run P w = .ok (.tuple #[.agg cs, tmps.getD t undef]) w := by
  have hp' : tmps[p]?.getD undef = .pointer (some ⟨g, 0, none⟩) := by simpa using hp
  simp [results, h, hp', asAddr, run_loadVar_row w g bt ty cs fr d hg hu hd hi]

/-- What a lock that is opened is told as. -/
def lockOf : Option Rc.L4 → Value
  | none => .tuple #[lockV 0 0 0 0, .bool false]
  | some (a, b, c, d) => .tuple #[lockV (a : Int) (b : Int) (c : Int) (d : Int), .bool true]
def OpenLIs (R : Option Rc.L4) (w : World) (e : Ending) (w' : World) : Prop := e = .returned (lockOf R) ∧ Below w.heap.size w w'

end Go.Proofs.Ytfheaognfocofaa
