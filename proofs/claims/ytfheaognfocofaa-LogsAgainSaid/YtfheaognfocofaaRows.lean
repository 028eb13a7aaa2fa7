/-
  No cell of these rows narrows 'for every input' (looked for: loops, veiled, ifaces, maps, wideKeys, modest, calm, conditions, laid).
  DERIVED. THE GIVEN ROWS OF THIS SEAT. 3 by the template 'for every input the law returns true; each argument reads behind the call as it read before'; 0 by the template 'total and deterministic' (their statements: YtfheaognfocofaaTotals.lean).
  GIVEN WITH THE SEED: the statements are not yours to turn. If you find one false, say at which input.
  Laid BY PROGRAM, IN A SANDBOX (cutbox-rows.mjs): the forced cells as the released guide's own fill.sh prints them over the translation 9fc41fd02d845251… (all of the seat's roots in one cut). By AI agents, Wed Nov 11 2026. No macro, syntax, notation, axiom, sorry.
-/
import Derived.Test.YtfheaognfocofaaChecked
import GoSem.Claim
import GoSem.ClaimJoined
import GoSem.ClaimMapViews
import Derived.JoinedTies
import Derived.KernelRfl
namespace Go.Proofs.Ytfheaognfocofaa
/- THE CELL 'sum', in the pinned program and in every row, IS THE sha256 OF THE DUMP (.gsa) THAT YtfheaognfocofaaProg.lean LOADS. Nothing in Lean hashes anything: it is a label: what it is worth is what the hold of that sum in a sandbox is worth. -/
noncomputable def Try.pinned : Pinned := { name := "ytfheaognfocofaa", sum := "9fc41fd02d845251cb8f43aee0bb0f4f264d12b54fd7b58b042a8e3f22c0c60e", checked := Try.checked }
namespace Rows
def none {H : Type} : Left H := { results := [], args := [] }

/-- 'fettlelaw14.LogsAgain': WHATEVER THE INPUT: true; the input reads as it did. -/
def logsAgainSpec : ChangeSpec := { name := "logsAgain", fn := fun _ => fun
  | [d1, d2, d3] => { results := [.lit (.bool true)], args := [d1, d2, d3] }
  | _ => none }
def logsAgainRow : OpenClaim := { program := "ytfheaognfocofaa", sum := "9fc41fd02d845251cb8f43aee0bb0f4f264d12b54fd7b58b042a8e3f22c0c60e", func := "fettle/fettlelaw14.LogsAgain", spec := "logsAgain", inPlace := ["internal/bytealg.IndexByteString", "internal/bytealg.IndexString"], unfollowed := true, recurses := true, named := ["internal/bytealg.MaxLen"], apart := false }
def LogsAgainSaid : Prop := logsAgainRow.holds Try.pinned (OpenSpec.ofChange logsAgainSpec)

/-- ITS FALSE NEIGHBOUR: 'it returns false'. Refute it at one input. -/
def logsAgainWrong : ChangeSpec := { name := "logsAgain", fn := fun _ => fun
  | [d1, d2, d3] => { results := [.lit (.bool false)], args := [d1, d2, d3] }
  | _ => none }
def LogsAgainWrongFalsely : Prop := logsAgainRow.holds Try.pinned (OpenSpec.ofChange logsAgainWrong)

/-- 'fettlelaw14.LogsSteps': WHATEVER THE INPUT: true; the input reads as it did. -/
def logsStepsSpec : ChangeSpec := { name := "logsSteps", fn := fun _ => fun
  | [d1, d2] => { results := [.lit (.bool true)], args := [d1, d2] }
  | _ => none }
def logsStepsRow : OpenClaim := { program := "ytfheaognfocofaa", sum := "9fc41fd02d845251cb8f43aee0bb0f4f264d12b54fd7b58b042a8e3f22c0c60e", func := "fettle/fettlelaw14.LogsSteps", spec := "logsSteps", inPlace := ["internal/bytealg.IndexByteString", "internal/bytealg.IndexString"], unfollowed := true, recurses := true, named := ["internal/bytealg.MaxLen"], apart := false }
def LogsStepsSaid : Prop := logsStepsRow.holds Try.pinned (OpenSpec.ofChange logsStepsSpec)

/-- ITS FALSE NEIGHBOUR: 'it returns false'. Refute it at one input. -/
def logsStepsWrong : ChangeSpec := { name := "logsSteps", fn := fun _ => fun
  | [d1, d2] => { results := [.lit (.bool false)], args := [d1, d2] }
  | _ => none }
def LogsStepsWrongFalsely : Prop := logsStepsRow.holds Try.pinned (OpenSpec.ofChange logsStepsWrong)

/-- 'fettlelaw14.LogsTells': WHATEVER THE INPUT: true; the input reads as it did. -/
def logsTellsSpec : ChangeSpec := { name := "logsTells", fn := fun _ => fun
  | [d1, d2, d3] => { results := [.lit (.bool true)], args := [d1, d2, d3] }
  | _ => none }
def logsTellsRow : OpenClaim := { program := "ytfheaognfocofaa", sum := "9fc41fd02d845251cb8f43aee0bb0f4f264d12b54fd7b58b042a8e3f22c0c60e", func := "fettle/fettlelaw14.LogsTells", spec := "logsTells", inPlace := ["internal/bytealg.IndexByteString", "internal/bytealg.IndexString"], unfollowed := true, recurses := true, named := ["internal/bytealg.MaxLen"], apart := false }
def LogsTellsSaid : Prop := logsTellsRow.holds Try.pinned (OpenSpec.ofChange logsTellsSpec)

/-- ITS FALSE NEIGHBOUR: 'it returns false'. Refute it at one input. -/
def logsTellsWrong : ChangeSpec := { name := "logsTells", fn := fun _ => fun
  | [d1, d2, d3] => { results := [.lit (.bool false)], args := [d1, d2, d3] }
  | _ => none }
def LogsTellsWrongFalsely : Prop := logsTellsRow.holds Try.pinned (OpenSpec.ofChange logsTellsWrong)

/- THE SECOND FORM. 'bulk': how many values and letters a reading holds, each counted each time it is reached (what is shared counts as often as it is met; a slice's spare places count too). A statement '..UptoSaid' is the law's where the arguments, and the package variables that the reading takes, are together of bulk at most 1048576: NARROWER than '..Said'. Prove '..Said' where nothing that the law and all that it calls make is longer than what came in: it says more and counts as full. Else prove '..UptoSaid'. A law counts once. -/
mutual
def uptoBulk {H : Type} : DataW H → Nat
  | .lit (.string bytes) => bytes.length + 1
  | .lit _ => 1
  | .nil => 1
  | .ptr d => uptoBulk d + 1
  | .slice elems spare => uptoBulkAll elems + uptoBulkAll spare + 1
  | .agg parts => uptoBulkAll parts + 1
  | .iface _ d => uptoBulk d + 1
  | .map entries => uptoBulkEntries entries + 1
  | .held _ => 1
def uptoBulkAll {H : Type} : List (DataW H) → Nat
  | [] => 0
  | d :: r => uptoBulk d + uptoBulkAll r
def uptoBulkEntries {H : Type} : List (Lit × DataW H) → Nat
  | [] => 0
  | x :: r => uptoBulkEntry x + uptoBulkEntries r
def uptoBulkEntry {H : Type} : Lit × DataW H → Nat
  | (.string bytes, d) => bytes.length + uptoBulk d + 1
  | (_, d) => uptoBulk d + 1
 end
def uptoSmall : (H : Type) → List (DataW H) → Bool := fun _ ds => decide (uptoBulkAll ds ≤ 1048576)
def OpenSpec.upto (s : _root_.Go.ChangeSpec) : _root_.Go.OpenSpec := { _root_.Go.OpenSpec.ofChange s with cond := some uptoSmall }

/-- 'fettlelaw14.LogsAgain', WHERE WHAT IT READS IS OF BULK AT MOST 1048576: true; the input reads as it did. -/
def logsAgainUptoRow : OpenClaim := { program := "ytfheaognfocofaa", sum := "9fc41fd02d845251cb8f43aee0bb0f4f264d12b54fd7b58b042a8e3f22c0c60e", func := "fettle/fettlelaw14.LogsAgain", spec := "logsAgain", inPlace := ["internal/bytealg.IndexByteString", "internal/bytealg.IndexString"], unfollowed := true, recurses := true, named := ["internal/bytealg.MaxLen"], apart := false, narrowed := true }
def LogsAgainUptoSaid : Prop := logsAgainUptoRow.holds Try.pinned (OpenSpec.upto logsAgainSpec)

/-- 'fettlelaw14.LogsSteps', WHERE WHAT IT READS IS OF BULK AT MOST 1048576: true; the input reads as it did. -/
def logsStepsUptoRow : OpenClaim := { program := "ytfheaognfocofaa", sum := "9fc41fd02d845251cb8f43aee0bb0f4f264d12b54fd7b58b042a8e3f22c0c60e", func := "fettle/fettlelaw14.LogsSteps", spec := "logsSteps", inPlace := ["internal/bytealg.IndexByteString", "internal/bytealg.IndexString"], unfollowed := true, recurses := true, named := ["internal/bytealg.MaxLen"], apart := false, narrowed := true }
def LogsStepsUptoSaid : Prop := logsStepsUptoRow.holds Try.pinned (OpenSpec.upto logsStepsSpec)

/-- 'fettlelaw14.LogsTells', WHERE WHAT IT READS IS OF BULK AT MOST 1048576: true; the input reads as it did. -/
def logsTellsUptoRow : OpenClaim := { program := "ytfheaognfocofaa", sum := "9fc41fd02d845251cb8f43aee0bb0f4f264d12b54fd7b58b042a8e3f22c0c60e", func := "fettle/fettlelaw14.LogsTells", spec := "logsTells", inPlace := ["internal/bytealg.IndexByteString", "internal/bytealg.IndexString"], unfollowed := true, recurses := true, named := ["internal/bytealg.MaxLen"], apart := false, narrowed := true }
def LogsTellsUptoSaid : Prop := logsTellsUptoRow.holds Try.pinned (OpenSpec.upto logsTellsSpec)

end Rows
end Go.Proofs.Ytfheaognfocofaa
