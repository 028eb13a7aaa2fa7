/-
  No cell of these rows narrows 'for every input' (looked for: loops, veiled, ifaces, maps, wideKeys, modest, calm, conditions, laid).
  DERIVED. THE GIVEN ROWS OF THIS SEAT. 3 by the template 'for every input the law returns true; each argument reads behind the call as it read before'; 0 by the template 'total and deterministic' (their statements: YtcohnmnkoammlaaTotals.lean).
  GIVEN WITH THE SEED: the statements are not yours to turn. If you find one false, say at which input.
  Laid BY PROGRAM, IN A SANDBOX (cutbox-rows.mjs): the forced cells as the released guide's own fill.sh prints them over the translation b81f0a95de1caab4… (all of the seat's roots in one cut). By AI agents, Wed Nov 11 2026. No macro, syntax, notation, axiom, sorry.
-/
import Derived.Test.YtcohnmnkoammlaaChecked
import GoSem.Claim
import GoSem.ClaimJoined
import GoSem.ClaimMapViews
import Derived.JoinedTies
import Derived.KernelRfl
namespace Go.Proofs.Ytcohnmnkoammlaa
/- THE CELL 'sum', in the pinned program and in every row, IS THE sha256 OF THE DUMP (.gsa) THAT YtcohnmnkoammlaaProg.lean LOADS. Nothing in Lean hashes anything: it is a label: what it is worth is what the hold of that sum in a sandbox is worth. -/
noncomputable def Try.pinned : Pinned := { name := "ytcohnmnkoammlaa", sum := "b81f0a95de1caab4c5f2318f28ef33339ecebe46cd7f79383e25fdcb1eccfe09", checked := Try.checked }
namespace Rows
def none {H : Type} : Left H := { results := [], args := [] }

/-- 'fettlelaw1.CrcsForms': WHATEVER THE INPUT: true; the input reads as it did. -/
def crcsFormsSpec : ChangeSpec := { name := "crcsForms", fn := fun _ => fun
  | [d] => { results := [.lit (.bool true)], args := [d] }
  | _ => none }
def crcsFormsRow : OpenClaim := { program := "ytcohnmnkoammlaa", sum := "b81f0a95de1caab4c5f2318f28ef33339ecebe46cd7f79383e25fdcb1eccfe09", func := "fettle/fettlelaw1.CrcsForms", spec := "crcsForms", apart := false }
def CrcsFormsSaid : Prop := crcsFormsRow.holds Try.pinned (OpenSpec.ofChange crcsFormsSpec)

/-- ITS FALSE NEIGHBOUR: 'it returns false'. Refute it at one input. -/
def crcsFormsWrong : ChangeSpec := { name := "crcsForms", fn := fun _ => fun
  | [d] => { results := [.lit (.bool false)], args := [d] }
  | _ => none }
def CrcsFormsWrongFalsely : Prop := crcsFormsRow.holds Try.pinned (OpenSpec.ofChange crcsFormsWrong)

/-- 'fettlelaw1.CrcsLinear': WHATEVER THE INPUT: true; the input reads as it did. -/
def crcsLinearSpec : ChangeSpec := { name := "crcsLinear", fn := fun _ => fun
  | [d1, d2, d3] => { results := [.lit (.bool true)], args := [d1, d2, d3] }
  | _ => none }
def crcsLinearRow : OpenClaim := { program := "ytcohnmnkoammlaa", sum := "b81f0a95de1caab4c5f2318f28ef33339ecebe46cd7f79383e25fdcb1eccfe09", func := "fettle/fettlelaw1.CrcsLinear", spec := "crcsLinear", apart := false }
def CrcsLinearSaid : Prop := crcsLinearRow.holds Try.pinned (OpenSpec.ofChange crcsLinearSpec)

/-- ITS FALSE NEIGHBOUR: 'it returns false'. Refute it at one input. -/
def crcsLinearWrong : ChangeSpec := { name := "crcsLinear", fn := fun _ => fun
  | [d1, d2, d3] => { results := [.lit (.bool false)], args := [d1, d2, d3] }
  | _ => none }
def CrcsLinearWrongFalsely : Prop := crcsLinearRow.holds Try.pinned (OpenSpec.ofChange crcsLinearWrong)

/-- 'fettlelaw1.CrcsTells': WHATEVER THE INPUT: true; the input reads as it did. -/
def crcsTellsSpec : ChangeSpec := { name := "crcsTells", fn := fun _ => fun
  | [d1, d2, d3] => { results := [.lit (.bool true)], args := [d1, d2, d3] }
  | _ => none }
def crcsTellsRow : OpenClaim := { program := "ytcohnmnkoammlaa", sum := "b81f0a95de1caab4c5f2318f28ef33339ecebe46cd7f79383e25fdcb1eccfe09", func := "fettle/fettlelaw1.CrcsTells", spec := "crcsTells", apart := false }
def CrcsTellsSaid : Prop := crcsTellsRow.holds Try.pinned (OpenSpec.ofChange crcsTellsSpec)

/-- ITS FALSE NEIGHBOUR: 'it returns false'. Refute it at one input. -/
def crcsTellsWrong : ChangeSpec := { name := "crcsTells", fn := fun _ => fun
  | [d1, d2, d3] => { results := [.lit (.bool false)], args := [d1, d2, d3] }
  | _ => none }
def CrcsTellsWrongFalsely : Prop := crcsTellsRow.holds Try.pinned (OpenSpec.ofChange crcsTellsWrong)

/- THE SECOND FORM. 'bulk': how many values and letters a reading holds, each counted each time it is reached (what is shared counts as often as it is met; a slice's spare places count too). A statement '..UptoSaid' is the law's where the arguments, and the package variables that the reading takes, are together of bulk at most 1048576: NARROWER than '..Said'. Prove '..Said' where nothing that the law and all that it calls make is longer than what came in: it says more and counts as full. Else prove '..UptoSaid'. A law counts once. -/
mutual
def uptoBulk {H : Type} : DataW H → Nat
  | .lit (.string bytes) => bytes.length + 1
  | .lit _ => 1
  | .nil => 1
  | .ptr d => uptoBulk d + 1
  | .slice elems spare => uptoBulkAll elems + uptoBulkAll spare + 1
  | .agg parts => uptoBulkAll parts + 1
  | .iface _ d => uptoBulk d + 1
  | .map entries => uptoBulkEntries entries + 1
  | .held _ => 1
def uptoBulkAll {H : Type} : List (DataW H) → Nat
  | [] => 0
  | d :: r => uptoBulk d + uptoBulkAll r
def uptoBulkEntries {H : Type} : List (Lit × DataW H) → Nat
  | [] => 0
  | x :: r => uptoBulkEntry x + uptoBulkEntries r
def uptoBulkEntry {H : Type} : Lit × DataW H → Nat
  | (.string bytes, d) => bytes.length + uptoBulk d + 1
  | (_, d) => uptoBulk d + 1
 end
def uptoSmall : (H : Type) → List (DataW H) → Bool := fun _ ds => decide (uptoBulkAll ds ≤ 1048576)
def OpenSpec.upto (s : _root_.Go.ChangeSpec) : _root_.Go.OpenSpec := { _root_.Go.OpenSpec.ofChange s with cond := some uptoSmall }

/-- 'fettlelaw1.CrcsForms', WHERE WHAT IT READS IS OF BULK AT MOST 1048576: true; the input reads as it did. -/
def crcsFormsUptoRow : OpenClaim := { program := "ytcohnmnkoammlaa", sum := "b81f0a95de1caab4c5f2318f28ef33339ecebe46cd7f79383e25fdcb1eccfe09", func := "fettle/fettlelaw1.CrcsForms", spec := "crcsForms", apart := false, narrowed := true }
def CrcsFormsUptoSaid : Prop := crcsFormsUptoRow.holds Try.pinned (OpenSpec.upto crcsFormsSpec)

/-- 'fettlelaw1.CrcsLinear', WHERE WHAT IT READS IS OF BULK AT MOST 1048576: true; the input reads as it did. -/
def crcsLinearUptoRow : OpenClaim := { program := "ytcohnmnkoammlaa", sum := "b81f0a95de1caab4c5f2318f28ef33339ecebe46cd7f79383e25fdcb1eccfe09", func := "fettle/fettlelaw1.CrcsLinear", spec := "crcsLinear", apart := false, narrowed := true }
def CrcsLinearUptoSaid : Prop := crcsLinearUptoRow.holds Try.pinned (OpenSpec.upto crcsLinearSpec)

/-- 'fettlelaw1.CrcsTells', WHERE WHAT IT READS IS OF BULK AT MOST 1048576: true; the input reads as it did. -/
def crcsTellsUptoRow : OpenClaim := { program := "ytcohnmnkoammlaa", sum := "b81f0a95de1caab4c5f2318f28ef33339ecebe46cd7f79383e25fdcb1eccfe09", func := "fettle/fettlelaw1.CrcsTells", spec := "crcsTells", apart := false, narrowed := true }
def CrcsTellsUptoSaid : Prop := crcsTellsUptoRow.holds Try.pinned (OpenSpec.upto crcsTellsSpec)

end Rows
end Go.Proofs.Ytcohnmnkoammlaa
