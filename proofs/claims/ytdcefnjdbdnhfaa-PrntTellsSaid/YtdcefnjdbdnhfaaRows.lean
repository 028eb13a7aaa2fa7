/-
  No cell of these rows narrows 'for every input' (looked for: loops, veiled, ifaces, maps, wideKeys, modest, calm, conditions, laid).
  DERIVED. THE GIVEN ROWS OF THIS SEAT. 4 by the template 'for every input the law returns true; each argument reads behind the call as it read before'; 0 by the template 'total and deterministic' (their statements: YtdcefnjdbdnhfaaTotals.lean).
  GIVEN WITH THE SEED: the statements are not yours to turn. If you find one false, say at which input.
  Laid BY PROGRAM, IN A SANDBOX (cutbox-rows.mjs): the forced cells as the released guide's own fill.sh prints them over the translation 9203b6902c75063b… (all of the seat's roots in one cut). By AI agents, Wed Nov 11 2026. No macro, syntax, notation, axiom, sorry.
-/
import Derived.Test.YtdcefnjdbdnhfaaChecked
import GoSem.Claim
import GoSem.ClaimJoined
import GoSem.ClaimMapViews
import Derived.JoinedTies
import Derived.KernelRfl
namespace Go.Proofs.Ytdcefnjdbdnhfaa
/- THE CELL 'sum', in the pinned program and in every row, IS THE sha256 OF THE DUMP (.gsa) THAT YtdcefnjdbdnhfaaProg.lean LOADS. Nothing in Lean hashes anything: it is a label: what it is worth is what the hold of that sum in a sandbox is worth. -/
noncomputable def Try.pinned : Pinned := { name := "ytdcefnjdbdnhfaa", sum := "9203b6902c75063b1a0ed741f65410b5d805c399a84ba9bc99aeee152895c664", checked := Try.checked }
namespace Rows
def none {H : Type} : Left H := { results := [], args := [] }

/-- 'fettlelaw10.PrntLong': WHATEVER THE INPUT: true; the input reads as it did. -/
def prntLongSpec : ChangeSpec := { name := "prntLong", fn := fun _ => fun
  | [d1, d2] => { results := [.lit (.bool true)], args := [d1, d2] }
  | _ => none }
def prntLongRow : OpenClaim := { program := "ytdcefnjdbdnhfaa", sum := "9203b6902c75063b1a0ed741f65410b5d805c399a84ba9bc99aeee152895c664", func := "fettle/fettlelaw10.PrntLong", spec := "prntLong", inPlace := ["internal/bytealg.MakeNoZero"], apart := false }
def PrntLongSaid : Prop := prntLongRow.holds Try.pinned (OpenSpec.ofChange prntLongSpec)

/-- ITS FALSE NEIGHBOUR: 'it returns false'. Refute it at one input. -/
def prntLongWrong : ChangeSpec := { name := "prntLong", fn := fun _ => fun
  | [d1, d2] => { results := [.lit (.bool false)], args := [d1, d2] }
  | _ => none }
def PrntLongWrongFalsely : Prop := prntLongRow.holds Try.pinned (OpenSpec.ofChange prntLongWrong)

/-- 'fettlelaw10.PrntOwn': WHATEVER THE INPUT: true; the input reads as it did. -/
def prntOwnSpec : ChangeSpec := { name := "prntOwn", fn := fun _ => fun
  | [d1, d2] => { results := [.lit (.bool true)], args := [d1, d2] }
  | _ => none }
def prntOwnRow : OpenClaim := { program := "ytdcefnjdbdnhfaa", sum := "9203b6902c75063b1a0ed741f65410b5d805c399a84ba9bc99aeee152895c664", func := "fettle/fettlelaw10.PrntOwn", spec := "prntOwn", inPlace := ["internal/bytealg.MakeNoZero"], apart := false }
def PrntOwnSaid : Prop := prntOwnRow.holds Try.pinned (OpenSpec.ofChange prntOwnSpec)

/-- ITS FALSE NEIGHBOUR: 'it returns false'. Refute it at one input. -/
def prntOwnWrong : ChangeSpec := { name := "prntOwn", fn := fun _ => fun
  | [d1, d2] => { results := [.lit (.bool false)], args := [d1, d2] }
  | _ => none }
def PrntOwnWrongFalsely : Prop := prntOwnRow.holds Try.pinned (OpenSpec.ofChange prntOwnWrong)

/-- 'fettlelaw10.PrntTells': WHATEVER THE INPUT: true; the input reads as it did. -/
def prntTellsSpec : ChangeSpec := { name := "prntTells", fn := fun _ => fun
  | [d1, d2, d3, d4, d5, d6] => { results := [.lit (.bool true)], args := [d1, d2, d3, d4, d5, d6] }
  | _ => none }
def prntTellsRow : OpenClaim := { program := "ytdcefnjdbdnhfaa", sum := "9203b6902c75063b1a0ed741f65410b5d805c399a84ba9bc99aeee152895c664", func := "fettle/fettlelaw10.PrntTells", spec := "prntTells", inPlace := ["internal/bytealg.MakeNoZero"], apart := false }
def PrntTellsSaid : Prop := prntTellsRow.holds Try.pinned (OpenSpec.ofChange prntTellsSpec)

/-- ITS FALSE NEIGHBOUR: 'it returns false'. Refute it at one input. -/
def prntTellsWrong : ChangeSpec := { name := "prntTells", fn := fun _ => fun
  | [d1, d2, d3, d4, d5, d6] => { results := [.lit (.bool false)], args := [d1, d2, d3, d4, d5, d6] }
  | _ => none }
def PrntTellsWrongFalsely : Prop := prntTellsRow.holds Try.pinned (OpenSpec.ofChange prntTellsWrong)

/-- 'fettlelaw10.PrntApart': WHATEVER THE INPUT: true; the input reads as it did. -/
def prntApartSpec : ChangeSpec := { name := "prntApart", fn := fun _ => fun
  | [d1, d2, d3, d4, d5] => { results := [.lit (.bool true)], args := [d1, d2, d3, d4, d5] }
  | _ => none }
def prntApartRow : OpenClaim := { program := "ytdcefnjdbdnhfaa", sum := "9203b6902c75063b1a0ed741f65410b5d805c399a84ba9bc99aeee152895c664", func := "fettle/fettlelaw10.PrntApart", spec := "prntApart", inPlace := ["internal/bytealg.MakeNoZero"], apart := false }
def PrntApartSaid : Prop := prntApartRow.holds Try.pinned (OpenSpec.ofChange prntApartSpec)

/-- ITS FALSE NEIGHBOUR: 'it returns false'. Refute it at one input. -/
def prntApartWrong : ChangeSpec := { name := "prntApart", fn := fun _ => fun
  | [d1, d2, d3, d4, d5] => { results := [.lit (.bool false)], args := [d1, d2, d3, d4, d5] }
  | _ => none }
def PrntApartWrongFalsely : Prop := prntApartRow.holds Try.pinned (OpenSpec.ofChange prntApartWrong)

/- THE SECOND FORM. 'bulk': how many values and letters a reading holds, each counted each time it is reached (what is shared counts as often as it is met; a slice's spare places count too). A statement '..UptoSaid' is the law's where the arguments, and the package variables that the reading takes, are together of bulk at most 1048576: NARROWER than '..Said'. Prove '..Said' where nothing that the law and all that it calls make is longer than what came in: it says more and counts as full. Else prove '..UptoSaid'. A law counts once. -/
mutual
def uptoBulk {H : Type} : DataW H → Nat
  | .lit (.string bytes) => bytes.length + 1
  | .lit _ => 1
  | .nil => 1
  | .ptr d => uptoBulk d + 1
  | .slice elems spare => uptoBulkAll elems + uptoBulkAll spare + 1
  | .agg parts => uptoBulkAll parts + 1
  | .iface _ d => uptoBulk d + 1
  | .map entries => uptoBulkEntries entries + 1
  | .held _ => 1
def uptoBulkAll {H : Type} : List (DataW H) → Nat
  | [] => 0
  | d :: r => uptoBulk d + uptoBulkAll r
def uptoBulkEntries {H : Type} : List (Lit × DataW H) → Nat
  | [] => 0
  | x :: r => uptoBulkEntry x + uptoBulkEntries r
def uptoBulkEntry {H : Type} : Lit × DataW H → Nat
  | (.string bytes, d) => bytes.length + uptoBulk d + 1
  | (_, d) => uptoBulk d + 1
 end
def uptoSmall : (H : Type) → List (DataW H) → Bool := fun _ ds => decide (uptoBulkAll ds ≤ 1048576)
def OpenSpec.upto (s : _root_.Go.ChangeSpec) : _root_.Go.OpenSpec := { _root_.Go.OpenSpec.ofChange s with cond := some uptoSmall }

/-- 'fettlelaw10.PrntLong', WHERE WHAT IT READS IS OF BULK AT MOST 1048576: true; the input reads as it did. -/
def prntLongUptoRow : OpenClaim := { program := "ytdcefnjdbdnhfaa", sum := "9203b6902c75063b1a0ed741f65410b5d805c399a84ba9bc99aeee152895c664", func := "fettle/fettlelaw10.PrntLong", spec := "prntLong", inPlace := ["internal/bytealg.MakeNoZero"], apart := false, narrowed := true }
def PrntLongUptoSaid : Prop := prntLongUptoRow.holds Try.pinned (OpenSpec.upto prntLongSpec)

/-- 'fettlelaw10.PrntOwn', WHERE WHAT IT READS IS OF BULK AT MOST 1048576: true; the input reads as it did. -/
def prntOwnUptoRow : OpenClaim := { program := "ytdcefnjdbdnhfaa", sum := "9203b6902c75063b1a0ed741f65410b5d805c399a84ba9bc99aeee152895c664", func := "fettle/fettlelaw10.PrntOwn", spec := "prntOwn", inPlace := ["internal/bytealg.MakeNoZero"], apart := false, narrowed := true }
def PrntOwnUptoSaid : Prop := prntOwnUptoRow.holds Try.pinned (OpenSpec.upto prntOwnSpec)

/-- 'fettlelaw10.PrntTells', WHERE WHAT IT READS IS OF BULK AT MOST 1048576: true; the input reads as it did. -/
def prntTellsUptoRow : OpenClaim := { program := "ytdcefnjdbdnhfaa", sum := "9203b6902c75063b1a0ed741f65410b5d805c399a84ba9bc99aeee152895c664", func := "fettle/fettlelaw10.PrntTells", spec := "prntTells", inPlace := ["internal/bytealg.MakeNoZero"], apart := false, narrowed := true }
def PrntTellsUptoSaid : Prop := prntTellsUptoRow.holds Try.pinned (OpenSpec.upto prntTellsSpec)

/-- 'fettlelaw10.PrntApart', WHERE WHAT IT READS IS OF BULK AT MOST 1048576: true; the input reads as it did. -/
def prntApartUptoRow : OpenClaim := { program := "ytdcefnjdbdnhfaa", sum := "9203b6902c75063b1a0ed741f65410b5d805c399a84ba9bc99aeee152895c664", func := "fettle/fettlelaw10.PrntApart", spec := "prntApart", inPlace := ["internal/bytealg.MakeNoZero"], apart := false, narrowed := true }
def PrntApartUptoSaid : Prop := prntApartUptoRow.holds Try.pinned (OpenSpec.upto prntApartSpec)

end Rows
end Go.Proofs.Ytdcefnjdbdnhfaa
