/-
  No cell of these rows narrows 'for every input' (looked for: loops, veiled, ifaces, maps, wideKeys, modest, calm, conditions, laid).
  DERIVED. THE GIVEN ROWS OF THIS SEAT. 6 by the template 'for every input the law returns true; each argument reads behind the call as it read before'; 0 by the template 'total and deterministic' (their statements: YtkfmjkoghfcciaaTotals.lean).
  GIVEN WITH THE SEED: the statements are not yours to turn. If you find one false, say at which input.
  Laid BY PROGRAM, IN A SANDBOX (cutbox-rows.mjs): the forced cells as the released guide's own fill.sh prints them over the translation 4321a1e1e56da754… (all of the seat's roots in one cut). By AI agents, Wed Nov 11 2026. No macro, syntax, notation, axiom, sorry.
-/
import Derived.Test.YtkfmjkoghfcciaaChecked
import GoSem.Claim
import GoSem.ClaimJoined
import GoSem.ClaimMapViews
import Derived.JoinedTies
import Derived.KernelRfl
namespace Go.Proofs.Ytkfmjkoghfcciaa
/- THE CELL 'sum', in the pinned program and in every row, IS THE sha256 OF THE DUMP (.gsa) THAT YtkfmjkoghfcciaaProg.lean LOADS. Nothing in Lean hashes anything: it is a label: what it is worth is what the hold of that sum in a sandbox is worth. -/
noncomputable def Try.pinned : Pinned := { name := "ytkfmjkoghfcciaa", sum := "4321a1e1e56da754fb6fb6a323f418c8210282a2744e7054e0840651b0b5e7a0", checked := Try.checked }
namespace Rows
def none {H : Type} : Left H := { results := [], args := [] }

/-- 'fettlelaw9.SimfPlays': WHATEVER THE INPUT: true; the input reads as it did. -/
def simfPlaysSpec : ChangeSpec := { name := "simfPlays", fn := fun _ => fun
  | [d1, d2, d3] => { results := [.lit (.bool true)], args := [d1, d2, d3] }
  | _ => none }
def simfPlaysRow : OpenClaim := { program := "ytkfmjkoghfcciaa", sum := "4321a1e1e56da754fb6fb6a323f418c8210282a2744e7054e0840651b0b5e7a0", func := "fettle/fettlelaw9.SimfPlays", spec := "simfPlays", inPlace := ["internal/bytealg.IndexByteString", "internal/bytealg.IndexString"], recurses := true, named := ["internal/bytealg.MaxLen"], apart := false }
def SimfPlaysSaid : Prop := simfPlaysRow.holds Try.pinned (OpenSpec.ofChange simfPlaysSpec)

/-- ITS FALSE NEIGHBOUR: 'it returns false'. Refute it at one input. -/
def simfPlaysWrong : ChangeSpec := { name := "simfPlays", fn := fun _ => fun
  | [d1, d2, d3] => { results := [.lit (.bool false)], args := [d1, d2, d3] }
  | _ => none }
def SimfPlaysWrongFalsely : Prop := simfPlaysRow.holds Try.pinned (OpenSpec.ofChange simfPlaysWrong)

/-- 'fettlelaw11.ArtiForms': WHATEVER THE INPUT: true; the input reads as it did. -/
def artiFormsSpec : ChangeSpec := { name := "artiForms", fn := fun _ => fun
  | [d] => { results := [.lit (.bool true)], args := [d] }
  | _ => none }
def artiFormsRow : OpenClaim := { program := "ytkfmjkoghfcciaa", sum := "4321a1e1e56da754fb6fb6a323f418c8210282a2744e7054e0840651b0b5e7a0", func := "fettle/fettlelaw11.ArtiForms", spec := "artiForms", unfollowed := true, recurses := true, apart := false }
def ArtiFormsSaid : Prop := artiFormsRow.holds Try.pinned (OpenSpec.ofChange artiFormsSpec)

/-- ITS FALSE NEIGHBOUR: 'it returns false'. Refute it at one input. -/
def artiFormsWrong : ChangeSpec := { name := "artiForms", fn := fun _ => fun
  | [d] => { results := [.lit (.bool false)], args := [d] }
  | _ => none }
def ArtiFormsWrongFalsely : Prop := artiFormsRow.holds Try.pinned (OpenSpec.ofChange artiFormsWrong)

/-- 'fettlelaw12.RecoForms': WHATEVER THE INPUT: true; the input reads as it did. -/
def recoFormsSpec : ChangeSpec := { name := "recoForms", fn := fun _ => fun
  | [d] => { results := [.lit (.bool true)], args := [d] }
  | _ => none }
def recoFormsRow : OpenClaim := { program := "ytkfmjkoghfcciaa", sum := "4321a1e1e56da754fb6fb6a323f418c8210282a2744e7054e0840651b0b5e7a0", func := "fettle/fettlelaw12.RecoForms", spec := "recoForms", unfollowed := true, recurses := true, apart := false }
def RecoFormsSaid : Prop := recoFormsRow.holds Try.pinned (OpenSpec.ofChange recoFormsSpec)

/-- ITS FALSE NEIGHBOUR: 'it returns false'. Refute it at one input. -/
def recoFormsWrong : ChangeSpec := { name := "recoForms", fn := fun _ => fun
  | [d] => { results := [.lit (.bool false)], args := [d] }
  | _ => none }
def RecoFormsWrongFalsely : Prop := recoFormsRow.holds Try.pinned (OpenSpec.ofChange recoFormsWrong)

/-- 'fettlelaw12.RecoTurned': WHATEVER THE INPUT: true; the input reads as it did. -/
def recoTurnedSpec : ChangeSpec := { name := "recoTurned", fn := fun _ => fun
  | [d1, d2, d3, d4] => { results := [.lit (.bool true)], args := [d1, d2, d3, d4] }
  | _ => none }
def recoTurnedRow : OpenClaim := { program := "ytkfmjkoghfcciaa", sum := "4321a1e1e56da754fb6fb6a323f418c8210282a2744e7054e0840651b0b5e7a0", func := "fettle/fettlelaw12.RecoTurned", spec := "recoTurned", unfollowed := true, recurses := true, apart := false }
def RecoTurnedSaid : Prop := recoTurnedRow.holds Try.pinned (OpenSpec.ofChange recoTurnedSpec)

/-- ITS FALSE NEIGHBOUR: 'it returns false'. Refute it at one input. -/
def recoTurnedWrong : ChangeSpec := { name := "recoTurned", fn := fun _ => fun
  | [d1, d2, d3, d4] => { results := [.lit (.bool false)], args := [d1, d2, d3, d4] }
  | _ => none }
def RecoTurnedWrongFalsely : Prop := recoTurnedRow.holds Try.pinned (OpenSpec.ofChange recoTurnedWrong)

/-- 'fettlelaw12.RecoTells': WHATEVER THE INPUT: true; the input reads as it did. -/
def recoTellsSpec : ChangeSpec := { name := "recoTells", fn := fun _ => fun
  | [d1, d2, d3, d4, d5, d6] => { results := [.lit (.bool true)], args := [d1, d2, d3, d4, d5, d6] }
  | _ => none }
def recoTellsRow : OpenClaim := { program := "ytkfmjkoghfcciaa", sum := "4321a1e1e56da754fb6fb6a323f418c8210282a2744e7054e0840651b0b5e7a0", func := "fettle/fettlelaw12.RecoTells", spec := "recoTells", unfollowed := true, recurses := true, apart := false }
def RecoTellsSaid : Prop := recoTellsRow.holds Try.pinned (OpenSpec.ofChange recoTellsSpec)

/-- ITS FALSE NEIGHBOUR: 'it returns false'. Refute it at one input. -/
def recoTellsWrong : ChangeSpec := { name := "recoTells", fn := fun _ => fun
  | [d1, d2, d3, d4, d5, d6] => { results := [.lit (.bool false)], args := [d1, d2, d3, d4, d5, d6] }
  | _ => none }
def RecoTellsWrongFalsely : Prop := recoTellsRow.holds Try.pinned (OpenSpec.ofChange recoTellsWrong)

/-- 'fettlelaw12.RecoTrace': WHATEVER THE INPUT: true; the input reads as it did. -/
def recoTraceSpec : ChangeSpec := { name := "recoTrace", fn := fun _ => fun
  | [d1, d2, d3] => { results := [.lit (.bool true)], args := [d1, d2, d3] }
  | _ => none }
def recoTraceRow : OpenClaim := { program := "ytkfmjkoghfcciaa", sum := "4321a1e1e56da754fb6fb6a323f418c8210282a2744e7054e0840651b0b5e7a0", func := "fettle/fettlelaw12.RecoTrace", spec := "recoTrace", unfollowed := true, recurses := true, apart := false }
def RecoTraceSaid : Prop := recoTraceRow.holds Try.pinned (OpenSpec.ofChange recoTraceSpec)

/-- ITS FALSE NEIGHBOUR: 'it returns false'. Refute it at one input. -/
def recoTraceWrong : ChangeSpec := { name := "recoTrace", fn := fun _ => fun
  | [d1, d2, d3] => { results := [.lit (.bool false)], args := [d1, d2, d3] }
  | _ => none }
def RecoTraceWrongFalsely : Prop := recoTraceRow.holds Try.pinned (OpenSpec.ofChange recoTraceWrong)

/- THE SECOND FORM. 'bulk': how many values and letters a reading holds, each counted each time it is reached (what is shared counts as often as it is met; a slice's spare places count too). A statement '..UptoSaid' is the law's where the arguments, and the package variables that the reading takes, are together of bulk at most 1048576: NARROWER than '..Said'. Prove '..Said' where nothing that the law and all that it calls make is longer than what came in: it says more and counts as full. Else prove '..UptoSaid'. A law counts once. -/
mutual
def uptoBulk {H : Type} : DataW H → Nat
  | .lit (.string bytes) => bytes.length + 1
  | .lit _ => 1
  | .nil => 1
  | .ptr d => uptoBulk d + 1
  | .slice elems spare => uptoBulkAll elems + uptoBulkAll spare + 1
  | .agg parts => uptoBulkAll parts + 1
  | .iface _ d => uptoBulk d + 1
  | .map entries => uptoBulkEntries entries + 1
  | .held _ => 1
def uptoBulkAll {H : Type} : List (DataW H) → Nat
  | [] => 0
  | d :: r => uptoBulk d + uptoBulkAll r
def uptoBulkEntries {H : Type} : List (Lit × DataW H) → Nat
  | [] => 0
  | x :: r => uptoBulkEntry x + uptoBulkEntries r
def uptoBulkEntry {H : Type} : Lit × DataW H → Nat
  | (.string bytes, d) => bytes.length + uptoBulk d + 1
  | (_, d) => uptoBulk d + 1
 end
def uptoSmall : (H : Type) → List (DataW H) → Bool := fun _ ds => decide (uptoBulkAll ds ≤ 1048576)
def OpenSpec.upto (s : _root_.Go.ChangeSpec) : _root_.Go.OpenSpec := { _root_.Go.OpenSpec.ofChange s with cond := some uptoSmall }

/-- 'fettlelaw9.SimfPlays', WHERE WHAT IT READS IS OF BULK AT MOST 1048576: true; the input reads as it did. -/
def simfPlaysUptoRow : OpenClaim := { program := "ytkfmjkoghfcciaa", sum := "4321a1e1e56da754fb6fb6a323f418c8210282a2744e7054e0840651b0b5e7a0", func := "fettle/fettlelaw9.SimfPlays", spec := "simfPlays", inPlace := ["internal/bytealg.IndexByteString", "internal/bytealg.IndexString"], recurses := true, named := ["internal/bytealg.MaxLen"], apart := false, narrowed := true }
def SimfPlaysUptoSaid : Prop := simfPlaysUptoRow.holds Try.pinned (OpenSpec.upto simfPlaysSpec)

/-- 'fettlelaw11.ArtiForms', WHERE WHAT IT READS IS OF BULK AT MOST 1048576: true; the input reads as it did. -/
def artiFormsUptoRow : OpenClaim := { program := "ytkfmjkoghfcciaa", sum := "4321a1e1e56da754fb6fb6a323f418c8210282a2744e7054e0840651b0b5e7a0", func := "fettle/fettlelaw11.ArtiForms", spec := "artiForms", unfollowed := true, recurses := true, apart := false, narrowed := true }
def ArtiFormsUptoSaid : Prop := artiFormsUptoRow.holds Try.pinned (OpenSpec.upto artiFormsSpec)

/-- 'fettlelaw12.RecoForms', WHERE WHAT IT READS IS OF BULK AT MOST 1048576: true; the input reads as it did. -/
def recoFormsUptoRow : OpenClaim := { program := "ytkfmjkoghfcciaa", sum := "4321a1e1e56da754fb6fb6a323f418c8210282a2744e7054e0840651b0b5e7a0", func := "fettle/fettlelaw12.RecoForms", spec := "recoForms", unfollowed := true, recurses := true, apart := false, narrowed := true }
def RecoFormsUptoSaid : Prop := recoFormsUptoRow.holds Try.pinned (OpenSpec.upto recoFormsSpec)

/-- 'fettlelaw12.RecoTurned', WHERE WHAT IT READS IS OF BULK AT MOST 1048576: true; the input reads as it did. -/
def recoTurnedUptoRow : OpenClaim := { program := "ytkfmjkoghfcciaa", sum := "4321a1e1e56da754fb6fb6a323f418c8210282a2744e7054e0840651b0b5e7a0", func := "fettle/fettlelaw12.RecoTurned", spec := "recoTurned", unfollowed := true, recurses := true, apart := false, narrowed := true }
def RecoTurnedUptoSaid : Prop := recoTurnedUptoRow.holds Try.pinned (OpenSpec.upto recoTurnedSpec)

/-- 'fettlelaw12.RecoTells', WHERE WHAT IT READS IS OF BULK AT MOST 1048576: true; the input reads as it did. -/
def recoTellsUptoRow : OpenClaim := { program := "ytkfmjkoghfcciaa", sum := "4321a1e1e56da754fb6fb6a323f418c8210282a2744e7054e0840651b0b5e7a0", func := "fettle/fettlelaw12.RecoTells", spec := "recoTells", unfollowed := true, recurses := true, apart := false, narrowed := true }
def RecoTellsUptoSaid : Prop := recoTellsUptoRow.holds Try.pinned (OpenSpec.upto recoTellsSpec)

/-- 'fettlelaw12.RecoTrace', WHERE WHAT IT READS IS OF BULK AT MOST 1048576: true; the input reads as it did. -/
def recoTraceUptoRow : OpenClaim := { program := "ytkfmjkoghfcciaa", sum := "4321a1e1e56da754fb6fb6a323f418c8210282a2744e7054e0840651b0b5e7a0", func := "fettle/fettlelaw12.RecoTrace", spec := "recoTrace", unfollowed := true, recurses := true, apart := false, narrowed := true }
def RecoTraceUptoSaid : Prop := recoTraceUptoRow.holds Try.pinned (OpenSpec.upto recoTraceSpec)

end Rows
end Go.Proofs.Ytkfmjkoghfcciaa
