/-
  No cell of these rows narrows 'for every input' (looked for: loops, veiled, ifaces, maps, wideKeys, modest, calm, conditions, laid).
  DERIVED. THE GIVEN ROWS OF THIS SEAT. 5 by the template 'for every input the law returns true; each argument reads behind the call as it read before'; 0 by the template 'total and deterministic' (their statements: YtldnpedegcbglaaTotals.lean).
  GIVEN WITH THE SEED: the statements are not yours to turn. If you find one false, say at which input.
  Laid BY PROGRAM, IN A SANDBOX (cutbox-rows.mjs): the forced cells as the released guide's own fill.sh prints them over the translation 31d8c2862c62b694… (all of the seat's roots in one cut). By AI agents, Wed Nov 11 2026. No macro, syntax, notation, axiom, sorry.
-/
import Derived.Test.YtldnpedegcbglaaChecked
import GoSem.Claim
import GoSem.ClaimJoined
import GoSem.ClaimMapViews
import Derived.JoinedTies
import Derived.KernelRfl
namespace Go.Proofs.Ytldnpedegcbglaa
/- THE CELL 'sum', in the pinned program and in every row, IS THE sha256 OF THE DUMP (.gsa) THAT YtldnpedegcbglaaProg.lean LOADS. Nothing in Lean hashes anything: it is a label: what it is worth is what the hold of that sum in a sandbox is worth. -/
noncomputable def Try.pinned : Pinned := { name := "ytldnpedegcbglaa", sum := "31d8c2862c62b6947dcc8c03e993b8d81413a63d6ec8401a889972c276942038", checked := Try.checked }
namespace Rows
def none {H : Type} : Left H := { results := [], args := [] }

/-- 'fettlelaw10.PrntLong': WHATEVER THE INPUT: true; the input reads as it did. -/
def prntLongSpec : ChangeSpec := { name := "prntLong", fn := fun _ => fun
  | [d1, d2] => { results := [.lit (.bool true)], args := [d1, d2] }
  | _ => none }
def prntLongRow : OpenClaim := { program := "ytldnpedegcbglaa", sum := "31d8c2862c62b6947dcc8c03e993b8d81413a63d6ec8401a889972c276942038", func := "fettle/fettlelaw10.PrntLong", spec := "prntLong", inPlace := ["internal/bytealg.MakeNoZero"], apart := false }
def PrntLongSaid : Prop := prntLongRow.holds Try.pinned (OpenSpec.ofChange prntLongSpec)

/-- ITS FALSE NEIGHBOUR: 'it returns false'. Refute it at one input. -/
def prntLongWrong : ChangeSpec := { name := "prntLong", fn := fun _ => fun
  | [d1, d2] => { results := [.lit (.bool false)], args := [d1, d2] }
  | _ => none }
def PrntLongWrongFalsely : Prop := prntLongRow.holds Try.pinned (OpenSpec.ofChange prntLongWrong)

/-- 'fettlelaw11.ArtiForms': WHATEVER THE INPUT: true; the input reads as it did. -/
def artiFormsSpec : ChangeSpec := { name := "artiForms", fn := fun _ => fun
  | [d] => { results := [.lit (.bool true)], args := [d] }
  | _ => none }
def artiFormsRow : OpenClaim := { program := "ytldnpedegcbglaa", sum := "31d8c2862c62b6947dcc8c03e993b8d81413a63d6ec8401a889972c276942038", func := "fettle/fettlelaw11.ArtiForms", spec := "artiForms", unfollowed := true, recurses := true, apart := false }
def ArtiFormsSaid : Prop := artiFormsRow.holds Try.pinned (OpenSpec.ofChange artiFormsSpec)

/-- ITS FALSE NEIGHBOUR: 'it returns false'. Refute it at one input. -/
def artiFormsWrong : ChangeSpec := { name := "artiForms", fn := fun _ => fun
  | [d] => { results := [.lit (.bool false)], args := [d] }
  | _ => none }
def ArtiFormsWrongFalsely : Prop := artiFormsRow.holds Try.pinned (OpenSpec.ofChange artiFormsWrong)

/-- 'fettlelaw11.ArtiOwn': WHATEVER THE INPUT: true; the input reads as it did. -/
def artiOwnSpec : ChangeSpec := { name := "artiOwn", fn := fun _ => fun
  | [d1, d2, d3, d4] => { results := [.lit (.bool true)], args := [d1, d2, d3, d4] }
  | _ => none }
def artiOwnRow : OpenClaim := { program := "ytldnpedegcbglaa", sum := "31d8c2862c62b6947dcc8c03e993b8d81413a63d6ec8401a889972c276942038", func := "fettle/fettlelaw11.ArtiOwn", spec := "artiOwn", unfollowed := true, recurses := true, apart := false }
def ArtiOwnSaid : Prop := artiOwnRow.holds Try.pinned (OpenSpec.ofChange artiOwnSpec)

/-- ITS FALSE NEIGHBOUR: 'it returns false'. Refute it at one input. -/
def artiOwnWrong : ChangeSpec := { name := "artiOwn", fn := fun _ => fun
  | [d1, d2, d3, d4] => { results := [.lit (.bool false)], args := [d1, d2, d3, d4] }
  | _ => none }
def ArtiOwnWrongFalsely : Prop := artiOwnRow.holds Try.pinned (OpenSpec.ofChange artiOwnWrong)

/-- 'fettlelaw11.ArtiTells': WHATEVER THE INPUT: true; the input reads as it did. -/
def artiTellsSpec : ChangeSpec := { name := "artiTells", fn := fun _ => fun
  | [d1, d2, d3, d4, d5] => { results := [.lit (.bool true)], args := [d1, d2, d3, d4, d5] }
  | _ => none }
def artiTellsRow : OpenClaim := { program := "ytldnpedegcbglaa", sum := "31d8c2862c62b6947dcc8c03e993b8d81413a63d6ec8401a889972c276942038", func := "fettle/fettlelaw11.ArtiTells", spec := "artiTells", unfollowed := true, recurses := true, apart := false }
def ArtiTellsSaid : Prop := artiTellsRow.holds Try.pinned (OpenSpec.ofChange artiTellsSpec)

/-- ITS FALSE NEIGHBOUR: 'it returns false'. Refute it at one input. -/
def artiTellsWrong : ChangeSpec := { name := "artiTells", fn := fun _ => fun
  | [d1, d2, d3, d4, d5] => { results := [.lit (.bool false)], args := [d1, d2, d3, d4, d5] }
  | _ => none }
def ArtiTellsWrongFalsely : Prop := artiTellsRow.holds Try.pinned (OpenSpec.ofChange artiTellsWrong)

/-- 'fettlelaw11.ArtiTurned': WHATEVER THE INPUT: true; the input reads as it did. -/
def artiTurnedSpec : ChangeSpec := { name := "artiTurned", fn := fun _ => fun
  | [d1, d2, d3, d4] => { results := [.lit (.bool true)], args := [d1, d2, d3, d4] }
  | _ => none }
def artiTurnedRow : OpenClaim := { program := "ytldnpedegcbglaa", sum := "31d8c2862c62b6947dcc8c03e993b8d81413a63d6ec8401a889972c276942038", func := "fettle/fettlelaw11.ArtiTurned", spec := "artiTurned", unfollowed := true, recurses := true, apart := false }
def ArtiTurnedSaid : Prop := artiTurnedRow.holds Try.pinned (OpenSpec.ofChange artiTurnedSpec)

/-- ITS FALSE NEIGHBOUR: 'it returns false'. Refute it at one input. -/
def artiTurnedWrong : ChangeSpec := { name := "artiTurned", fn := fun _ => fun
  | [d1, d2, d3, d4] => { results := [.lit (.bool false)], args := [d1, d2, d3, d4] }
  | _ => none }
def ArtiTurnedWrongFalsely : Prop := artiTurnedRow.holds Try.pinned (OpenSpec.ofChange artiTurnedWrong)

/- THE SECOND FORM. 'bulk': how many values and letters a reading holds, each counted each time it is reached (what is shared counts as often as it is met; a slice's spare places count too). A statement '..UptoSaid' is the law's where the arguments, and the package variables that the reading takes, are together of bulk at most 1048576: NARROWER than '..Said'. Prove '..Said' where nothing that the law and all that it calls make is longer than what came in: it says more and counts as full. Else prove '..UptoSaid'. A law counts once. -/
mutual
def uptoBulk {H : Type} : DataW H → Nat
  | .lit (.string bytes) => bytes.length + 1
  | .lit _ => 1
  | .nil => 1
  | .ptr d => uptoBulk d + 1
  | .slice elems spare => uptoBulkAll elems + uptoBulkAll spare + 1
  | .agg parts => uptoBulkAll parts + 1
  | .iface _ d => uptoBulk d + 1
  | .map entries => uptoBulkEntries entries + 1
  | .held _ => 1
def uptoBulkAll {H : Type} : List (DataW H) → Nat
  | [] => 0
  | d :: r => uptoBulk d + uptoBulkAll r
def uptoBulkEntries {H : Type} : List (Lit × DataW H) → Nat
  | [] => 0
  | x :: r => uptoBulkEntry x + uptoBulkEntries r
def uptoBulkEntry {H : Type} : Lit × DataW H → Nat
  | (.string bytes, d) => bytes.length + uptoBulk d + 1
  | (_, d) => uptoBulk d + 1
 end
def uptoSmall : (H : Type) → List (DataW H) → Bool := fun _ ds => decide (uptoBulkAll ds ≤ 1048576)
def OpenSpec.upto (s : _root_.Go.ChangeSpec) : _root_.Go.OpenSpec := { _root_.Go.OpenSpec.ofChange s with cond := some uptoSmall }

/-- 'fettlelaw10.PrntLong', WHERE WHAT IT READS IS OF BULK AT MOST 1048576: true; the input reads as it did. -/
def prntLongUptoRow : OpenClaim := { program := "ytldnpedegcbglaa", sum := "31d8c2862c62b6947dcc8c03e993b8d81413a63d6ec8401a889972c276942038", func := "fettle/fettlelaw10.PrntLong", spec := "prntLong", inPlace := ["internal/bytealg.MakeNoZero"], apart := false, narrowed := true }
def PrntLongUptoSaid : Prop := prntLongUptoRow.holds Try.pinned (OpenSpec.upto prntLongSpec)

/-- 'fettlelaw11.ArtiForms', WHERE WHAT IT READS IS OF BULK AT MOST 1048576: true; the input reads as it did. -/
def artiFormsUptoRow : OpenClaim := { program := "ytldnpedegcbglaa", sum := "31d8c2862c62b6947dcc8c03e993b8d81413a63d6ec8401a889972c276942038", func := "fettle/fettlelaw11.ArtiForms", spec := "artiForms", unfollowed := true, recurses := true, apart := false, narrowed := true }
def ArtiFormsUptoSaid : Prop := artiFormsUptoRow.holds Try.pinned (OpenSpec.upto artiFormsSpec)

/-- 'fettlelaw11.ArtiOwn', WHERE WHAT IT READS IS OF BULK AT MOST 1048576: true; the input reads as it did. -/
def artiOwnUptoRow : OpenClaim := { program := "ytldnpedegcbglaa", sum := "31d8c2862c62b6947dcc8c03e993b8d81413a63d6ec8401a889972c276942038", func := "fettle/fettlelaw11.ArtiOwn", spec := "artiOwn", unfollowed := true, recurses := true, apart := false, narrowed := true }
def ArtiOwnUptoSaid : Prop := artiOwnUptoRow.holds Try.pinned (OpenSpec.upto artiOwnSpec)

/-- 'fettlelaw11.ArtiTells', WHERE WHAT IT READS IS OF BULK AT MOST 1048576: true; the input reads as it did. -/
def artiTellsUptoRow : OpenClaim := { program := "ytldnpedegcbglaa", sum := "31d8c2862c62b6947dcc8c03e993b8d81413a63d6ec8401a889972c276942038", func := "fettle/fettlelaw11.ArtiTells", spec := "artiTells", unfollowed := true, recurses := true, apart := false, narrowed := true }
def ArtiTellsUptoSaid : Prop := artiTellsUptoRow.holds Try.pinned (OpenSpec.upto artiTellsSpec)

/-- 'fettlelaw11.ArtiTurned', WHERE WHAT IT READS IS OF BULK AT MOST 1048576: true; the input reads as it did. -/
def artiTurnedUptoRow : OpenClaim := { program := "ytldnpedegcbglaa", sum := "31d8c2862c62b6947dcc8c03e993b8d81413a63d6ec8401a889972c276942038", func := "fettle/fettlelaw11.ArtiTurned", spec := "artiTurned", unfollowed := true, recurses := true, apart := false, narrowed := true }
def ArtiTurnedUptoSaid : Prop := artiTurnedUptoRow.holds Try.pinned (OpenSpec.upto artiTurnedSpec)

end Rows
end Go.Proofs.Ytldnpedegcbglaa
