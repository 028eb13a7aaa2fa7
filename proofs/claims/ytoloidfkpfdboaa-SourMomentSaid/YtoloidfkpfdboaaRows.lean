/-
  No cell of these rows narrows 'for every input' (looked for: loops, veiled, ifaces, maps, wideKeys, modest, calm, conditions, laid).
  DERIVED. THE GIVEN ROWS OF THIS SEAT. 4 by the template 'for every input the law returns true; each argument reads behind the call as it read before'; 0 by the template 'total and deterministic' (their statements: YtoloidfkpfdboaaTotals.lean).
  GIVEN WITH THE SEED: the statements are not yours to turn. If you find one false, say at which input.
  Laid BY PROGRAM, IN A SANDBOX (cutbox-rows.mjs): the forced cells as the released guide's own fill.sh prints them over the translation 498d4fcb520ff92d… (all of the seat's roots in one cut). By AI agents, Wed Nov 11 2026. No macro, syntax, notation, axiom, sorry.
-/
import Derived.Test.YtoloidfkpfdboaaChecked
import GoSem.Claim
import GoSem.ClaimJoined
import GoSem.ClaimMapViews
import Derived.JoinedTies
import Derived.KernelRfl
namespace Go.Proofs.Ytoloidfkpfdboaa
/- THE CELL 'sum', in the pinned program and in every row, IS THE sha256 OF THE DUMP (.gsa) THAT YtoloidfkpfdboaaProg.lean LOADS. Nothing in Lean hashes anything: it is a label: what it is worth is what the hold of that sum in a sandbox is worth. -/
noncomputable def Try.pinned : Pinned := { name := "ytoloidfkpfdboaa", sum := "498d4fcb520ff92d660d745ad69f8a348e29d73a0ab90e8f68efe732cfd41bf7", checked := Try.checked }
namespace Rows
def none {H : Type} : Left H := { results := [], args := [] }

/-- 'fettlelaw15.SourSteps': WHATEVER THE INPUT: true; the input reads as it did. -/
def sourStepsSpec : ChangeSpec := { name := "sourSteps", fn := fun _ => fun
  | [d1, d2] => { results := [.lit (.bool true)], args := [d1, d2] }
  | _ => none }
def sourStepsRow : OpenClaim := { program := "ytoloidfkpfdboaa", sum := "498d4fcb520ff92d660d745ad69f8a348e29d73a0ab90e8f68efe732cfd41bf7", func := "fettle/fettlelaw15.SourSteps", spec := "sourSteps", inPlace := ["internal/bytealg.IndexByteString", "internal/bytealg.IndexString"], unfollowed := true, recurses := true, named := ["internal/bytealg.MaxLen"], apart := false }
def SourStepsSaid : Prop := sourStepsRow.holds Try.pinned (OpenSpec.ofChange sourStepsSpec)

/-- ITS FALSE NEIGHBOUR: 'it returns false'. Refute it at one input. -/
def sourStepsWrong : ChangeSpec := { name := "sourSteps", fn := fun _ => fun
  | [d1, d2] => { results := [.lit (.bool false)], args := [d1, d2] }
  | _ => none }
def SourStepsWrongFalsely : Prop := sourStepsRow.holds Try.pinned (OpenSpec.ofChange sourStepsWrong)

/-- 'fettlelaw15.SourOwn': WHATEVER THE INPUT: true; the input reads as it did. -/
def sourOwnSpec : ChangeSpec := { name := "sourOwn", fn := fun _ => fun
  | [d1, d2] => { results := [.lit (.bool true)], args := [d1, d2] }
  | _ => none }
def sourOwnRow : OpenClaim := { program := "ytoloidfkpfdboaa", sum := "498d4fcb520ff92d660d745ad69f8a348e29d73a0ab90e8f68efe732cfd41bf7", func := "fettle/fettlelaw15.SourOwn", spec := "sourOwn", inPlace := ["internal/bytealg.IndexByteString", "internal/bytealg.IndexString"], unfollowed := true, recurses := true, named := ["internal/bytealg.MaxLen"], apart := false }
def SourOwnSaid : Prop := sourOwnRow.holds Try.pinned (OpenSpec.ofChange sourOwnSpec)

/-- ITS FALSE NEIGHBOUR: 'it returns false'. Refute it at one input. -/
def sourOwnWrong : ChangeSpec := { name := "sourOwn", fn := fun _ => fun
  | [d1, d2] => { results := [.lit (.bool false)], args := [d1, d2] }
  | _ => none }
def SourOwnWrongFalsely : Prop := sourOwnRow.holds Try.pinned (OpenSpec.ofChange sourOwnWrong)

/-- 'fettlelaw15.SourMoment': WHATEVER THE INPUT: true; the input reads as it did. -/
def sourMomentSpec : ChangeSpec := { name := "sourMoment", fn := fun _ => fun
  | [d1, d2] => { results := [.lit (.bool true)], args := [d1, d2] }
  | _ => none }
def sourMomentRow : OpenClaim := { program := "ytoloidfkpfdboaa", sum := "498d4fcb520ff92d660d745ad69f8a348e29d73a0ab90e8f68efe732cfd41bf7", func := "fettle/fettlelaw15.SourMoment", spec := "sourMoment", inPlace := ["internal/bytealg.IndexByteString", "internal/bytealg.IndexString"], unfollowed := true, recurses := true, named := ["internal/bytealg.MaxLen"], apart := false }
def SourMomentSaid : Prop := sourMomentRow.holds Try.pinned (OpenSpec.ofChange sourMomentSpec)

/-- ITS FALSE NEIGHBOUR: 'it returns false'. Refute it at one input. -/
def sourMomentWrong : ChangeSpec := { name := "sourMoment", fn := fun _ => fun
  | [d1, d2] => { results := [.lit (.bool false)], args := [d1, d2] }
  | _ => none }
def SourMomentWrongFalsely : Prop := sourMomentRow.holds Try.pinned (OpenSpec.ofChange sourMomentWrong)

/-- 'fettlelaw15.SourMisses': WHATEVER THE INPUT: true; the input reads as it did. -/
def sourMissesSpec : ChangeSpec := { name := "sourMisses", fn := fun _ => fun
  | [d] => { results := [.lit (.bool true)], args := [d] }
  | _ => none }
def sourMissesRow : OpenClaim := { program := "ytoloidfkpfdboaa", sum := "498d4fcb520ff92d660d745ad69f8a348e29d73a0ab90e8f68efe732cfd41bf7", func := "fettle/fettlelaw15.SourMisses", spec := "sourMisses", inPlace := ["internal/bytealg.IndexByteString", "internal/bytealg.IndexString"], unfollowed := true, recurses := true, named := ["internal/bytealg.MaxLen"], apart := false }
def SourMissesSaid : Prop := sourMissesRow.holds Try.pinned (OpenSpec.ofChange sourMissesSpec)

/-- ITS FALSE NEIGHBOUR: 'it returns false'. Refute it at one input. -/
def sourMissesWrong : ChangeSpec := { name := "sourMisses", fn := fun _ => fun
  | [d] => { results := [.lit (.bool false)], args := [d] }
  | _ => none }
def SourMissesWrongFalsely : Prop := sourMissesRow.holds Try.pinned (OpenSpec.ofChange sourMissesWrong)

/- THE SECOND FORM. 'bulk': how many values and letters a reading holds, each counted each time it is reached (what is shared counts as often as it is met; a slice's spare places count too). A statement '..UptoSaid' is the law's where the arguments, and the package variables that the reading takes, are together of bulk at most 1048576: NARROWER than '..Said'. Prove '..Said' where nothing that the law and all that it calls make is longer than what came in: it says more and counts as full. Else prove '..UptoSaid'. A law counts once. -/
mutual
def uptoBulk {H : Type} : DataW H → Nat
  | .lit (.string bytes) => bytes.length + 1
  | .lit _ => 1
  | .nil => 1
  | .ptr d => uptoBulk d + 1
  | .slice elems spare => uptoBulkAll elems + uptoBulkAll spare + 1
  | .agg parts => uptoBulkAll parts + 1
  | .iface _ d => uptoBulk d + 1
  | .map entries => uptoBulkEntries entries + 1
  | .held _ => 1
def uptoBulkAll {H : Type} : List (DataW H) → Nat
  | [] => 0
  | d :: r => uptoBulk d + uptoBulkAll r
def uptoBulkEntries {H : Type} : List (Lit × DataW H) → Nat
  | [] => 0
  | x :: r => uptoBulkEntry x + uptoBulkEntries r
def uptoBulkEntry {H : Type} : Lit × DataW H → Nat
  | (.string bytes, d) => bytes.length + uptoBulk d + 1
  | (_, d) => uptoBulk d + 1
 end
def uptoSmall : (H : Type) → List (DataW H) → Bool := fun _ ds => decide (uptoBulkAll ds ≤ 1048576)
def OpenSpec.upto (s : _root_.Go.ChangeSpec) : _root_.Go.OpenSpec := { _root_.Go.OpenSpec.ofChange s with cond := some uptoSmall }

/-- 'fettlelaw15.SourSteps', WHERE WHAT IT READS IS OF BULK AT MOST 1048576: true; the input reads as it did. -/
def sourStepsUptoRow : OpenClaim := { program := "ytoloidfkpfdboaa", sum := "498d4fcb520ff92d660d745ad69f8a348e29d73a0ab90e8f68efe732cfd41bf7", func := "fettle/fettlelaw15.SourSteps", spec := "sourSteps", inPlace := ["internal/bytealg.IndexByteString", "internal/bytealg.IndexString"], unfollowed := true, recurses := true, named := ["internal/bytealg.MaxLen"], apart := false, narrowed := true }
def SourStepsUptoSaid : Prop := sourStepsUptoRow.holds Try.pinned (OpenSpec.upto sourStepsSpec)

/-- 'fettlelaw15.SourOwn', WHERE WHAT IT READS IS OF BULK AT MOST 1048576: true; the input reads as it did. -/
def sourOwnUptoRow : OpenClaim := { program := "ytoloidfkpfdboaa", sum := "498d4fcb520ff92d660d745ad69f8a348e29d73a0ab90e8f68efe732cfd41bf7", func := "fettle/fettlelaw15.SourOwn", spec := "sourOwn", inPlace := ["internal/bytealg.IndexByteString", "internal/bytealg.IndexString"], unfollowed := true, recurses := true, named := ["internal/bytealg.MaxLen"], apart := false, narrowed := true }
def SourOwnUptoSaid : Prop := sourOwnUptoRow.holds Try.pinned (OpenSpec.upto sourOwnSpec)

/-- 'fettlelaw15.SourMoment', WHERE WHAT IT READS IS OF BULK AT MOST 1048576: true; the input reads as it did. -/
def sourMomentUptoRow : OpenClaim := { program := "ytoloidfkpfdboaa", sum := "498d4fcb520ff92d660d745ad69f8a348e29d73a0ab90e8f68efe732cfd41bf7", func := "fettle/fettlelaw15.SourMoment", spec := "sourMoment", inPlace := ["internal/bytealg.IndexByteString", "internal/bytealg.IndexString"], unfollowed := true, recurses := true, named := ["internal/bytealg.MaxLen"], apart := false, narrowed := true }
def SourMomentUptoSaid : Prop := sourMomentUptoRow.holds Try.pinned (OpenSpec.upto sourMomentSpec)

/-- 'fettlelaw15.SourMisses', WHERE WHAT IT READS IS OF BULK AT MOST 1048576: true; the input reads as it did. -/
def sourMissesUptoRow : OpenClaim := { program := "ytoloidfkpfdboaa", sum := "498d4fcb520ff92d660d745ad69f8a348e29d73a0ab90e8f68efe732cfd41bf7", func := "fettle/fettlelaw15.SourMisses", spec := "sourMisses", inPlace := ["internal/bytealg.IndexByteString", "internal/bytealg.IndexString"], unfollowed := true, recurses := true, named := ["internal/bytealg.MaxLen"], apart := false, narrowed := true }
def SourMissesUptoSaid : Prop := sourMissesUptoRow.holds Try.pinned (OpenSpec.upto sourMissesSpec)

end Rows
end Go.Proofs.Ytoloidfkpfdboaa
