/-
  No cell of these rows narrows 'for every input' (looked for: loops, veiled, ifaces, maps, wideKeys, modest, calm, conditions, laid).
  DERIVED. THE GIVEN ROWS OF THIS SEAT. 4 by the template 'for every input the law returns true; each argument reads behind the call as it read before'; 0 by the template 'total and deterministic' (their statements: YtemliglhippdcaaTotals.lean).
  GIVEN WITH THE SEED: the statements are not yours to turn. If you find one false, say at which input.
  Laid BY PROGRAM, IN A SANDBOX (cutbox-rows.mjs): the forced cells as the released guide's own fill.sh prints them over the translation 19a776676bfc1f4c… (all of the seat's roots in one cut). By AI agents, Wed Nov 11 2026. No macro, syntax, notation, axiom, sorry.
-/
import Derived.Test.YtemliglhippdcaaChecked
import GoSem.Claim
import GoSem.ClaimJoined
import GoSem.ClaimMapViews
import Derived.JoinedTies
import Derived.KernelRfl
namespace Go.Proofs.Ytemliglhippdcaa
/- THE CELL 'sum', in the pinned program and in every row, IS THE sha256 OF THE DUMP (.gsa) THAT YtemliglhippdcaaProg.lean LOADS. Nothing in Lean hashes anything: it is a label: what it is worth is what the hold of that sum in a sandbox is worth. -/
noncomputable def Try.pinned : Pinned := { name := "ytemliglhippdcaa", sum := "19a776676bfc1f4c7c61d3dc3b82a1bcaf38141ea9d476d840c34f4aa1506071", checked := Try.checked }
namespace Rows
def none {H : Type} : Left H := { results := [], args := [] }

/-- 'fettlelaw8.GrphWanted': WHATEVER THE INPUT: true; the input reads as it did. -/
def grphWantedSpec : ChangeSpec := { name := "grphWanted", fn := fun _ => fun
  | [d1, d2] => { results := [.lit (.bool true)], args := [d1, d2] }
  | _ => none }
def grphWantedRow : OpenClaim := { program := "ytemliglhippdcaa", sum := "19a776676bfc1f4c7c61d3dc3b82a1bcaf38141ea9d476d840c34f4aa1506071", func := "fettle/fettlelaw8.GrphWanted", spec := "grphWanted", unfollowed := true, recurses := true, plainKeys := false, apart := false }
def GrphWantedSaid : Prop := grphWantedRow.holds Try.pinned (OpenSpec.ofChange grphWantedSpec)

/-- ITS FALSE NEIGHBOUR: 'it returns false'. Refute it at one input. -/
def grphWantedWrong : ChangeSpec := { name := "grphWanted", fn := fun _ => fun
  | [d1, d2] => { results := [.lit (.bool false)], args := [d1, d2] }
  | _ => none }
def GrphWantedWrongFalsely : Prop := grphWantedRow.holds Try.pinned (OpenSpec.ofChange grphWantedWrong)

/-- 'fettlelaw8.GrphOrder': WHATEVER THE INPUT: true; the input reads as it did. -/
def grphOrderSpec : ChangeSpec := { name := "grphOrder", fn := fun _ => fun
  | [d1, d2, d3] => { results := [.lit (.bool true)], args := [d1, d2, d3] }
  | _ => none }
def grphOrderRow : OpenClaim := { program := "ytemliglhippdcaa", sum := "19a776676bfc1f4c7c61d3dc3b82a1bcaf38141ea9d476d840c34f4aa1506071", func := "fettle/fettlelaw8.GrphOrder", spec := "grphOrder", unfollowed := true, recurses := true, plainKeys := false, apart := false }
def GrphOrderSaid : Prop := grphOrderRow.holds Try.pinned (OpenSpec.ofChange grphOrderSpec)

/-- ITS FALSE NEIGHBOUR: 'it returns false'. Refute it at one input. -/
def grphOrderWrong : ChangeSpec := { name := "grphOrder", fn := fun _ => fun
  | [d1, d2, d3] => { results := [.lit (.bool false)], args := [d1, d2, d3] }
  | _ => none }
def GrphOrderWrongFalsely : Prop := grphOrderRow.holds Try.pinned (OpenSpec.ofChange grphOrderWrong)

/-- 'fettlelaw8.GrphReach': WHATEVER THE INPUT: true; the input reads as it did. -/
def grphReachSpec : ChangeSpec := { name := "grphReach", fn := fun _ => fun
  | [d1, d2, d3] => { results := [.lit (.bool true)], args := [d1, d2, d3] }
  | _ => none }
def grphReachRow : OpenClaim := { program := "ytemliglhippdcaa", sum := "19a776676bfc1f4c7c61d3dc3b82a1bcaf38141ea9d476d840c34f4aa1506071", func := "fettle/fettlelaw8.GrphReach", spec := "grphReach", unfollowed := true, recurses := true, plainKeys := false, apart := false }
def GrphReachSaid : Prop := grphReachRow.holds Try.pinned (OpenSpec.ofChange grphReachSpec)

/-- ITS FALSE NEIGHBOUR: 'it returns false'. Refute it at one input. -/
def grphReachWrong : ChangeSpec := { name := "grphReach", fn := fun _ => fun
  | [d1, d2, d3] => { results := [.lit (.bool false)], args := [d1, d2, d3] }
  | _ => none }
def GrphReachWrongFalsely : Prop := grphReachRow.holds Try.pinned (OpenSpec.ofChange grphReachWrong)

/-- 'fettlelaw8.GrphRules': WHATEVER THE INPUT: true; the input reads as it did. -/
def grphRulesSpec : ChangeSpec := { name := "grphRules", fn := fun _ => fun
  | [d1, d2] => { results := [.lit (.bool true)], args := [d1, d2] }
  | _ => none }
def grphRulesRow : OpenClaim := { program := "ytemliglhippdcaa", sum := "19a776676bfc1f4c7c61d3dc3b82a1bcaf38141ea9d476d840c34f4aa1506071", func := "fettle/fettlelaw8.GrphRules", spec := "grphRules", unfollowed := true, recurses := true, plainKeys := false, apart := false }
def GrphRulesSaid : Prop := grphRulesRow.holds Try.pinned (OpenSpec.ofChange grphRulesSpec)

/-- ITS FALSE NEIGHBOUR: 'it returns false'. Refute it at one input. -/
def grphRulesWrong : ChangeSpec := { name := "grphRules", fn := fun _ => fun
  | [d1, d2] => { results := [.lit (.bool false)], args := [d1, d2] }
  | _ => none }
def GrphRulesWrongFalsely : Prop := grphRulesRow.holds Try.pinned (OpenSpec.ofChange grphRulesWrong)

/- THE SECOND FORM. 'bulk': how many values and letters a reading holds, each counted each time it is reached (what is shared counts as often as it is met; a slice's spare places count too). A statement '..UptoSaid' is the law's where the arguments, and the package variables that the reading takes, are together of bulk at most 1048576: NARROWER than '..Said'. Prove '..Said' where nothing that the law and all that it calls make is longer than what came in: it says more and counts as full. Else prove '..UptoSaid'. A law counts once. -/
mutual
def uptoBulk {H : Type} : DataW H → Nat
  | .lit (.string bytes) => bytes.length + 1
  | .lit _ => 1
  | .nil => 1
  | .ptr d => uptoBulk d + 1
  | .slice elems spare => uptoBulkAll elems + uptoBulkAll spare + 1
  | .agg parts => uptoBulkAll parts + 1
  | .iface _ d => uptoBulk d + 1
  | .map entries => uptoBulkEntries entries + 1
  | .held _ => 1
def uptoBulkAll {H : Type} : List (DataW H) → Nat
  | [] => 0
  | d :: r => uptoBulk d + uptoBulkAll r
def uptoBulkEntries {H : Type} : List (Lit × DataW H) → Nat
  | [] => 0
  | x :: r => uptoBulkEntry x + uptoBulkEntries r
def uptoBulkEntry {H : Type} : Lit × DataW H → Nat
  | (.string bytes, d) => bytes.length + uptoBulk d + 1
  | (_, d) => uptoBulk d + 1
 end
def uptoSmall : (H : Type) → List (DataW H) → Bool := fun _ ds => decide (uptoBulkAll ds ≤ 1048576)
def OpenSpec.upto (s : _root_.Go.ChangeSpec) : _root_.Go.OpenSpec := { _root_.Go.OpenSpec.ofChange s with cond := some uptoSmall }

/-- 'fettlelaw8.GrphWanted', WHERE WHAT IT READS IS OF BULK AT MOST 1048576: true; the input reads as it did. -/
def grphWantedUptoRow : OpenClaim := { program := "ytemliglhippdcaa", sum := "19a776676bfc1f4c7c61d3dc3b82a1bcaf38141ea9d476d840c34f4aa1506071", func := "fettle/fettlelaw8.GrphWanted", spec := "grphWanted", unfollowed := true, recurses := true, plainKeys := false, apart := false, narrowed := true }
def GrphWantedUptoSaid : Prop := grphWantedUptoRow.holds Try.pinned (OpenSpec.upto grphWantedSpec)

/-- 'fettlelaw8.GrphOrder', WHERE WHAT IT READS IS OF BULK AT MOST 1048576: true; the input reads as it did. -/
def grphOrderUptoRow : OpenClaim := { program := "ytemliglhippdcaa", sum := "19a776676bfc1f4c7c61d3dc3b82a1bcaf38141ea9d476d840c34f4aa1506071", func := "fettle/fettlelaw8.GrphOrder", spec := "grphOrder", unfollowed := true, recurses := true, plainKeys := false, apart := false, narrowed := true }
def GrphOrderUptoSaid : Prop := grphOrderUptoRow.holds Try.pinned (OpenSpec.upto grphOrderSpec)

/-- 'fettlelaw8.GrphReach', WHERE WHAT IT READS IS OF BULK AT MOST 1048576: true; the input reads as it did. -/
def grphReachUptoRow : OpenClaim := { program := "ytemliglhippdcaa", sum := "19a776676bfc1f4c7c61d3dc3b82a1bcaf38141ea9d476d840c34f4aa1506071", func := "fettle/fettlelaw8.GrphReach", spec := "grphReach", unfollowed := true, recurses := true, plainKeys := false, apart := false, narrowed := true }
def GrphReachUptoSaid : Prop := grphReachUptoRow.holds Try.pinned (OpenSpec.upto grphReachSpec)

/-- 'fettlelaw8.GrphRules', WHERE WHAT IT READS IS OF BULK AT MOST 1048576: true; the input reads as it did. -/
def grphRulesUptoRow : OpenClaim := { program := "ytemliglhippdcaa", sum := "19a776676bfc1f4c7c61d3dc3b82a1bcaf38141ea9d476d840c34f4aa1506071", func := "fettle/fettlelaw8.GrphRules", spec := "grphRules", unfollowed := true, recurses := true, plainKeys := false, apart := false, narrowed := true }
def GrphRulesUptoSaid : Prop := grphRulesUptoRow.holds Try.pinned (OpenSpec.upto grphRulesSpec)

end Rows
end Go.Proofs.Ytemliglhippdcaa
