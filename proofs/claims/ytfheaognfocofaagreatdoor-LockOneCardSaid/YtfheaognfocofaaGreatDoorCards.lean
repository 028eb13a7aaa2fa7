/-
  DERIVED. GIVEN WITH THE SEED: THE CARDS: each row of YtfheaognfocofaaGreatDoorRows.lean that lists a variable, with what it lists TIED to the program's text (the seventh form; the later family's looks); each row that meets fmt, with fmt's text TOLD by the authors' own Lean function (tested against real Go, not proved from fmt's source: count such statements apart). THE CARD IS WHAT COUNTS. Prove the row's statement (the work); the ties are given (YtfheaognfocofaaGreatDoorTie.lean); close each card by the builder's one call (the guide's Derived/Test/ToyasCard.lean, 'card_holds'). Laid BY PROGRAM, IN A SANDBOX (cutbox-door.mjs). By AI agents, Wed Nov 11 2026. No macro, syntax, notation, axiom, sorry.
-/
import Derived.Test.YtfheaognfocofaaGreatDoorRows
import GoSem.ClaimSeven
namespace Go.Proofs.YtfheaognfocofaaGreatDoor
namespace Rows

/-- THE TIED CARD OF 'fettlelaw13.LockOne'. -/
def lockOneCard : Claim7 := { stood := { row := lockOneRow, standIns := [], harness := (true, "e23e395357d59a836e31bda4fb387e43899d48761adaa482c42aa01aaafa4cd5"), looks := false }, kinds := [], alts := [], laidByText := true, laidKinds := [.data, .data, .data], laidTests := true, laidLooks := .later }
def LockOneCardSaid : Prop := Claim7.holds Tryz.pinned (.plain (OpenSpec.ofChange lockOneSpec)) lockOneCard

/-- THE SECOND FORM's CARD OF 'fettlelaw13.LockOne'. -/
def lockOneUptoCard : Claim7 := { stood := { row := lockOneUptoRow, standIns := [], harness := (true, "e23e395357d59a836e31bda4fb387e43899d48761adaa482c42aa01aaafa4cd5"), looks := false }, kinds := [], alts := [], laidByText := true, laidKinds := [.data, .data, .data], laidTests := true, laidLooks := .later }
def LockOneUptoCardSaid : Prop := Claim7.holds Tryz.pinned (.plain (OpenSpec.upto lockOneSpec)) lockOneUptoCard
end Rows
end Go.Proofs.YtfheaognfocofaaGreatDoor
