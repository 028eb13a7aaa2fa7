/- What package reco answers: a commit of bytes. -/
import Derived.Test.YtfheaognfocofaaGreatDoorZReco
import Derived.Test.YtfheaognfocofaaGreatDoorZ04
import Derived.Deep.CutBlock
import Derived.Deep.DeepCutAuto
import Derived.Test.YtfheaognfocofaaGreatDoorZ01
namespace Go.Proofs.YtfheaognfocofaaGreatDoor
set_option maxRecDepth 100000
open Go.ChangeShapes Go.WideShapes Go.ChangeAt Go.RowKit

/-- A commit that is opened, its print in a row of its own; or none. -/
def OpenDIs (R : Option Rc.D) (w : World) (e : Ending) (w' : World) : Prop :=
  Below w.heap.size w w' ∧ match R with
  | none => e = .returned (.tuple #[doneV ⟨#[]⟩ 0 0 (.slice none 0 0), .bool false])
  | some (t, p, who, inc) => ∃ x, e = .returned (.tuple #[doneV (str t) (who : Int) (inc : Int) x, .bool true]) ∧ Own w' w.heap.size x p
theorem openD_lt {t : List Nat} (h : Nm.ok t = true) : ∀ c ∈ t, c < 256 := by
  intro c hc
  simp only [Nm.ok, Bool.and_eq_true, List.all_eq_true] at h
  have := h.1.1 c hc
  simp [Nm.okc] at this
  omega

end Go.Proofs.YtfheaognfocofaaGreatDoor
