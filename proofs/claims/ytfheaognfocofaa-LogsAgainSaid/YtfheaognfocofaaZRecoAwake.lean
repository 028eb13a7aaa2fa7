/- What layer 12's statements ask beside: the known answers of package reco. -/
import Derived.Test.YtfheaognfocofaaZRecoTrace
import Derived.Test.YtfheaognfocofaaZRecoDone
import Derived.Test.YtfheaognfocofaaZPool
import Derived.Test.YtfheaognfocofaaZFramAwake
import Derived.Test.YtfheaognfocofaaZArtiAwake
namespace Go.Proofs.Ytfheaognfocofaa
set_option maxRecDepth 100000
open Go.ChangeShapes Go.WideShapes Go.ChangeAt Go.RowKit

theorem Pool.two {w : World} {base : Nat} {L : List (Value × List Nat)} (h : Pool w base L) (x y : Nat) (hx : x < 256) (hy : y < 256) : Pool (w.alloc (.cells #[.int .u8 (x : Int), .int .u8 (y : Int)] 5)) base ((.slice (some ⟨w.heap.size, 0, none⟩) 2 2, [x, y]) :: L) :=
  h.made ((Below.refl _ _).alloc (Nat.le_refl _) _) (own_new w w.heap.size [x, y] (by intro c hc; simp at hc; omega) (by simp [maxLen]) (Nat.le_refl _))
def rawT : List Nat := [97, 46, 111]
def rawD : List Nat := Rc.done rawT [112] 1 2
def rawF1 : List Nat := [] ++ Fr.frm rawD
def rawF2 : List Nat := rawF1 ++ Fr.frm rawD
def rawF3 : List Nat := rawF2 ++ [7, 7]
def rawL : List Nat := Rc.lock 1 2 3 400
theorem raw_len : rawD.length = 28 := by decide +kernel
theorem raw_open : Rc.openD rawD = some (rawT, [112], 1, 2) := Rc.done_ok (by decide +kernel)
theorem rawF3_len : rawF3.length = 78 := by decide +kernel
theorem rawF3_scn : Fr.Scn rawF3 2 := scn_two _ (by decide +kernel) (by decide +kernel) (by decide +kernel)
theorem rawF3_rows : Fr.rows rawF3 2 = [rawD, rawD] := by decide +kernel
theorem raw_lead : Rc.lead [rawD, rawD] = [(rawT, [112], 1, 2), (rawT, [112], 1, 2)] := by
  rw [Rc.lead, Rc.leadBy_some raw_open, Rc.leadBy_some raw_open]
  rfl
theorem raw_ends : Rc.ends [rawD, rawD] = 76 := by
  rw [Rc.ends, raw_lead]
  show Rc.size [rawD, rawD] = 76
  simp [Rc.size, raw_len]
theorem rawL_open : Rc.openL rawL = some (1, 2, 3, 400) := Rc.openL_lock _ _ _ _ (by decide) (by decide) (by decide) (by decide)
theorem rawL_len : rawL.length = 34 := Rc.lock_length _ _ _ _
theorem rawN_nil : Rc.done [] [] 0 0 = [] := by decide +kernel
theorem rawT_str : str rawT = ⟨#[97, 46, 111]⟩ := rfl

end Go.Proofs.Ytfheaognfocofaa
