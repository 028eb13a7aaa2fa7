/- NameForms: whichever row is picked, its text is a name, a file, a temp as is written beside it. -/
import Derived.Test.YtpgoofkpcbbhjaaDoorNameAwake
import Derived.Deep.RegionHeld3
import Derived.Deep.DeepCutAuto
import Derived.BigQuiet
import Derived.Deep.QuietTactic
import Derived.RegionTactic
import Derived.Deep.RegionWith
namespace Go.Proofs.YtpgoofkpcbbhjaaDoor
open Go.ChangeShapes Go.WideShapes Go.ChangeAt Go.RowKit

/-- A row of the table: the text, and what it is. -/
def Trip (l : List Nat) (o f t : Bool) : Prop := (∀ c ∈ l, c < 256) ∧ l.length ≤ 100 ∧ Nm.ok l = o ∧ Nm.file l = f ∧ Nm.isOf l = t

set_option maxRecDepth 100000 in
set_option maxHeartbeats 8000000 in
theorem forms_at (a : Int) (m : Int) (hm : (bits .and .i64 a 255).tmod 23 = m) (h8 : m = 0 ∨ m = 1 ∨ m = 2 ∨ m = 3 ∨ m = 4 ∨ m = 5 ∨ m = 6 ∨ m = 7 ∨ m = 8 ∨ m = 9 ∨ m = 10 ∨ m = 11 ∨ m = 12 ∨ m = 13 ∨ m = 14 ∨ m = 15 ∨ m = 16 ∨ m = 17 ∨ m = 18 ∨ m = 19 ∨ m = 20 ∨ m = 21 ∨ m = 22) (w : World) (hT : Tabs w) :
    Calls Tryd.prog 3 #[.int .i64 a] w fun e w' => e = .returned (.bool true) ∧ Below w.heap.size w w' := by
  have HTT := Lib.hid hT
  clear hT
  go_enter Tryd.func3, Tryd.ntmps3
  go_upto_region 2 with fail
  go_cut [4] (fun s4 wx => ∃ (g : Nat) (l : List Nat) (o f t : Bool), s4 = .pointer (some ⟨g, 0, none⟩) ∧ wx.cell? ⟨g, 0, none⟩ = some (.string (str l)) ∧ wx.cell? ⟨g, 1, none⟩ = some (.bool o) ∧ wx.cell? ⟨g, 2, none⟩ = some (.bool f) ∧ wx.cell? ⟨g, 3, none⟩ = some (.bool t) ∧ Trip l o f t ∧ Below w.heap.size w wx)
  case first =>
    rcases h8 with rfl | rfl | rfl | rfl | rfl | rfl | rfl | rfl | rfl | rfl | rfl | rfl | rfl | rfl | rfl | rfl | rfl | rfl | rfl | rfl | rfl | rfl | rfl
    · go_wp2_with fail
      go_meet
      exact ⟨w.heap.size + 1, [], false, false, false, rfl, by simp [go_sem]; rfl, by simp [go_sem], by simp [go_sem], by simp [go_sem], by unfold Trip; decide, ((Below.refl _ _).alloc (Nat.le_refl _) _).alloc (by simp) _⟩
    · go_wp2_with fail
      go_meet
      exact ⟨w.heap.size + 1, [97], true, true, false, rfl, by simp [go_sem]; rfl, by simp [go_sem], by simp [go_sem], by simp [go_sem], by unfold Trip; decide, ((Below.refl _ _).alloc (Nat.le_refl _) _).alloc (by simp) _⟩
    · go_wp2_with fail
      go_meet
      exact ⟨w.heap.size + 1, [48, 49, 50, 51, 52, 53, 54, 55, 56, 57, 97, 98, 99, 100, 101, 102], true, true, false, rfl, by simp [go_sem]; rfl, by simp [go_sem], by simp [go_sem], by simp [go_sem], by unfold Trip; decide, ((Below.refl _ _).alloc (Nat.le_refl _) _).alloc (by simp) _⟩
    · go_wp2_with fail
      go_meet
      exact ⟨w.heap.size + 1, [48, 49, 50, 51, 52, 53, 54, 55, 56, 57, 97, 98, 99, 100, 101, 102, 103], false, false, false, rfl, by simp [go_sem]; rfl, by simp [go_sem], by simp [go_sem], by simp [go_sem], by unfold Trip; decide, ((Below.refl _ _).alloc (Nat.le_refl _) _).alloc (by simp) _⟩
    · go_wp2_with fail
      go_meet
      exact ⟨w.heap.size + 1, [97, 46, 98, 45, 99, 95, 100], true, true, false, rfl, by simp [go_sem]; rfl, by simp [go_sem], by simp [go_sem], by simp [go_sem], by unfold Trip; decide, ((Below.refl _ _).alloc (Nat.le_refl _) _).alloc (by simp) _⟩
    · go_wp2_with fail
      go_meet
      exact ⟨w.heap.size + 1, [65], false, false, false, rfl, by simp [go_sem]; rfl, by simp [go_sem], by simp [go_sem], by simp [go_sem], by unfold Trip; decide, ((Below.refl _ _).alloc (Nat.le_refl _) _).alloc (by simp) _⟩
    · go_wp2_with fail
      go_meet
      exact ⟨w.heap.size + 1, [97, 32, 98], false, false, false, rfl, by simp [go_sem]; rfl, by simp [go_sem], by simp [go_sem], by simp [go_sem], by unfold Trip; decide, ((Below.refl _ _).alloc (Nat.le_refl _) _).alloc (by simp) _⟩
    · go_wp2_with fail
      go_meet
      exact ⟨w.heap.size + 1, [97, 47, 98], false, true, false, rfl, by simp [go_sem]; rfl, by simp [go_sem], by simp [go_sem], by simp [go_sem], by unfold Trip; decide, ((Below.refl _ _).alloc (Nat.le_refl _) _).alloc (by simp) _⟩
    · go_wp2_with fail
      go_meet
      exact ⟨w.heap.size + 1, [47, 97], false, false, false, rfl, by simp [go_sem]; rfl, by simp [go_sem], by simp [go_sem], by simp [go_sem], by unfold Trip; decide, ((Below.refl _ _).alloc (Nat.le_refl _) _).alloc (by simp) _⟩
    · go_wp2_with fail
      go_meet
      exact ⟨w.heap.size + 1, [97, 47], false, false, false, rfl, by simp [go_sem]; rfl, by simp [go_sem], by simp [go_sem], by simp [go_sem], by unfold Trip; decide, ((Below.refl _ _).alloc (Nat.le_refl _) _).alloc (by simp) _⟩
    · go_wp2_with fail
      go_meet
      exact ⟨w.heap.size + 1, [97, 47, 47, 98], false, false, false, rfl, by simp [go_sem]; rfl, by simp [go_sem], by simp [go_sem], by simp [go_sem], by unfold Trip; decide, ((Below.refl _ _).alloc (Nat.le_refl _) _).alloc (by simp) _⟩
    · go_wp2_with fail
      go_meet
      exact ⟨w.heap.size + 1, [97, 47, 98, 47, 99], false, false, false, rfl, by simp [go_sem]; rfl, by simp [go_sem], by simp [go_sem], by simp [go_sem], by unfold Trip; decide, ((Below.refl _ _).alloc (Nat.le_refl _) _).alloc (by simp) _⟩
    · go_wp2_with fail
      go_meet
      exact ⟨w.heap.size + 1, [116, 109, 112, 47, 49, 46, 50, 46, 51], false, true, true, rfl, by simp [go_sem]; rfl, by simp [go_sem], by simp [go_sem], by simp [go_sem], by unfold Trip; decide, ((Below.refl _ _).alloc (Nat.le_refl _) _).alloc (by simp) _⟩
    · go_wp2_with fail
      go_meet
      exact ⟨w.heap.size + 1, [116, 109, 112, 47, 48, 46, 48, 46, 48], false, true, true, rfl, by simp [go_sem]; rfl, by simp [go_sem], by simp [go_sem], by simp [go_sem], by unfold Trip; decide, ((Below.refl _ _).alloc (Nat.le_refl _) _).alloc (by simp) _⟩
    · go_wp2_with fail
      go_meet
      exact ⟨w.heap.size + 1, [116, 109, 112, 47, 48, 49, 46, 48, 46, 48], false, true, false, rfl, by simp [go_sem]; rfl, by simp [go_sem], by simp [go_sem], by simp [go_sem], by unfold Trip; decide, ((Below.refl _ _).alloc (Nat.le_refl _) _).alloc (by simp) _⟩
    · go_wp2_with fail
      go_meet
      exact ⟨w.heap.size + 1, [116, 109, 112, 47, 49, 48, 48, 48, 46, 48, 46, 48], false, true, false, rfl, by simp [go_sem]; rfl, by simp [go_sem], by simp [go_sem], by simp [go_sem], by unfold Trip; decide, ((Below.refl _ _).alloc (Nat.le_refl _) _).alloc (by simp) _⟩
    · go_wp2_with fail
      go_meet
      exact ⟨w.heap.size + 1, [116, 109, 112, 47, 57, 57, 57, 46, 57, 57, 57, 57, 57, 46, 48], false, true, true, rfl, by simp [go_sem]; rfl, by simp [go_sem], by simp [go_sem], by simp [go_sem], by unfold Trip; decide, ((Below.refl _ _).alloc (Nat.le_refl _) _).alloc (by simp) _⟩
    · go_wp2_with fail
      go_meet
      exact ⟨w.heap.size + 1, [116, 109, 112, 47, 49, 46, 50], false, true, false, rfl, by simp [go_sem]; rfl, by simp [go_sem], by simp [go_sem], by simp [go_sem], by unfold Trip; decide, ((Below.refl _ _).alloc (Nat.le_refl _) _).alloc (by simp) _⟩
    · go_wp2_with fail
      go_meet
      exact ⟨w.heap.size + 1, [116, 109, 112, 47, 49, 46, 50, 46, 51, 46, 52], false, true, false, rfl, by simp [go_sem]; rfl, by simp [go_sem], by simp [go_sem], by simp [go_sem], by unfold Trip; decide, ((Below.refl _ _).alloc (Nat.le_refl _) _).alloc (by simp) _⟩
    · go_wp2_with fail
      go_meet
      exact ⟨w.heap.size + 1, [116, 109, 112, 47, 97, 46, 50, 46, 51], false, true, false, rfl, by simp [go_sem]; rfl, by simp [go_sem], by simp [go_sem], by simp [go_sem], by unfold Trip; decide, ((Below.refl _ _).alloc (Nat.le_refl _) _).alloc (by simp) _⟩
    · go_wp2_with fail
      go_meet
      exact ⟨w.heap.size + 1, [116, 109, 112, 47, 49, 46, 50, 46, 49, 48, 48, 48, 48, 48], false, true, false, rfl, by simp [go_sem]; rfl, by simp [go_sem], by simp [go_sem], by simp [go_sem], by unfold Trip; decide, ((Below.refl _ _).alloc (Nat.le_refl _) _).alloc (by simp) _⟩
    · go_wp2_with fail
      go_meet
      exact ⟨w.heap.size + 1, [116, 109, 47, 49, 46, 50, 46, 51], false, true, false, rfl, by simp [go_sem]; rfl, by simp [go_sem], by simp [go_sem], by simp [go_sem], by unfold Trip; decide, ((Below.refl _ _).alloc (Nat.le_refl _) _).alloc (by simp) _⟩
    · go_wp2_with fail
      go_meet
      exact ⟨w.heap.size + 1, [46, 46], true, true, false, rfl, by simp [go_sem]; rfl, by simp [go_sem], by simp [go_sem], by simp [go_sem], by unfold Trip; decide, ((Below.refl _ _).alloc (Nat.le_refl _) _).alloc (by simp) _⟩
  case rest =>
    obtain ⟨g, l, o, f, t, rfl, hc0, hc1, hc2, hc3, ht, hb⟩ := hcut
    have HT := Lib.hid ht
    clear ht
    go_wp2_with fail
    refine (of_any l wc HT.out.1 (by have := HT.out.2.1; omega) (HTT.out.under hb)).mono ?_
    rintro e w1 ⟨rfl, hb1⟩
    rw [HT.out.2.2.2.2]
    have hd0 := cell_later hb1 hc0
    have hd1 := cell_later hb1 hc1
    have hd2 := cell_later hb1 hc2
    have hd3 := cell_later hb1 hc3
    have hbb := hb.trans (hb1.mono hb.size)
    have HT1 := Lib.hid (HTT.out.under hbb)
    clear hc0 hc1 hc2 hc3 hb hb1
    go_wp2_with fail
    go_region_with (first
      | (go_at_call 7; refine (ok_any l _ HT.out.1 (by have := HT.out.2.1; omega)).mono ?_; rintro e w2 ⟨rfl, rfl⟩; rw [HT.out.2.2.1])
      | (go_at_call 8; refine (file_any l _ HT.out.1 (by have := HT.out.2.1; omega) (by exact HT1.out)).mono ?_; rintro e w3 ⟨rfl, hq3⟩; rw [HT.out.2.2.2.1]; have hf0 := cell_later hq3 hd0; have hf1 := cell_later hq3 hd1; have hf2 := cell_later hq3 hd2; have hf3 := cell_later hq3 hd3; have HT3 := Lib.hid (Tabs.under (by exact HT1.out) hq3))
      | (go_at_call 9; refine (awake_any _ (by exact HT3.out)).mono ?_; rintro e w4 ⟨rfl, hq4⟩))
    all_goals
      go_wp2
      go_ret
      have z3 := hbb.drew.trans (hq3.mono hbb.drew.size)
      exact ⟨rfl, z3.trans (hq4.mono z3.size)⟩
end Go.Proofs.YtpgoofkpcbbhjaaDoor
