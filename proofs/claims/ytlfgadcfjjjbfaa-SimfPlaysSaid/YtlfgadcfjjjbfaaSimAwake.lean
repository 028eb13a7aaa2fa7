/- Files in memory: what the document fixes. -/
import Derived.Test.YtlfgadcfjjjbfaaSimFace
namespace Go.Proofs.Ytlfgadcfjjjbfaa
set_option maxRecDepth 100000
open Go.ChangeShapes Go.WideShapes Go.ChangeAt Go.RowKit Go.ChangeMaps
open Sf

def aw (l : List Fi) (n : Nat) (c : Int) : S := ⟨l, 10, n, c⟩
def awA : List Fi := [⟨[97], [120, 121], 1⟩]
def awB : List Fi := [⟨[97], [120, 121], 1⟩, ⟨[116, 109, 112, 47, 98], [113], 2⟩]
def awC : List Fi := [⟨[97], [113], 3⟩]
def awD : List Fi := [⟨[97], [113, 122], 4⟩]
theorem nice_a : Nice [97] := by constructor <;> simp
theorem nice_t : Nice [116, 109, 112, 47, 98] := by constructor <;> simp
theorem aw1 : make (new 10) [97] [120, 121] = (aw awA 1 (-1), 1, 0) := by rfl
theorem aw2 : make (aw awA 1 (-1)) [97] [] = (aw awA 1 (-1), 0, 3) := by rfl
theorem aw3 : putS (aw awA 1 (-1)) [116, 109, 112, 47, 98] [49, 50, 51, 52, 53, 54, 55, 56, 57] = (aw awA 1 (-1), 0, 2) := by rfl
theorem aw4 : putS (aw awA 1 (-1)) [116, 109, 112, 47, 98] [113] = (aw awB 2 (-1), 2, 0) := by rfl
theorem aw5 : Sf.move (aw awB 2 (-1)) [116, 109, 112, 47, 98] [97] [([97], 6)] = (aw awB 2 (-1), 0, 5) := by rfl
theorem aw6 : Sf.move (aw awB 2 (-1)) [116, 109, 112, 47, 98] [97] [([97], 1)] = (aw awC 3 (-1), 3, 0) := by rfl
theorem aw7 : app (aw awC 3 1) [97] [122, 122] [] = (aw awD 4 (-1), 0, 7) := by rfl
theorem aw8 : Sf.read (aw awD 4 (-1)) [97] = ([113, 122], 4, 0) := by rfl
theorem aw9 : Sf.list awD [] = [[97]] := by rfl
theorem aw10 : Sf.list awD [116, 109, 112] = [] := by rfl
theorem aw11 : Sf.drop (aw awD 4 (-1)) [97] [] = (aw [] 4 (-1), 0) := by rfl

set_option maxHeartbeats 4000000 in
theorem fawake_any (w : World) : Calls Try.prog 7 #[] w fun e w' => e = .returned (.bool true) ∧ Below w.heap.size w w' := by
  have hcv := fun (W : World) (C : Array Value) (n c : Nat) => Lib.run_convert_bytes_const (P := Try.prog) W 30 5 C n c Try.underlying30 Try.underlying5
  go_enter Try.func7, Try.ntmps7
  go_wp2_with fail
  refine (fs_new 10 w).mono ?_
  rintro e w1 ⟨p, rfl, h1⟩
  have H1 := Lib.hid h1
  clear h1
  go_wp2_with fail
  refine (fs_make [97] [120, 121] _ w _ p (new 10) (H1.out.alloc _) nice_a (bytes_new w1 _ rfl [120, 121] _ _ (by simp) (by simp)) (by simp [new]) (by simp [new, used])).mono ?_
  rw [aw1]
  rintro e w2 ⟨rfl, h2⟩
  have H2 := Lib.hid h2
  clear h2
  go_wp2_with fail
  refine (fs_make [97] [] _ w _ p _ H2.out nice_a (bytes_none w2) (by simp [aw]) (by simp [aw, awA, used])).mono ?_
  rw [aw2]
  rintro e w3 ⟨rfl, h3⟩
  have H3 := Lib.hid h3
  clear h3
  go_wp2_with fail
  refine (fs_put [116, 109, 112, 47, 98] [49, 50, 51, 52, 53, 54, 55, 56, 57] _ w _ p _ (H3.out.alloc _) nice_t (bytes_new w3 _ rfl [49, 50, 51, 52, 53, 54, 55, 56, 57] _ _ (by simp) (by simp)) (by simp [aw]) (by simp [aw, awA, used])).mono ?_
  rw [aw3]
  rintro e w4 ⟨rfl, h4⟩
  have H4 := Lib.hid h4
  clear h4
  go_wp2_with fail
  refine (fs_put [116, 109, 112, 47, 98] [113] _ w _ p _ (H4.out.alloc _) nice_t (bytes_new w4 _ rfl [113] _ _ (by simp) (by simp)) (by simp [aw]) (by simp [aw, awA, used])).mono ?_
  rw [aw4]
  rintro e w5 ⟨rfl, h5⟩
  have H5 := Lib.hid h5
  clear h5
  go_wp2_with fail
  refine (fs_move [116, 109, 112, 47, 98] [97] [([97], 6)] _ w _ p _ (H5.out.alloc _) nice_t nice_a (rdG_one w5 [97] 6) (by simpa using nice_a) (by simp [aw]) (by simp [aw, awB, used])).mono ?_
  rw [aw5]
  rintro e w6 ⟨rfl, h6⟩
  have H6 := Lib.hid h6
  clear h6
  go_wp2_with fail
  refine (fs_move [116, 109, 112, 47, 98] [97] [([97], 1)] _ w _ p _ (H6.out.alloc _) nice_t nice_a (rdG_one w6 [97] 1) (by simpa using nice_a) (by simp [aw]) (by simp [aw, awB, used])).mono ?_
  rw [aw6]
  rintro e w7 ⟨rfl, h7⟩
  have H7 := Lib.hid h7
  clear h7
  go_wp2_with fail
  refine (fs_cut 1 w _ p _ H7.out (by omega)).mono ?_
  rintro e w8 ⟨rfl, h8⟩
  have H8 : Hid (Fs w w8 p (aw awC 3 1)) := Lib.hid h8
  clear h8
  go_wp2_with fail
  refine (fs_app [97] [122, 122] [] _ _ w w8 _ p _ H8.out ((Below.refl _ _).alloc (Nat.le_refl _) _) nice_a (bytes_new w8 _ rfl [122, 122] _ _ (by simp) (by simp)) (by intro k hk; simp [Value.ownBlock] at hk; omega) (rdG_none _ 0 none) (by simp) (by simp [aw]) (by simp [aw, awC, used])).mono ?_
  rw [aw7]
  rintro e w9 ⟨rfl, h9⟩
  have H9 := Lib.hid h9
  clear h9
  go_wp2_with fail
  refine (fs_read [97] w _ p _ H9.out nice_a (by simp [aw, awD, used])).mono ?_
  rw [aw8]
  rintro e w10 ⟨v, rfl, ho, hb⟩
  have HB10 := Lib.hid hb
  have H10 := Lib.hid (H9.out.under hb)
  have htx := run_text ho.bytes
  have hse : (str [113, 122]).toList = [113, 122] := by rw [str_toList]; rfl
  obtain ⟨_, _, A, c, hv, _⟩ := ho.bytes.parts
  subst hv
  change (convert 30 9 (.slice A 2 c)).run Try.prog w10 = _ at htx
  clear ho hb
  go_wp2_with fail
  refine (fs_used w _ p _ H10.out).mono ?_
  rintro e w11 ⟨rfl, rfl⟩
  rw [show used (aw awD 4 (-1)).l = 2 from rfl]
  go_wp2_with fail
  refine (fs_list [] w _ p _ H10.out (by simp) (by simp [aw])).mono ?_
  rw [show Sf.list (aw awD 4 (-1)).l [] = [[97]] from aw9]
  rintro e w12 ⟨v12, rfl, ho, hb⟩
  have HO12 := Lib.hid ho
  have H12 := Lib.hid (H10.out.under hb)
  clear ho hb
  go_wp2_with fail
  refine (fsame_any [[97]] [[97]] _ _ _ _ 0 (HO12.out.alloc _) (ownT_one w12 0 [97] (Nat.zero_le _)) (by simp) (by simp) (by simp) (by simp)).mono ?_
  rintro e w13 ⟨rfl, hb⟩
  have H13 := Lib.hid ((H12.out.alloc (.cells #[.string (str [97])] 9)).under hb)
  clear hb
  rw [show decide (([[97]] : List (List Nat)) = [[97]]) = true from rfl]
  go_wp2_with fail
  refine (fs_list [116, 109, 112] w _ p _ H13.out (by simp) (by simp [aw])).mono ?_
  rw [show Sf.list (aw awD 4 (-1)).l [116, 109, 112] = [] from aw10]
  rintro e w14 ⟨v14, rfl, ho, hb⟩
  have H14 := Lib.hid (H13.out.under hb)
  obtain ⟨B, c2, hv⟩ : ∃ B c2, v14 = .slice B 0 c2 := by
    rcases ho.2 with ⟨rfl, _⟩ | ⟨g, cap, cur, rfl, _⟩
    · exact ⟨_, _, rfl⟩
    · exact ⟨_, _, rfl⟩
  subst hv
  clear ho hb
  go_wp2_with fail
  refine (fs_drop [97] [] _ w _ p _ H14.out nice_a (rdG_none _ 0 none) (by simp) (by simp [aw, awD, used])).mono ?_
  rw [aw11]
  rintro e w15 ⟨rfl, h15⟩
  have H15 := Lib.hid h15
  clear h15
  go_wp2
  go_ret
  exact ⟨rfl, H15.out.below⟩
end Go.Proofs.Ytlfgadcfjjjbfaa
