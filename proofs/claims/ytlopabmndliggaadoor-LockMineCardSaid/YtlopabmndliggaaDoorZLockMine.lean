/- LockMine: who asks anew for what they have still has it at once; the statement's walk. -/
import Derived.Test.YtlopabmndliggaaDoorZ13
import Derived.Test.YtlopabmndliggaaDoorZLockAwake
namespace Go.Proofs.YtlopabmndliggaaDoor
set_option maxRecDepth 100000
open Go.ChangeShapes Go.WideShapes Go.ChangeAt Go.RowKit Go.ChangeMaps
open Sf Lk

set_option maxRecDepth 100000 in
set_option maxHeartbeats 8000000 in
theorem mine_any (x y : Int) (w : World) (hT : Pow w) : Calls Tryd.prog 4 #[.int .i64 x, .int .i64 y] w fun e w' => e = .returned (.bool true) ∧ Below w.heap.size w w' := by
  obtain ⟨a, ha, hal⟩ := lk_and x 7 (by omega)
  obtain ⟨m, hm, hml⟩ := lk_and y 31 (by omega)
  have ha' : bits .and .i64 x 7 = (a : Int) := ha
  have hm' : bits .and .i64 y 31 = (m : Int) := hm
  have HT := Lib.hid hT
  have HA := Lib.hid hal
  have HM := Lib.hid hml
  clear hT ha hm hal hml
  go_enter Tryd.func4, Tryd.ntmps4
  go_wp2_with fail
  refine (fs_new 10000 w).mono ?_
  rintro e w1 ⟨p, rfl, h1⟩
  have H1 : Hid (Fk (fun _ => False) w w1 p (lkN 10000 0 (-1))) := Lib.hid h1.keep
  clear h1
  have C2 := Lib.hid (taken_is (taken_new (r := 10000) (n := 0) (c := -1) (who := (a : Int)) (inc := 4) (now := 0) (by omega) (by omega) (by have := HA.out; simp [OkL]; omega)) H1.out (HT.out.under H1.out.fs.below) (by decide) (by decide))
  go_wp2_with fail
  refine C2.out.mono ?_
  rintro e w2 ⟨rfl, h2, -⟩
  have H2 := Lib.hid h2
  clear h2 C2 H1
  unfold heldV
  go_wp2_with fail
  obtain ⟨w3, q2, q3, K3, hw3, hq2, hq3, h3, m2, m3, -, b2, b3, bb3⟩ := H2.out.boxes #[.string (str clm), .int .i64 1] #[.int .i64 (a : Int), .int .i64 4, .int .i64 1, .int .i64 30]
  rw [hw3, hq3, hq2]
  have H3 := Lib.hid h3
  have M3 : Hid (K3 q2 ∧ K3 q3) := Lib.hid ⟨m2, m3⟩
  have B2 := Lib.hid b2
  have B3 := Lib.hid b3
  clear hw3 hq2 hq3 h3 m2 m3 b2 b3 bb3 H2
  have HOK : Hid (OkL ⟨(a : Int), 4, 1, 0 + 30⟩) := Lib.hid (by have := HA.out; simp [OkL]; omega)
  by_cases hlt : m < 30
  · have hltI : (m : Int) < 30 := by omega
    have C4 := Lib.hid (taken_is (taken_mine (L := ⟨(a : Int), 4, 1, 0 + 30⟩) (k := 0 + 1) (n := 0 + 1) (r := 10000) (c := -1) (who := (a : Int)) (inc := 4) (now := (m : Int)) HOK.out (by omega) ⟨rfl, rfl, by show (m : Int) < 0 + 30; omega⟩) H3.out (HT.out.under H3.out.fs.below) (by show (0 + 1 : Nat) ≤ 1000000; omega) (used_clm _))
    refine C4.out.mono ?_
    rintro e w4 ⟨rfl, h4, k4⟩
    have H4 := Lib.hid h4
    have b2 := k4.blk M3.out.1 B2.out
    have b3 := k4.blk M3.out.2 B3.out
    have i0 := fun o1 o2 => ((b2.alloc o1).alloc o2).at 0
    have i1 := fun o1 o2 => ((b2.alloc o1).alloc o2).at 1
    have j0 := fun o1 o2 => ((b3.alloc o1).alloc o2).at 0
    have j1 := fun o1 o2 => ((b3.alloc o1).alloc o2).at 1
    have j2 := fun o1 o2 => ((b3.alloc o1).alloc o2).at 2
    have j3 := fun o1 o2 => ((b3.alloc o1).alloc o2).at 3
    have HB : Hid (∀ o1 o2, Below w.heap.size w ((w4.alloc o1).alloc o2)) := Lib.hid fun o1 o2 => (h4.fs.below.alloc h4.fs.below.size o1).alloc (by have := h4.fs.below.size; simp; omega) o2
    clear h4 k4 b2 b3 H3 B2 B3 C4
    unfold heldV
    go_wp2_with fail
    refine (lawake_any _ (HT.out.under (HB.out _ _))).mono ?_
    rintro e w5 ⟨rfl, hb5⟩
    have HB5 := Lib.hid ((HB.out _ _).trans (hb5.mono (HB.out _ _).size))
    clear hb5
    go_wp2
    go_ret
    exact ⟨rfl, HB5.out⟩
  · have hltI : decide ((m : Int) < 30) = false := decide_eq_false (by omega)
    have C4 := Lib.hid (taken_is (taken_open (L := ⟨(a : Int), 4, 1, 0 + 30⟩) (k := 0 + 1) (n := 0 + 1) (r := 10000) (c := -1) (who := (a : Int)) (inc := 4) (now := (m : Int)) HOK.out (by omega) (by have := HM.out; omega) (fun h => by have h2 : (m : Int) < 0 + 30 := h.2.2; omega) (.inl (by show (0 : Int) + 30 ≤ m; omega)) (by have := HA.out; have := HM.out; simp [OkL]; omega)) H3.out (HT.out.under H3.out.fs.below) (by show (0 + 1 : Nat) ≤ 1000000; omega) (used_clm _))
    refine C4.out.mono ?_
    rintro e w4 ⟨rfl, h4, k4⟩
    have H4 := Lib.hid h4
    have b2 := k4.blk M3.out.1 B2.out
    have i1 := fun o1 o2 => ((b2.alloc o1).alloc o2).at 1
    obtain ⟨z, hz⟩ : ∃ z, (m : Int) + 30 = z := ⟨_, rfl⟩
    have hw : IntKind.i64.wrap ((m : Int) + 30) = z := by rw [← hz]; exact IntWalk.i64_in _ (by have := HM.out; omega)
    rw [hz]
    have HB : Hid (∀ o1 o2, Below w.heap.size w ((w4.alloc o1).alloc o2)) := Lib.hid fun o1 o2 => (h4.fs.below.alloc h4.fs.below.size o1).alloc (by have := h4.fs.below.size; simp; omega) o2
    clear h4 k4 b2 H3 B2 B3 C4 hz hlt
    unfold heldV
    go_wp2_with fail
    refine (lawake_any _ (HT.out.under (HB.out _ _))).mono ?_
    rintro e w5 ⟨rfl, hb5⟩
    have HB5 := Lib.hid ((HB.out _ _).trans (hb5.mono (HB.out _ _).size))
    clear hb5
    go_wp2
    go_ret
    exact ⟨rfl, HB5.out⟩
end Go.Proofs.YtlopabmndliggaaDoor
