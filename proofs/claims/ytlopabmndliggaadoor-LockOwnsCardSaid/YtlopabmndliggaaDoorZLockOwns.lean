/- LockOwns: one that begins again takes at once what its elder self had; what another one has it does not; the statement's walk. -/
import Derived.Test.YtlopabmndliggaaDoorZ13
import Derived.Test.YtlopabmndliggaaDoorZLockAwake
namespace Go.Proofs.YtlopabmndliggaaDoor
set_option maxRecDepth 100000
open Go.ChangeShapes Go.WideShapes Go.ChangeAt Go.RowKit Go.ChangeMaps
open Sf Lk

theorem ok_eq {x y : Nat} (h : x = y) : ((x : Int) == (y : Int)) = true := by simp [h]
theorem ok_ne {x y : Nat} (h : ¬ x = y) : ((x : Int) == (y : Int)) = false := by simp; omega
theorem plus_one {k : Nat} (h : k ≤ 100) : IntKind.i64.wrap ((k : Int) + 1) = ((k + 1 : Nat) : Int) := by rw [IntWalk.i64_in _ (by omega)]; omega
set_option maxRecDepth 100000 in
set_option maxHeartbeats 8000000 in
theorem owns_any (x1 x2 x3 x4 x5 : Int) (w : World) (hT : Pow w) : Calls Tryd.prog 3 #[.int .i64 x1, .int .i64 x2, .int .i64 x3, .int .i64 x4, .int .i64 x5] w fun e w' => e = .returned (.bool true) ∧ Below w.heap.size w w' := by
  obtain ⟨a, ha, hal⟩ := lk_and x1 3 (by omega)
  obtain ⟨b, hb, hbl⟩ := lk_and x3 3 (by omega)
  obtain ⟨i', hi, hil⟩ := lk_and x2 7 (by omega)
  obtain ⟨j', hj, hjl⟩ := lk_and x4 7 (by omega)
  obtain ⟨m, hm, hml⟩ := lk_and x5 31 (by omega)
  have ha' : bits .and .i64 x1 3 = (a : Int) := ha
  have hb' : bits .and .i64 x3 3 = (b : Int) := hb
  have hi' : bits .and .i64 x2 7 = (i' : Int) := hi
  have hj' : bits .and .i64 x4 7 = (j' : Int) := hj
  have hm' : bits .and .i64 x5 31 = (m : Int) := hm
  have wi := plus_one (k := i') (by omega)
  have wj := plus_one (k := j') (by omega)
  obtain ⟨i, hie⟩ : ∃ i, i' + 1 = i := ⟨_, rfl⟩
  obtain ⟨j, hje⟩ : ∃ j, j' + 1 = j := ⟨_, rfl⟩
  rw [hie] at wi
  rw [hje] at wj
  have HT := Lib.hid hT
  have HN : Hid (a ≤ 3 ∧ b ≤ 3 ∧ i ≤ 8 ∧ j ≤ 8 ∧ m ≤ 31) := Lib.hid (by omega)
  clear hT ha hb hi hj hm hal hbl hil hjl hml hie hje
  go_enter Tryd.func3, Tryd.ntmps3
  go_wp2_with fail
  refine (fs_new 10000 w).mono ?_
  rintro e w1 ⟨p, rfl, h1⟩
  have H1 : Hid (Fk (fun _ => False) w w1 p (lkN 10000 0 (-1))) := Lib.hid h1.keep
  clear h1
  have HOK : Hid (OkL ⟨(a : Int), (i : Int), 1, 0 + 30⟩) := Lib.hid (by have := HN.out; simp [OkL]; omega)
  have C2 := Lib.hid (taken_is (taken_new (r := 10000) (n := 0) (c := -1) (who := (a : Int)) (inc := (i : Int)) (now := 0) (by omega) (by omega) HOK.out) H1.out (HT.out.under H1.out.fs.below) (by decide) (by decide))
  go_wp2_with fail
  refine C2.out.mono ?_
  rintro e w2 ⟨rfl, h2, -⟩
  have H2 := Lib.hid h2
  clear h2 C2 H1
  unfold heldV
  go_wp2_with fail
  obtain ⟨w3, hw3⟩ : ∃ W, (w2.alloc (.cells #[.string (str clm), .int .i64 1] 25)).alloc (.cells #[.int .i64 (a : Int), .int .i64 (i : Int), .int .i64 1, .int .i64 30] 27) = W := ⟨_, rfl⟩
  have H3 : Hid (Fk (fun _ => False) w w3 p (lkO clm (Lo.bytes ⟨(a : Int), (i : Int), 1, 0 + 30⟩) (0 + 1) 10000 (0 + 1) (-1))) := Lib.hid (by rw [← hw3]; exact (H2.out.alloc _).alloc _)
  rw [hw3]
  clear hw3 H2
  by_cases h1 : m < 30
  · have f1 : (m : Int) < 30 := by omega
    have f1b : decide ((30 : Int) ≤ (m : Int)) = false := decide_eq_false (by omega)
    by_cases h2 : a = b
    · have f2 := ok_eq h2
      rcases Nat.lt_trichotomy i j with h3 | h3 | h3
      · skip
        have f3 : (i : Int) ≤ (j : Int) := by omega
        have f4 := ok_ne (x := i) (y := j) (by omega)
        have C4 := Lib.hid (taken_is (taken_open (L := ⟨(a : Int), (i : Int), 1, 0 + 30⟩) (k := 0 + 1) (n := 0 + 1) (r := 10000) (c := -1) (who := (b : Int)) (inc := (j : Int)) (now := (m : Int)) HOK.out (by omega) (by have := HN.out; omega) (fun h => by have h1 : (a : Int) = b := h.1; have h2 : (i : Int) = j := h.2.1; have h3 : (m : Int) < 0 + 30 := h.2.2; omega) (.inr ⟨by show (a : Int) = b; omega, by show (i : Int) < j; omega⟩) (by have := HN.out; simp [OkL]; omega)) H3.out (HT.out.under H3.out.fs.below) (by show (0 + 1 : Nat) ≤ 1000000; omega) (used_clm _))
        clear h1 h2 h3
        refine C4.out.mono ?_
        rintro e w4 ⟨rfl, h4, k4⟩
        have HB : Hid (∀ o1 o2, Below w.heap.size w ((w4.alloc o1).alloc o2)) := Lib.hid fun o1 o2 => (h4.fs.below.alloc h4.fs.below.size o1).alloc (by have := h4.fs.below.size; simp; omega) o2
        clear h4 k4 H3 C4
        unfold heldV
        go_wp2_with fail
        refine (lawake_any _ (HT.out.under (HB.out _ _))).mono ?_
        rintro e w5 ⟨rfl, hb5⟩
        have HB5 := Lib.hid ((HB.out _ _).trans (hb5.mono (HB.out _ _).size))
        clear hb5
        go_wp2
        go_ret
        exact ⟨rfl, HB5.out⟩
      · skip
        have f3 : (i : Int) ≤ (j : Int) := by omega
        have f4 := ok_eq h3
        have C4 := Lib.hid (taken_is (taken_mine (L := ⟨(a : Int), (i : Int), 1, 0 + 30⟩) (k := 0 + 1) (n := 0 + 1) (r := 10000) (c := -1) (who := (b : Int)) (inc := (j : Int)) (now := (m : Int)) HOK.out (by have := HN.out; omega) ⟨by show (a : Int) = b; omega, by show (i : Int) = j; omega, by show (m : Int) < 0 + 30; omega⟩) H3.out (HT.out.under H3.out.fs.below) (by show (0 + 1 : Nat) ≤ 1000000; omega) (used_clm _))
        clear h1
        refine C4.out.mono ?_
        rintro e w4 ⟨rfl, h4, k4⟩
        have HB : Hid (∀ o1 o2, Below w.heap.size w ((w4.alloc o1).alloc o2)) := Lib.hid fun o1 o2 => (h4.fs.below.alloc h4.fs.below.size o1).alloc (by have := h4.fs.below.size; simp; omega) o2
        clear h4 k4 H3 C4
        unfold heldV
        go_wp2_with fail
        refine (lawake_any _ (HT.out.under (HB.out _ _))).mono ?_
        rintro e w5 ⟨rfl, hb5⟩
        have HB5 := Lib.hid ((HB.out _ _).trans (hb5.mono (HB.out _ _).size))
        clear hb5
        go_wp2
        go_ret
        exact ⟨rfl, HB5.out⟩
      · skip
        have f3 : decide ((i : Int) ≤ (j : Int)) = false := decide_eq_false (by omega)
        have f3b : decide (i ≤ j) = false := decide_eq_false (by omega)
        have C4 := Lib.hid (taken_is (taken_busy (L := ⟨(a : Int), (i : Int), 1, 0 + 30⟩) (k := 0 + 1) (n := 0 + 1) (r := 10000) (c := -1) (who := (b : Int)) (inc := (j : Int)) (now := (m : Int)) HOK.out (by have := HN.out; omega) (fun h => by have h1 : (a : Int) = b := h.1; have h2 : (i : Int) = j := h.2.1; have h3 : (m : Int) < 0 + 30 := h.2.2; omega) (fun h => h.elim (fun h => by have h4 : (0 : Int) + 30 ≤ m := h; omega) (fun h => by have h4 : (i : Int) < j := h.2; omega))) H3.out (HT.out.under H3.out.fs.below) (by show (0 + 1 : Nat) ≤ 1000000; omega) (used_clm _))
        clear h1 h2 h3
        refine C4.out.mono ?_
        rintro e w4 ⟨rfl, h4, k4⟩
        have HB : Hid (∀ o1 o2, Below w.heap.size w ((w4.alloc o1).alloc o2)) := Lib.hid fun o1 o2 => (h4.fs.below.alloc h4.fs.below.size o1).alloc (by have := h4.fs.below.size; simp; omega) o2
        clear h4 k4 H3 C4
        unfold heldV
        go_wp2_with fail
        refine (lawake_any _ (HT.out.under (HB.out _ _))).mono ?_
        rintro e w5 ⟨rfl, hb5⟩
        have HB5 := Lib.hid ((HB.out _ _).trans (hb5.mono (HB.out _ _).size))
        clear hb5
        go_wp2
        go_ret
        exact ⟨rfl, HB5.out⟩
    · have f2 := ok_ne h2
      have C4 := Lib.hid (taken_is (taken_busy (L := ⟨(a : Int), (i : Int), 1, 0 + 30⟩) (k := 0 + 1) (n := 0 + 1) (r := 10000) (c := -1) (who := (b : Int)) (inc := (j : Int)) (now := (m : Int)) HOK.out (by have := HN.out; omega) (fun h => by have h1 : (a : Int) = b := h.1; have h2 : (i : Int) = j := h.2.1; have h3 : (m : Int) < 0 + 30 := h.2.2; omega) (fun h => h.elim (fun h => by have h4 : (0 : Int) + 30 ≤ m := h; omega) (fun h => by have h4 : (a : Int) = b := h.1; omega))) H3.out (HT.out.under H3.out.fs.below) (by show (0 + 1 : Nat) ≤ 1000000; omega) (used_clm _))
      clear h1 h2
      refine C4.out.mono ?_
      rintro e w4 ⟨rfl, h4, k4⟩
      have HB : Hid (∀ o1 o2, Below w.heap.size w ((w4.alloc o1).alloc o2)) := Lib.hid fun o1 o2 => (h4.fs.below.alloc h4.fs.below.size o1).alloc (by have := h4.fs.below.size; simp; omega) o2
      clear h4 k4 H3 C4
      unfold heldV
      go_wp2_with fail
      refine (lawake_any _ (HT.out.under (HB.out _ _))).mono ?_
      rintro e w5 ⟨rfl, hb5⟩
      have HB5 := Lib.hid ((HB.out _ _).trans (hb5.mono (HB.out _ _).size))
      clear hb5
      go_wp2
      go_ret
      exact ⟨rfl, HB5.out⟩
  · have f1 : (30 : Int) ≤ (m : Int) := by omega
    have f1b : decide ((m : Int) < 30) = false := decide_eq_false (by omega)
    by_cases h2 : a = b
    · have f2 := ok_eq h2
      by_cases h3 : i = j
      · skip
        have f4 := ok_eq h3
        have C4 := Lib.hid (taken_is (taken_open (L := ⟨(a : Int), (i : Int), 1, 0 + 30⟩) (k := 0 + 1) (n := 0 + 1) (r := 10000) (c := -1) (who := (b : Int)) (inc := (j : Int)) (now := (m : Int)) HOK.out (by omega) (by have := HN.out; omega) (fun h => by have h1 : (a : Int) = b := h.1; have h2 : (i : Int) = j := h.2.1; have h3 : (m : Int) < 0 + 30 := h.2.2; omega) (.inl (by show (0 : Int) + 30 ≤ m; omega)) (by have := HN.out; simp [OkL]; omega)) H3.out (HT.out.under H3.out.fs.below) (by show (0 + 1 : Nat) ≤ 1000000; omega) (used_clm _))
        clear h1
        refine C4.out.mono ?_
        rintro e w4 ⟨rfl, h4, k4⟩
        have HB : Hid (∀ o1 o2, Below w.heap.size w ((w4.alloc o1).alloc o2)) := Lib.hid fun o1 o2 => (h4.fs.below.alloc h4.fs.below.size o1).alloc (by have := h4.fs.below.size; simp; omega) o2
        clear h4 k4 H3 C4
        unfold heldV
        go_wp2_with fail
        refine (lawake_any _ (HT.out.under (HB.out _ _))).mono ?_
        rintro e w5 ⟨rfl, hb5⟩
        have HB5 := Lib.hid ((HB.out _ _).trans (hb5.mono (HB.out _ _).size))
        clear hb5
        go_wp2
        go_ret
        exact ⟨rfl, HB5.out⟩
      · skip
        have f4 := ok_ne h3
        have C4 := Lib.hid (taken_is (taken_open (L := ⟨(a : Int), (i : Int), 1, 0 + 30⟩) (k := 0 + 1) (n := 0 + 1) (r := 10000) (c := -1) (who := (b : Int)) (inc := (j : Int)) (now := (m : Int)) HOK.out (by omega) (by have := HN.out; omega) (fun h => by have h1 : (a : Int) = b := h.1; have h2 : (i : Int) = j := h.2.1; have h3 : (m : Int) < 0 + 30 := h.2.2; omega) (.inl (by show (0 : Int) + 30 ≤ m; omega)) (by have := HN.out; simp [OkL]; omega)) H3.out (HT.out.under H3.out.fs.below) (by show (0 + 1 : Nat) ≤ 1000000; omega) (used_clm _))
        clear h1 h2 h3
        refine C4.out.mono ?_
        rintro e w4 ⟨rfl, h4, k4⟩
        have HB : Hid (∀ o1 o2, Below w.heap.size w ((w4.alloc o1).alloc o2)) := Lib.hid fun o1 o2 => (h4.fs.below.alloc h4.fs.below.size o1).alloc (by have := h4.fs.below.size; simp; omega) o2
        clear h4 k4 H3 C4
        unfold heldV
        go_wp2_with fail
        refine (lawake_any _ (HT.out.under (HB.out _ _))).mono ?_
        rintro e w5 ⟨rfl, hb5⟩
        have HB5 := Lib.hid ((HB.out _ _).trans (hb5.mono (HB.out _ _).size))
        clear hb5
        go_wp2
        go_ret
        exact ⟨rfl, HB5.out⟩
    · have f2 := ok_ne h2
      have C4 := Lib.hid (taken_is (taken_open (L := ⟨(a : Int), (i : Int), 1, 0 + 30⟩) (k := 0 + 1) (n := 0 + 1) (r := 10000) (c := -1) (who := (b : Int)) (inc := (j : Int)) (now := (m : Int)) HOK.out (by omega) (by have := HN.out; omega) (fun h => by have h1 : (a : Int) = b := h.1; have h2 : (i : Int) = j := h.2.1; have h3 : (m : Int) < 0 + 30 := h.2.2; omega) (.inl (by show (0 : Int) + 30 ≤ m; omega)) (by have := HN.out; simp [OkL]; omega)) H3.out (HT.out.under H3.out.fs.below) (by show (0 + 1 : Nat) ≤ 1000000; omega) (used_clm _))
      clear h1 h2
      refine C4.out.mono ?_
      rintro e w4 ⟨rfl, h4, k4⟩
      have HB : Hid (∀ o1 o2, Below w.heap.size w ((w4.alloc o1).alloc o2)) := Lib.hid fun o1 o2 => (h4.fs.below.alloc h4.fs.below.size o1).alloc (by have := h4.fs.below.size; simp; omega) o2
      clear h4 k4 H3 C4
      unfold heldV
      go_wp2_with fail
      refine (lawake_any _ (HT.out.under (HB.out _ _))).mono ?_
      rintro e w5 ⟨rfl, hb5⟩
      have HB5 := Lib.hid ((HB.out _ _).trans (hb5.mono (HB.out _ _).size))
      clear hb5
      go_wp2
      go_ret
      exact ⟨rfl, HB5.out⟩
end Go.Proofs.YtlopabmndliggaaDoor
