/- What package lock says of a lock's bytes. -/
import Derived.Test.YtfheaognfocofaaGreatDoorZLockSw
namespace Go.Proofs.YtfheaognfocofaaGreatDoor
set_option maxRecDepth 100000
open Go.ChangeShapes Go.WideShapes Go.ChangeAt Go.RowKit
open Lk

theorem what_none (who inc now : Int) : what none who inc now = 1 := by simp [what]
theorem what_bad (a b c d : Nat) (who inc now : Int) (h : (c : Int) = 1099511627776) : what (some (a, b, c, d)) who inc now = 1 := by simp [what, loOf, h]
theorem what_mine (a b c d : Nat) (who inc now : Int) (h : ¬ (c : Int) = 1099511627776) (h1 : (a : Int) = who) (h2 : (b : Int) = inc) (h3 : now < (d : Int)) : what (some (a, b, c, d)) who inc now = 2 := by
  exact (if_neg (fun e => h (of_decide_eq_true (by rw [Option.isNone_some, Bool.false_or] at e; exact e)))).trans (if_pos ⟨h1, h2, h3⟩)
theorem what_open (a b c d : Nat) (who inc now : Int) (h : ¬ (c : Int) = 1099511627776) (h1 : ¬ ((a : Int) = who ∧ (b : Int) = inc ∧ now < (d : Int))) (h2 : (d : Int) ≤ now ∨ ((a : Int) = who ∧ (b : Int) < inc)) : what (some (a, b, c, d)) who inc now = 3 := by
  exact (if_neg (fun e => h (of_decide_eq_true (by rw [Option.isNone_some, Bool.false_or] at e; exact e)))).trans ((if_neg h1).trans (if_pos h2))
theorem what_busy (a b c d : Nat) (who inc now : Int) (h : ¬ (c : Int) = 1099511627776) (h1 : ¬ ((a : Int) = who ∧ (b : Int) = inc ∧ now < (d : Int))) (h2 : ¬ ((d : Int) ≤ now ∨ ((a : Int) = who ∧ (b : Int) < inc))) : what (some (a, b, c, d)) who inc now = 4 := by
  exact (if_neg (fun e => h (of_decide_eq_true (by rw [Option.isNone_some, Bool.false_or] at e; exact e)))).trans ((if_neg h1).trans (if_neg h2))
theorem lk_eq {x y : Int} (h : x = y) : (x == y) = true := by simp [h]
theorem lk_ne {x y : Int} (h : ¬ x = y) : (x == y) = false := by simp [h]

set_option maxRecDepth 100000 in
set_option maxHeartbeats 4000000 in
theorem look_any (v : Value) (l : List Nat) (w : World) (h : Bytes w v l) (hl : l.length ≤ 1099511627776) (who inc now : Int) :
    Calls Tryz.prog 30 #[v, .int .i64 who, .int .i64 inc, .int .i64 now] w fun e w' => e = .returned (.tuple #[loV (loOf (Rc.openL l)), .int .i64 ((what (Rc.openL l) who inc now : Nat) : Int)]) ∧ Below w.heap.size w w' := by
  have HB := Lib.hid h
  have HL := Lib.hid hl
  clear h hl
  rcases hR : Rc.openL l with _ | ⟨a, b, c, d⟩
  · have HR := Lib.hid hR
    clear hR
    go_enter Tryz.func30, Tryz.ntmps30
    go_wp2_with fail
    refine (ropenL_any v l _ (HB.out.alloc _) HL.out none HR.out).mono ?_
    rintro e w1 ⟨rfl, hb⟩
    have HB1 := Lib.hid hb
    clear hb
    have k0 : Blk w1 w.heap.size 30 #[.int .i64 0, .int .i64 0, .int .i64 0, .int .i64 0] := Blk.under (heap_alloc_new w _) HB1.out
    have HSZ : Hid (w.heap.size < w1.heap.size) := Lib.hid k0.size
    have c0 := k0.at 0
    have c1 := k0.at 1
    have c2 := k0.at 2
    have c3 := k0.at 3
    have f0 := k0.free 0
    have f1 := k0.free 1
    have f2 := k0.free 2
    have f3 := k0.free 3
    have K0 := Lib.hid k0
    have HB2 : Hid (Below w.heap.size w w1) := Lib.hid (((Below.refl w.heap.size w).alloc (Nat.le_refl _) _).trans (HB1.out.mono (by simp)))
    have HLT : Hid (w.heap.size ≤ w.heap.size) := Lib.hid (Nat.le_refl _)
    have hlt := k0.size
    clear HB1
    obtain ⟨q, hq⟩ : ∃ q, w.heap.size = q := ⟨_, rfl⟩
    rw [hq] at k0 hlt c0 c1 c2 c3 f0 f1 f2 f3 K0 HB2 HSZ ⊢
    have HQ : Hid (w.heap.size = q) := Lib.hid hq
    clear hq k0
    have F0 : Hid (Blk ((((w1.setCell ⟨q, 0, none⟩ (.int .i64 0)).setCell ⟨q, 1, none⟩ (.int .i64 0)).setCell ⟨q, 2, none⟩ (.int .i64 0)).setCell ⟨q, 3, none⟩ (.int .i64 0)) q 30 #[.int .i64 0, .int .i64 0, .int .i64 0, .int .i64 0]) := Lib.hid ((((K0.out.set 0 (.int .i64 0)).set 1 (.int .i64 0)).set 2 (.int .i64 0)).set 3 (.int .i64 0))
    have e1 := bput HB2.out (Nat.le_of_lt HSZ.out) (g := q) (Nat.le_refl _) 0 (.int .i64 0)
    have e2 := bput e1 (by simp; exact Nat.le_of_lt HSZ.out) (g := q) (Nat.le_refl _) 1 (.int .i64 0)
    have e3 := bput e2 (by simp; exact Nat.le_of_lt HSZ.out) (g := q) (Nat.le_refl _) 2 (.int .i64 0)
    have e4 := bput e3 (by simp; exact Nat.le_of_lt HSZ.out) (g := q) (Nat.le_refl _) 3 (.int .i64 0)
    have HEND := Lib.hid e4
    have hle : q ≤ ((((w1.setCell ⟨q, 0, none⟩ (.int .i64 0)).setCell ⟨q, 1, none⟩ (.int .i64 0)).setCell ⟨q, 2, none⟩ (.int .i64 0)).setCell ⟨q, 3, none⟩ (.int .i64 0)).heap.size := by simp; exact Nat.le_of_lt HSZ.out
    have HLE := Lib.hid hle
    clear e1 e2 e3 e4 hle HLT
    unfold lockOf
    go_wp2
    refine bodyPost_ret (rresults_cell_tmp rfl _ _ q _ _ _ _ rfl (F0.out.alloc _) Tryz.underlying30 rfl (by kernel_rfl)) rfl ?_
    exact ⟨by rw [what_none]; rfl, by rw [HQ.out]; exact HEND.out.alloc HLE.out _⟩
  · have HR := Lib.hid hR
    clear hR
    by_cases h0 : (c : Int) = 1099511627776
    · have HV := Lib.hid (what_bad a b c d who inc now h0)
      have b0 := lk_eq h0
      clear h0
      go_enter Tryz.func30, Tryz.ntmps30
      go_wp2_with fail
      refine (ropenL_any v l _ (HB.out.alloc _) HL.out (some (a, b, c, d)) HR.out).mono ?_
      rintro e w1 ⟨rfl, hb⟩
      have HB1 := Lib.hid hb
      clear hb
      have k0 : Blk w1 w.heap.size 30 #[.int .i64 0, .int .i64 0, .int .i64 0, .int .i64 0] := Blk.under (heap_alloc_new w _) HB1.out
      have HSZ : Hid (w.heap.size < w1.heap.size) := Lib.hid k0.size
      have c0 := k0.at 0
      have c1 := k0.at 1
      have c2 := k0.at 2
      have c3 := k0.at 3
      have f0 := k0.free 0
      have f1 := k0.free 1
      have f2 := k0.free 2
      have f3 := k0.free 3
      have K0 := Lib.hid k0
      have HB2 : Hid (Below w.heap.size w w1) := Lib.hid (((Below.refl w.heap.size w).alloc (Nat.le_refl _) _).trans (HB1.out.mono (by simp)))
      have HLT : Hid (w.heap.size ≤ w.heap.size) := Lib.hid (Nat.le_refl _)
      have hlt := k0.size
      clear HB1
      obtain ⟨q, hq⟩ : ∃ q, w.heap.size = q := ⟨_, rfl⟩
      rw [hq] at k0 hlt c0 c1 c2 c3 f0 f1 f2 f3 K0 HB2 HSZ ⊢
      have HQ : Hid (w.heap.size = q) := Lib.hid hq
      clear hq k0
      have F0 : Hid (Blk ((((w1.setCell ⟨q, 0, none⟩ (.int .i64 (a : Int))).setCell ⟨q, 1, none⟩ (.int .i64 (b : Int))).setCell ⟨q, 2, none⟩ (.int .i64 (c : Int))).setCell ⟨q, 3, none⟩ (.int .i64 (d : Int))) q 30 #[.int .i64 (a : Int), .int .i64 (b : Int), .int .i64 (c : Int), .int .i64 (d : Int)]) := Lib.hid ((((K0.out.set 0 (.int .i64 (a : Int))).set 1 (.int .i64 (b : Int))).set 2 (.int .i64 (c : Int))).set 3 (.int .i64 (d : Int)))
      have e1 := bput HB2.out (Nat.le_of_lt HSZ.out) (g := q) (Nat.le_refl _) 0 (.int .i64 (a : Int))
      have e2 := bput e1 (by simp; exact Nat.le_of_lt HSZ.out) (g := q) (Nat.le_refl _) 1 (.int .i64 (b : Int))
      have e3 := bput e2 (by simp; exact Nat.le_of_lt HSZ.out) (g := q) (Nat.le_refl _) 2 (.int .i64 (c : Int))
      have e4 := bput e3 (by simp; exact Nat.le_of_lt HSZ.out) (g := q) (Nat.le_refl _) 3 (.int .i64 (d : Int))
      have HEND := Lib.hid e4
      have hle : q ≤ ((((w1.setCell ⟨q, 0, none⟩ (.int .i64 (a : Int))).setCell ⟨q, 1, none⟩ (.int .i64 (b : Int))).setCell ⟨q, 2, none⟩ (.int .i64 (c : Int))).setCell ⟨q, 3, none⟩ (.int .i64 (d : Int))).heap.size := by simp; exact Nat.le_of_lt HSZ.out
      have HLE := Lib.hid hle
      clear e1 e2 e3 e4 hle HLT
      unfold lockOf
      go_wp2
      refine bodyPost_ret (rresults_cell_tmp rfl _ _ q _ _ _ _ rfl (F0.out.alloc _) Tryz.underlying30 rfl (by kernel_rfl)) rfl ?_
      exact ⟨by rw [HV.out]; rfl, by rw [HQ.out]; exact HEND.out.alloc HLE.out _⟩
    · have b0 := lk_ne h0
      by_cases h1 : (a : Int) = who
      · have b1 := lk_eq h1
        by_cases h2 : (b : Int) = inc
        · have b2 := lk_eq h2
          by_cases h3 : now < (d : Int)
          · skip
            have b3 : decide (now < (d : Int)) = true := decide_eq_true h3
            have HV := Lib.hid (what_mine a b c d who inc now h0 h1 h2 h3)
            clear h0 h1 h2
            go_enter Tryz.func30, Tryz.ntmps30
            go_wp2_with fail
            refine (ropenL_any v l _ (HB.out.alloc _) HL.out (some (a, b, c, d)) HR.out).mono ?_
            rintro e w1 ⟨rfl, hb⟩
            have HB1 := Lib.hid hb
            clear hb
            have k0 : Blk w1 w.heap.size 30 #[.int .i64 0, .int .i64 0, .int .i64 0, .int .i64 0] := Blk.under (heap_alloc_new w _) HB1.out
            have HSZ : Hid (w.heap.size < w1.heap.size) := Lib.hid k0.size
            have c0 := k0.at 0
            have c1 := k0.at 1
            have c2 := k0.at 2
            have c3 := k0.at 3
            have f0 := k0.free 0
            have f1 := k0.free 1
            have f2 := k0.free 2
            have f3 := k0.free 3
            have K0 := Lib.hid k0
            have HB2 : Hid (Below w.heap.size w w1) := Lib.hid (((Below.refl w.heap.size w).alloc (Nat.le_refl _) _).trans (HB1.out.mono (by simp)))
            have HLT : Hid (w.heap.size ≤ w.heap.size) := Lib.hid (Nat.le_refl _)
            have hlt := k0.size
            clear HB1
            obtain ⟨q, hq⟩ : ∃ q, w.heap.size = q := ⟨_, rfl⟩
            rw [hq] at k0 hlt c0 c1 c2 c3 f0 f1 f2 f3 K0 HB2 HSZ ⊢
            have HQ : Hid (w.heap.size = q) := Lib.hid hq
            clear hq k0
            have F0 : Hid (Blk ((((w1.setCell ⟨q, 0, none⟩ (.int .i64 (a : Int))).setCell ⟨q, 1, none⟩ (.int .i64 (b : Int))).setCell ⟨q, 2, none⟩ (.int .i64 (c : Int))).setCell ⟨q, 3, none⟩ (.int .i64 (d : Int))) q 30 #[.int .i64 (a : Int), .int .i64 (b : Int), .int .i64 (c : Int), .int .i64 (d : Int)]) := Lib.hid ((((K0.out.set 0 (.int .i64 (a : Int))).set 1 (.int .i64 (b : Int))).set 2 (.int .i64 (c : Int))).set 3 (.int .i64 (d : Int)))
            have e1 := bput HB2.out (Nat.le_of_lt HSZ.out) (g := q) (Nat.le_refl _) 0 (.int .i64 (a : Int))
            have e2 := bput e1 (by simp; exact Nat.le_of_lt HSZ.out) (g := q) (Nat.le_refl _) 1 (.int .i64 (b : Int))
            have e3 := bput e2 (by simp; exact Nat.le_of_lt HSZ.out) (g := q) (Nat.le_refl _) 2 (.int .i64 (c : Int))
            have e4 := bput e3 (by simp; exact Nat.le_of_lt HSZ.out) (g := q) (Nat.le_refl _) 3 (.int .i64 (d : Int))
            have HEND := Lib.hid e4
            have hle : q ≤ ((((w1.setCell ⟨q, 0, none⟩ (.int .i64 (a : Int))).setCell ⟨q, 1, none⟩ (.int .i64 (b : Int))).setCell ⟨q, 2, none⟩ (.int .i64 (c : Int))).setCell ⟨q, 3, none⟩ (.int .i64 (d : Int))).heap.size := by simp; exact Nat.le_of_lt HSZ.out
            have HLE := Lib.hid hle
            clear e1 e2 e3 e4 hle HLT
            unfold lockOf
            go_wp2
            refine bodyPost_ret (rresults_cell_tmp rfl _ _ q _ _ _ _ rfl (F0.out.alloc _) Tryz.underlying30 rfl (by kernel_rfl)) rfl ?_
            exact ⟨by rw [HV.out]; rfl, by rw [HQ.out]; exact HEND.out.alloc HLE.out _⟩
          · skip
            have b3 : decide (now < (d : Int)) = false := decide_eq_false h3
            have b4 : (d : Int) ≤ now := by omega
            have HV := Lib.hid (what_open a b c d who inc now h0 (fun h => h3 h.2.2) (.inl b4))
            clear h0 h1 h2 h3
            go_enter Tryz.func30, Tryz.ntmps30
            go_wp2_with fail
            refine (ropenL_any v l _ (HB.out.alloc _) HL.out (some (a, b, c, d)) HR.out).mono ?_
            rintro e w1 ⟨rfl, hb⟩
            have HB1 := Lib.hid hb
            clear hb
            have k0 : Blk w1 w.heap.size 30 #[.int .i64 0, .int .i64 0, .int .i64 0, .int .i64 0] := Blk.under (heap_alloc_new w _) HB1.out
            have HSZ : Hid (w.heap.size < w1.heap.size) := Lib.hid k0.size
            have c0 := k0.at 0
            have c1 := k0.at 1
            have c2 := k0.at 2
            have c3 := k0.at 3
            have f0 := k0.free 0
            have f1 := k0.free 1
            have f2 := k0.free 2
            have f3 := k0.free 3
            have K0 := Lib.hid k0
            have HB2 : Hid (Below w.heap.size w w1) := Lib.hid (((Below.refl w.heap.size w).alloc (Nat.le_refl _) _).trans (HB1.out.mono (by simp)))
            have HLT : Hid (w.heap.size ≤ w.heap.size) := Lib.hid (Nat.le_refl _)
            have hlt := k0.size
            clear HB1
            obtain ⟨q, hq⟩ : ∃ q, w.heap.size = q := ⟨_, rfl⟩
            rw [hq] at k0 hlt c0 c1 c2 c3 f0 f1 f2 f3 K0 HB2 HSZ ⊢
            have HQ : Hid (w.heap.size = q) := Lib.hid hq
            clear hq k0
            have F0 : Hid (Blk ((((w1.setCell ⟨q, 0, none⟩ (.int .i64 (a : Int))).setCell ⟨q, 1, none⟩ (.int .i64 (b : Int))).setCell ⟨q, 2, none⟩ (.int .i64 (c : Int))).setCell ⟨q, 3, none⟩ (.int .i64 (d : Int))) q 30 #[.int .i64 (a : Int), .int .i64 (b : Int), .int .i64 (c : Int), .int .i64 (d : Int)]) := Lib.hid ((((K0.out.set 0 (.int .i64 (a : Int))).set 1 (.int .i64 (b : Int))).set 2 (.int .i64 (c : Int))).set 3 (.int .i64 (d : Int)))
            have e1 := bput HB2.out (Nat.le_of_lt HSZ.out) (g := q) (Nat.le_refl _) 0 (.int .i64 (a : Int))
            have e2 := bput e1 (by simp; exact Nat.le_of_lt HSZ.out) (g := q) (Nat.le_refl _) 1 (.int .i64 (b : Int))
            have e3 := bput e2 (by simp; exact Nat.le_of_lt HSZ.out) (g := q) (Nat.le_refl _) 2 (.int .i64 (c : Int))
            have e4 := bput e3 (by simp; exact Nat.le_of_lt HSZ.out) (g := q) (Nat.le_refl _) 3 (.int .i64 (d : Int))
            have HEND := Lib.hid e4
            have hle : q ≤ ((((w1.setCell ⟨q, 0, none⟩ (.int .i64 (a : Int))).setCell ⟨q, 1, none⟩ (.int .i64 (b : Int))).setCell ⟨q, 2, none⟩ (.int .i64 (c : Int))).setCell ⟨q, 3, none⟩ (.int .i64 (d : Int))).heap.size := by simp; exact Nat.le_of_lt HSZ.out
            have HLE := Lib.hid hle
            clear e1 e2 e3 e4 hle HLT
            unfold lockOf
            go_wp2
            refine bodyPost_ret (rresults_cell_tmp rfl _ _ q _ _ _ _ rfl (F0.out.alloc _) Tryz.underlying30 rfl (by kernel_rfl)) rfl ?_
            exact ⟨by rw [HV.out]; rfl, by rw [HQ.out]; exact HEND.out.alloc HLE.out _⟩
        · have b2 := lk_ne h2
          by_cases h3 : (d : Int) ≤ now
          · skip
            have HV := Lib.hid (what_open a b c d who inc now h0 (fun h => h2 h.2.1) (.inl h3))
            clear h0 h1 h2
            go_enter Tryz.func30, Tryz.ntmps30
            go_wp2_with fail
            refine (ropenL_any v l _ (HB.out.alloc _) HL.out (some (a, b, c, d)) HR.out).mono ?_
            rintro e w1 ⟨rfl, hb⟩
            have HB1 := Lib.hid hb
            clear hb
            have k0 : Blk w1 w.heap.size 30 #[.int .i64 0, .int .i64 0, .int .i64 0, .int .i64 0] := Blk.under (heap_alloc_new w _) HB1.out
            have HSZ : Hid (w.heap.size < w1.heap.size) := Lib.hid k0.size
            have c0 := k0.at 0
            have c1 := k0.at 1
            have c2 := k0.at 2
            have c3 := k0.at 3
            have f0 := k0.free 0
            have f1 := k0.free 1
            have f2 := k0.free 2
            have f3 := k0.free 3
            have K0 := Lib.hid k0
            have HB2 : Hid (Below w.heap.size w w1) := Lib.hid (((Below.refl w.heap.size w).alloc (Nat.le_refl _) _).trans (HB1.out.mono (by simp)))
            have HLT : Hid (w.heap.size ≤ w.heap.size) := Lib.hid (Nat.le_refl _)
            have hlt := k0.size
            clear HB1
            obtain ⟨q, hq⟩ : ∃ q, w.heap.size = q := ⟨_, rfl⟩
            rw [hq] at k0 hlt c0 c1 c2 c3 f0 f1 f2 f3 K0 HB2 HSZ ⊢
            have HQ : Hid (w.heap.size = q) := Lib.hid hq
            clear hq k0
            have F0 : Hid (Blk ((((w1.setCell ⟨q, 0, none⟩ (.int .i64 (a : Int))).setCell ⟨q, 1, none⟩ (.int .i64 (b : Int))).setCell ⟨q, 2, none⟩ (.int .i64 (c : Int))).setCell ⟨q, 3, none⟩ (.int .i64 (d : Int))) q 30 #[.int .i64 (a : Int), .int .i64 (b : Int), .int .i64 (c : Int), .int .i64 (d : Int)]) := Lib.hid ((((K0.out.set 0 (.int .i64 (a : Int))).set 1 (.int .i64 (b : Int))).set 2 (.int .i64 (c : Int))).set 3 (.int .i64 (d : Int)))
            have e1 := bput HB2.out (Nat.le_of_lt HSZ.out) (g := q) (Nat.le_refl _) 0 (.int .i64 (a : Int))
            have e2 := bput e1 (by simp; exact Nat.le_of_lt HSZ.out) (g := q) (Nat.le_refl _) 1 (.int .i64 (b : Int))
            have e3 := bput e2 (by simp; exact Nat.le_of_lt HSZ.out) (g := q) (Nat.le_refl _) 2 (.int .i64 (c : Int))
            have e4 := bput e3 (by simp; exact Nat.le_of_lt HSZ.out) (g := q) (Nat.le_refl _) 3 (.int .i64 (d : Int))
            have HEND := Lib.hid e4
            have hle : q ≤ ((((w1.setCell ⟨q, 0, none⟩ (.int .i64 (a : Int))).setCell ⟨q, 1, none⟩ (.int .i64 (b : Int))).setCell ⟨q, 2, none⟩ (.int .i64 (c : Int))).setCell ⟨q, 3, none⟩ (.int .i64 (d : Int))).heap.size := by simp; exact Nat.le_of_lt HSZ.out
            have HLE := Lib.hid hle
            clear e1 e2 e3 e4 hle HLT
            unfold lockOf
            go_wp2
            refine bodyPost_ret (rresults_cell_tmp rfl _ _ q _ _ _ _ rfl (F0.out.alloc _) Tryz.underlying30 rfl (by kernel_rfl)) rfl ?_
            exact ⟨by rw [HV.out]; rfl, by rw [HQ.out]; exact HEND.out.alloc HLE.out _⟩
          · have b3 : decide ((d : Int) ≤ now) = false := decide_eq_false h3
            by_cases h4 : (b : Int) < inc
            · skip
              have b4 : decide ((b : Int) < inc) = true := decide_eq_true h4
              have HV := Lib.hid (what_open a b c d who inc now h0 (fun h => h2 h.2.1) (.inr ⟨h1, h4⟩))
              clear h0 h1 h2 h3 h4
              go_enter Tryz.func30, Tryz.ntmps30
              go_wp2_with fail
              refine (ropenL_any v l _ (HB.out.alloc _) HL.out (some (a, b, c, d)) HR.out).mono ?_
              rintro e w1 ⟨rfl, hb⟩
              have HB1 := Lib.hid hb
              clear hb
              have k0 : Blk w1 w.heap.size 30 #[.int .i64 0, .int .i64 0, .int .i64 0, .int .i64 0] := Blk.under (heap_alloc_new w _) HB1.out
              have HSZ : Hid (w.heap.size < w1.heap.size) := Lib.hid k0.size
              have c0 := k0.at 0
              have c1 := k0.at 1
              have c2 := k0.at 2
              have c3 := k0.at 3
              have f0 := k0.free 0
              have f1 := k0.free 1
              have f2 := k0.free 2
              have f3 := k0.free 3
              have K0 := Lib.hid k0
              have HB2 : Hid (Below w.heap.size w w1) := Lib.hid (((Below.refl w.heap.size w).alloc (Nat.le_refl _) _).trans (HB1.out.mono (by simp)))
              have HLT : Hid (w.heap.size ≤ w.heap.size) := Lib.hid (Nat.le_refl _)
              have hlt := k0.size
              clear HB1
              obtain ⟨q, hq⟩ : ∃ q, w.heap.size = q := ⟨_, rfl⟩
              rw [hq] at k0 hlt c0 c1 c2 c3 f0 f1 f2 f3 K0 HB2 HSZ ⊢
              have HQ : Hid (w.heap.size = q) := Lib.hid hq
              clear hq k0
              have F0 : Hid (Blk ((((w1.setCell ⟨q, 0, none⟩ (.int .i64 (a : Int))).setCell ⟨q, 1, none⟩ (.int .i64 (b : Int))).setCell ⟨q, 2, none⟩ (.int .i64 (c : Int))).setCell ⟨q, 3, none⟩ (.int .i64 (d : Int))) q 30 #[.int .i64 (a : Int), .int .i64 (b : Int), .int .i64 (c : Int), .int .i64 (d : Int)]) := Lib.hid ((((K0.out.set 0 (.int .i64 (a : Int))).set 1 (.int .i64 (b : Int))).set 2 (.int .i64 (c : Int))).set 3 (.int .i64 (d : Int)))
              have e1 := bput HB2.out (Nat.le_of_lt HSZ.out) (g := q) (Nat.le_refl _) 0 (.int .i64 (a : Int))
              have e2 := bput e1 (by simp; exact Nat.le_of_lt HSZ.out) (g := q) (Nat.le_refl _) 1 (.int .i64 (b : Int))
              have e3 := bput e2 (by simp; exact Nat.le_of_lt HSZ.out) (g := q) (Nat.le_refl _) 2 (.int .i64 (c : Int))
              have e4 := bput e3 (by simp; exact Nat.le_of_lt HSZ.out) (g := q) (Nat.le_refl _) 3 (.int .i64 (d : Int))
              have HEND := Lib.hid e4
              have hle : q ≤ ((((w1.setCell ⟨q, 0, none⟩ (.int .i64 (a : Int))).setCell ⟨q, 1, none⟩ (.int .i64 (b : Int))).setCell ⟨q, 2, none⟩ (.int .i64 (c : Int))).setCell ⟨q, 3, none⟩ (.int .i64 (d : Int))).heap.size := by simp; exact Nat.le_of_lt HSZ.out
              have HLE := Lib.hid hle
              clear e1 e2 e3 e4 hle HLT
              unfold lockOf
              go_wp2
              refine bodyPost_ret (rresults_cell_tmp rfl _ _ q _ _ _ _ rfl (F0.out.alloc _) Tryz.underlying30 rfl (by kernel_rfl)) rfl ?_
              exact ⟨by rw [HV.out]; rfl, by rw [HQ.out]; exact HEND.out.alloc HLE.out _⟩
            · skip
              have b4 : decide ((b : Int) < inc) = false := decide_eq_false h4
              have HV := Lib.hid (what_busy a b c d who inc now h0 (fun h => h2 h.2.1) (fun h => h.elim h3 (fun h => h4 h.2)))
              clear h0 h1 h2 h3 h4
              go_enter Tryz.func30, Tryz.ntmps30
              go_wp2_with fail
              refine (ropenL_any v l _ (HB.out.alloc _) HL.out (some (a, b, c, d)) HR.out).mono ?_
              rintro e w1 ⟨rfl, hb⟩
              have HB1 := Lib.hid hb
              clear hb
              have k0 : Blk w1 w.heap.size 30 #[.int .i64 0, .int .i64 0, .int .i64 0, .int .i64 0] := Blk.under (heap_alloc_new w _) HB1.out
              have HSZ : Hid (w.heap.size < w1.heap.size) := Lib.hid k0.size
              have c0 := k0.at 0
              have c1 := k0.at 1
              have c2 := k0.at 2
              have c3 := k0.at 3
              have f0 := k0.free 0
              have f1 := k0.free 1
              have f2 := k0.free 2
              have f3 := k0.free 3
              have K0 := Lib.hid k0
              have HB2 : Hid (Below w.heap.size w w1) := Lib.hid (((Below.refl w.heap.size w).alloc (Nat.le_refl _) _).trans (HB1.out.mono (by simp)))
              have HLT : Hid (w.heap.size ≤ w.heap.size) := Lib.hid (Nat.le_refl _)
              have hlt := k0.size
              clear HB1
              obtain ⟨q, hq⟩ : ∃ q, w.heap.size = q := ⟨_, rfl⟩
              rw [hq] at k0 hlt c0 c1 c2 c3 f0 f1 f2 f3 K0 HB2 HSZ ⊢
              have HQ : Hid (w.heap.size = q) := Lib.hid hq
              clear hq k0
              have F0 : Hid (Blk ((((w1.setCell ⟨q, 0, none⟩ (.int .i64 (a : Int))).setCell ⟨q, 1, none⟩ (.int .i64 (b : Int))).setCell ⟨q, 2, none⟩ (.int .i64 (c : Int))).setCell ⟨q, 3, none⟩ (.int .i64 (d : Int))) q 30 #[.int .i64 (a : Int), .int .i64 (b : Int), .int .i64 (c : Int), .int .i64 (d : Int)]) := Lib.hid ((((K0.out.set 0 (.int .i64 (a : Int))).set 1 (.int .i64 (b : Int))).set 2 (.int .i64 (c : Int))).set 3 (.int .i64 (d : Int)))
              have e1 := bput HB2.out (Nat.le_of_lt HSZ.out) (g := q) (Nat.le_refl _) 0 (.int .i64 (a : Int))
              have e2 := bput e1 (by simp; exact Nat.le_of_lt HSZ.out) (g := q) (Nat.le_refl _) 1 (.int .i64 (b : Int))
              have e3 := bput e2 (by simp; exact Nat.le_of_lt HSZ.out) (g := q) (Nat.le_refl _) 2 (.int .i64 (c : Int))
              have e4 := bput e3 (by simp; exact Nat.le_of_lt HSZ.out) (g := q) (Nat.le_refl _) 3 (.int .i64 (d : Int))
              have HEND := Lib.hid e4
              have hle : q ≤ ((((w1.setCell ⟨q, 0, none⟩ (.int .i64 (a : Int))).setCell ⟨q, 1, none⟩ (.int .i64 (b : Int))).setCell ⟨q, 2, none⟩ (.int .i64 (c : Int))).setCell ⟨q, 3, none⟩ (.int .i64 (d : Int))).heap.size := by simp; exact Nat.le_of_lt HSZ.out
              have HLE := Lib.hid hle
              clear e1 e2 e3 e4 hle HLT
              unfold lockOf
              go_wp2
              refine bodyPost_ret (rresults_cell_tmp rfl _ _ q _ _ _ _ rfl (F0.out.alloc _) Tryz.underlying30 rfl (by kernel_rfl)) rfl ?_
              exact ⟨by rw [HV.out]; rfl, by rw [HQ.out]; exact HEND.out.alloc HLE.out _⟩
      · have b1 := lk_ne h1
        by_cases h3 : (d : Int) ≤ now
        · skip
          have HV := Lib.hid (what_open a b c d who inc now h0 (fun h => h1 h.1) (.inl h3))
          clear h0 h1
          go_enter Tryz.func30, Tryz.ntmps30
          go_wp2_with fail
          refine (ropenL_any v l _ (HB.out.alloc _) HL.out (some (a, b, c, d)) HR.out).mono ?_
          rintro e w1 ⟨rfl, hb⟩
          have HB1 := Lib.hid hb
          clear hb
          have k0 : Blk w1 w.heap.size 30 #[.int .i64 0, .int .i64 0, .int .i64 0, .int .i64 0] := Blk.under (heap_alloc_new w _) HB1.out
          have HSZ : Hid (w.heap.size < w1.heap.size) := Lib.hid k0.size
          have c0 := k0.at 0
          have c1 := k0.at 1
          have c2 := k0.at 2
          have c3 := k0.at 3
          have f0 := k0.free 0
          have f1 := k0.free 1
          have f2 := k0.free 2
          have f3 := k0.free 3
          have K0 := Lib.hid k0
          have HB2 : Hid (Below w.heap.size w w1) := Lib.hid (((Below.refl w.heap.size w).alloc (Nat.le_refl _) _).trans (HB1.out.mono (by simp)))
          have HLT : Hid (w.heap.size ≤ w.heap.size) := Lib.hid (Nat.le_refl _)
          have hlt := k0.size
          clear HB1
          obtain ⟨q, hq⟩ : ∃ q, w.heap.size = q := ⟨_, rfl⟩
          rw [hq] at k0 hlt c0 c1 c2 c3 f0 f1 f2 f3 K0 HB2 HSZ ⊢
          have HQ : Hid (w.heap.size = q) := Lib.hid hq
          clear hq k0
          have F0 : Hid (Blk ((((w1.setCell ⟨q, 0, none⟩ (.int .i64 (a : Int))).setCell ⟨q, 1, none⟩ (.int .i64 (b : Int))).setCell ⟨q, 2, none⟩ (.int .i64 (c : Int))).setCell ⟨q, 3, none⟩ (.int .i64 (d : Int))) q 30 #[.int .i64 (a : Int), .int .i64 (b : Int), .int .i64 (c : Int), .int .i64 (d : Int)]) := Lib.hid ((((K0.out.set 0 (.int .i64 (a : Int))).set 1 (.int .i64 (b : Int))).set 2 (.int .i64 (c : Int))).set 3 (.int .i64 (d : Int)))
          have e1 := bput HB2.out (Nat.le_of_lt HSZ.out) (g := q) (Nat.le_refl _) 0 (.int .i64 (a : Int))
          have e2 := bput e1 (by simp; exact Nat.le_of_lt HSZ.out) (g := q) (Nat.le_refl _) 1 (.int .i64 (b : Int))
          have e3 := bput e2 (by simp; exact Nat.le_of_lt HSZ.out) (g := q) (Nat.le_refl _) 2 (.int .i64 (c : Int))
          have e4 := bput e3 (by simp; exact Nat.le_of_lt HSZ.out) (g := q) (Nat.le_refl _) 3 (.int .i64 (d : Int))
          have HEND := Lib.hid e4
          have hle : q ≤ ((((w1.setCell ⟨q, 0, none⟩ (.int .i64 (a : Int))).setCell ⟨q, 1, none⟩ (.int .i64 (b : Int))).setCell ⟨q, 2, none⟩ (.int .i64 (c : Int))).setCell ⟨q, 3, none⟩ (.int .i64 (d : Int))).heap.size := by simp; exact Nat.le_of_lt HSZ.out
          have HLE := Lib.hid hle
          clear e1 e2 e3 e4 hle HLT
          unfold lockOf
          go_wp2
          refine bodyPost_ret (rresults_cell_tmp rfl _ _ q _ _ _ _ rfl (F0.out.alloc _) Tryz.underlying30 rfl (by kernel_rfl)) rfl ?_
          exact ⟨by rw [HV.out]; rfl, by rw [HQ.out]; exact HEND.out.alloc HLE.out _⟩
        · have b3 : decide ((d : Int) ≤ now) = false := decide_eq_false h3
          have HV := Lib.hid (what_busy a b c d who inc now h0 (fun h => h1 h.1) (fun h => h.elim h3 (fun h => h1 h.1)))
          clear h0 h1 h3
          go_enter Tryz.func30, Tryz.ntmps30
          go_wp2_with fail
          refine (ropenL_any v l _ (HB.out.alloc _) HL.out (some (a, b, c, d)) HR.out).mono ?_
          rintro e w1 ⟨rfl, hb⟩
          have HB1 := Lib.hid hb
          clear hb
          have k0 : Blk w1 w.heap.size 30 #[.int .i64 0, .int .i64 0, .int .i64 0, .int .i64 0] := Blk.under (heap_alloc_new w _) HB1.out
          have HSZ : Hid (w.heap.size < w1.heap.size) := Lib.hid k0.size
          have c0 := k0.at 0
          have c1 := k0.at 1
          have c2 := k0.at 2
          have c3 := k0.at 3
          have f0 := k0.free 0
          have f1 := k0.free 1
          have f2 := k0.free 2
          have f3 := k0.free 3
          have K0 := Lib.hid k0
          have HB2 : Hid (Below w.heap.size w w1) := Lib.hid (((Below.refl w.heap.size w).alloc (Nat.le_refl _) _).trans (HB1.out.mono (by simp)))
          have HLT : Hid (w.heap.size ≤ w.heap.size) := Lib.hid (Nat.le_refl _)
          have hlt := k0.size
          clear HB1
          obtain ⟨q, hq⟩ : ∃ q, w.heap.size = q := ⟨_, rfl⟩
          rw [hq] at k0 hlt c0 c1 c2 c3 f0 f1 f2 f3 K0 HB2 HSZ ⊢
          have HQ : Hid (w.heap.size = q) := Lib.hid hq
          clear hq k0
          have F0 : Hid (Blk ((((w1.setCell ⟨q, 0, none⟩ (.int .i64 (a : Int))).setCell ⟨q, 1, none⟩ (.int .i64 (b : Int))).setCell ⟨q, 2, none⟩ (.int .i64 (c : Int))).setCell ⟨q, 3, none⟩ (.int .i64 (d : Int))) q 30 #[.int .i64 (a : Int), .int .i64 (b : Int), .int .i64 (c : Int), .int .i64 (d : Int)]) := Lib.hid ((((K0.out.set 0 (.int .i64 (a : Int))).set 1 (.int .i64 (b : Int))).set 2 (.int .i64 (c : Int))).set 3 (.int .i64 (d : Int)))
          have e1 := bput HB2.out (Nat.le_of_lt HSZ.out) (g := q) (Nat.le_refl _) 0 (.int .i64 (a : Int))
          have e2 := bput e1 (by simp; exact Nat.le_of_lt HSZ.out) (g := q) (Nat.le_refl _) 1 (.int .i64 (b : Int))
          have e3 := bput e2 (by simp; exact Nat.le_of_lt HSZ.out) (g := q) (Nat.le_refl _) 2 (.int .i64 (c : Int))
          have e4 := bput e3 (by simp; exact Nat.le_of_lt HSZ.out) (g := q) (Nat.le_refl _) 3 (.int .i64 (d : Int))
          have HEND := Lib.hid e4
          have hle : q ≤ ((((w1.setCell ⟨q, 0, none⟩ (.int .i64 (a : Int))).setCell ⟨q, 1, none⟩ (.int .i64 (b : Int))).setCell ⟨q, 2, none⟩ (.int .i64 (c : Int))).setCell ⟨q, 3, none⟩ (.int .i64 (d : Int))).heap.size := by simp; exact Nat.le_of_lt HSZ.out
          have HLE := Lib.hid hle
          clear e1 e2 e3 e4 hle HLT
          unfold lockOf
          go_wp2
          refine bodyPost_ret (rresults_cell_tmp rfl _ _ q _ _ _ _ rfl (F0.out.alloc _) Tryz.underlying30 rfl (by kernel_rfl)) rfl ?_
          exact ⟨by rw [HV.out]; rfl, by rw [HQ.out]; exact HEND.out.alloc HLE.out _⟩
end Go.Proofs.YtfheaognfocofaaGreatDoor
