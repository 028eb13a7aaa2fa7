/- Package lock: what a Write tells as held. -/
import Derived.Test.YtlopabmndliggaaGreatDoorZ13
namespace Go.Proofs.YtlopabmndliggaaGreatDoor
set_option maxRecDepth 100000
open Go.ChangeShapes Go.WideShapes Go.ChangeAt Go.RowKit Go.ChangeMaps
open Sf Lk

def wrO (x : Sw) (fr : Bool) : Option (Int × Lo) := if fr then none else x.held
set_option maxRecDepth 100000 in
set_option maxHeartbeats 4000000 in
theorem wrheld_any {w : World} {g : Nat} (x : Sw) (fr : Bool) (hk : WrBlk w g x fr) :
    Calls Tryz.prog 11 #[.pointer (some ⟨g, 0, none⟩)] w fun e w' => e = .returned (heldV x.file (wrO x fr)) ∧ Below w.heap.size w w' := by
  have k9 := fun o1 o2 => blk_cell (v := .bool fr) ((Blk.alloc hk o1).alloc o2) 9 rfl
  rcases fr with _ | _
  · show Calls _ _ _ _ fun e w' => e = .returned (heldV x.file x.held) ∧ _
    obtain ⟨f, k, ⟨a, b, c, d⟩, q, hp⟩ := heldV_parts x.file x.held
    have C : Hid (∀ o1 o2, Calls Tryz.prog 23 #[.pointer (some ⟨g, 0, none⟩)] ((w.alloc o1).alloc o2) fun e w' => e = .returned (.tuple #[guardV f k, loV ⟨a, b, c, d⟩, .bool q]) ∧ Below ((w.alloc o1).alloc o2).heap.size ((w.alloc o1).alloc o2) w') := Lib.hid fun o1 o2 => by
      rw [← hp]
      exact swheld_any _ x [.bool false] ((Blk.alloc hk o1).alloc o2)
    rw [hp]
    clear hk hp
    go_enter Tryz.func11, Tryz.ntmps11
    go_wp2_with fail
    refine (C.out _ _).mono ?_
    rintro e w1 ⟨rfl, hb1⟩
    have HT := Lib.hid (fun w6 => three_cells (a := a) (b := b) (c := c) (d := d) (k := k) (fl := f) hb1 w6)
    have h2 : Blk w1 w.heap.size 26 #[.string ⟨#[]⟩, .int .i64 0] := Blk.under (Blk.alloc (heap_alloc_new w _) _) hb1
    have h3 : Blk w1 (w.heap.size + 1) 28 #[.int .i64 0, .int .i64 0, .int .i64 0, .int .i64 0] := Blk.under (heap_alloc_new' _ _ (by simp)) hb1
    have c0 := h2.at 0
    have c1 := h2.at 1
    have d0 := h3.at 0
    have d1 := h3.at 1
    have d2 := h3.at 2
    have d3 := h3.at 3
    have f0 := h2.free 0
    have f1 := h2.free 1
    have e0 := h3.free 0
    have e1 := h3.free 1
    have e2 := h3.free 2
    have e3 := h3.free 3
    clear h2 h3 hb1
    go_wp2
    obtain ⟨w6, hw6⟩ : ∃ w6, (((((w1.setCell ⟨w.heap.size, 0, none⟩ (.string (str f))).setCell ⟨w.heap.size, 1, none⟩ (.int .i64 k)).setCell ⟨w.heap.size + 1, 0, none⟩ (.int .i64 a)).setCell ⟨w.heap.size + 1, 1, none⟩ (.int .i64 b)).setCell ⟨w.heap.size + 1, 2, none⟩ (.int .i64 c)).setCell ⟨w.heap.size + 1, 3, none⟩ (.int .i64 d) = w6 := ⟨_, rfl⟩
    obtain ⟨F2, F3, HB⟩ := HT.out w6 hw6
    rw [hw6]
    refine bodyPost_ret (results_cct rfl _ _ w.heap.size _ _ _ _ (w.heap.size + 1) _ _ _ _ rfl F2 rfl F3 Tryz.underlying26 rfl (by kernel_rfl) Tryz.underlying28 rfl (by kernel_rfl)) rfl ?_
    exact ⟨rfl, HB⟩
  · show Calls _ _ _ _ fun e w' => e = .returned (.tuple #[guardV [] 0, loV lo0, .bool false]) ∧ _
    have HB2 : Hid (∀ o1 o2, Below w.heap.size w ((w.alloc o1).alloc o2)) := Lib.hid fun o1 o2 => ((Below.refl w.heap.size w).alloc (Nat.le_refl _) _).alloc (by simp) _
    clear hk
    go_enter Tryz.func11, Tryz.ntmps11
    go_wp2
    refine bodyPost_ret (results_cct rfl _ _ w.heap.size _ _ _ _ (w.heap.size + 1) _ _ _ _ rfl (Blk.alloc (heap_alloc_new w _) _) rfl (heap_alloc_new' _ _ (by simp)) Tryz.underlying26 rfl (by kernel_rfl) Tryz.underlying28 rfl (by kernel_rfl)) rfl ?_
    exact ⟨rfl, HB2.out _ _⟩
/-- 'written', by what it comes to. -/
theorem written_any {K : Nat → Prop} {w0 w : World} {p g : Nat} {s s' : S} {x x' : Sw} {fr : Bool} (want : Nat) (hrun : writeRun 6 s x = (s', x', want)) (hq0 : want ≠ 0) (h : Fk K w0 w p s) (hg : K g) (hg0 : w0.heap.size ≤ g) (hk : WrBlk w g x fr) (hf : Nice x.file) (ht : Nice x.temp) (hnx : s.next ≤ 1000000) (hu : used s.l ≤ 1000000) :
    Calls Tryz.prog 9 #[.pointer (some ⟨p, 0, none⟩), .pointer (some ⟨g, 0, none⟩), .int .i64 (want : Int)] w fun e w' => e = .returned (.bool true) ∧ Fk K w0 w' p s' ∧ WrBlk w' g x' fr ∧ Kept (fun k => K k ∧ k ≠ g) w w' := by
  have HR := Lib.hid hrun
  have HF := Lib.hid h
  have HX := Lib.hid hk
  have HG := Lib.hid hg
  have HG0 := Lib.hid hg0
  have HN := Lib.hid (And.intro hnx hu)
  have HFT := Lib.hid (And.intro hf ht)
  have HQ0 := Lib.hid hq0
  have hqq : ((want : Int) == (want : Int)) = true := by simp
  clear hrun h hk hg hg0 hnx hu hf ht hq0
  go_enter Tryz.func9, Tryz.ntmps9
  go_wp2_with fail
  go_loopg [7, 8] 7 (fun gg s7 s8 wr => ∃ (k q : Nat) (sk : S) (xk : Sw), k ≤ 6 ∧ 7 - k ≤ gg ∧ s7 = .int .i64 (q : Int) ∧ s8 = .int .i64 (k : Int) ∧ Hid ((q = 0 ∧ writeRun (6 - k) sk xk = (s', x', want)) ∨ (q = want ∧ sk = s' ∧ xk = x' ∧ xk.told = want)) ∧ Hid (Fk K w0 wr p sk) ∧ Hid (WrBlk wr g xk fr) ∧ Hid (Kept (fun k => K k ∧ k ≠ g) w wr) ∧ Hid (sk.next ≤ 1000000 + k ∧ used sk.l ≤ 1000000 + 34 * k) ∧ Hid (xk.file = x.file ∧ xk.temp = x.temp))
  case atStart => exact ⟨0, 0, s, x, by omega, by omega, rfl, rfl, Lib.hid (.inl ⟨rfl, HR.out⟩), HF, HX, Lib.hid (Kept.refl _ _), HN, Lib.hid ⟨rfl, rfl⟩⟩
  case round =>
    obtain ⟨k, q, sk, xk, hk, hgg, rfl, rfl, HRk, HFk, HXk, HKk, HNk, HTk⟩ := hrel
    obtain ⟨wz, rfl⟩ : ∃ wx : World, wx = wr := ⟨_, rfl⟩
    have hgr := wstep_grows HFk.out.fs.good.1 xk
    have C := Lib.hid (wrstep_any xk fr HFk.out HG.out HG0.out HXk.out (by rw [HTk.out.1]; exact HFT.out.1) (by rw [HTk.out.2]; exact HFT.out.2) (by have := HNk.out; omega) (by have := HNk.out; omega))
    have htold := wstep_told sk xk
    by_cases hq : q = 0
    · subst hq
      have hrun : writeRun (6 - k) sk xk = (s', x', want) := by
        rcases HRk.out with h | h
        · exact h.2
        · exact absurd h.1.symm HQ0.out
      by_cases hlt : k < 6
      · have hlI : (k : Int) < 6 := by omega
        have HU2 : Hid ((xk.step sk).1.next ≤ 1000000 + (k + 1 : Nat) ∧ used (xk.step sk).1.l ≤ 1000000 + 34 * (k + 1 : Nat)) := Lib.hid ⟨by have := hgr.1.2; have := HNk.out; omega, by have := hgr.1.1; have := HNk.out; omega⟩
        have HT2 : Hid ((xk.step sk).2.1.file = x.file ∧ (xk.step sk).2.1.temp = x.temp) := Lib.hid (by rw [hgr.2.1, hgr.2.2]; exact HTk.out)
        have HR2 : Hid (((xk.step sk).2.2 = 0 ∧ writeRun (6 - (k + 1)) (xk.step sk).1 (xk.step sk).2.1 = (s', x', want)) ∨ ((xk.step sk).2.2 = want ∧ (xk.step sk).1 = s' ∧ (xk.step sk).2.1 = x' ∧ (xk.step sk).2.1.told = want)) := Lib.hid (by
          rw [show 6 - k = (6 - (k + 1)) + 1 by omega] at hrun
          by_cases h0 : (xk.step sk).2.2 = 0
          · rw [writeRun_zero h0] at hrun
            exact .inl ⟨h0, hrun⟩
          · rw [writeRun_end h0] at hrun
            rw [hrun] at htold ⊢
            exact .inr ⟨rfl, rfl, rfl, htold⟩)
        obtain ⟨Y, hY⟩ : ∃ Y, xk.step sk = Y := ⟨_, rfl⟩
        rw [hY] at C HU2 HT2 HR2
        obtain ⟨s1, x1, r⟩ := Y
        clear hgr htold hrun hY HRk
        go_wp2_with fail
        refine C.out.mono ?_
        rintro e w3 ⟨rfl, hf3, hx3, hk3⟩
        have HF3 := Lib.hid hf3
        have HX3 : Hid (WrBlk w3 g x1 fr) := Lib.hid hx3
        have HK3 := Lib.hid (HKk.out.trans hk3)
        clear hf3 hx3 hk3 C HFk HXk HKk
        go_wp2_with fail
        go_roundg (7 - (k + 1))
        case rel => exact ⟨k + 1, r, s1, x1, by omega, by omega, rfl, by go_num, HR2, HF3, HX3, HK3, HU2, HT2⟩
        case measure => omega
      · exfalso
        obtain rfl : k = 6 := by omega
        rw [writeRun] at hrun
        injection hrun with _ hrun
        injection hrun with _ hrun
        exact HQ0.out hrun.symm
    · obtain ⟨rfl, rfl, rfl, ht⟩ : q = want ∧ sk = s' ∧ xk = x' ∧ xk.told = want := by
        rcases HRk.out with h | h
        · exact absurd h.1 hq
        · exact h
      have hqI : ((q : Int) == 0) = false := by simp; omega
      have C2 : Hid (Calls Tryz.prog 20 #[.pointer (some ⟨g, 0, none⟩), .pointer (some ⟨p, 0, none⟩)] wz fun e w' => e = .returned (.int .i64 (q : Int)) ∧ Fk K w0 w' p sk ∧ WrBlk w' g xk fr ∧ Kept (fun k => K k ∧ k ≠ g) wz w') := Lib.hid (by
        have := C.out
        rw [wt_again (by rw [ht]; exact HQ0.out), ht] at this
        exact this)
      clear hgr htold C HRk ht hq
      have END : Hid (∀ w3, Fk K w0 w3 p sk ∧ WrBlk w3 g xk fr ∧ Kept (fun k => K k ∧ k ≠ g) wz w3 → Fk K w0 w3 p sk ∧ WrBlk w3 g xk fr ∧ Kept (fun k => K k ∧ k ≠ g) w w3) := Lib.hid fun w3 h => ⟨h.1, h.2.1, HKk.out.trans h.2.2⟩
      by_cases hlt : k < 6
      · have hlI : (k : Int) < 6 := by omega
        go_wp2_with fail
        refine C2.out.mono ?_
        rintro e w3 ⟨rfl, h3⟩
        have H3 := Lib.hid (END.out w3 h3)
        clear h3
        go_wp2
        go_ret
        exact ⟨rfl, H3.out⟩
      · have hlI : decide ((k : Int) < 6) = false := decide_eq_false (by omega)
        go_wp2_with fail
        refine C2.out.mono ?_
        rintro e w3 ⟨rfl, h3⟩
        have H3 := Lib.hid (END.out w3 h3)
        clear h3
        go_wp2
        go_ret
        exact ⟨rfl, H3.out⟩
end Go.Proofs.YtlopabmndliggaaGreatDoor
