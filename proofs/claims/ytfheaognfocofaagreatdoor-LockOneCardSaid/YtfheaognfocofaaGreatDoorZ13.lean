/- Package lock: a Take. -/
import Derived.Test.YtfheaognfocofaaGreatDoorZLockLook
import Derived.Test.YtfheaognfocofaaGreatDoorZLockTemp
import Derived.RegionTactic
import Derived.Test.YtfheaognfocofaaGreatDoorZ11
namespace Go.Proofs.YtfheaognfocofaaGreatDoor
set_option maxRecDepth 100000
open Go.ChangeShapes Go.WideShapes Go.ChangeAt Go.RowKit Go.ChangeMaps
open Sf Lk

/-- The cells of a Take. -/
def tkR (t : Tk) : List Value := [.int .i64 t.who, .int .i64 t.inc, .int .i64 t.lease]
def tkC (t : Tk) : List Value := swC t.sw (tkR t)
def TkBlk (w : World) (g : Nat) (t : Tk) : Prop := Blk w g 62 (tkC t).toArray
def TakeIs (K : Nat → Prop) (w0 w : World) (p g : Nat) (R : S × Tk × Nat) (e : Ending) (w' : World) : Prop :=
  e = .returned (.int .i64 ((R.2.2 : Nat) : Int)) ∧ Fk K w0 w' p R.1 ∧ TkBlk w' g R.2.1 ∧ Kept (fun k => K k ∧ k ≠ g) w w'
theorem TakeIs.of {K : Nat → Prop} {w0 w w' : World} {p g : Nat} {R : S × Tk × Nat} {e : Ending} {s : S} {x : Tk} {n : Nat} (hR : R = (s, x, n)) (he : e = .returned (.int .i64 (n : Int))) (hf : Fk K w0 w' p s) (hb : TkBlk w' g x) (hk : Kept (fun k => K k ∧ k ≠ g) w w') : TakeIs K w0 w p g R e w' := by
  subst hR
  exact ⟨he, hf, hb, hk⟩

set_option maxRecDepth 100000 in
set_option maxHeartbeats 4000000 in
theorem tkown_any {K : Nat → Prop} {w0 w : World} {p g : Nat} {s : S} (t : Tk) (e now : Int) (h : Fk K w0 w p s) (hg : K g) (hg0 : w0.heap.size ≤ g) (hk : TkBlk w g t) (h1 : 0 ≤ now ∧ now ≤ 549755813888) (h2 : 0 ≤ t.lease ∧ t.lease ≤ 1000000) :
    Calls Tryz.prog 34 #[.pointer (some ⟨g, 0, none⟩), .int .i64 e, .int .i64 now] w fun e' w' => e' = .returned (.tuple #[]) ∧ Fk K w0 w' p s ∧ TkBlk w' g (t.own e now) ∧ Kept (fun k => K k ∧ k ≠ g) w w' := by
  obtain ⟨⟨fl, stp, ⟨a, b, c, d⟩, tp, nx, td⟩, wh, ic, ls⟩ := t
  have hk' : Blk w g 62 (swC ⟨fl, stp, ⟨a, b, c, d⟩, tp, nx, td⟩ [.int .i64 wh, .int .i64 ic, .int .i64 ls]).toArray := hk
  have k2 := blk_cell (v := .int .i64 a) hk' 2 rfl
  have k3 := blk_cell (v := .int .i64 b) hk' 3 rfl
  have k4 := blk_cell (v := .int .i64 c) hk' 4 rfl
  have k5 := blk_cell (v := .int .i64 d) hk' 5 rfl
  have k9 := blk_cell (v := .int .i64 wh) hk' 9 rfl
  have k10 := blk_cell (v := .int .i64 ic) hk' 10 rfl
  have k11 := blk_cell (v := .int .i64 ls) hk' 11 rfl
  have f2 := hk'.free 2
  have f3 := hk'.free 3
  have f4 := hk'.free 4
  have f5 := hk'.free 5
  obtain ⟨z, hz⟩ : ∃ z, now + ls = z := ⟨_, rfl⟩
  have hsum : IntKind.i64.wrap (now + ls) = z := by
    have e1 : 0 ≤ ls := h2.1
    have e2 : ls ≤ 1000000 := h2.2
    rw [← hz]
    exact IntWalk.i64_in _ (by omega)
  have HB1 := Lib.hid (blk_put (blk_put (blk_put (blk_put hk' 2 (.int .i64 wh) rfl) 3 (.int .i64 ic) rfl) 4 (.int .i64 e) rfl) 5 (.int .i64 z) (l' := swC ⟨fl, stp, ⟨wh, ic, e, z⟩, tp, nx, td⟩ [.int .i64 wh, .int .i64 ic, .int .i64 ls]) rfl)
  have HF1 := Lib.hid ((((h.set hg hg0 2 (.int .i64 wh)).set hg hg0 3 (.int .i64 ic)).set hg hg0 4 (.int .i64 e)).set hg hg0 5 (.int .i64 z))
  have HK1 := Lib.hid ((((Kept.set K w g 2 (.int .i64 wh)).trans (Kept.set K _ g 3 (.int .i64 ic))).trans (Kept.set K _ g 4 (.int .i64 e))).trans (Kept.set K _ g 5 (.int .i64 z)))
  have HZ := Lib.hid hz
  clear h hg hg0 hk hk' h1 h2 hz
  go_enter Tryz.func34, Tryz.ntmps34
  go_upto_region 0 with fail
  go_region
  go_wp2
  obtain ⟨w6, hw6⟩ : ∃ w6, (((w.setCell ⟨g, 2, none⟩ (.int .i64 wh)).setCell ⟨g, 3, none⟩ (.int .i64 ic)).setCell ⟨g, 4, none⟩ (.int .i64 e)).setCell ⟨g, 5, none⟩ (.int .i64 z) = w6 := ⟨_, rfl⟩
  rw [hw6] at HB1 HF1 HK1 ⊢
  refine bodyPost_end (results_none rfl _ _ _) rfl ⟨rfl, HF1.out.under (Below.refl _ w6).drew, ?_, HK1.out⟩
  have := HB1.out.heap (W := w6.drew) rfl
  rw [← HZ.out] at this
  exact this

theorem numN_le (x : Cd.St) : Rc.nn x ≤ 1099511627776 := by
  unfold Rc.nn Cd.numN
  split
  · rename_i h
    unfold Cd.fits at h
    rcases x with _ | l
    · simp at h
    · simp only [Bool.and_eq_true, decide_eq_true_eq] at h
      rw [Cd.rest, Option.getD_some]
      omega
  · omega
theorem openL_le {l : List Nat} {a b c d : Nat} (h : Rc.openL l = some (a, b, c, d)) : c ≤ 1099511627776 := by
  unfold Rc.openL at h
  split at h
  · injection h with h
    rw [Rc.four] at h
    injection h with _ h
    injection h with _ h
    injection h with h _
    rw [← h]
    exact numN_le _
  · cases h
theorem loOf_c (l : List Nat) : 0 ≤ (loOf (Rc.openL l)).c ∧ (loOf (Rc.openL l)).c ≤ 1099511627776 := by
  rcases h : Rc.openL l with _ | ⟨a, b, c, d⟩
  · simp [loOf, lo0]
  · have := openL_le h
    simp only [loOf]
    omega
theorem nat_ne {n m : Nat} (h : ¬ n = m) : ((n : Int) == (m : Int)) = false := by simp; omega

set_option maxRecDepth 100000 in
set_option maxHeartbeats 4000000 in
theorem tkmake_any {K : Nat → Prop} {w0 w : World} {p g : Nat} {s : S} (t : Tk) (h : Fk K w0 w p s) (hg : K g) (hg0 : w0.heap.size ≤ g) (hk : TkBlk w g t) (hf : Nice t.sw.file) (hnx : s.next ≤ 1073741824) (hu : used s.l + 34 ≤ 274877906944) :
    Calls Tryz.prog 35 #[.pointer (some ⟨g, 0, none⟩), .pointer (some ⟨p, 0, none⟩)] w (TakeIs K w0 w p g (t.make s)) := by
  have HLEN := t.sw.lock.bytes_len
  obtain ⟨⟨fl, stp, ⟨a, b, c, d⟩, tp, nx, td⟩, wh, ic, ls⟩ := t
  have hk' : Blk w g 62 (swC ⟨fl, stp, ⟨a, b, c, d⟩, tp, nx, td⟩ [.int .i64 wh, .int .i64 ic, .int .i64 ls]).toArray := hk
  obtain ⟨B, hB⟩ : ∃ B, Lo.bytes ⟨a, b, c, d⟩ = B := ⟨_, rfl⟩
  have HF := Lib.hid h
  have HG := Lib.hid hg
  have HG0 := Lib.hid hg0
  have HK := Lib.hid hk'
  have C1 : Hid (∀ W, Calls Tryz.prog 37 #[lockV a b c d] W (Made W.heap.size B W)) := Lib.hid fun W => rlock_is a b c d B W hB
  have C2 : Hid (∀ W v, Fk K w0 W p s → Bytes W v B → Calls Tryz.prog 49 #[.pointer (some ⟨p, 0, none⟩), .string (str fl), v] W fun e w' => e = .returned (.tuple #[.int .i64 (((Sf.make s fl B).2.1 : Nat) : Int), .int .i64 (((Sf.make s fl B).2.2 : Nat) : Int)]) ∧ Fk K w0 w' p (Sf.make s fl B).1 ∧ Kept K W w') := Lib.hid fun W v hh hb => fk_make fl B v hh hf hb hnx (by rw [← hB, HLEN]; exact hu)
  have HV : Hid (Tk.make s ⟨⟨fl, stp, ⟨a, b, c, d⟩, tp, nx, td⟩, wh, ic, ls⟩ = if (Sf.make s fl B).2.2 = 0 then ((Sf.make s fl B).1, ⟨⟨fl, ((Sf.make s fl B).2.1 : Int), ⟨a, b, c, d⟩, tp, nx, td⟩, wh, ic, ls⟩, 1) else if (Sf.make s fl B).2.2 = 2 then ((Sf.make s fl B).1, ⟨⟨fl, stp, ⟨a, b, c, d⟩, tp, nx, td⟩, wh, ic, ls⟩, 4) else ((Sf.make s fl B).1, ⟨⟨fl, stp, ⟨a, b, c, d⟩, tp, nx, td⟩, wh, ic, ls⟩, 2)) := Lib.hid (by rw [← hB]; rfl)
  obtain ⟨s1, hs1⟩ : ∃ n, (Sf.make s fl B).1 = n := ⟨_, rfl⟩
  obtain ⟨n1, hn1⟩ : ∃ n, (Sf.make s fl B).2.1 = n := ⟨_, rfl⟩
  obtain ⟨n, hn⟩ : ∃ n, (Sf.make s fl B).2.2 = n := ⟨_, rfl⟩
  rw [hs1, hn1, hn] at HV
  rw [hs1, hn1, hn] at C2
  have k0 := blk_cell (v := .string (str fl)) hk' 0 rfl
  have k2 := blk_cell (v := .int .i64 a) hk' 2 rfl
  have k3 := blk_cell (v := .int .i64 b) hk' 3 rfl
  have k4 := blk_cell (v := .int .i64 c) hk' 4 rfl
  have k5 := blk_cell (v := .int .i64 d) hk' 5 rfl
  have HST : Hid (∀ W, Blk W g 62 (swC ⟨fl, stp, ⟨a, b, c, d⟩, tp, nx, td⟩ [.int .i64 wh, .int .i64 ic, .int .i64 ls]).toArray → W.cell? ⟨g, 2, none⟩ = some (.int .i64 a) ∧ W.cell? ⟨g, 3, none⟩ = some (.int .i64 b) ∧ W.cell? ⟨g, 4, none⟩ = some (.int .i64 c) ∧ W.cell? ⟨g, 5, none⟩ = some (.int .i64 d) ∧ W.cell? ⟨g, 0, none⟩ = some (.string (str fl))) := Lib.hid fun W h => ⟨blk_cell h 2 rfl, blk_cell h 3 rfl, blk_cell h 4 rfl, blk_cell h 5 rfl, blk_cell h 0 rfl⟩
  obtain ⟨T, hT⟩ : ∃ T, str fl = T := ⟨_, rfl⟩
  rw [hT] at C2 k0 HST
  clear h hg hg0 hk hk' hf hnx hu hB HLEN hs1 hn1 hn hT
  go_enter Tryz.func35, Tryz.ntmps35
  go_upto_region 1 with fail
  refine wp_region_noPanic ?_
  refine wp_region_held_drew (S := fun w' => w'.cell? ⟨g, 2, none⟩ = some (.int .i64 a) ∧ w'.cell? ⟨g, 3, none⟩ = some (.int .i64 b) ∧ w'.cell? ⟨g, 4, none⟩ = some (.int .i64 c) ∧ w'.cell? ⟨g, 5, none⟩ = some (.int .i64 d) ∧ w'.cell? ⟨g, 0, none⟩ = some (.string T)) (by kernel_rfl) (⟨k2, k3, k4, k5, k0⟩) (fun hHeld => ?_)
  refine takeW 0 (some 8) (oi := ?oT1) (v := ?vT1) ?hiT1 ?hdT1 (by kernel_rfl) (by kernel_rfl) (by kernel_rfl) (fun _ _ _ h => h) ?hwT1 ?hyT1 hHeld ?_
  case hiT1 => (simp only [List.getElem?_toArray, List.getElem?_cons_zero]; with_reducible rfl)
  case hdT1 => rfl
  case hwT1 => rfl
  case hyT1 => (intro w hSw; (try dsimp only at hSw); go_simp; first | done | with_reducible rfl)
  try simp only [Act.put]
  try simp only [List.setIfInBounds_toArray, List.set_cons_zero, List.set_cons_succ]
  refine takeW 1 (some 9) (oi := ?oT2) (v := ?vT2) ?hiT2 ?hdT2 (by kernel_rfl) (by kernel_rfl) (by kernel_rfl) (fun _ _ _ h => h) ?hwT2 ?hyT2 hHeld ?_
  case hiT2 => (simp only [List.getElem?_toArray, List.getElem?_cons_succ, List.getElem?_cons_zero]; with_reducible rfl)
  case hdT2 => rfl
  case hwT2 => rfl
  case hyT2 => (intro w hSw; (try dsimp only at hSw); go_simp; first | done | with_reducible rfl)
  try simp only [Act.put]
  try simp only [List.setIfInBounds_toArray, List.set_cons_zero, List.set_cons_succ]
  refine takeW 2 (some 10) (oi := ?oT3) (v := ?vT3) ?hiT3 ?hdT3 (by kernel_rfl) (by kernel_rfl) (by kernel_rfl) (fun _ _ _ h => h) ?hwT3 ?hyT3 hHeld ?_
  case hiT3 => (simp only [List.getElem?_toArray, List.getElem?_cons_succ, List.getElem?_cons_zero]; with_reducible rfl)
  case hdT3 => rfl
  case hwT3 => rfl
  case hyT3 => (intro w hSw; (try dsimp only at hSw); go_simp; first | done | with_reducible rfl)
  try simp only [Act.put]
  try simp only [List.setIfInBounds_toArray, List.set_cons_zero, List.set_cons_succ]
  refine takeW 3 (some 11) (oi := ?oT4) (v := ?vT4) ?hiT4 ?hdT4 (by kernel_rfl) (by kernel_rfl) (by kernel_rfl) (fun _ _ _ h => h) ?hwT4 ?hyT4 hHeld ?_
  case hiT4 => (simp only [List.getElem?_toArray, List.getElem?_cons_succ, List.getElem?_cons_zero]; with_reducible rfl)
  case hdT4 => rfl
  case hwT4 => rfl
  case hyT4 => (intro w hSw; (try dsimp only at hSw); go_simp; first | done | with_reducible rfl)
  try simp only [Act.put]
  try simp only [List.setIfInBounds_toArray, List.set_cons_zero, List.set_cons_succ]
  refine takeW 4 (some 12) (oi := ?oT5) (v := ?vT5) ?hiT5 ?hdT5 (by kernel_rfl) (by kernel_rfl) (by kernel_rfl) (fun _ _ _ h => h) ?hwT5 ?hyT5 hHeld ?_
  case hiT5 => (simp only [List.getElem?_toArray, List.getElem?_cons_succ, List.getElem?_cons_zero]; with_reducible rfl)
  case hdT5 => rfl
  case hwT5 => rfl
  case hyT5 => (intro w hSw; (try dsimp only at hSw); go_simp; first | done | with_reducible rfl)
  try simp only [Act.put]
  try simp only [List.setIfInBounds_toArray, List.set_cons_zero, List.set_cons_succ]
  refine takeW 5 (some 13) (oi := ?oT6) (v := ?vT6) ?hiT6 ?hdT6 (by kernel_rfl) (by kernel_rfl) (by kernel_rfl) (fun _ _ _ h => h) ?hwT6 ?hyT6 hHeld ?_
  case hiT6 => (simp only [List.getElem?_toArray, List.getElem?_cons_succ, List.getElem?_cons_zero]; with_reducible rfl)
  case hdT6 => rfl
  case hwT6 => rfl
  case hyT6 => (intro w hSw; (try dsimp only at hSw); go_simp; first | done | with_reducible rfl)
  try simp only [Act.put]
  try simp only [List.setIfInBounds_toArray, List.set_cons_zero, List.set_cons_succ]
  refine takeW 6 (some 14) (oi := ?oT7) (v := ?vT7) ?hiT7 ?hdT7 (by kernel_rfl) (by kernel_rfl) (by kernel_rfl) (fun _ _ _ h => h) ?hwT7 ?hyT7 hHeld ?_
  case hiT7 => (simp only [List.getElem?_toArray, List.getElem?_cons_succ, List.getElem?_cons_zero]; with_reducible rfl)
  case hdT7 => rfl
  case hwT7 => rfl
  case hyT7 => (intro w hSw; (try dsimp only at hSw); go_simp; first | done | with_reducible rfl)
  try simp only [Act.put]
  try simp only [List.setIfInBounds_toArray, List.set_cons_zero, List.set_cons_succ]
  refine takeW 7 (some 15) (oi := ?oT8) (v := ?vT8) ?hiT8 ?hdT8 (by kernel_rfl) (by kernel_rfl) (by kernel_rfl) (fun _ _ _ h => h) ?hwT8 ?hyT8 hHeld ?_
  case hiT8 => (simp only [List.getElem?_toArray, List.getElem?_cons_succ, List.getElem?_cons_zero]; with_reducible rfl)
  case hdT8 => rfl
  case hwT8 => rfl
  case hyT8 => (intro w hSw; (try dsimp only at hSw); go_simp; first | done | with_reducible rfl)
  try simp only [Act.put]
  try simp only [List.setIfInBounds_toArray, List.set_cons_zero, List.set_cons_succ]
  refine takeW 8 (some 16) (oi := ?oT9) (v := ?vT9) ?hiT9 ?hdT9 (by kernel_rfl) (by kernel_rfl) (by kernel_rfl) (fun _ _ _ h => h) ?hwT9 ?hyT9 hHeld ?_
  case hiT9 => (simp only [List.getElem?_toArray, List.getElem?_cons_succ, List.getElem?_cons_zero]; with_reducible rfl)
  case hdT9 => rfl
  case hwT9 => rfl
  case hyT9 => (intro w hSw; (try dsimp only at hSw); go_simp; first | done | with_reducible rfl)
  try simp only [Act.put]
  try simp only [List.setIfInBounds_toArray, List.set_cons_zero, List.set_cons_succ]
  refine takeW 9 (some 17) (oi := ?oT10) (v := ?vT10) ?hiT10 ?hdT10 (by kernel_rfl) (by kernel_rfl) (by kernel_rfl) (fun _ _ _ h => h) ?hwT10 ?hyT10 hHeld ?_
  case hiT10 => (simp only [List.getElem?_toArray, List.getElem?_cons_succ, List.getElem?_cons_zero]; with_reducible rfl)
  case hdT10 => rfl
  case hwT10 => rfl
  case hyT10 => (intro w hSw; (try dsimp only at hSw); go_simp; first | done | with_reducible rfl)
  try simp only [Act.put]
  try simp only [List.setIfInBounds_toArray, List.set_cons_zero, List.set_cons_succ]
  refine takeW 10 (some 18) (oi := ?oT11) (v := ?vT11) ?hiT11 ?hdT11 (by kernel_rfl) (by kernel_rfl) (by kernel_rfl) (fun _ _ _ h => h) ?hwT11 ?hyT11 hHeld ?_
  case hiT11 => (simp only [List.getElem?_toArray, List.getElem?_cons_succ, List.getElem?_cons_zero]; with_reducible rfl)
  case hdT11 => rfl
  case hwT11 => rfl
  case hyT11 => (intro w hSw; (try dsimp only at hSw); go_simp; first | done | with_reducible rfl)
  try simp only [Act.put]
  try simp only [List.setIfInBounds_toArray, List.set_cons_zero, List.set_cons_succ]
  refine takeW 11 (some 19) (oi := ?oT12) (v := ?vT12) ?hiT12 ?hdT12 (by kernel_rfl) (by kernel_rfl) (by kernel_rfl) (fun _ _ _ h => h) ?hwT12 ?hyT12 hHeld ?_
  case hiT12 => (simp only [List.getElem?_toArray, List.getElem?_cons_succ, List.getElem?_cons_zero]; with_reducible rfl)
  case hdT12 => rfl
  case hwT12 => rfl
  case hyT12 => (intro w hSw; (try dsimp only at hSw); go_simp; first | done | with_reducible rfl)
  try simp only [Act.put]
  try simp only [List.setIfInBounds_toArray, List.set_cons_zero, List.set_cons_succ]
  refine stepOne 12 (o := ?oT13) ?hiT13 (by kernel_rfl) ?hwT13 (fun K hK => ?_)
  case hiT13 => (simp only [List.getElem?_toArray, List.getElem?_cons_succ, List.getElem?_cons_zero]; with_reducible rfl)
  case hwT13 => rfl
  go_simp
  go_at_call 37
  refine (C1.out _).mono ?_
  rintro e w1 ⟨v1, rfl, ho1, hb1⟩
  have HB1 : Hid (Below w.heap.size w w1) := Lib.hid ((Below.refl w.heap.size w).drew.trans hb1)
  have HO1 := Lib.hid ho1.bytes
  clear ho1 hb1
  refine hK.out _ _ ?_ (fun hHeld => ?_)
  · exact HST.out _ (HK.out.under HB1.out)
  clear hK K
  try simp only [Act.put]
  try simp only [List.setIfInBounds_toArray, List.set_cons_zero, List.set_cons_succ]
  refine stepOne 13 (o := ?oT14) ?hiT14 (by kernel_rfl) ?hwT14 (fun K hK => ?_)
  case hiT14 => (simp only [List.getElem?_toArray, List.getElem?_cons_succ, List.getElem?_cons_zero]; with_reducible rfl)
  case hwT14 => rfl
  go_simp
  go_at_call 49
  refine (C2.out _ _ (HF.out.under HB1.out) HO1.out).mono ?_
  rintro e w2 ⟨rfl, hf2, hkp2⟩
  have HF2 := Lib.hid hf2
  have HKP2 := Lib.hid ((Kept.of_below HF.out HB1.out).trans hkp2)
  clear hf2 hkp2
  have HBK := Lib.hid (HKP2.out.blk HG.out HK.out)
  refine hK.out _ _ ?_ (fun hHeld => ?_)
  · exact HST.out _ (HBK.out)
  clear hK K
  try simp only [Act.put]
  try simp only [List.setIfInBounds_toArray, List.set_cons_zero, List.set_cons_succ]
  refine takeW 14 (some 7) (oi := ?oT15) (v := ?vT15) ?hiT15 ?hdT15 (by kernel_rfl) (by kernel_rfl) (by kernel_rfl) (fun _ _ _ h => h) ?hwT15 ?hyT15 hHeld ?_
  case hiT15 => (simp only [List.getElem?_toArray, List.getElem?_cons_succ, List.getElem?_cons_zero]; with_reducible rfl)
  case hdT15 => rfl
  case hwT15 => rfl
  case hyT15 => (intro w hSw; (try dsimp only at hSw); go_simp; first | done | with_reducible rfl)
  try simp only [Act.put]
  try simp only [List.setIfInBounds_toArray, List.set_cons_zero, List.set_cons_succ]
  refine takeW 15 (some 22) (oi := ?oT16) (v := ?vT16) ?hiT16 ?hdT16 (by kernel_rfl) (by kernel_rfl) (by kernel_rfl) (fun _ _ _ h => h) ?hwT16 ?hyT16 hHeld ?_
  case hiT16 => (simp only [List.getElem?_toArray, List.getElem?_cons_succ, List.getElem?_cons_zero]; with_reducible rfl)
  case hdT16 => rfl
  case hwT16 => rfl
  case hyT16 => (intro w hSw; (try dsimp only at hSw); go_simp; first | done | with_reducible rfl)
  try simp only [Act.put]
  try simp only [List.setIfInBounds_toArray, List.set_cons_zero, List.set_cons_succ]
  refine takeW 16 (some 23) (oi := ?oT17) (v := ?vT17) ?hiT17 ?hdT17 (by kernel_rfl) (by kernel_rfl) (by kernel_rfl) (fun _ _ _ h => h) ?hwT17 ?hyT17 hHeld ?_
  case hiT17 => (simp only [List.getElem?_toArray, List.getElem?_cons_succ, List.getElem?_cons_zero]; with_reducible rfl)
  case hdT17 => rfl
  case hwT17 => rfl
  case hyT17 => (intro w hSw; (try dsimp only at hSw); go_simp; first | done | with_reducible rfl)
  try simp only [Act.put]
  try simp only [List.setIfInBounds_toArray, List.set_cons_zero, List.set_cons_succ]
  refine takeW 17 (some 5) (oi := ?oT18) (v := ?vT18) ?hiT18 ?hdT18 (by kernel_rfl) (by kernel_rfl) (by kernel_rfl) (fun _ _ _ h => h) ?hwT18 ?hyT18 hHeld ?_
  case hiT18 => (simp only [List.getElem?_toArray, List.getElem?_cons_succ, List.getElem?_cons_zero]; with_reducible rfl)
  case hdT18 => rfl
  case hwT18 => rfl
  case hyT18 => (intro w hSw; (try dsimp only at hSw); go_simp; first | done | with_reducible rfl)
  try simp only [Act.put]
  try simp only [List.setIfInBounds_toArray, List.set_cons_zero, List.set_cons_succ]
  refine takeW 18 (some 6) (oi := ?oT19) (v := ?vT19) ?hiT19 ?hdT19 (by kernel_rfl) (by kernel_rfl) (by kernel_rfl) (fun _ _ _ h => h) ?hwT19 ?hyT19 hHeld ?_
  case hiT19 => (simp only [List.getElem?_toArray, List.getElem?_cons_succ, List.getElem?_cons_zero]; with_reducible rfl)
  case hdT19 => rfl
  case hwT19 => rfl
  case hyT19 => (intro w hSw; (try dsimp only at hSw); go_simp; first | done | with_reducible rfl)
  try simp only [Act.put]
  try simp only [List.setIfInBounds_toArray, List.set_cons_zero, List.set_cons_succ]
  refine wpAnyH_done (by kernel_rfl) ?_ _
  refine NoPanic.normal ?_
  skip
  have f1 := HBK.out.free 1
  have c1 := blk_cell HBK.out 1 rfl
  by_cases hz : n = 0
  · subst hz
    have HV2 := Lib.hid (HV.out.trans (if_pos rfl))
    have HX1 := Lib.hid (HF2.out.set HG.out HG0.out 1 (.int .i64 (n1 : Int)))
    have HX2 := Lib.hid (blk_put HBK.out 1 (.int .i64 (n1 : Int)) (l' := swC ⟨fl, (n1 : Int), ⟨a, b, c, d⟩, tp, nx, td⟩ [.int .i64 wh, .int .i64 ic, .int .i64 ls]) rfl)
    have HX3 := Lib.hid (HKP2.out.but.trans (Kept.set K w2 g 1 (.int .i64 (n1 : Int))))
    go_wp2
    go_ret
    exact TakeIs.of HV2.out rfl HX1.out HX2.out HX3.out
  · have hzI := nat_ne hz
    by_cases hz2 : n = 2
    · subst hz2
      have HV2 := Lib.hid (HV.out.trans ((if_neg hz).trans (if_pos rfl)))
      clear hz
      go_wp2
      go_ret
      exact TakeIs.of HV2.out rfl HF2.out HBK.out HKP2.out.but
    · have HV2 := Lib.hid (HV.out.trans ((if_neg hz).trans (if_neg hz2)))
      have hzI2 := nat_ne hz2
      clear hz hz2
      go_wp2
      go_ret
      exact TakeIs.of HV2.out rfl HF2.out HBK.out HKP2.out.but

set_option maxRecDepth 100000 in
set_option maxHeartbeats 8000000 in
theorem tkread_any {K : Nat → Prop} {w0 w : World} {p g : Nat} {s : S} (t : Tk) (now : Int) (h : Fk K w0 w p s) (hg : K g) (hg0 : w0.heap.size ≤ g) (hk : TkBlk w g t) (hf : Nice t.sw.file) (hu : used s.l ≤ 274877906944) :
    Calls Tryz.prog 33 #[.pointer (some ⟨g, 0, none⟩), .pointer (some ⟨p, 0, none⟩), .int .i64 now] w (TakeIs K w0 w p g (t.read s now)) := by
  obtain ⟨⟨fl, stp, ⟨a, b, c, d⟩, tp, nx, td⟩, wh, ic, ls⟩ := t
  have hk' : Blk w g 62 (swC ⟨fl, stp, ⟨a, b, c, d⟩, tp, nx, td⟩ [.int .i64 wh, .int .i64 ic, .int .i64 ls]).toArray := hk
  have HF := Lib.hid h
  have HG := Lib.hid hg
  have HG0 := Lib.hid hg0
  have HK := Lib.hid hk'
  have hrl : (Sf.read s fl).1.length ≤ 1099511627776 := by
    unfold Sf.read
    split
    · rcases hgg : Sf.get s.l fl with _ | x
      · simp
      · have := Sf.bytes_le h.fs.good.1 fl
        rw [Sf.bytes, hgg] at this
        simp at this
        simp
        omega
    · simp
  have C1 := Lib.hid (fs_read fl w0 w p s h.fs hf hu)
  have HV : Hid (Tk.read s ⟨⟨fl, stp, ⟨a, b, c, d⟩, tp, nx, td⟩, wh, ic, ls⟩ now = if (Sf.read s fl).2.2 = 4 then (s, ⟨⟨fl, stp, ⟨a, b, c, d⟩, tp, 1, td⟩, wh, ic, ls⟩, 0) else
    if what (Rc.openL (Sf.read s fl).1) wh ic now = 2 then (s, ⟨⟨fl, ((Sf.read s fl).2.1 : Int), loOf (Rc.openL (Sf.read s fl).1), tp, nx, td⟩, wh, ic, ls⟩, 1)
    else if what (Rc.openL (Sf.read s fl).1) wh ic now = 4 then (s, ⟨⟨fl, ((Sf.read s fl).2.1 : Int), loOf (Rc.openL (Sf.read s fl).1), tp, nx, td⟩, wh, ic, ls⟩, 2)
    else if what (Rc.openL (Sf.read s fl).1) wh ic now = 3 then (s, ⟨⟨fl, ((Sf.read s fl).2.1 : Int), { loOf (Rc.openL (Sf.read s fl).1) with c := (loOf (Rc.openL (Sf.read s fl).1)).c + 1 }, tp, 2, td⟩, wh, ic, ls⟩, 0)
    else (s, ⟨⟨fl, ((Sf.read s fl).2.1 : Int), loOf (Rc.openL (Sf.read s fl).1), tp, nx, td⟩, wh, ic, ls⟩, 3)) := Lib.hid rfl
  obtain ⟨L, hL⟩ : ∃ n, (Sf.read s fl).1 = n := ⟨_, rfl⟩
  obtain ⟨n1, hn1⟩ : ∃ n, (Sf.read s fl).2.1 = n := ⟨_, rfl⟩
  obtain ⟨n, hn⟩ : ∃ n, (Sf.read s fl).2.2 = n := ⟨_, rfl⟩
  rw [hL] at hrl
  rw [hL, hn1, hn] at HV C1
  have HRL := Lib.hid hrl
  have k0 := blk_cell (v := .string (str fl)) hk' 0 rfl
  have HKC : Hid (0 ≤ (loOf (Rc.openL L)).c ∧ (loOf (Rc.openL L)).c ≤ 1099511627776) := Lib.hid (loOf_c L)
  have CL : Hid (∀ W v, Bytes W v L → Calls Tryz.prog 30 #[v, .int .i64 wh, .int .i64 ic, .int .i64 now] W fun e w' => e = .returned (.tuple #[loV (loOf (Rc.openL L)), .int .i64 ((what (Rc.openL L) wh ic now : Nat) : Int)]) ∧ Below W.heap.size W w') := Lib.hid fun W v hb => look_any v L W hb HRL.out wh ic now
  obtain ⟨q, hq⟩ : ∃ q, what (Rc.openL L) wh ic now = q := ⟨_, rfl⟩
  obtain ⟨M, hM⟩ : ∃ M, loOf (Rc.openL L) = M := ⟨_, rfl⟩
  rw [hq, hM] at HV CL
  rw [hM] at HKC
  clear h hg hg0 hk hf hu hL hn1 hn hrl hq hM
  obtain ⟨ma, mb, mc, md⟩ := M
  have HST : Hid (∀ W, Blk W g 62 (swC ⟨fl, stp, ⟨a, b, c, d⟩, tp, nx, td⟩ [.int .i64 wh, .int .i64 ic, .int .i64 ls]).toArray → W.cell? ⟨g, 9, none⟩ = some (.int .i64 wh) ∧ W.cell? ⟨g, 10, none⟩ = some (.int .i64 ic)) := Lib.hid fun W h => ⟨blk_cell h 9 rfl, blk_cell h 10 rfl⟩
  go_enter Tryz.func33, Tryz.ntmps33
  go_wp2_with fail
  refine C1.out.mono ?_
  rintro e w1 ⟨v1, rfl, ho1, hb1⟩
  have HB1 := Lib.hid hb1
  have HO1 := Lib.hid ho1.bytes
  have HK1 := Lib.hid (HK.out.under hb1)
  clear ho1 hb1 k0
  by_cases hz : n = 4
  · subst hz
    have HV2 := Lib.hid (HV.out.trans (if_pos rfl))
    have c7 := blk_cell HK1.out 7 rfl
    have f7 := HK1.out.free 7
    have HF1 := Lib.hid (HF.out.under HB1.out)
    have HX1 := Lib.hid (HF1.out.set HG.out HG0.out 7 (.int .i64 1))
    have HX2 := Lib.hid (blk_put HK1.out 7 (.int .i64 1) (l' := swC ⟨fl, stp, ⟨a, b, c, d⟩, tp, 1, td⟩ [.int .i64 wh, .int .i64 ic, .int .i64 ls]) rfl)
    have HX3 := Lib.hid ((Kept.of_below HF.out HB1.out).but.trans (Kept.set K w1 g 7 (.int .i64 1)))
    go_wp2
    go_ret
    exact TakeIs.of HV2.out rfl HX1.out HX2.out HX3.out
  · have hzI := nat_ne hz
    have HV2 := Lib.hid (HV.out.trans (if_neg hz))
    clear hz HV
    obtain ⟨k9, k10⟩ := HST.out _ HK1.out
    go_upto_region 5 with fail
    have HB0 : Hid (Below w1.heap.size w1 (w1.drew.alloc (.cells #[.int .i64 0, .int .i64 0, .int .i64 0, .int .i64 0] 30))) := Lib.hid ((Below.refl w1.heap.size w1).drew.alloc (Nat.le_refl _) _)
    go_cut [10, 11] (fun s10 s11 wx => ∃ qb : Nat, s10 = .pointer (some ⟨qb, 0, none⟩) ∧ s11 = .int .i64 (q : Int) ∧ Hid (Blk wx qb 30 #[.int .i64 ma, .int .i64 mb, .int .i64 mc, .int .i64 md]) ∧ Hid (Below w1.heap.size w1 wx) ∧ Hid (w1.heap.size ≤ qb))
    case first =>
      refine wp_region_noPanic ?_
      refine wp_region_held_drew (S := fun w' => w'.cell? ⟨g, 9, none⟩ = some (.int .i64 wh) ∧ w'.cell? ⟨g, 10, none⟩ = some (.int .i64 ic)) (by kernel_rfl) (⟨k9, k10⟩) (fun hHeld => ?_)
      refine takeW 0 (some 31) (oi := ?oT20) (v := ?vT20) ?hiT20 ?hdT20 (by kernel_rfl) (by kernel_rfl) (by kernel_rfl) (fun _ _ _ h => h) ?hwT20 ?hyT20 hHeld ?_
      case hiT20 => (simp only [List.getElem?_toArray, List.getElem?_cons_zero]; with_reducible rfl)
      case hdT20 => rfl
      case hwT20 => rfl
      case hyT20 => (intro w hSw; (try dsimp only at hSw); go_simp; first | done | with_reducible rfl)
      try simp only [Act.put]
      try simp only [List.setIfInBounds_toArray, List.set_cons_zero, List.set_cons_succ]
      refine takeW 1 (some 32) (oi := ?oT21) (v := ?vT21) ?hiT21 ?hdT21 (by kernel_rfl) (by kernel_rfl) (by kernel_rfl) (fun _ _ _ h => h) ?hwT21 ?hyT21 hHeld ?_
      case hiT21 => (simp only [List.getElem?_toArray, List.getElem?_cons_succ, List.getElem?_cons_zero]; with_reducible rfl)
      case hdT21 => rfl
      case hwT21 => rfl
      case hyT21 => (intro w hSw; (try dsimp only at hSw); go_simp; first | done | with_reducible rfl)
      try simp only [Act.put]
      try simp only [List.setIfInBounds_toArray, List.set_cons_zero, List.set_cons_succ]
      refine takeW 2 (some 33) (oi := ?oT22) (v := ?vT22) ?hiT22 ?hdT22 (by kernel_rfl) (by kernel_rfl) (by kernel_rfl) (fun _ _ _ h => h) ?hwT22 ?hyT22 hHeld ?_
      case hiT22 => (simp only [List.getElem?_toArray, List.getElem?_cons_succ, List.getElem?_cons_zero]; with_reducible rfl)
      case hdT22 => rfl
      case hwT22 => rfl
      case hyT22 => (intro w hSw; (try dsimp only at hSw); go_simp; first | done | with_reducible rfl)
      try simp only [Act.put]
      try simp only [List.setIfInBounds_toArray, List.set_cons_zero, List.set_cons_succ]
      refine takeW 3 (some 34) (oi := ?oT23) (v := ?vT23) ?hiT23 ?hdT23 (by kernel_rfl) (by kernel_rfl) (by kernel_rfl) (fun _ _ _ h => h) ?hwT23 ?hyT23 hHeld ?_
      case hiT23 => (simp only [List.getElem?_toArray, List.getElem?_cons_succ, List.getElem?_cons_zero]; with_reducible rfl)
      case hdT23 => rfl
      case hwT23 => rfl
      case hyT23 => (intro w hSw; (try dsimp only at hSw); go_simp; first | done | with_reducible rfl)
      try simp only [Act.put]
      try simp only [List.setIfInBounds_toArray, List.set_cons_zero, List.set_cons_succ]
      refine takeW 4 (some 35) (oi := ?oT24) (v := ?vT24) ?hiT24 ?hdT24 (by kernel_rfl) (by kernel_rfl) (by kernel_rfl) (fun _ _ _ h => h) ?hwT24 ?hyT24 hHeld ?_
      case hiT24 => (simp only [List.getElem?_toArray, List.getElem?_cons_succ, List.getElem?_cons_zero]; with_reducible rfl)
      case hdT24 => rfl
      case hwT24 => rfl
      case hyT24 => (intro w hSw; (try dsimp only at hSw); go_simp; first | done | with_reducible rfl)
      try simp only [Act.put]
      try simp only [List.setIfInBounds_toArray, List.set_cons_zero, List.set_cons_succ]
      refine takeW 5 (some 36) (oi := ?oT25) (v := ?vT25) ?hiT25 ?hdT25 (by kernel_rfl) (by kernel_rfl) (by kernel_rfl) (fun _ _ _ h => h) ?hwT25 ?hyT25 hHeld ?_
      case hiT25 => (simp only [List.getElem?_toArray, List.getElem?_cons_succ, List.getElem?_cons_zero]; with_reducible rfl)
      case hdT25 => rfl
      case hwT25 => rfl
      case hyT25 => (intro w hSw; (try dsimp only at hSw); go_simp; first | done | with_reducible rfl)
      try simp only [Act.put]
      try simp only [List.setIfInBounds_toArray, List.set_cons_zero, List.set_cons_succ]
      refine takeW 6 (some 37) (oi := ?oT26) (v := ?vT26) ?hiT26 ?hdT26 (by kernel_rfl) (by kernel_rfl) (by kernel_rfl) (fun _ _ _ h => h) ?hwT26 ?hyT26 hHeld ?_
      case hiT26 => (simp only [List.getElem?_toArray, List.getElem?_cons_succ, List.getElem?_cons_zero]; with_reducible rfl)
      case hdT26 => rfl
      case hwT26 => rfl
      case hyT26 => (intro w hSw; (try dsimp only at hSw); go_simp; first | done | with_reducible rfl)
      try simp only [Act.put]
      try simp only [List.setIfInBounds_toArray, List.set_cons_zero, List.set_cons_succ]
      refine takeW 7 (some 38) (oi := ?oT27) (v := ?vT27) ?hiT27 ?hdT27 (by kernel_rfl) (by kernel_rfl) (by kernel_rfl) (fun _ _ _ h => h) ?hwT27 ?hyT27 hHeld ?_
      case hiT27 => (simp only [List.getElem?_toArray, List.getElem?_cons_succ, List.getElem?_cons_zero]; with_reducible rfl)
      case hdT27 => rfl
      case hwT27 => rfl
      case hyT27 => (intro w hSw; (try dsimp only at hSw); go_simp; first | done | with_reducible rfl)
      try simp only [Act.put]
      try simp only [List.setIfInBounds_toArray, List.set_cons_zero, List.set_cons_succ]
      refine takeW 8 (some 39) (oi := ?oT28) (v := ?vT28) ?hiT28 ?hdT28 (by kernel_rfl) (by kernel_rfl) (by kernel_rfl) (fun _ _ _ h => h) ?hwT28 ?hyT28 hHeld ?_
      case hiT28 => (simp only [List.getElem?_toArray, List.getElem?_cons_succ, List.getElem?_cons_zero]; with_reducible rfl)
      case hdT28 => rfl
      case hwT28 => rfl
      case hyT28 => (intro w hSw; (try dsimp only at hSw); go_simp; first | done | with_reducible rfl)
      try simp only [Act.put]
      try simp only [List.setIfInBounds_toArray, List.set_cons_zero, List.set_cons_succ]
      refine takeW 9 (some 40) (oi := ?oT29) (v := ?vT29) ?hiT29 ?hdT29 (by kernel_rfl) (by kernel_rfl) (by kernel_rfl) (fun _ _ _ h => h) ?hwT29 ?hyT29 hHeld ?_
      case hiT29 => (simp only [List.getElem?_toArray, List.getElem?_cons_succ, List.getElem?_cons_zero]; with_reducible rfl)
      case hdT29 => rfl
      case hwT29 => rfl
      case hyT29 => (intro w hSw; (try dsimp only at hSw); go_simp; first | done | with_reducible rfl)
      try simp only [Act.put]
      try simp only [List.setIfInBounds_toArray, List.set_cons_zero, List.set_cons_succ]
      refine wpAnyH_ready (rs := [10, 14]) (by kernel_rfl) (by simp) ?_
      refine stepOf 10 (o := ?oT30) ?hiT30 ?hwT30 (fun K hK => ?_) ?_
      case hiT30 => (simp only [List.getElem?_toArray, List.getElem?_cons_succ, List.getElem?_cons_zero]; with_reducible rfl)
      case hwT30 => rfl
      · skip
        go_simp
        go_at_call 30
        refine (CL.out w1.drew v1 (HO1.out.heap rfl)).mono ?_
        rintro e w2 ⟨rfl, hb2⟩
        have HB2 : Hid (Below w1.heap.size w1 w2) := Lib.hid ((Below.refl w1.heap.size w1).drew.trans (hb2.mono (Below.refl w1.heap.size w1).drew.size))
        clear hb2
        have HK2 := Lib.hid (HK1.out.under HB2.out)
        refine hK.out _ _ ?_ (fun hHeld => ?_)
        · exact HST.out _ HK2.out
        clear hK K
        try simp only [Act.put]
        try simp only [List.setIfInBounds_toArray, List.set_cons_zero, List.set_cons_succ]
        refine takeW 11 (some 30) (oi := ?oT31) (v := ?vT31) ?hiT31 ?hdT31 (by kernel_rfl) (by kernel_rfl) (by kernel_rfl) (fun _ _ _ h => h) ?hwT31 ?hyT31 hHeld ?_
        case hiT31 => (simp only [List.getElem?_toArray, List.getElem?_cons_succ, List.getElem?_cons_zero]; with_reducible rfl)
        case hdT31 => rfl
        case hwT31 => rfl
        case hyT31 => (intro w hSw; (try dsimp only at hSw); go_simp; first | done | with_reducible rfl)
        try simp only [Act.put]
        try simp only [List.setIfInBounds_toArray, List.set_cons_zero, List.set_cons_succ]
        refine takeW 12 (some 42) (oi := ?oT32) (v := ?vT32) ?hiT32 ?hdT32 (by kernel_rfl) (by kernel_rfl) (by kernel_rfl) (fun _ _ _ h => h) ?hwT32 ?hyT32 hHeld ?_
        case hiT32 => (simp only [List.getElem?_toArray, List.getElem?_cons_succ, List.getElem?_cons_zero]; with_reducible rfl)
        case hdT32 => rfl
        case hwT32 => rfl
        case hyT32 => (intro w hSw; (try dsimp only at hSw); go_simp; first | done | with_reducible rfl)
        try simp only [Act.put]
        try simp only [List.setIfInBounds_toArray, List.set_cons_zero, List.set_cons_succ]
        refine takeW 13 (some 43) (oi := ?oT33) (v := ?vT33) ?hiT33 ?hdT33 (by kernel_rfl) (by kernel_rfl) (by kernel_rfl) (fun _ _ _ h => h) ?hwT33 ?hyT33 hHeld ?_
        case hiT33 => (simp only [List.getElem?_toArray, List.getElem?_cons_succ, List.getElem?_cons_zero]; with_reducible rfl)
        case hdT33 => rfl
        case hwT33 => rfl
        case hyT33 => (intro w hSw; (try dsimp only at hSw); go_simp; first | done | with_reducible rfl)
        try simp only [Act.put]
        try simp only [List.setIfInBounds_toArray, List.set_cons_zero, List.set_cons_succ]
        refine stepOne 14 (o := ?oT34) ?hiT34 (by kernel_rfl) ?hwT34 (fun K hK => ?_)
        case hiT34 => (simp only [List.getElem?_toArray, List.getElem?_cons_succ, List.getElem?_cons_zero]; with_reducible rfl)
        case hwT34 => rfl
        go_simp
        refine hK.out _ _ ?_ (fun hHeld => ?_)
        · exact HST.out _ (HK2.out.alloc _)
        clear hK K
        try simp only [Act.put]
        try simp only [List.setIfInBounds_toArray, List.set_cons_zero, List.set_cons_succ]
        refine stepOne 15 (o := ?oT35) ?hiT35 (by kernel_rfl) ?hwT35 (fun K hK => ?_)
        case hiT35 => (simp only [List.getElem?_toArray, List.getElem?_cons_succ, List.getElem?_cons_zero]; with_reducible rfl)
        case hwT35 => rfl
        go_simp
        refine hK.out _ _ ?_ (fun hHeld => ?_)
        · exact HST.out _ (HK2.out.alloc _)
        clear hK K
        try simp only [Act.put]
        try simp only [List.setIfInBounds_toArray, List.set_cons_zero, List.set_cons_succ]
        refine takeW 16 (some 11) (oi := ?oT36) (v := ?vT36) ?hiT36 ?hdT36 (by kernel_rfl) (by kernel_rfl) (by kernel_rfl) (fun _ _ _ h => h) ?hwT36 ?hyT36 hHeld ?_
        case hiT36 => (simp only [List.getElem?_toArray, List.getElem?_cons_succ, List.getElem?_cons_zero]; with_reducible rfl)
        case hdT36 => rfl
        case hwT36 => rfl
        case hyT36 => (intro w hSw; (try dsimp only at hSw); go_simp; first | done | with_reducible rfl)
        try simp only [Act.put]
        try simp only [List.setIfInBounds_toArray, List.set_cons_zero, List.set_cons_succ]
        refine wpAnyH_done (by kernel_rfl) ?_ _
        refine NoPanic.normal ?_
        go_wp2_with fail
        go_meet
        exact ⟨_, rfl, rfl, Lib.hid (heap_alloc_new w2 _), Lib.hid (HB2.out.alloc HB2.out.size _), Lib.hid HB2.out.size⟩
      refine stepOf 14 (o := ?oT37) ?hiT37 ?hwT37 (fun K hK => ?_) AllReadyH.nil
      case hiT37 => (simp only [List.getElem?_toArray, List.getElem?_cons_succ, List.getElem?_cons_zero]; with_reducible rfl)
      case hwT37 => rfl
      go_simp
      refine hK.out _ _ ?_ (fun hHeld => ?_)
      · exact HST.out _ (HK1.out.under HB0.out)
      clear hK K
      try simp only [Act.put]
      try simp only [List.setIfInBounds_toArray, List.set_cons_zero, List.set_cons_succ]
      refine stepOne 10 (o := ?oT38) ?hiT38 (by kernel_rfl) ?hwT38 (fun K hK => ?_)
      case hiT38 => (simp only [List.getElem?_toArray, List.getElem?_cons_succ, List.getElem?_cons_zero]; with_reducible rfl)
      case hwT38 => rfl
      go_simp
      go_at_call 30
      refine (CL.out (w1.drew.alloc (.cells #[.int .i64 0, .int .i64 0, .int .i64 0, .int .i64 0] 30)) v1 (HO1.out.under HB0.out)).mono ?_
      rintro e w2 ⟨rfl, hb2⟩
      have HB2 : Hid (Below w1.heap.size w1 w2) := Lib.hid (HB0.out.trans (hb2.mono HB0.out.size))
      have HX : Hid (Blk w2 w1.heap.size 30 #[.int .i64 0, .int .i64 0, .int .i64 0, .int .i64 0]) := Lib.hid (Blk.under (w := w1.drew.alloc (.cells #[.int .i64 0, .int .i64 0, .int .i64 0, .int .i64 0] 30)) (heap_alloc_new w1.drew _) hb2)
      have c0 := HX.out.at 0
      have c1 := HX.out.at 1
      have c2 := HX.out.at 2
      have c3 := HX.out.at 3
      have f0 := HX.out.free 0
      have f1 := HX.out.free 1
      have f2 := HX.out.free 2
      have f3 := HX.out.free 3
      clear hb2
      have HK2 := Lib.hid (HK1.out.under HB2.out)
      refine hK.out _ _ ?_ (fun hHeld => ?_)
      · exact HST.out _ HK2.out
      clear hK K
      try simp only [Act.put]
      try simp only [List.setIfInBounds_toArray, List.set_cons_zero, List.set_cons_succ]
      refine takeW 11 (some 30) (oi := ?oT39) (v := ?vT39) ?hiT39 ?hdT39 (by kernel_rfl) (by kernel_rfl) (by kernel_rfl) (fun _ _ _ h => h) ?hwT39 ?hyT39 hHeld ?_
      case hiT39 => (simp only [List.getElem?_toArray, List.getElem?_cons_succ, List.getElem?_cons_zero]; with_reducible rfl)
      case hdT39 => rfl
      case hwT39 => rfl
      case hyT39 => (intro w hSw; (try dsimp only at hSw); go_simp; first | done | with_reducible rfl)
      try simp only [Act.put]
      try simp only [List.setIfInBounds_toArray, List.set_cons_zero, List.set_cons_succ]
      refine takeW 12 (some 42) (oi := ?oT40) (v := ?vT40) ?hiT40 ?hdT40 (by kernel_rfl) (by kernel_rfl) (by kernel_rfl) (fun _ _ _ h => h) ?hwT40 ?hyT40 hHeld ?_
      case hiT40 => (simp only [List.getElem?_toArray, List.getElem?_cons_succ, List.getElem?_cons_zero]; with_reducible rfl)
      case hdT40 => rfl
      case hwT40 => rfl
      case hyT40 => (intro w hSw; (try dsimp only at hSw); go_simp; first | done | with_reducible rfl)
      try simp only [Act.put]
      try simp only [List.setIfInBounds_toArray, List.set_cons_zero, List.set_cons_succ]
      refine takeW 13 (some 43) (oi := ?oT41) (v := ?vT41) ?hiT41 ?hdT41 (by kernel_rfl) (by kernel_rfl) (by kernel_rfl) (fun _ _ _ h => h) ?hwT41 ?hyT41 hHeld ?_
      case hiT41 => (simp only [List.getElem?_toArray, List.getElem?_cons_succ, List.getElem?_cons_zero]; with_reducible rfl)
      case hdT41 => rfl
      case hwT41 => rfl
      case hyT41 => (intro w hSw; (try dsimp only at hSw); go_simp; first | done | with_reducible rfl)
      try simp only [Act.put]
      try simp only [List.setIfInBounds_toArray, List.set_cons_zero, List.set_cons_succ]
      refine stepOne 15 (o := ?oT42) ?hiT42 (by kernel_rfl) ?hwT42 (fun K hK => ?_)
      case hiT42 => (simp only [List.getElem?_toArray, List.getElem?_cons_succ, List.getElem?_cons_zero]; with_reducible rfl)
      case hwT42 => rfl
      go_simp
      refine hK.out _ _ ?_ (fun hHeld => ?_)
      · exact HST.out _ ((((HK2.out.setOther (p := ⟨w1.heap.size, 0, none⟩) (Nat.ne_of_lt HK1.out.size) _).setOther (p := ⟨w1.heap.size, 1, none⟩) (Nat.ne_of_lt HK1.out.size) _).setOther (p := ⟨w1.heap.size, 2, none⟩) (Nat.ne_of_lt HK1.out.size) _).setOther (p := ⟨w1.heap.size, 3, none⟩) (Nat.ne_of_lt HK1.out.size) _)
      clear hK K
      try simp only [Act.put]
      try simp only [List.setIfInBounds_toArray, List.set_cons_zero, List.set_cons_succ]
      refine takeW 16 (some 11) (oi := ?oT43) (v := ?vT43) ?hiT43 ?hdT43 (by kernel_rfl) (by kernel_rfl) (by kernel_rfl) (fun _ _ _ h => h) ?hwT43 ?hyT43 hHeld ?_
      case hiT43 => (simp only [List.getElem?_toArray, List.getElem?_cons_succ, List.getElem?_cons_zero]; with_reducible rfl)
      case hdT43 => rfl
      case hwT43 => rfl
      case hyT43 => (intro w hSw; (try dsimp only at hSw); go_simp; first | done | with_reducible rfl)
      try simp only [Act.put]
      try simp only [List.setIfInBounds_toArray, List.set_cons_zero, List.set_cons_succ]
      refine wpAnyH_done (by kernel_rfl) ?_ _
      refine NoPanic.normal ?_
      have e1 := bput HB2.out HB2.out.size (g := w1.heap.size) (Nat.le_refl _) 0 (.int .i64 ma)
      have e2 := bput e1 e1.size (g := w1.heap.size) (Nat.le_refl _) 1 (.int .i64 mb)
      have e3 := bput e2 e2.size (g := w1.heap.size) (Nat.le_refl _) 2 (.int .i64 mc)
      have e4 := Lib.hid (bput e3 e3.size (g := w1.heap.size) (Nat.le_refl _) 3 (.int .i64 md))
      clear e1 e2 e3
      go_wp2_with fail
      go_meet
      exact ⟨_, rfl, rfl, Lib.hid ((((HX.out.set 0 _).set 1 _).set 2 _).set 3 _), e4, Lib.hid (Nat.le_refl _)⟩
    case rest =>
      obtain ⟨qb, rfl, rfl, HBX, HBW, HQB⟩ := hcut
      have HK3 := Lib.hid (HK1.out.under HBW.out)
      have x0 := HBX.out.at 0
      have x1 := HBX.out.at 1
      have x2 := HBX.out.at 2
      have x3 := HBX.out.at 3
      have y1 := blk_cell HK3.out 1 rfl
      have y2 := blk_cell HK3.out 2 rfl
      have y3 := blk_cell HK3.out 3 rfl
      have y4 := blk_cell HK3.out 4 rfl
      have y5 := blk_cell HK3.out 5 rfl
      have f1 := HK3.out.free 1
      have f2 := HK3.out.free 2
      have f3 := HK3.out.free 3
      have f4 := HK3.out.free 4
      have f5 := HK3.out.free 5
      have n1' : qb ≠ g := by have h1 : g < w1.heap.size := HK1.out.size; have h2 := HQB.out; omega
      have n2' : g ≠ qb := fun h => n1' h.symm
      have HF3 := Lib.hid (HF.out.under (HB1.out.trans (HBW.out.mono HB1.out.size)))
      have HX1 := Lib.hid (((((HF3.out.set HG.out HG0.out 1 (.int .i64 (n1 : Int))).set HG.out HG0.out 2 (.int .i64 ma)).set HG.out HG0.out 3 (.int .i64 mb)).set HG.out HG0.out 4 (.int .i64 mc)).set HG.out HG0.out 5 (.int .i64 md))
      have HX2 := Lib.hid (blk_put (blk_put (blk_put (blk_put (blk_put HK3.out 1 (.int .i64 (n1 : Int)) rfl) 2 (.int .i64 ma) rfl) 3 (.int .i64 mb) rfl) 4 (.int .i64 mc) rfl) 5 (.int .i64 md) (l' := swC ⟨fl, (n1 : Int), ⟨ma, mb, mc, md⟩, tp, nx, td⟩ [.int .i64 wh, .int .i64 ic, .int .i64 ls]) rfl)
      have HX3 := Lib.hid ((((((Kept.of_below HF.out (HB1.out.trans (HBW.out.mono HB1.out.size))).but.trans (Kept.set K wc g 1 (.int .i64 (n1 : Int)))).trans (Kept.set K _ g 2 (.int .i64 ma))).trans (Kept.set K _ g 3 (.int .i64 mb))).trans (Kept.set K _ g 4 (.int .i64 mc))).trans (Kept.set K _ g 5 (.int .i64 md)))
      go_upto_region 6 with fail
      go_region
      clear x0 x1 x2 x3 y1 y2 y3 y4 y5 f1 f2 f3 f4 f5
      obtain ⟨w6, hw6⟩ : ∃ w6, ((((wc.setCell ⟨g, 1, none⟩ (.int .i64 (n1 : Int))).setCell ⟨g, 2, none⟩ (.int .i64 ma)).setCell ⟨g, 3, none⟩ (.int .i64 mb)).setCell ⟨g, 4, none⟩ (.int .i64 mc)).setCell ⟨g, 5, none⟩ (.int .i64 md) = w6 := ⟨_, rfl⟩
      rw [hw6] at HX1 HX2 HX3 ⊢
      clear hw6
      have HX1' := Lib.hid (HX1.out.under (Below.refl _ w6).drew)
      have HX2' := Lib.hid (HX2.out.heap (W := w6.drew) rfl)
      have HX3' : Hid (Kept (fun k => K k ∧ k ≠ g) w w6.drew) := Lib.hid HX3.out
      obtain ⟨w7, hw7⟩ : ∃ w7, w6.drew = w7 := ⟨_, rfl⟩
      rw [hw7] at HX1' HX2' HX3' ⊢
      clear hw7 HX1 HX2 HX3
      by_cases q2 : q = 2
      · subst q2
        have HV3 := Lib.hid (HV2.out.trans (if_pos rfl))
        go_wp2
        go_ret
        exact TakeIs.of HV3.out rfl HX1'.out HX2'.out HX3'.out
      · have q2I := nat_ne q2
        by_cases q4 : q = 4
        · subst q4
          have HV3 := Lib.hid (HV2.out.trans ((if_neg q2).trans (if_pos rfl)))
          clear q2
          go_wp2
          go_ret
          exact TakeIs.of HV3.out rfl HX1'.out HX2'.out HX3'.out
        · have q4I := nat_ne q4
          by_cases q3 : q = 3
          · subst q3
            have HV3 := Lib.hid (HV2.out.trans ((if_neg q2).trans ((if_neg q4).trans (if_pos rfl))))
            have k4 := blk_cell HX2'.out 4 rfl
            have k7 := blk_cell HX2'.out 7 rfl
            have f4 := HX2'.out.free 4
            have f7 := HX2'.out.free 7
            obtain ⟨me, hme⟩ : ∃ z, mc + 1 = z := ⟨_, rfl⟩
            have hsum : IntKind.i64.wrap (mc + 1) = me := by
              have := HKC.out
              rw [← hme]
              exact IntWalk.i64_in _ (by omega)
            rw [hme] at HV3
            have HY1 := Lib.hid ((HX1'.out.set HG.out HG0.out 4 (.int .i64 me)).set HG.out HG0.out 7 (.int .i64 2))
            have HY2 := Lib.hid (blk_put (blk_put HX2'.out 4 (.int .i64 me) rfl) 7 (.int .i64 2) (l' := swC ⟨fl, (n1 : Int), ⟨ma, mb, me, md⟩, tp, 2, td⟩ [.int .i64 wh, .int .i64 ic, .int .i64 ls]) rfl)
            have HY3 := Lib.hid ((HX3'.out.trans (Kept.set K w7 g 4 (.int .i64 me))).trans (Kept.set K _ g 7 (.int .i64 2)))
            clear q2 q4 hme
            go_wp2
            go_ret
            exact TakeIs.of HV3.out rfl HY1.out HY2.out HY3.out
          · have q3I := nat_ne q3
            have HV3 := Lib.hid (HV2.out.trans ((if_neg q2).trans ((if_neg q4).trans (if_neg q3))))
            clear q2 q4 q3
            go_wp2
            go_ret
            exact TakeIs.of HV3.out rfl HX1'.out HX2'.out HX3'.out
end Go.Proofs.YtfheaognfocofaaGreatDoor

/- Package lock: the steps of a Take, and of a Write. -/
namespace Go.Proofs.YtfheaognfocofaaGreatDoor
set_option maxRecDepth 100000
open Go.ChangeShapes Go.WideShapes Go.ChangeAt Go.RowKit Go.ChangeMaps
open Sf Lk

set_option maxRecDepth 100000 in
set_option maxHeartbeats 4000000 in
theorem tkdo_any {K : Nat → Prop} {w0 w : World} {p g : Nat} {s : S} (t : Tk) (now : Int) (h : Fk K w0 w p s) (hg : K g) (hg0 : w0.heap.size ≤ g) (hk : TkBlk w g t) (hf : Nice t.sw.file) (ht : Nice t.sw.temp) (hnx : s.next ≤ 1073741824) (hu : used s.l + 34 ≤ 274877906944) (h1 : 0 ≤ now ∧ now ≤ 549755813888) (h2 : 0 ≤ t.lease ∧ t.lease ≤ 1000000) :
    Calls Tryz.prog 19 #[.pointer (some ⟨g, 0, none⟩), .pointer (some ⟨p, 0, none⟩), .int .i64 now] w (TakeIs K w0 w p g (t.doo s now)) := by
  have HF := Lib.hid h
  have HG := Lib.hid hg
  have HG0 := Lib.hid hg0
  have HK := Lib.hid hk
  have C0 := Lib.hid (tkread_any t now h hg hg0 hk hf (by omega))
  have C1 := Lib.hid (tkown_any t 1 now h hg hg0 hk h1 h2)
  have C2 := Lib.hid (tkown_any t t.sw.lock.c now h hg hg0 hk h1 h2)
  have CM : Hid (∀ W, Fk K w0 W p s → TkBlk W g (t.own 1 now) → Calls Tryz.prog 35 #[.pointer (some ⟨g, 0, none⟩), .pointer (some ⟨p, 0, none⟩)] W (TakeIs K w0 W p g ((t.own 1 now).make s))) := Lib.hid fun W a b => tkmake_any _ a hg hg0 b hf hnx hu
  have CD : Hid (∀ W u, Fk K w0 W p s → TkBlk W g u → u.sw.file = t.sw.file → u.sw.temp = t.sw.temp → Calls Tryz.prog 27 #[.pointer (some ⟨g, 0, none⟩), .pointer (some ⟨p, 0, none⟩)] W (TakeIs K w0 W p g (lift u (u.sw.doo s)))) := Lib.hid fun W u a b e1 e2 => swdo_any _ u.sw (tkR u) a hg hg0 b (by rw [e1]; exact hf) (by rw [e2]; exact ht) hnx hu
  have HV : Hid (t.doo s now = if t.sw.next = 0 then t.read s now else if t.sw.next = 1 then (t.own 1 now).make s else if t.sw.next = 2 then lift (t.own t.sw.lock.c now) ((t.own t.sw.lock.c now).sw.doo s) else lift t (t.sw.doo s)) := Lib.hid rfl
  have k7 := blk_cell (v := .int .i64 (t.sw.next : Int)) hk 7 rfl
  have k4 := blk_cell (v := .int .i64 t.sw.lock.c) hk 4 rfl
  obtain ⟨n, hn⟩ : ∃ n, t.sw.next = n := ⟨_, rfl⟩
  rw [hn] at k7 HV
  obtain ⟨c, hc⟩ : ∃ c, t.sw.lock.c = c := ⟨_, rfl⟩
  rw [hc] at k4 HV C2
  clear h hg hg0 hk hf ht hnx hu h1 h2 hn hc
  go_enter Tryz.func19, Tryz.ntmps19
  by_cases q0 : n = 0
  · subst q0
    have HV2 := HV.out.trans (if_pos rfl)
    rw [HV2]
    clear HV HV2
    go_wp2_with fail
    refine C0.out.mono ?_
    rintro e w1 ⟨rfl, hh⟩
    have H := Lib.hid hh
    clear hh
    go_wp2
    go_ret
    exact ⟨rfl, H.out⟩
  · have q0I := nat_ne q0
    by_cases q1 : n = 1
    · subst q1
      have HV2 := HV.out.trans ((if_neg q0).trans (if_pos rfl))
      rw [HV2]
      clear HV HV2 q0
      go_wp2_with fail
      refine C1.out.mono ?_
      rintro e w1 ⟨rfl, hf1, hb1, hk1⟩
      have H1 := Lib.hid hf1
      have H2 := Lib.hid hb1
      have H3 := Lib.hid hk1
      clear hf1 hb1 hk1
      go_wp2_with fail
      refine (CM.out _ H1.out H2.out).mono ?_
      rintro e w2 ⟨rfl, hf2, hb2, hk2⟩
      have J := Lib.hid (And.intro hf2 (And.intro hb2 (H3.out.trans hk2)))
      clear hf2 hb2 hk2
      go_wp2
      go_ret
      exact ⟨rfl, J.out⟩
    · have q1I := nat_ne q1
      by_cases q2 : n = 2
      · subst q2
        have HV2 := HV.out.trans ((if_neg q0).trans ((if_neg q1).trans (if_pos rfl)))
        rw [HV2]
        clear HV HV2 q0 q1
        go_wp2_with fail
        refine C2.out.mono ?_
        rintro e w1 ⟨rfl, hf1, hb1, hk1⟩
        have H1 := Lib.hid hf1
        have H2 := Lib.hid hb1
        have H3 := Lib.hid hk1
        clear hf1 hb1 hk1
        go_wp2_with fail
        refine (CD.out _ _ H1.out H2.out rfl rfl).mono ?_
        rintro e w2 ⟨rfl, hf2, hb2, hk2⟩
        have J := Lib.hid (And.intro hf2 (And.intro hb2 (H3.out.trans hk2)))
        clear hf2 hb2 hk2
        go_wp2
        go_ret
        exact ⟨rfl, J.out⟩
      · have q2I := nat_ne q2
        have HV2 := HV.out.trans ((if_neg q0).trans ((if_neg q1).trans (if_neg q2)))
        rw [HV2]
        clear HV HV2 q0 q1 q2
        go_wp2_with fail
        refine (CD.out _ _ HF.out HK.out rfl rfl).mono ?_
        rintro e w2 ⟨rfl, hf2, hb2, hk2⟩
        have J := Lib.hid (And.intro hf2 (And.intro hb2 hk2))
        clear hf2 hb2 hk2
        go_wp2
        go_ret
        exact ⟨rfl, J.out⟩

set_option maxRecDepth 100000 in
set_option maxHeartbeats 4000000 in
theorem tkstep_any {K : Nat → Prop} {w0 w : World} {p g : Nat} {s : S} (t : Tk) (now : Int) (h : Fk K w0 w p s) (hg : K g) (hg0 : w0.heap.size ≤ g) (hk : TkBlk w g t) (hf : Nice t.sw.file) (ht : Nice t.sw.temp) (hnx : s.next ≤ 1073741824) (hu : used s.l + 34 ≤ 274877906944) (h2 : 0 ≤ t.lease ∧ t.lease ≤ 1000000) :
    Calls Tryz.prog 9 #[.pointer (some ⟨g, 0, none⟩), .pointer (some ⟨p, 0, none⟩), .int .i64 now] w (TakeIs K w0 w p g (t.step s now)) := by
  have HF := Lib.hid h
  have HG := Lib.hid hg
  have HG0 := Lib.hid hg0
  have HK := Lib.hid hk
  obtain ⟨m, hm⟩ : ∃ m, clock now = m := ⟨_, rfl⟩
  obtain ⟨M1, hM1⟩ : ∃ M, max now 0 = M := ⟨_, rfl⟩
  have x1 := fun (W : World) ts t => run_top2 (P := Tryz.prog) W ts t now 0 M1 hM1
  have y1 := fun (W : World) ts t => run_low2 (P := Tryz.prog) W ts t M1 549755813888 m (by rw [← hm, ← hM1]; rfl)
  have hmb : 0 ≤ m ∧ m ≤ 549755813888 := by rw [← hm]; unfold clock; omega
  have C0 := Lib.hid (tkdo_any t m h hg hg0 hk hf ht hnx hu hmb h2)
  have HV : Hid (t.step s now = if t.sw.told = 0 then ((t.doo s m).1, { (t.doo s m).2.1 with sw := { (t.doo s m).2.1.sw with told := (t.doo s m).2.2 } }, (t.doo s m).2.2) else (s, t, t.sw.told)) := Lib.hid (by rw [← hm]; rfl)
  have k8 := blk_cell (v := .int .i64 (t.sw.told : Int)) hk 8 rfl
  obtain ⟨n, hn⟩ : ∃ n, t.sw.told = n := ⟨_, rfl⟩
  rw [hn] at k8 HV
  obtain ⟨R, hR⟩ : ∃ R, t.doo s m = R := ⟨_, rfl⟩
  rw [hR] at C0 HV
  clear h hg hg0 hk hf ht hnx hu h2 hn hm hM1 hmb hR
  obtain ⟨s1, ⟨⟨fl, stp, ⟨a, b, c, d⟩, tp, nx, td⟩, wh, ic, ls⟩, k⟩ := R
  go_enter Tryz.func9, Tryz.ntmps9
  by_cases q0 : n = 0
  · subst q0
    have HV2 := HV.out.trans (if_pos rfl)
    rw [HV2]
    clear HV HV2
    go_wp2_with fail
    refine C0.out.mono ?_
    rintro e w1 ⟨rfl, hf1, hb1, hk1⟩
    have H1 := Lib.hid hf1
    have H2 := Lib.hid hb1
    have H3 := Lib.hid hk1
    have c8 := blk_cell (l := tkC _) hb1 8 rfl
    have f8 := Blk.free hb1 8
    have X1 := Lib.hid (hf1.set HG.out HG0.out 8 (.int .i64 (k : Int)))
    have X2 : Hid (TkBlk (w1.setCell ⟨g, 8, none⟩ (.int .i64 (k : Int))) g ⟨⟨fl, stp, ⟨a, b, c, d⟩, tp, nx, k⟩, wh, ic, ls⟩) := Lib.hid (blk_put hb1 8 (.int .i64 (k : Int)) rfl)
    have X3 := Lib.hid (hk1.trans (Kept.set K w1 g 8 (.int .i64 (k : Int))))
    have z8 := blk_cell (v := .int .i64 (k : Int)) X2.out 8 rfl
    clear hf1 hb1 hk1
    go_wp2
    go_ret
    exact ⟨rfl, X1.out, X2.out, X3.out⟩
  · have q0I := nat_ne q0
    have HV2 := HV.out.trans (if_neg q0)
    rw [HV2]
    clear HV HV2 q0
    go_wp2
    go_ret
    exact ⟨rfl, HF.out, HK.out, Kept.refl _ _⟩
end Go.Proofs.YtfheaognfocofaaGreatDoor

/- Package lock: Takes and Writes as they are begun, and what is told as held. -/
namespace Go.Proofs.YtfheaognfocofaaGreatDoor
set_option maxRecDepth 100000
open Go.ChangeShapes Go.WideShapes Go.ChangeAt Go.RowKit Go.ChangeMaps
open Sf Lk

theorem nice_temp (a b c : Nat) (ha : a ≤ 999) (hb : b ≤ 99999) (hc : c ≤ 99999) : Nice (Nm.temp a b c) := by
  have l1 := Nm.dec_len (k := 5) (n := a) (by omega) (by omega)
  have l2 := Nm.dec_len (k := 5) (n := b) (by omega) (by omega)
  have l3 := Nm.dec_len (k := 5) (n := c) (by omega) (by omega)
  have d : ∀ n, ∀ x ∈ Nm.dec n, x < 256 := fun n x hx => by have := Nm.dec_byte n x hx; omega
  refine ⟨fun x hx => ?_, by simp only [Nm.temp, List.length_append, List.length_cons, List.length_nil]; omega⟩
  unfold Nm.temp at hx
  rcases List.mem_append.1 hx with hx | h
  · rcases List.mem_append.1 hx with hx | h
    · rcases List.mem_append.1 hx with hx | h
      · rcases List.mem_append.1 hx with hx | h
        · rcases List.mem_append.1 hx with hx | h
          · simp at hx
            omega
          · exact d _ _ h
        · simp at h
          omega
      · exact d _ _ h
    · simp at h
      omega
  · exact d _ _ h

set_option maxRecDepth 100000 in
set_option maxHeartbeats 4000000 in
theorem tknew_any (fl : List Nat) (who inc temp lease : Int) (w : World) (hT : Pow w) :
    Calls Tryz.prog 5 #[.string (str fl), .int .i64 who, .int .i64 inc, .int .i64 temp, .int .i64 lease] w fun e w' => ∃ g, e = .returned (.pointer (some ⟨g, 0, none⟩)) ∧ w.heap.size ≤ g ∧ TkBlk w' g (Lk.begin fl who inc temp lease) ∧ Below w.heap.size w w' := by
  obtain ⟨T, hTT⟩ : ∃ T, Nm.temp (Nm.held who 999) (Nm.held inc 99999) (Nm.held temp 99999) = T := ⟨_, rfl⟩
  obtain ⟨M1, hM1⟩ : ∃ M, max lease 0 = M := ⟨_, rfl⟩
  obtain ⟨M2, hM2⟩ : ∃ M, min M1 1000000 = M := ⟨_, rfl⟩
  have x1 := fun (W : World) ts t => run_top2 (P := Tryz.prog) W ts t lease 0 M1 hM1
  have y1 := fun (W : World) ts t => run_low2 (P := Tryz.prog) W ts t M1 1000000 M2 hM2
  have C := Lib.hid (ptemp_any who inc temp w hT)
  have HV : Hid (Lk.begin fl who inc temp lease = ⟨⟨fl, 0, lo0, T, 0, 0⟩, who, inc, M2⟩) := Lib.hid (by rw [← hM2, ← hM1, ← hTT]; rfl)
  rw [hTT] at C
  clear hTT hM1 hM2 hT
  go_enter Tryz.func5, Tryz.ntmps5
  go_wp2_with fail
  refine C.out.mono ?_
  rintro e w1 ⟨rfl, hb1⟩
  have HB1 := Lib.hid hb1
  clear hb1
  go_wp2
  go_ret
  refine ⟨_, rfl, HB1.out.size, ?_, HB1.out.alloc HB1.out.size _⟩
  rw [HV.out]
  exact heap_alloc_new w1 _
/-- What a call that hands a lock and its guard on leaves behind. -/
theorem three_cells {w w1 : World} {a b c d k : Int} {fl : List Nat} (hb : Below ((w.alloc (.cells #[.string ⟨#[]⟩, .int .i64 0] 28)).alloc (.cells #[.int .i64 0, .int .i64 0, .int .i64 0, .int .i64 0] 30)).heap.size ((w.alloc (.cells #[.string ⟨#[]⟩, .int .i64 0] 28)).alloc (.cells #[.int .i64 0, .int .i64 0, .int .i64 0, .int .i64 0] 30)) w1) (w6 : World)
    (hw : (((((w1.setCell ⟨w.heap.size, 0, none⟩ (.string (str fl))).setCell ⟨w.heap.size, 1, none⟩ (.int .i64 k)).setCell ⟨w.heap.size + 1, 0, none⟩ (.int .i64 a)).setCell ⟨w.heap.size + 1, 1, none⟩ (.int .i64 b)).setCell ⟨w.heap.size + 1, 2, none⟩ (.int .i64 c)).setCell ⟨w.heap.size + 1, 3, none⟩ (.int .i64 d) = w6) :
    Blk w6 w.heap.size 28 #[.string (str fl), .int .i64 k] ∧ Blk w6 (w.heap.size + 1) 30 #[.int .i64 a, .int .i64 b, .int .i64 c, .int .i64 d] ∧ Below w.heap.size w w6 := by
  have h2 : Blk w1 w.heap.size 28 #[.string ⟨#[]⟩, .int .i64 0] := Blk.under (Blk.alloc (heap_alloc_new w _) _) hb
  have h3 : Blk w1 (w.heap.size + 1) 30 #[.int .i64 0, .int .i64 0, .int .i64 0, .int .i64 0] := Blk.under (heap_alloc_new' _ _ (by simp)) hb
  have hB : Below w.heap.size w w1 := (((Below.refl w.heap.size w).alloc (Nat.le_refl _) _).alloc (by simp) _).trans (hb.mono (by simp; omega))
  have n1 : w.heap.size ≠ w.heap.size + 1 := by omega
  have n2 : w.heap.size + 1 ≠ w.heap.size := by omega
  have e1 := bput hB hB.size (g := w.heap.size) (by omega) 0 (.string (str fl))
  have e2 := bput e1 e1.size (g := w.heap.size) (by omega) 1 (.int .i64 k)
  have e3 := bput e2 e2.size (g := w.heap.size + 1) (by omega) 0 (.int .i64 a)
  have e4 := bput e3 e3.size (g := w.heap.size + 1) (by omega) 1 (.int .i64 b)
  have e5 := bput e4 e4.size (g := w.heap.size + 1) (by omega) 2 (.int .i64 c)
  have e6 := bput e5 e5.size (g := w.heap.size + 1) (by omega) 3 (.int .i64 d)
  subst hw
  exact ⟨(((((h2.set 0 (.string (str fl))).set 1 (.int .i64 k)).setOther (p := ⟨w.heap.size + 1, 0, none⟩) n1 (.int .i64 a)).setOther (p := ⟨w.heap.size + 1, 1, none⟩) n1 (.int .i64 b)).setOther (p := ⟨w.heap.size + 1, 2, none⟩) n1 (.int .i64 c)).setOther (p := ⟨w.heap.size + 1, 3, none⟩) n1 (.int .i64 d),
    (((((h3.setOther (p := ⟨w.heap.size, 0, none⟩) n2 (.string (str fl))).setOther (p := ⟨w.heap.size, 1, none⟩) n2 (.int .i64 k)).set 0 (.int .i64 a)).set 1 (.int .i64 b)).set 2 (.int .i64 c)).set 3 (.int .i64 d), e6⟩
/-- What is told as held, taken apart. -/
theorem heldV_parts (fl : List Nat) (o : Option (Int × Lo)) : ∃ (f : List Nat) (k : Int) (l : Lo) (q : Bool), heldV fl o = .tuple #[guardV f k, loV l, .bool q] := by
  rcases o with _ | ⟨k, l⟩
  · exact ⟨_, _, _, _, rfl⟩
  · exact ⟨_, _, _, _, rfl⟩
set_option maxRecDepth 100000 in
set_option maxHeartbeats 4000000 in
theorem tkheld_any {w : World} {g : Nat} (t : Tk) (hk : TkBlk w g t) :
    Calls Tryz.prog 10 #[.pointer (some ⟨g, 0, none⟩)] w fun e w' => e = .returned (heldV t.sw.file t.sw.held) ∧ Below w.heap.size w w' := by
  obtain ⟨f, k, ⟨a, b, c, d⟩, q, hp⟩ := heldV_parts t.sw.file t.sw.held
  have C : Hid (∀ o1 o2, Calls Tryz.prog 20 #[.pointer (some ⟨g, 0, none⟩)] ((w.alloc o1).alloc o2) fun e w' => e = .returned (.tuple #[guardV f k, loV ⟨a, b, c, d⟩, .bool q]) ∧ Below ((w.alloc o1).alloc o2).heap.size ((w.alloc o1).alloc o2) w') := Lib.hid fun o1 o2 => by
    rw [← hp]
    exact swheld_any _ t.sw (tkR t) ((Blk.alloc hk o1).alloc o2)
  rw [hp]
  clear hk hp
  go_enter Tryz.func10, Tryz.ntmps10
  go_wp2_with fail
  refine (C.out _ _).mono ?_
  rintro e w1 ⟨rfl, hb1⟩
  have HT := Lib.hid (fun w6 => three_cells (a := a) (b := b) (c := c) (d := d) (k := k) (fl := f) hb1 w6)
  have h2 : Blk w1 w.heap.size 28 #[.string ⟨#[]⟩, .int .i64 0] := Blk.under (Blk.alloc (heap_alloc_new w _) _) hb1
  have h3 : Blk w1 (w.heap.size + 1) 30 #[.int .i64 0, .int .i64 0, .int .i64 0, .int .i64 0] := Blk.under (heap_alloc_new' _ _ (by simp)) hb1
  have c0 := h2.at 0
  have c1 := h2.at 1
  have d0 := h3.at 0
  have d1 := h3.at 1
  have d2 := h3.at 2
  have d3 := h3.at 3
  have f0 := h2.free 0
  have f1 := h2.free 1
  have e0 := h3.free 0
  have e1 := h3.free 1
  have e2 := h3.free 2
  have e3 := h3.free 3
  clear h2 h3 hb1
  go_wp2
  obtain ⟨w6, hw6⟩ : ∃ w6, (((((w1.setCell ⟨w.heap.size, 0, none⟩ (.string (str f))).setCell ⟨w.heap.size, 1, none⟩ (.int .i64 k)).setCell ⟨w.heap.size + 1, 0, none⟩ (.int .i64 a)).setCell ⟨w.heap.size + 1, 1, none⟩ (.int .i64 b)).setCell ⟨w.heap.size + 1, 2, none⟩ (.int .i64 c)).setCell ⟨w.heap.size + 1, 3, none⟩ (.int .i64 d) = w6 := ⟨_, rfl⟩
  obtain ⟨F2, F3, HB⟩ := HT.out w6 hw6
  rw [hw6]
  refine bodyPost_ret (results_cct rfl _ _ w.heap.size _ _ _ _ (w.heap.size + 1) _ _ _ _ rfl F2 rfl F3 Tryz.underlying28 rfl (by kernel_rfl) Tryz.underlying30 rfl (by kernel_rfl)) rfl ?_
  exact ⟨rfl, HB⟩

/-- The cells of a Write. -/
def WrBlk (w : World) (g : Nat) (x : Sw) (free : Bool) : Prop := Blk w g 64 (swC x [.bool free]).toArray
set_option maxRecDepth 100000 in
set_option maxHeartbeats 4000000 in
theorem renew_any (fl : List Nat) (k : Int) (l : Lo) (temp till : Int) (w : World) (hT : Pow w) :
    Calls Tryz.prog 7 #[guardV fl k, loV l, .int .i64 temp, .int .i64 till] w fun e w' => ∃ g, e = .returned (.pointer (some ⟨g, 0, none⟩)) ∧ w.heap.size ≤ g ∧ WrBlk w' g (write fl k l temp till) false ∧ Below w.heap.size w w' := by
  obtain ⟨a, b, c, d⟩ := l
  obtain ⟨T, hTT⟩ : ∃ T, Nm.temp (Nm.held a 999) (Nm.held b 99999) (Nm.held temp 99999) = T := ⟨_, rfl⟩
  have HV : Hid (write fl k ⟨a, b, c, d⟩ temp till = ⟨fl, k, ⟨a, b, c, till⟩, T, 2, 0⟩) := Lib.hid (by rw [← hTT]; rfl)
  have C : Hid (∀ W, Below w.heap.size w W → Calls Tryz.prog 18 #[.int .i64 a, .int .i64 b, .int .i64 temp] W fun e w' => e = .returned (.string (str T)) ∧ Below W.heap.size W w') := Lib.hid fun W hb => by
    rw [← hTT]
    exact ptemp_any a b temp W (hT.under hb)
  clear hTT hT
  go_enter Tryz.func7, Tryz.ntmps7
  go_upto_region 2 with fail
  obtain ⟨W2, hW2⟩ : ∃ W, (w.alloc (.cells #[.string (str fl), .int .i64 k] 28)).alloc (.cells #[.int .i64 a, .int .i64 b, .int .i64 c, .int .i64 till] 30) = W := ⟨_, rfl⟩
  rw [hW2]
  obtain ⟨q2, hq2⟩ : ∃ q, w.heap.size = q := ⟨_, rfl⟩
  obtain ⟨q3, hq3⟩ : ∃ q, w.heap.size + 1 = q := ⟨_, rfl⟩
  have HX2 : Hid (Blk W2 q2 28 #[.string (str fl), .int .i64 k]) := Lib.hid (by rw [← hW2, ← hq2]; exact Blk.alloc (heap_alloc_new w _) _)
  have HX3 : Hid (Blk W2 q3 30 #[.int .i64 a, .int .i64 b, .int .i64 c, .int .i64 till]) := Lib.hid (by rw [← hW2, ← hq3]; exact heap_alloc_new' _ _ (by simp))
  have HB2 : Hid (Below w.heap.size w W2) := Lib.hid (by rw [← hW2]; exact ((Below.refl _ _).alloc (Nat.le_refl _) _).alloc (by simp) _)
  have HST : Hid (∀ W, Below W2.heap.size W2 W → W.cell? ⟨q2, 0, none⟩ = some (.string (str fl)) ∧ W.cell? ⟨q2, 1, none⟩ = some (.int .i64 k) ∧ W.cell? ⟨q3, 0, none⟩ = some (.int .i64 a) ∧ W.cell? ⟨q3, 1, none⟩ = some (.int .i64 b) ∧ W.cell? ⟨q3, 2, none⟩ = some (.int .i64 c) ∧ W.cell? ⟨q3, 3, none⟩ = some (.int .i64 till)) := Lib.hid fun W hb => ⟨(HX2.out.under hb).at 0, (HX2.out.under hb).at 1, (HX3.out.under hb).at 0, (HX3.out.under hb).at 1, (HX3.out.under hb).at 2, (HX3.out.under hb).at 3⟩
  rw [hq3, hq2]
  have HQ : Hid (w.heap.size = q2) := Lib.hid hq2
  clear hW2 hq2 hq3
  refine wp_region_noPanic ?_
  refine wp_region_held_drew (S := fun W => W.cell? ⟨q2, 0, none⟩ = some (.string (str fl)) ∧ W.cell? ⟨q2, 1, none⟩ = some (.int .i64 k) ∧ W.cell? ⟨q3, 0, none⟩ = some (.int .i64 a) ∧ W.cell? ⟨q3, 1, none⟩ = some (.int .i64 b) ∧ W.cell? ⟨q3, 2, none⟩ = some (.int .i64 c) ∧ W.cell? ⟨q3, 3, none⟩ = some (.int .i64 till)) (by kernel_rfl) (HST.out _ (Below.refl _ _).drew) (fun hHeld => ?_)
  refine takeW 0 (some 11) (oi := ?oT1) (v := ?vT1) ?hiT1 ?hdT1 (by kernel_rfl) (by kernel_rfl) (by kernel_rfl) (fun _ _ _ h => h) ?hwT1 ?hyT1 hHeld ?_
  case hiT1 => (simp only [List.getElem?_toArray, List.getElem?_cons_zero]; with_reducible rfl)
  case hdT1 => rfl
  case hwT1 => rfl
  case hyT1 => (intro w hSw; (try dsimp only at hSw); go_simp; first | done | with_reducible rfl)
  try simp only [Act.put]
  try simp only [List.setIfInBounds_toArray, List.set_cons_zero, List.set_cons_succ]
  refine takeW 1 (some 12) (oi := ?oT2) (v := ?vT2) ?hiT2 ?hdT2 (by kernel_rfl) (by kernel_rfl) (by kernel_rfl) (fun _ _ _ h => h) ?hwT2 ?hyT2 hHeld ?_
  case hiT2 => (simp only [List.getElem?_toArray, List.getElem?_cons_succ, List.getElem?_cons_zero]; with_reducible rfl)
  case hdT2 => rfl
  case hwT2 => rfl
  case hyT2 => (intro w hSw; (try dsimp only at hSw); go_simp; first | done | with_reducible rfl)
  try simp only [Act.put]
  try simp only [List.setIfInBounds_toArray, List.set_cons_zero, List.set_cons_succ]
  refine takeW 2 (some 13) (oi := ?oT3) (v := ?vT3) ?hiT3 ?hdT3 (by kernel_rfl) (by kernel_rfl) (by kernel_rfl) (fun _ _ _ h => h) ?hwT3 ?hyT3 hHeld ?_
  case hiT3 => (simp only [List.getElem?_toArray, List.getElem?_cons_succ, List.getElem?_cons_zero]; with_reducible rfl)
  case hdT3 => rfl
  case hwT3 => rfl
  case hyT3 => (intro w hSw; (try dsimp only at hSw); go_simp; first | done | with_reducible rfl)
  try simp only [Act.put]
  try simp only [List.setIfInBounds_toArray, List.set_cons_zero, List.set_cons_succ]
  refine takeW 3 (some 14) (oi := ?oT4) (v := ?vT4) ?hiT4 ?hdT4 (by kernel_rfl) (by kernel_rfl) (by kernel_rfl) (fun _ _ _ h => h) ?hwT4 ?hyT4 hHeld ?_
  case hiT4 => (simp only [List.getElem?_toArray, List.getElem?_cons_succ, List.getElem?_cons_zero]; with_reducible rfl)
  case hdT4 => rfl
  case hwT4 => rfl
  case hyT4 => (intro w hSw; (try dsimp only at hSw); go_simp; first | done | with_reducible rfl)
  try simp only [Act.put]
  try simp only [List.setIfInBounds_toArray, List.set_cons_zero, List.set_cons_succ]
  refine takeW 4 (some 15) (oi := ?oT5) (v := ?vT5) ?hiT5 ?hdT5 (by kernel_rfl) (by kernel_rfl) (by kernel_rfl) (fun _ _ _ h => h) ?hwT5 ?hyT5 hHeld ?_
  case hiT5 => (simp only [List.getElem?_toArray, List.getElem?_cons_succ, List.getElem?_cons_zero]; with_reducible rfl)
  case hdT5 => rfl
  case hwT5 => rfl
  case hyT5 => (intro w hSw; (try dsimp only at hSw); go_simp; first | done | with_reducible rfl)
  try simp only [Act.put]
  try simp only [List.setIfInBounds_toArray, List.set_cons_zero, List.set_cons_succ]
  refine takeW 5 (some 16) (oi := ?oT6) (v := ?vT6) ?hiT6 ?hdT6 (by kernel_rfl) (by kernel_rfl) (by kernel_rfl) (fun _ _ _ h => h) ?hwT6 ?hyT6 hHeld ?_
  case hiT6 => (simp only [List.getElem?_toArray, List.getElem?_cons_succ, List.getElem?_cons_zero]; with_reducible rfl)
  case hdT6 => rfl
  case hwT6 => rfl
  case hyT6 => (intro w hSw; (try dsimp only at hSw); go_simp; first | done | with_reducible rfl)
  try simp only [Act.put]
  try simp only [List.setIfInBounds_toArray, List.set_cons_zero, List.set_cons_succ]
  refine takeW 6 (some 17) (oi := ?oT7) (v := ?vT7) ?hiT7 ?hdT7 (by kernel_rfl) (by kernel_rfl) (by kernel_rfl) (fun _ _ _ h => h) ?hwT7 ?hyT7 hHeld ?_
  case hiT7 => (simp only [List.getElem?_toArray, List.getElem?_cons_succ, List.getElem?_cons_zero]; with_reducible rfl)
  case hdT7 => rfl
  case hwT7 => rfl
  case hyT7 => (intro w hSw; (try dsimp only at hSw); go_simp; first | done | with_reducible rfl)
  try simp only [Act.put]
  try simp only [List.setIfInBounds_toArray, List.set_cons_zero, List.set_cons_succ]
  refine stepOne 7 (o := ?oT8) ?hiT8 (by kernel_rfl) ?hwT8 (fun K hK => ?_)
  case hiT8 => (simp only [List.getElem?_toArray, List.getElem?_cons_succ, List.getElem?_cons_zero]; with_reducible rfl)
  case hwT8 => rfl
  go_simp
  go_at_call 18
  refine (C.out W2.drew HB2.out.drew).mono ?_
  rintro e w3 ⟨rfl, hb3⟩
  have HB3 : Hid (Below W2.heap.size W2 w3) := Lib.hid ((Below.refl W2.heap.size W2).drew.trans hb3)
  clear hb3
  refine hK.out _ _ ?_ (fun hHeld => ?_)
  · exact HST.out _ HB3.out
  clear hK K
  try simp only [Act.put]
  try simp only [List.setIfInBounds_toArray, List.set_cons_zero, List.set_cons_succ]
  refine takeW 8 (some 19) (oi := ?oT9) (v := ?vT9) ?hiT9 ?hdT9 (by kernel_rfl) (by kernel_rfl) (by kernel_rfl) (fun _ _ _ h => h) ?hwT9 ?hyT9 hHeld ?_
  case hiT9 => (simp only [List.getElem?_toArray, List.getElem?_cons_succ, List.getElem?_cons_zero]; with_reducible rfl)
  case hdT9 => rfl
  case hwT9 => rfl
  case hyT9 => (intro w hSw; (try dsimp only at hSw); go_simp; first | done | with_reducible rfl)
  try simp only [Act.put]
  try simp only [List.setIfInBounds_toArray, List.set_cons_zero, List.set_cons_succ]
  refine takeW 9 (some 20) (oi := ?oT10) (v := ?vT10) ?hiT10 ?hdT10 (by kernel_rfl) (by kernel_rfl) (by kernel_rfl) (fun _ _ _ h => h) ?hwT10 ?hyT10 hHeld ?_
  case hiT10 => (simp only [List.getElem?_toArray, List.getElem?_cons_succ, List.getElem?_cons_zero]; with_reducible rfl)
  case hdT10 => rfl
  case hwT10 => rfl
  case hyT10 => (intro w hSw; (try dsimp only at hSw); go_simp; first | done | with_reducible rfl)
  try simp only [Act.put]
  try simp only [List.setIfInBounds_toArray, List.set_cons_zero, List.set_cons_succ]
  refine stepOne 10 (o := ?oT11) ?hiT11 (by kernel_rfl) ?hwT11 (fun K hK => ?_)
  case hiT11 => (simp only [List.getElem?_toArray, List.getElem?_cons_succ, List.getElem?_cons_zero]; with_reducible rfl)
  case hwT11 => rfl
  go_simp
  refine hK.out _ _ ?_ (fun hHeld => ?_)
  · exact HST.out _ (HB3.out.alloc HB3.out.size _)
  clear hK K
  try simp only [Act.put]
  try simp only [List.setIfInBounds_toArray, List.set_cons_zero, List.set_cons_succ]
  refine takeW 11 (some 8) (oi := ?oT12) (v := ?vT12) ?hiT12 ?hdT12 (by kernel_rfl) (by kernel_rfl) (by kernel_rfl) (fun _ _ _ h => h) ?hwT12 ?hyT12 hHeld ?_
  case hiT12 => (simp only [List.getElem?_toArray, List.getElem?_cons_succ, List.getElem?_cons_zero]; with_reducible rfl)
  case hdT12 => rfl
  case hwT12 => rfl
  case hyT12 => (intro w hSw; (try dsimp only at hSw); go_simp; first | done | with_reducible rfl)
  try simp only [Act.put]
  try simp only [List.setIfInBounds_toArray, List.set_cons_zero, List.set_cons_succ]
  refine wpAnyH_done (by kernel_rfl) ?_ _
  refine NoPanic.normal ?_
  skip
  go_wp2
  go_ret
  have hB := HB2.out.trans (HB3.out.mono HB2.out.size)
  refine ⟨_, rfl, hB.size, ?_, hB.alloc hB.size _⟩
  rw [HV.out]
  exact heap_alloc_new w3 _
set_option maxRecDepth 100000 in
set_option maxHeartbeats 4000000 in
theorem free_any (fl : List Nat) (k : Int) (l : Lo) (temp : Int) (w : World) (hT : Pow w) :
    Calls Tryz.prog 6 #[guardV fl k, loV l, .int .i64 temp] w fun e w' => ∃ g, e = .returned (.pointer (some ⟨g, 0, none⟩)) ∧ w.heap.size ≤ g ∧ WrBlk w' g (write fl k l temp 0) true ∧ Below w.heap.size w w' := by
  have HB2 : Hid (∀ o1 o2, Below w.heap.size w ((w.alloc o1).alloc o2)) := Lib.hid fun o1 o2 => ((Below.refl _ _).alloc (Nat.le_refl _) _).alloc (by simp) _
  have C : Hid (∀ o1 o2, Calls Tryz.prog 7 #[guardV fl k, loV l, .int .i64 temp, .int .i64 0] ((w.alloc o1).alloc o2) fun e w' => ∃ g, e = .returned (.pointer (some ⟨g, 0, none⟩)) ∧ w.heap.size ≤ g ∧ WrBlk w' g (write fl k l temp 0) false ∧ Below w.heap.size w w') := Lib.hid fun o1 o2 => (renew_any fl k l temp 0 _ (hT.under (HB2.out o1 o2))).mono fun _ _ ⟨g, he, hg, hx, hb⟩ => ⟨g, he, Nat.le_trans (HB2.out o1 o2).size hg, hx, (HB2.out o1 o2).trans (hb.mono (HB2.out o1 o2).size)⟩
  obtain ⟨a, b, c, d⟩ := l
  clear hT
  go_enter Tryz.func6, Tryz.ntmps6
  go_wp2_with fail
  refine (C.out _ _).mono ?_
  rintro e w3 ⟨g, rfl, hg, hx, hb⟩
  have HG := Lib.hid hg
  have HX := Lib.hid hx
  have HB := Lib.hid hb
  have k9 := blk_cell hx 9 rfl
  have f9 := Blk.free hx 9
  have HY : Hid (WrBlk (w3.setCell ⟨g, 9, none⟩ (.bool true)) g (write fl k ⟨a, b, c, d⟩ temp 0) true) := Lib.hid (blk_put hx 9 (.bool true) rfl)
  clear hg hx hb
  go_wp2
  go_ret
  exact ⟨_, rfl, HG.out, HY.out, bput HB.out HB.out.size HG.out 9 _⟩
set_option maxRecDepth 100000 in
set_option maxHeartbeats 4000000 in
theorem wrstep_any {K : Nat → Prop} {w0 w : World} {p g : Nat} {s : S} (x : Sw) (fr : Bool) (h : Fk K w0 w p s) (hg : K g) (hg0 : w0.heap.size ≤ g) (hk : WrBlk w g x fr) (hf : Nice x.file) (ht : Nice x.temp) (hnx : s.next ≤ 1073741824) (hu : used s.l + 34 ≤ 274877906944) :
    Calls Tryz.prog 13 #[.pointer (some ⟨g, 0, none⟩), .pointer (some ⟨p, 0, none⟩)] w (StepIs K w0 w p g 64 [.bool fr] (x.step s)) := by
  have HF := Lib.hid h
  have HG := Lib.hid hg
  have HG0 := Lib.hid hg0
  have HK := Lib.hid hk
  have C0 := Lib.hid (swdo_any 64 x [.bool fr] h hg hg0 hk hf ht hnx hu)
  have HV : Hid (x.step s = if x.told = 0 then ((x.doo s).1, { (x.doo s).2.1 with told := (x.doo s).2.2 }, (x.doo s).2.2) else (s, x, x.told)) := Lib.hid rfl
  have k8 := blk_cell (v := .int .i64 (x.told : Int)) hk 8 rfl
  obtain ⟨n, hn⟩ : ∃ n, x.told = n := ⟨_, rfl⟩
  rw [hn] at k8 HV
  obtain ⟨R, hR⟩ : ∃ R, x.doo s = R := ⟨_, rfl⟩
  rw [hR] at C0 HV
  clear h hg hg0 hk hf ht hnx hu hn hR
  obtain ⟨s1, ⟨fl, stp, ⟨a, b, c, d⟩, tp, nx, td⟩, k⟩ := R
  go_enter Tryz.func13, Tryz.ntmps13
  by_cases q0 : n = 0
  · subst q0
    have HV2 := HV.out.trans (if_pos rfl)
    rw [HV2]
    clear HV HV2
    go_wp2_with fail
    refine C0.out.mono ?_
    rintro e w1 ⟨rfl, hf1, hb1, hk1⟩
    have c8 := blk_cell hb1 8 rfl
    have f8 := Blk.free hb1 8
    have X1 := Lib.hid (hf1.set HG.out HG0.out 8 (.int .i64 (k : Int)))
    have X2 : Hid (Blk (w1.setCell ⟨g, 8, none⟩ (.int .i64 (k : Int))) g 64 (swC ⟨fl, stp, ⟨a, b, c, d⟩, tp, nx, k⟩ [.bool fr]).toArray) := Lib.hid (blk_put hb1 8 (.int .i64 (k : Int)) rfl)
    have X3 := Lib.hid (hk1.trans (Kept.set K w1 g 8 (.int .i64 (k : Int))))
    have z8 := blk_cell (v := .int .i64 (k : Int)) X2.out 8 rfl
    clear hf1 hb1 hk1
    go_wp2
    go_ret
    exact ⟨rfl, X1.out, X2.out, X3.out⟩
  · have q0I := nat_ne q0
    have HV2 := HV.out.trans (if_neg q0)
    rw [HV2]
    clear HV HV2 q0
    go_wp2
    go_ret
    exact ⟨rfl, HF.out, HK.out, Kept.refl _ _⟩
end Go.Proofs.YtfheaognfocofaaGreatDoor

/- Layer 13's statements: a lock that is taken at once. -/
namespace Go.Proofs.YtfheaognfocofaaGreatDoor
set_option maxRecDepth 100000
open Go.ChangeShapes Go.WideShapes Go.ChangeAt Go.RowKit Go.ChangeMaps
open Sf Lk

def clm : List Nat := [99, 108, 97, 105, 109, 47, 97]
theorem nice_clm : Nice clm := by constructor <;> simp [clm]
theorem file_clm : Nm.file clm = true := by decide
/-- What 'taken' hands on. -/
def takenO (r : S × Tk × Nat) : Option (Int × Lo) := if r.2.2 = 1 then r.2.1.sw.held else none
def takenV (fl : List Nat) (o : Option (Int × Lo)) : Value := heldV fl o
theorem Fk.more {K : Nat → Prop} {w0 w w1 : World} {p g : Nat} {s : S} (h : Fk K w0 w p s) (hb : Below w.heap.size w w1) (h1 : w.heap.size ≤ g) (h2 : g < w1.heap.size) : Fk (fun k => K k ∨ k = g) w0 w1 p s :=
  h.grow hb _ fun _ hk => hk.elim .inl fun e => .inr (e ▸ ⟨h1, h2⟩)
theorem Fk.none {K : Nat → Prop} {w0 w : World} {p : Nat} {s : S} (h : Fk K w0 w p s) : Fk (fun _ => False) w0 w p s := h.less _ fun _ h => h.elim

theorem six_cells {K : Nat → Prop} {w0 wx : World} {p : Nat} {s : S} {q2 q3 : Nat} {x0 x1 y0 y1 y2 y3 : Value} (hf : Fk K w0 wx p s) (k2 : K q2) (k3 : K q3) (z2 : w0.heap.size ≤ q2) (z3 : w0.heap.size ≤ q3) (h2 : Blk wx q2 28 #[x0, x1]) (h3 : Blk wx q3 30 #[y0, y1, y2, y3]) (hne : q2 ≠ q3) (f : ByteArray) (k a b c d : Int) (w6 : World)
    (hw : (((((wx.setCell ⟨q2, 0, none⟩ (.string f)).setCell ⟨q2, 1, none⟩ (.int .i64 k)).setCell ⟨q3, 0, none⟩ (.int .i64 a)).setCell ⟨q3, 1, none⟩ (.int .i64 b)).setCell ⟨q3, 2, none⟩ (.int .i64 c)).setCell ⟨q3, 3, none⟩ (.int .i64 d) = w6) :
    Blk w6 q2 28 #[.string f, .int .i64 k] ∧ Blk w6 q3 30 #[.int .i64 a, .int .i64 b, .int .i64 c, .int .i64 d] ∧ Fk K w0 w6 p s ∧ Kept (fun j => j ≠ q2 ∧ j ≠ q3) wx w6 := by
  have n1 : q2 ≠ q3 := hne
  have n2 : q3 ≠ q2 := fun e => hne e.symm
  subst hw
  refine ⟨(((((h2.set 0 (.string f)).set 1 (.int .i64 k)).setOther (p := ⟨q3, 0, none⟩) n1 (.int .i64 a)).setOther (p := ⟨q3, 1, none⟩) n1 (.int .i64 b)).setOther (p := ⟨q3, 2, none⟩) n1 (.int .i64 c)).setOther (p := ⟨q3, 3, none⟩) n1 (.int .i64 d),
    (((((h3.setOther (p := ⟨q2, 0, none⟩) n2 (.string f)).setOther (p := ⟨q2, 1, none⟩) n2 (.int .i64 k)).set 0 (.int .i64 a)).set 1 (.int .i64 b)).set 2 (.int .i64 c)).set 3 (.int .i64 d),
    (((((hf.set k2 z2 0 _).set k2 z2 1 _).set k3 z3 0 _).set k3 z3 1 _).set k3 z3 2 _).set k3 z3 3 _, ?_⟩
  have st : ∀ (W : World) (q i : Nat) (v : Value), (q = q2 ∨ q = q3) → Kept (fun j => j ≠ q2 ∧ j ≠ q3) W (W.setCell ⟨q, i, none⟩ v) := fun W q i v hq => ⟨Nat.le_of_eq (by simp), fun j hj => Below.heap_setCell W _ v j (fun e => by rcases hq with e2 | e2 <;> simp [e2] at e <;> omega)⟩
  exact (((((st _ q2 _ _ (.inl rfl)).trans (st _ q2 _ _ (.inl rfl))).trans (st _ q3 _ _ (.inr rfl))).trans (st _ q3 _ _ (.inr rfl))).trans (st _ q3 _ _ (.inr rfl))).trans (st _ q3 _ _ (.inr rfl))

end Go.Proofs.YtfheaognfocofaaGreatDoor

/- Locks in plain words: what 'taken' comes to. -/
namespace Go.Proofs.YtfheaognfocofaaGreatDoor
set_option maxRecDepth 100000
open Go.ChangeShapes Go.WideShapes Go.ChangeAt Go.RowKit Go.ChangeMaps
open Sf Lk

theorem lk_and (a : Int) (k : Nat) (hk : k < 4294967296) : ∃ m : Nat, bits .and .i64 a (k : Int) = (m : Int) ∧ m ≤ k := by
  have h : bits .and .i64 a (k : Int) = IntKind.i64.wrap ((BitVec.ofInt 64 a &&& BitVec.ofInt 64 (k : Int)).toNat : Int) := rfl
  have hx : (BitVec.ofInt 64 a &&& BitVec.ofInt 64 (k : Int)).toNat ≤ k := by
    rw [BitVec.toNat_and]
    refine Nat.le_trans Nat.and_le_right ?_
    rw [BitVec.ofInt_natCast, BitVec.toNat_ofNat]
    exact Nat.mod_le _ _
  refine ⟨(BitVec.ofInt 64 a &&& BitVec.ofInt 64 (k : Int)).toNat, ?_, hx⟩
  rw [h, IntKind.wrap_i64]
  omega
/-- Numbers that a record holds as they are. -/
def OkL (L : Lo) : Prop := 0 ≤ L.a ∧ L.a ≤ 1000000000 ∧ 0 ≤ L.b ∧ L.b ≤ 1000000000 ∧ 0 ≤ L.c ∧ L.c ≤ 1000000000 ∧ 0 ≤ L.d ∧ L.d ≤ 1000000000
theorem held_int {x : Int} (h : 0 ≤ x) (h2 : x ≤ 1000000000) : ((Cd.held x : Nat) : Int) = x := by unfold Cd.held; omega
theorem held_ok {L : Lo} (h : OkL L) : L.held = L := by
  obtain ⟨a, b, c, d⟩ := L
  obtain ⟨h1, h2, h3, h4, h5, h6, h7, h8⟩ := h
  show Lo.mk _ _ _ _ = _
  rw [held_int h1 h2, held_int h3 h4, held_int h5 h6, held_int h7 h8]
theorem open_ok {L : Lo} (h : OkL L) : loOf (Rc.openL L.bytes) = L := (Lo.opened L).trans (held_ok h)
theorem what_ok {L : Lo} (h : OkL L) (who inc now : Int) : what (Rc.openL L.bytes) who inc now = if L.a = who ∧ L.b = inc ∧ now < L.d then 2 else if L.d ≤ now ∨ (L.a = who ∧ L.b < inc) then 3 else 4 := by
  have e : (Rc.openL L.bytes).isNone = false := by rw [Lo.opens]; rfl
  unfold what
  rw [open_ok h, e, Bool.false_or, if_neg]
  have := h.2.2.2.2.2.1
  simp only [decide_eq_true_eq]
  omega
abbrev tmpT (who inc : Int) : List Nat := Nm.temp (Nm.held who 999) (Nm.held inc 99999) (Nm.held 3 99999)
theorem begin_is (who inc : Int) : Lk.begin clm who inc 3 30 = ⟨⟨clm, 0, lo0, tmpT who inc, 0, 0⟩, who, inc, 30⟩ := rfl
theorem file_tmp (who inc : Int) : Nm.file (tmpT who inc) = true := Nm.temp_file (Nm.held_le _ _) (Nm.held_le _ _) (Nm.held_le _ _)
theorem clm_lt (who inc : Int) : clm < tmpT who inc := lt_temp (by omega)
theorem clock_ok {now : Int} (h : 0 ≤ now) (h2 : now ≤ 100000000) : clock now = now := by unfold clock; omega
variable {r c now who inc : Int} {n k : Nat}
theorem taken_new (hr : 34 ≤ r) (hn : 0 ≤ now ∧ now ≤ 100000000) (hok : OkL ⟨who, inc, 1, now + 30⟩) :
    (takeRun 6 (lkN r n c) (Lk.begin clm who inc 3 30) now).1 = lkO clm (Lo.bytes ⟨who, inc, 1, now + 30⟩) (n + 1) r (n + 1) c ∧ takenO (takeRun 6 (lkN r n c) (Lk.begin clm who inc 3 30) now) = some (((n + 1 : Nat) : Int), ⟨who, inc, 1, now + 30⟩) := by
  rw [begin_is, run_new (j := 4) file_clm lo0 hr, clock_ok hn.1 hn.2]
  refine ⟨rfl, ?_⟩
  show some (_, Lo.held _) = _
  rw [held_ok hok]
theorem taken_mine {L : Lo} (hL : OkL L) (hn : 0 ≤ now ∧ now ≤ 100000000) (h : L.a = who ∧ L.b = inc ∧ now < L.d) :
    (takeRun 6 (lkO clm L.bytes k r n c) (Lk.begin clm who inc 3 30) now).1 = lkO clm L.bytes k r n c ∧ takenO (takeRun 6 (lkO clm L.bytes k r n c) (Lk.begin clm who inc 3 30) now) = some ((k : Int), L) := by
  have hq : what (Rc.openL L.bytes) who inc (clock now) = 2 := by rw [clock_ok hn.1 hn.2, what_ok hL, if_pos h]
  rw [begin_is, run_mine (j := 5) file_clm lo0 L (open_ok hL) hq]
  refine ⟨rfl, ?_⟩
  show some (_, Lo.held _) = _
  rw [held_ok hL]
theorem taken_busy {L : Lo} (hL : OkL L) (hn : 0 ≤ now ∧ now ≤ 100000000) (h : ¬ (L.a = who ∧ L.b = inc ∧ now < L.d)) (h2 : ¬ (L.d ≤ now ∨ (L.a = who ∧ L.b < inc))) :
    (takeRun 6 (lkO clm L.bytes k r n c) (Lk.begin clm who inc 3 30) now).1 = lkO clm L.bytes k r n c ∧ takenO (takeRun 6 (lkO clm L.bytes k r n c) (Lk.begin clm who inc 3 30) now) = none := by
  have hq : what (Rc.openL L.bytes) who inc (clock now) = 4 := by rw [clock_ok hn.1 hn.2, what_ok hL, if_neg h, if_neg h2]
  rw [begin_is, run_busy (j := 5) file_clm lo0 L (open_ok hL) hq]
  exact ⟨rfl, rfl⟩
theorem taken_open {L : Lo} (hL : OkL L) (hr : 68 ≤ r) (hn : 0 ≤ now ∧ now ≤ 100000000) (h : ¬ (L.a = who ∧ L.b = inc ∧ now < L.d)) (h2 : L.d ≤ now ∨ (L.a = who ∧ L.b < inc)) (hok : OkL ⟨who, inc, L.c + 1, now + 30⟩) :
    (takeRun 6 (lkO clm L.bytes k r n c) (Lk.begin clm who inc 3 30) now).1 = lkO clm (Lo.bytes ⟨who, inc, L.c + 1, now + 30⟩) (n + 2) r (n + 2) c ∧ takenO (takeRun 6 (lkO clm L.bytes k r n c) (Lk.begin clm who inc 3 30) now) = some (((n + 2 : Nat) : Int), ⟨who, inc, L.c + 1, now + 30⟩) := by
  have hq : what (Rc.openL L.bytes) who inc (clock now) = 3 := by rw [clock_ok hn.1 hn.2, what_ok hL, if_neg h, if_pos h2]
  rw [begin_is, run_open (j := 3) file_clm (file_tmp who inc) (clm_lt who inc) lo0 L (open_ok hL) hq (by rw [Lo.bytes_len]; omega), clock_ok hn.1 hn.2]
  refine ⟨rfl, ?_⟩
  show some (_, Lo.held _) = _
  rw [held_ok hok]
theorem used_clm (L : Lo) : used (lkO clm L.bytes k r n c).l ≤ 1000000 := by rw [used_one, Lo.bytes_len]; omega
end Go.Proofs.YtfheaognfocofaaGreatDoor
