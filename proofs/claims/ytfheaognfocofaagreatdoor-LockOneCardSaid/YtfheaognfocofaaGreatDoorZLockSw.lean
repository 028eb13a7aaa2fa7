/- Package lock: the row Put, Move, Drop of a lock that is written anew. -/
import Derived.Test.YtfheaognfocofaaGreatDoorZ11
import Derived.Test.YtfheaognfocofaaGreatDoorZReco
import Derived.Test.YtfheaognfocofaaGreatDoorZ12
import Derived.Test.YtfheaognfocofaaGreatDoorZ01
namespace Go.Proofs.YtfheaognfocofaaGreatDoor
set_option maxRecDepth 100000
open Go.ChangeShapes Go.WideShapes Go.ChangeAt Go.RowKit Go.ChangeMaps
open Sf Lk

abbrev loV (x : Lo) : Value := lockV x.a x.b x.c x.d
/-- The cells of a lock's row, with what stands behind them. -/
def swC (x : Sw) (r : List Value) : List Value :=
  .string (str x.file) :: .int .i64 x.stamp :: .int .i64 x.lock.a :: .int .i64 x.lock.b :: .int .i64 x.lock.c :: .int .i64 x.lock.d :: .string (str x.temp) :: .int .i64 (x.next : Int) :: .int .i64 (x.told : Int) :: r
theorem blk_cell {w : World} {g : Nat} {ty : TypeId} {l : List Value} (h : Blk w g ty l.toArray) (i : Nat) {v : Value} (e : l[i]? = some v) : w.cell? ⟨g, i, none⟩ = some v := by rw [h.at i]; simpa using e
theorem blk_put {w : World} {g : Nat} {ty : TypeId} {l : List Value} (h : Blk w g ty l.toArray) (i : Nat) (v : Value) {l' : List Value} (e : l.set i v = l') : Blk (w.setCell ⟨g, i, none⟩ v) g ty l'.toArray := by
  subst e
  have := h.set i v
  simpa using this
theorem Kept.of_below {K : Nat → Prop} {w0 w w1 : World} {p : Nat} {s : S} (h : Fk K w0 w p s) (hb : Below w.heap.size w w1) : Kept K w w1 := ⟨hb.size, fun _ hk => hb.block _ (h.lt hk)⟩
theorem Kept.trans {K : Nat → Prop} {w w1 w2 : World} (h : Kept K w w1) (h2 : Kept K w1 w2) : Kept K w w2 := ⟨Nat.le_trans h.1 h2.1, fun k hk => (h2.2 k hk).trans (h.2 k hk)⟩
theorem Kept.less {K K' : Nat → Prop} {w w1 : World} (h : Kept K w w1) (hK : ∀ k, K' k → K k) : Kept K' w w1 := ⟨h.1, fun k hk => h.2 k (hK k hk)⟩
theorem Kept.but {K : Nat → Prop} {w w1 : World} {g : Nat} (h : Kept K w w1) : Kept (fun k => K k ∧ k ≠ g) w w1 := h.less fun _ hk => hk.1
theorem Kept.set (K : Nat → Prop) (w : World) (g i : Nat) (v : Value) : Kept (fun k => K k ∧ k ≠ g) w (w.setCell ⟨g, i, none⟩ v) := ⟨Nat.le_of_eq (by simp), fun k hk => Below.heap_setCell w _ v k (fun e => hk.2 e)⟩
theorem Kept.refl (K : Nat → Prop) (w : World) : Kept K w w := ⟨Nat.le_refl _, fun _ _ => rfl⟩
theorem Kept.blk {K : Nat → Prop} {w w1 : World} {g : Nat} {ty : TypeId} {l : Array Value} (h : Kept K w w1) (hg : K g) (hb : Blk w g ty l) : Blk w1 g ty l := (h.2 g hg).trans hb
theorem Fk.set {K : Nat → Prop} {w0 w : World} {p g : Nat} {s : S} (h : Fk K w0 w p s) (hg : K g) (hg0 : w0.heap.size ≤ g) (i : Nat) (v : Value) : Fk K w0 (w.setCell ⟨g, i, none⟩ v) p s :=
  h.turned hg hg0 (grown_setCell w ⟨g, i, none⟩ v) (fun k hk => Below.heap_setCell w _ v k (fun e => hk e))
/-- What a step comes to. -/
def StepIs (K : Nat → Prop) (w0 w : World) (p g : Nat) (ty : TypeId) (r : List Value) (R : S × Sw × Nat) (e : Ending) (w' : World) : Prop :=
  e = .returned (.int .i64 ((R.2.2 : Nat) : Int)) ∧ Fk K w0 w' p R.1 ∧ Blk w' g ty (swC R.2.1 r).toArray ∧ Kept (fun k => K k ∧ k ≠ g) w w'
theorem StepIs.of {K : Nat → Prop} {w0 w w' : World} {p g : Nat} {ty : TypeId} {r : List Value} {R : S × Sw × Nat} {e : Ending} {s : S} {x : Sw} {n : Nat} (hR : R = (s, x, n)) (he : e = .returned (.int .i64 (n : Int))) (hf : Fk K w0 w' p s) (hb : Blk w' g ty (swC x r).toArray) (hk : Kept (fun k => K k ∧ k ≠ g) w w') : StepIs K w0 w p g ty r R e w' := by
  subst hR
  exact ⟨he, hf, hb, hk⟩
theorem bput {w w1 : World} {B g : Nat} (h : Below B w w1) (hB : B ≤ w1.heap.size) (hg : B ≤ g) (i : Nat) (v : Value) : Below B w (w1.setCell ⟨g, i, none⟩ v) := h.grown (grown_setCell w1 ⟨g, i, none⟩ v) hB fun k hk => by injection hk with hk; rw [← hk]; exact hg
theorem natz {n : Nat} (h : n ≠ 0) : ((n : Int) != 0) = true := by simp [h]

set_option maxRecDepth 100000 in
set_option maxHeartbeats 4000000 in
theorem swput_any {K : Nat → Prop} {w0 w : World} {p g : Nat} {s : S} (ty : TypeId) (x : Sw) (r : List Value) (h : Fk K w0 w p s) (hg : K g) (hg0 : w0.heap.size ≤ g) (hk : Blk w g ty (swC x r).toArray) (ht : Nice x.temp) (hnx : s.next ≤ 1073741824) (hu : used s.l + 34 ≤ 274877906944) :
    Calls Tryz.prog 40 #[.pointer (some ⟨g, 0, none⟩), .pointer (some ⟨p, 0, none⟩)] w (StepIs K w0 w p g ty r (x.put s)) := by
  have HLEN := x.lock.bytes_len
  obtain ⟨fl, stp, ⟨a, b, c, d⟩, tp, nx, td⟩ := x
  obtain ⟨B, hB⟩ : ∃ B, Lo.bytes ⟨a, b, c, d⟩ = B := ⟨_, rfl⟩
  have HF := Lib.hid h
  have HG := Lib.hid hg
  have HG0 := Lib.hid hg0
  have HK := Lib.hid hk
  have C1 : Hid (∀ W, Calls Tryz.prog 37 #[lockV a b c d] W (Made W.heap.size B W)) := Lib.hid fun W => rlock_is a b c d B W hB
  have C2 : Hid (∀ W v, Fk K w0 W p s → Bytes W v B → Calls Tryz.prog 58 #[.pointer (some ⟨p, 0, none⟩), .string (str tp), v] W fun e w' => e = .returned (.tuple #[.int .i64 (((putS s tp B).2.1 : Nat) : Int), .int .i64 (((putS s tp B).2.2 : Nat) : Int)]) ∧ Fk K w0 w' p (putS s tp B).1 ∧ Kept K W w') := Lib.hid fun W v hf hb => fk_put tp B v hf ht hb hnx (by rw [← hB, HLEN]; exact hu)
  have HV : Hid (Sw.put s ⟨fl, stp, ⟨a, b, c, d⟩, tp, nx, td⟩ = if (putS s tp B).2.2 = 0 then ((putS s tp B).1, ⟨fl, stp, ⟨a, b, c, d⟩, tp, 3, td⟩, 0) else ((putS s tp B).1, ⟨fl, stp, ⟨a, b, c, d⟩, tp, nx, td⟩, 4)) := Lib.hid (by rw [← hB]; rfl)
  obtain ⟨s1, hs1⟩ : ∃ n, (putS s tp B).1 = n := ⟨_, rfl⟩
  obtain ⟨n1, hn1⟩ : ∃ n, (putS s tp B).2.1 = n := ⟨_, rfl⟩
  obtain ⟨n, hn⟩ : ∃ n, (putS s tp B).2.2 = n := ⟨_, rfl⟩
  rw [hs1, hn] at HV
  rw [hs1, hn1, hn] at C2
  have k2 := blk_cell (v := .int .i64 a) hk 2 rfl
  have k3 := blk_cell (v := .int .i64 b) hk 3 rfl
  have k4 := blk_cell (v := .int .i64 c) hk 4 rfl
  have k5 := blk_cell (v := .int .i64 d) hk 5 rfl
  have k6 := blk_cell (v := .string (str tp)) hk 6 rfl
  have HST : Hid (∀ W, Blk W g ty (swC ⟨fl, stp, ⟨a, b, c, d⟩, tp, nx, td⟩ r).toArray → W.cell? ⟨g, 2, none⟩ = some (.int .i64 a) ∧ W.cell? ⟨g, 3, none⟩ = some (.int .i64 b) ∧ W.cell? ⟨g, 4, none⟩ = some (.int .i64 c) ∧ W.cell? ⟨g, 5, none⟩ = some (.int .i64 d) ∧ W.cell? ⟨g, 6, none⟩ = some (.string (str tp))) := Lib.hid fun W h => ⟨blk_cell h 2 rfl, blk_cell h 3 rfl, blk_cell h 4 rfl, blk_cell h 5 rfl, blk_cell h 6 rfl⟩
  obtain ⟨T, hT⟩ : ∃ T, str tp = T := ⟨_, rfl⟩
  rw [hT] at C2 k6 HST
  clear h hg hg0 hk ht hnx hu hB HLEN hs1 hn1 hn hT
  go_enter Tryz.func40, Tryz.ntmps40
  go_upto_region 1 with fail
  refine wp_region_noPanic ?_
  refine wp_region_held_drew (S := fun w' => w'.cell? ⟨g, 2, none⟩ = some (.int .i64 a) ∧ w'.cell? ⟨g, 3, none⟩ = some (.int .i64 b) ∧ w'.cell? ⟨g, 4, none⟩ = some (.int .i64 c) ∧ w'.cell? ⟨g, 5, none⟩ = some (.int .i64 d) ∧ w'.cell? ⟨g, 6, none⟩ = some (.string T)) (by kernel_rfl) (⟨k2, k3, k4, k5, k6⟩) (fun hHeld => ?_)
  refine takeW 0 (some 8) (oi := ?oT1) (v := ?vT1) ?hiT1 ?hdT1 (by kernel_rfl) (by kernel_rfl) (by kernel_rfl) (fun _ _ _ h => h) ?hwT1 ?hyT1 hHeld ?_
  case hiT1 => (simp only [List.getElem?_toArray, List.getElem?_cons_zero]; with_reducible rfl)
  case hdT1 => rfl
  case hwT1 => rfl
  case hyT1 => (intro w hSw; (try dsimp only at hSw); go_simp; first | done | with_reducible rfl)
  try simp only [Act.put]
  try simp only [List.setIfInBounds_toArray, List.set_cons_zero, List.set_cons_succ]
  refine takeW 1 (some 9) (oi := ?oT2) (v := ?vT2) ?hiT2 ?hdT2 (by kernel_rfl) (by kernel_rfl) (by kernel_rfl) (fun _ _ _ h => h) ?hwT2 ?hyT2 hHeld ?_
  case hiT2 => (simp only [List.getElem?_toArray, List.getElem?_cons_succ, List.getElem?_cons_zero]; with_reducible rfl)
  case hdT2 => rfl
  case hwT2 => rfl
  case hyT2 => (intro w hSw; (try dsimp only at hSw); go_simp; first | done | with_reducible rfl)
  try simp only [Act.put]
  try simp only [List.setIfInBounds_toArray, List.set_cons_zero, List.set_cons_succ]
  refine takeW 2 (some 10) (oi := ?oT3) (v := ?vT3) ?hiT3 ?hdT3 (by kernel_rfl) (by kernel_rfl) (by kernel_rfl) (fun _ _ _ h => h) ?hwT3 ?hyT3 hHeld ?_
  case hiT3 => (simp only [List.getElem?_toArray, List.getElem?_cons_succ, List.getElem?_cons_zero]; with_reducible rfl)
  case hdT3 => rfl
  case hwT3 => rfl
  case hyT3 => (intro w hSw; (try dsimp only at hSw); go_simp; first | done | with_reducible rfl)
  try simp only [Act.put]
  try simp only [List.setIfInBounds_toArray, List.set_cons_zero, List.set_cons_succ]
  refine takeW 3 (some 11) (oi := ?oT4) (v := ?vT4) ?hiT4 ?hdT4 (by kernel_rfl) (by kernel_rfl) (by kernel_rfl) (fun _ _ _ h => h) ?hwT4 ?hyT4 hHeld ?_
  case hiT4 => (simp only [List.getElem?_toArray, List.getElem?_cons_succ, List.getElem?_cons_zero]; with_reducible rfl)
  case hdT4 => rfl
  case hwT4 => rfl
  case hyT4 => (intro w hSw; (try dsimp only at hSw); go_simp; first | done | with_reducible rfl)
  try simp only [Act.put]
  try simp only [List.setIfInBounds_toArray, List.set_cons_zero, List.set_cons_succ]
  refine takeW 4 (some 12) (oi := ?oT5) (v := ?vT5) ?hiT5 ?hdT5 (by kernel_rfl) (by kernel_rfl) (by kernel_rfl) (fun _ _ _ h => h) ?hwT5 ?hyT5 hHeld ?_
  case hiT5 => (simp only [List.getElem?_toArray, List.getElem?_cons_succ, List.getElem?_cons_zero]; with_reducible rfl)
  case hdT5 => rfl
  case hwT5 => rfl
  case hyT5 => (intro w hSw; (try dsimp only at hSw); go_simp; first | done | with_reducible rfl)
  try simp only [Act.put]
  try simp only [List.setIfInBounds_toArray, List.set_cons_zero, List.set_cons_succ]
  refine takeW 5 (some 13) (oi := ?oT6) (v := ?vT6) ?hiT6 ?hdT6 (by kernel_rfl) (by kernel_rfl) (by kernel_rfl) (fun _ _ _ h => h) ?hwT6 ?hyT6 hHeld ?_
  case hiT6 => (simp only [List.getElem?_toArray, List.getElem?_cons_succ, List.getElem?_cons_zero]; with_reducible rfl)
  case hdT6 => rfl
  case hwT6 => rfl
  case hyT6 => (intro w hSw; (try dsimp only at hSw); go_simp; first | done | with_reducible rfl)
  try simp only [Act.put]
  try simp only [List.setIfInBounds_toArray, List.set_cons_zero, List.set_cons_succ]
  refine takeW 6 (some 14) (oi := ?oT7) (v := ?vT7) ?hiT7 ?hdT7 (by kernel_rfl) (by kernel_rfl) (by kernel_rfl) (fun _ _ _ h => h) ?hwT7 ?hyT7 hHeld ?_
  case hiT7 => (simp only [List.getElem?_toArray, List.getElem?_cons_succ, List.getElem?_cons_zero]; with_reducible rfl)
  case hdT7 => rfl
  case hwT7 => rfl
  case hyT7 => (intro w hSw; (try dsimp only at hSw); go_simp; first | done | with_reducible rfl)
  try simp only [Act.put]
  try simp only [List.setIfInBounds_toArray, List.set_cons_zero, List.set_cons_succ]
  refine takeW 7 (some 15) (oi := ?oT8) (v := ?vT8) ?hiT8 ?hdT8 (by kernel_rfl) (by kernel_rfl) (by kernel_rfl) (fun _ _ _ h => h) ?hwT8 ?hyT8 hHeld ?_
  case hiT8 => (simp only [List.getElem?_toArray, List.getElem?_cons_succ, List.getElem?_cons_zero]; with_reducible rfl)
  case hdT8 => rfl
  case hwT8 => rfl
  case hyT8 => (intro w hSw; (try dsimp only at hSw); go_simp; first | done | with_reducible rfl)
  try simp only [Act.put]
  try simp only [List.setIfInBounds_toArray, List.set_cons_zero, List.set_cons_succ]
  refine takeW 8 (some 16) (oi := ?oT9) (v := ?vT9) ?hiT9 ?hdT9 (by kernel_rfl) (by kernel_rfl) (by kernel_rfl) (fun _ _ _ h => h) ?hwT9 ?hyT9 hHeld ?_
  case hiT9 => (simp only [List.getElem?_toArray, List.getElem?_cons_succ, List.getElem?_cons_zero]; with_reducible rfl)
  case hdT9 => rfl
  case hwT9 => rfl
  case hyT9 => (intro w hSw; (try dsimp only at hSw); go_simp; first | done | with_reducible rfl)
  try simp only [Act.put]
  try simp only [List.setIfInBounds_toArray, List.set_cons_zero, List.set_cons_succ]
  refine stepOne 9 (o := ?oT10) ?hiT10 (by kernel_rfl) ?hwT10 (fun K hK => ?_)
  case hiT10 => (simp only [List.getElem?_toArray, List.getElem?_cons_succ, List.getElem?_cons_zero]; with_reducible rfl)
  case hwT10 => rfl
  go_simp
  go_at_call 37
  refine (C1.out _).mono ?_
  rintro e w1 ⟨v1, rfl, ho1, hb1⟩
  have HB1 : Hid (Below w.heap.size w w1) := Lib.hid ((Below.refl w.heap.size w).drew.trans hb1)
  have HO1 := Lib.hid ho1.bytes
  clear ho1 hb1
  refine hK.out _ _ ?_ (fun hHeld => ?_)
  · exact HST.out _ (HK.out.under HB1.out)
  clear hK K
  try simp only [Act.put]
  try simp only [List.setIfInBounds_toArray, List.set_cons_zero, List.set_cons_succ]
  refine stepOne 10 (o := ?oT11) ?hiT11 (by kernel_rfl) ?hwT11 (fun K hK => ?_)
  case hiT11 => (simp only [List.getElem?_toArray, List.getElem?_cons_succ, List.getElem?_cons_zero]; with_reducible rfl)
  case hwT11 => rfl
  go_simp
  go_at_call 58
  refine (C2.out _ _ (HF.out.under HB1.out) HO1.out).mono ?_
  rintro e w2 ⟨rfl, hf2, hkp2⟩
  have HF2 := Lib.hid hf2
  have HKP2 := Lib.hid ((Kept.of_below HF.out HB1.out).trans hkp2)
  clear hf2 hkp2
  have HBK := Lib.hid (HKP2.out.blk HG.out HK.out)
  refine hK.out _ _ ?_ (fun hHeld => ?_)
  · exact HST.out _ (HBK.out)
  clear hK K
  try simp only [Act.put]
  try simp only [List.setIfInBounds_toArray, List.set_cons_zero, List.set_cons_succ]
  refine takeW 11 (some 7) (oi := ?oT12) (v := ?vT12) ?hiT12 ?hdT12 (by kernel_rfl) (by kernel_rfl) (by kernel_rfl) (fun _ _ _ h => h) ?hwT12 ?hyT12 hHeld ?_
  case hiT12 => (simp only [List.getElem?_toArray, List.getElem?_cons_succ, List.getElem?_cons_zero]; with_reducible rfl)
  case hdT12 => rfl
  case hwT12 => rfl
  case hyT12 => (intro w hSw; (try dsimp only at hSw); go_simp; first | done | with_reducible rfl)
  try simp only [Act.put]
  try simp only [List.setIfInBounds_toArray, List.set_cons_zero, List.set_cons_succ]
  refine takeW 12 (some 19) (oi := ?oT13) (v := ?vT13) ?hiT13 ?hdT13 (by kernel_rfl) (by kernel_rfl) (by kernel_rfl) (fun _ _ _ h => h) ?hwT13 ?hyT13 hHeld ?_
  case hiT13 => (simp only [List.getElem?_toArray, List.getElem?_cons_succ, List.getElem?_cons_zero]; with_reducible rfl)
  case hdT13 => rfl
  case hwT13 => rfl
  case hyT13 => (intro w hSw; (try dsimp only at hSw); go_simp; first | done | with_reducible rfl)
  try simp only [Act.put]
  try simp only [List.setIfInBounds_toArray, List.set_cons_zero, List.set_cons_succ]
  refine takeW 13 (some 20) (oi := ?oT14) (v := ?vT14) ?hiT14 ?hdT14 (by kernel_rfl) (by kernel_rfl) (by kernel_rfl) (fun _ _ _ h => h) ?hwT14 ?hyT14 hHeld ?_
  case hiT14 => (simp only [List.getElem?_toArray, List.getElem?_cons_succ, List.getElem?_cons_zero]; with_reducible rfl)
  case hdT14 => rfl
  case hwT14 => rfl
  case hyT14 => (intro w hSw; (try dsimp only at hSw); go_simp; first | done | with_reducible rfl)
  try simp only [Act.put]
  try simp only [List.setIfInBounds_toArray, List.set_cons_zero, List.set_cons_succ]
  refine takeW 14 (some 5) (oi := ?oT15) (v := ?vT15) ?hiT15 ?hdT15 (by kernel_rfl) (by kernel_rfl) (by kernel_rfl) (fun _ _ _ h => h) ?hwT15 ?hyT15 hHeld ?_
  case hiT15 => (simp only [List.getElem?_toArray, List.getElem?_cons_succ, List.getElem?_cons_zero]; with_reducible rfl)
  case hdT15 => rfl
  case hwT15 => rfl
  case hyT15 => (intro w hSw; (try dsimp only at hSw); go_simp; first | done | with_reducible rfl)
  try simp only [Act.put]
  try simp only [List.setIfInBounds_toArray, List.set_cons_zero, List.set_cons_succ]
  refine takeW 15 (some 6) (oi := ?oT16) (v := ?vT16) ?hiT16 ?hdT16 (by kernel_rfl) (by kernel_rfl) (by kernel_rfl) (fun _ _ _ h => h) ?hwT16 ?hyT16 hHeld ?_
  case hiT16 => (simp only [List.getElem?_toArray, List.getElem?_cons_succ, List.getElem?_cons_zero]; with_reducible rfl)
  case hdT16 => rfl
  case hwT16 => rfl
  case hyT16 => (intro w hSw; (try dsimp only at hSw); go_simp; first | done | with_reducible rfl)
  try simp only [Act.put]
  try simp only [List.setIfInBounds_toArray, List.set_cons_zero, List.set_cons_succ]
  refine wpAnyH_done (by kernel_rfl) ?_ _
  refine NoPanic.normal ?_
  skip
  have f7 := HBK.out.free 7
  have c7 := blk_cell HBK.out 7 rfl
  by_cases hz : n = 0
  · subst hz
    have HV2 := Lib.hid (HV.out.trans (if_pos rfl))
    have HX1 := Lib.hid (HF2.out.set HG.out HG0.out 7 (.int .i64 3))
    have HX2 := Lib.hid (blk_put HBK.out 7 (.int .i64 3) (l' := swC ⟨fl, stp, ⟨a, b, c, d⟩, tp, 3, td⟩ r) rfl)
    have HX3 := Lib.hid (HKP2.out.but.trans (Kept.set K w2 g 7 (.int .i64 3)))
    go_wp2
    go_ret
    exact StepIs.of HV2.out rfl HX1.out HX2.out HX3.out
  · have HV2 := Lib.hid (HV.out.trans (if_neg hz))
    have hzI := natz hz
    clear hz
    go_wp2
    go_ret
    exact StepIs.of HV2.out rfl HF2.out HBK.out HKP2.out.but

set_option maxRecDepth 100000 in
set_option maxHeartbeats 4000000 in
theorem swmove_any {K : Nat → Prop} {w0 w : World} {p g : Nat} {s : S} (ty : TypeId) (x : Sw) (r : List Value) (h : Fk K w0 w p s) (hg : K g) (hg0 : w0.heap.size ≤ g) (hk : Blk w g ty (swC x r).toArray) (hf : Nice x.file) (ht : Nice x.temp) (hnx : s.next ≤ 1073741824) (hu : used s.l ≤ 274877906944) :
    Calls Tryz.prog 41 #[.pointer (some ⟨g, 0, none⟩), .pointer (some ⟨p, 0, none⟩)] w (StepIs K w0 w p g ty r (x.mv s)) := by
  obtain ⟨fl, stp, ⟨a, b, c, d⟩, tp, nx, td⟩ := x
  have HF := Lib.hid h
  have HG := Lib.hid hg
  have HG0 := Lib.hid hg0
  have HK := Lib.hid hk
  have C2 : Hid (∀ W v, Fk K w0 W p s → RdG W v [(fl, stp)] → Calls Tryz.prog 59 #[.pointer (some ⟨p, 0, none⟩), .string (str tp), .string (str fl), v] W fun e w' => e = .returned (.tuple #[.int .i64 (((Sf.move s tp fl [(fl, stp)]).2.1 : Nat) : Int), .int .i64 (((Sf.move s tp fl [(fl, stp)]).2.2 : Nat) : Int)]) ∧ Fk K w0 w' p (Sf.move s tp fl [(fl, stp)]).1 ∧ Kept K W w') := Lib.hid fun W v hh hb => fk_move tp fl _ v hh ht hf hb (by simpa using hf) hnx hu
  have HV : Hid (Sw.mv s ⟨fl, stp, ⟨a, b, c, d⟩, tp, nx, td⟩ = if (Sf.move s tp fl [(fl, stp)]).2.2 = 0 then ((Sf.move s tp fl [(fl, stp)]).1, ⟨fl, ((Sf.move s tp fl [(fl, stp)]).2.1 : Int), ⟨a, b, c, d⟩, tp, nx, td⟩, 1) else ((Sf.move s tp fl [(fl, stp)]).1, ⟨fl, stp, ⟨a, b, c, d⟩, tp, 4, td⟩, 0)) := Lib.hid rfl
  obtain ⟨s1, hs1⟩ : ∃ n, (Sf.move s tp fl [(fl, stp)]).1 = n := ⟨_, rfl⟩
  obtain ⟨n1, hn1⟩ : ∃ n, (Sf.move s tp fl [(fl, stp)]).2.1 = n := ⟨_, rfl⟩
  obtain ⟨n, hn⟩ : ∃ n, (Sf.move s tp fl [(fl, stp)]).2.2 = n := ⟨_, rfl⟩
  rw [hs1, hn1, hn] at HV
  rw [hs1, hn1, hn] at C2
  have k0 := blk_cell (v := .string (str fl)) hk 0 rfl
  have k1 := blk_cell (v := .int .i64 stp) hk 1 rfl
  have k6 := blk_cell (v := .string (str tp)) hk 6 rfl
  have HST : Hid (∀ W, Blk W g ty (swC ⟨fl, stp, ⟨a, b, c, d⟩, tp, nx, td⟩ r).toArray → W.cell? ⟨g, 0, none⟩ = some (.string (str fl)) ∧ W.cell? ⟨g, 1, none⟩ = some (.int .i64 stp) ∧ W.cell? ⟨g, 6, none⟩ = some (.string (str tp))) := Lib.hid fun W h => ⟨blk_cell h 0 rfl, blk_cell h 1 rfl, blk_cell h 6 rfl⟩
  have HRD : Hid (RdG (w.drew.alloc (.cells #[.string (str fl), .int .i64 stp] 28)) (.slice (some ⟨w.heap.size, 0, none⟩) 1 1) [(fl, stp)]) := Lib.hid (rdG_one w.drew fl stp)
  obtain ⟨T, hT⟩ : ∃ T, str tp = T := ⟨_, rfl⟩
  obtain ⟨FL, hFL⟩ : ∃ T, str fl = T := ⟨_, rfl⟩
  rw [hT, hFL] at C2 HST
  rw [hT] at k6
  rw [hFL] at k0 HRD
  have HB1 : Hid (Below w.heap.size w (w.drew.alloc (.cells #[.string FL, .int .i64 stp] 28))) := Lib.hid ((Below.refl w.heap.size w).drew.alloc (Nat.le_refl _) _)
  clear h hg hg0 hk hf ht hnx hu hs1 hn1 hn hT hFL
  go_enter Tryz.func41, Tryz.ntmps41
  go_upto_region 1 with fail
  refine wp_region_noPanic ?_
  refine wp_region_held_drew (S := fun w' => w'.cell? ⟨g, 0, none⟩ = some (.string FL) ∧ w'.cell? ⟨g, 1, none⟩ = some (.int .i64 stp) ∧ w'.cell? ⟨g, 6, none⟩ = some (.string T)) (by kernel_rfl) (⟨k0, k1, k6⟩) (fun hHeld => ?_)
  refine takeW 0 (some 8) (oi := ?oT17) (v := ?vT17) ?hiT17 ?hdT17 (by kernel_rfl) (by kernel_rfl) (by kernel_rfl) (fun _ _ _ h => h) ?hwT17 ?hyT17 hHeld ?_
  case hiT17 => (simp only [List.getElem?_toArray, List.getElem?_cons_zero]; with_reducible rfl)
  case hdT17 => rfl
  case hwT17 => rfl
  case hyT17 => (intro w hSw; (try dsimp only at hSw); go_simp; first | done | with_reducible rfl)
  try simp only [Act.put]
  try simp only [List.setIfInBounds_toArray, List.set_cons_zero, List.set_cons_succ]
  refine takeW 1 (some 9) (oi := ?oT18) (v := ?vT18) ?hiT18 ?hdT18 (by kernel_rfl) (by kernel_rfl) (by kernel_rfl) (fun _ _ _ h => h) ?hwT18 ?hyT18 hHeld ?_
  case hiT18 => (simp only [List.getElem?_toArray, List.getElem?_cons_succ, List.getElem?_cons_zero]; with_reducible rfl)
  case hdT18 => rfl
  case hwT18 => rfl
  case hyT18 => (intro w hSw; (try dsimp only at hSw); go_simp; first | done | with_reducible rfl)
  try simp only [Act.put]
  try simp only [List.setIfInBounds_toArray, List.set_cons_zero, List.set_cons_succ]
  refine takeW 2 (some 10) (oi := ?oT19) (v := ?vT19) ?hiT19 ?hdT19 (by kernel_rfl) (by kernel_rfl) (by kernel_rfl) (fun _ _ _ h => h) ?hwT19 ?hyT19 hHeld ?_
  case hiT19 => (simp only [List.getElem?_toArray, List.getElem?_cons_succ, List.getElem?_cons_zero]; with_reducible rfl)
  case hdT19 => rfl
  case hwT19 => rfl
  case hyT19 => (intro w hSw; (try dsimp only at hSw); go_simp; first | done | with_reducible rfl)
  try simp only [Act.put]
  try simp only [List.setIfInBounds_toArray, List.set_cons_zero, List.set_cons_succ]
  refine takeW 3 (some 11) (oi := ?oT20) (v := ?vT20) ?hiT20 ?hdT20 (by kernel_rfl) (by kernel_rfl) (by kernel_rfl) (fun _ _ _ h => h) ?hwT20 ?hyT20 hHeld ?_
  case hiT20 => (simp only [List.getElem?_toArray, List.getElem?_cons_succ, List.getElem?_cons_zero]; with_reducible rfl)
  case hdT20 => rfl
  case hwT20 => rfl
  case hyT20 => (intro w hSw; (try dsimp only at hSw); go_simp; first | done | with_reducible rfl)
  try simp only [Act.put]
  try simp only [List.setIfInBounds_toArray, List.set_cons_zero, List.set_cons_succ]
  refine takeW 4 (some 12) (oi := ?oT21) (v := ?vT21) ?hiT21 ?hdT21 (by kernel_rfl) (by kernel_rfl) (by kernel_rfl) (fun _ _ _ h => h) ?hwT21 ?hyT21 hHeld ?_
  case hiT21 => (simp only [List.getElem?_toArray, List.getElem?_cons_succ, List.getElem?_cons_zero]; with_reducible rfl)
  case hdT21 => rfl
  case hwT21 => rfl
  case hyT21 => (intro w hSw; (try dsimp only at hSw); go_simp; first | done | with_reducible rfl)
  try simp only [Act.put]
  try simp only [List.setIfInBounds_toArray, List.set_cons_zero, List.set_cons_succ]
  refine takeW 5 (some 13) (oi := ?oT22) (v := ?vT22) ?hiT22 ?hdT22 (by kernel_rfl) (by kernel_rfl) (by kernel_rfl) (fun _ _ _ h => h) ?hwT22 ?hyT22 hHeld ?_
  case hiT22 => (simp only [List.getElem?_toArray, List.getElem?_cons_succ, List.getElem?_cons_zero]; with_reducible rfl)
  case hdT22 => rfl
  case hwT22 => rfl
  case hyT22 => (intro w hSw; (try dsimp only at hSw); go_simp; first | done | with_reducible rfl)
  try simp only [Act.put]
  try simp only [List.setIfInBounds_toArray, List.set_cons_zero, List.set_cons_succ]
  refine takeW 6 (some 14) (oi := ?oT23) (v := ?vT23) ?hiT23 ?hdT23 (by kernel_rfl) (by kernel_rfl) (by kernel_rfl) (fun _ _ _ h => h) ?hwT23 ?hyT23 hHeld ?_
  case hiT23 => (simp only [List.getElem?_toArray, List.getElem?_cons_succ, List.getElem?_cons_zero]; with_reducible rfl)
  case hdT23 => rfl
  case hwT23 => rfl
  case hyT23 => (intro w hSw; (try dsimp only at hSw); go_simp; first | done | with_reducible rfl)
  try simp only [Act.put]
  try simp only [List.setIfInBounds_toArray, List.set_cons_zero, List.set_cons_succ]
  refine takeW 7 (some 15) (oi := ?oT24) (v := ?vT24) ?hiT24 ?hdT24 (by kernel_rfl) (by kernel_rfl) (by kernel_rfl) (fun _ _ _ h => h) ?hwT24 ?hyT24 hHeld ?_
  case hiT24 => (simp only [List.getElem?_toArray, List.getElem?_cons_succ, List.getElem?_cons_zero]; with_reducible rfl)
  case hdT24 => rfl
  case hwT24 => rfl
  case hyT24 => (intro w hSw; (try dsimp only at hSw); go_simp; first | done | with_reducible rfl)
  try simp only [Act.put]
  try simp only [List.setIfInBounds_toArray, List.set_cons_zero, List.set_cons_succ]
  refine takeW 8 (some 16) (oi := ?oT25) (v := ?vT25) ?hiT25 ?hdT25 (by kernel_rfl) (by kernel_rfl) (by kernel_rfl) (fun _ _ _ h => h) ?hwT25 ?hyT25 hHeld ?_
  case hiT25 => (simp only [List.getElem?_toArray, List.getElem?_cons_succ, List.getElem?_cons_zero]; with_reducible rfl)
  case hdT25 => rfl
  case hwT25 => rfl
  case hyT25 => (intro w hSw; (try dsimp only at hSw); go_simp; first | done | with_reducible rfl)
  try simp only [Act.put]
  try simp only [List.setIfInBounds_toArray, List.set_cons_zero, List.set_cons_succ]
  refine takeW 9 (some 17) (oi := ?oT26) (v := ?vT26) ?hiT26 ?hdT26 (by kernel_rfl) (by kernel_rfl) (by kernel_rfl) (fun _ _ _ h => h) ?hwT26 ?hyT26 hHeld ?_
  case hiT26 => (simp only [List.getElem?_toArray, List.getElem?_cons_succ, List.getElem?_cons_zero]; with_reducible rfl)
  case hdT26 => rfl
  case hwT26 => rfl
  case hyT26 => (intro w hSw; (try dsimp only at hSw); go_simp; first | done | with_reducible rfl)
  try simp only [Act.put]
  try simp only [List.setIfInBounds_toArray, List.set_cons_zero, List.set_cons_succ]
  refine takeW 10 (some 18) (oi := ?oT27) (v := ?vT27) ?hiT27 ?hdT27 (by kernel_rfl) (by kernel_rfl) (by kernel_rfl) (fun _ _ _ h => h) ?hwT27 ?hyT27 hHeld ?_
  case hiT27 => (simp only [List.getElem?_toArray, List.getElem?_cons_succ, List.getElem?_cons_zero]; with_reducible rfl)
  case hdT27 => rfl
  case hwT27 => rfl
  case hyT27 => (intro w hSw; (try dsimp only at hSw); go_simp; first | done | with_reducible rfl)
  try simp only [Act.put]
  try simp only [List.setIfInBounds_toArray, List.set_cons_zero, List.set_cons_succ]
  refine takeW 11 (some 19) (oi := ?oT28) (v := ?vT28) ?hiT28 ?hdT28 (by kernel_rfl) (by kernel_rfl) (by kernel_rfl) (fun _ _ _ h => h) ?hwT28 ?hyT28 hHeld ?_
  case hiT28 => (simp only [List.getElem?_toArray, List.getElem?_cons_succ, List.getElem?_cons_zero]; with_reducible rfl)
  case hdT28 => rfl
  case hwT28 => rfl
  case hyT28 => (intro w hSw; (try dsimp only at hSw); go_simp; first | done | with_reducible rfl)
  try simp only [Act.put]
  try simp only [List.setIfInBounds_toArray, List.set_cons_zero, List.set_cons_succ]
  refine takeW 12 (some 20) (oi := ?oT29) (v := ?vT29) ?hiT29 ?hdT29 (by kernel_rfl) (by kernel_rfl) (by kernel_rfl) (fun _ _ _ h => h) ?hwT29 ?hyT29 hHeld ?_
  case hiT29 => (simp only [List.getElem?_toArray, List.getElem?_cons_succ, List.getElem?_cons_zero]; with_reducible rfl)
  case hdT29 => rfl
  case hwT29 => rfl
  case hyT29 => (intro w hSw; (try dsimp only at hSw); go_simp; first | done | with_reducible rfl)
  try simp only [Act.put]
  try simp only [List.setIfInBounds_toArray, List.set_cons_zero, List.set_cons_succ]
  refine takeW 13 (some 21) (oi := ?oT30) (v := ?vT30) ?hiT30 ?hdT30 (by kernel_rfl) (by kernel_rfl) (by kernel_rfl) (fun _ _ _ h => h) ?hwT30 ?hyT30 hHeld ?_
  case hiT30 => (simp only [List.getElem?_toArray, List.getElem?_cons_succ, List.getElem?_cons_zero]; with_reducible rfl)
  case hdT30 => rfl
  case hwT30 => rfl
  case hyT30 => (intro w hSw; (try dsimp only at hSw); go_simp; first | done | with_reducible rfl)
  try simp only [Act.put]
  try simp only [List.setIfInBounds_toArray, List.set_cons_zero, List.set_cons_succ]
  refine stepOne 14 (o := ?oT31) ?hiT31 (by kernel_rfl) ?hwT31 (fun K hK => ?_)
  case hiT31 => (simp only [List.getElem?_toArray, List.getElem?_cons_succ, List.getElem?_cons_zero]; with_reducible rfl)
  case hwT31 => rfl
  go_simp
  refine hK.out _ _ ?_ (fun hHeld => ?_)
  · exact HST.out _ (HK.out.under HB1.out)
  clear hK K
  try simp only [Act.put]
  try simp only [List.setIfInBounds_toArray, List.set_cons_zero, List.set_cons_succ]
  refine stepOne 15 (o := ?oT32) ?hiT32 (by kernel_rfl) ?hwT32 (fun K hK => ?_)
  case hiT32 => (simp only [List.getElem?_toArray, List.getElem?_cons_succ, List.getElem?_cons_zero]; with_reducible rfl)
  case hwT32 => rfl
  go_simp
  go_at_call 59
  refine (C2.out _ _ (HF.out.under HB1.out) HRD.out).mono ?_
  rintro e w2 ⟨rfl, hf2, hkp2⟩
  have HF2 := Lib.hid hf2
  have HKP2 := Lib.hid ((Kept.of_below HF.out HB1.out).trans hkp2)
  clear hf2 hkp2
  have HBK := Lib.hid (HKP2.out.blk HG.out HK.out)
  refine hK.out _ _ ?_ (fun hHeld => ?_)
  · exact HST.out _ (HBK.out)
  clear hK K
  try simp only [Act.put]
  try simp only [List.setIfInBounds_toArray, List.set_cons_zero, List.set_cons_succ]
  refine takeW 16 (some 7) (oi := ?oT33) (v := ?vT33) ?hiT33 ?hdT33 (by kernel_rfl) (by kernel_rfl) (by kernel_rfl) (fun _ _ _ h => h) ?hwT33 ?hyT33 hHeld ?_
  case hiT33 => (simp only [List.getElem?_toArray, List.getElem?_cons_succ, List.getElem?_cons_zero]; with_reducible rfl)
  case hdT33 => rfl
  case hwT33 => rfl
  case hyT33 => (intro w hSw; (try dsimp only at hSw); go_simp; first | done | with_reducible rfl)
  try simp only [Act.put]
  try simp only [List.setIfInBounds_toArray, List.set_cons_zero, List.set_cons_succ]
  refine takeW 17 (some 24) (oi := ?oT34) (v := ?vT34) ?hiT34 ?hdT34 (by kernel_rfl) (by kernel_rfl) (by kernel_rfl) (fun _ _ _ h => h) ?hwT34 ?hyT34 hHeld ?_
  case hiT34 => (simp only [List.getElem?_toArray, List.getElem?_cons_succ, List.getElem?_cons_zero]; with_reducible rfl)
  case hdT34 => rfl
  case hwT34 => rfl
  case hyT34 => (intro w hSw; (try dsimp only at hSw); go_simp; first | done | with_reducible rfl)
  try simp only [Act.put]
  try simp only [List.setIfInBounds_toArray, List.set_cons_zero, List.set_cons_succ]
  refine takeW 18 (some 25) (oi := ?oT35) (v := ?vT35) ?hiT35 ?hdT35 (by kernel_rfl) (by kernel_rfl) (by kernel_rfl) (fun _ _ _ h => h) ?hwT35 ?hyT35 hHeld ?_
  case hiT35 => (simp only [List.getElem?_toArray, List.getElem?_cons_succ, List.getElem?_cons_zero]; with_reducible rfl)
  case hdT35 => rfl
  case hwT35 => rfl
  case hyT35 => (intro w hSw; (try dsimp only at hSw); go_simp; first | done | with_reducible rfl)
  try simp only [Act.put]
  try simp only [List.setIfInBounds_toArray, List.set_cons_zero, List.set_cons_succ]
  refine takeW 19 (some 5) (oi := ?oT36) (v := ?vT36) ?hiT36 ?hdT36 (by kernel_rfl) (by kernel_rfl) (by kernel_rfl) (fun _ _ _ h => h) ?hwT36 ?hyT36 hHeld ?_
  case hiT36 => (simp only [List.getElem?_toArray, List.getElem?_cons_succ, List.getElem?_cons_zero]; with_reducible rfl)
  case hdT36 => rfl
  case hwT36 => rfl
  case hyT36 => (intro w hSw; (try dsimp only at hSw); go_simp; first | done | with_reducible rfl)
  try simp only [Act.put]
  try simp only [List.setIfInBounds_toArray, List.set_cons_zero, List.set_cons_succ]
  refine takeW 20 (some 6) (oi := ?oT37) (v := ?vT37) ?hiT37 ?hdT37 (by kernel_rfl) (by kernel_rfl) (by kernel_rfl) (fun _ _ _ h => h) ?hwT37 ?hyT37 hHeld ?_
  case hiT37 => (simp only [List.getElem?_toArray, List.getElem?_cons_succ, List.getElem?_cons_zero]; with_reducible rfl)
  case hdT37 => rfl
  case hwT37 => rfl
  case hyT37 => (intro w hSw; (try dsimp only at hSw); go_simp; first | done | with_reducible rfl)
  try simp only [Act.put]
  try simp only [List.setIfInBounds_toArray, List.set_cons_zero, List.set_cons_succ]
  refine wpAnyH_done (by kernel_rfl) ?_ _
  refine NoPanic.normal ?_
  skip
  have f1 := HBK.out.free 1
  have c1 := blk_cell HBK.out 1 rfl
  have f7 := HBK.out.free 7
  have c7 := blk_cell HBK.out 7 rfl
  by_cases hz : n = 0
  · subst hz
    have HV2 := Lib.hid (HV.out.trans (if_pos rfl))
    have HX1 := Lib.hid (HF2.out.set HG.out HG0.out 1 (.int .i64 (n1 : Int)))
    have HX2 := Lib.hid (blk_put HBK.out 1 (.int .i64 (n1 : Int)) (l' := swC ⟨fl, (n1 : Int), ⟨a, b, c, d⟩, tp, nx, td⟩ r) rfl)
    have HX3 := Lib.hid (HKP2.out.but.trans (Kept.set K w2 g 1 (.int .i64 (n1 : Int))))
    go_wp2
    go_ret
    exact StepIs.of HV2.out rfl HX1.out HX2.out HX3.out
  · have HV2 := Lib.hid (HV.out.trans (if_neg hz))
    have HX1 := Lib.hid (HF2.out.set HG.out HG0.out 7 (.int .i64 4))
    have HX2 := Lib.hid (blk_put HBK.out 7 (.int .i64 4) (l' := swC ⟨fl, stp, ⟨a, b, c, d⟩, tp, 4, td⟩ r) rfl)
    have HX3 := Lib.hid (HKP2.out.but.trans (Kept.set K w2 g 7 (.int .i64 4)))
    have hzI := natz hz
    clear hz
    go_wp2
    go_ret
    exact StepIs.of HV2.out rfl HX1.out HX2.out HX3.out

set_option maxHeartbeats 4000000 in
theorem swdo_any {K : Nat → Prop} {w0 w : World} {p g : Nat} {s : S} (ty : TypeId) (x : Sw) (r : List Value) (h : Fk K w0 w p s) (hg : K g) (hg0 : w0.heap.size ≤ g) (hk : Blk w g ty (swC x r).toArray) (hf : Nice x.file) (ht : Nice x.temp) (hnx : s.next ≤ 1073741824) (hu : used s.l + 34 ≤ 274877906944) :
    Calls Tryz.prog 27 #[.pointer (some ⟨g, 0, none⟩), .pointer (some ⟨p, 0, none⟩)] w (StepIs K w0 w p g ty r (x.doo s)) := by
  have P1 := Lib.hid (swput_any ty x r h hg hg0 hk ht hnx hu)
  have P2 := Lib.hid (swmove_any ty x r h hg hg0 hk hf ht hnx (by omega))
  have P3 := Lib.hid (fk_drop x.temp [] (.slice none 0 0) h ht (rdG_none _ 0 none) (by simp) (by omega))
  have k7 := blk_cell (v := .int .i64 (x.next : Int)) hk 7 rfl
  have k6 := blk_cell (v := .string (str x.temp)) hk 6 rfl
  have HV : Hid (x.doo s = if x.next = 2 then x.put s else if x.next = 3 then x.mv s else ((Sf.drop s x.temp []).1, x, 2)) := Lib.hid rfl
  have HG := Lib.hid hg
  have HK := Lib.hid hk
  obtain ⟨n, hn⟩ : ∃ n, x.next = n := ⟨_, rfl⟩
  rw [hn] at k7 HV
  clear h hg hg0 hk hf ht hnx hu hn
  go_enter Tryz.func27, Tryz.ntmps27
  by_cases h2 : n = 2
  · subst h2
    rw [HV.out, if_pos rfl]
    clear HV
    go_wp2_with fail
    refine P1.out.mono ?_
    rintro e w1 ⟨rfl, h1, h2, h3⟩
    have H := Lib.hid (And.intro h1 (And.intro h2 h3))
    clear h1 h2 h3
    go_wp2
    go_ret
    exact ⟨rfl, H.out⟩
  · rw [HV.out, if_neg h2]
    have h2I : ((n : Int) == 2) = false := by simp; omega
    clear h2
    by_cases h3 : n = 3
    · subst h3
      rw [if_pos rfl]
      clear HV
      go_wp2_with fail
      refine P2.out.mono ?_
      rintro e w1 ⟨rfl, h1, h2, h3⟩
      have H := Lib.hid (And.intro h1 (And.intro h2 h3))
      clear h1 h2 h3
      go_wp2
      go_ret
      exact ⟨rfl, H.out⟩
    · rw [if_neg h3]
      have h3I : ((n : Int) == 3) = false := by simp; omega
      clear h3 HV
      go_wp2_with fail
      refine P3.out.mono ?_
      rintro e w1 ⟨rfl, h1, h2⟩
      have H1 := Lib.hid h1
      have H2 := Lib.hid h2
      clear h1 h2
      go_wp2
      go_ret
      exact ⟨rfl, H1.out, H2.out.blk HG.out HK.out, H2.out.but⟩

theorem heap_alloc_new' (w : World) (o : Obj) {k : Nat} (h : k = w.heap.size) : (w.alloc o).heap[k]? = some o := by subst h; exact heap_alloc_new w o
theorem results_cct {P : Program} {fn : Func} {u p q : Tmp} {ty tz : TypeId} (h : fn.results = #[.cell p ty, .cell q tz, .tmp u]) (tmps : Array Value) (w : World) (g : Nat) (bt : TypeId) (cs : Array Value) (fr : Nat × Nat) (d : TypeDesc) (g2 : Nat) (bt2 : TypeId) (cs2 : Array Value) (fr2 : Nat × Nat) (d2 : TypeDesc)
    (hp : tmps.getD p undef = .pointer (some ⟨g, 0, none⟩)) (hg : w.heap[g]? = some (.cells cs bt fr)) (hq : tmps.getD q undef = .pointer (some ⟨g2, 0, none⟩)) (hg2 : w.heap[g2]? = some (.cells cs2 bt2 fr2))
    (hu : P.underlying ty = some d) (hd : (match d with | .struct _ | .array _ _ => true | _ => false) = true) (hi : (P.info? ty).map (·.size) = some cs.size)
    (hu2 : P.underlying tz = some d2) (hd2 : (match d2 with | .struct _ | .array _ _ => true | _ => false) = true) (hi2 : (P.info? tz).map (·.size) = some cs2.size) :
    (results fn tmps).run P w = .ok (.tuple #[.agg cs, .agg cs2, tmps.getD u undef]) w := by
  have hp' : tmps[p]?.getD undef = .pointer (some ⟨g, 0, none⟩) := by simpa using hp
  have hq' : tmps[q]?.getD undef = .pointer (some ⟨g2, 0, none⟩) := by simpa using hq
  simp [results, h, hp', hq', asAddr, run_loadVar_row w g bt ty cs fr d hg hu hd hi, run_loadVar_row w g2 bt2 tz cs2 fr2 d2 hg2 hu2 hd2 hi2]
abbrev guardV (t : List Nat) (k : Int) : Value := .agg #[.string (str t), .int .i64 k]
/-- What is told as held. -/
def heldV (t : List Nat) : Option (Int × Lo) → Value
  | some (k, l) => .tuple #[guardV t k, loV l, .bool true]
  | none => .tuple #[guardV [] 0, loV lo0, .bool false]
set_option maxRecDepth 100000 in
set_option maxHeartbeats 4000000 in
theorem swheld_any {w : World} {g : Nat} (ty : TypeId) (x : Sw) (r : List Value) (hk : Blk w g ty (swC x r).toArray) :
    Calls Tryz.prog 20 #[.pointer (some ⟨g, 0, none⟩)] w fun e w' => e = .returned (heldV x.file x.held) ∧ Below w.heap.size w w' := by
  obtain ⟨fl, stp, ⟨a, b, c, d⟩, tp, nx, td⟩ := x
  have k8 := blk_cell (v := .int .i64 (td : Int)) hk 8 rfl
  by_cases ht : td = 1
  · subst ht
    have HV : Hid (heldV fl (Sw.held ⟨fl, stp, ⟨a, b, c, d⟩, tp, nx, 1⟩) = .tuple #[guardV fl stp, loV (Lo.held ⟨a, b, c, d⟩), .bool true]) := Lib.hid rfl
    have C1 : Hid (∀ W, Calls Tryz.prog 37 #[lockV a b c d] W (Made W.heap.size (Lo.bytes ⟨a, b, c, d⟩) W)) := Lib.hid fun W => rlock_is a b c d _ W rfl
    have C2 : Hid (∀ W v, Bytes W v (Lo.bytes ⟨a, b, c, d⟩) → Calls Tryz.prog 36 #[v] W fun e w' => e = .returned (.tuple #[loV (Lo.held ⟨a, b, c, d⟩), .bool true]) ∧ Below W.heap.size W w') := Lib.hid fun W v h => (ropenL_any v _ W h (by rw [Lo.bytes_len]; omega) _ (Lo.opens _)).mono fun _ _ h => h
    obtain ⟨H, hH⟩ : ∃ H, Lo.held ⟨a, b, c, d⟩ = H := ⟨_, rfl⟩
    obtain ⟨B, hB⟩ : ∃ B, Lo.bytes ⟨a, b, c, d⟩ = B := ⟨_, rfl⟩
    rw [hH] at HV C2
    rw [hB] at C1 C2
    obtain ⟨ha, hb, hc, hd⟩ := H
    obtain ⟨W2, hW2⟩ : ∃ W, (w.alloc (.cells #[.string ⟨#[]⟩, .int .i64 0] 28)).alloc (.cells #[.int .i64 0, .int .i64 0, .int .i64 0, .int .i64 0] 30) = W := ⟨_, rfl⟩
    have HB2 : Hid (Below w.heap.size w W2) := Lib.hid (by rw [← hW2]; exact ((Below.refl _ _).alloc (Nat.le_refl _) _).alloc (by simp) _)
    have hk2 : Blk W2 g ty (swC ⟨fl, stp, ⟨a, b, c, d⟩, tp, nx, 1⟩ r).toArray := by rw [← hW2]; exact (hk.alloc _).alloc _
    have HK2 := Lib.hid hk2
    have hlt := hk.size
    have HQ2 : Hid (Blk W2 w.heap.size 28 #[.string ⟨#[]⟩, .int .i64 0]) := Lib.hid (by rw [← hW2]; exact Blk.alloc (heap_alloc_new w _) _)
    have HQ3 : Hid (Blk W2 (w.heap.size + 1) 30 #[.int .i64 0, .int .i64 0, .int .i64 0, .int .i64 0]) := Lib.hid (by rw [← hW2]; exact heap_alloc_new' _ _ (by simp))
    have j2 := blk_cell (v := .int .i64 a) hk2 2 rfl
    have j3 := blk_cell (v := .int .i64 b) hk2 3 rfl
    have j4 := blk_cell (v := .int .i64 c) hk2 4 rfl
    have j5 := blk_cell (v := .int .i64 d) hk2 5 rfl
    have j8 := blk_cell (v := .int .i64 ((1 : Nat) : Int)) hk2 8 rfl
    clear hk hk2 hH hB k8
    go_enter Tryz.func20, Tryz.ntmps20
    go_upto_region 3 with fail
    clear hW2
    obtain ⟨q2, hq2⟩ : ∃ q, w.heap.size = q := ⟨_, rfl⟩
    obtain ⟨q3, hq3⟩ : ∃ q, w.heap.size + 1 = q := ⟨_, rfl⟩
    rw [hq3, hq2]
    rw [hq2] at HQ2
    rw [hq3] at HQ3
    have HQS : Hid (w.heap.size = q2 ∧ q2 + 1 = q3 ∧ g < q2) := Lib.hid ⟨hq2, by omega, by omega⟩
    clear hq2 hq3 hlt
    go_wp2_with fail
    refine (C1.out W2).mono ?_
    rintro e w3 ⟨v3, rfl, ho3, hb3⟩
    have HB3 := Lib.hid hb3
    have HO3 := Lib.hid ho3.bytes
    clear ho3 hb3
    go_wp2_with fail
    refine (C2.out w3 v3 HO3.out).mono ?_
    rintro e w4 ⟨rfl, hb4⟩
    have HB4 : Hid (Below W2.heap.size W2 w4) := Lib.hid (HB3.out.trans (hb4.mono HB3.out.size))
    clear hb4 j2 j3 j4 j5 j8
    have HKE := Lib.hid (HK2.out.under HB4.out)
    have HQ2' := Lib.hid (HQ2.out.under HB4.out)
    have HQ3' := Lib.hid (HQ3.out.under HB4.out)
    go_upto_region 4 with fail
    obtain ⟨w5, hw5⟩ : ∃ w5, w4.alloc (.cells #[.int .i64 ha, .int .i64 hb, .int .i64 hc, .int .i64 hd] 30) = w5 := ⟨_, rfl⟩
    obtain ⟨q5, hq5⟩ : ∃ q, w4.heap.size = q := ⟨_, rfl⟩
    rw [hw5, hq5]
    have y5 : Blk w5 q5 30 #[.int .i64 ha, .int .i64 hb, .int .i64 hc, .int .i64 hd] := by rw [← hw5, ← hq5]; exact heap_alloc_new w4 _
    have y2 : Blk w5 q2 28 #[.string ⟨#[]⟩, .int .i64 0] := by rw [← hw5]; exact HQ2'.out.alloc _
    have y3 : Blk w5 q3 30 #[.int .i64 0, .int .i64 0, .int .i64 0, .int .i64 0] := by rw [← hw5]; exact HQ3'.out.alloc _
    have yk : Blk w5 g ty (swC ⟨fl, stp, ⟨a, b, c, d⟩, tp, nx, 1⟩ r).toArray := by rw [← hw5]; exact HKE.out.alloc _
    have HB5 : Hid (Below W2.heap.size W2 w5) := Lib.hid (by rw [← hw5]; exact HB4.out.alloc HB4.out.size _)
    clear hw5
    have i0 := blk_cell (v := .string (str fl)) yk 0 rfl
    have i1 := blk_cell (v := .int .i64 stp) yk 1 rfl
    have t0 := y5.at 0
    have t1 := y5.at 1
    have t2 := y5.at 2
    have t3 := y5.at 3
    have g0 := y2.at 0
    have g1 := y2.at 1
    have m0 := y3.at 0
    have m1 := y3.at 1
    have m2 := y3.at 2
    have m3 := y3.at 3
    have fg0 := y2.free 0
    have fg1 := y2.free 1
    have fm0 := y3.free 0
    have fm1 := y3.free 1
    have fm2 := y3.free 2
    have fm3 := y3.free 3
    have Y2 := Lib.hid y2
    have Y3 := Lib.hid y3
    have n1 : q2 ≠ q3 := by have := HQS.out; omega
    have n2 : q3 ≠ q2 := by have := HQS.out; omega
    have n3 : g ≠ q2 := by have := HQS.out; omega
    have n4 : g ≠ q3 := by have := HQS.out; omega
    have hl3 : q3 < w4.heap.size := HQ3'.out.size
    have n5 : q5 ≠ q2 := by rw [← hq5]; have := HQS.out; omega
    have n6 : q5 ≠ q3 := by rw [← hq5]; omega
    clear y5 y2 y3 yk hq5 hl3
    go_region
    clear i0 i1 t0 t1 t2 t3 g0 g1 m0 m1 m2 m3 fg0 fg1 fm0 fm1 fm2 fm3
    have HBW : Hid (Below w.heap.size w w5) := Lib.hid (HB2.out.trans (HB5.out.mono HB2.out.size))
    obtain ⟨hwq, hqq, -⟩ := HQS.out
    have hz := HBW.out.size
    have e1 := bput HBW.out hz (g := q2) (by omega) 0 (.string (str fl))
    have e2 := bput e1 e1.size (g := q2) (by omega) 1 (.int .i64 stp)
    have e3 := bput e2 e2.size (g := q3) (by omega) 0 (.int .i64 ha)
    have e4 := bput e3 e3.size (g := q3) (by omega) 1 (.int .i64 hb)
    have e5 := bput e4 e4.size (g := q3) (by omega) 2 (.int .i64 hc)
    have e6 := bput e5 e5.size (g := q3) (by omega) 3 (.int .i64 hd)
    have HEND := Lib.hid e6.drew
    clear e1 e2 e3 e4 e5 e6
    have F2 : Hid (Blk ((((((w5.setCell ⟨q2, 0, none⟩ (.string (str fl))).setCell ⟨q2, 1, none⟩ (.int .i64 stp)).setCell ⟨q3, 0, none⟩ (.int .i64 ha)).setCell ⟨q3, 1, none⟩ (.int .i64 hb)).setCell ⟨q3, 2, none⟩ (.int .i64 hc)).setCell ⟨q3, 3, none⟩ (.int .i64 hd)) q2 28 #[.string (str fl), .int .i64 stp]) := Lib.hid ((((((Y2.out.set 0 (.string (str fl))).set 1 (.int .i64 stp)).setOther (p := ⟨q3, 0, none⟩) n1 (.int .i64 ha)).setOther (p := ⟨q3, 1, none⟩) n1 (.int .i64 hb)).setOther (p := ⟨q3, 2, none⟩) n1 (.int .i64 hc)).setOther (p := ⟨q3, 3, none⟩) n1 (.int .i64 hd))
    have F3 : Hid (Blk ((((((w5.setCell ⟨q2, 0, none⟩ (.string (str fl))).setCell ⟨q2, 1, none⟩ (.int .i64 stp)).setCell ⟨q3, 0, none⟩ (.int .i64 ha)).setCell ⟨q3, 1, none⟩ (.int .i64 hb)).setCell ⟨q3, 2, none⟩ (.int .i64 hc)).setCell ⟨q3, 3, none⟩ (.int .i64 hd)) q3 30 #[.int .i64 ha, .int .i64 hb, .int .i64 hc, .int .i64 hd]) := Lib.hid ((((((Y3.out.setOther (p := ⟨q2, 0, none⟩) n2 (.string (str fl))).setOther (p := ⟨q2, 1, none⟩) n2 (.int .i64 stp)).set 0 (.int .i64 ha)).set 1 (.int .i64 hb)).set 2 (.int .i64 hc)).set 3 (.int .i64 hd))
    obtain ⟨w6, hw6⟩ : ∃ w6, ((((((w5.setCell ⟨q2, 0, none⟩ (.string (str fl))).setCell ⟨q2, 1, none⟩ (.int .i64 stp)).setCell ⟨q3, 0, none⟩ (.int .i64 ha)).setCell ⟨q3, 1, none⟩ (.int .i64 hb)).setCell ⟨q3, 2, none⟩ (.int .i64 hc)).setCell ⟨q3, 3, none⟩ (.int .i64 hd)) = w6 := ⟨_, rfl⟩
    rw [hw6] at F2 F3 HEND ⊢
    clear hwq hqq hz n1 n2 n3 n4 n5 n6 hw6
    go_wp2
    refine bodyPost_ret (results_cct rfl _ _ q2 _ _ _ _ q3 _ _ _ _ rfl (F2.out.heap (W := w6.drew) rfl) rfl (F3.out.heap (W := w6.drew) rfl) Tryz.underlying28 rfl (by kernel_rfl) Tryz.underlying30 rfl (by kernel_rfl)) rfl ?_
    exact ⟨by rw [HV.out]; rfl, HEND.out⟩
  · have hI : ((td : Int) != 1) = true := by simp; omega
    have HV : Hid (heldV fl (Sw.held ⟨fl, stp, ⟨a, b, c, d⟩, tp, nx, td⟩) = .tuple #[guardV [] 0, loV lo0, .bool false]) := Lib.hid (by simp [Sw.held, ht, heldV])
    have j8 := fun o1 o2 => blk_cell (v := .int .i64 (td : Int)) ((hk.alloc o1).alloc o2) 8 rfl
    have HB2 : Hid (∀ o1 o2, Below w.heap.size w ((w.alloc o1).alloc o2)) := Lib.hid fun o1 o2 => ((Below.refl w.heap.size w).alloc (Nat.le_refl _) _).alloc (by simp) _
    clear ht hk k8
    go_enter Tryz.func20, Tryz.ntmps20
    go_wp2
    refine bodyPost_ret (results_cct rfl _ _ w.heap.size _ _ _ _ (w.heap.size + 1) _ _ _ _ rfl (Blk.alloc (heap_alloc_new w _) _) rfl (heap_alloc_new' _ _ (by simp)) Tryz.underlying28 rfl (by kernel_rfl) Tryz.underlying30 rfl (by kernel_rfl)) rfl ?_
    exact ⟨by rw [HV.out]; rfl, HB2.out _ _⟩
end Go.Proofs.YtfheaognfocofaaGreatDoor
