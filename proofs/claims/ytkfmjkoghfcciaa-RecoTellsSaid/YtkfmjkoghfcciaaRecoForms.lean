/- RecoForms: locks and commits at their bounds, and beyond, are told, or are none: rows of such, by hand. -/
import Derived.Test.YtkfmjkoghfcciaaRecoTurned
import Derived.Test.YtkfmjkoghfcciaaRegion2
import Derived.Deep.OwnRows
namespace Go.Proofs.Ytkfmjkoghfcciaa
set_option maxRecDepth 100000
open Go.ChangeShapes Go.WideShapes Go.ChangeAt Go.RowKit

namespace Rc
/-- What a row of the table says. -/
def FRow (t p : List Nat) (who inc : Int) (ok : Bool) : Prop := (∀ c ∈ t, c < 256) ∧ t.length ≤ 100 ∧ p.length ≤ 5000 ∧ okD t p who inc = ok
theorem fr0 : FRow [] [] 0 0 false := ⟨by decide, by decide, by decide, by decide +kernel⟩
theorem fr1 : FRow [97] [] 0 0 true := ⟨by decide, by decide, by decide, by decide +kernel⟩
theorem fr2 : FRow [65] [] 0 0 false := ⟨by decide, by decide, by decide, by decide +kernel⟩
theorem fr3 : FRow [97, 47, 98] [] 0 0 false := ⟨by decide, by decide, by decide, by decide +kernel⟩
theorem fr4 : FRow [48, 49, 50, 51, 52, 53, 54, 55, 56, 57, 97, 98, 99, 100, 101, 102] [] 0 0 true := ⟨by decide, by decide, by decide, by decide +kernel⟩
theorem fr5 : FRow [48, 49, 50, 51, 52, 53, 54, 55, 56, 57, 97, 98, 99, 100, 101, 102, 103] [] 0 0 false := ⟨by decide, by decide, by decide, by decide +kernel⟩
theorem fr6 : FRow [97] [] 1099511627776 1099511627776 true := ⟨by decide, by decide, by decide, by decide +kernel⟩
theorem fr7 : FRow [97] [] 1099511627777 0 false := ⟨by decide, by decide, by decide, by decide +kernel⟩
theorem fr8 : FRow [97] [] 0 (-1) false := ⟨by decide, by decide, by decide, by decide +kernel⟩
theorem fr9 : FRow [97] (List.replicate 4000 0) 0 0 true := ⟨by decide, by decide, by rw [List.length_replicate]; decide, by decide +kernel⟩
theorem fr10 : FRow [97] (List.replicate 4001 0) 0 0 false := ⟨by decide, by decide, by rw [List.length_replicate]; decide, by decide +kernel⟩
theorem held_ok {n : Int} (h : okN n = true) : ((Cd.held n : Nat) : Int) = n := by
  simp only [okN, Bool.and_eq_true, decide_eq_true_eq] at h
  exact Cd.held_of n h.1 h.2
theorem done_pos {t p : List Nat} {who inc : Int} (h : okD t p who inc = true) : 0 < (done t p who inc).length := by
  unfold done
  rw [if_pos h, dbody_length]
  omega
end Rc
theorem rown_zeros (w : World) (n : Nat) (hm : n ≤ 1000000) : Bytes (w.alloc (.cells (madeCells #[.int .u8 0] n) 5)) (.slice (some ⟨w.heap.size, 0, none⟩) n n) (List.replicate n 0) := by
  have h := own_new w w.heap.size (List.replicate n 0) (fun c hc => by rw [List.eq_of_mem_replicate hc]; decide) (by rw [List.length_replicate]; unfold maxLen; omega) (Nat.le_refl _)
  have e : (row8 (List.replicate n 0)).toArray = madeCells #[.int .u8 0] n := by
    apply Array.ext'
    rw [toList_madeCells_one]
    simp [row8]
  rw [e, List.length_replicate] at h
  exact h.bytes

set_option maxRecDepth 100000 in
set_option maxHeartbeats 8000000 in
theorem rforms_any (which : Int) (w : World) :
    Calls Try.prog 5 #[.int .i64 which] w fun e w' => e = .returned (.bool true) ∧ Below w.heap.size w w' := by
  have hmk0 : ∀ W : World, (Instr.makeSlice 30 (.int .i64 4000) (.int .i64 4000)).run Try.prog W = .ok (.slice (some ⟨W.heap.size, 0, none⟩) 4000 4000) (W.alloc (.cells (madeCells #[.int .u8 0] 4000) 5)) := fun W => run_make_row' (P := Try.prog) 30 5 (.int .u8 0) 1 Try.underlying30 infoU8 rfl .i64 .i64 4000 (by decide) (by decide) W
  have hmk1 : ∀ W : World, (Instr.makeSlice 30 (.int .i64 4001) (.int .i64 4001)).run Try.prog W = .ok (.slice (some ⟨W.heap.size, 0, none⟩) 4001 4001) (W.alloc (.cells (madeCells #[.int .u8 0] 4001) 5)) := fun W => run_make_row' (P := Try.prog) 30 5 (.int .u8 0) 1 Try.underlying30 infoU8 rfl .i64 .i64 4001 (by decide) (by decide) W
  have hwf : IntKind.i64.wrap (1099511627777 : Int) = 1099511627777 := by decide
  go_enter Try.func5, Try.ntmps5
  go_upto_region 2 with fail
  go_cut [4] (fun q wx => ∃ g, q = .slice (some ⟨g, 0, none⟩) 11 11 ∧ Hid (∀ k, k < 11 → ∃ t p who inc u ok, wx.cell? ⟨g, k * 5, none⟩ = some (.string (str t)) ∧ wx.cell? ⟨g, k * 5 + 1, none⟩ = some (.int .i64 who) ∧ wx.cell? ⟨g, k * 5 + 2, none⟩ = some (.int .i64 inc) ∧ wx.cell? ⟨g, k * 5 + 3, none⟩ = some u ∧ wx.cell? ⟨g, k * 5 + 4, none⟩ = some (.bool ok) ∧ Bytes wx u p ∧ Rc.FRow t p who inc ok) ∧ Hid (Below w.heap.size w wx))
  case first =>
    refine wp_region_noPanic ?_
    refine wp_region_held_drew (S := fun _ => True) (by kernel_rfl) (trivial) (fun hHeld => ?_)
    obtain ⟨wn0, hwn⟩ : ∃ wn, w.drew = wn := ⟨_, rfl⟩
    have hB0 : Below w.heap.size w wn0 := by rw [← hwn]; exact (Below.refl _ _).drew
    rw [hwn]
    clear hwn
    refine takeW 0 (some 11) (oi := ?oT1) (v := ?vT1) ?hiT1 ?hdT1 (by kernel_rfl) (by kernel_rfl) (by kernel_rfl) (fun _ _ _ h => h) ?hwT1 ?hyT1 hHeld ?_
    case hiT1 => (simp only [List.getElem?_toArray, List.getElem?_cons_zero]; with_reducible rfl)
    case hdT1 => rfl
    case hwT1 => rfl
    case hyT1 => (intro w hSw; (try dsimp only at hSw); go_simp; first | done | with_reducible rfl)
    try simp only [Act.put]
    try simp only [List.setIfInBounds_toArray, List.set_cons_zero, List.set_cons_succ]
    refine takeW 1 (some 12) (oi := ?oT2) (v := ?vT2) ?hiT2 ?hdT2 (by kernel_rfl) (by kernel_rfl) (by kernel_rfl) (fun _ _ _ h => h) ?hwT2 ?hyT2 hHeld ?_
    case hiT2 => (simp only [List.getElem?_toArray, List.getElem?_cons_succ, List.getElem?_cons_zero]; with_reducible rfl)
    case hdT2 => rfl
    case hwT2 => rfl
    case hyT2 => (intro w hSw; (try dsimp only at hSw); go_simp; first | done | with_reducible rfl)
    try simp only [Act.put]
    try simp only [List.setIfInBounds_toArray, List.set_cons_zero, List.set_cons_succ]
    refine takeW 2 (some 13) (oi := ?oT3) (v := ?vT3) ?hiT3 ?hdT3 (by kernel_rfl) (by kernel_rfl) (by kernel_rfl) (fun _ _ _ h => h) ?hwT3 ?hyT3 hHeld ?_
    case hiT3 => (simp only [List.getElem?_toArray, List.getElem?_cons_succ, List.getElem?_cons_zero]; with_reducible rfl)
    case hdT3 => rfl
    case hwT3 => rfl
    case hyT3 => (intro w hSw; (try dsimp only at hSw); go_simp; first | done | with_reducible rfl)
    try simp only [Act.put]
    try simp only [List.setIfInBounds_toArray, List.set_cons_zero, List.set_cons_succ]
    refine takeW 3 (some 14) (oi := ?oT4) (v := ?vT4) ?hiT4 ?hdT4 (by kernel_rfl) (by kernel_rfl) (by kernel_rfl) (fun _ _ _ h => h) ?hwT4 ?hyT4 hHeld ?_
    case hiT4 => (simp only [List.getElem?_toArray, List.getElem?_cons_succ, List.getElem?_cons_zero]; with_reducible rfl)
    case hdT4 => rfl
    case hwT4 => rfl
    case hyT4 => (intro w hSw; (try dsimp only at hSw); go_simp; first | done | with_reducible rfl)
    try simp only [Act.put]
    try simp only [List.setIfInBounds_toArray, List.set_cons_zero, List.set_cons_succ]
    refine takeW 4 (some 15) (oi := ?oT5) (v := ?vT5) ?hiT5 ?hdT5 (by kernel_rfl) (by kernel_rfl) (by kernel_rfl) (fun _ _ _ h => h) ?hwT5 ?hyT5 hHeld ?_
    case hiT5 => (simp only [List.getElem?_toArray, List.getElem?_cons_succ, List.getElem?_cons_zero]; with_reducible rfl)
    case hdT5 => rfl
    case hwT5 => rfl
    case hyT5 => (intro w hSw; (try dsimp only at hSw); go_simp; first | done | with_reducible rfl)
    try simp only [Act.put]
    try simp only [List.setIfInBounds_toArray, List.set_cons_zero, List.set_cons_succ]
    refine takeW 5 (some 16) (oi := ?oT6) (v := ?vT6) ?hiT6 ?hdT6 (by kernel_rfl) (by kernel_rfl) (by kernel_rfl) (fun _ _ _ h => h) ?hwT6 ?hyT6 hHeld ?_
    case hiT6 => (simp only [List.getElem?_toArray, List.getElem?_cons_succ, List.getElem?_cons_zero]; with_reducible rfl)
    case hdT6 => rfl
    case hwT6 => rfl
    case hyT6 => (intro w hSw; (try dsimp only at hSw); go_simp; first | done | with_reducible rfl)
    try simp only [Act.put]
    try simp only [List.setIfInBounds_toArray, List.set_cons_zero, List.set_cons_succ]
    refine takeW 6 (some 17) (oi := ?oT7) (v := ?vT7) ?hiT7 ?hdT7 (by kernel_rfl) (by kernel_rfl) (by kernel_rfl) (fun _ _ _ h => h) ?hwT7 ?hyT7 hHeld ?_
    case hiT7 => (simp only [List.getElem?_toArray, List.getElem?_cons_succ, List.getElem?_cons_zero]; with_reducible rfl)
    case hdT7 => rfl
    case hwT7 => rfl
    case hyT7 => (intro w hSw; (try dsimp only at hSw); go_simp; first | done | with_reducible rfl)
    try simp only [Act.put]
    try simp only [List.setIfInBounds_toArray, List.set_cons_zero, List.set_cons_succ]
    refine takeW 7 (some 18) (oi := ?oT8) (v := ?vT8) ?hiT8 ?hdT8 (by kernel_rfl) (by kernel_rfl) (by kernel_rfl) (fun _ _ _ h => h) ?hwT8 ?hyT8 hHeld ?_
    case hiT8 => (simp only [List.getElem?_toArray, List.getElem?_cons_succ, List.getElem?_cons_zero]; with_reducible rfl)
    case hdT8 => rfl
    case hwT8 => rfl
    case hyT8 => (intro w hSw; (try dsimp only at hSw); go_simp; first | done | with_reducible rfl)
    try simp only [Act.put]
    try simp only [List.setIfInBounds_toArray, List.set_cons_zero, List.set_cons_succ]
    refine takeW 8 (some 19) (oi := ?oT9) (v := ?vT9) ?hiT9 ?hdT9 (by kernel_rfl) (by kernel_rfl) (by kernel_rfl) (fun _ _ _ h => h) ?hwT9 ?hyT9 hHeld ?_
    case hiT9 => (simp only [List.getElem?_toArray, List.getElem?_cons_succ, List.getElem?_cons_zero]; with_reducible rfl)
    case hdT9 => rfl
    case hwT9 => rfl
    case hyT9 => (intro w hSw; (try dsimp only at hSw); go_simp; first | done | with_reducible rfl)
    try simp only [Act.put]
    try simp only [List.setIfInBounds_toArray, List.set_cons_zero, List.set_cons_succ]
    refine takeW 9 (some 20) (oi := ?oT10) (v := ?vT10) ?hiT10 ?hdT10 (by kernel_rfl) (by kernel_rfl) (by kernel_rfl) (fun _ _ _ h => h) ?hwT10 ?hyT10 hHeld ?_
    case hiT10 => (simp only [List.getElem?_toArray, List.getElem?_cons_succ, List.getElem?_cons_zero]; with_reducible rfl)
    case hdT10 => rfl
    case hwT10 => rfl
    case hyT10 => (intro w hSw; (try dsimp only at hSw); go_simp; first | done | with_reducible rfl)
    try simp only [Act.put]
    try simp only [List.setIfInBounds_toArray, List.set_cons_zero, List.set_cons_succ]
    refine takeW 10 (some 21) (oi := ?oT11) (v := ?vT11) ?hiT11 ?hdT11 (by kernel_rfl) (by kernel_rfl) (by kernel_rfl) (fun _ _ _ h => h) ?hwT11 ?hyT11 hHeld ?_
    case hiT11 => (simp only [List.getElem?_toArray, List.getElem?_cons_succ, List.getElem?_cons_zero]; with_reducible rfl)
    case hdT11 => rfl
    case hwT11 => rfl
    case hyT11 => (intro w hSw; (try dsimp only at hSw); go_simp; first | done | with_reducible rfl)
    try simp only [Act.put]
    try simp only [List.setIfInBounds_toArray, List.set_cons_zero, List.set_cons_succ]
    refine takeW 11 (some 22) (oi := ?oT12) (v := ?vT12) ?hiT12 ?hdT12 (by kernel_rfl) (by kernel_rfl) (by kernel_rfl) (fun _ _ _ h => h) ?hwT12 ?hyT12 hHeld ?_
    case hiT12 => (simp only [List.getElem?_toArray, List.getElem?_cons_succ, List.getElem?_cons_zero]; with_reducible rfl)
    case hdT12 => rfl
    case hwT12 => rfl
    case hyT12 => (intro w hSw; (try dsimp only at hSw); go_simp; first | done | with_reducible rfl)
    try simp only [Act.put]
    try simp only [List.setIfInBounds_toArray, List.set_cons_zero, List.set_cons_succ]
    refine takeW 12 (some 23) (oi := ?oT13) (v := ?vT13) ?hiT13 ?hdT13 (by kernel_rfl) (by kernel_rfl) (by kernel_rfl) (fun _ _ _ h => h) ?hwT13 ?hyT13 hHeld ?_
    case hiT13 => (simp only [List.getElem?_toArray, List.getElem?_cons_succ, List.getElem?_cons_zero]; with_reducible rfl)
    case hdT13 => rfl
    case hwT13 => rfl
    case hyT13 => (intro w hSw; (try dsimp only at hSw); go_simp; first | done | with_reducible rfl)
    try simp only [Act.put]
    try simp only [List.setIfInBounds_toArray, List.set_cons_zero, List.set_cons_succ]
    refine takeW 13 (some 24) (oi := ?oT14) (v := ?vT14) ?hiT14 ?hdT14 (by kernel_rfl) (by kernel_rfl) (by kernel_rfl) (fun _ _ _ h => h) ?hwT14 ?hyT14 hHeld ?_
    case hiT14 => (simp only [List.getElem?_toArray, List.getElem?_cons_succ, List.getElem?_cons_zero]; with_reducible rfl)
    case hdT14 => rfl
    case hwT14 => rfl
    case hyT14 => (intro w hSw; (try dsimp only at hSw); go_simp; first | done | with_reducible rfl)
    try simp only [Act.put]
    try simp only [List.setIfInBounds_toArray, List.set_cons_zero, List.set_cons_succ]
    refine takeW 14 (some 25) (oi := ?oT15) (v := ?vT15) ?hiT15 ?hdT15 (by kernel_rfl) (by kernel_rfl) (by kernel_rfl) (fun _ _ _ h => h) ?hwT15 ?hyT15 hHeld ?_
    case hiT15 => (simp only [List.getElem?_toArray, List.getElem?_cons_succ, List.getElem?_cons_zero]; with_reducible rfl)
    case hdT15 => rfl
    case hwT15 => rfl
    case hyT15 => (intro w hSw; (try dsimp only at hSw); go_simp; first | done | with_reducible rfl)
    try simp only [Act.put]
    try simp only [List.setIfInBounds_toArray, List.set_cons_zero, List.set_cons_succ]
    refine takeW 15 (some 26) (oi := ?oT16) (v := ?vT16) ?hiT16 ?hdT16 (by kernel_rfl) (by kernel_rfl) (by kernel_rfl) (fun _ _ _ h => h) ?hwT16 ?hyT16 hHeld ?_
    case hiT16 => (simp only [List.getElem?_toArray, List.getElem?_cons_succ, List.getElem?_cons_zero]; with_reducible rfl)
    case hdT16 => rfl
    case hwT16 => rfl
    case hyT16 => (intro w hSw; (try dsimp only at hSw); go_simp; first | done | with_reducible rfl)
    try simp only [Act.put]
    try simp only [List.setIfInBounds_toArray, List.set_cons_zero, List.set_cons_succ]
    refine takeW 16 (some 27) (oi := ?oT17) (v := ?vT17) ?hiT17 ?hdT17 (by kernel_rfl) (by kernel_rfl) (by kernel_rfl) (fun _ _ _ h => h) ?hwT17 ?hyT17 hHeld ?_
    case hiT17 => (simp only [List.getElem?_toArray, List.getElem?_cons_succ, List.getElem?_cons_zero]; with_reducible rfl)
    case hdT17 => rfl
    case hwT17 => rfl
    case hyT17 => (intro w hSw; (try dsimp only at hSw); go_simp; first | done | with_reducible rfl)
    try simp only [Act.put]
    try simp only [List.setIfInBounds_toArray, List.set_cons_zero, List.set_cons_succ]
    refine takeW 17 (some 28) (oi := ?oT18) (v := ?vT18) ?hiT18 ?hdT18 (by kernel_rfl) (by kernel_rfl) (by kernel_rfl) (fun _ _ _ h => h) ?hwT18 ?hyT18 hHeld ?_
    case hiT18 => (simp only [List.getElem?_toArray, List.getElem?_cons_succ, List.getElem?_cons_zero]; with_reducible rfl)
    case hdT18 => rfl
    case hwT18 => rfl
    case hyT18 => (intro w hSw; (try dsimp only at hSw); go_simp; first | done | with_reducible rfl)
    try simp only [Act.put]
    try simp only [List.setIfInBounds_toArray, List.set_cons_zero, List.set_cons_succ]
    refine takeW 18 (some 29) (oi := ?oT19) (v := ?vT19) ?hiT19 ?hdT19 (by kernel_rfl) (by kernel_rfl) (by kernel_rfl) (fun _ _ _ h => h) ?hwT19 ?hyT19 hHeld ?_
    case hiT19 => (simp only [List.getElem?_toArray, List.getElem?_cons_succ, List.getElem?_cons_zero]; with_reducible rfl)
    case hdT19 => rfl
    case hwT19 => rfl
    case hyT19 => (intro w hSw; (try dsimp only at hSw); go_simp; first | done | with_reducible rfl)
    try simp only [Act.put]
    try simp only [List.setIfInBounds_toArray, List.set_cons_zero, List.set_cons_succ]
    refine takeW 19 (some 30) (oi := ?oT20) (v := ?vT20) ?hiT20 ?hdT20 (by kernel_rfl) (by kernel_rfl) (by kernel_rfl) (fun _ _ _ h => h) ?hwT20 ?hyT20 hHeld ?_
    case hiT20 => (simp only [List.getElem?_toArray, List.getElem?_cons_succ, List.getElem?_cons_zero]; with_reducible rfl)
    case hdT20 => rfl
    case hwT20 => rfl
    case hyT20 => (intro w hSw; (try dsimp only at hSw); go_simp; first | done | with_reducible rfl)
    try simp only [Act.put]
    try simp only [List.setIfInBounds_toArray, List.set_cons_zero, List.set_cons_succ]
    refine takeW 20 (some 31) (oi := ?oT21) (v := ?vT21) ?hiT21 ?hdT21 (by kernel_rfl) (by kernel_rfl) (by kernel_rfl) (fun _ _ _ h => h) ?hwT21 ?hyT21 hHeld ?_
    case hiT21 => (simp only [List.getElem?_toArray, List.getElem?_cons_succ, List.getElem?_cons_zero]; with_reducible rfl)
    case hdT21 => rfl
    case hwT21 => rfl
    case hyT21 => (intro w hSw; (try dsimp only at hSw); go_simp; first | done | with_reducible rfl)
    try simp only [Act.put]
    try simp only [List.setIfInBounds_toArray, List.set_cons_zero, List.set_cons_succ]
    refine takeW 21 (some 32) (oi := ?oT22) (v := ?vT22) ?hiT22 ?hdT22 (by kernel_rfl) (by kernel_rfl) (by kernel_rfl) (fun _ _ _ h => h) ?hwT22 ?hyT22 hHeld ?_
    case hiT22 => (simp only [List.getElem?_toArray, List.getElem?_cons_succ, List.getElem?_cons_zero]; with_reducible rfl)
    case hdT22 => rfl
    case hwT22 => rfl
    case hyT22 => (intro w hSw; (try dsimp only at hSw); go_simp; first | done | with_reducible rfl)
    try simp only [Act.put]
    try simp only [List.setIfInBounds_toArray, List.set_cons_zero, List.set_cons_succ]
    refine wpAnyH_ready (rs := [22, 25]) (by kernel_rfl) (by simp) ?_
    refine stepOf 22 (o := ?oT23) ?hiT23 ?hwT23 (fun K hK => ?_) ?_
    case hiT23 => (simp only [List.getElem?_toArray, List.getElem?_cons_succ, List.getElem?_cons_zero]; with_reducible rfl)
    case hwT23 => rfl
    · skip
      go_simp
      obtain ⟨g4000, hg⟩ : ∃ g, wn0.heap.size = g := ⟨_, rfl⟩
      obtain ⟨wn1, hwm⟩ : ∃ wm, wn0.alloc (.cells (madeCells #[.int .u8 0] 4000) 5) = wm := ⟨_, rfl⟩
      have hb4000 : Bytes wn1 (.slice (some ⟨g4000, 0, none⟩) 4000 4000) (List.replicate 4000 0) := by rw [← hwm, ← hg]; exact rown_zeros wn0 4000 (by decide)
      have hB1 : Below w.heap.size w wn1 := by rw [← hwm]; exact hB0.alloc hB0.size _
      rw [hwm]
      rw [hg]
      clear hwm hg hB0
      refine hK.out _ _ ?_ (fun hHeld => ?_)
      · trivial
      clear hK K
      try simp only [Act.put]
      try simp only [List.setIfInBounds_toArray, List.set_cons_zero, List.set_cons_succ]
      refine takeW 23 (some 34) (oi := ?oT24) (v := ?vT24) ?hiT24 ?hdT24 (by kernel_rfl) (by kernel_rfl) (by kernel_rfl) (fun _ _ _ h => h) ?hwT24 ?hyT24 hHeld ?_
      case hiT24 => (simp only [List.getElem?_toArray, List.getElem?_cons_succ, List.getElem?_cons_zero]; with_reducible rfl)
      case hdT24 => rfl
      case hwT24 => rfl
      case hyT24 => (intro w hSw; (try dsimp only at hSw); go_simp; first | done | with_reducible rfl)
      try simp only [Act.put]
      try simp only [List.setIfInBounds_toArray, List.set_cons_zero, List.set_cons_succ]
      refine takeW 24 (some 35) (oi := ?oT25) (v := ?vT25) ?hiT25 ?hdT25 (by kernel_rfl) (by kernel_rfl) (by kernel_rfl) (fun _ _ _ h => h) ?hwT25 ?hyT25 hHeld ?_
      case hiT25 => (simp only [List.getElem?_toArray, List.getElem?_cons_succ, List.getElem?_cons_zero]; with_reducible rfl)
      case hdT25 => rfl
      case hwT25 => rfl
      case hyT25 => (intro w hSw; (try dsimp only at hSw); go_simp; first | done | with_reducible rfl)
      try simp only [Act.put]
      try simp only [List.setIfInBounds_toArray, List.set_cons_zero, List.set_cons_succ]
      refine stepOne 25 (o := ?oT26) ?hiT26 (by kernel_rfl) ?hwT26 (fun K hK => ?_)
      case hiT26 => (simp only [List.getElem?_toArray, List.getElem?_cons_succ, List.getElem?_cons_zero]; with_reducible rfl)
      case hwT26 => rfl
      go_simp
      obtain ⟨g4001, hg⟩ : ∃ g, wn1.heap.size = g := ⟨_, rfl⟩
      obtain ⟨wn2, hwm⟩ : ∃ wm, wn1.alloc (.cells (madeCells #[.int .u8 0] 4001) 5) = wm := ⟨_, rfl⟩
      have hb4001 : Bytes wn2 (.slice (some ⟨g4001, 0, none⟩) 4001 4001) (List.replicate 4001 0) := by rw [← hwm, ← hg]; exact rown_zeros wn1 4001 (by decide)
      have hB2 : Below w.heap.size w wn2 := by rw [← hwm]; exact hB1.alloc hB1.size _
      replace hb4000 : Bytes wn2 (.slice (some ⟨g4000, 0, none⟩) 4000 4000) (List.replicate 4000 0) := by rw [← hwm]; exact hb4000.alloc _
      rw [hwm]
      rw [hg]
      clear hwm hg hB1
      refine hK.out _ _ ?_ (fun hHeld => ?_)
      · trivial
      clear hK K
      try simp only [Act.put]
      try simp only [List.setIfInBounds_toArray, List.set_cons_zero, List.set_cons_succ]
      refine takeW 26 (some 37) (oi := ?oT27) (v := ?vT27) ?hiT27 ?hdT27 (by kernel_rfl) (by kernel_rfl) (by kernel_rfl) (fun _ _ _ h => h) ?hwT27 ?hyT27 hHeld ?_
      case hiT27 => (simp only [List.getElem?_toArray, List.getElem?_cons_succ, List.getElem?_cons_zero]; with_reducible rfl)
      case hdT27 => rfl
      case hwT27 => rfl
      case hyT27 => (intro w hSw; (try dsimp only at hSw); go_simp; first | done | with_reducible rfl)
      try simp only [Act.put]
      try simp only [List.setIfInBounds_toArray, List.set_cons_zero, List.set_cons_succ]
      refine takeW 27 (some 38) (oi := ?oT28) (v := ?vT28) ?hiT28 ?hdT28 (by kernel_rfl) (by kernel_rfl) (by kernel_rfl) (fun _ _ _ h => h) ?hwT28 ?hyT28 hHeld ?_
      case hiT28 => (simp only [List.getElem?_toArray, List.getElem?_cons_succ, List.getElem?_cons_zero]; with_reducible rfl)
      case hdT28 => rfl
      case hwT28 => rfl
      case hyT28 => (intro w hSw; (try dsimp only at hSw); go_simp; first | done | with_reducible rfl)
      try simp only [Act.put]
      try simp only [List.setIfInBounds_toArray, List.set_cons_zero, List.set_cons_succ]
      refine stepOne 28 (o := ?oT29) ?hiT29 (by kernel_rfl) ?hwT29 (fun K hK => ?_)
      case hiT29 => (simp only [List.getElem?_toArray, List.getElem?_cons_succ, List.getElem?_cons_zero]; with_reducible rfl)
      case hwT29 => rfl
      go_simp
      refine hK.out _ _ ?_ (fun hHeld => ?_)
      · trivial
      clear hK K
      try simp only [Act.put]
      try simp only [List.setIfInBounds_toArray, List.set_cons_zero, List.set_cons_succ]
      refine takeW 29 (some 4) (oi := ?oT30) (v := ?vT30) ?hiT30 ?hdT30 (by kernel_rfl) (by kernel_rfl) (by kernel_rfl) (fun _ _ _ h => h) ?hwT30 ?hyT30 hHeld ?_
      case hiT30 => (simp only [List.getElem?_toArray, List.getElem?_cons_succ, List.getElem?_cons_zero]; with_reducible rfl)
      case hdT30 => rfl
      case hwT30 => rfl
      case hyT30 => (intro w hSw; (try dsimp only at hSw); go_simp; first | done | with_reducible rfl)
      try simp only [Act.put]
      try simp only [List.setIfInBounds_toArray, List.set_cons_zero, List.set_cons_succ]
      refine wpAnyH_done (by kernel_rfl) ?_ _
      refine NoPanic.normal ?_
      go_wp2_with fail
      go_meet
      have hblk : Blk (wn2.alloc (.cells #[.string ⟨#[]⟩, .int .i64 0, .int .i64 0, .slice none 0 0, .bool false, .string ⟨#[97]⟩, .int .i64 0, .int .i64 0, .slice none 0 0, .bool true, .string ⟨#[65]⟩, .int .i64 0, .int .i64 0, .slice none 0 0, .bool false, .string ⟨#[97, 47, 98]⟩, .int .i64 0, .int .i64 0, .slice none 0 0, .bool false, .string ⟨#[48, 49, 50, 51, 52, 53, 54, 55, 56, 57, 97, 98, 99, 100, 101, 102]⟩, .int .i64 0, .int .i64 0, .slice none 0 0, .bool true, .string ⟨#[48, 49, 50, 51, 52, 53, 54, 55, 56, 57, 97, 98, 99, 100, 101, 102, 103]⟩, .int .i64 0, .int .i64 0, .slice none 0 0, .bool false, .string ⟨#[97]⟩, .int .i64 1099511627776, .int .i64 1099511627776, .slice none 0 0, .bool true, .string ⟨#[97]⟩, .int .i64 1099511627777, .int .i64 0, .slice none 0 0, .bool false, .string ⟨#[97]⟩, .int .i64 0, .int .i64 (-1), .slice none 0 0, .bool false, .string ⟨#[97]⟩, .int .i64 0, .int .i64 0, .slice (some ⟨g4000, 0, none⟩) 4000 4000, .bool true, .string ⟨#[97]⟩, .int .i64 0, .int .i64 0, .slice (some ⟨g4001, 0, none⟩) 4001 4001, .bool false] 60)) wn2.heap.size 60 #[.string ⟨#[]⟩, .int .i64 0, .int .i64 0, .slice none 0 0, .bool false, .string ⟨#[97]⟩, .int .i64 0, .int .i64 0, .slice none 0 0, .bool true, .string ⟨#[65]⟩, .int .i64 0, .int .i64 0, .slice none 0 0, .bool false, .string ⟨#[97, 47, 98]⟩, .int .i64 0, .int .i64 0, .slice none 0 0, .bool false, .string ⟨#[48, 49, 50, 51, 52, 53, 54, 55, 56, 57, 97, 98, 99, 100, 101, 102]⟩, .int .i64 0, .int .i64 0, .slice none 0 0, .bool true, .string ⟨#[48, 49, 50, 51, 52, 53, 54, 55, 56, 57, 97, 98, 99, 100, 101, 102, 103]⟩, .int .i64 0, .int .i64 0, .slice none 0 0, .bool false, .string ⟨#[97]⟩, .int .i64 1099511627776, .int .i64 1099511627776, .slice none 0 0, .bool true, .string ⟨#[97]⟩, .int .i64 1099511627777, .int .i64 0, .slice none 0 0, .bool false, .string ⟨#[97]⟩, .int .i64 0, .int .i64 (-1), .slice none 0 0, .bool false, .string ⟨#[97]⟩, .int .i64 0, .int .i64 0, .slice (some ⟨g4000, 0, none⟩) 4000 4000, .bool true, .string ⟨#[97]⟩, .int .i64 0, .int .i64 0, .slice (some ⟨g4001, 0, none⟩) 4001 4001, .bool false] := heap_alloc_new wn2 _
      refine ⟨_, rfl, Lib.hid (fun k hk => ?_), Lib.hid (hB2.alloc hB2.size _)⟩
      have hk11 : k = 0 ∨ k = 1 ∨ k = 2 ∨ k = 3 ∨ k = 4 ∨ k = 5 ∨ k = 6 ∨ k = 7 ∨ k = 8 ∨ k = 9 ∨ k = 10 := by omega
      rcases hk11 with rfl | rfl | rfl | rfl | rfl | rfl | rfl | rfl | rfl | rfl | rfl
      · exact ⟨[], [], 0, 0, _, _, hblk.at 0, hblk.at 1, hblk.at 2, hblk.at 3, hblk.at 4, (bytes_none _), Rc.fr0⟩
      · exact ⟨[97], [], 0, 0, _, _, hblk.at 5, hblk.at 6, hblk.at 7, hblk.at 8, hblk.at 9, (bytes_none _), Rc.fr1⟩
      · exact ⟨[65], [], 0, 0, _, _, hblk.at 10, hblk.at 11, hblk.at 12, hblk.at 13, hblk.at 14, (bytes_none _), Rc.fr2⟩
      · exact ⟨[97, 47, 98], [], 0, 0, _, _, hblk.at 15, hblk.at 16, hblk.at 17, hblk.at 18, hblk.at 19, (bytes_none _), Rc.fr3⟩
      · exact ⟨[48, 49, 50, 51, 52, 53, 54, 55, 56, 57, 97, 98, 99, 100, 101, 102], [], 0, 0, _, _, hblk.at 20, hblk.at 21, hblk.at 22, hblk.at 23, hblk.at 24, (bytes_none _), Rc.fr4⟩
      · exact ⟨[48, 49, 50, 51, 52, 53, 54, 55, 56, 57, 97, 98, 99, 100, 101, 102, 103], [], 0, 0, _, _, hblk.at 25, hblk.at 26, hblk.at 27, hblk.at 28, hblk.at 29, (bytes_none _), Rc.fr5⟩
      · exact ⟨[97], [], 1099511627776, 1099511627776, _, _, hblk.at 30, hblk.at 31, hblk.at 32, hblk.at 33, hblk.at 34, (bytes_none _), Rc.fr6⟩
      · exact ⟨[97], [], 1099511627777, 0, _, _, hblk.at 35, hblk.at 36, hblk.at 37, hblk.at 38, hblk.at 39, (bytes_none _), Rc.fr7⟩
      · exact ⟨[97], [], 0, (-1), _, _, hblk.at 40, hblk.at 41, hblk.at 42, hblk.at 43, hblk.at 44, (bytes_none _), Rc.fr8⟩
      · exact ⟨[97], (List.replicate 4000 0), 0, 0, _, _, hblk.at 45, hblk.at 46, hblk.at 47, hblk.at 48, hblk.at 49, (hb4000.alloc _), Rc.fr9⟩
      · exact ⟨[97], (List.replicate 4001 0), 0, 0, _, _, hblk.at 50, hblk.at 51, hblk.at 52, hblk.at 53, hblk.at 54, (hb4001.alloc _), Rc.fr10⟩
    refine stepOf 25 (o := ?oT31) ?hiT31 ?hwT31 (fun K hK => ?_) AllReadyH.nil
    case hiT31 => (simp only [List.getElem?_toArray, List.getElem?_cons_succ, List.getElem?_cons_zero]; with_reducible rfl)
    case hwT31 => rfl
    go_simp
    obtain ⟨g4001, hg⟩ : ∃ g, wn0.heap.size = g := ⟨_, rfl⟩
    obtain ⟨wn1, hwm⟩ : ∃ wm, wn0.alloc (.cells (madeCells #[.int .u8 0] 4001) 5) = wm := ⟨_, rfl⟩
    have hb4001 : Bytes wn1 (.slice (some ⟨g4001, 0, none⟩) 4001 4001) (List.replicate 4001 0) := by rw [← hwm, ← hg]; exact rown_zeros wn0 4001 (by decide)
    have hB1 : Below w.heap.size w wn1 := by rw [← hwm]; exact hB0.alloc hB0.size _
    rw [hwm]
    rw [hg]
    clear hwm hg hB0
    refine hK.out _ _ ?_ (fun hHeld => ?_)
    · trivial
    clear hK K
    try simp only [Act.put]
    try simp only [List.setIfInBounds_toArray, List.set_cons_zero, List.set_cons_succ]
    refine takeW 26 (some 37) (oi := ?oT32) (v := ?vT32) ?hiT32 ?hdT32 (by kernel_rfl) (by kernel_rfl) (by kernel_rfl) (fun _ _ _ h => h) ?hwT32 ?hyT32 hHeld ?_
    case hiT32 => (simp only [List.getElem?_toArray, List.getElem?_cons_succ, List.getElem?_cons_zero]; with_reducible rfl)
    case hdT32 => rfl
    case hwT32 => rfl
    case hyT32 => (intro w hSw; (try dsimp only at hSw); go_simp; first | done | with_reducible rfl)
    try simp only [Act.put]
    try simp only [List.setIfInBounds_toArray, List.set_cons_zero, List.set_cons_succ]
    refine takeW 27 (some 38) (oi := ?oT33) (v := ?vT33) ?hiT33 ?hdT33 (by kernel_rfl) (by kernel_rfl) (by kernel_rfl) (fun _ _ _ h => h) ?hwT33 ?hyT33 hHeld ?_
    case hiT33 => (simp only [List.getElem?_toArray, List.getElem?_cons_succ, List.getElem?_cons_zero]; with_reducible rfl)
    case hdT33 => rfl
    case hwT33 => rfl
    case hyT33 => (intro w hSw; (try dsimp only at hSw); go_simp; first | done | with_reducible rfl)
    try simp only [Act.put]
    try simp only [List.setIfInBounds_toArray, List.set_cons_zero, List.set_cons_succ]
    refine stepOne 22 (o := ?oT34) ?hiT34 (by kernel_rfl) ?hwT34 (fun K hK => ?_)
    case hiT34 => (simp only [List.getElem?_toArray, List.getElem?_cons_succ, List.getElem?_cons_zero]; with_reducible rfl)
    case hwT34 => rfl
    go_simp
    obtain ⟨g4000, hg⟩ : ∃ g, wn1.heap.size = g := ⟨_, rfl⟩
    obtain ⟨wn2, hwm⟩ : ∃ wm, wn1.alloc (.cells (madeCells #[.int .u8 0] 4000) 5) = wm := ⟨_, rfl⟩
    have hb4000 : Bytes wn2 (.slice (some ⟨g4000, 0, none⟩) 4000 4000) (List.replicate 4000 0) := by rw [← hwm, ← hg]; exact rown_zeros wn1 4000 (by decide)
    have hB2 : Below w.heap.size w wn2 := by rw [← hwm]; exact hB1.alloc hB1.size _
    replace hb4001 : Bytes wn2 (.slice (some ⟨g4001, 0, none⟩) 4001 4001) (List.replicate 4001 0) := by rw [← hwm]; exact hb4001.alloc _
    rw [hwm]
    rw [hg]
    clear hwm hg hB1
    refine hK.out _ _ ?_ (fun hHeld => ?_)
    · trivial
    clear hK K
    try simp only [Act.put]
    try simp only [List.setIfInBounds_toArray, List.set_cons_zero, List.set_cons_succ]
    refine takeW 23 (some 34) (oi := ?oT35) (v := ?vT35) ?hiT35 ?hdT35 (by kernel_rfl) (by kernel_rfl) (by kernel_rfl) (fun _ _ _ h => h) ?hwT35 ?hyT35 hHeld ?_
    case hiT35 => (simp only [List.getElem?_toArray, List.getElem?_cons_succ, List.getElem?_cons_zero]; with_reducible rfl)
    case hdT35 => rfl
    case hwT35 => rfl
    case hyT35 => (intro w hSw; (try dsimp only at hSw); go_simp; first | done | with_reducible rfl)
    try simp only [Act.put]
    try simp only [List.setIfInBounds_toArray, List.set_cons_zero, List.set_cons_succ]
    refine takeW 24 (some 35) (oi := ?oT36) (v := ?vT36) ?hiT36 ?hdT36 (by kernel_rfl) (by kernel_rfl) (by kernel_rfl) (fun _ _ _ h => h) ?hwT36 ?hyT36 hHeld ?_
    case hiT36 => (simp only [List.getElem?_toArray, List.getElem?_cons_succ, List.getElem?_cons_zero]; with_reducible rfl)
    case hdT36 => rfl
    case hwT36 => rfl
    case hyT36 => (intro w hSw; (try dsimp only at hSw); go_simp; first | done | with_reducible rfl)
    try simp only [Act.put]
    try simp only [List.setIfInBounds_toArray, List.set_cons_zero, List.set_cons_succ]
    refine stepOne 28 (o := ?oT37) ?hiT37 (by kernel_rfl) ?hwT37 (fun K hK => ?_)
    case hiT37 => (simp only [List.getElem?_toArray, List.getElem?_cons_succ, List.getElem?_cons_zero]; with_reducible rfl)
    case hwT37 => rfl
    go_simp
    refine hK.out _ _ ?_ (fun hHeld => ?_)
    · trivial
    clear hK K
    try simp only [Act.put]
    try simp only [List.setIfInBounds_toArray, List.set_cons_zero, List.set_cons_succ]
    refine takeW 29 (some 4) (oi := ?oT38) (v := ?vT38) ?hiT38 ?hdT38 (by kernel_rfl) (by kernel_rfl) (by kernel_rfl) (fun _ _ _ h => h) ?hwT38 ?hyT38 hHeld ?_
    case hiT38 => (simp only [List.getElem?_toArray, List.getElem?_cons_succ, List.getElem?_cons_zero]; with_reducible rfl)
    case hdT38 => rfl
    case hwT38 => rfl
    case hyT38 => (intro w hSw; (try dsimp only at hSw); go_simp; first | done | with_reducible rfl)
    try simp only [Act.put]
    try simp only [List.setIfInBounds_toArray, List.set_cons_zero, List.set_cons_succ]
    refine wpAnyH_done (by kernel_rfl) ?_ _
    refine NoPanic.normal ?_
    go_wp2_with fail
    go_meet
    have hblk : Blk (wn2.alloc (.cells #[.string ⟨#[]⟩, .int .i64 0, .int .i64 0, .slice none 0 0, .bool false, .string ⟨#[97]⟩, .int .i64 0, .int .i64 0, .slice none 0 0, .bool true, .string ⟨#[65]⟩, .int .i64 0, .int .i64 0, .slice none 0 0, .bool false, .string ⟨#[97, 47, 98]⟩, .int .i64 0, .int .i64 0, .slice none 0 0, .bool false, .string ⟨#[48, 49, 50, 51, 52, 53, 54, 55, 56, 57, 97, 98, 99, 100, 101, 102]⟩, .int .i64 0, .int .i64 0, .slice none 0 0, .bool true, .string ⟨#[48, 49, 50, 51, 52, 53, 54, 55, 56, 57, 97, 98, 99, 100, 101, 102, 103]⟩, .int .i64 0, .int .i64 0, .slice none 0 0, .bool false, .string ⟨#[97]⟩, .int .i64 1099511627776, .int .i64 1099511627776, .slice none 0 0, .bool true, .string ⟨#[97]⟩, .int .i64 1099511627777, .int .i64 0, .slice none 0 0, .bool false, .string ⟨#[97]⟩, .int .i64 0, .int .i64 (-1), .slice none 0 0, .bool false, .string ⟨#[97]⟩, .int .i64 0, .int .i64 0, .slice (some ⟨g4000, 0, none⟩) 4000 4000, .bool true, .string ⟨#[97]⟩, .int .i64 0, .int .i64 0, .slice (some ⟨g4001, 0, none⟩) 4001 4001, .bool false] 60)) wn2.heap.size 60 #[.string ⟨#[]⟩, .int .i64 0, .int .i64 0, .slice none 0 0, .bool false, .string ⟨#[97]⟩, .int .i64 0, .int .i64 0, .slice none 0 0, .bool true, .string ⟨#[65]⟩, .int .i64 0, .int .i64 0, .slice none 0 0, .bool false, .string ⟨#[97, 47, 98]⟩, .int .i64 0, .int .i64 0, .slice none 0 0, .bool false, .string ⟨#[48, 49, 50, 51, 52, 53, 54, 55, 56, 57, 97, 98, 99, 100, 101, 102]⟩, .int .i64 0, .int .i64 0, .slice none 0 0, .bool true, .string ⟨#[48, 49, 50, 51, 52, 53, 54, 55, 56, 57, 97, 98, 99, 100, 101, 102, 103]⟩, .int .i64 0, .int .i64 0, .slice none 0 0, .bool false, .string ⟨#[97]⟩, .int .i64 1099511627776, .int .i64 1099511627776, .slice none 0 0, .bool true, .string ⟨#[97]⟩, .int .i64 1099511627777, .int .i64 0, .slice none 0 0, .bool false, .string ⟨#[97]⟩, .int .i64 0, .int .i64 (-1), .slice none 0 0, .bool false, .string ⟨#[97]⟩, .int .i64 0, .int .i64 0, .slice (some ⟨g4000, 0, none⟩) 4000 4000, .bool true, .string ⟨#[97]⟩, .int .i64 0, .int .i64 0, .slice (some ⟨g4001, 0, none⟩) 4001 4001, .bool false] := heap_alloc_new wn2 _
    refine ⟨_, rfl, Lib.hid (fun k hk => ?_), Lib.hid (hB2.alloc hB2.size _)⟩
    have hk11 : k = 0 ∨ k = 1 ∨ k = 2 ∨ k = 3 ∨ k = 4 ∨ k = 5 ∨ k = 6 ∨ k = 7 ∨ k = 8 ∨ k = 9 ∨ k = 10 := by omega
    rcases hk11 with rfl | rfl | rfl | rfl | rfl | rfl | rfl | rfl | rfl | rfl | rfl
    · exact ⟨[], [], 0, 0, _, _, hblk.at 0, hblk.at 1, hblk.at 2, hblk.at 3, hblk.at 4, (bytes_none _), Rc.fr0⟩
    · exact ⟨[97], [], 0, 0, _, _, hblk.at 5, hblk.at 6, hblk.at 7, hblk.at 8, hblk.at 9, (bytes_none _), Rc.fr1⟩
    · exact ⟨[65], [], 0, 0, _, _, hblk.at 10, hblk.at 11, hblk.at 12, hblk.at 13, hblk.at 14, (bytes_none _), Rc.fr2⟩
    · exact ⟨[97, 47, 98], [], 0, 0, _, _, hblk.at 15, hblk.at 16, hblk.at 17, hblk.at 18, hblk.at 19, (bytes_none _), Rc.fr3⟩
    · exact ⟨[48, 49, 50, 51, 52, 53, 54, 55, 56, 57, 97, 98, 99, 100, 101, 102], [], 0, 0, _, _, hblk.at 20, hblk.at 21, hblk.at 22, hblk.at 23, hblk.at 24, (bytes_none _), Rc.fr4⟩
    · exact ⟨[48, 49, 50, 51, 52, 53, 54, 55, 56, 57, 97, 98, 99, 100, 101, 102, 103], [], 0, 0, _, _, hblk.at 25, hblk.at 26, hblk.at 27, hblk.at 28, hblk.at 29, (bytes_none _), Rc.fr5⟩
    · exact ⟨[97], [], 1099511627776, 1099511627776, _, _, hblk.at 30, hblk.at 31, hblk.at 32, hblk.at 33, hblk.at 34, (bytes_none _), Rc.fr6⟩
    · exact ⟨[97], [], 1099511627777, 0, _, _, hblk.at 35, hblk.at 36, hblk.at 37, hblk.at 38, hblk.at 39, (bytes_none _), Rc.fr7⟩
    · exact ⟨[97], [], 0, (-1), _, _, hblk.at 40, hblk.at 41, hblk.at 42, hblk.at 43, hblk.at 44, (bytes_none _), Rc.fr8⟩
    · exact ⟨[97], (List.replicate 4000 0), 0, 0, _, _, hblk.at 45, hblk.at 46, hblk.at 47, hblk.at 48, hblk.at 49, (hb4000.alloc _), Rc.fr9⟩
    · exact ⟨[97], (List.replicate 4001 0), 0, 0, _, _, hblk.at 50, hblk.at 51, hblk.at 52, hblk.at 53, hblk.at 54, (hb4001.alloc _), Rc.fr10⟩
  case rest =>
    obtain ⟨g, rfl, HX, HB⟩ := hcut
    obtain ⟨w1, rfl⟩ : ∃ wy : World, wy = wc := ⟨_, rfl⟩
    obtain ⟨z, hz0, hz1⟩ := Rc.and_255 which
    obtain ⟨k, hk0, hk1⟩ := Ar.rem_of z 11 (by decide)
    have hk2 : (z : Int).tmod 11 = (k : Int) := hk1
    obtain ⟨t, p, who, inc, u, ok, c0, c1, c2, c3, c4, hbu, hfr⟩ := HX.out k hk0
    have HFR := Lib.hid hfr
    have HT := Lib.hid hfr.1
    have HOK : Hid (Rc.okD t p who inc = ok) := Lib.hid hfr.2.2.2
    obtain ⟨B, hB⟩ : ∃ B, Rc.done t p who inc = B := ⟨_, rfl⟩
    have HBB := Lib.hid hB
    have HBL : Hid (B.length ≤ 4040) := Lib.hid (by rw [← hB]; exact Rc.done_length _ _ _ _)
    obtain ⟨_, _, Au, cu, rfl, _, _⟩ := hbu.parts
    obtain ⟨np, hnp⟩ : ∃ n, p.length = n := ⟨_, rfl⟩
    rw [hnp] at hbu c3
    have HBU := Lib.hid hbu
    have C1 : Hid (∀ W, Below w1.heap.size w1 W → Calls Try.prog 42 #[doneV (str t) who inc (.slice Au np cu)] W (Made W.heap.size B W)) := Lib.hid fun W hb => rdone_is t p who inc _ B W (HBU.out.under hb) HT.out (by have := HFR.out.2.1; omega) (by have := HFR.out.2.2.1; omega) HBB.out
    have C2 : Hid (∀ W x, Below w1.heap.size w1 W → Bytes W x p → ok = true → Calls Try.prog 46 #[doneV (str t) ((Cd.held who : Nat) : Int) ((Cd.held inc : Nat) : Int) x, doneV (str t) who inc (.slice Au np cu)] W fun e w' => e = .returned (.bool true) ∧ Below W.heap.size W w') := Lib.hid fun W x hb hx h => by
      have h2 := HOK.out
      rw [h] at h2
      simp only [Rc.okD, Bool.and_eq_true] at h2
      exact sameD_any t t p p _ _ _ _ x _ W hx (HBU.out.under hb) HT.out HT.out true (by simp [sameD, Rc.held_ok h2.1.2, Rc.held_ok h2.2])
    clear hbu hfr hB hnp HX hk1
    obtain ⟨s, hs⟩ : ∃ s, str t = s := ⟨_, rfl⟩
    rw [hs] at c0 C1 C2
    have HS := Lib.hid hs
    clear hs
    have hk5 : k ≤ 10 := by omega
    obtain ⟨w2, hw2⟩ : ∃ w2, w1.alloc (.cells #[.string s, .int .i64 who, .int .i64 inc, .slice Au np cu, .bool ok] 60) = w2 := ⟨_, rfl⟩
    obtain ⟨g5, hg5⟩ : ∃ g, w1.heap.size = g := ⟨_, rfl⟩
    have HB2 : Hid (Below w1.heap.size w1 w2) := Lib.hid (by rw [← hw2]; exact (Below.refl _ _).alloc (Nat.le_refl _) _)
    have HK2 : Hid (Blk w2 g5 60 #[.string s, .int .i64 who, .int .i64 inc, .slice Au np cu, .bool ok]) := Lib.hid (by rw [← hw2, ← hg5]; exact heap_alloc_new w1 _)
    have HW2 := Lib.hid hw2
    have HG5 := Lib.hid hg5
    clear hw2 hg5
    go_upto_region 4 with fail
    rw [HW2.out, HG5.out]
    clear HW2 HG5 c0 c1 c2 c3 c4 hz1 hk2
    have x0 := HK2.out.at 0
    have x1 := HK2.out.at 1
    have x2 := HK2.out.at 2
    have x3 := HK2.out.at 3
    go_wp2_with fail
    refine (C1.out w2 HB2.out).mono ?_
    rintro e w3 ⟨v3, rfl, ho3, hb3⟩
    have HB3 := Lib.hid (HB2.out.trans (hb3.mono HB2.out.size))
    have HB23 := Lib.hid hb3
    have HO3 := Lib.hid ho3.bytes
    obtain ⟨_, _, A3, c3, rfl, _, _⟩ := ho3.bytes.parts
    obtain ⟨nb, hnb⟩ : ∃ n, B.length = n := ⟨_, rfl⟩
    rw [hnb] at HO3 ⊢
    have HNB := Lib.hid hnb
    clear ho3 hb3 hnb x0 x1 x2 x3
    have HL4 : Hid (Rc.lock (Cd.held (-5)) (Cd.held (1099511627776 + 9)) (Cd.held 1099511627776) (Cd.held 7) = Rc.lock 0 1099511627776 1099511627776 7) := Lib.hid (by rfl)
    have HL5 : Hid (Rc.openL (Rc.lock 0 1099511627776 1099511627776 7) = some (0, 1099511627776, 1099511627776, 7)) := Lib.hid (Rc.openL_lock _ _ _ _ (by decide) (by decide) (by decide) (by decide))
    have hw9 : IntKind.i64.wrap (1099511627785 : Int) = 1099511627785 := by decide
    go_wp2_with fail
    rcases ok with _ | _
    · obtain rfl : B = [] := by rw [← HBB.out, Rc.done_not HOK.out]
      obtain rfl : nb = 0 := HNB.out.symm
      refine (ropenD_any _ [] w3 HO3.out (by simp) _ Rc.openD_nil).mono ?_
      rintro e w4 ⟨hb4, rfl⟩
      obtain ⟨w5, hw5⟩ : ∃ w5, w4.alloc (.cells #[.string ⟨#[]⟩, .int .i64 0, .int .i64 0, .slice none 0 0] 59) = w5 := ⟨_, rfl⟩
      obtain ⟨g7, hg7⟩ : ∃ g, w4.heap.size = g := ⟨_, rfl⟩
      have HB5 : Hid (Below w1.heap.size w1 w5) := Lib.hid (by rw [← hw5]; have h := HB3.out.trans (hb4.mono HB3.out.size); exact h.alloc h.size _)
      have HB25 : Hid (Below w2.heap.size w2 w5) := Lib.hid (by rw [← hw5]; have h := HB23.out.trans (hb4.mono HB23.out.size); exact h.alloc h.size _)
      have HW5 := Lib.hid hw5
      have HG7 := Lib.hid hg7
      clear hw5 hg7 hb4 HO3 HB3 HB23
      go_upto_region 6 with fail
      rw [HW5.out, HG7.out]
      clear HW5 HG7
      go_wp2_with fail
      refine (rlock_is (-5) (1099511627776 + 9) 1099511627776 7 _ w5 HL4.out).mono ?_
      rintro e w6 ⟨v6, rfl, ho6, hb6⟩
      have HB6 := Lib.hid hb6
      have HO6 := Lib.hid ho6.bytes
      clear ho6 hb6
      go_wp2_with fail
      refine (ropenL_any v6 _ w6 HO6.out (by rw [Rc.lock_length]; decide) _ HL5.out).mono ?_
      rintro e w7 ⟨rfl, hb7⟩
      rw [show lockOf (some (0, 1099511627776, 1099511627776, 7)) = .tuple #[.agg #[.int .i64 0, .int .i64 1099511627776, .int .i64 1099511627776, .int .i64 7], .bool true] from rfl]
      obtain ⟨w8, hw8⟩ : ∃ w8, w7.alloc (.cells #[.int .i64 0, .int .i64 1099511627776, .int .i64 1099511627776, .int .i64 7] 66) = w8 := ⟨_, rfl⟩
      obtain ⟨g9, hg9⟩ : ∃ g, w7.heap.size = g := ⟨_, rfl⟩
      have HB58 : Hid (Below w5.heap.size w5 w8) := Lib.hid (by rw [← hw8]; have h := HB6.out.trans (hb7.mono HB6.out.size); exact h.alloc h.size _)
      have HK9 : Hid (Blk w8 g9 66 #[.int .i64 0, .int .i64 1099511627776, .int .i64 1099511627776, .int .i64 7]) := Lib.hid (by rw [← hw8, ← hg9]; exact heap_alloc_new w7 _)
      have HB8 := Lib.hid (HB5.out.trans (HB58.out.mono HB5.out.size))
      have HB28 := Lib.hid (HB25.out.trans (HB58.out.mono HB25.out.size))
      have HW8 := Lib.hid hw8
      have HG9 := Lib.hid hg9
      clear hw8 hg9 hb7 HO6 HB6
      go_upto_region 7 with fail
      rw [HW8.out, HG9.out]
      clear HW8 HG9
      have kx := HK2.out.under HB28.out
      have x0 := kx.at 0
      have x1 := kx.at 1
      have x2 := kx.at 2
      have x3 := kx.at 3
      have x4 := kx.at 4
      have l0 := HK9.out.at 0
      have l1 := HK9.out.at 1
      have l2 := HK9.out.at 2
      have l3 := HK9.out.at 3
      clear kx
      go_wp2_with fail
      refine (rawake_any _).mono ?_
      rintro e w10 ⟨rfl, hb10⟩
      have HB10 := Lib.hid (HB.out.trans ((HB8.out.trans (hb10.mono HB8.out.size)).mono HB.out.size))
      clear hb10
      go_wp2
      go_ret
      exact ⟨rfl, HB10.out⟩
    · have HDO : Hid (Rc.openD B = some (t, p, Cd.held who, Cd.held inc)) := Lib.hid (by rw [← HBB.out]; exact Rc.done_ok HOK.out)
      have hnb0 : (0 : Int) < (nb : Int) := by have := Rc.done_pos HOK.out; rw [HBB.out, HNB.out] at this; omega
      refine (ropenD_any _ B w3 HO3.out (by have := HBL.out; omega) _ HDO.out).mono ?_
      rintro e w4 ⟨hb4, x4, rfl, ho4⟩
      rw [HS.out]
      obtain ⟨y1, hy1⟩ : ∃ y : Int, ((Cd.held who : Nat) : Int) = y := ⟨_, rfl⟩
      obtain ⟨y2, hy2⟩ : ∃ y : Int, ((Cd.held inc : Nat) : Int) = y := ⟨_, rfl⟩
      rw [hy1, hy2] at C2 ⊢
      obtain ⟨_, _, A4, c4, rfl, _, _⟩ := ho4.bytes.parts
      obtain ⟨np4, hnp4⟩ : ∃ n, p.length = n := ⟨_, rfl⟩
      rw [hnp4]
      obtain ⟨w5, hw5⟩ : ∃ w5, w4.alloc (.cells #[.string s, .int .i64 y1, .int .i64 y2, .slice A4 np4 c4] 59) = w5 := ⟨_, rfl⟩
      obtain ⟨g7, hg7⟩ : ∃ g, w4.heap.size = g := ⟨_, rfl⟩
      have HB5 : Hid (Below w1.heap.size w1 w5) := Lib.hid (by rw [← hw5]; have h := HB3.out.trans (hb4.mono HB3.out.size); exact h.alloc h.size _)
      have HB25 : Hid (Below w2.heap.size w2 w5) := Lib.hid (by rw [← hw5]; have h := HB23.out.trans (hb4.mono HB23.out.size); exact h.alloc h.size _)
      have HX5 : Hid (Bytes w5 (.slice A4 np4 c4) p) := Lib.hid (by rw [← hw5, ← hnp4]; exact ho4.bytes.alloc _)
      have HK7 : Hid (Blk w5 g7 59 #[.string s, .int .i64 y1, .int .i64 y2, .slice A4 np4 c4]) := Lib.hid (by rw [← hw5, ← hg7]; exact heap_alloc_new w4 _)
      have HW5 := Lib.hid hw5
      have HG7 := Lib.hid hg7
      clear hw5 hg7 hb4 ho4 HO3 HB3 HB23 hy1 hy2 hnp4
      go_upto_region 6 with fail
      rw [HW5.out, HG7.out]
      clear HW5 HG7
      go_wp2_with fail
      refine (rlock_is (-5) (1099511627776 + 9) 1099511627776 7 _ w5 HL4.out).mono ?_
      rintro e w6 ⟨v6, rfl, ho6, hb6⟩
      have HB6 := Lib.hid hb6
      have HO6 := Lib.hid ho6.bytes
      clear ho6 hb6
      go_wp2_with fail
      refine (ropenL_any v6 _ w6 HO6.out (by rw [Rc.lock_length]; decide) _ HL5.out).mono ?_
      rintro e w7 ⟨rfl, hb7⟩
      rw [show lockOf (some (0, 1099511627776, 1099511627776, 7)) = .tuple #[.agg #[.int .i64 0, .int .i64 1099511627776, .int .i64 1099511627776, .int .i64 7], .bool true] from rfl]
      obtain ⟨w8, hw8⟩ : ∃ w8, w7.alloc (.cells #[.int .i64 0, .int .i64 1099511627776, .int .i64 1099511627776, .int .i64 7] 66) = w8 := ⟨_, rfl⟩
      obtain ⟨g9, hg9⟩ : ∃ g, w7.heap.size = g := ⟨_, rfl⟩
      have HB58 : Hid (Below w5.heap.size w5 w8) := Lib.hid (by rw [← hw8]; have h := HB6.out.trans (hb7.mono HB6.out.size); exact h.alloc h.size _)
      have HK9 : Hid (Blk w8 g9 66 #[.int .i64 0, .int .i64 1099511627776, .int .i64 1099511627776, .int .i64 7]) := Lib.hid (by rw [← hw8, ← hg9]; exact heap_alloc_new w7 _)
      have HB8 := Lib.hid (HB5.out.trans (HB58.out.mono HB5.out.size))
      have HB28 := Lib.hid (HB25.out.trans (HB58.out.mono HB25.out.size))
      have HW8 := Lib.hid hw8
      have HG9 := Lib.hid hg9
      clear hw8 hg9 hb7 HO6 HB6
      go_upto_region 7 with fail
      rw [HW8.out, HG9.out]
      clear HW8 HG9
      have kx := HK2.out.under HB28.out
      have x0 := kx.at 0
      have x1 := kx.at 1
      have x2 := kx.at 2
      have x3 := kx.at 3
      have x4 := kx.at 4
      have l0 := HK9.out.at 0
      have l1 := HK9.out.at 1
      have l2 := HK9.out.at 2
      have l3 := HK9.out.at 3
      have ke := HK7.out.under HB58.out
      have e0 := ke.at 0
      have e1 := ke.at 1
      have e2 := ke.at 2
      have e3 := ke.at 3
      clear ke
      clear kx
      go_wp2_with fail
      refine (C2.out w8 _ HB8.out (HX5.out.under HB58.out) (by first | rfl | trivial)).mono ?_
      rintro e w9 ⟨rfl, hb9⟩
      have HB9 := Lib.hid (HB8.out.trans (hb9.mono HB8.out.size))
      have HB89 := Lib.hid hb9
      have kl := HK9.out.under HB89.out
      have l0 := kl.at 0
      have l1 := kl.at 1
      have l2 := kl.at 2
      have l3 := kl.at 3
      clear hb9 kl x0 x1 x2 x3 x4 e0 e1 e2 e3
      go_wp2_with fail
      refine (rawake_any _).mono ?_
      rintro e w10 ⟨rfl, hb10⟩
      have HB10 := Lib.hid (HB.out.trans ((HB9.out.trans (hb10.mono HB9.out.size)).mono HB.out.size))
      clear hb10
      go_wp2
      go_ret
      exact ⟨rfl, HB10.out⟩
end Go.Proofs.Ytkfmjkoghfcciaa
