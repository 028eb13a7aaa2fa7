/- A commit of a number, as the statements of layer 12 have it. -/
import Derived.Test.YtfheaognfocofaaZRecoForms
namespace Go.Proofs.Ytfheaognfocofaa
set_option maxRecDepth 100000
open Go.ChangeShapes Go.WideShapes Go.ChangeAt Go.RowKit

namespace Rc
def names : List (List Nat) := [[97], [98], [99, 46, 111], [108, 111, 110, 103, 45, 110, 97, 109, 101, 95, 48, 49, 50, 51]]
def byte (n : Int) : Nat := (n % 256).toNat
/-- The commit of a number. -/
def num (n : Int) : D := (names.getD (bits .and .i64 n 3).toNat [], [byte (n / 512), byte (n / 131072)].take ((bits .and .i64 (n / 33554432) 3).toNat % 3), (bits .and .i64 (n / 4) 7).toNat, (bits .and .i64 (n / 32) 15).toNat)
def NumOk (d : D) : Prop := Nm.ok d.1 = true ∧ d.2.1.length ≤ 2 ∧ (∀ c ∈ d.2.1, c < 256) ∧ d.2.2.1 ≤ 7 ∧ d.2.2.2 ≤ 15
theorem byte_lt (n : Int) : byte n < 256 := by unfold byte; omega
theorem byte_eq (n : Int) : ((byte n : Nat) : Int) = n % 256 := by unfold byte; omega
theorem names_ok {k : Nat} (h : k ≤ 3) : Nm.ok (names.getD k []) = true := by
  have : k = 0 ∨ k = 1 ∨ k = 2 ∨ k = 3 := by omega
  rcases this with rfl | rfl | rfl | rfl <;> decide +kernel
theorem num_ok (n : Int) : NumOk (num n) := by
  obtain ⟨a, ha, ea⟩ := and_3 n
  obtain ⟨b, hb, eb⟩ := and_7 (n / 4)
  obtain ⟨c, hc, ec⟩ := and_15 (n / 32)
  unfold num
  refine ⟨?_, ?_, ?_, ?_, ?_⟩
  · rw [ea]; exact names_ok (by omega)
  · simp; omega
  · intro x hx
    have := List.mem_of_mem_take hx
    simp at this
    rcases this with rfl | rfl <;> exact byte_lt _
  · rw [eb]; simpa using hb
  · rw [ec]; simpa using hc
end Rc

/-- A commit of a number, its print in a row of its own. -/
def NumIs (d : Rc.D) (w : World) (e : Ending) (w' : World) : Prop := Below w.heap.size w w' ∧ ∃ x, e = .returned (doneV (str d.1) (d.2.2.1 : Int) (d.2.2.2 : Int) x) ∧ Own w' w.heap.size x d.2.1
theorem run_u8_wrap (n : Int) : IntKind.u8.wrap n = ((Rc.byte n : Nat) : Int) := by
  rw [Rc.byte_eq]
  rfl
theorem rnum_row (w : World) (x y : Nat) (hx : x < 256) (hy : y < 256) (k : Nat) (hk : k ≤ 2) : Own (w.alloc (.cells #[.int .u8 (x : Int), .int .u8 (y : Int)] 5)) w.heap.size (.slice (some ⟨w.heap.size, 0, none⟩) k 2) ([x, y].take k) := by
  have : k = 0 ∨ k = 1 ∨ k = 2 := by omega
  have hb : ∀ c ∈ [x, y].take k, c < 256 := fun c hc => by
    have := List.mem_of_mem_take hc
    simp at this
    omega
  refine ⟨⟨?_, .inr ⟨w.heap.size, 2, #[.int .u8 (x : Int), .int .u8 (y : Int)], ?_, Nat.le_refl _, heap_alloc_new w _, ?_, by unfold maxLen; omega, rfl, ?_⟩⟩, hb⟩
  · rcases this with rfl | rfl | rfl <;> rfl
  · rcases this with rfl | rfl | rfl <;> rfl
  · rcases this with rfl | rfl | rfl <;> simp
  · rcases this with rfl | rfl | rfl <;> rfl

set_option maxRecDepth 100000 in
set_option maxHeartbeats 8000000 in
theorem rnum_any' (n : Int) (d : Rc.D) (w : World) (hd : Rc.num n = d) : Calls Try.prog 12 #[.int .i64 n] w (NumIs d w) := by
  have HD := Lib.hid hd
  obtain ⟨a, ha, ea⟩ := Rc.and_3 n
  obtain ⟨b, hb, eb⟩ := Rc.and_7 (n / 4)
  obtain ⟨c, hc, ec⟩ := Rc.and_15 (n / 32)
  obtain ⟨r, hr, er⟩ := Rc.and_3 (n / 33554432)
  obtain ⟨k, hk, ek⟩ := Ar.rem_of r 3 (by decide)
  have ek3 : (r : Int).tmod 3 = (k : Int) := ek
  have HE : Hid (d = (Rc.names.getD a [], [Rc.byte (n / 512), Rc.byte (n / 131072)].take k, b, c)) := Lib.hid (by
    have hrk : r % 3 = k := by
      rw [Int.tmod_eq_emod_of_nonneg (by omega)] at ek
      omega
    rw [← hd, Rc.num, ea, eb, ec, er, Int.toNat_natCast, Int.toNat_natCast, Int.toNat_natCast, Int.toNat_natCast, hrk])
  have u1 := run_u8_wrap (n / 512)
  have u2 := run_u8_wrap (n / 131072)
  have u3 := Rc.byte_eq (n / 512)
  have u4 := Rc.byte_eq (n / 131072)
  obtain ⟨y1, hy1⟩ : ∃ y, Rc.byte (n / 512) = y := ⟨_, rfl⟩
  obtain ⟨y2, hy2⟩ : ∃ y, Rc.byte (n / 131072) = y := ⟨_, rfl⟩
  have HY : Hid (y1 < 256 ∧ y2 < 256) := Lib.hid (by rw [← hy1, ← hy2]; exact ⟨Rc.byte_lt _, Rc.byte_lt _⟩)
  rw [hy1] at u1 u3 HE
  rw [hy2] at u2 u4 HE
  replace u3 := u3.symm
  replace u4 := u4.symm
  have haI : (a : Int) < 4 := by omega
  have ha4 : a < 4 := by omega
  have hkI : (k : Int) ≤ 2 := by omega
  have hk2 : k ≤ 2 := by omega
  obtain ⟨w0, hw0⟩ : ∃ w0, w.alloc (.cells #[.string ⟨#[]⟩, .int .i64 0, .int .i64 0, .slice none 0 0] 39) = w0 := ⟨_, rfl⟩
  obtain ⟨g0, hg0⟩ : ∃ g, w.heap.size = g := ⟨_, rfl⟩
  have HB0 : Hid (Below w.heap.size w w0) := Lib.hid (by rw [← hw0]; exact (Below.refl _ _).alloc (Nat.le_refl _) _)
  have HRW : Hid (Blk w0 g0 39 #[.string ⟨#[]⟩, .int .i64 0, .int .i64 0, .slice none 0 0]) := Lib.hid (by rw [← hw0, ← hg0]; exact heap_alloc_new w _)
  have HG0 : Hid (w.heap.size ≤ g0) := Lib.hid (by rw [hg0]; exact Nat.le_refl _)
  have HGW : Hid (g0 < w0.heap.size) := Lib.hid HRW.out.size
  clear hd ek hy1 hy2 hb hc hr hk ha
  go_enter Try.func12, Try.ntmps12
  go_upto_region 1 with fail
  clear hw0 hg0
  refine wp_region_noPanic ?_
  refine wp_region_held_drew (S := fun _ => True) (by kernel_rfl) (trivial) (fun hHeld => ?_)
  obtain ⟨wn0, hwn⟩ : ∃ wn, w0.drew = wn := ⟨_, rfl⟩
  have hB0 : Below w0.heap.size w0 wn0 := by rw [← hwn]; exact (Below.refl _ _).drew
  rw [hwn]
  clear hwn
  refine takeW 1 (some 4) (oi := ?oT1) (v := ?vT1) ?hiT1 ?hdT1 (by kernel_rfl) (by kernel_rfl) (by kernel_rfl) (fun _ _ _ h => h) ?hwT1 ?hyT1 hHeld ?_
  case hiT1 => (simp only [List.getElem?_toArray, List.getElem?_cons_succ, List.getElem?_cons_zero]; with_reducible rfl)
  case hdT1 => rfl
  case hwT1 => rfl
  case hyT1 => (intro w hSw; (try dsimp only at hSw); go_simp; first | done | with_reducible rfl)
  try simp only [Act.put]
  try simp only [List.setIfInBounds_toArray, List.set_cons_zero, List.set_cons_succ]
  refine takeW 2 (some 5) (oi := ?oT2) (v := ?vT2) ?hiT2 ?hdT2 (by kernel_rfl) (by kernel_rfl) (by kernel_rfl) (fun _ _ _ h => h) ?hwT2 ?hyT2 hHeld ?_
  case hiT2 => (simp only [List.getElem?_toArray, List.getElem?_cons_succ, List.getElem?_cons_zero]; with_reducible rfl)
  case hdT2 => rfl
  case hwT2 => rfl
  case hyT2 => (intro w hSw; (try dsimp only at hSw); go_simp; first | done | with_reducible rfl)
  try simp only [Act.put]
  try simp only [List.setIfInBounds_toArray, List.set_cons_zero, List.set_cons_succ]
  refine takeW 5 (some 8) (oi := ?oT3) (v := ?vT3) ?hiT3 ?hdT3 (by kernel_rfl) (by kernel_rfl) (by kernel_rfl) (fun _ _ _ h => h) ?hwT3 ?hyT3 hHeld ?_
  case hiT3 => (simp only [List.getElem?_toArray, List.getElem?_cons_succ, List.getElem?_cons_zero]; with_reducible rfl)
  case hdT3 => rfl
  case hwT3 => rfl
  case hyT3 => (intro w hSw; (try dsimp only at hSw); go_simp; first | done | with_reducible rfl)
  try simp only [Act.put]
  try simp only [List.setIfInBounds_toArray, List.set_cons_zero, List.set_cons_succ]
  refine takeW 6 (some 9) (oi := ?oT4) (v := ?vT4) ?hiT4 ?hdT4 (by kernel_rfl) (by kernel_rfl) (by kernel_rfl) (fun _ _ _ h => h) ?hwT4 ?hyT4 hHeld ?_
  case hiT4 => (simp only [List.getElem?_toArray, List.getElem?_cons_succ, List.getElem?_cons_zero]; with_reducible rfl)
  case hdT4 => rfl
  case hwT4 => rfl
  case hyT4 => (intro w hSw; (try dsimp only at hSw); go_simp; first | done | with_reducible rfl)
  try simp only [Act.put]
  try simp only [List.setIfInBounds_toArray, List.set_cons_zero, List.set_cons_succ]
  refine takeW 7 (some 10) (oi := ?oT5) (v := ?vT5) ?hiT5 ?hdT5 (by kernel_rfl) (by kernel_rfl) (by kernel_rfl) (fun _ _ _ h => h) ?hwT5 ?hyT5 hHeld ?_
  case hiT5 => (simp only [List.getElem?_toArray, List.getElem?_cons_succ, List.getElem?_cons_zero]; with_reducible rfl)
  case hdT5 => rfl
  case hwT5 => rfl
  case hyT5 => (intro w hSw; (try dsimp only at hSw); go_simp; first | done | with_reducible rfl)
  try simp only [Act.put]
  try simp only [List.setIfInBounds_toArray, List.set_cons_zero, List.set_cons_succ]
  refine takeW 8 (some 11) (oi := ?oT6) (v := ?vT6) ?hiT6 ?hdT6 (by kernel_rfl) (by kernel_rfl) (by kernel_rfl) (fun _ _ _ h => h) ?hwT6 ?hyT6 hHeld ?_
  case hiT6 => (simp only [List.getElem?_toArray, List.getElem?_cons_succ, List.getElem?_cons_zero]; with_reducible rfl)
  case hdT6 => rfl
  case hwT6 => rfl
  case hyT6 => (intro w hSw; (try dsimp only at hSw); go_simp; first | done | with_reducible rfl)
  try simp only [Act.put]
  try simp only [List.setIfInBounds_toArray, List.set_cons_zero, List.set_cons_succ]
  refine takeW 9 (some 12) (oi := ?oT7) (v := ?vT7) ?hiT7 ?hdT7 (by kernel_rfl) (by kernel_rfl) (by kernel_rfl) (fun _ _ _ h => h) ?hwT7 ?hyT7 hHeld ?_
  case hiT7 => (simp only [List.getElem?_toArray, List.getElem?_cons_succ, List.getElem?_cons_zero]; with_reducible rfl)
  case hdT7 => rfl
  case hwT7 => rfl
  case hyT7 => (intro w hSw; (try dsimp only at hSw); go_simp; first | done | with_reducible rfl)
  try simp only [Act.put]
  try simp only [List.setIfInBounds_toArray, List.set_cons_zero, List.set_cons_succ]
  refine takeW 10 (some 13) (oi := ?oT8) (v := ?vT8) ?hiT8 ?hdT8 (by kernel_rfl) (by kernel_rfl) (by kernel_rfl) (fun _ _ _ h => h) ?hwT8 ?hyT8 hHeld ?_
  case hiT8 => (simp only [List.getElem?_toArray, List.getElem?_cons_succ, List.getElem?_cons_zero]; with_reducible rfl)
  case hdT8 => rfl
  case hwT8 => rfl
  case hyT8 => (intro w hSw; (try dsimp only at hSw); go_simp; first | done | with_reducible rfl)
  try simp only [Act.put]
  try simp only [List.setIfInBounds_toArray, List.set_cons_zero, List.set_cons_succ]
  refine takeW 11 (some 14) (oi := ?oT9) (v := ?vT9) ?hiT9 ?hdT9 (by kernel_rfl) (by kernel_rfl) (by kernel_rfl) (fun _ _ _ h => h) ?hwT9 ?hyT9 hHeld ?_
  case hiT9 => (simp only [List.getElem?_toArray, List.getElem?_cons_succ, List.getElem?_cons_zero]; with_reducible rfl)
  case hdT9 => rfl
  case hwT9 => rfl
  case hyT9 => (intro w hSw; (try dsimp only at hSw); go_simp; first | done | with_reducible rfl)
  try simp only [Act.put]
  try simp only [List.setIfInBounds_toArray, List.set_cons_zero, List.set_cons_succ]
  refine takeW 12 (some 15) (oi := ?oT10) (v := ?vT10) ?hiT10 ?hdT10 (by kernel_rfl) (by kernel_rfl) (by kernel_rfl) (fun _ _ _ h => h) ?hwT10 ?hyT10 hHeld ?_
  case hiT10 => (simp only [List.getElem?_toArray, List.getElem?_cons_succ, List.getElem?_cons_zero]; with_reducible rfl)
  case hdT10 => rfl
  case hwT10 => rfl
  case hyT10 => (intro w hSw; (try dsimp only at hSw); go_simp; first | done | with_reducible rfl)
  try simp only [Act.put]
  try simp only [List.setIfInBounds_toArray, List.set_cons_zero, List.set_cons_succ]
  refine takeW 13 (some 16) (oi := ?oT11) (v := ?vT11) ?hiT11 ?hdT11 (by kernel_rfl) (by kernel_rfl) (by kernel_rfl) (fun _ _ _ h => h) ?hwT11 ?hyT11 hHeld ?_
  case hiT11 => (simp only [List.getElem?_toArray, List.getElem?_cons_succ, List.getElem?_cons_zero]; with_reducible rfl)
  case hdT11 => rfl
  case hwT11 => rfl
  case hyT11 => (intro w hSw; (try dsimp only at hSw); go_simp; first | done | with_reducible rfl)
  try simp only [Act.put]
  try simp only [List.setIfInBounds_toArray, List.set_cons_zero, List.set_cons_succ]
  refine takeW 14 (some 17) (oi := ?oT12) (v := ?vT12) ?hiT12 ?hdT12 (by kernel_rfl) (by kernel_rfl) (by kernel_rfl) (fun _ _ _ h => h) ?hwT12 ?hyT12 hHeld ?_
  case hiT12 => (simp only [List.getElem?_toArray, List.getElem?_cons_succ, List.getElem?_cons_zero]; with_reducible rfl)
  case hdT12 => rfl
  case hwT12 => rfl
  case hyT12 => (intro w hSw; (try dsimp only at hSw); go_simp; first | done | with_reducible rfl)
  try simp only [Act.put]
  try simp only [List.setIfInBounds_toArray, List.set_cons_zero, List.set_cons_succ]
  refine takeW 15 (some 18) (oi := ?oT13) (v := ?vT13) ?hiT13 ?hdT13 (by kernel_rfl) (by kernel_rfl) (by kernel_rfl) (fun _ _ _ h => h) ?hwT13 ?hyT13 hHeld ?_
  case hiT13 => (simp only [List.getElem?_toArray, List.getElem?_cons_succ, List.getElem?_cons_zero]; with_reducible rfl)
  case hdT13 => rfl
  case hwT13 => rfl
  case hyT13 => (intro w hSw; (try dsimp only at hSw); go_simp; first | done | with_reducible rfl)
  try simp only [Act.put]
  try simp only [List.setIfInBounds_toArray, List.set_cons_zero, List.set_cons_succ]
  refine takeW 16 (some 19) (oi := ?oT14) (v := ?vT14) ?hiT14 ?hdT14 (by kernel_rfl) (by kernel_rfl) (by kernel_rfl) (fun _ _ _ h => h) ?hwT14 ?hyT14 hHeld ?_
  case hiT14 => (simp only [List.getElem?_toArray, List.getElem?_cons_succ, List.getElem?_cons_zero]; with_reducible rfl)
  case hdT14 => rfl
  case hwT14 => rfl
  case hyT14 => (intro w hSw; (try dsimp only at hSw); go_simp; first | done | with_reducible rfl)
  try simp only [Act.put]
  try simp only [List.setIfInBounds_toArray, List.set_cons_zero, List.set_cons_succ]
  refine takeW 18 (some 21) (oi := ?oT15) (v := ?vT15) ?hiT15 ?hdT15 (by kernel_rfl) (by kernel_rfl) (by kernel_rfl) (fun _ _ _ h => h) ?hwT15 ?hyT15 hHeld ?_
  case hiT15 => (simp only [List.getElem?_toArray, List.getElem?_cons_succ, List.getElem?_cons_zero]; with_reducible rfl)
  case hdT15 => rfl
  case hwT15 => rfl
  case hyT15 => (intro w hSw; (try dsimp only at hSw); go_simp; first | done | with_reducible rfl)
  try simp only [Act.put]
  try simp only [List.setIfInBounds_toArray, List.set_cons_zero, List.set_cons_succ]
  refine takeW 19 (some 22) (oi := ?oT16) (v := ?vT16) ?hiT16 ?hdT16 (by kernel_rfl) (by kernel_rfl) (by kernel_rfl) (fun _ _ _ h => h) ?hwT16 ?hyT16 hHeld ?_
  case hiT16 => (simp only [List.getElem?_toArray, List.getElem?_cons_succ, List.getElem?_cons_zero]; with_reducible rfl)
  case hdT16 => rfl
  case hwT16 => rfl
  case hyT16 => (intro w hSw; (try dsimp only at hSw); go_simp; first | done | with_reducible rfl)
  try simp only [Act.put]
  try simp only [List.setIfInBounds_toArray, List.set_cons_zero, List.set_cons_succ]
  refine takeW 20 (some 23) (oi := ?oT17) (v := ?vT17) ?hiT17 ?hdT17 (by kernel_rfl) (by kernel_rfl) (by kernel_rfl) (fun _ _ _ h => h) ?hwT17 ?hyT17 hHeld ?_
  case hiT17 => (simp only [List.getElem?_toArray, List.getElem?_cons_succ, List.getElem?_cons_zero]; with_reducible rfl)
  case hdT17 => rfl
  case hwT17 => rfl
  case hyT17 => (intro w hSw; (try dsimp only at hSw); go_simp; first | done | with_reducible rfl)
  try simp only [Act.put]
  try simp only [List.setIfInBounds_toArray, List.set_cons_zero, List.set_cons_succ]
  refine takeW 21 (some 24) (oi := ?oT18) (v := ?vT18) ?hiT18 ?hdT18 (by kernel_rfl) (by kernel_rfl) (by kernel_rfl) (fun _ _ _ h => h) ?hwT18 ?hyT18 hHeld ?_
  case hiT18 => (simp only [List.getElem?_toArray, List.getElem?_cons_succ, List.getElem?_cons_zero]; with_reducible rfl)
  case hdT18 => rfl
  case hwT18 => rfl
  case hyT18 => (intro w hSw; (try dsimp only at hSw); go_simp; first | done | with_reducible rfl)
  try simp only [Act.put]
  try simp only [List.setIfInBounds_toArray, List.set_cons_zero, List.set_cons_succ]
  refine wpAnyH_ready (rs := [0, 17]) (by kernel_rfl) (by simp) ?_
  refine stepOf 0 (o := ?oT19) ?hiT19 ?hwT19 (fun K hK => ?_) ?_
  case hiT19 => (simp only [List.getElem?_toArray, List.getElem?_cons_zero]; with_reducible rfl)
  case hwT19 => rfl
  · skip
    go_simp
    obtain ⟨gA, hg⟩ : ∃ g, wn0.heap.size = g := ⟨_, rfl⟩
    obtain ⟨wn1, hwm⟩ : ∃ wm, wn0.alloc (.cells #[.string ⟨#[97]⟩, .string ⟨#[98]⟩, .string ⟨#[99, 46, 111]⟩, .string ⟨#[108, 111, 110, 103, 45, 110, 97, 109, 101, 95, 48, 49, 50, 51]⟩] 9) = wm := ⟨_, rfl⟩
    have hB1 : Below w0.heap.size w0 wn1 := by rw [← hwm]; exact hB0.alloc hB0.size _
    have hA : Blk wn1 gA 9 #[.string ⟨#[97]⟩, .string ⟨#[98]⟩, .string ⟨#[99, 46, 111]⟩, .string ⟨#[108, 111, 110, 103, 45, 110, 97, 109, 101, 95, 48, 49, 50, 51]⟩] := by rw [← hwm, ← hg]; exact heap_alloc_new _ _
    rw [hwm]
    rw [hg]
    clear hwm hg hB0
    refine hK.out _ _ ?_ (fun hHeld => ?_)
    · trivial
    clear hK K
    try simp only [Act.put]
    try simp only [List.setIfInBounds_toArray, List.set_cons_zero, List.set_cons_succ]
    refine takeW 3 (some 6) (oi := ?oT20) (v := ?vT20) ?hiT20 ?hdT20 (by kernel_rfl) (by kernel_rfl) (by kernel_rfl) (fun _ _ _ h => h) ?hwT20 ?hyT20 hHeld ?_
    case hiT20 => (simp only [List.getElem?_toArray, List.getElem?_cons_succ, List.getElem?_cons_zero]; with_reducible rfl)
    case hdT20 => rfl
    case hwT20 => rfl
    case hyT20 => (intro w hSw; (try dsimp only at hSw); go_simp; first | done | with_reducible rfl)
    try simp only [Act.put]
    try simp only [List.setIfInBounds_toArray, List.set_cons_zero, List.set_cons_succ]
    refine wpAnyH_ready (rs := [4, 17]) (by kernel_rfl) (by simp) ?_
    refine stepOf 4 (o := ?oT21) ?hiT21 ?hwT21 (fun K hK => ?_) ?_
    case hiT21 => (simp only [List.getElem?_toArray, List.getElem?_cons_succ, List.getElem?_cons_zero]; with_reducible rfl)
    case hwT21 => rfl
    · skip
      have hcA : wn1.cell? ⟨gA, a, none⟩ = some (.string (str (Rc.names.getD a []))) := by
        rw [hA.at a]
        rcases (show a = 0 ∨ a = 1 ∨ a = 2 ∨ a = 3 by omega) with rfl | rfl | rfl | rfl <;> rfl
      obtain ⟨s, hs⟩ : ∃ s, str (Rc.names.getD a []) = s := ⟨_, rfl⟩
      rw [hs] at hcA
      have HS := Lib.hid hs
      clear hs
      go_simp
      refine hK.out _ _ ?_ (fun hHeld => ?_)
      · trivial
      clear hK K
      try simp only [Act.put]
      try simp only [List.setIfInBounds_toArray, List.set_cons_zero, List.set_cons_succ]
      refine stepOne 17 (o := ?oT22) ?hiT22 (by kernel_rfl) ?hwT22 (fun K hK => ?_)
      case hiT22 => (simp only [List.getElem?_toArray, List.getElem?_cons_succ, List.getElem?_cons_zero]; with_reducible rfl)
      case hwT22 => rfl
      go_simp
      obtain ⟨gB, hg⟩ : ∃ g, wn1.heap.size = g := ⟨_, rfl⟩
      obtain ⟨wn2, hwm⟩ : ∃ wm, wn1.alloc (.cells #[.int .u8 (y1 : Int), .int .u8 (y2 : Int)] 5) = wm := ⟨_, rfl⟩
      have hB2 : Below w0.heap.size w0 wn2 := by rw [← hwm]; exact hB1.alloc hB1.size _
      have hO : Own wn2 w0.heap.size (.slice (some ⟨gB, 0, none⟩) k 2) ([y1, y2].take k) := by rw [← hwm, ← hg]; exact (rnum_row wn1 y1 y2 HY.out.1 HY.out.2 k hk2).more hB1.size
      replace hA : Blk wn2 gA 9 #[.string ⟨#[97]⟩, .string ⟨#[98]⟩, .string ⟨#[99, 46, 111]⟩, .string ⟨#[108, 111, 110, 103, 45, 110, 97, 109, 101, 95, 48, 49, 50, 51]⟩] := by rw [← hwm]; exact hA.alloc _
      rw [hwm]
      rw [hg]
      clear hwm hg hB1
      refine hK.out _ _ ?_ (fun hHeld => ?_)
      · trivial
      clear hK K
      try simp only [Act.put]
      try simp only [List.setIfInBounds_toArray, List.set_cons_zero, List.set_cons_succ]
      refine takeW 22 (some 25) (oi := ?oT23) (v := ?vT23) ?hiT23 ?hdT23 (by kernel_rfl) (by kernel_rfl) (by kernel_rfl) (fun _ _ _ h => h) ?hwT23 ?hyT23 hHeld ?_
      case hiT23 => (simp only [List.getElem?_toArray, List.getElem?_cons_succ, List.getElem?_cons_zero]; with_reducible rfl)
      case hdT23 => rfl
      case hwT23 => rfl
      case hyT23 => (intro w hSw; (try dsimp only at hSw); go_simp; first | done | with_reducible rfl)
      try simp only [Act.put]
      try simp only [List.setIfInBounds_toArray, List.set_cons_zero, List.set_cons_succ]
      refine takeW 23 (some 26) (oi := ?oT24) (v := ?vT24) ?hiT24 ?hdT24 (by kernel_rfl) (by kernel_rfl) (by kernel_rfl) (fun _ _ _ h => h) ?hwT24 ?hyT24 hHeld ?_
      case hiT24 => (simp only [List.getElem?_toArray, List.getElem?_cons_succ, List.getElem?_cons_zero]; with_reducible rfl)
      case hdT24 => rfl
      case hwT24 => rfl
      case hyT24 => (intro w hSw; (try dsimp only at hSw); go_simp; first | done | with_reducible rfl)
      try simp only [Act.put]
      try simp only [List.setIfInBounds_toArray, List.set_cons_zero, List.set_cons_succ]
      refine stepOne 24 (o := ?oT25) ?hiT25 (by kernel_rfl) ?hwT25 (fun K hK => ?_)
      case hiT25 => (simp only [List.getElem?_toArray, List.getElem?_cons_succ, List.getElem?_cons_zero]; with_reducible rfl)
      case hwT25 => rfl
      have HRX := HRW.out.under hB2
      have b0 := HRX.at 0
      have b1 := HRX.at 1
      have b2 := HRX.at 2
      have b3 := HRX.at 3
      have f0 := HRX.free 0
      have f1 := HRX.free 1
      have f2 := HRX.free 2
      have f3 := HRX.free 3
      go_simp
      refine hK.out _ _ ?_ (fun hHeld => ?_)
      · trivial
      clear hK K
      try simp only [Act.put]
      try simp only [List.setIfInBounds_toArray, List.set_cons_zero, List.set_cons_succ]
      refine wpAnyH_done (by kernel_rfl) ?_ _
      refine NoPanic.normal ?_
      go_wp2
      refine bodyPost_ret (results_cell_row rfl _ _ g0 _ _ _ _ rfl ((((HRX.set 0 _).set 1 _).set 2 _).set 3 _) Try.underlying39 rfl (by kernel_rfl)) rfl ?_
      have hx : ∀ j, (Value.slice (some ⟨gB, 0, none⟩) k 2).ownBlock = some j → j ≠ g0 := fun j h => by have h1 := (hO.lt j h).1; have := HGW.out; omega
      refine ⟨((((HB0.out.trans (hB2.mono HB0.out.size)).setCell HG0.out _).setCell HG0.out _).setCell HG0.out _).setCell HG0.out _, _, by rw [HE.out]; dsimp only; rw [HS.out]; rfl, ?_⟩
      rw [HE.out]
      exact ((((hO.grown (grown_setCell _ ⟨g0, 0, none⟩ _) (.inr fun e => hx _ e rfl)).grown (grown_setCell _ ⟨g0, 1, none⟩ _) (.inr fun e => hx _ e rfl)).grown (grown_setCell _ ⟨g0, 2, none⟩ _) (.inr fun e => hx _ e rfl)).grown (grown_setCell _ ⟨g0, 3, none⟩ _) (.inr fun e => hx _ e rfl)).more HB0.out.size
    refine stepOf 17 (o := ?oT26) ?hiT26 ?hwT26 (fun K hK => ?_) AllReadyH.nil
    case hiT26 => (simp only [List.getElem?_toArray, List.getElem?_cons_succ, List.getElem?_cons_zero]; with_reducible rfl)
    case hwT26 => rfl
    go_simp
    obtain ⟨gB, hg⟩ : ∃ g, wn1.heap.size = g := ⟨_, rfl⟩
    obtain ⟨wn2, hwm⟩ : ∃ wm, wn1.alloc (.cells #[.int .u8 (y1 : Int), .int .u8 (y2 : Int)] 5) = wm := ⟨_, rfl⟩
    have hB2 : Below w0.heap.size w0 wn2 := by rw [← hwm]; exact hB1.alloc hB1.size _
    have hO : Own wn2 w0.heap.size (.slice (some ⟨gB, 0, none⟩) k 2) ([y1, y2].take k) := by rw [← hwm, ← hg]; exact (rnum_row wn1 y1 y2 HY.out.1 HY.out.2 k hk2).more hB1.size
    replace hA : Blk wn2 gA 9 #[.string ⟨#[97]⟩, .string ⟨#[98]⟩, .string ⟨#[99, 46, 111]⟩, .string ⟨#[108, 111, 110, 103, 45, 110, 97, 109, 101, 95, 48, 49, 50, 51]⟩] := by rw [← hwm]; exact hA.alloc _
    rw [hwm]
    rw [hg]
    clear hwm hg hB1
    refine hK.out _ _ ?_ (fun hHeld => ?_)
    · trivial
    clear hK K
    try simp only [Act.put]
    try simp only [List.setIfInBounds_toArray, List.set_cons_zero, List.set_cons_succ]
    refine takeW 22 (some 25) (oi := ?oT27) (v := ?vT27) ?hiT27 ?hdT27 (by kernel_rfl) (by kernel_rfl) (by kernel_rfl) (fun _ _ _ h => h) ?hwT27 ?hyT27 hHeld ?_
    case hiT27 => (simp only [List.getElem?_toArray, List.getElem?_cons_succ, List.getElem?_cons_zero]; with_reducible rfl)
    case hdT27 => rfl
    case hwT27 => rfl
    case hyT27 => (intro w hSw; (try dsimp only at hSw); go_simp; first | done | with_reducible rfl)
    try simp only [Act.put]
    try simp only [List.setIfInBounds_toArray, List.set_cons_zero, List.set_cons_succ]
    refine stepOne 4 (o := ?oT28) ?hiT28 (by kernel_rfl) ?hwT28 (fun K hK => ?_)
    case hiT28 => (simp only [List.getElem?_toArray, List.getElem?_cons_succ, List.getElem?_cons_zero]; with_reducible rfl)
    case hwT28 => rfl
    have hcA : wn2.cell? ⟨gA, a, none⟩ = some (.string (str (Rc.names.getD a []))) := by
      rw [hA.at a]
      rcases (show a = 0 ∨ a = 1 ∨ a = 2 ∨ a = 3 by omega) with rfl | rfl | rfl | rfl <;> rfl
    obtain ⟨s, hs⟩ : ∃ s, str (Rc.names.getD a []) = s := ⟨_, rfl⟩
    rw [hs] at hcA
    have HS := Lib.hid hs
    clear hs
    go_simp
    refine hK.out _ _ ?_ (fun hHeld => ?_)
    · trivial
    clear hK K
    try simp only [Act.put]
    try simp only [List.setIfInBounds_toArray, List.set_cons_zero, List.set_cons_succ]
    refine takeW 23 (some 26) (oi := ?oT29) (v := ?vT29) ?hiT29 ?hdT29 (by kernel_rfl) (by kernel_rfl) (by kernel_rfl) (fun _ _ _ h => h) ?hwT29 ?hyT29 hHeld ?_
    case hiT29 => (simp only [List.getElem?_toArray, List.getElem?_cons_succ, List.getElem?_cons_zero]; with_reducible rfl)
    case hdT29 => rfl
    case hwT29 => rfl
    case hyT29 => (intro w hSw; (try dsimp only at hSw); go_simp; first | done | with_reducible rfl)
    try simp only [Act.put]
    try simp only [List.setIfInBounds_toArray, List.set_cons_zero, List.set_cons_succ]
    refine stepOne 24 (o := ?oT30) ?hiT30 (by kernel_rfl) ?hwT30 (fun K hK => ?_)
    case hiT30 => (simp only [List.getElem?_toArray, List.getElem?_cons_succ, List.getElem?_cons_zero]; with_reducible rfl)
    case hwT30 => rfl
    have HRX := HRW.out.under hB2
    have b0 := HRX.at 0
    have b1 := HRX.at 1
    have b2 := HRX.at 2
    have b3 := HRX.at 3
    have f0 := HRX.free 0
    have f1 := HRX.free 1
    have f2 := HRX.free 2
    have f3 := HRX.free 3
    go_simp
    refine hK.out _ _ ?_ (fun hHeld => ?_)
    · trivial
    clear hK K
    try simp only [Act.put]
    try simp only [List.setIfInBounds_toArray, List.set_cons_zero, List.set_cons_succ]
    refine wpAnyH_done (by kernel_rfl) ?_ _
    refine NoPanic.normal ?_
    go_wp2
    refine bodyPost_ret (results_cell_row rfl _ _ g0 _ _ _ _ rfl ((((HRX.set 0 _).set 1 _).set 2 _).set 3 _) Try.underlying39 rfl (by kernel_rfl)) rfl ?_
    have hx : ∀ j, (Value.slice (some ⟨gB, 0, none⟩) k 2).ownBlock = some j → j ≠ g0 := fun j h => by have h1 := (hO.lt j h).1; have := HGW.out; omega
    refine ⟨((((HB0.out.trans (hB2.mono HB0.out.size)).setCell HG0.out _).setCell HG0.out _).setCell HG0.out _).setCell HG0.out _, _, by rw [HE.out]; dsimp only; rw [HS.out]; rfl, ?_⟩
    rw [HE.out]
    exact ((((hO.grown (grown_setCell _ ⟨g0, 0, none⟩ _) (.inr fun e => hx _ e rfl)).grown (grown_setCell _ ⟨g0, 1, none⟩ _) (.inr fun e => hx _ e rfl)).grown (grown_setCell _ ⟨g0, 2, none⟩ _) (.inr fun e => hx _ e rfl)).grown (grown_setCell _ ⟨g0, 3, none⟩ _) (.inr fun e => hx _ e rfl)).more HB0.out.size
  refine stepOf 17 (o := ?oT31) ?hiT31 ?hwT31 (fun K hK => ?_) AllReadyH.nil
  case hiT31 => (simp only [List.getElem?_toArray, List.getElem?_cons_succ, List.getElem?_cons_zero]; with_reducible rfl)
  case hwT31 => rfl
  go_simp
  obtain ⟨gB, hg⟩ : ∃ g, wn0.heap.size = g := ⟨_, rfl⟩
  obtain ⟨wn1, hwm⟩ : ∃ wm, wn0.alloc (.cells #[.int .u8 (y1 : Int), .int .u8 (y2 : Int)] 5) = wm := ⟨_, rfl⟩
  have hB1 : Below w0.heap.size w0 wn1 := by rw [← hwm]; exact hB0.alloc hB0.size _
  have hO : Own wn1 w0.heap.size (.slice (some ⟨gB, 0, none⟩) k 2) ([y1, y2].take k) := by rw [← hwm, ← hg]; exact (rnum_row wn0 y1 y2 HY.out.1 HY.out.2 k hk2).more hB0.size
  rw [hwm]
  rw [hg]
  clear hwm hg hB0
  refine hK.out _ _ ?_ (fun hHeld => ?_)
  · trivial
  clear hK K
  try simp only [Act.put]
  try simp only [List.setIfInBounds_toArray, List.set_cons_zero, List.set_cons_succ]
  refine takeW 22 (some 25) (oi := ?oT32) (v := ?vT32) ?hiT32 ?hdT32 (by kernel_rfl) (by kernel_rfl) (by kernel_rfl) (fun _ _ _ h => h) ?hwT32 ?hyT32 hHeld ?_
  case hiT32 => (simp only [List.getElem?_toArray, List.getElem?_cons_succ, List.getElem?_cons_zero]; with_reducible rfl)
  case hdT32 => rfl
  case hwT32 => rfl
  case hyT32 => (intro w hSw; (try dsimp only at hSw); go_simp; first | done | with_reducible rfl)
  try simp only [Act.put]
  try simp only [List.setIfInBounds_toArray, List.set_cons_zero, List.set_cons_succ]
  refine stepOne 0 (o := ?oT33) ?hiT33 (by kernel_rfl) ?hwT33 (fun K hK => ?_)
  case hiT33 => (simp only [List.getElem?_toArray, List.getElem?_cons_zero]; with_reducible rfl)
  case hwT33 => rfl
  go_simp
  obtain ⟨gA, hg⟩ : ∃ g, wn1.heap.size = g := ⟨_, rfl⟩
  obtain ⟨wn2, hwm⟩ : ∃ wm, wn1.alloc (.cells #[.string ⟨#[97]⟩, .string ⟨#[98]⟩, .string ⟨#[99, 46, 111]⟩, .string ⟨#[108, 111, 110, 103, 45, 110, 97, 109, 101, 95, 48, 49, 50, 51]⟩] 9) = wm := ⟨_, rfl⟩
  have hB2 : Below w0.heap.size w0 wn2 := by rw [← hwm]; exact hB1.alloc hB1.size _
  have hA : Blk wn2 gA 9 #[.string ⟨#[97]⟩, .string ⟨#[98]⟩, .string ⟨#[99, 46, 111]⟩, .string ⟨#[108, 111, 110, 103, 45, 110, 97, 109, 101, 95, 48, 49, 50, 51]⟩] := by rw [← hwm, ← hg]; exact heap_alloc_new _ _
  replace hO : Own wn2 w0.heap.size (.slice (some ⟨gB, 0, none⟩) k 2) ([y1, y2].take k) := by rw [← hwm]; exact hO.alloc _
  rw [hwm]
  rw [hg]
  clear hwm hg hB1
  refine hK.out _ _ ?_ (fun hHeld => ?_)
  · trivial
  clear hK K
  try simp only [Act.put]
  try simp only [List.setIfInBounds_toArray, List.set_cons_zero, List.set_cons_succ]
  refine takeW 3 (some 6) (oi := ?oT34) (v := ?vT34) ?hiT34 ?hdT34 (by kernel_rfl) (by kernel_rfl) (by kernel_rfl) (fun _ _ _ h => h) ?hwT34 ?hyT34 hHeld ?_
  case hiT34 => (simp only [List.getElem?_toArray, List.getElem?_cons_succ, List.getElem?_cons_zero]; with_reducible rfl)
  case hdT34 => rfl
  case hwT34 => rfl
  case hyT34 => (intro w hSw; (try dsimp only at hSw); go_simp; first | done | with_reducible rfl)
  try simp only [Act.put]
  try simp only [List.setIfInBounds_toArray, List.set_cons_zero, List.set_cons_succ]
  refine stepOne 4 (o := ?oT35) ?hiT35 (by kernel_rfl) ?hwT35 (fun K hK => ?_)
  case hiT35 => (simp only [List.getElem?_toArray, List.getElem?_cons_succ, List.getElem?_cons_zero]; with_reducible rfl)
  case hwT35 => rfl
  have hcA : wn2.cell? ⟨gA, a, none⟩ = some (.string (str (Rc.names.getD a []))) := by
    rw [hA.at a]
    rcases (show a = 0 ∨ a = 1 ∨ a = 2 ∨ a = 3 by omega) with rfl | rfl | rfl | rfl <;> rfl
  obtain ⟨s, hs⟩ : ∃ s, str (Rc.names.getD a []) = s := ⟨_, rfl⟩
  rw [hs] at hcA
  have HS := Lib.hid hs
  clear hs
  go_simp
  refine hK.out _ _ ?_ (fun hHeld => ?_)
  · trivial
  clear hK K
  try simp only [Act.put]
  try simp only [List.setIfInBounds_toArray, List.set_cons_zero, List.set_cons_succ]
  refine takeW 23 (some 26) (oi := ?oT36) (v := ?vT36) ?hiT36 ?hdT36 (by kernel_rfl) (by kernel_rfl) (by kernel_rfl) (fun _ _ _ h => h) ?hwT36 ?hyT36 hHeld ?_
  case hiT36 => (simp only [List.getElem?_toArray, List.getElem?_cons_succ, List.getElem?_cons_zero]; with_reducible rfl)
  case hdT36 => rfl
  case hwT36 => rfl
  case hyT36 => (intro w hSw; (try dsimp only at hSw); go_simp; first | done | with_reducible rfl)
  try simp only [Act.put]
  try simp only [List.setIfInBounds_toArray, List.set_cons_zero, List.set_cons_succ]
  refine stepOne 24 (o := ?oT37) ?hiT37 (by kernel_rfl) ?hwT37 (fun K hK => ?_)
  case hiT37 => (simp only [List.getElem?_toArray, List.getElem?_cons_succ, List.getElem?_cons_zero]; with_reducible rfl)
  case hwT37 => rfl
  have HRX := HRW.out.under hB2
  have b0 := HRX.at 0
  have b1 := HRX.at 1
  have b2 := HRX.at 2
  have b3 := HRX.at 3
  have f0 := HRX.free 0
  have f1 := HRX.free 1
  have f2 := HRX.free 2
  have f3 := HRX.free 3
  go_simp
  refine hK.out _ _ ?_ (fun hHeld => ?_)
  · trivial
  clear hK K
  try simp only [Act.put]
  try simp only [List.setIfInBounds_toArray, List.set_cons_zero, List.set_cons_succ]
  refine wpAnyH_done (by kernel_rfl) ?_ _
  refine NoPanic.normal ?_
  go_wp2
  refine bodyPost_ret (results_cell_row rfl _ _ g0 _ _ _ _ rfl ((((HRX.set 0 _).set 1 _).set 2 _).set 3 _) Try.underlying39 rfl (by kernel_rfl)) rfl ?_
  have hx : ∀ j, (Value.slice (some ⟨gB, 0, none⟩) k 2).ownBlock = some j → j ≠ g0 := fun j h => by have h1 := (hO.lt j h).1; have := HGW.out; omega
  refine ⟨((((HB0.out.trans (hB2.mono HB0.out.size)).setCell HG0.out _).setCell HG0.out _).setCell HG0.out _).setCell HG0.out _, _, by rw [HE.out]; dsimp only; rw [HS.out]; rfl, ?_⟩
  rw [HE.out]
  exact ((((hO.grown (grown_setCell _ ⟨g0, 0, none⟩ _) (.inr fun e => hx _ e rfl)).grown (grown_setCell _ ⟨g0, 1, none⟩ _) (.inr fun e => hx _ e rfl)).grown (grown_setCell _ ⟨g0, 2, none⟩ _) (.inr fun e => hx _ e rfl)).grown (grown_setCell _ ⟨g0, 3, none⟩ _) (.inr fun e => hx _ e rfl)).more HB0.out.size
end Go.Proofs.Ytfheaognfocofaa
