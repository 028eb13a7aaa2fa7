/- What the statements of layer 2 ask first: known numbers and bytes, written and read. -/
import Derived.Test.YtgfhfmpcdmcplaaCode
namespace Go.Proofs.Ytgfhfmpcdmcplaa
open Go.ChangeShapes Go.WideShapes Go.ChangeAt Go.RowKit

theorem run_neq_true {b : Bool} (h : b = true) : (!b) = false := by rw [h]; rfl

set_option maxHeartbeats 2000000 in
theorem awake_any (w : World) : Calls Try.prog 11 #[] w fun e w' => e = .returned (.bool true) ∧ Below w.heap.size w w' := by
  have kc := fun (w : World) (C : Array Value) (n c : Nat) => Lib.run_convert_bytes_const (P := Try.prog) w 26 5 C n c Try.underlying26 Try.underlying5
  go_enter Try.func11, Try.ntmps11
  go_wp2_with fail
  refine (num_is _ [] [0, 0, 0, 0, 1, 2] 258 w (bytes_none w) (by decide) (by decide)).mono ?_
  rintro e w1 ⟨v1, rfl, ho1, hb1⟩
  have HO1 := Lib.hid ho1
  clear ho1
  go_wp2_with fail
  refine (bytes_is _ _ [0, 0, 0, 0, 1, 2] [97, 98] [0, 0, 0, 0, 1, 2, 0, 0, 0, 0, 0, 2, 97, 98] _ (HO1.out.bytes.alloc _) (bytes_new w1 _ rfl [97, 98] _ _ (by decide) (by decide)) (by decide) (by decide) (by decide)).mono ?_
  rintro e w2 ⟨v2, rfl, ho2, hb2⟩
  have HO2 := Lib.hid ho2
  clear ho2 HO1
  have hv2 := HO2.out.between
  have hs2 : w.heap.size ≤ w2.heap.size := by have := hb1.size; have := hb2.size; simp at this; omega
  have hB2 : Below w.heap.size w w2 := (hb1.alloc hb1.size _).trans (hb2.mono (by have := hb1.size; simp; omega))
  clear hb1 hb2
  go_wp2_with fail
  refine (read_any _ _ _ HO2.out.bytes (by decide)).mono ?_
  rintro e w3 ⟨g, rfl, hg1, hg2, hr3, hb3⟩
  have HR3 := Lib.hid hr3
  have HO3 := Lib.hid (HO2.out.under hb3)
  have hB3 : Below w.heap.size w w3 := hB2.trans (hb3.mono hs2)
  clear hr3 HO2 hB2 hb3
  go_wp2_with fail
  refine (rnum_is _ _ g _ (some [0, 0, 0, 0, 0, 2, 97, 98]) 258 258 _ HR3.out (by decide) (by decide)).mono ?_
  rintro e w4 ⟨rfl, hr4, hb4⟩
  have HR4 := Lib.hid hr4
  have HO4 := Lib.hid (HO3.out.grown hb4 (.inr (hv2.ne (by omega))))
  have hB4 : Below w.heap.size w w4 := hB3.trans (Below.ofGrown hb4 (by omega) hB3.size)
  have hg4 : g < w4.heap.size := by have := hb4.size; omega
  clear hr4 HR3 HO3 hB3 hb4 hg2
  go_wp2_with fail
  refine (rbytes_is _ _ g _ (some []) 2 [97, 98] _ HR4.out (by decide) (by decide)).mono ?_
  rintro e w5 ⟨v5, rfl, ho5, hr5, hb5⟩
  have HR5 := Lib.hid hr5
  have HV5 := Lib.hid ho5
  have HO5 := Lib.hid (HO4.out.grown hb5 (.inr (hv2.ne (by omega))))
  have hB5 : Below w.heap.size w w5 := hB4.trans (Below.ofGrown hb5 (by omega) hB4.size)
  clear ho5 hr5 HR4 HO4 hB4 hb5
  go_wp2_with fail
  refine (end_is _ _ g _ true _ HR5.out (by decide)).mono ?_
  rintro e w' ⟨rfl, rfl⟩
  go_wp2_with fail
  refine (num_is _ [] [0, 0, 0, 0, 0, 5] 5 _ (bytes_none _) (by decide) (by decide)).mono ?_
  rintro e w6 ⟨v6, rfl, ho6, hb6⟩
  have HO6 := Lib.hid ho6
  have hs6 : w5.heap.size ≤ w6.heap.size := hb6.size
  have HV6 := Lib.hid (HV5.out.under hb6)
  have HB6 := Lib.hid (HO5.out.under hb6)
  have hB6 : Below w.heap.size w w6 := hB5.trans (hb6.mono hB5.size)
  clear ho6 HV5 HO5 hB5 hb6 HR5
  go_wp2_with fail
  refine (read_any _ _ _ HO6.out.bytes (by decide)).mono ?_
  rintro e w7 ⟨g7, rfl, hg7, hg8, hr7, hb7⟩
  have HR7 := Lib.hid hr7
  have kb := run_text (HB6.out.under hb7).bytes
  have kx := run_text (HV6.out.under hb7).bytes
  have hB7 : Below w.heap.size w w7 := hB6.trans (hb7.mono hB6.size)
  have hs7 : w.heap.size ≤ g7 := by have := hB6.size; omega
  have e1 : ((str [0, 0, 0, 0, 1, 2, 0, 0, 0, 0, 0, 2, 97, 98]).toList == [0, 0, 0, 0, 1, 2, 0, 0, 0, 0, 0, 2, 97, 98]) = true := by rw [str_toList]; decide
  have e2 : ((str [97, 98]).toList == [97, 98]) = true := by rw [str_toList]; decide
  clear hr7 HB6 HV6 HO6 hB6 hb7
  go_wp2_with fail
  refine (rnum_is _ _ g7 _ none 4 0 _ HR7.out (by decide) (by decide)).mono ?_
  rintro e w8 ⟨rfl, hr8, hb8⟩
  have HR8 := Lib.hid hr8
  have hB8 : Below w.heap.size w w8 := hB7.trans (Below.ofGrown hb8 hs7 hB7.size)
  clear hr8 hb8 HR7 kb kx
  go_wp2_with fail
  refine (ok_is _ _ g7 _ false _ HR8.out rfl).mono ?_
  rintro e w' ⟨rfl, rfl⟩
  go_wp2_with fail
  refine (end_is _ _ g7 _ false _ HR8.out rfl).mono ?_
  rintro e w' ⟨rfl, rfl⟩
  go_wp2
  go_ret
  exact ⟨rfl, hB8⟩
end Go.Proofs.Ytgfhfmpcdmcplaa
