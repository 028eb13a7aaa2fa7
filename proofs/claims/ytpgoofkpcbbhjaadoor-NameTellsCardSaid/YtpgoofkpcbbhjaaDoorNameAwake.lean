/- What the document fixes of names, by hand. -/
import Derived.Test.YtpgoofkpcbbhjaaDoorNameOfApi
import Derived.Test.YtpgoofkpcbbhjaaDoorNameBackMath
namespace Go.Proofs.YtpgoofkpcbbhjaaDoor
open Go.ChangeShapes Go.WideShapes Go.ChangeAt Go.RowKit

theorem dec7 : Nm.dec 7 = [55] := by simp [Nm.dec, Nm.digs_pos, Nm.digs_zero]
theorem dec3 : Nm.dec 3 = [51] := by simp [Nm.dec, Nm.digs_pos, Nm.digs_zero]
theorem dec11 : Nm.dec 11 = [49, 49] := by simp [Nm.dec, Nm.digs_pos, Nm.digs_zero]
theorem temp7 : Nm.temp (Nm.held 7 999) (Nm.held 3 99999) (Nm.held 11 99999) = [116, 109, 112, 47, 55, 46, 51, 46, 49, 49] := by
  rw [show Nm.held 7 999 = 7 from by decide, show Nm.held 3 99999 = 3 from by decide, show Nm.held 11 99999 = 11 from by decide, Nm.temp, dec7, dec3, dec11]
  rfl
set_option maxHeartbeats 2000000 in
theorem awake_any (w : World) (hT : Tabs w) : Calls Tryd.prog 9 #[] w fun e w' => e = .returned (.bool true) ∧ Below w.heap.size w w' := by
  have k1 : ({ data := #[116, 109, 112, 47, 55, 46, 51, 46, 49, 49] } : ByteArray) = str [116, 109, 112, 47, 55, 46, 51, 46, 49, 49] := rfl
  have k2 : ({ data := #[116, 109, 112, 47, 55, 46, 48, 51, 46, 49, 49] } : ByteArray) = str [116, 109, 112, 47, 55, 46, 48, 51, 46, 49, 49] := rfl
  have k3 : ({ data := #[97, 46, 111] } : ByteArray) = str [97, 46, 111] := rfl
  have k4 : ({ data := #[65] } : ByteArray) = str [65] := rfl
  have k6 : ({ data := #[108, 111, 99, 107, 47, 108, 111, 103] } : ByteArray) = str [108, 111, 99, 107, 47, 108, 111, 103] := rfl
  have k7 : ({ data := #[97, 47, 98, 47, 99] } : ByteArray) = str [97, 47, 98, 47, 99] := rfl
  have k9 : ({ data := #[99, 108, 97, 105, 109, 47, 120] } : ByteArray) = str [99, 108, 97, 105, 109, 47, 120] := rfl
  have k8 : ({ data := #[120] } : ByteArray) = str [120] := rfl
  have HT := Lib.hid hT
  clear hT
  go_enter Tryd.func9, Tryd.ntmps9
  go_wp2_with fail
  refine (of_any [116, 109, 112, 47, 55, 46, 51, 46, 49, 49] w (by decide) (by decide) HT.out).mono ?_
  rintro e w1 ⟨rfl, hb1⟩
  rw [show Nm.ofWho [116, 109, 112, 47, 55, 46, 51, 46, 49, 49] = 7 from by decide, show Nm.ofInc [116, 109, 112, 47, 55, 46, 51, 46, 49, 49] = 3 from by decide, show Nm.isOf [116, 109, 112, 47, 55, 46, 51, 46, 49, 49] = true from by decide]
  go_wp2_with fail
  refine (of_any [116, 109, 112, 47, 55, 46, 48, 51, 46, 49, 49] w1 (by decide) (by decide) (HT.out.under hb1)).mono ?_
  rintro e w2 ⟨rfl, hb2⟩
  rw [show Nm.isOf [116, 109, 112, 47, 55, 46, 48, 51, 46, 49, 49] = false from by decide]
  have hb := hb1.trans (hb2.mono hb1.size)
  clear hb1 hb2
  go_wp2_with fail
  refine (ok_any [97, 46, 111] w2 (by decide) (by decide)).mono ?_
  rintro e w3 ⟨rfl, rfl⟩
  rw [show Nm.ok [97, 46, 111] = true from by decide]
  go_wp2_with fail
  refine (ok_any [65] w2 (by decide) (by decide)).mono ?_
  rintro e w4 ⟨rfl, rfl⟩
  rw [show Nm.ok [65] = false from by decide]
  go_wp2_with fail
  refine (ok_any [] _ (by decide) (by decide)).mono ?_
  rintro e w5 ⟨rfl, rfl⟩
  rw [show Nm.ok [] = false from by decide]
  have hc1 := hb
  clear hb
  go_wp2_with fail
  refine (file_any [108, 111, 99, 107, 47, 108, 111, 103] _ (by decide) (by decide) (HT.out.under hc1)).mono ?_
  rintro e w6 ⟨rfl, hb1⟩
  rw [show Nm.file [108, 111, 99, 107, 47, 108, 111, 103] = true from by decide]
  have hc2 := hc1.trans (hb1.mono hc1.size)
  clear hc1 hb1
  go_wp2_with fail
  refine (file_any [97, 47, 98, 47, 99] _ (by decide) (by decide) (HT.out.under hc2)).mono ?_
  rintro e w7 ⟨rfl, hb1⟩
  rw [show Nm.file [97, 47, 98, 47, 99] = false from by decide]
  have hc3 := hc2.trans (hb1.mono hc2.size)
  clear hc2 hb1
  go_wp2_with fail
  refine (claim_any [120] _ (by decide) (by decide)).mono ?_
  rintro e w8 ⟨rfl, hb1⟩
  rw [show [99, 108, 97, 105, 109, 47] ++ [120] = [99, 108, 97, 105, 109, 47, 120] from rfl]
  have hc4 := hc3.trans (hb1.mono hc3.size)
  clear hc3 hb1
  go_wp2_with fail
  refine (temp_any 7 3 11 _ (HT.out.under hc4)).mono ?_
  rintro e w9 ⟨rfl, hb1⟩
  rw [temp7]
  have hc5 := hc4.trans (hb1.mono hc4.size)
  clear hc4 hb1
  go_wp2
  go_ret
  exact ⟨rfl, hc5⟩
end Go.Proofs.YtpgoofkpcbbhjaaDoor
