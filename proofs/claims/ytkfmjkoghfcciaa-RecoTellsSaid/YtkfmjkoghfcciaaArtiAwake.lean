/- What layer 11's statements ask beside: the known answers of package arti. -/
import Derived.Test.YtkfmjkoghfcciaaArti
namespace Go.Proofs.Ytkfmjkoghfcciaa
set_option maxRecDepth 100000
open Go.ChangeShapes Go.WideShapes Go.ChangeAt Go.RowKit

def aawP : List Nat := [112]
def aawV : List Nat := [118, 97, 108, 117, 101]
def aawB : List Nat := Ar.make aawP aawV
theorem aaw_len : aawB.length = 28 := by rw [aawB, Ar.make_length]; rfl
theorem aaw_open : Ar.opn aawB = some (aawP, aawV) := Ar.opn_make _ _ (by decide) (by decide)
theorem aaw_half : Ar.opn (aawB.take 14) = none := Ar.opn_cut _ _ (by decide) (by decide) 14 (by rw [Ar.make_length]; decide)
theorem aconvert_second {P : Program} (w : World) (O : Obj) (t e : TypeId) (C : Array Value) (n c : Nat) (ht : P.underlying t = some (.slice e)) (he : P.underlying e = some (.int .u8)) :
    (convert t t (.slice (some ⟨w.heap.size + 1, 0, none⟩) n c)).run P ((w.alloc O).alloc (.cells C e)) = .ok (.slice (some ⟨w.heap.size + 1, 0, none⟩) n c) ((w.alloc O).alloc (.cells C e (C.size, C.size + 1))) := by
  have := Lib.run_convert_bytes_const (P := P) (w.alloc O) t e C n c ht he
  simpa using this

set_option maxRecDepth 100000 in
set_option maxHeartbeats 4000000 in
theorem aawake_any (w : World) : Calls Try.prog 41 #[] w fun e w' => e = .returned (.bool true) ∧ Below w.heap.size w w' := by
  have kc := fun (w : World) (C : Array Value) (n c : Nat) => Lib.run_convert_bytes_const (P := Try.prog) w 30 5 C n c Try.underlying30 Try.underlying5
  have kc2 := fun (w : World) (O : Obj) (C : Array Value) (n c : Nat) => aconvert_second (P := Try.prog) w O 30 5 C n c Try.underlying30 Try.underlying5
  go_enter Try.func41, Try.ntmps41
  go_wp2_with fail
  refine (amake_is _ _ aawP aawV aawB _ ((bytes_new w _ rfl aawP _ _ (by decide) (by decide)).alloc _) (bytes_new _ _ (by simp) aawV _ _ (by decide) (by decide)) (by decide) (by decide) rfl).mono ?_
  rintro e w1 ⟨v1, rfl, ho1, hb1⟩
  have HB1 : Hid (Below w.heap.size w w1) := Lib.hid ((((Below.refl _ _).alloc (Nat.le_refl _) _).alloc (by simp) _).trans (hb1.mono (by simp; omega)))
  obtain ⟨_, _, A1, c1, rfl, hc1, _⟩ := ho1.bytes.parts
  rw [aaw_len] at ho1 hc1 ⊢
  have HO1 := Lib.hid ho1.bytes
  clear ho1 hb1 kc kc2
  go_wp2_with fail
  refine (aopen_any _ aawB w1 HO1.out (by rw [aaw_len]; decide) _ aaw_open).mono ?_
  rintro e w2 ⟨hb2, m2, x2, y2, rfl, -, -, hx2, -, hy2⟩
  have HX2 := Lib.hid hx2.bytes
  have HY2 := Lib.hid hy2.bytes
  have HB2 := Lib.hid (HB1.out.trans (hb2.mono HB1.out.size))
  have HO2 := Lib.hid (HO1.out.under hb2)
  clear hx2 hy2 hb2 HB1 HO1
  go_wp2_with fail
  refine (aopen_any _ (aawB.take 14) w2 (HO2.out.head (by decide) (by omega)) (by rw [List.length_take, aaw_len]; decide) _ aaw_half).mono ?_
  rintro e w3 ⟨hb3, rfl⟩
  have rt := run_text (HX2.out.under hb3)
  have rt2 := run_text (HY2.out.under hb3)
  rw [show str aawP = ⟨#[112]⟩ from rfl] at rt
  rw [show str aawV = ⟨#[118, 97, 108, 117, 101]⟩ from rfl] at rt2
  have HB3 := Lib.hid (HB2.out.trans (hb3.mono HB2.out.size))
  clear hb3
  go_wp2
  go_ret
  exact ⟨rfl, HB3.out⟩
end Go.Proofs.Ytkfmjkoghfcciaa
