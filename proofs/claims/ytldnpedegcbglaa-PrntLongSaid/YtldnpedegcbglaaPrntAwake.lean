/- What layer 10's statements ask beside: the known answers of package prnt. -/
import Derived.Test.YtldnpedegcbglaaPrntParse
import Derived.Test.YtldnpedegcbglaaPrntWrite
import Derived.Test.YtldnpedegcbglaaPrntSame
namespace Go.Proofs.Ytldnpedegcbglaa
set_option maxRecDepth 100000
open Go.ChangeShapes Go.WideShapes Go.ChangeAt Go.RowKit

def pwL : List Ac.D := [⟨3, 0, []⟩, ⟨6, 0, []⟩]
def pwI : List (List Nat) := [[97, 98], [99]]
def pwP : List Nat := Pr.print (Pr.bytes (pwL.map Pr.ofD)) pwI
theorem pw_parse : Pr.parse 999 69 pwP = some (pwL, pwI) := by decide +kernel
theorem pw_value : Pr.value 999 69 pwP = some [99, 98, 97] := by decide +kernel
theorem pw_more : Pr.value 999 70 (pwP ++ [0]) = none := by decide +kernel
theorem pw_len : pwP.length = 69 := by decide +kernel
theorem pw_len2 : (pwP ++ [0]).length = 70 := by decide +kernel
theorem convert_three {P : Program} (w : World) (O O2 : Obj) (t e : TypeId) (C : Array Value) (n c : Nat) (ht : P.underlying t = some (.slice e)) (he : P.underlying e = some (.int .u8)) :
    (convert t t (.slice (some ⟨w.heap.size + 1 + 1, 0, none⟩) n c)).run P (((w.alloc O).alloc O2).alloc (.cells C e)) = .ok (.slice (some ⟨w.heap.size + 1 + 1, 0, none⟩) n c) (((w.alloc O).alloc O2).alloc (.cells C e (C.size, C.size + 1))) := by
  have := Lib.run_convert_bytes_const (P := P) ((w.alloc O).alloc O2) t e C n c ht he
  simpa using this
set_option maxRecDepth 100000 in
set_option maxHeartbeats 8000000 in
theorem pawake_any (w : World) : Calls Try.prog 12 #[] w fun e w' => e = .returned (.bool true) ∧ Below w.heap.size w w' := by
  have kc := fun (w : World) (C : Array Value) (n c : Nat) => Lib.run_convert_bytes_const (P := Try.prog) w 23 5 C n c Try.underlying23 Try.underlying5
  have kc2 := fun (w : World) (O : Obj) (C : Array Value) (n c : Nat) => convert_second (P := Try.prog) w O 23 5 C n c Try.underlying23 Try.underlying5
  go_enter Try.func12, Try.ntmps12
  have kc3 := fun (w : World) (O O2 : Obj) (C : Array Value) (n c : Nat) => convert_three (P := Try.prog) w O O2 23 5 C n c Try.underlying23 Try.underlying5
  go_upto_region 1 with fail
  obtain ⟨w1, hw1⟩ : ∃ w1, w1 = w.alloc (.cells #[.int .i64 3, .int .i64 0, .string ⟨#[]⟩, .int .i64 6, .int .i64 0, .string ⟨#[]⟩] 26) := ⟨_, rfl⟩
  have HO1 : Hid (OwnD w1 w.heap.size (.slice (some ⟨w.heap.size, 0, none⟩) 2 2) pwL) := Lib.hid (by rw [hw1]; exact ownD_lit w w.heap.size pwL _ 2 rfl rfl (Nat.le_refl _) (by decide))
  have HB1 : Hid (Below w.heap.size w w1) := Lib.hid (by rw [hw1]; exact (Below.refl _ _).alloc (Nat.le_refl _) _)
  have HS1 : Hid (w1.heap.size = w.heap.size + 1) := Lib.hid (by rw [hw1]; simp)
  have HW1 := Lib.hid hw1
  clear hw1
  go_wp2_with fail
  rw [← HW1.out]
  obtain ⟨hr1, hbx1⟩ := pair_ins w1 [97, 98] [99] (2, 3) (1, 2) 23 (by decide) (by decide) (by decide) (by decide) _ rfl
  rw [HS1.out] at hr1 hbx1
  have hbx2 : Below w.heap.size w1 _ := hbx1.mono (by omega)
  refine (pprint_any _ _ (pwL.map Pr.ofD) pwI _ ((HO1.out.under (by rw [HS1.out]; exact hbx1)).rd.x) hr1 (by decide) (by decide) (by decide) (by decide)).mono ?_
  rintro e w2 ⟨v2, rfl, ho2, hb2⟩
  have hsz := hbx1.size
  have hs1 := HS1.out
  have hx : Below w1.heap.size w1 w2 := by rw [HS1.out]; exact hbx1.trans (hb2.mono (by omega))
  have HB2 := Lib.hid (HB1.out.trans (hx.mono HB1.out.size))
  have HO2 := Lib.hid (ho2.more (base' := w.heap.size) (by omega))
  clear hr1 hbx1 hbx2 hb2 ho2 hx hsz hs1 HW1 HS1 HO1 HB1 kc kc2 kc3
  have HL2 : Hid (∀ k, v2.ownBlock = some k → k < w2.heap.size) := Lib.hid (fun k hk => (HO2.out.lt k hk).2)
  have HV2 : Hid (Bytes w2 v2 pwP) := Lib.hid HO2.out.bytes
  go_wp2_with fail
  refine (pparse_any v2 pwP w2 HV2.out (Nat.le_trans (Nat.le_of_eq pw_len) (by decide)) (some (pwL, pwI)) (by rw [pw_len]; exact pw_parse.symm)).mono ?_
  rintro e w3 ⟨⟨u3, v3, rfl, hl3, hi3⟩, hb3⟩
  have HV3 := Lib.hid (HV2.out.under hb3)
  have HO3 := Lib.hid (HO2.out.under hb3)
  have HL3 := Lib.hid hl3
  have HI3 := Lib.hid hi3
  have HB3 := Lib.hid (HB2.out.trans (hb3.mono HB2.out.size))
  have HZ3 : Hid (w2.heap.size ≤ w3.heap.size) := Lib.hid hb3.size
  clear hl3 hi3 hb3 HV2 HO2 HB2
  go_wp2_with fail
  refine (pvalue_any v2 pwP w3 HV3.out (Nat.le_trans (Nat.le_of_eq pw_len) (by decide)) (some [99, 98, 97]) (by rw [pw_len]; exact pw_value.symm)).mono ?_
  rintro e w4 ⟨⟨u4, rfl, hm4⟩, hb4⟩
  have HO4 := Lib.hid (HO3.out.under hb4)
  have HL4 := Lib.hid (HL3.out.under hb4)
  have HI4 := Lib.hid (HI3.out.under hb4)
  have HM4 := Lib.hid (hm4.more (base' := w2.heap.size) HZ3.out)
  have HB4 := Lib.hid (HB3.out.trans (hb4.mono HB3.out.size))
  clear hm4 hb4 HV3 HO3 HL3 HI3 HB3
  go_wp2_with (at_builtin; refine wpList_append_bytes rfl _ _ rfl w.heap.size _ _ pwP [0] rfl (HO4.out.alloc _) rfl (bytes_one w4 0 0 5 (0, 0) rfl (by decide)) ?_ ?_ _ rfl ?_)
  case refine_1 => rw [pw_len]; decide
  case refine_2 => have := HB4.out.size; simp; omega
  case refine_3 =>
    rintro v5 w5 ⟨ho5, hg5, _, hb5⟩
    have HV5 := Lib.hid ho5.bytes
    have HB5 : Hid (Below w.heap.size w w5) := Lib.hid ((HB4.out.alloc HB4.out.size _).trans hb5)
    have ba : Below w4.heap.size w4 (w4.alloc (.cells #[.int .u8 0] 5)) := (Below.refl _ _).alloc (Nat.le_refl _) _
    have HI5 : Hid (OwnR w5 w2.heap.size v3 pwI) := Lib.hid ((HI4.out.under ba).grown hg5 (fun r hr => .inl (HL2.out r hr)))
    have HM5 : Hid (Mine w5 w2.heap.size u4 [99, 98, 97]) := Lib.hid ((HM4.out.under ba).same hg5.size (fun k hk => hg5.block k (by have := (HM4.out.lt k hk).2; simp; omega) (fun e => by have := HL2.out k e.symm; have := (HM4.out.lt k hk).1; omega)))
    obtain ⟨Au, cu, rfl, hcu⟩ := HL4.out.parts
    clear ho5 hg5 hb5 ba HI4 HM4 HO4 HB4 HL4
    rw [show (pwL.length) = 2 from rfl]
    go_wp2_with fail
    refine (pvalue_any v5 (pwP ++ [0]) w5 HV5.out (Nat.le_trans (Nat.le_of_eq pw_len2) (by decide)) none (by rw [pw_len2]; exact pw_more.symm)).mono ?_
    rintro e w6 ⟨rfl, hb6⟩
    have HI6 := Lib.hid ((HI5.out.under hb6).rows)
    have HM6 := Lib.hid ((HM5.out.under hb6).bytes)
    have HB6 := Lib.hid (HB5.out.trans (hb6.mono HB5.out.size))
    clear hb6 HI5 HM5 HB5 HV5
    obtain ⟨A3, c3, rfl, hc3⟩ := rows2_byte HI6.out
    obtain ⟨b, off, u, rfl, hcu0, hbu⟩ := HI6.out.at (k := 0) (show 0 < pwI.length by decide)
    rw [Nat.add_zero] at hcu0
    have rt := run_text (l := [97, 98]) hbu
    have rt2 := run_text HM6.out
    rw [show str [97, 98] = ⟨#[97, 98]⟩ from rfl] at rt
    rw [show str [99, 98, 97] = ⟨#[99, 98, 97]⟩ from rfl] at rt2
    rw [show pwI.length = 2 from rfl] at hc3 ⊢
    rw [show pwL.length = 2 from rfl] at hcu
    clear hbu
    go_wp2
    go_ret
    exact ⟨rfl, HB6.out⟩
end Go.Proofs.Ytldnpedegcbglaa
