/- ArtiTurned: an artifact of which one bit was turned is none, whichever it is, nor is one that is cut, or has more behind. -/
import Derived.Test.YtldnpedegcbglaaArtiAwake
import Derived.Test.YtldnpedegcbglaaMine
import Derived.Deep.CutBlock
import Derived.Deep.DeepCutAuto
import Derived.IntWalk
import Derived.BigQuiet
namespace Go.Proofs.Ytldnpedegcbglaa
set_option maxRecDepth 100000
open Go.ChangeShapes Go.WideShapes Go.ChangeAt Go.RowKit

namespace Ar
theorem and7 (k : Nat) (hk : k < 65536) : bits .and .i64 (k : Int) 7 = ((k % 8 : Nat) : Int) := by
  have h : bits .and .i64 (k : Int) 7 = IntKind.i64.wrap ((BitVec.ofInt 64 (k : Int) &&& BitVec.ofInt 64 7).toNat : Int) := rfl
  have hx : (BitVec.ofInt 64 (k : Int) &&& BitVec.ofInt 64 7).toNat = k % 8 := by
    rw [BitVec.toNat_and, BitVec.ofInt_natCast, BitVec.toNat_ofNat, Nat.mod_eq_of_lt (by omega)]
    exact Nat.and_two_pow_sub_one_eq_mod k 3
  rw [h, hx, IntKind.wrap_i64]
  omega
theorem parts8 (k n : Nat) (h : k < 8 * n) (hn : n ≤ 8000) : ∃ q r : Nat, q < n ∧ r < 8 ∧ (k : Int) / 8 = (q : Int) ∧ bits .and .i64 (k : Int) 7 = (r : Int) :=
  ⟨k / 8, k % 8, by omega, by omega, by omega, and7 k (by omega)⟩
theorem and_low16 (a : Int) : (bits .and .i64 a 65535).toNat ≤ 65535 ∧ bits .and .i64 a 65535 = ((bits .and .i64 a 65535).toNat : Int) := by
  have h : bits .and .i64 a 65535 = IntKind.i64.wrap ((BitVec.ofInt 64 a &&& BitVec.ofInt 64 65535).toNat : Int) := rfl
  have hx : (BitVec.ofInt 64 a &&& BitVec.ofInt 64 65535).toNat ≤ 65535 := by
    rw [BitVec.toNat_and]
    exact Nat.le_trans Nat.and_le_right (by decide)
  rw [h, IntKind.wrap_i64]
  omega
theorem rem_of (x n : Nat) (h : 0 < n) : ∃ k : Nat, k < n ∧ (x : Int).tmod (n : Int) = (k : Int) := by
  refine ⟨x % n, Nat.mod_lt _ h, ?_⟩
  rw [Int.tmod_eq_emod_of_nonneg (by omega)]
  exact (Int.natCast_emod x n).symm
theorem rem8 (x n : Nat) (h : 0 < n) : ∃ k : Nat, k < 8 * n ∧ (x : Int).tmod (8 * (n : Int)) = (k : Int) := by
  obtain ⟨k, h1, h2⟩ := rem_of x (8 * n) (by omega)
  exact ⟨k, h1, by rw [← h2]; rfl⟩
theorem bit_eq (x r : Nat) (hx : x < 256) (hr : r < 8) : bits .xor .u8 (x : Int) (2 ^ r % 256) = ((x ^^^ 2 ^ r : Nat) : Int) := by
  have h : (2 : Int) ^ r % 256 = ((2 ^ r : Nat) : Int) := by
    have : r = 0 ∨ r = 1 ∨ r = 2 ∨ r = 3 ∨ r = 4 ∨ r = 5 ∨ r = 6 ∨ r = 7 := by omega
    rcases this with rfl | rfl | rfl | rfl | rfl | rfl | rfl | rfl <;> decide
  rw [h]
  exact u8_xor_nat x (2 ^ r) hx (Nat.pow_lt_pow_right (by omega) hr)
theorem bit_lt {x r : Nat} (hx : x < 256) (hr : r < 8) : x ^^^ 2 ^ r < 256 := Nat.xor_lt_two_pow (n := 8) hx (Nat.pow_lt_pow_right (by omega) hr)
theorem bit_ne (x r : Nat) : x ^^^ 2 ^ r ≠ x := fun e => by
  have h : x ^^^ 2 ^ r ^^^ x = x ^^^ x := by rw [e]
  rw [Nat.xor_comm x, Nat.xor_assoc, Nat.xor_self, Nat.xor_zero] at h
  have := Nat.two_pow_pos r
  omega
end Ar

set_option maxRecDepth 100000 in
set_option maxHeartbeats 4000000 in
theorem aturned_any (v1 v2 : Value) (p v : List Nat) (bit cut : Int) (w : World) (h1 : Bytes w v1 p) (h2 : Bytes w v2 v) :
    Calls Try.prog 7 #[v1, v2, .int .i64 bit, .int .i64 cut] w fun e w' => e = .returned (.bool true) ∧ Below w.heap.size w w' := by
  have H1 := Lib.hid h1
  have H2 := Lib.hid h2
  obtain ⟨_, _, A1, c1, rfl, _, _⟩ := h1.parts
  obtain ⟨_, _, A2, c2, rfl, _, _⟩ := h2.parts
  obtain ⟨n1, hn1⟩ : ∃ n, p.length = n := ⟨_, rfl⟩
  obtain ⟨n2, hn2⟩ : ∃ n, v.length = n := ⟨_, rfl⟩
  rw [hn1] at H1 ⊢
  rw [hn2] at H2 ⊢
  have HN1 := Lib.hid hn1
  have HN2 := Lib.hid hn2
  clear h1 h2 hn1 hn2
  go_enter Try.func7, Try.ntmps7
  by_cases hbig : 200 < n1
  · have hI : (200 : Int) < (n1 : Int) := by omega
    go_wp2_with fail
    refine (aawake_any _).mono ?_
    rintro e w2 ⟨rfl, hb2⟩
    go_wp2
    go_ret
    exact ⟨rfl, hb2⟩
  have hI : ¬ (200 : Int) < (n1 : Int) := by omega
  by_cases hv : 200 < n2
  · have hvI : (200 : Int) < (n2 : Int) := by omega
    go_wp2_with fail
    refine (aawake_any _).mono ?_
    rintro e w2 ⟨rfl, hb2⟩
    go_wp2
    go_ret
    exact ⟨rfl, hb2⟩
  have hvI : ¬ (200 : Int) < (n2 : Int) := by omega
  obtain ⟨P, hP⟩ : ∃ P, Ar.make p v = P := ⟨_, rfl⟩
  have HP := Lib.hid hP
  have HPL : Hid (P.length = n1 + n2 + 22) := Lib.hid (by rw [← hP, Ar.make_length, HN1.out, HN2.out])
  have HB : Hid (p.length ≤ 4000 ∧ v.length ≤ 256) := Lib.hid (by rw [HN1.out, HN2.out]; omega)
  have HPO : Hid (Ar.opn P = some (p, v)) := Lib.hid (by rw [← hP]; exact Ar.opn_make p v HB.out.1 HB.out.2)
  have HPT : Hid (∀ q y, q < P.length → y < 256 → y ≠ P.getD q 0 → Ar.opn (P.set q y) = none) := Lib.hid (by rw [← hP]; exact fun q y h1 h2 h3 => Ar.opn_turned p v HB.out.1 HB.out.2 H1.out.1 H2.out.1 h1 h2 h3)
  have HPC : Hid (∀ k, k < P.length → Ar.opn (P.take k) = none) := Lib.hid (by rw [← hP]; exact Ar.opn_cut p v HB.out.1 HB.out.2)
  have HPM : Hid (Ar.opn (P ++ [0]) = none) := Lib.hid (by rw [← hP]; exact Ar.opn_long p v [0] HB.out.1 HB.out.2 (by simp))
  obtain ⟨n, hn⟩ : ∃ n, n1 + n2 + 22 = n := ⟨_, rfl⟩
  rw [hn] at HPL
  have hn0 : 0 < n := by omega
  have hn4 : n ≤ 422 := by omega
  clear hP hn hbig hv
  go_wp2_with fail
  refine (amake_is _ _ p v P w H1.out H2.out (by rw [HN1.out]; omega) (by rw [HN2.out]; omega) HP.out).mono ?_
  rintro e w1 ⟨b1, rfl, ho1, hb1⟩
  have HB1 := Lib.hid hb1
  have HO1 := Lib.hid ho1.bytes
  have HAB := Lib.hid ho1.between
  obtain ⟨_, _, Ab, cb, rfl, hcb, _⟩ := ho1.bytes.parts
  rw [HPL.out] at HO1 HAB hcb ⊢
  clear ho1 hb1 HP
  go_wp2_with fail
  refine (aopen_any _ P w1 HO1.out (by rw [HPL.out]; omega) _ HPO.out).mono ?_
  rintro e w2 ⟨hb2, m, x, y, rfl, -, -, hx, -, hy⟩
  have HO2 := Lib.hid (HO1.out.under hb2)
  have HW2 := Lib.hid (HB1.out.trans (hb2.mono HB1.out.size))
  have HZ2 := Lib.hid hb2.size
  have rx := run_text hx.bytes
  have ry := run_text hy.bytes
  have rp := run_text (H1.out.under HW2.out)
  have rv := run_text (H2.out.under HW2.out)
  have ep : ((str p).toList != (str p).toList) = false := by simp
  have ev : ((str v).toList != (str v).toList) = false := by simp
  clear hx hy hb2 HO1 HB1
  go_wp2_with (at_builtin; refine wpList_append_bytes rfl _ _ rfl w2.heap.size _ _ [] P rfl (own_empty w2 _ 0 #[] (Nat.le_refl _) (by unfold maxLen; omega) rfl) rfl (HO2.out.alloc _) ?_ ?_ P rfl ?_)
  case refine_1 => rw [HPL.out, List.length_nil]; omega
  case refine_2 => simp
  case refine_3 =>
    rintro v3 w3 ⟨ho3, _, _, hb3'⟩
    have hb3 : Below w2.heap.size w2 w3 := ((Below.refl _ _).alloc (Nat.le_refl _) _).trans hb3'
    have HM3 := Lib.hid ho3.mine
    have HO3 := Lib.hid (HO2.out.under hb3)
    have HB3 := Lib.hid hb3
    obtain ⟨A3, c3, rfl, hc3, _⟩ := ho3.mine.parts
    rw [HPL.out] at HM3 hc3 ⊢
    clear ho3 hb3 hb3' HO2 rx ry rp rv ep ev
    obtain ⟨z, hz0, hz1⟩ : ∃ z : Nat, z ≤ 65535 ∧ bits .and .i64 bit 65535 = (z : Int) := ⟨_, Ar.and_low16 bit⟩
    obtain ⟨k, hk0, hk1⟩ := Ar.rem8 z n hn0
    obtain ⟨q, r, hq, hr, q1, r1⟩ := Ar.parts8 k n hk0 (by omega)
    obtain ⟨_, g1, off, rfl, hgb, hgs, hfz, hcell⟩ := HM3.out.at hn0
    have hfk := hfz q hq
    have hck := hcell q hq
    obtain ⟨xq, hxq⟩ : ∃ z, P.getD q 0 = z := ⟨_, rfl⟩
    have HXL : Hid (xq < 256) := Lib.hid (by rw [← hxq]; exact u8_lt HO3.out.1 q)
    have HBE := Lib.hid (Ar.bit_eq xq r HXL.out hr)
    obtain ⟨yq, hyq⟩ : ∃ z, xq ^^^ 2 ^ r = z := ⟨_, rfl⟩
    have HYL : Hid (yq < 256) := Lib.hid (by rw [← hyq]; exact Ar.bit_lt HXL.out hr)
    have HTN : Hid (Ar.opn (P.set q yq) = none) := Lib.hid (HPT.out q yq (by rw [HPL.out]; exact hq) HYL.out (by rw [hxq, ← hyq]; exact Ar.bit_ne xq r))
    rw [hyq] at HBE
    rw [hxq] at hck
    have HSET : Hid (Bytes (w3.setCell ⟨g1, off + q, none⟩ (.int .u8 (yq : Int))) (.slice (some ⟨g1, off, none⟩) n c3) (P.set q yq)) := Lib.hid (HM3.out.set hq HYL.out).bytes
    have HO4 : Hid (Bytes (w3.setCell ⟨g1, off + q, none⟩ (.int .u8 (yq : Int))) (.slice Ab n cb) P) := Lib.hid (HO3.out.same fun j hj e => Below.heap_setCell w3 ⟨g1, off + q, none⟩ _ j fun e' => by
      have h1 := (HAB.out j e).2
      have h2 := HZ2.out
      have h3 : j = g1 := e'
      omega)
    have HB4 : Hid (Below w2.heap.size w2 (w3.setCell ⟨g1, off + q, none⟩ (.int .u8 (yq : Int)))) := Lib.hid (HB3.out.setCell (p := ⟨g1, off + q, none⟩) hgb _)
    clear hcell hfz hxq hyq HM3 HO3 HB3 hz0
    go_wp2_with fail
    rw [HBE.out]
    obtain ⟨w4, hw4⟩ : ∃ w4, w3.setCell ⟨g1, off + q, none⟩ (.int .u8 (yq : Int)) = w4 := ⟨_, rfl⟩
    rw [hw4] at HSET HO4 HB4 ⊢
    clear hw4 hfk hck
    refine (aopen_any _ (P.set q yq) w4 HSET.out (by rw [List.length_set, HPL.out]; omega) _ HTN.out).mono ?_
    rintro e w5 ⟨hb5, rfl⟩
    have HO5 := Lib.hid (HO4.out.under hb5)
    have HB5 := Lib.hid (HW2.out.trans ((HB4.out.trans (hb5.mono HB4.out.size)).mono HW2.out.size))
    clear hb5 HO4 HB4 HSET
    obtain ⟨z2, hz20, hz21⟩ : ∃ z : Nat, z ≤ 65535 ∧ bits .and .i64 cut 65535 = (z : Int) := ⟨_, Ar.and_low16 cut⟩
    obtain ⟨k2, hk20, hk21⟩ := Ar.rem_of z2 n hn0
    have HTC : Hid (Ar.opn (P.take k2) = none) := Lib.hid (HPC.out k2 (by rw [HPL.out]; exact hk20))
    go_wp2_with fail
    refine (aopen_any _ (P.take k2) w5 (HO5.out.head (by omega) (by omega)) (by rw [List.length_take, HPL.out]; omega) _ HTC.out).mono ?_
    rintro e w6 ⟨hb6, rfl⟩
    have HO6 := Lib.hid (HO5.out.under hb6)
    have HB6 := Lib.hid (HB5.out.trans (hb6.mono HB5.out.size))
    clear hb6 HO5 HB5
    go_wp2_with (at_builtin; refine wpList_append_bytes rfl _ _ rfl w6.heap.size _ _ [] P rfl (own_empty w6 _ 0 #[] (Nat.le_refl _) (by unfold maxLen; omega) rfl) rfl (HO6.out.alloc _) ?_ ?_ P rfl ?_)
    case refine_1 => rw [HPL.out, List.length_nil]; omega
    case refine_2 => simp
    case refine_3 =>
      rintro v7 w7 ⟨ho7, _, _, hb7'⟩
      have HB7 : Hid (Below w6.heap.size w6 w7) := Lib.hid (((Below.refl _ _).alloc (Nat.le_refl _) _).trans hb7')
      have HO7 := Lib.hid ho7
      clear ho7 hb7'
      go_wp2_with (at_builtin; refine wpList_append_bytes rfl _ _ rfl w6.heap.size _ _ P [0] rfl (HO7.out.alloc _) rfl (bytes_one w7 0 0 5 (0, 0) rfl (by decide)) ?_ ?_ _ rfl ?_)
      case refine_1 => rw [HPL.out, List.length_singleton]; omega
      case refine_2 => have := HB7.out.size; simp; omega
      case refine_3 =>
        rintro v8 w8 ⟨ho8, _, _, hb8'⟩
        have HB8 : Hid (Below w6.heap.size w6 w8) := Lib.hid ((HB7.out.alloc HB7.out.size _).trans hb8')
        have HO8 := Lib.hid ho8.bytes
        clear ho8 hb8'
        go_wp2_with fail
        refine (aopen_any _ (P ++ [0]) w8 HO8.out (by rw [List.length_append, HPL.out, List.length_singleton]; omega) _ HPM.out).mono ?_
        rintro e w9 ⟨hb9, rfl⟩
        have HB9 := Lib.hid (HB6.out.trans ((HB8.out.trans (hb9.mono HB8.out.size)).mono HB6.out.size))
        clear hb9
        go_wp2_with fail
        refine (aawake_any _).mono ?_
        rintro e w10 ⟨rfl, hb10⟩
        go_wp2
        go_ret
        exact ⟨rfl, HB9.out.trans (hb10.mono HB9.out.size)⟩
end Go.Proofs.Ytldnpedegcbglaa
