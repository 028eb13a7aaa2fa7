/- RecoTurned: a lock of which one bit was turned is none, whichever it is; so is one that is cut, or has more behind. -/
import Derived.Test.YtkfmjkoghfcciaaRecoAwake
import Derived.Test.YtkfmjkoghfcciaaArtiTurned
namespace Go.Proofs.Ytkfmjkoghfcciaa
set_option maxRecDepth 100000
open Go.ChangeShapes Go.WideShapes Go.ChangeAt Go.RowKit

namespace Rc
theorem and_mask (a : Int) (m : Nat) (h : (BitVec.ofInt 64 (m : Int)).toNat = m) (hm : m ≤ 4294967295) : ∃ k : Nat, k ≤ m ∧ bits .and .i64 a (m : Int) = (k : Int) := by
  refine ⟨(BitVec.ofInt 64 a &&& BitVec.ofInt 64 (m : Int)).toNat, ?_, ?_⟩
  · rw [BitVec.toNat_and, h]
    exact Nat.and_le_right
  · have hx : (BitVec.ofInt 64 a &&& BitVec.ofInt 64 (m : Int)).toNat ≤ m := by
      rw [BitVec.toNat_and, h]
      exact Nat.and_le_right
    show IntKind.i64.wrap ((BitVec.ofInt 64 a &&& BitVec.ofInt 64 (m : Int)).toNat : Int) = _
    rw [IntKind.wrap_i64]
    omega
theorem and_7 (a : Int) : ∃ k : Nat, k ≤ 7 ∧ bits .and .i64 a 7 = (k : Int) := and_mask a 7 (by decide) (by decide)
theorem and_255 (a : Int) : ∃ k : Nat, k ≤ 255 ∧ bits .and .i64 a 255 = (k : Int) := and_mask a 255 (by decide) (by decide)
theorem and_15 (a : Int) : ∃ k : Nat, k ≤ 15 ∧ bits .and .i64 a 15 = (k : Int) := and_mask a 15 (by decide) (by decide)
theorem and_3 (a : Int) : ∃ k : Nat, k ≤ 3 ∧ bits .and .i64 a 3 = (k : Int) := and_mask a 3 (by decide) (by decide)
theorem and_65535 (a : Int) : ∃ k : Nat, k ≤ 65535 ∧ bits .and .i64 a 65535 = (k : Int) := and_mask a 65535 (by decide) (by decide)
theorem and_far (a : Int) : ∃ k : Nat, k ≤ 4294967295 ∧ bits .and .i64 a 4294967295 = (k : Int) := and_mask a 4294967295 (by decide) (by decide)
theorem held_nat {n : Nat} (h : n ≤ 1099511627776) : Cd.held (n : Int) = n := by unfold Cd.held; omega
end Rc

set_option maxRecDepth 100000 in
set_option maxHeartbeats 8000000 in
theorem rturned_any (n m bit cut : Int) (w : World) :
    Calls Try.prog 6 #[.int .i64 n, .int .i64 m, .int .i64 bit, .int .i64 cut] w fun e w' => e = .returned (.bool true) ∧ Below w.heap.size w w' := by
  obtain ⟨a, ha, ea⟩ := Rc.and_7 n
  obtain ⟨b, hb, eb⟩ := Rc.and_255 (n / 8)
  obtain ⟨c, hc, ec⟩ := Rc.and_65535 (n / 2048)
  obtain ⟨d, hd, ed⟩ := Rc.and_far m
  obtain ⟨P, hP⟩ : ∃ P, Rc.lock a b c d = P := ⟨_, rfl⟩
  have HP : Hid (Rc.lock (Cd.held (a : Int)) (Cd.held (b : Int)) (Cd.held (c : Int)) (Cd.held (d : Int)) = P) := Lib.hid (by rw [Rc.held_nat (by omega), Rc.held_nat (by omega), Rc.held_nat (by omega), Rc.held_nat (by omega), hP])
  have HPL : Hid (P.length = 34) := Lib.hid (by rw [← hP, Rc.lock_length])
  have HPO : Hid (Rc.openL P = some (a, b, c, d)) := Lib.hid (by rw [← hP]; exact Rc.openL_lock a b c d (by omega) (by omega) (by omega) (by omega))
  have HPT : Hid (∀ q y, q < 34 → y < 256 → y ≠ P.getD q 0 → Rc.openL (P.set q y) = none) := Lib.hid (by rw [← hP]; exact Rc.openL_turned a b c d)
  have HPC : Hid (∀ k, k < 34 → Rc.openL (P.take k) = none) := Lib.hid (by rw [← hP]; exact Rc.openL_cut a b c d)
  have HPM : Hid (∀ r, r ≠ [] → Rc.openL (P ++ r) = none) := Lib.hid (by rw [← hP]; exact Rc.openL_long a b c d)
  clear hP ha hb hc hd
  go_enter Try.func6, Try.ntmps6
  obtain ⟨w1, hw1⟩ : ∃ w1, w.alloc (.cells #[.int .i64 (a : Int), .int .i64 (b : Int), .int .i64 (c : Int), .int .i64 (d : Int)] 66) = w1 := ⟨_, rfl⟩
  obtain ⟨gl, hgl⟩ : ∃ g, w.heap.size = g := ⟨_, rfl⟩
  have HB1 : Hid (Below w.heap.size w w1) := Lib.hid (by rw [← hw1]; exact (Below.refl _ _).alloc (Nat.le_refl _) _)
  have HL1 : Hid (Blk w1 gl 66 #[.int .i64 (a : Int), .int .i64 (b : Int), .int .i64 (c : Int), .int .i64 (d : Int)]) := Lib.hid (by rw [← hw1, ← hgl]; exact heap_alloc_new w _)
  have HW1 := Lib.hid hw1
  have HG1 := Lib.hid hgl
  clear hw1 hgl
  go_upto_region 2 with fail
  rw [HW1.out, HG1.out]
  clear HW1 HG1 ea eb ec ed
  have l0 := HL1.out.at 0
  have l1 := HL1.out.at 1
  have l2 := HL1.out.at 2
  have l3 := HL1.out.at 3
  go_wp2_with fail
  refine (rlock_is _ _ _ _ P w1 HP.out).mono ?_
  rintro e w2 ⟨v2, rfl, ho2, hb2⟩
  have HB2 := Lib.hid hb2
  have HO2 := Lib.hid ho2.bytes
  have HAB := Lib.hid ho2.between
  obtain ⟨_, _, Ab, cb, rfl, hcb, _⟩ := ho2.bytes.parts
  rw [HPL.out] at HO2 HAB hcb ⊢
  have h34 : ((34 : Nat) : Int) = 34 := rfl
  clear ho2 hb2 HP l0 l1 l2 l3
  go_wp2_with fail
  refine (ropenL_any _ P w2 HO2.out (by rw [HPL.out]; decide) _ HPO.out).mono ?_
  rintro e w3 ⟨rfl, hb3⟩
  rw [show lockOf (some (a, b, c, d)) = .tuple #[.agg #[.int .i64 (a : Int), .int .i64 (b : Int), .int .i64 (c : Int), .int .i64 (d : Int)], .bool true] from rfl]
  obtain ⟨w4, hw4⟩ : ∃ w4, w3.alloc (.cells #[.int .i64 (a : Int), .int .i64 (b : Int), .int .i64 (c : Int), .int .i64 (d : Int)] 66) = w4 := ⟨_, rfl⟩
  obtain ⟨gx, hgx⟩ : ∃ g, w3.heap.size = g := ⟨_, rfl⟩
  have HZ4 : Hid (w2.heap.size ≤ w4.heap.size) := Lib.hid (by rw [← hw4]; have := hb3.size; simp; omega)
  have HB4 : Hid (Below w1.heap.size w1 w4) := Lib.hid (by rw [← hw4]; have h := HB2.out.trans (hb3.mono HB2.out.size); exact h.alloc h.size _)
  have HX4 : Hid (Blk w4 gx 66 #[.int .i64 (a : Int), .int .i64 (b : Int), .int .i64 (c : Int), .int .i64 (d : Int)]) := Lib.hid (by rw [← hw4, ← hgx]; exact heap_alloc_new w3 _)
  have HO4 : Hid (Bytes w4 (.slice Ab 34 cb) P) := Lib.hid (by rw [← hw4]; exact (HO2.out.under hb3).alloc _)
  have HW4 := Lib.hid hw4
  have HG4 := Lib.hid hgx
  clear hw4 hgx hb3 HO2 HB2
  go_upto_region 6 with fail
  rw [HW4.out, HG4.out]
  clear HW4 HG4
  go_wp2_with (at_builtin; refine wpList_append_bytes rfl _ _ rfl w4.heap.size _ _ [] P rfl (own_empty w4 _ 0 #[] (Nat.le_refl _) (by unfold maxLen; omega) rfl) rfl (HO4.out.alloc _) ?_ ?_ P rfl ?_)
  case refine_1 => rw [HPL.out, List.length_nil]; omega
  case refine_2 => simp
  case refine_3 =>
    rintro v5 w5 ⟨ho5, _, _, hb5'⟩
    have hb5 : Below w4.heap.size w4 w5 := ((Below.refl _ _).alloc (Nat.le_refl _) _).trans hb5'
    have HM5 := Lib.hid ho5.mine
    have HO5 := Lib.hid (HO4.out.under hb5)
    have HB5 := Lib.hid hb5
    obtain ⟨A5, c5, rfl, hc5, _⟩ := ho5.mine.parts
    rw [HPL.out] at HM5 hc5 ⊢
    clear ho5 hb5 hb5' HO4
    obtain ⟨z, hz0, hz1⟩ : ∃ z : Nat, z ≤ 65535 ∧ bits .and .i64 bit 65535 = (z : Int) := ⟨_, Ar.and_low16 bit⟩
    obtain ⟨k, hk0, hk1⟩ := Ar.rem8 z 34 (by decide)
    have hk2 : (z : Int).tmod 272 = (k : Int) := hk1
    obtain ⟨q, r, hq, hr, q1, r1⟩ := Ar.parts8 k 34 hk0 (by omega)
    obtain ⟨_, g1, off, rfl, hgb, hgs, hfz, hcell⟩ := HM5.out.at (by decide)
    have hfk := hfz q hq
    have hck := hcell q hq
    obtain ⟨xq, hxq⟩ : ∃ z, P.getD q 0 = z := ⟨_, rfl⟩
    have HXL : Hid (xq < 256) := Lib.hid (by rw [← hxq]; exact u8_lt HO5.out.1 q)
    have HBE := Lib.hid (Ar.bit_eq xq r HXL.out hr)
    obtain ⟨yq, hyq⟩ : ∃ z, xq ^^^ 2 ^ r = z := ⟨_, rfl⟩
    have HYL : Hid (yq < 256) := Lib.hid (by rw [← hyq]; exact Ar.bit_lt HXL.out hr)
    have HTN : Hid (Rc.openL (P.set q yq) = none) := Lib.hid (HPT.out q yq hq HYL.out (by rw [hxq, ← hyq]; exact Ar.bit_ne xq r))
    rw [hyq] at HBE
    rw [hxq] at hck
    have HSET : Hid (Bytes (w5.setCell ⟨g1, off + q, none⟩ (.int .u8 (yq : Int))) (.slice (some ⟨g1, off, none⟩) 34 c5) (P.set q yq)) := Lib.hid (HM5.out.set hq HYL.out).bytes
    have HO6 : Hid (Bytes (w5.setCell ⟨g1, off + q, none⟩ (.int .u8 (yq : Int))) (.slice Ab 34 cb) P) := Lib.hid (HO5.out.same fun j hj e => Below.heap_setCell w5 ⟨g1, off + q, none⟩ _ j fun e' => by
      have h1 := (HAB.out j e).2
      have h2 := HZ4.out
      have h3 : j = g1 := e'
      omega)
    have HB6 : Hid (Below w4.heap.size w4 (w5.setCell ⟨g1, off + q, none⟩ (.int .u8 (yq : Int)))) := Lib.hid (HB5.out.setCell (p := ⟨g1, off + q, none⟩) hgb _)
    clear hcell hfz hxq hyq HM5 HO5 HB5 hz0 hk1
    go_wp2_with fail
    rw [HBE.out]
    obtain ⟨w6, hw6⟩ : ∃ w6, w5.setCell ⟨g1, off + q, none⟩ (.int .u8 (yq : Int)) = w6 := ⟨_, rfl⟩
    rw [hw6] at HSET HO6 HB6 ⊢
    clear hw6 hfk hck
    refine (ropenL_any _ (P.set q yq) w6 HSET.out (by rw [List.length_set, HPL.out]; decide) _ HTN.out).mono ?_
    rintro e w7 ⟨rfl, hb7⟩
    rw [show lockOf none = .tuple #[.agg #[.int .i64 0, .int .i64 0, .int .i64 0, .int .i64 0], .bool false] from rfl]
    obtain ⟨w8, hw8⟩ : ∃ w8, w7.alloc (.cells #[.int .i64 0, .int .i64 0, .int .i64 0, .int .i64 0] 66) = w8 := ⟨_, rfl⟩
    have HO8 : Hid (Bytes w8 (.slice Ab 34 cb) P) := Lib.hid (by rw [← hw8]; exact (HO6.out.under hb7).alloc _)
    have HB8 : Hid (Below w4.heap.size w4 w8) := Lib.hid (by rw [← hw8]; have h := HB6.out.trans (hb7.mono HB6.out.size); exact h.alloc h.size _)
    have HW8 := Lib.hid hw8
    clear hw8 hb7 HO6 HB6 HSET
    go_upto_region 10 with fail
    rw [HW8.out]
    clear HW8
    obtain ⟨z2, hz20, hz21⟩ : ∃ z : Nat, z ≤ 65535 ∧ bits .and .i64 cut 65535 = (z : Int) := ⟨_, Ar.and_low16 cut⟩
    obtain ⟨k2, hk20, hk21⟩ := Ar.rem_of z2 34 (by decide)
    have hk22 : (z2 : Int).tmod 34 = (k2 : Int) := hk21
    have HTC : Hid (Rc.openL (P.take k2) = none) := Lib.hid (HPC.out k2 hk20)
    have hk23 : k2 ≤ cb := by omega
    have hk24 : (k2 : Int) ≤ (cb : Int) := by omega
    clear hk21
    go_wp2_with fail
    refine (ropenL_any _ (P.take k2) w8 (HO8.out.head (by omega) (by omega)) (by rw [List.length_take, HPL.out]; omega) _ HTC.out).mono ?_
    rintro e w9 ⟨rfl, hb9⟩
    rw [show lockOf none = .tuple #[.agg #[.int .i64 0, .int .i64 0, .int .i64 0, .int .i64 0], .bool false] from rfl]
    obtain ⟨w10, hw10⟩ : ∃ w10, w9.alloc (.cells #[.int .i64 0, .int .i64 0, .int .i64 0, .int .i64 0] 66) = w10 := ⟨_, rfl⟩
    have HO10 : Hid (Bytes w10 (.slice Ab 34 cb) P) := Lib.hid (by rw [← hw10]; exact (HO8.out.under hb9).alloc _)
    have HB10 : Hid (Below w4.heap.size w4 w10) := Lib.hid (by rw [← hw10]; have h := HB8.out.trans (hb9.mono HB8.out.size); exact h.alloc h.size _)
    have HW10 := Lib.hid hw10
    clear hw10 hb9 HO8 HB8 hz20 hz21 hk22
    go_upto_region 11 with fail
    rw [HW10.out]
    clear HW10
    go_wp2_with (at_builtin; refine wpList_append_bytes rfl _ _ rfl w10.heap.size _ _ [] P rfl (own_empty w10 _ 0 #[] (Nat.le_refl _) (by unfold maxLen; omega) rfl) rfl (HO10.out.alloc _) ?_ ?_ P rfl ?_)
    case refine_1 => rw [HPL.out, List.length_nil]; omega
    case refine_2 => simp
    case refine_3 =>
      rintro v11 w11 ⟨ho11, _, _, hb11'⟩
      have HB11 : Hid (Below w10.heap.size w10 w11) := Lib.hid (((Below.refl _ _).alloc (Nat.le_refl _) _).trans hb11')
      have HO11 := Lib.hid ho11
      clear ho11 hb11'
      go_wp2_with (at_builtin; refine wpList_append_bytes rfl _ _ rfl w10.heap.size _ _ P [0] rfl (HO11.out.alloc _) rfl (bytes_one w11 0 0 5 (0, 0) rfl (by decide)) ?_ ?_ _ rfl ?_)
      case refine_1 => rw [HPL.out, List.length_singleton]; omega
      case refine_2 => have := HB11.out.size; simp; omega
      case refine_3 =>
        rintro v12 w12 ⟨ho12, _, _, hb12'⟩
        have HB12 : Hid (Below w10.heap.size w10 w12) := Lib.hid ((HB11.out.alloc HB11.out.size _).trans hb12')
        have HO12 := Lib.hid ho12.bytes
        clear ho12 hb12'
        go_wp2_with fail
        refine (ropenL_any _ (P ++ [0]) w12 HO12.out (by rw [List.length_append, HPL.out, List.length_singleton]; decide) _ (HPM.out [0] (by simp))).mono ?_
        rintro e w13 ⟨rfl, hb13⟩
        rw [show lockOf none = .tuple #[.agg #[.int .i64 0, .int .i64 0, .int .i64 0, .int .i64 0], .bool false] from rfl]
        obtain ⟨w14, hw14⟩ : ∃ w14, w13.alloc (.cells #[.int .i64 0, .int .i64 0, .int .i64 0, .int .i64 0] 66) = w14 := ⟨_, rfl⟩
        have HB14 : Hid (Below w10.heap.size w10 w14) := Lib.hid (by rw [← hw14]; have h := HB12.out.trans (hb13.mono HB12.out.size); exact h.alloc h.size _)
        have HO14 := Lib.hid (HO10.out.under HB14.out)
        have HW14 := Lib.hid hw14
        clear hw14 hb13 HO11 HO12 HB11 HB12
        go_upto_region 12 with fail
        rw [HW14.out]
        clear HW14
        go_wp2_with (at_builtin; refine wpList_append_bytes rfl _ _ rfl w14.heap.size _ _ [] P rfl (own_empty w14 _ 0 #[] (Nat.le_refl _) (by unfold maxLen; omega) rfl) rfl (HO14.out.alloc _) ?_ ?_ P rfl ?_)
        case refine_1 => rw [HPL.out, List.length_nil]; omega
        case refine_2 => simp
        case refine_3 =>
          rintro v15 w15 ⟨ho15, _, _, hb15'⟩
          have HB15 : Hid (Below w14.heap.size w14 w15) := Lib.hid (((Below.refl _ _).alloc (Nat.le_refl _) _).trans hb15')
          have HO15 := Lib.hid ho15
          have HO15b := Lib.hid (HO14.out.under HB15.out)
          clear ho15 hb15'
          go_wp2_with (at_builtin; refine wpList_append_bytes rfl _ _ rfl w14.heap.size _ _ P P rfl HO15.out rfl HO15b.out ?_ ?_ _ rfl ?_)
          case refine_1 => rw [HPL.out]; omega
          case refine_2 => exact HB15.out.size
          case refine_3 =>
            rintro v16 w16 ⟨ho16, _, _, hb16'⟩
            have HB16 : Hid (Below w14.heap.size w14 w16) := Lib.hid (HB15.out.trans hb16')
            have HO16 := Lib.hid ho16.bytes
            clear ho16 hb16'
            go_wp2_with fail
            refine (ropenL_any _ (P ++ P) w16 HO16.out (by rw [List.length_append, HPL.out]; decide) _ (HPM.out P (by intro e; have := HPL.out; rw [e] at this; cases this))).mono ?_
            rintro e w17 ⟨rfl, hb17⟩
            rw [show lockOf none = .tuple #[.agg #[.int .i64 0, .int .i64 0, .int .i64 0, .int .i64 0], .bool false] from rfl]
            obtain ⟨w18, hw18⟩ : ∃ w18, w17.alloc (.cells #[.int .i64 0, .int .i64 0, .int .i64 0, .int .i64 0] 66) = w18 := ⟨_, rfl⟩
            have HB18 : Hid (Below w14.heap.size w14 w18) := Lib.hid (by rw [← hw18]; have h := HB16.out.trans (hb17.mono HB16.out.size); exact h.alloc h.size _)
            have HB18a := Lib.hid (HB14.out.trans (HB18.out.mono HB14.out.size))
            have HB18b := Lib.hid (HB10.out.trans (HB18a.out.mono HB10.out.size))
            have HB18c := Lib.hid (HB4.out.trans (HB18b.out.mono HB4.out.size))
            have HW18 := Lib.hid hw18
            clear hw18 hb17 HO15 HO15b HO16 HB15 HB16
            go_upto_region 13 with fail
            rw [HW18.out]
            clear HW18
            have kl := HL1.out.under HB18c.out
            have kx := HX4.out.under HB18b.out
            have l0 := kl.at 0
            have l1 := kl.at 1
            have l2 := kl.at 2
            have l3 := kl.at 3
            have x0 := kx.at 0
            have x1 := kx.at 1
            have x2 := kx.at 2
            have x3 := kx.at 3
            clear kl kx
            go_wp2_with fail
            refine (rawake_any _).mono ?_
            rintro e w19 ⟨rfl, hb19⟩
            have HB19 := Lib.hid (HB1.out.trans ((HB18c.out.trans (hb19.mono HB18c.out.size)).mono HB1.out.size))
            clear hb19 l0 l1 l2 l3 x0 x1 x2 x3
            go_wp2
            go_ret
            exact ⟨rfl, HB19.out⟩
end Go.Proofs.Ytkfmjkoghfcciaa
