/- CodeBack: numbers and bytes are read as they were written, one behind the other; cut anywhere the last of them can't be. -/
import Derived.Test.YtgfhfmpcdmcplaaCodeAwake
import Derived.Test.YtgfhfmpcdmcplaaInts
import Derived.Test.YtgfhfmpcdmcplaaBackMath
namespace Go.Proofs.Ytgfhfmpcdmcplaa
open Go.ChangeShapes Go.WideShapes Go.ChangeAt Go.RowKit

theorem and_low32 (a : Int) : (bits .and .i64 a 4294967295).toNat < 4294967296 ∧ bits .and .i64 a 4294967295 = ((bits .and .i64 a 4294967295).toNat : Int) := by
  have h : bits .and .i64 a 4294967295 = IntKind.i64.wrap ((BitVec.ofInt 64 a &&& BitVec.ofInt 64 4294967295).toNat : Int) := rfl
  have hx : (BitVec.ofInt 64 a &&& BitVec.ofInt 64 4294967295).toNat ≤ 4294967295 := by
    rw [BitVec.toNat_and]
    exact Nat.le_trans Nat.and_le_right (by decide)
  rw [h, IntKind.wrap_i64]
  omega
theorem and_low16 (a : Int) : (bits .and .i64 a 65535).toNat ≤ 65535 ∧ bits .and .i64 a 65535 = ((bits .and .i64 a 65535).toNat : Int) := by
  have h : bits .and .i64 a 65535 = IntKind.i64.wrap ((BitVec.ofInt 64 a &&& BitVec.ofInt 64 65535).toNat : Int) := rfl
  have hx : (BitVec.ofInt 64 a &&& BitVec.ofInt 64 65535).toNat ≤ 65535 := by
    rw [BitVec.toNat_and]
    exact Nat.le_trans Nat.and_le_right (by decide)
  rw [h, IntKind.wrap_i64]
  omega
def mask (a : Int) : Nat := (bits .and .i64 a 4294967295).toNat
def masks (zs : List Int) : List Nat := (zs.take 8).map mask
theorem masks_length (zs : List Int) : (masks zs).length = min 8 zs.length := by simp [masks]
theorem masks_at {zs : List Int} {k : Nat} (h : k < (masks zs).length) : (masks zs).getD k 0 = mask (zs.getD k 0) := by
  rw [masks_length] at h
  unfold masks
  simp only [List.getD_eq_getElem?_getD, List.getElem?_map, List.getElem?_take]
  rw [if_pos (by omega), List.getElem?_eq_getElem (by omega)]
  rfl

theorem drop_cons_pieces (raw ws : List Nat) (q : Nat) (h : q < ws.length) : Cd.pieces raw (ws.drop q) ++ Cd.enc 7 = Cd.enc (ws.getD q 0) ++ (Cd.enc raw.length ++ (raw ++ (Cd.pieces raw (ws.drop (q + 1)) ++ Cd.enc 7))) := by
  rw [Cd.drop_cons h, Cd.pieces_cons]
  simp only [List.append_assoc]

set_option maxHeartbeats 2000000 in
theorem back_long (v0 v1 : Value) (raw : List Nat) (cut : Int) (w : World) (hr : Bytes w v1 raw) (hl : 100 < raw.length) :
    Calls Try.prog 4 #[v0, v1, .int .i64 cut] w fun e w' => e = .returned (.bool true) ∧ Below w.heap.size w w' := by
  obtain ⟨_, hm, A, c, rfl, hc, _⟩ := hr.parts
  have h4 : (100 : Int) < (raw.length : Int) := by omega
  clear hr
  go_enter Try.func4, Try.ntmps4
  go_wp2_with (go_at_call 11; refine (awake_any _).mono ?_; rintro e w' ⟨rfl, hbw⟩)
  go_ret
  exact ⟨rfl, hbw⟩

set_option maxRecDepth 100000 in
set_option maxHeartbeats 4000000 in
theorem back_short (v0 v1 : Value) (zs : List Int) (raw : List Nat) (cut : Int) (w : World) (hz : Ints w v0 zs) (hr : Bytes w v1 raw) (hl : raw.length ≤ 100) :
    Calls Try.prog 4 #[v0, v1, .int .i64 cut] w fun e w' => e = .returned (.bool true) ∧ Below w.heap.size w w' := by
  have HZ := Lib.hid hz
  have HR := Lib.hid hr
  obtain ⟨_, _, A, c, rfl, hc, _⟩ := hr.parts
  obtain ⟨_, hzm, B, d, rfl, hd, _⟩ := hz
  clear hr
  obtain ⟨n, hn⟩ : ∃ n, zs.length = n := ⟨_, rfl⟩
  obtain ⟨R, hR⟩ : ∃ n, raw.length = n := ⟨_, rfl⟩
  rw [hn] at HZ hzm hd ⊢
  rw [hR] at HR hl hc ⊢
  obtain ⟨ws, hws⟩ : ∃ ws, masks zs = ws := ⟨_, rfl⟩
  obtain ⟨K, hK⟩ : ∃ K, ws.length = K := ⟨_, rfl⟩
  have hKn : K = min 8 n := by rw [← hK, ← hws, masks_length, hn]
  have hK8 : K ≤ 8 := by omega
  have hKn' : K ≤ n := by omega
  have HKs := Lib.hid (show K = 8 ∨ (K = n ∧ n < 8) by omega)
  have HK := Lib.hid hK
  have HN := Lib.hid hn
  have HRL := Lib.hid hR
  have HW := Lib.hid hws
  have r1 : ¬ (100 : Int) < (R : Int) := by omega
  clear hK hKn hn hR hws
  go_enter Try.func4, Try.ntmps4
  go_wp2
  go_loopw [7, 8, 9] (fun v u i wr => ∃ k : Nat, k ≤ K ∧ i = .int .i64 k ∧ Own wr w.heap.size v (Cd.pieces raw (ws.take k)) ∧ OwnI wr w.heap.size u (ws.take k) ∧ Below w.heap.size w wr) (fun _ _ i _ => K - (intOf i).toNat)
  case atStart => exact ⟨0, Nat.zero_le _, rfl, by simpa [Cd.pieces] using own_none _ _, by simpa using ownI_none _ _, Below.refl _ _⟩
  case round =>
    obtain ⟨k, hk, rfl, ho, hi, hb⟩ := hrel
    have HO := Lib.hid ho
    have HI := Lib.hid hi
    have hwz : w.heap.size ≤ wr.heap.size := hb.size
    clear ho hi
    by_cases hlt : k < K
    · have k1 : (k : Int) < (n : Int) := by omega
      have k2 : (k : Int) < 8 := by omega
      obtain ⟨b, off, rfl, hcz⟩ := HZ.out.at (k := k) (by omega)
      have hcz' := cell_later hb hcz
      obtain ⟨x, hx⟩ : ∃ x, mask (zs.getD k 0) = x := ⟨_, rfl⟩
      have hx32 : x < 4294967296 := by rw [← hx]; exact (and_low32 _).1
      have hxe : bits .and .i64 (zs.getD k 0) 4294967295 = (x : Int) := by rw [← hx]; exact (and_low32 _).2
      obtain ⟨z, hz0⟩ : ∃ z, zs.getD k 0 = z := ⟨_, rfl⟩
      rw [hz0] at hcz' hxe hcz
      have hcz0 := Lib.hid hcz
      have HX := Lib.hid (show ws.getD k 0 = x by rw [← HW.out, masks_at (by rw [HW.out, HK.out]; exact hlt), hx])
      clear hcz hz0 hx
      have hlen : (Cd.pieces raw (ws.take k)).length ≤ 1000 := by
        rw [Cd.pieces_length, List.length_take, HK.out, HRL.out, Nat.min_eq_left (by omega)]
        have : k * (12 + R) ≤ 8 * 112 := Nat.mul_le_mul (by omega) (by omega)
        omega
      have hs1 : ws.take (k + 1) = ws.take k ++ [x] := by
        rw [take_snoc ws k (by rw [HK.out]; exact hlt), HX.out]
      have HS1 := Lib.hid hs1
      clear hs1
      go_wp2_with fail
      refine (num_is _ _ (Cd.pieces raw (ws.take k) ++ Cd.enc x) _ _ HO.out.bytes (by omega) (by rw [show Cd.held (x : Int) = x from by unfold Cd.held; omega])).mono ?_
      rintro e w1 ⟨v1, rfl, ho1, hb1⟩
      have HO1 := Lib.hid ho1
      have HI1 := Lib.hid (HI.out.under hb1)
      have hB1 : Below w.heap.size w w1 := hb.trans (hb1.mono hwz)
      have hw1 : wr.heap.size ≤ w1.heap.size := hb1.size
      clear ho1 hb1 HO HI hb
      go_wp2_with fail
      refine (bytes_is _ _ _ raw (Cd.pieces raw (ws.take (k + 1))) _ HO1.out.bytes (HR.out.under hB1) (by rw [List.length_append, Cd.enc_length]; omega) (by rw [HRL.out]; omega) (by rw [HS1.out, Cd.pieces_snoc])).mono ?_
      rintro e w2 ⟨v2, rfl, ho2, hb2⟩
      have HO2 := Lib.hid (ho2.more (show w.heap.size ≤ w1.heap.size by omega))
      have HI2 := Lib.hid (HI1.out.under hb2)
      have hB2 : Below w.heap.size w w2 := hB1.trans (hb2.mono (by omega))
      have hw2 : w1.heap.size ≤ w2.heap.size := hb2.size
      have hcz2 := cell_later hB2 hcz0.out
      clear ho2 hb2 HO1 HI1 hB1 hcz'
      go_wp2_with (at_builtin; refine wpList_append_int rfl _ _ rfl w.heap.size _ (ws.take k) _ x rfl HI2.out rfl rfl _ ?_ ?_ (ws.take (k + 1)) HS1.out.symm ?_)
      case refine_1 => rw [List.length_take]; omega
      case refine_2 => omega
      case refine_3 =>
        intro v' w' hg
        obtain ⟨hi', hg', hb'⟩ := hg
        have HI3 := Lib.hid hi'
        have HO3 := Lib.hid ((HO2.out.alloc (.cells #[.int .i64 (x : Int)] 3)).grown hg' (own_apart HO2.out HI2.out))
        have hB3 := (hB2.alloc (by omega) (.cells #[.int .i64 (x : Int)] 3)).trans hb'
        clear hi' hg' hb' HO2 HI2 hB2
        go_wp2
        go_roundw
        case rel => exact ⟨k + 1, by omega, by go_num, HO3.out, HI3.out, hB3⟩
        case measure => simp [intOf]; omega
    · obtain rfl : k = K := by omega
      have hwsall : ws.take k = ws := List.take_of_length_le (by rw [HK.out]; exact Nat.le_refl _)
      rw [hwsall] at HO HI
      clear hwsall
      obtain ⟨S, hS⟩ : ∃ S, Cd.pieces raw ws ++ Cd.enc 7 = S := ⟨_, rfl⟩
      obtain ⟨M, hM⟩ : ∃ M, S.length = M := ⟨_, rfl⟩
      have hMk : M = k * (12 + R) + 6 := by rw [← hM, ← hS, List.length_append, Cd.pieces_length, HK.out, HRL.out, Cd.enc_length]
      have hkR : k * (12 + R) ≤ 896 := Nat.le_trans (Nat.mul_le_mul hK8 (show 12 + R ≤ 112 by omega)) (by decide)
      have hlenP : (Cd.pieces raw ws).length ≤ 1000 := by rw [Cd.pieces_length, HK.out, HRL.out]; omega
      have HS := Lib.hid hS
      have HM := Lib.hid hM
      have HMk := Lib.hid hMk
      have hM0 : 6 ≤ M := by omega
      have hM1 : M ≤ 1000 := by omega
      clear hS hM hMk
      have hstop : (k = n) ∨ (k < n ∧ k = 8) := by have := HKs.out; omega
      clear HKs
      have hstop' : ((k : Int) < (n : Int) → (k : Int) < 8 → False) := by omega
      rcases hstop with hk1 | ⟨hk1, hk2⟩
      all_goals
        have k1 : (¬ (k : Int) < (n : Int)) ∨ ((k : Int) < (n : Int) ∧ ¬ (k : Int) < 8) := by omega
        first | (replace k1 : ¬ (k : Int) < (n : Int) := (by omega)) | (obtain ⟨k1, k2⟩ : (k : Int) < (n : Int) ∧ ¬ (k : Int) < 8 := (by omega))
        clear hstop'
        first | clear hk1 hk2 | clear hk1
        have HK8 := Lib.hid hK8
        clear hK8
        go_wp2_with fail
        refine (num_is _ _ S _ _ HO.out.bytes (by omega) (by rw [show Cd.held 7 = 7 from rfl]; exact HS.out)).mono ?_
        rintro e w1 ⟨v1, rfl, ho1, hb1⟩
        have HO1 := Lib.hid (ho1.more hwz)
        have HI1 := Lib.hid (HI.out.under hb1)
        have hB1 : Below w.heap.size w w1 := hb.trans (hb1.mono hwz)
        have hv1 := ho1.bytes
        obtain ⟨_, _, A1, c1, rfl, hc1, hx1⟩ := hv1.parts
        obtain ⟨C, hC, hCe⟩ : ∃ C : Nat, C < M ∧ (M : Int) - 1 - (bits .and .i64 cut 65535).tmod (M : Int) = (C : Int) := by
          obtain ⟨q1, q2⟩ := and_low16 cut
          rw [q2, Int.tmod_eq_emod_of_nonneg (by omega)]
          have h1 := Int.emod_lt_of_pos (((bits .and .i64 cut 65535).toNat : Nat) : Int) (show (0 : Int) < (M : Int) by omega)
          have h2 := Int.emod_nonneg (((bits .and .i64 cut 65535).toNat : Nat) : Int) (show (M : Int) ≠ 0 by omega)
          exact ⟨((M : Int) - 1 - (((bits .and .i64 cut 65535).toNat : Nat) : Int) % (M : Int)).toNat, by omega, by omega⟩
        rw [HM.out] at hv1 hc1 hx1 HO1 ⊢
        clear ho1 hb1 HO HI hb hx1
        have q0 : ((M : Int) == 0) = false := by simp; omega
        go_wp2_with fail
        obtain ⟨wa, hwa⟩ : ∃ wa, w1.alloc (.cells #[.slice A1 M c1, .slice A1 C c1] 26) = wa := ⟨_, rfl⟩
        have HT : Hid (Blk wa w1.heap.size 26 #[.slice A1 M c1, .slice A1 C c1]) := by rw [← hwa]; exact heap_alloc_new w1 _
        have HBa : Hid (Bytes wa (.slice A1 M c1) S) := by rw [← hwa]; exact HO1.out.bytes.alloc _
        have HIa : Hid (OwnI wa w.heap.size u8 ws) := by rw [← hwa]; exact HI1.out.under ((Below.refl _ _).alloc (Nat.le_refl _) _)
        have hBa : Below w.heap.size w wa := by rw [← hwa]; exact hB1.alloc hB1.size _
        have hTa : w1.heap.size < wa.heap.size := by rw [← hwa]; simp
        obtain ⟨Au, cu, hu, hcu⟩ := HIa.out.parts
        rw [HK.out] at hu hcu
        subst hu
        obtain ⟨T, hT⟩ : ∃ T, w1.heap.size = T := ⟨_, rfl⟩
        rw [hwa, hT]
        rw [hT] at HT hTa
        have hCM : C ≤ c1 := by omega
        clear hwa hT hv1 HO1 HI1 hB1 hCe
        go_loopw [68] (fun i wr => ∃ j : Nat, j ≤ 2 ∧ i = .int .i64 j ∧ Below wa.heap.size wa wr) (fun i _ => 2 - (intOf i).toNat)
        case atStart => exact ⟨0, by omega, rfl, Below.refl _ _⟩
        case round =>
          obtain ⟨j, hj, rfl, hb⟩ := hrel
          obtain ⟨wo, rfl⟩ : ∃ wo : World, wo = wr := ⟨_, rfl⟩
          by_cases hlt2 : j < 2
          · obtain ⟨m, hm1, hm2, hm3, hmc⟩ : ∃ m, m ≤ M ∧ m ≤ c1 ∧ (m = M ∨ m < M) ∧ wo.cell? ⟨T, j, none⟩ = some (.slice A1 m c1) := by
              have hTb := HT.out.under hb
              have : j = 0 ∨ j = 1 := by omega
              rcases this with rfl | rfl
              · exact ⟨M, Nat.le_refl _, hc1, .inl rfl, hTb.at 0⟩
              · exact ⟨C, by omega, hCM, .inr hC, hTb.at 1⟩
            have hj2 : (j : Int) < 2 := by omega
            have HBo := Lib.hid (HBa.out.under hb)
            have HIo := Lib.hid (HIa.out.under hb)
            have hBo : Below w.heap.size w wo := hBa.trans (hb.mono hBa.size)
            have hM3 := Lib.hid hm3
            clear hm3
            go_wp2_with fail
            refine (read_any _ (S.take m) _ (HBo.out.head hm1 hm2) (by rw [List.length_take, HM.out]; omega)).mono ?_
            rintro e w3 ⟨g, rfl, hg1, hg2, hr3, hb3⟩
            have HR3 := Lib.hid hr3
            have HI3 := Lib.hid (HIo.out.under hb3)
            have hB3 : Below wo.heap.size wo w3 := hb3
            clear hr3 hb3
            go_wp2_with fail
            obtain ⟨P, hP⟩ : ∃ P, 12 + R = P := ⟨_, rfl⟩
            have HP := Lib.hid hP
            clear hP
            go_loopw [78] (fun i wr => ∃ (q : Nat) (s : Cd.St), q ≤ k ∧ i = .int .i64 q ∧ Cd.RS (Cd.pieces raw (ws.drop q) ++ Cd.enc 7) (m - q * P) s ∧ Rdr wr wo.heap.size g g s ∧ Below wo.heap.size wo wr) (fun i _ => k - (intOf i).toNat)
            case atStart => exact ⟨0, some (S.take m), Nat.zero_le _, rfl, by rw [List.drop_zero, HS.out, Nat.zero_mul]; exact .inl rfl, HR3.out, hB3⟩
            case round =>
              obtain ⟨q, s, hq, rfl, hrs, hrd, hbq⟩ := hrel
              have HRS := Lib.hid hrs
              have HRD := Lib.hid hrd
              clear hrs hrd
              by_cases hltq : q < k
              · have hqk : (q : Int) < (k : Int) := by omega
                obtain ⟨gu, rfl, hcu0⟩ := HIo.out.cell (k := q) (by rw [HK.out]; exact hltq)
                rw [Nat.zero_add] at hcu0
                have hcu1 := cell_later hbq hcu0
                obtain ⟨x, hx⟩ : ∃ x, ws.getD q 0 = x := ⟨_, rfl⟩
                rw [hx] at hcu1
                have HX := Lib.hid hx
                clear hx hcu0
                have hx32 : x < 4294967296 := by
                  rw [← HX.out, ← HW.out, masks_at (by rw [HW.out, HK.out]; exact hltq)]
                  exact (and_low32 _).1
                have hrs := HRS.out
                rw [drop_cons_pieces raw ws q (by rw [HK.out]; exact hltq), HX.out] at hrs
                have ht : Cd.pieces raw (ws.drop (q + 1)) ++ Cd.enc 7 ≠ [] := by simp [Cd.enc]
                obtain ⟨n1, n2⟩ := Cd.rs_num hrs (by omega) (show (x : Int) ≤ 1099511627776 by omega) (by simp [Cd.enc])
                obtain ⟨s1, hs1⟩ : ∃ s1, Cd.numS s 1099511627776 = s1 := ⟨_, rfl⟩
                rw [hs1] at n1 n2
                obtain ⟨b1, b2⟩ := Cd.rs_bytes n1 (by rw [HRL.out]; omega) (show (raw.length : Int) ≤ 100 by rw [HRL.out]; omega) ht
                have hm' : m - q * P - 6 - 6 - raw.length = m - (q + 1) * P := by
                  have := HP.out
                  rw [HRL.out, Nat.succ_mul]
                  omega
                rw [hm'] at b1
                obtain ⟨s2, hs2⟩ : ∃ s2, Cd.bytesS s1 100 = s2 := ⟨_, rfl⟩
                rw [hs2] at b1 b2
                obtain ⟨nn, hnn⟩ : ∃ nn : Int, ((Cd.numN s 1099511627776 : Nat) : Int) = nn := ⟨_, rfl⟩
                obtain ⟨y, hy⟩ : ∃ y, Cd.bytesL s1 100 = y := ⟨_, rfl⟩
                have hok : s2.isSome = true → nn = (x : Int) ∧ y = raw := by
                  intro h2
                  have h1 : s1.isSome = true := by
                    rcases s1 with _ | r1
                    · rw [show Cd.bytesS none 100 = none from rfl] at hs2
                      subst hs2
                      cases h2
                    · rfl
                  exact ⟨by rw [← hnn, n2 h1], by rw [← hy]; exact b2 h2⟩
                have HOK := Lib.hid hok
                have HB1 := Lib.hid b1
                have HS1 := Lib.hid hs1
                have HS2 := Lib.hid hs2
                have HNN := Lib.hid hnn
                have HY := Lib.hid hy
                have hBr : Below w.heap.size w wr := hBo.trans (hbq.mono hBo.size)
                have hwg : wo.heap.size ≤ wr.heap.size := hbq.size
                clear hok b1 b2 n1 n2 hs1 hs2 hnn hy hrs ht hm'
                go_wp2_with fail
                refine (rnum_is _ _ g s s1 _ nn _ HRD.out HS1.out HNN.out).mono ?_
                rintro e w4 ⟨rfl, hr4, hg4⟩
                have HR4 := Lib.hid hr4
                have hb4 : Below wo.heap.size wo w4 := hbq.trans (Below.ofGrown hg4 hg1 hwg)
                clear hr4
                go_wp2_with fail
                refine (rbytes_is _ _ g s1 s2 100 y _ HR4.out HS2.out HY.out).mono ?_
                rintro e w5 ⟨vy, rfl, hoy, hr5, hg5⟩
                have HR5 := Lib.hid hr5
                have hb5 : Below wo.heap.size wo w5 := hb4.trans (Below.ofGrown hg5 hg1 hb4.size)
                have hB5 : Below w.heap.size w w5 := hBo.trans (hb5.mono hBo.size)
                have kt1 := run_text hoy.bytes
                have kt2 := run_text (HR.out.under hB5)
                clear hr5 hoy hg4 hg5 hb4 hbq
                rcases s2 with _ | r2
                · go_wp2_with fail
                  refine (ok_is _ _ g _ false _ HR5.out rfl).mono ?_
                  rintro e w' ⟨rfl, rfl⟩
                  go_wp2
                  go_roundw
                  case rel => exact ⟨q + 1, none, by omega, by go_num, HB1.out, HR5.out, hb5⟩
                  case measure => simp [intOf]; omega
                · obtain ⟨rfl, rfl⟩ := HOK.out rfl
                  go_wp2_with fail
                  refine (ok_is _ _ g _ true _ HR5.out rfl).mono ?_
                  rintro e w' ⟨rfl, rfl⟩
                  go_wp2
                  go_roundw
                  case rel => exact ⟨q + 1, some r2, by omega, by go_num, HB1.out, HR5.out, hb5⟩
                  case measure => simp [intOf]; omega
              · obtain rfl : q = k := by omega
                have hrs := HRS.out
                rw [List.drop_of_length_le (by rw [HK.out]; exact Nat.le_refl _), show Cd.pieces raw [] = [] from rfl, List.nil_append] at hrs
                obtain ⟨l1, l2⟩ := Cd.rs_last hrs
                have hqk : ¬ (q : Int) < (q : Int) := by omega
                have hwg : wo.heap.size ≤ wr.heap.size := hbq.size
                have hMm := HMk.out
                rw [HP.out] at hMm
                rcases hM3.out with hmM | hmM
                · obtain ⟨e1, e2⟩ := l1 (by omega)
                  have E1 := Lib.hid e1
                  have E2 := Lib.hid (show ((Cd.numN s 7 : Nat) : Int) = 7 by rw [e2]; rfl)
                  subst hmM
                  clear l1 l2 e1 e2 hrs hMm
                  go_wp2_with fail
                  refine (rnum_is _ _ g s _ 7 7 _ HRD.out E1.out E2.out).mono ?_
                  rintro e w4 ⟨rfl, hr4, hg4⟩
                  have HR4 := Lib.hid hr4
                  have hb4 : Below wo.heap.size wo w4 := hbq.trans (Below.ofGrown hg4 hg1 hwg)
                  have hbz : Below wa.heap.size wa w4 := hb.trans (hb4.mono hb.size)
                  clear hr4 hg4 hbq
                  go_wp2_with (go_at_call 9; ((with_reducible refine (end_is _ _ g (some []) true _ HR4.out rfl).mono ?_); rintro e w' ⟨rfl, rfl⟩))
                  go_roundw
                  case rel => first | exact ⟨j + 1, by omega, by go_num, hbz⟩ | ((repeat apply Exists.intro); exact ⟨⟨j + 1, by omega, by go_num, hbz⟩, rfl⟩)
                  case measure => simp [intOf]; omega
                · obtain ⟨e1, e2⟩ := l2 (by omega)
                  have E1 := Lib.hid e1
                  have E2 := Lib.hid (show ((Cd.numN s 7 : Nat) : Int) = 0 by rw [e2]; rfl)
                  have hne : ((m : Int) == (M : Int)) = false := by simp; omega
                  clear l1 l2 e1 e2 hrs hMm
                  go_wp2_with fail
                  refine (rnum_is _ _ g s _ 7 0 _ HRD.out E1.out E2.out).mono ?_
                  rintro e w4 ⟨rfl, hr4, hg4⟩
                  have HR4 := Lib.hid hr4
                  have hb4 : Below wo.heap.size wo w4 := hbq.trans (Below.ofGrown hg4 hg1 hwg)
                  have hbz : Below wa.heap.size wa w4 := hb.trans (hb4.mono hb.size)
                  clear hr4 hg4 hbq
                  go_wp2_with (first | (go_at_call 9; ((with_reducible refine (end_is _ _ g none false _ HR4.out rfl).mono ?_); rintro e w' ⟨rfl, rfl⟩)) | (go_at_call 10; ((with_reducible refine (ok_is _ _ g none false _ HR4.out rfl).mono ?_); rintro e w' ⟨rfl, rfl⟩)))
                  go_roundw
                  case rel => first | exact ⟨j + 1, by omega, by go_num, hbz⟩ | ((repeat apply Exists.intro); exact ⟨⟨j + 1, by omega, by go_num, hbz⟩, rfl⟩)
                  case measure => simp [intOf]; omega
          · have hj2 : ¬ (j : Int) < 2 := by omega
            go_wp2_with (go_at_call 11; ((with_reducible refine (awake_any _).mono ?_); rintro e w' ⟨rfl, hbw⟩))
            go_ret
            exact ⟨rfl, hBa.trans ((hb.mono hBa.size).trans (hbw.mono (by have := hBa.size; have := hb.size; omega)))⟩

theorem back_any (v0 v1 : Value) (zs : List Int) (raw : List Nat) (cut : Int) (w : World) (hz : Ints w v0 zs) (hr : Bytes w v1 raw) :
    Calls Try.prog 4 #[v0, v1, .int .i64 cut] w fun e w' => e = .returned (.bool true) ∧ Below w.heap.size w w' := by
  rcases Nat.lt_or_ge 100 raw.length with h | h
  · exact back_long v0 v1 raw cut w hr h
  · exact back_short v0 v1 zs raw cut w hz hr h

set_option maxRecDepth 100000 in
theorem back_lifted (os : Os) (started : os.Started) (H : Type) (enc : TypeId × Value → H) :
    ReturnsInHanded {} Try.checked os 4 .any (Rows.codeBackSpec.pre6 enc Try.prog Try.f4 Rows.codeBackRow.domain false) (Rows.codeBackSpec.post enc Try.prog Try.f4 false true false false) := by
  refine returnsInHanded_of_change (C := Try.checked) own started (by kernel_rfl) Try.func4
    (ChangeSpec.witness6 (enc := enc) (C := Try.checked) false ⟨#[], #[.slice none 0 0, .slice none 0 0, .int .i64 0], []⟩ 8 (by kernel_rfl) (by kernel_rfl) (by kernel_rfl) (by kernel_rfl)) ?_
  intro W base args ds gs before hval hW _ _
  have hW' := hW
  obtain ⟨p, q, hA, hV, _, _, _⟩ := hW
  rw [show Try.f4.params.toList = [31, 26, 3] from by kernel_rfl] at hA
  obtain ⟨v0, v1, v2, d0, d1, d2, p0, p1, p2, rfl, rfl, rfl, h0, h1, h2⟩ := trodAll_three hA
  obtain ⟨zs, hz⟩ := open_introw (hval 0 31 v0 (by kernel_rfl) rfl) h0
  obtain ⟨raw, hr⟩ := open_bytes (hval 1 26 v1 (by kernel_rfl) rfl) h1
  obtain ⟨a, rfl, rfl, rfl, _⟩ := open_int Try.underlying3 (hval 2 3 v2 (by kernel_rfl) rfl) h2
  refine (back_any v0 v1 zs raw a W hz hr).mono fun e W' ⟨he, hb⟩ => ⟨_, he, ?_⟩
  exact law_post laidOut (by kernel_rfl) (by kernel_rfl) Try.underlying4 rfl hW' (by simp [Rows.codeBackSpec]) hb

theorem back_holds : Rows.CodeBackSaid :=
  OpenClaim.holds_of_wide 4 Try.f4 rfl rfl rfl rfl rfl rfl rfl ⟨rfl, rfl, rfl, rfl, rfl⟩ rfl rfl rfl rfl rfl (by kernel_rfl) Try.func4 (by kernel_rfl)
    (of_decide_eq_true (by kernel_rfl)) (by unfold Func.isWrapper; first | (rw [if_pos (by decide +kernel)]; kernel_rfl) | (rw [if_neg (by decide +kernel)]; exact ⟨rfl, rfl⟩))
    (fun os started H enc _ => back_lifted os started H enc)

#print axioms back_holds
end Go.Proofs.Ytgfhfmpcdmcplaa
