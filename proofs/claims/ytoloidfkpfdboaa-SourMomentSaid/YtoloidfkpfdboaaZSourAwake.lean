/- What layer 15's statements ask beside: the known answers of package sour. -/
import Derived.Test.YtoloidfkpfdboaaZSourRaw
namespace Go.Proofs.Ytoloidfkpfdboaa
set_option maxRecDepth 100000
open Go.ChangeShapes Go.WideShapes Go.ChangeAt Go.RowKit Go.ChangeMaps
open Sf
namespace Sr
def awA : List Nat := Ar.make [112] [118]
theorem awA_len : awA.length = 24 := by rw [awA, Ar.make_length]; rfl
theorem awA_val : value made [97] awA = some [118] := by
  unfold value awA
  rw [show made [97] = true from rfl]
  simp [Ar.opn_make [112] [118] (by simp) (by simp)]
theorem aw_file (t : List Nat) (h : t = [115] ∨ t = [97] ∨ t = [122, 122]) : Nm.file t = true := by
  rcases h with rfl | rfl | rfl <;> decide +kernel
def awX (v : List (List Nat)) (k : List Nat) (a n : Nat) : R := ⟨[[115], [97]], v, k, a, n⟩
theorem aw_x {s : S} (h1 : Sf.get s.l [115] = some ⟨[115], [120], 1⟩) (h2 : Sf.get s.l [97] = some ⟨[97], awA, 2⟩) :
    step made s (awX [] [] 0 0) = (awX [[120]] [1] 0 0, 0) ∧ step made s (awX [[120]] [1] 0 0) = (awX [[120], [118]] [1, 2] 0 0, 0) ∧
    step made s (awX [[120], [118]] [1, 2] 0 0) = (awX [[120], [118]] [1, 2] 1 0, 0) ∧ step made s (awX [[120], [118]] [1, 2] 1 0) = (awX [[120], [118]] [1, 2] 2 1, 1) := by
  refine ⟨step_read (v := [120]) rfl (by decide) rfl (aw_file _ (.inl rfl)) h1 rfl (by decide), step_read (v := [118]) rfl (by decide) rfl (aw_file _ (.inr (.inl rfl))) h2 awA_val (by decide), ?_, ?_⟩
  · exact step_ask rfl rfl (by decide) (sstamp_some h1)
  · exact step_ask rfl rfl (by decide) (sstamp_some h2)
def awY (v : List (List Nat)) (k : List Nat) (n : Nat) : R := ⟨[[115], [122, 122]], v, k, 0, n⟩
theorem aw_y {s : S} (h1 : Sf.get s.l [115] = some ⟨[115], [120], 1⟩) (h2 : Sf.get s.l [122, 122] = none) :
    step made s (awY [] [] 0) = (awY [[120]] [1] 0, 0) ∧ step made s (awY [[120]] [1] 0) = (awY [] [] 2, 2) :=
  ⟨step_read (v := [120]) rfl (by decide) rfl (aw_file _ (.inl rfl)) h1 rfl (by decide), step_none rfl (by decide) rfl (aw_file _ (.inr (.inr rfl))) h2⟩
end Sr
theorem nice_lit (t : List Nat) (h1 : t.all (fun c => decide (c < 256)) = true) (h2 : t.length ≤ 1048576) : Nice t := ⟨fun c hc => by
  have := List.all_eq_true.1 h1 c hc
  simpa using this, h2⟩
set_option maxRecDepth 100000 in
set_option maxHeartbeats 8000000 in
theorem srawake_any (w : World) : Calls Try.prog 15 #[] w fun e w' => e = .returned (.bool true) ∧ Below w.heap.size w w' := by
  have kc := fun (w : World) (C : Array Value) (n c : Nat) => Lib.run_convert_bytes_const (P := Try.prog) w 25 5 C n c Try.underlying25 Try.underlying5
  have kc2 := fun (w : World) (O : Obj) (C : Array Value) (n c : Nat) => aconvert_second (P := Try.prog) w O 25 5 C n c Try.underlying25 Try.underlying5
  have ks : ({ data := #[115] } : ByteArray) = str [115] := rfl
  have ka : ({ data := #[97] } : ByteArray) = str [97] := rfl
  have HF := Lib.hid (fun t h => Sr.aw_file t h)
  go_enter Try.func15, Try.ntmps15
  go_wp2_with fail
  refine (fs_new 1000 w).mono ?_
  rintro e w1 ⟨p, rfl, h1⟩
  have H1 : Hid (Fk (fun _ => False) w w1 p (new 1000)) := Lib.hid h1.keep
  clear h1
  go_wp2_with fail
  refine (fk_put [115] [120] _ (H1.out.alloc _) (nice_lit _ rfl (by decide)) (bytes_new w1 _ rfl [120] _ _ (by simp) (by simp)) (by decide) (by decide)).mono ?_
  rw [Sr.sput_ok [115] [120] (HF.out _ (.inl rfl)) (by decide)]
  rintro e w2 ⟨rfl, h2, -⟩
  have H2 := Lib.hid h2
  have hu2 : used (wr (new 1000) [115] [120]).l ≤ 1 := Sr.sused_wr (good_new 1000).1 _ _
  have HU2 := Lib.hid hu2
  clear h2 H1 hu2
  go_wp2_with fail
  refine (refamake_is _ _ [112] [118] Sr.awA _ ((bytes_new w2 _ rfl [112] _ _ (by decide) (by decide)).alloc _) (bytes_new _ _ (by simp) [118] _ _ (by decide) (by decide)) (by decide) (by decide) rfl).mono ?_
  rintro e w3 ⟨v3, rfl, ho3, hb3⟩
  have H3 := Lib.hid (((H2.out.alloc _).alloc _).under hb3)
  have HO3 := Lib.hid ho3.bytes
  clear ho3 hb3 H2
  go_wp2_with fail
  refine (fk_put [97] Sr.awA _ H3.out (nice_lit _ rfl (by decide)) HO3.out (by decide) (by have := HU2.out; rw [Sr.awA_len]; omega)).mono ?_
  rw [Sr.sput_ok [97] Sr.awA (HF.out _ (.inr (.inl rfl))) (by have := HU2.out; rw [Sr.awA_len]; show _ ≤ (1000 : Int); omega)]
  rintro e w4 ⟨rfl, h4, -⟩
  obtain ⟨s, hs⟩ : ∃ s, wr (wr (new 1000) [115] [120]) [97] Sr.awA = s := ⟨_, rfl⟩
  have hu4 : used s.l ≤ 25 := by
    rw [← hs]
    have := Sr.sused_wr (s := wr (new 1000) [115] [120]) (good_wr (good_new 1000) (by decide) (by decide)).1 [97] Sr.awA
    rw [Sr.awA_len] at this
    have := HU2.out
    omega
  have HGS : Hid (Sf.get s.l [115] = some ⟨[115], [120], 1⟩) := Lib.hid (by rw [← hs, Sr.sget_wr, if_neg (by decide), Sr.sget_wr, if_pos rfl]; rfl)
  have HGA : Hid (Sf.get s.l [97] = some ⟨[97], Sr.awA, 2⟩) := Lib.hid (by rw [← hs, Sr.sget_wr, if_pos rfl]; rfl)
  have HGZ : Hid (Sf.get s.l [122, 122] = none) := Lib.hid (by rw [← hs, Sr.sget_wr, if_neg (by decide), Sr.sget_wr, if_neg (by decide)]; rfl)
  rw [hs] at h4
  have H4 := Lib.hid h4
  have HU4 := Lib.hid hu4
  clear h4 hs hu4 HU2 H3 HO3
  have kz : ({ data := #[122, 122] } : ByteArray) = str [122, 122] := rfl
  have HX := Lib.hid (Sr.aw_x HGS.out HGA.out)
  have HY := Lib.hid (Sr.aw_y HGS.out HGZ.out)
  have HM := Lib.hid (fun W => srmade_is W)
  clear HGS HGA HGZ HF
  go_wp2_with fail
  refine (srnew_raw (L := [[115], [97]]) _ (srT_two w4 [115] [97] 9) (by simp) _ _ _).mono ?_
  rintro e w5 ⟨gx, nx, rfl, hx5, hb5⟩
  have HB5 : Hid (Below w4.heap.size w4 w5) := Lib.hid (((Below.refl _ _).alloc (Nat.le_refl _) _).trans (hb5.mono (by simp)))
  have HX5 : Hid (SrRaw w5 w4.heap.size gx (.func (.func 10) #[] #[]) nx [[115], [97]]) := Lib.hid (hx5.more (by simp))
  clear hx5 hb5
  go_wp2_with fail
  refine (srnew_raw (L := [[115], [122, 122]]) _ (srT_two w5 [115] [122, 122] 9) (by simp) _ _ _).mono ?_
  rintro e w6 ⟨gy, ny, rfl, hy6, hb6⟩
  have hb6' : Below w5.heap.size w5 w6 := ((Below.refl _ _).alloc (Nat.le_refl _) _).trans (hb6.mono (by simp))
  have HY6 : Hid (SrRaw w6 w5.heap.size gy (.func (.func 10) #[] #[]) ny [[115], [122, 122]]) := Lib.hid (hy6.more (by simp))
  have HX6 := Lib.hid (HX5.out.under hb6')
  have HXL : Hid (gx < w5.heap.size ∧ ∀ k, nx.ownBlock = some k → k < w5.heap.size) := Lib.hid ⟨HX5.out.size, fun k hk => (HX5.out.2.1.lt k hk).2⟩
  have HB6 := Lib.hid (HB5.out.trans (hb6'.mono HB5.out.size))
  have HZ6 := Lib.hid hb6'.size
  clear hy6 hb6 hb6' HX5
  go_wp2_with fail
  refine (srnew_raw (L := []) _ (srT_none w6) (by simp) _ _ _).mono ?_
  rintro e w7 ⟨gz, nz, rfl, hz7, hb7⟩
  have HB7 := Lib.hid (HB6.out.trans (hb7.mono HB6.out.size))
  have HY7 := Lib.hid (HY6.out.under hb7)
  have HX7 := Lib.hid (HX6.out.under hb7)
  have HZ7 := Lib.hid hz7
  have HYL : Hid (gy < w6.heap.size ∧ (∀ k, ny.ownBlock = some k → k < w6.heap.size) ∧ w6.heap.size ≤ w7.heap.size) := Lib.hid ⟨HY6.out.size, fun k hk => (HY6.out.2.1.lt k hk).2, hb7.size⟩
  clear hz7 hb7 HX6 HY6 HB5
  obtain ⟨KX, hKX⟩ : ∃ KX : Nat → Prop, (fun k => (w4.heap.size ≤ k ∧ k < w7.heap.size) ∧ nx.ownBlock ≠ some k) = KX := ⟨_, rfl⟩
  have HX8 : Hid (SrAt KX w w7 p gx s (.func (.func 10) #[] #[]) (Sr.awX [] [] 0 0)) := Lib.hid (by
    have hb := H4.out.fs.below.size
    refine (HX7.out.more hb).at ?_ (fun k hk => ?_) (by simp) (by simp)
    · refine (H4.out.since HB7.out).less _ fun k hk => .inr ?_
      rcases hk with hk | hk
      · rw [← hKX] at hk
        exact hk.1
      · have := HX7.out.2.1.lt k hk
        exact ⟨this.1, this.2⟩
    · rw [← hKX]
      exact fun h => h.2 hk)
  have HKX : Hid (KX gx ∧ KX gy ∧ KX gz ∧ (∀ k, ny.ownBlock = some k → KX k) ∧ ∀ k, nz.ownBlock = some k → KX k) := Lib.hid (by
    have h1 := HXL.out
    have h2 := HYL.out
    have h3 := HZ6.out
    have hz := HZ7.out.size
    have hzb := HZ7.out.2.2
    have hy := HY7.out.2.2
    have hx := HX7.out.2.2
    rw [← hKX]
    refine ⟨⟨⟨hx, by omega⟩, HX7.out.apart⟩, ⟨⟨by have := HB6.out.size; have := HXL.out.1; omega, by omega⟩, fun e => ?_⟩, ⟨⟨by omega, hz⟩, fun e => ?_⟩, fun k hk => ⟨⟨?_, ?_⟩, fun e => ?_⟩, fun k hk => ⟨⟨?_, ?_⟩, fun e => ?_⟩⟩
    · have := h1.2 _ e
      omega
    · have := h1.2 _ e
      omega
    · have := HY7.out.2.1.lt k hk
      have := HX7.out.2.2
      omega
    · exact (HY7.out.2.1.lt k hk).2
    · have := h1.2 _ e
      have := (HY7.out.2.1.lt k hk).1
      omega
    · have := (HZ7.out.2.1.lt k hk).1
      omega
    · exact (HZ7.out.2.1.lt k hk).2
    · have := h1.2 _ e
      have := (HZ7.out.2.1.lt k hk).1
      omega)
  have HNE : Hid (gx ≠ gy ∧ gx ≠ gz ∧ gy ≠ gz ∧ (∀ k, ny.ownBlock = some k → k ≠ gx ∧ k ≠ gy ∧ k ≠ gz) ∧ (∀ k, nz.ownBlock = some k → k ≠ gx ∧ k ≠ gy ∧ k ≠ gz ∧ ny.ownBlock ≠ some k) ∧ w6.heap.size ≤ w7.heap.size ∧ ∀ k, ny.ownBlock = some k → k < w6.heap.size) := Lib.hid (by
    have h1 := HXL.out.1
    have h2 := HYL.out
    have h3 := HZ6.out
    have hzb := HZ7.out.2.2
    have hy := HY7.out.2.2
    refine ⟨by omega, by omega, by omega, fun k hk => ?_, fun k hk => ?_, h2.2.2, h2.2.1⟩
    · have := (HY7.out.2.1.lt k hk).1
      have := h2.2.1 k hk
      exact ⟨by omega, fun e => HY7.out.apart (by rw [hk, e]), by omega⟩
    · have := (HZ7.out.2.1.lt k hk).1
      exact ⟨by omega, by omega, fun e => HZ7.out.apart (by rw [hk, e]), fun e => by have := h2.2.1 k e; omega⟩)
  have HG0 : Hid (w.heap.size ≤ gx ∧ w.heap.size ≤ gy ∧ w.heap.size ≤ gz) := Lib.hid (by
    have hb := H4.out.fs.below.size
    have := HX7.out.2.2
    have := HY7.out.2.2
    have := HZ7.out.2.2
    have := HXL.out.1
    have := HZ6.out
    omega)
  have HW5 : Hid (w.heap.size ≤ w5.heap.size) := Lib.hid (Nat.le_trans HG0.out.1 (Nat.le_of_lt HXL.out.1))
  have HW6 : Hid (w.heap.size ≤ w6.heap.size) := Lib.hid (Nat.le_trans HW5.out HZ6.out)
  clear hKX HX7 H4 HB6 HZ6
  go_wp2_with fail
  refine (srstep_any HX8.out (Sr.here_begin _) HKX.out.1 HG0.out.1 (HM.out _) (by have := HU4.out; omega)).mono ?_
  rw [HX.out.1]
  rintro e w8 ⟨rfl, hx8, hk8⟩
  have HX9 := Lib.hid hx8
  have HK8 := Lib.hid hk8
  clear hx8 hk8 HX8 HXL HYL
  go_wp2_with fail
  refine (srstep_any HX9.out (Sr.here_at (by decide)) HKX.out.1 HG0.out.1 (HM.out _) (by have := HU4.out; omega)).mono ?_
  rw [HX.out.2.1]
  rintro e w9 ⟨rfl, hx8, hk8⟩
  have HX10 := Lib.hid hx8
  have HK9 := Lib.hid (HK8.out.trans hk8)
  clear hx8 hk8 HX9 HK8
  go_wp2_with fail
  refine (srstep_any HX10.out (Sr.here_at (by decide)) HKX.out.1 HG0.out.1 (HM.out _) (by have := HU4.out; omega)).mono ?_
  rw [HX.out.2.2.1]
  rintro e w10 ⟨rfl, hx8, hk8⟩
  have HX11 := Lib.hid hx8
  have HK10 := Lib.hid (HK9.out.trans hk8)
  clear hx8 hk8 HX10 HK9
  go_wp2_with fail
  refine (srstep_any HX11.out (Sr.here_at (by decide)) HKX.out.1 HG0.out.1 (HM.out _) (by have := HU4.out; omega)).mono ?_
  rw [HX.out.2.2.2]
  rintro e w11 ⟨rfl, hx8, hk8⟩
  have HX12 := Lib.hid hx8
  have HX12lt : Hid (gy < w11.heap.size) := Lib.hid (hx8.fk.lt HKX.out.2.1)
  have hk11 := HK10.out.trans hk8
  have HY11 : Hid (SrRaw w11 w5.heap.size gy (.func (.func 10) #[] #[]) ny [[115], [122, 122]]) := Lib.hid (HY7.out.kept hk11 ⟨HKX.out.2.1, HNE.out.1.symm⟩ fun k hk => ⟨HKX.out.2.2.2.1 k hk, (HNE.out.2.2.2.1 k hk).1⟩)
  have HZ11 : Hid (SrRaw w11 w6.heap.size gz (.func (.func 10) #[] #[]) nz []) := Lib.hid (HZ7.out.kept hk11 ⟨HKX.out.2.2.1, HNE.out.2.1.symm⟩ fun k hk => ⟨HKX.out.2.2.2.2 k hk, (HNE.out.2.2.2.2.1 k hk).1⟩)
  have HSZ : Hid (w6.heap.size ≤ w11.heap.size) := Lib.hid (Nat.le_trans HNE.out.2.2.2.2.2.1 hk11.1)
  clear hx8 hk8 hk11 HX11 HK10 HY7 HZ7 HX
  go_wp2_with fail
  refine (srvalues_any HX12.out rfl).mono ?_
  rintro e w12 ⟨v12, us12, rfl, ho12, hb12⟩
  obtain ⟨A12, c12, rfl⟩ := ownRx_sl ho12
  obtain ⟨⟨X1, vn1, vv1, vs1, us1, hx1⟩, okx⟩ := HX12.out.grow (K' := fun k => KX k ∨ (w11.heap.size ≤ k ∧ k < w12.heap.size)) hb12 fun _ hk => hk
  have HX13 := Lib.hid hx1
  have HOKX := Lib.hid okx
  have HV12 := Lib.hid ho12
  have HY12 := Lib.hid (HY11.out.under hb12)
  have HZ12 := Lib.hid (HZ11.out.under hb12)
  clear hx1 okx ho12 hb12 HX12 HY11 HZ11
  obtain ⟨KY, hKY⟩ : ∃ KY : Nat → Prop, (fun k => ((KX k ∨ (w11.heap.size ≤ k ∧ k < w12.heap.size)) ∨ X1 k) ∧ ny.ownBlock ≠ some k) = KY := ⟨_, rfl⟩
  have HNYX : Hid (∀ k, ny.ownBlock = some k → ¬ X1 k) := Lib.hid fun k hk hx => HX13.out.xk k hx (.inl (HKX.out.2.2.2.1 k hk))
  have HKYX : Hid (KY gx ∧ (∀ k, X1 k → KY k ∧ k ≠ gy) ∧ KY gy ∧ KY gz ∧ (∀ k, nz.ownBlock = some k → KY k) ∧ ∀ k, w11.heap.size ≤ k → k < w12.heap.size → KY k ∧ k ≠ gy) := Lib.hid (by
    rw [← hKY]
    refine ⟨⟨.inl (.inl HKX.out.1), fun e => (HNE.out.2.2.2.1 _ e).1 rfl⟩, fun k hk => ⟨⟨.inr hk, fun e => HNYX.out k e hk⟩, fun e => HX13.out.xk k hk (.inl (e ▸ HKX.out.2.1))⟩, ⟨.inl (.inl HKX.out.2.1), fun e => (HNE.out.2.2.2.1 _ e).2.1 rfl⟩, ⟨.inl (.inl HKX.out.2.2.1), fun e => (HNE.out.2.2.2.1 _ e).2.2 rfl⟩, fun k hk => ⟨.inl (.inl (HKX.out.2.2.2.2 k hk)), (HNE.out.2.2.2.2.1 k hk).2.2.2⟩, fun k h1 h2 => ⟨⟨.inl (.inr ⟨h1, h2⟩), fun e => ?_⟩, fun e => ?_⟩⟩
    · have := HNE.out.2.2.2.2.2.2 k e
      have := HSZ.out
      omega
    · have := HY12.out.size
      subst e
      have h3 := HX12lt.out
      omega)
  clear HX12lt HNYX
  have HY13 : Hid (SrAt KY w w12 p gy s (.func (.func 10) #[] #[]) (Sr.awY [] [] 0)) := Lib.hid (by
    refine (HY12.out.more (Nat.le_trans ?_ (Nat.le_refl _))).at (HX13.out.fk.less _ fun k hk => ?_) (fun k hk => ?_) (by simp) (by simp)
    · exact HW5.out
    · rcases hk with hk | hk
      · rw [← hKY] at hk
        exact hk.1
      · exact .inl (.inl (HKX.out.2.2.2.1 k hk))
    · rw [← hKY]
      exact fun h => h.2 hk)
  clear hKY HY12
  go_wp2_with fail
  refine (srstep_any HY13.out (Sr.here_begin _) HKYX.out.2.2.1 HG0.out.2.1 (HM.out _) (by have := HU4.out; omega)).mono ?_
  rw [HY.out.1]
  rintro e w13 ⟨rfl, hy8, hk8⟩
  have HY14 := Lib.hid hy8
  have HK13 := Lib.hid hk8
  clear hy8 hk8 HY13
  go_wp2_with fail
  refine (srstep_any HY14.out (Sr.here_at (by decide)) HKYX.out.2.2.1 HG0.out.2.1 (HM.out _) (by have := HU4.out; omega)).mono ?_
  rw [HY.out.2]
  rintro e w14 ⟨rfl, hy8, hk8⟩
  have hk14 := HK13.out.trans hk8
  have HX14 : Hid (SrAt (fun k => k = gx) w w14 p gx s (.func (.func 10) #[] #[]) (Sr.awX [[120], [118]] [1, 2] 2 1)) := Lib.hid (by
    refine (HX13.out.beside (K' := fun k => k = gx) (hy8.fk.less _ fun k hk => ?_) (fun k hk e => ?_) fun k hk => ?_).at HOKX.out
    · rcases hk with hk | hk
      · rw [hk]
        exact HKYX.out.1
      · exact (HKYX.out.2.1 k hk).1
    · exact HX13.out.xk k hk (.inl (e ▸ HKX.out.1))
    · rcases hk with hk | hk
      · exact hk14.2 k (HKYX.out.2.1 k hk)
      · rw [hk]
        exact hk14.2 gx ⟨HKYX.out.1, HNE.out.1⟩)
  have HZ14 : Hid (SrAt (fun k => k = gz) w w14 p gz s (.func (.func 10) #[] #[]) ⟨[], [], [], 0, 0⟩) := Lib.hid (by
    refine ((HZ12.out.kept hk14 ⟨HKYX.out.2.2.2.1, HNE.out.2.2.1.symm⟩ fun k hk => ⟨HKYX.out.2.2.2.2.1 k hk, (HNE.out.2.2.2.2.1 k hk).2.1⟩).more HW6.out).at (hy8.fk.less _ fun k hk => ?_) (fun k hk => (HNE.out.2.2.2.2.1 k hk).2.2.1) (by simp) (by simp)
    rcases hk with hk | hk
    · rw [hk]
      exact HKYX.out.2.2.2.1
    · exact HKYX.out.2.2.2.2.1 k hk)
  have hv14 : OwnRx w14 w11.heap.size (.slice A12 (Sr.awX [[120], [118]] [1, 2] 2 1).vals.length c12) us12 (Sr.awX [[120], [118]] [1, 2] 2 1).vals := HV12.out.blocks (fun k e => hk14.2 k (HKYX.out.2.2.2.2.2 k (World.ownsRow.lt HV12.out.2.1 k e).1 (World.ownsRow.lt HV12.out.2.1 k e).2)) fun u hu k e => by
    obtain ⟨i, hi, rfl⟩ := List.getElem_of_mem hu
    have := HV12.out.2.2.2 i (by rw [← HV12.out.1]; exact hi)
    rw [List.getD_eq_getElem?_getD, List.getElem?_eq_getElem hi] at this
    exact hk14.2 k (HKYX.out.2.2.2.2.2 k (this.lt k e).1 (this.lt k e).2)
  have HV14 : Hid (Rows2 w14 (.slice A12 2 c12) [[120], [118]]) := Lib.hid hv14.ownR.rows
  clear hy8 hk8 hk14 hv14 HY14 HK13 HX13 HV12 HZ12 HOKX HKYX HKX HNE HSZ
  go_wp2_with fail
  obtain ⟨hp15, hb15⟩ := pair_ins w14 [120] [118] (1, 2) (1, 2) 25 (by decide) (by decide) (by decide) (by decide) _ rfl
  refine (samerows_any _ _ [[120], [118]] [[120], [118]] _ (HV14.out.under hb15) hp15).mono ?_
  rw [decide_eq_true rfl]
  rintro e w15 ⟨rfl, m15, hw15⟩
  have HB15 : Hid (Below w14.heap.size w14 w15) := Lib.hid (by
    rw [hw15]
    exact hb15.trans ((sr_drewN _ m15).mono hb15.size))
  clear hw15 hp15 hb15 HV14
  go_wp2_with fail
  refine (srstamps_any (HX14.out.under HB15.out) rfl).mono ?_
  rintro e w16 ⟨v16, rfl, ho16, hb16⟩
  have HB16 := Lib.hid (HB15.out.trans (hb16.mono HB15.out.size))
  have HI16 := Lib.hid ho16.srI
  obtain ⟨A16, c16, rfl⟩ := ownI_sl ho16
  clear ho16 hb16 HB15
  go_wp2_with fail
  refine (srints_any [1, 2] [1, 2] _ _ _ (HI16.out.under ((Below.refl _ _).alloc (Nat.le_refl _) _)) (srI_lit w16 w16.heap.size rfl [1, 2] 2 rfl 3 (0, 0)) (by simp) (by simp)).mono ?_
  rw [decide_eq_true rfl]
  rintro e w17 ⟨rfl, hb17⟩
  have HB17 := Lib.hid (HB16.out.trans ((((Below.refl w16.heap.size w16).alloc (Nat.le_refl _) (.cells #[.int .i64 1, .int .i64 2] 3)).trans (hb17.mono (by simp))).mono HB16.out.size))
  clear hb17 HI16
  go_wp2_with fail
  refine (srstep_any (HZ14.out.under HB17.out) (Sr.here_begin _) rfl HG0.out.2.2 (HM.out _) (by have := HU4.out; omega)).mono ?_
  rw [Sr.step_nil rfl rfl]
  rintro e w18 ⟨rfl, hz18, -⟩
  have HEND := Lib.hid hz18.fk.fs.below
  clear hz18
  go_wp2
  go_ret
  exact ⟨rfl, HEND.out⟩
end Go.Proofs.Ytoloidfkpfdboaa
