/- NameTells: any text is a name, a file, a temp, or none, as the document says; temps and claims have the texts that it says. -/
import Derived.Test.YtpgoofkpcbbhjaaDoorNameAwake
import Derived.Test.YtpgoofkpcbbhjaaDoorInts
import Derived.Deep.RegionHeld3
import Derived.Deep.DeepCutAuto
import Derived.BigQuiet
import Derived.Deep.QuietTactic
import Derived.RegionTactic
import Derived.Deep.RegionWith
namespace Go.Proofs.YtpgoofkpcbbhjaaDoor
open Go.ChangeShapes Go.WideShapes Go.ChangeAt Go.RowKit

set_option maxRecDepth 100000 in
set_option maxHeartbeats 2000000 in
theorem tells_long (v0 v1 v2 v3 v4 : Value) (raw : List Nat) (w : World) (hT : Tabs w) (hr : Bytes w v0 raw) (hl : 60 < raw.length) :
    Calls Tryd.prog 5 #[v0, v1, v2, v3, v4] w fun e w' => e = .returned (.bool true) ∧ Below w.heap.size w w' := by
  obtain ⟨_, hm, A, c, rfl, hc, _⟩ := hr.parts
  have h4 : (60 : Int) < (raw.length : Int) := by omega
  have HT := Lib.hid hT
  clear hr hT
  go_enter Tryd.func5, Tryd.ntmps5
  go_wp2_with (go_at_call 9; refine (awake_any _ HT.out).mono ?_; rintro e w' ⟨rfl, hbw⟩)
  go_ret
  exact ⟨rfl, hbw⟩

/-- The pieces of which a text is made. -/
def pieces : List (List Nat) := [[97], [116, 109, 112], [47], [46], [48], [55], [49, 50], [57, 57, 57, 57, 57], [49, 48, 48, 48, 48, 48], [45], [95], [65], [108, 111, 99, 107], [99, 108, 97, 105, 109], [120, 46, 111], [32]]
theorem piece_fits (m : Nat) : (∀ c ∈ pieces.getD m [], c < 256) ∧ (pieces.getD m []).length ≤ 6 := by
  rcases Nat.lt_or_ge m 16 with h | h
  · have hd : ∀ m, m < 16 → (∀ c ∈ pieces.getD m [], c < 256) ∧ (pieces.getD m []).length ≤ 6 := by decide
    exact hd m h
  · have e : pieces.getD m [] = [] := by
      rw [List.getD_eq_getElem?_getD, List.getElem?_eq_none (by simpa [pieces] using h)]
      rfl
    rw [e]
    exact ⟨by simp, by simp⟩
theorem and_low15 (a : Int) : ∃ m : Nat, m < 16 ∧ bits .and .i64 a 15 = (m : Int) := by
  have h : bits .and .i64 a 15 = IntKind.i64.wrap ((BitVec.ofInt 64 a &&& BitVec.ofInt 64 15).toNat : Int) := rfl
  have hx : (BitVec.ofInt 64 a &&& BitVec.ofInt 64 15).toNat ≤ 15 := by
    rw [BitVec.toNat_and]
    exact Nat.le_trans Nat.and_le_right (by decide)
  refine ⟨(BitVec.ofInt 64 a &&& BitVec.ofInt 64 15).toNat, by omega, ?_⟩
  rw [h, IntKind.wrap_i64]
  omega
theorem rowT_at (L : List (List Nat)) (k : Nat) (h : k < L.length) : (rowT L).toArray[k]? = some (.string (str (L.getD k []))) := by
  unfold rowT
  rw [List.getElem?_toArray, List.getElem?_map, List.getD_eq_getElem?_getD, List.getElem?_eq_getElem h]
  rfl
/-- Texts that are short, of bytes. -/
def Short (L : List (List Nat)) : Prop := ∀ k, (∀ c ∈ L.getD k [], c < 256) ∧ (L.getD k []).length ≤ 1000

set_option maxRecDepth 100000 in
set_option maxHeartbeats 8000000 in
theorem tells_short (v0 v1 : Value) (raw : List Nat) (zs : List Int) (who inc n : Int) (w : World) (hT : Tabs w) (hr : Bytes w v0 raw) (hz : Ints w v1 zs) (hl : raw.length ≤ 60) :
    Calls Tryd.prog 5 #[v0, v1, .int .i64 who, .int .i64 inc, .int .i64 n] w fun e w' => e = .returned (.bool true) ∧ Below w.heap.size w w' := by
  have HT := Lib.hid hT
  have HR := Lib.hid hr
  have HZ := Lib.hid hz
  obtain ⟨_, _, A0, c0, rfl, hc0, _⟩ := hr.parts
  obtain ⟨_, hzm, A1, c1, rfl, hc1, _⟩ := hz
  clear hr hT
  obtain ⟨R, hR⟩ : ∃ n, raw.length = n := ⟨_, rfl⟩
  obtain ⟨n1, hn1⟩ : ∃ n, zs.length = n := ⟨_, rfl⟩
  rw [hR] at HR hl hc0 ⊢
  rw [hn1] at HZ hzm hc1 ⊢
  have HRL := Lib.hid hR
  have r1 : ¬ (60 : Int) < (R : Int) := by omega
  clear hR hn1
  go_enter Tryd.func5, Tryd.ntmps5
  go_upto_block 0 with fail
  go_cut [12] (fun s wx => ∃ S : List Nat, s = .string (str S) ∧ (∀ c ∈ S, c < 256) ∧ S.length ≤ 48 ∧ Below w.heap.size w wx)
  case first =>
    have hk0 : ({ data := #[] } : ByteArray) = str [] := rfl
    have hblk : Blk (w.alloc (.cells (rowT pieces).toArray 9)) w.heap.size 9 (rowT pieces).toArray := heap_alloc_new w _
    have HBLK := Lib.hid hblk
    clear hblk
    go_wp2_with fail
    go_loopw [12, 13] (fun s i wr => ∃ (k : Nat) (S : List Nat), k ≤ 8 ∧ k ≤ n1 ∧ i = .int .i64 k ∧ s = .string (str S) ∧ Hid ((∀ c ∈ S, c < 256) ∧ S.length ≤ 6 * k) ∧ Blk wr w.heap.size 9 (rowT pieces).toArray ∧ Below w.heap.size w wr) (fun _ i _ => 8 - (intOf i).toNat)
    case atStart => exact ⟨0, [], by omega, by omega, rfl, rfl, Lib.hid ⟨by simp, by simp⟩, HBLK.out, (Below.refl _ _).alloc (Nat.le_refl _) _⟩
    case round =>
      obtain ⟨k, S, hk, hkn, rfl, rfl, hS, hB, hb⟩ := hrel
      by_cases hgo : k < n1 ∧ k < 8
      · obtain ⟨g1, g2⟩ := hgo
        have c1' : (k : Int) < (n1 : Int) := by omega
        have c2' : (k : Int) < 8 := by omega
        obtain ⟨b, off, rfl, hcz⟩ := (HZ.out.under hb).at g1
        obtain ⟨z, hz⟩ : ∃ z, zs.getD k 0 = z := ⟨_, rfl⟩
        rw [hz] at hcz
        obtain ⟨m, hm, hand⟩ := and_low15 z
        have hm16 : (m : Int) < 16 := by omega
        have hct : wr.cell? ⟨w.heap.size, m, none⟩ = some (.string (str (pieces.getD m []))) := (hB.at m).trans (rowT_at pieces m (by simpa [pieces] using hm))
        obtain ⟨X, hX⟩ : ∃ X, pieces.getD m [] = X := ⟨_, rfl⟩
        have hfit := piece_fits m
        rw [hX] at hct hfit
        have hf := str_fits (l := S) (m := X) (by have := hS.out.2; omega)
        have hadd := str_add S X
        have HS2 : Hid ((∀ c ∈ S ++ X, c < 256) ∧ (S ++ X).length ≤ 6 * (k + 1)) := Lib.hid ⟨fun c hc => by
          rcases List.mem_append.1 hc with h | h
          · exact hS.out.1 c h
          · exact hfit.1 c h, by rw [List.length_append]; have := hS.out.2; have := hfit.2; omega⟩
        clear hX hfit hz hS
        go_wp2
        go_roundw
        case rel => exact ⟨k + 1, S ++ X, by omega, by omega, by go_num, rfl, HS2, hB, hb⟩
        case measure => simp [intOf]; omega
      · have hstop : ((n1 : Int) ≤ (k : Int)) ∨ ((k : Int) < (n1 : Int) ∧ (8 : Int) ≤ (k : Int)) := by omega
        have hS48 : S.length ≤ 48 := by have := hS.out.2; omega
        have hSb := hS.out.1
        have HSS := Lib.hid hSb
        clear hgo hS hSb
        rcases hstop with hs | ⟨hs1, hs2⟩
        all_goals
          go_wp2_with fail
          go_meet
          exact ⟨S, rfl, HSS.out, hS48, hb⟩
  case rest =>
    obtain ⟨S, rfl, hSb, hSl, hb⟩ := hcut
    obtain ⟨wx, rfl⟩ : ∃ wx : World, wx = wc := ⟨_, rfl⟩
    have HR2 := Lib.hid (HR.out.under hb)
    have HT2 := Lib.hid (HT.out.under hb)
    obtain ⟨T, hTe⟩ : ∃ T, Nm.temp (Nm.held who 999) (Nm.held inc 99999) (Nm.held n 99999) = T := ⟨_, rfl⟩
    have HTB : Hid (∀ c ∈ T, c < 256) := Lib.hid (hTe ▸ Nm.temp_byte _ _ _)
    have HTL : Hid (T.length ≤ 19) := Lib.hid (hTe ▸ Nm.temp_len (Nm.held_le _ _) (Nm.held_le _ _) (Nm.held_le _ _))
    have HTF : Hid (Nm.file T = true) := Lib.hid (hTe ▸ Nm.temp_file (Nm.held_le _ _) (Nm.held_le _ _) (Nm.held_le _ _))
    have tr := fun (W : World) => reftemp_any who inc n W
    have tn := fun (W : World) (h : Tabs W) => temp_any who inc n W h
    simp only [hTe] at tr tn
    have TR := Lib.hid tr
    have TN := Lib.hid tn
    clear hTe tr tn
    obtain ⟨L, hL⟩ : ∃ L : List (List Nat), L = [raw, S, 116 :: 109 :: 112 :: 47 :: S, T, 99 :: 108 :: 97 :: 105 :: 109 :: 47 :: S] := ⟨_, rfl⟩
    have HLL := Lib.hid hL
    have HRB : Hid (∀ c ∈ raw, c < 256) := Lib.hid (by obtain ⟨h, _⟩ := HR.out.parts; exact h)
    have HSB := Lib.hid hSb
    have HSL := Lib.hid hSl
    have k1 : ({ data := #[116, 109, 112, 47] } : ByteArray) = str [116, 109, 112, 47] := rfl
    have k2 : ({ data := #[99, 108, 97, 105, 109, 47] } : ByteArray) = str [99, 108, 97, 105, 109, 47] := rfl
    have hf1 := str_fits (l := [116, 109, 112, 47]) (m := S) (by simp only [List.length_cons, List.length_nil]; omega)
    have hf2 := str_fits (l := [99, 108, 97, 105, 109, 47]) (m := S) (by simp only [List.length_cons, List.length_nil]; omega)
    have ha1 : str [116, 109, 112, 47] ++ str S = str (116 :: 109 :: 112 :: 47 :: S) := str_add _ _
    have ha2 : str [99, 108, 97, 105, 109, 47] ++ str S = str (99 :: 108 :: 97 :: 105 :: 109 :: 47 :: S) := str_add _ _
    clear hSb hSl hL
    go_upto_region 9 with fail
    go_cut [58, 59, 60] (fun s58 s59 s60 wz => ∃ g : Nat, s58 = .slice (some ⟨g, 0, none⟩) 5 5 ∧ s59 = .int .i64 5 ∧ s60 = .int .i64 0 ∧ Blk wz g 9 (rowT L).toArray ∧ Below wx.heap.size wx wz)
    case first =>
      have hcv1 := run_text_at HR2.out wx.drew rfl
      go_region_with (go_at_call 11; refine (TR.out _).mono ?_; rintro e w2 ⟨rfl, hq2⟩; have hcv2 := run_text_at (HR2.out.drew.under hq2) w2 rfl)
      all_goals
        go_wp2_with fail
        go_meet
        exact ⟨w2.heap.size, rfl, rfl, rfl, by rw [HLL.out]; exact heap_alloc_new w2 _, ((Below.refl _ wx).drew.trans (hq2.mono (Nat.le_refl _))).alloc hq2.size _⟩
    case rest =>
      obtain ⟨g, rfl, rfl, rfl, hB, hb2⟩ := hcut
      obtain ⟨wl, rfl⟩ : ∃ wx : World, wx = wc := ⟨_, rfl⟩
      have HSh : Hid (Short L) := Lib.hid (by
        rw [HLL.out]
        have h1 := HSL.out
        have h2 := HTL.out
        have h3 := HRL.out
        intro k
        rcases k with _ | _ | _ | _ | _ | k
        · exact ⟨HRB.out, by show raw.length ≤ 1000; omega⟩
        · exact ⟨HSB.out, by show S.length ≤ 1000; omega⟩
        · refine ⟨fun c hc => ?_, by show (116 :: 109 :: 112 :: 47 :: S).length ≤ 1000; simp only [List.length_cons]; omega⟩
          have hc' : c ∈ 116 :: 109 :: 112 :: 47 :: S := hc
          simp only [List.mem_cons] at hc'
          rcases hc' with rfl | rfl | rfl | rfl | h
          · omega
          · omega
          · omega
          · omega
          · exact HSB.out c h
        · exact ⟨HTB.out, by show T.length ≤ 1000; omega⟩
        · refine ⟨fun c hc => ?_, by show (99 :: 108 :: 97 :: 105 :: 109 :: 47 :: S).length ≤ 1000; simp only [List.length_cons]; omega⟩
          have hc' : c ∈ 99 :: 108 :: 97 :: 105 :: 109 :: 47 :: S := hc
          simp only [List.mem_cons] at hc'
          rcases hc' with rfl | rfl | rfl | rfl | rfl | rfl | h
          · omega
          · omega
          · omega
          · omega
          · omega
          · omega
          · exact HSB.out c h
        · exact ⟨by simp, by simp⟩)
      have HLn : Hid (L.length = 5) := Lib.hid (by rw [HLL.out]; rfl)
      have HBl := Lib.hid (hb.trans (hb2.mono hb.size))
      have HT3 := Lib.hid (HT2.out.under hb2)
      have HBB := Lib.hid hB
      clear hB hb2 hb HR HZ HR2 HT HT2 HRB
      go_wp2_with fail
      go_loopw [60] (fun i wr => ∃ j : Nat, j ≤ 5 ∧ i = .int .i64 j ∧ Below wl.heap.size wl wr) (fun i _ => 5 - (intOf i).toNat)
      case atStart => exact ⟨0, by omega, rfl, Below.refl _ _⟩
      case round =>
        obtain ⟨j, hj, rfl, hbo⟩ := hrel
        by_cases hlt : j < 5
        · have hj5 : (j : Int) < 5 := by omega
          have hc := ((HBB.out.under hbo).at j).trans (rowT_at L j (by rw [HLn.out]; exact hlt))
          have hsh := HSh.out j
          obtain ⟨X, hX⟩ : ∃ X, L.getD j [] = X := ⟨_, rfl⟩
          rw [hX] at hc hsh
          have HX1 := Lib.hid hsh.1
          have HX2 := Lib.hid hsh.2
          clear hX hsh
          go_wp2_with fail
          refine (of_any X wr HX1.out (by have := HX2.out; omega) (HT3.out.under hbo)).mono ?_
          rintro e w3 ⟨rfl, hb3⟩
          have hb4 := hbo.trans (hb3.mono hbo.size)
          clear hb3 hbo hc
          go_wp2_with fail
          refine (refof_any X w3 HX1.out (by have := HX2.out; omega)).mono ?_
          rintro e w4 ⟨rfl, hb3⟩
          have hb5 := hb4.trans (hb3.mono hb4.size)
          clear hb3 hb4
          obtain ⟨p1, hp1⟩ : ∃ p, ((Nm.ofWho X : Nat) : Int) = p := ⟨_, rfl⟩
          obtain ⟨p2, hp2⟩ : ∃ p, ((Nm.ofInc X : Nat) : Int) = p := ⟨_, rfl⟩
          obtain ⟨p3, hp3⟩ : ∃ p, Nm.isOf X = p := ⟨_, rfl⟩
          rw [hp1, hp2, hp3]
          have hn1 : (p1 != p1) = false := bne_self_eq_false p1
          have hn2 : (p2 != p2) = false := bne_self_eq_false p2
          have hn3 : (p3 != p3) = false := bne_self_eq_false p3
          clear hp1 hp2 hp3
          go_wp2_with fail
          refine (ok_any X w4 HX1.out (by have := HX2.out; omega)).mono ?_
          rintro e w5 ⟨rfl, rfl⟩
          obtain ⟨q1, hq1⟩ : ∃ p, Nm.ok X = p := ⟨_, rfl⟩
          have hn4 : (q1 != q1) = false := bne_self_eq_false q1
          have HQ1 := Lib.hid hq1
          rw [hq1]
          clear hq1
          go_wp2_with fail
          refine (refok_any X _ HX1.out (by have := HX2.out; omega)).mono ?_
          rintro e w5 ⟨rfl, rfl⟩
          rw [HQ1.out]
          go_wp2_with fail
          refine (file_any X _ HX1.out (by have := HX2.out; omega) (HT3.out.under hb5)).mono ?_
          rintro e w5 ⟨rfl, hb3⟩
          have hb6 := hb5.trans (hb3.mono hb5.size)
          clear hb3 hb5
          obtain ⟨q2, hq2⟩ : ∃ p, Nm.file X = p := ⟨_, rfl⟩
          have hn5 : (q2 != q2) = false := bne_self_eq_false q2
          have HQ2 := Lib.hid hq2
          rw [hq2]
          clear hq2
          go_wp2_with fail
          refine (reffile_any X _ HX1.out (by have := HX2.out; omega)).mono ?_
          rintro e w6 ⟨rfl, rfl⟩
          rw [HQ2.out]
          go_wp2
          go_roundw
          case rel => exact ⟨j + 1, by omega, by go_num, hb6⟩
          case measure => simp [intOf]; omega
        · obtain rfl : j = 5 := by omega
          have hsame := beq_self_eq_true (str T).toList
          have hsame2 := beq_self_eq_true (str (99 :: 108 :: 97 :: 105 :: 109 :: 47 :: S)).toList
          go_wp2_with fail
          refine (TN.out wr (HT3.out.under hbo)).mono ?_
          rintro e w3 ⟨rfl, hb3⟩
          have hb4 := hbo.trans (hb3.mono hbo.size)
          clear hb3 hbo
          go_wp2_with fail
          refine (TR.out w3).mono ?_
          rintro e w4 ⟨rfl, hb3⟩
          have hb5 := hb4.trans (hb3.mono hb4.size)
          clear hb3 hb4
          go_wp2_with fail
          refine (claim_any S _ HSB.out (by have := HSL.out; omega)).mono ?_
          rintro e w5 ⟨rfl, hb3⟩
          have hb6 := hb5.trans (hb3.mono hb5.size)
          clear hb3 hb5
          rw [show [99, 108, 97, 105, 109, 47] ++ S = 99 :: 108 :: 97 :: 105 :: 109 :: 47 :: S from rfl]
          go_wp2_with fail
          refine (TN.out _ (HT3.out.under hb6)).mono ?_
          rintro e w6 ⟨rfl, hb3⟩
          have hb7 := hb6.trans (hb3.mono hb6.size)
          clear hb3 hb6
          go_wp2_with fail
          refine (file_any T _ HTB.out (by have := HTL.out; omega) (HT3.out.under hb7)).mono ?_
          rintro e w7 ⟨rfl, hb3⟩
          have hb8 := hb7.trans (hb3.mono hb7.size)
          clear hb3 hb7
          rw [HTF.out]
          go_wp2_with fail
          refine (awake_any _ (HT3.out.under hb8)).mono ?_
          rintro e w8 ⟨rfl, hb3⟩
          have hb9 := hb8.trans (hb3.mono hb8.size)
          clear hb3 hb8
          go_wp2
          go_ret
          exact ⟨rfl, HBl.out.trans (hb9.mono HBl.out.size)⟩

theorem tells_any (v0 v1 : Value) (raw : List Nat) (zs : List Int) (who inc n : Int) (w : World) (hT : Tabs w) (hr : Bytes w v0 raw) (hz : Ints w v1 zs) :
    Calls Tryd.prog 5 #[v0, v1, .int .i64 who, .int .i64 inc, .int .i64 n] w fun e w' => e = .returned (.bool true) ∧ Below w.heap.size w w' := by
  rcases Nat.lt_or_ge 60 raw.length with h | h
  · exact tells_long v0 v1 _ _ _ raw w hT hr h
  · exact tells_short v0 v1 raw zs who inc n w hT hr hz h
end Go.Proofs.YtpgoofkpcbbhjaaDoor
