/- The document's own files: append. -/
import Derived.Test.YtlfgadcfjjjbfaaRfMove
import Derived.Deep.RegionWith
import Derived.Test.YtlfgadcfjjjbfaaRegion
import Derived.Deep.DeepCutAuto
namespace Go.Proofs.Ytlfgadcfjjjbfaa
set_option maxRecDepth 100000
open Go.ChangeShapes Go.WideShapes Go.ChangeAt Go.RowKit Go.ChangeMaps
open Sf

theorem RDone.afterq {w w1 w2 : World} {q : Nat} {G : Nat → Prop} {s : S} (hb : w.grownBy w1 (some q)) (h : RDone G q s w1 w2) : RDone G q s w w2 := by
  obtain ⟨lv, G', h1, h2, h3⟩ := h
  exact ⟨lv, G', h1, grownq hb h2, fun k hk => (h3 k hk).imp id fun e => Nat.le_trans hb.size e⟩
theorem rdone_self {w w1 : World} {q : Nat} {lv : Value} {G : Nat → Prop} {s : S} (h : Rf w1 q lv G s) (hb : w.grownBy w1 (some q)) : RDone G q s w w1 := ⟨lv, G, h, hb, fun _ hk => .inl hk⟩
set_option maxHeartbeats 16000000 in
theorem rapp_any (t b : List Nat) (bv : Value) (g : List (List Nat × Int)) (vg : Value) (w : World) (q : Nat) (lv : Value) (G : Nat → Prop) (s : S) (h : Rf w q lv G s) (ht : Nice t) (hb : Bytes w bv b) (hbq : b ≠ [] → ∀ j, bv.ownBlock = some j → j ≠ q)
    (hg : RdG w vg g) (hg1 : ∀ x ∈ g, Nice x.1) (hnx : s.next ≤ 1073741824) (hcn : s.l.length ≤ 1048575) (hbl : b.length ≤ 1073741824) (hu : used s.l ≤ 1073741824) :
    Calls Try.prog 14 #[.pointer (some ⟨q, 0, none⟩), .string (str t), bv, vg] w fun e w' => e = .returned (.tuple #[.int .i64 (((app s t b g).2.1 : Nat) : Int), .int .i64 (((app s t b g).2.2 : Nat) : Int)]) ∧ RDone G q (app s t b g).1 w w' := by
  have HFI := Lib.hid (reffile_any t w ht.1 (by have := ht.2; omega))
  have HGD := Lib.hid (rguarded_any g vg w q lv G s h hg hg1)
  have H := Lib.hid h
  have HT := Lib.hid ht
  obtain ⟨_, hb0, Ab, cb, rfl, hbc, _⟩ := hb.parts
  have HB := Lib.hid (And.intro hb hbq)
  obtain ⟨lb, hlb⟩ : ∃ lb, b.length = lb := ⟨_, rfl⟩
  have HLB := Lib.hid hlb
  obtain ⟨U, hU⟩ : ∃ U, used s.l = U := ⟨_, rfl⟩
  have HUU := Lib.hid hU
  obtain ⟨R, hR⟩ : ∃ R, s.room = R := ⟨_, rfl⟩
  have HRR := Lib.hid hR
  obtain ⟨C, hC⟩ : ∃ C, s.cut = C := ⟨_, rfl⟩
  have HCC := Lib.hid hC
  have hr0 : 0 ≤ R := by rw [← hR]; exact h.good.2.2.1
  have hr1 : R ≤ 1073741824 := by rw [← hR]; exact h.good.2.2.2.1
  have hc0 : -1 ≤ C := by rw [← hC]; exact h.good.2.2.2.2.1
  have hc1 : C ≤ 9223372036854775807 := by rw [← hC]; exact h.good.2.2.2.2.2
  rw [hU] at hu
  rw [hlb] at hbl hbc HB ⊢
  have HN := Lib.hid (And.intro hnx hcn)
  obtain ⟨fb, hfb⟩ : ∃ fb, Nm.file t = fb := ⟨_, rfl⟩
  rw [hfb] at HFI
  have HFB := Lib.hid hfb
  obtain ⟨gb, hgb⟩ : ∃ gb, guards s.l g = gb := ⟨_, rfl⟩
  rw [hgb] at HGD
  have HGB := Lib.hid hgb
  obtain ⟨RST, hRST⟩ : ∃ z, max (R - (U : Int)) 0 = z := ⟨_, rfl⟩
  have HRS := Lib.hid hRST
  have x1 := fun (W : World) ts t => run_top2 (P := Try.prog) W ts t (R - (U : Int)) 0 RST hRST
  obtain ⟨MC, hMC⟩ : ∃ z, min C (lb : Int) = z := ⟨_, rfl⟩
  have HMC := Lib.hid hMC
  have y1 := fun (W : World) ts t => run_low2 (P := Try.prog) W ts t C (lb : Int) MC hMC
  clear h ht hb hbq hg hg1 hnx hcn hlb hU hR hC hfb hgb hRST hMC hb0
  go_enter Try.func14, Try.ntmps14
  go_wp2_with fail
  refine HFI.out.mono ?_
  rintro e w' ⟨rfl, rfl⟩
  rcases fb with _ | _
  · have HV : Hid (app s t b g = (s, 0, 1)) := Lib.hid (by
      have : refuse s.l g [t] = 1 := by unfold refuse; simp [HFB.out]
      unfold app
      rw [this]
      rfl)
    go_wp2
    go_ret2
    rw [HV.out]
    exact ⟨rfl, RDone.refl H.out (Below.refl _ _)⟩
  · go_wp2_with fail
    refine HGD.out.mono ?_
    rintro e w1 ⟨rfl, hb1⟩
    have HB1 := Lib.hid hb1
    clear hb1
    rcases gb with _ | _
    · have HV : Hid (app s t b g = (s, 0, 5)) := Lib.hid (by
        have : refuse s.l g [t] = 5 := by unfold refuse; simp [HFB.out, HGB.out]
        unfold app
        rw [this]
        rfl)
      go_wp2
      go_ret2
      rw [HV.out]
      exact ⟨rfl, RDone.refl H.out HB1.out⟩
    · have HRZ : Hid (refuse s.l g [t] = 0) := Lib.hid (by unfold refuse; simp [HFB.out, HGB.out])
      have H1 := Lib.hid (H.out.under HB1.out)
      have HUQ : Hid (∀ m, Calls Try.prog 27 #[.pointer (some ⟨q, 0, none⟩)] (w1.drewN m) fun e w' => e = .returned (.int .i64 (U : Int)) ∧ ∃ j, w' = w1.drewN j) := Lib.hid fun m => (rused_any (w1.drewN m) q lv G s (H1.out.heap rfl) (by rw [HUU.out]; omega)).mono fun e w' ⟨he, hw⟩ => ⟨by rw [he, HUU.out], m, hw.symm⟩
      have k1 : ∀ j, (w1.drewN j).cell? ⟨q, 1, none⟩ = some (.int .i64 R) := fun j => by rw [← HRR.out]; exact H1.out.blk.at 1
      have k1' : w1.cell? ⟨q, 1, none⟩ = some (.int .i64 R) := k1 0
      go_upto_region 6 with fail
      go_cut [12] (fun s12 wx => s12 = .int .i64 RST ∧ ∃ m, wx = w1.drewN m)
      case first =>
        go_quiet ((go_at_call 27; exact HUQ.out _))
        go_wp2_with fail
        go_meet
        exact ⟨rfl, _, rfl⟩
      case rest =>
        obtain ⟨rfl, m, hwm⟩ := hcut
        obtain ⟨wx, hwx⟩ : ∃ wx : World, wx = wc := ⟨_, rfl⟩
        rw [← hwx]
        have HB2 : Hid (Below w.heap.size w wx) := Lib.hid (by rw [hwx, hwm]; exact HB1.out.trans ((sbelow_drewN w1 m).mono HB1.out.size))
        clear hwx hwm HUQ k1 k1' x1 H1
        have H2 := Lib.hid (H.out.under HB2.out)
        have k3 : wx.cell? ⟨q, 3, none⟩ = some (.int .i64 C) := by rw [← HCC.out]; exact H2.out.blk.at 3
        have f3 : wx.frozen? ⟨q, 3, none⟩ = false := H2.out.blk.free 3
        have HCUT := Lib.hid (H2.out.cell (s' := { s with cut := -1 }) 3 (.int .i64 (-1)) rfl rfl ⟨H2.out.good.1, H2.out.good.2.1, H2.out.good.2.2.1, H2.out.good.2.2.2.1, by show -1 ≤ (-1 : Int); omega, by show (-1 : Int) ≤ _; omega⟩)
        by_cases hcm : C = -1
        · have hcn0 : ¬ (0 : Int) ≤ C := by omega
          have hcn1 : decide ((0 : Int) ≤ C) = false := decide_eq_false hcn0
          by_cases hov : RST < (lb : Int)
          · obtain ⟨k, hk⟩ : ∃ k : Nat, RST = (k : Int) := ⟨RST.toNat, by have := HRS.out; omega⟩
            subst hk
            have hovd : decide ((k : Int) < (lb : Int)) = true := decide_eq_true hov
            have hkl : k < lb := by omega
            have HPA : Hid (Sf.part s b.length = (s, k, 2)) := Lib.hid (by
              unfold Sf.part
              rw [HLB.out, HCC.out, HRR.out, HUU.out, HRS.out, if_pos hcm, if_neg (by omega)]
              rfl)
            have HY := H2
            have HGY : Hid (wx.grownBy wx (some q)) := Lib.hid (World.grownBy.refl _ _)
            by_cases hk0 : k = 0
            · subst hk0
              have HAP : Hid (app s t b g = (s, 0, 2)) := Lib.hid (by unfold app; rw [if_pos HRZ.out, HPA.out]; rfl)
              go_wp2
              go_ret2
              rw [HAP.out]
              exact ⟨rfl, RDone.refl H.out HB2.out⟩
            · have HAP : Hid (app s t b g = (wr s t (Sf.bytes s.l t ++ b.take k), 0, 2)) := Lib.hid (by
                unfold app
                rw [if_pos HRZ.out, HPA.out]
                simp only
                rw [if_neg (by omega), if_pos (by omega)])
              have hkz : ((k : Int) == 0) = false := by simpa using hk0
              go_upto_region 14 with fail
              obtain ⟨wy, rfl⟩ : ∃ wy : World, wy = wx := ⟨_, rfl⟩
              have HYB : Hid (Bytes wy (.slice Ab lb cb) b) := Lib.hid ((HB.out.1.under HB2.out).grownIf HGY.out fun h0 => .inr fun e => HB.out.2 h0 q e rfl)
              have HQY : Hid (q < wy.heap.size) := Lib.hid (HY.out.lt q HY.out.gq)
              have B1 : Hid (Below wy.heap.size wy (wy.alloc (.cells #[] 5))) := Lib.hid ((Below.refl _ _).alloc (Nat.le_refl _) _)
              have E1 : Hid (Own (wy.alloc (.cells #[] 5)) wy.heap.size (.slice (some ⟨wy.heap.size, 0, none⟩) 0 0) []) := Lib.hid (own_empty8 _ _ (Nat.le_refl _))
              have HOL : Hid ((Sf.bytes s.l t).length ≤ 1073741824) := Lib.hid (by have h1 := bytes_le H.out.good.1 t; rw [HUU.out] at h1; omega)
              have HTKL : Hid ((b.take k).length ≤ 1073741824) := Lib.hid (by rw [List.length_take, HLB.out]; omega)
              have hkc1 : (k : Int) ≤ (cb : Int) := by omega
              have hkc2 : (0 : Int) ≤ (k : Int) := by omega
              have HKL : Hid (k ≤ lb ∧ k ≤ cb) := Lib.hid ⟨by omega, by omega⟩
              refine wp_region_noPanic ?_
              refine wp_region_held_drew (S := fun _ => True) (by kernel_rfl) (trivial) (fun hHeld => ?_)
              obtain ⟨wn0, hwn⟩ : ∃ wn, wy.drew = wn := ⟨_, rfl⟩
              have hB0 : Below wy.heap.size wy wn0 := by rw [← hwn]; exact (Below.refl _ _).drew
              rw [hwn]
              clear hwn
              refine takeW 0 (some 59) (oi := ?oT1) (v := ?vT1) ?hiT1 ?hdT1 (by kernel_rfl) (by kernel_rfl) (by kernel_rfl) (fun _ _ _ h => h) ?hwT1 ?hyT1 hHeld ?_
              case hiT1 => (simp only [List.getElem?_toArray, List.getElem?_cons_zero]; with_reducible rfl)
              case hdT1 => rfl
              case hwT1 => rfl
              case hyT1 => (intro w hSw; (try dsimp only at hSw); go_simp; first | done | with_reducible rfl)
              try simp only [Act.put]
              try simp only [List.setIfInBounds_toArray, List.set_cons_zero, List.set_cons_succ]
              refine takeW 1 (some 60) (oi := ?oT2) (v := ?vT2) ?hiT2 ?hdT2 (by kernel_rfl) (by kernel_rfl) (by kernel_rfl) (fun _ _ _ h => h) ?hwT2 ?hyT2 hHeld ?_
              case hiT2 => (simp only [List.getElem?_toArray, List.getElem?_cons_succ, List.getElem?_cons_zero]; with_reducible rfl)
              case hdT2 => rfl
              case hwT2 => rfl
              case hyT2 => (intro w hSw; (try dsimp only at hSw); go_simp; first | done | with_reducible rfl)
              try simp only [Act.put]
              try simp only [List.setIfInBounds_toArray, List.set_cons_zero, List.set_cons_succ]
              refine takeW 3 (some 62) (oi := ?oT3) (v := ?vT3) ?hiT3 ?hdT3 (by kernel_rfl) (by kernel_rfl) (by kernel_rfl) (fun _ _ _ h => h) ?hwT3 ?hyT3 hHeld ?_
              case hiT3 => (simp only [List.getElem?_toArray, List.getElem?_cons_succ, List.getElem?_cons_zero]; with_reducible rfl)
              case hdT3 => rfl
              case hwT3 => rfl
              case hyT3 => (intro w hSw; (try dsimp only at hSw); go_simp; first | done | with_reducible rfl)
              try simp only [Act.put]
              try simp only [List.setIfInBounds_toArray, List.set_cons_zero, List.set_cons_succ]
              refine takeW 4 (some 63) (oi := ?oT4) (v := ?vT4) ?hiT4 ?hdT4 (by kernel_rfl) (by kernel_rfl) (by kernel_rfl) (fun _ _ _ h => h) ?hwT4 ?hyT4 hHeld ?_
              case hiT4 => (simp only [List.getElem?_toArray, List.getElem?_cons_succ, List.getElem?_cons_zero]; with_reducible rfl)
              case hdT4 => rfl
              case hwT4 => rfl
              case hyT4 => (intro w hSw; (try dsimp only at hSw); go_simp; first | done | with_reducible rfl)
              try simp only [Act.put]
              try simp only [List.setIfInBounds_toArray, List.set_cons_zero, List.set_cons_succ]
              refine takeW 7 (some 66) (oi := ?oT5) (v := ?vT5) ?hiT5 ?hdT5 (by kernel_rfl) (by kernel_rfl) (by kernel_rfl) (fun _ _ _ h => h) ?hwT5 ?hyT5 hHeld ?_
              case hiT5 => (simp only [List.getElem?_toArray, List.getElem?_cons_succ, List.getElem?_cons_zero]; with_reducible rfl)
              case hdT5 => rfl
              case hwT5 => rfl
              case hyT5 => (intro w hSw; (try dsimp only at hSw); go_simp; first | done | with_reducible rfl)
              try simp only [Act.put]
              try simp only [List.setIfInBounds_toArray, List.set_cons_zero, List.set_cons_succ]
              refine takeW 8 (some 67) (oi := ?oT6) (v := ?vT6) ?hiT6 ?hdT6 (by kernel_rfl) (by kernel_rfl) (by kernel_rfl) (fun _ _ _ h => h) ?hwT6 ?hyT6 hHeld ?_
              case hiT6 => (simp only [List.getElem?_toArray, List.getElem?_cons_succ, List.getElem?_cons_zero]; with_reducible rfl)
              case hdT6 => rfl
              case hwT6 => rfl
              case hyT6 => (intro w hSw; (try dsimp only at hSw); go_simp; first | done | with_reducible rfl)
              try simp only [Act.put]
              try simp only [List.setIfInBounds_toArray, List.set_cons_zero, List.set_cons_succ]
              refine takeW 9 (some 68) (oi := ?oT7) (v := ?vT7) ?hiT7 ?hdT7 (by kernel_rfl) (by kernel_rfl) (by kernel_rfl) (fun _ _ _ h => h) ?hwT7 ?hyT7 hHeld ?_
              case hiT7 => (simp only [List.getElem?_toArray, List.getElem?_cons_succ, List.getElem?_cons_zero]; with_reducible rfl)
              case hdT7 => rfl
              case hwT7 => rfl
              case hyT7 => (intro w hSw; (try dsimp only at hSw); go_simp; first | done | with_reducible rfl)
              try simp only [Act.put]
              try simp only [List.setIfInBounds_toArray, List.set_cons_zero, List.set_cons_succ]
              refine wpAnyH_ready (rs := [2, 5]) (by kernel_rfl) (by simp) ?_
              refine stepOf 2 (o := ?oT8) ?hiT8 ?hwT8 (fun K hK => ?_) ?_
              case hiT8 => (simp only [List.getElem?_toArray, List.getElem?_cons_succ, List.getElem?_cons_zero]; with_reducible rfl)
              case hwT8 => rfl
              · skip
                go_simp
                obtain ⟨gE, hg⟩ : ∃ g, wn0.heap.size = g := ⟨_, rfl⟩
                obtain ⟨wn1, hwm⟩ : ∃ wm, wn0.alloc (.cells #[] 5) = wm := ⟨_, rfl⟩
                have hO : Own wn1 wy.heap.size (.slice (some ⟨gE, 0, none⟩) 0 0) [] := by rw [← hwm, ← hg]; exact own_empty wn0 _ 0 #[] hB0.size (by unfold maxLen; omega) rfl
                have hB1 : Below wy.heap.size wy wn1 := by rw [← hwm]; exact hB0.alloc hB0.size _
                rw [hwm]
                rw [hg]
                clear hwm hg hB0
                refine hK.out _ _ ?_ (fun hHeld => ?_)
                · trivial
                clear hK K
                try simp only [Act.put]
                try simp only [List.setIfInBounds_toArray, List.set_cons_zero, List.set_cons_succ]
                refine stepOne 5 (o := ?oT9) ?hiT9 (by kernel_rfl) ?hwT9 (fun K hK => ?_)
                case hiT9 => (simp only [List.getElem?_toArray, List.getElem?_cons_succ, List.getElem?_cons_zero]; with_reducible rfl)
                case hwT9 => rfl
                go_simp
                go_at_call 42
                refine (rhas_any t _ q lv G s (HY.out.under hB1) HT.out.1).mono ?_
                rintro e w' ⟨⟨v64, rfl, hbv, hvq⟩, rfl⟩
                have hV : Bytes wn1 v64 (Sf.bytes s.l t) := hbv
                clear hbv hvq
                refine hK.out _ _ ?_ (fun hHeld => ?_)
                · trivial
                clear hK K
                try simp only [Act.put]
                try simp only [List.setIfInBounds_toArray, List.set_cons_zero, List.set_cons_succ]
                refine stepOne 6 (o := ?oT10) ?hiT10 (by kernel_rfl) ?hwT10 (fun K hK => ?_)
                case hiT10 => (simp only [List.getElem?_toArray, List.getElem?_cons_succ, List.getElem?_cons_zero]; with_reducible rfl)
                case hwT10 => rfl
                refine wp_append_bytes (.tmp 61) (.tmp 64) rfl wy.heap.size (.slice (some ⟨gE, 0, none⟩) 0 0) v64 [] (Sf.bytes s.l t) rfl hO rfl hV (by have := HOL.out; simp; omega) hB1.size (Sf.bytes s.l t) rfl ?_
                rintro v65 wn2 ⟨ho, -, -, hb⟩
                replace hO := ho
                have hB2 := hB1.trans hb
                clear ho hb hB1 hV
                refine hK.out _ _ ?_ (fun hHeld => ?_)
                · trivial
                clear hK K
                try simp only [Act.put]
                try simp only [List.setIfInBounds_toArray, List.set_cons_zero, List.set_cons_succ]
                refine stepOne 10 (o := ?oT11) ?hiT11 (by kernel_rfl) ?hwT11 (fun K hK => ?_)
                case hiT11 => (simp only [List.getElem?_toArray, List.getElem?_cons_succ, List.getElem?_cons_zero]; with_reducible rfl)
                case hwT11 => rfl
                refine wp_append_bytes (.tmp 65) (.tmp 68) rfl wy.heap.size v65 (.slice Ab k cb) (Sf.bytes s.l t) (b.take k) rfl hO rfl ((HYB.out.under hB2).head HKL.out.1 HKL.out.2) (by have h1 := HOL.out; have h2 := HTKL.out; omega) hB2.size (Sf.bytes s.l t ++ b.take k) rfl ?_
                rintro v69 wn3 ⟨ho, -, -, hb⟩
                replace hO := ho
                have hB3 := hB2.trans hb
                clear ho hb hB2
                refine hK.out _ _ ?_ (fun hHeld => ?_)
                · trivial
                clear hK K
                try simp only [Act.put]
                try simp only [List.setIfInBounds_toArray, List.set_cons_zero, List.set_cons_succ]
                refine stepOne 11 (o := ?oT12) ?hiT12 (by kernel_rfl) ?hwT12 (fun K hK => ?_)
                case hiT12 => (simp only [List.getElem?_toArray, List.getElem?_cons_succ, List.getElem?_cons_zero]; with_reducible rfl)
                case hwT12 => rfl
                go_simp
                go_at_call 37
                refine (rset_any t (Sf.bytes s.l t ++ b.take k) v69 _ q lv G s (HY.out.under hB3) HT.out.1 HT.out.2 hO.bytes (fun _ j hj => by have h1 := (hO.lt j hj).1; have h2 := HQY.out; omega) HN.out.1 HN.out.2 (by rw [List.length_append]; have h1 := HOL.out; have h2 := HTKL.out; omega)).mono ?_
                rintro e w5 ⟨rfl, hd⟩
                have HD := Lib.hid (RDone.after HB2.out (RDone.afterq HGY.out (RDone.after hB3 hd)))
                clear hd
                refine hK.out _ _ ?_ (fun hHeld => ?_)
                · trivial
                clear hK K
                try simp only [Act.put]
                try simp only [List.setIfInBounds_toArray, List.set_cons_zero, List.set_cons_succ]
                refine takeW 12 (some 13) (oi := ?oT13) (v := ?vT13) ?hiT13 ?hdT13 (by kernel_rfl) (by kernel_rfl) (by kernel_rfl) (fun _ _ _ h => h) ?hwT13 ?hyT13 hHeld ?_
                case hiT13 => (simp only [List.getElem?_toArray, List.getElem?_cons_succ, List.getElem?_cons_zero]; with_reducible rfl)
                case hdT13 => rfl
                case hwT13 => rfl
                case hyT13 => (intro w hSw; (try dsimp only at hSw); go_simp; first | done | with_reducible rfl)
                try simp only [Act.put]
                try simp only [List.setIfInBounds_toArray, List.set_cons_zero, List.set_cons_succ]
                refine wpAnyH_done (by kernel_rfl) ?_ _
                refine NoPanic.normal ?_
                go_wp2
                go_ret2
                rw [HAP.out]
                exact ⟨rfl, HD.out⟩
              refine stepOf 5 (o := ?oT14) ?hiT14 ?hwT14 (fun K hK => ?_) AllReadyH.nil
              case hiT14 => (simp only [List.getElem?_toArray, List.getElem?_cons_succ, List.getElem?_cons_zero]; with_reducible rfl)
              case hwT14 => rfl
              go_simp
              go_at_call 42
              refine (rhas_any t _ q lv G s (HY.out.under hB0) HT.out.1).mono ?_
              rintro e w' ⟨⟨v64, rfl, hbv, hvq⟩, rfl⟩
              have hV : Bytes wn0 v64 (Sf.bytes s.l t) := hbv
              clear hbv hvq
              refine hK.out _ _ ?_ (fun hHeld => ?_)
              · trivial
              clear hK K
              try simp only [Act.put]
              try simp only [List.setIfInBounds_toArray, List.set_cons_zero, List.set_cons_succ]
              refine stepOne 2 (o := ?oT15) ?hiT15 (by kernel_rfl) ?hwT15 (fun K hK => ?_)
              case hiT15 => (simp only [List.getElem?_toArray, List.getElem?_cons_succ, List.getElem?_cons_zero]; with_reducible rfl)
              case hwT15 => rfl
              go_simp
              obtain ⟨gE, hg⟩ : ∃ g, wn0.heap.size = g := ⟨_, rfl⟩
              obtain ⟨wn1, hwm⟩ : ∃ wm, wn0.alloc (.cells #[] 5) = wm := ⟨_, rfl⟩
              have hO : Own wn1 wy.heap.size (.slice (some ⟨gE, 0, none⟩) 0 0) [] := by rw [← hwm, ← hg]; exact own_empty wn0 _ 0 #[] hB0.size (by unfold maxLen; omega) rfl
              have hB1 : Below wy.heap.size wy wn1 := by rw [← hwm]; exact hB0.alloc hB0.size _
              replace hV : Bytes wn1 v64 (Sf.bytes s.l t) := by rw [← hwm]; exact hV.alloc _
              rw [hwm]
              rw [hg]
              clear hwm hg hB0
              refine hK.out _ _ ?_ (fun hHeld => ?_)
              · trivial
              clear hK K
              try simp only [Act.put]
              try simp only [List.setIfInBounds_toArray, List.set_cons_zero, List.set_cons_succ]
              refine stepOne 6 (o := ?oT16) ?hiT16 (by kernel_rfl) ?hwT16 (fun K hK => ?_)
              case hiT16 => (simp only [List.getElem?_toArray, List.getElem?_cons_succ, List.getElem?_cons_zero]; with_reducible rfl)
              case hwT16 => rfl
              refine wp_append_bytes (.tmp 61) (.tmp 64) rfl wy.heap.size (.slice (some ⟨gE, 0, none⟩) 0 0) v64 [] (Sf.bytes s.l t) rfl hO rfl hV (by have := HOL.out; simp; omega) hB1.size (Sf.bytes s.l t) rfl ?_
              rintro v65 wn2 ⟨ho, -, -, hb⟩
              replace hO := ho
              have hB2 := hB1.trans hb
              clear ho hb hB1 hV
              refine hK.out _ _ ?_ (fun hHeld => ?_)
              · trivial
              clear hK K
              try simp only [Act.put]
              try simp only [List.setIfInBounds_toArray, List.set_cons_zero, List.set_cons_succ]
              refine stepOne 10 (o := ?oT17) ?hiT17 (by kernel_rfl) ?hwT17 (fun K hK => ?_)
              case hiT17 => (simp only [List.getElem?_toArray, List.getElem?_cons_succ, List.getElem?_cons_zero]; with_reducible rfl)
              case hwT17 => rfl
              refine wp_append_bytes (.tmp 65) (.tmp 68) rfl wy.heap.size v65 (.slice Ab k cb) (Sf.bytes s.l t) (b.take k) rfl hO rfl ((HYB.out.under hB2).head HKL.out.1 HKL.out.2) (by have h1 := HOL.out; have h2 := HTKL.out; omega) hB2.size (Sf.bytes s.l t ++ b.take k) rfl ?_
              rintro v69 wn3 ⟨ho, -, -, hb⟩
              replace hO := ho
              have hB3 := hB2.trans hb
              clear ho hb hB2
              refine hK.out _ _ ?_ (fun hHeld => ?_)
              · trivial
              clear hK K
              try simp only [Act.put]
              try simp only [List.setIfInBounds_toArray, List.set_cons_zero, List.set_cons_succ]
              refine stepOne 11 (o := ?oT18) ?hiT18 (by kernel_rfl) ?hwT18 (fun K hK => ?_)
              case hiT18 => (simp only [List.getElem?_toArray, List.getElem?_cons_succ, List.getElem?_cons_zero]; with_reducible rfl)
              case hwT18 => rfl
              go_simp
              go_at_call 37
              refine (rset_any t (Sf.bytes s.l t ++ b.take k) v69 _ q lv G s (HY.out.under hB3) HT.out.1 HT.out.2 hO.bytes (fun _ j hj => by have h1 := (hO.lt j hj).1; have h2 := HQY.out; omega) HN.out.1 HN.out.2 (by rw [List.length_append]; have h1 := HOL.out; have h2 := HTKL.out; omega)).mono ?_
              rintro e w5 ⟨rfl, hd⟩
              have HD := Lib.hid (RDone.after HB2.out (RDone.afterq HGY.out (RDone.after hB3 hd)))
              clear hd
              refine hK.out _ _ ?_ (fun hHeld => ?_)
              · trivial
              clear hK K
              try simp only [Act.put]
              try simp only [List.setIfInBounds_toArray, List.set_cons_zero, List.set_cons_succ]
              refine takeW 12 (some 13) (oi := ?oT19) (v := ?vT19) ?hiT19 ?hdT19 (by kernel_rfl) (by kernel_rfl) (by kernel_rfl) (fun _ _ _ h => h) ?hwT19 ?hyT19 hHeld ?_
              case hiT19 => (simp only [List.getElem?_toArray, List.getElem?_cons_succ, List.getElem?_cons_zero]; with_reducible rfl)
              case hdT19 => rfl
              case hwT19 => rfl
              case hyT19 => (intro w hSw; (try dsimp only at hSw); go_simp; first | done | with_reducible rfl)
              try simp only [Act.put]
              try simp only [List.setIfInBounds_toArray, List.set_cons_zero, List.set_cons_succ]
              refine wpAnyH_done (by kernel_rfl) ?_ _
              refine NoPanic.normal ?_
              go_wp2
              go_ret2
              rw [HAP.out]
              exact ⟨rfl, HD.out⟩
          · have hovd : decide (RST < (lb : Int)) = false := decide_eq_false hov
            have HPA : Hid (Sf.part s b.length = (s, lb, 0)) := Lib.hid (by
              unfold Sf.part
              rw [HLB.out, HCC.out, HRR.out, HUU.out, HRS.out, if_pos hcm, if_pos (by omega)])
            have HY := H2
            have HGY : Hid (wx.grownBy wx (some q)) := Lib.hid (World.grownBy.refl _ _)
            have HAP : Hid (app s t b g = (wr s t (Sf.bytes s.l t ++ b.take lb), s.next + 1, 0)) := Lib.hid (by
              unfold app
              rw [if_pos HRZ.out, HPA.out]
              simp only
              rw [if_pos trivial, List.take_of_length_le (by rw [HLB.out]; exact Nat.le_refl _)])
            go_upto_region 14 with fail
            obtain ⟨wy, rfl⟩ : ∃ wy : World, wy = wx := ⟨_, rfl⟩
            have HYB : Hid (Bytes wy (.slice Ab lb cb) b) := Lib.hid ((HB.out.1.under HB2.out).grownIf HGY.out fun h0 => .inr fun e => HB.out.2 h0 q e rfl)
            have HQY : Hid (q < wy.heap.size) := Lib.hid (HY.out.lt q HY.out.gq)
            have B1 : Hid (Below wy.heap.size wy (wy.alloc (.cells #[] 5))) := Lib.hid ((Below.refl _ _).alloc (Nat.le_refl _) _)
            have E1 : Hid (Own (wy.alloc (.cells #[] 5)) wy.heap.size (.slice (some ⟨wy.heap.size, 0, none⟩) 0 0) []) := Lib.hid (own_empty8 _ _ (Nat.le_refl _))
            have HOL : Hid ((Sf.bytes s.l t).length ≤ 1073741824) := Lib.hid (by have h1 := bytes_le H.out.good.1 t; rw [HUU.out] at h1; omega)
            have HTKL : Hid ((b.take lb).length ≤ 1073741824) := Lib.hid (by rw [List.length_take, HLB.out]; omega)
            have hkc1 : (lb : Int) ≤ (cb : Int) := by omega
            have hkc2 : (0 : Int) ≤ (lb : Int) := by omega
            have HKL : Hid (lb ≤ lb ∧ lb ≤ cb) := Lib.hid ⟨by omega, by omega⟩
            refine wp_region_noPanic ?_
            refine wp_region_held_drew (S := fun _ => True) (by kernel_rfl) (trivial) (fun hHeld => ?_)
            obtain ⟨wn0, hwn⟩ : ∃ wn, wy.drew = wn := ⟨_, rfl⟩
            have hB0 : Below wy.heap.size wy wn0 := by rw [← hwn]; exact (Below.refl _ _).drew
            rw [hwn]
            clear hwn
            refine takeW 0 (some 59) (oi := ?oT20) (v := ?vT20) ?hiT20 ?hdT20 (by kernel_rfl) (by kernel_rfl) (by kernel_rfl) (fun _ _ _ h => h) ?hwT20 ?hyT20 hHeld ?_
            case hiT20 => (simp only [List.getElem?_toArray, List.getElem?_cons_zero]; with_reducible rfl)
            case hdT20 => rfl
            case hwT20 => rfl
            case hyT20 => (intro w hSw; (try dsimp only at hSw); go_simp; first | done | with_reducible rfl)
            try simp only [Act.put]
            try simp only [List.setIfInBounds_toArray, List.set_cons_zero, List.set_cons_succ]
            refine takeW 1 (some 60) (oi := ?oT21) (v := ?vT21) ?hiT21 ?hdT21 (by kernel_rfl) (by kernel_rfl) (by kernel_rfl) (fun _ _ _ h => h) ?hwT21 ?hyT21 hHeld ?_
            case hiT21 => (simp only [List.getElem?_toArray, List.getElem?_cons_succ, List.getElem?_cons_zero]; with_reducible rfl)
            case hdT21 => rfl
            case hwT21 => rfl
            case hyT21 => (intro w hSw; (try dsimp only at hSw); go_simp; first | done | with_reducible rfl)
            try simp only [Act.put]
            try simp only [List.setIfInBounds_toArray, List.set_cons_zero, List.set_cons_succ]
            refine takeW 3 (some 62) (oi := ?oT22) (v := ?vT22) ?hiT22 ?hdT22 (by kernel_rfl) (by kernel_rfl) (by kernel_rfl) (fun _ _ _ h => h) ?hwT22 ?hyT22 hHeld ?_
            case hiT22 => (simp only [List.getElem?_toArray, List.getElem?_cons_succ, List.getElem?_cons_zero]; with_reducible rfl)
            case hdT22 => rfl
            case hwT22 => rfl
            case hyT22 => (intro w hSw; (try dsimp only at hSw); go_simp; first | done | with_reducible rfl)
            try simp only [Act.put]
            try simp only [List.setIfInBounds_toArray, List.set_cons_zero, List.set_cons_succ]
            refine takeW 4 (some 63) (oi := ?oT23) (v := ?vT23) ?hiT23 ?hdT23 (by kernel_rfl) (by kernel_rfl) (by kernel_rfl) (fun _ _ _ h => h) ?hwT23 ?hyT23 hHeld ?_
            case hiT23 => (simp only [List.getElem?_toArray, List.getElem?_cons_succ, List.getElem?_cons_zero]; with_reducible rfl)
            case hdT23 => rfl
            case hwT23 => rfl
            case hyT23 => (intro w hSw; (try dsimp only at hSw); go_simp; first | done | with_reducible rfl)
            try simp only [Act.put]
            try simp only [List.setIfInBounds_toArray, List.set_cons_zero, List.set_cons_succ]
            refine takeW 7 (some 66) (oi := ?oT24) (v := ?vT24) ?hiT24 ?hdT24 (by kernel_rfl) (by kernel_rfl) (by kernel_rfl) (fun _ _ _ h => h) ?hwT24 ?hyT24 hHeld ?_
            case hiT24 => (simp only [List.getElem?_toArray, List.getElem?_cons_succ, List.getElem?_cons_zero]; with_reducible rfl)
            case hdT24 => rfl
            case hwT24 => rfl
            case hyT24 => (intro w hSw; (try dsimp only at hSw); go_simp; first | done | with_reducible rfl)
            try simp only [Act.put]
            try simp only [List.setIfInBounds_toArray, List.set_cons_zero, List.set_cons_succ]
            refine takeW 8 (some 67) (oi := ?oT25) (v := ?vT25) ?hiT25 ?hdT25 (by kernel_rfl) (by kernel_rfl) (by kernel_rfl) (fun _ _ _ h => h) ?hwT25 ?hyT25 hHeld ?_
            case hiT25 => (simp only [List.getElem?_toArray, List.getElem?_cons_succ, List.getElem?_cons_zero]; with_reducible rfl)
            case hdT25 => rfl
            case hwT25 => rfl
            case hyT25 => (intro w hSw; (try dsimp only at hSw); go_simp; first | done | with_reducible rfl)
            try simp only [Act.put]
            try simp only [List.setIfInBounds_toArray, List.set_cons_zero, List.set_cons_succ]
            refine takeW 9 (some 68) (oi := ?oT26) (v := ?vT26) ?hiT26 ?hdT26 (by kernel_rfl) (by kernel_rfl) (by kernel_rfl) (fun _ _ _ h => h) ?hwT26 ?hyT26 hHeld ?_
            case hiT26 => (simp only [List.getElem?_toArray, List.getElem?_cons_succ, List.getElem?_cons_zero]; with_reducible rfl)
            case hdT26 => rfl
            case hwT26 => rfl
            case hyT26 => (intro w hSw; (try dsimp only at hSw); go_simp; first | done | with_reducible rfl)
            try simp only [Act.put]
            try simp only [List.setIfInBounds_toArray, List.set_cons_zero, List.set_cons_succ]
            refine wpAnyH_ready (rs := [2, 5]) (by kernel_rfl) (by simp) ?_
            refine stepOf 2 (o := ?oT27) ?hiT27 ?hwT27 (fun K hK => ?_) ?_
            case hiT27 => (simp only [List.getElem?_toArray, List.getElem?_cons_succ, List.getElem?_cons_zero]; with_reducible rfl)
            case hwT27 => rfl
            · skip
              go_simp
              obtain ⟨gE, hg⟩ : ∃ g, wn0.heap.size = g := ⟨_, rfl⟩
              obtain ⟨wn1, hwm⟩ : ∃ wm, wn0.alloc (.cells #[] 5) = wm := ⟨_, rfl⟩
              have hO : Own wn1 wy.heap.size (.slice (some ⟨gE, 0, none⟩) 0 0) [] := by rw [← hwm, ← hg]; exact own_empty wn0 _ 0 #[] hB0.size (by unfold maxLen; omega) rfl
              have hB1 : Below wy.heap.size wy wn1 := by rw [← hwm]; exact hB0.alloc hB0.size _
              rw [hwm]
              rw [hg]
              clear hwm hg hB0
              refine hK.out _ _ ?_ (fun hHeld => ?_)
              · trivial
              clear hK K
              try simp only [Act.put]
              try simp only [List.setIfInBounds_toArray, List.set_cons_zero, List.set_cons_succ]
              refine stepOne 5 (o := ?oT28) ?hiT28 (by kernel_rfl) ?hwT28 (fun K hK => ?_)
              case hiT28 => (simp only [List.getElem?_toArray, List.getElem?_cons_succ, List.getElem?_cons_zero]; with_reducible rfl)
              case hwT28 => rfl
              go_simp
              go_at_call 42
              refine (rhas_any t _ q lv G s (HY.out.under hB1) HT.out.1).mono ?_
              rintro e w' ⟨⟨v64, rfl, hbv, hvq⟩, rfl⟩
              have hV : Bytes wn1 v64 (Sf.bytes s.l t) := hbv
              clear hbv hvq
              refine hK.out _ _ ?_ (fun hHeld => ?_)
              · trivial
              clear hK K
              try simp only [Act.put]
              try simp only [List.setIfInBounds_toArray, List.set_cons_zero, List.set_cons_succ]
              refine stepOne 6 (o := ?oT29) ?hiT29 (by kernel_rfl) ?hwT29 (fun K hK => ?_)
              case hiT29 => (simp only [List.getElem?_toArray, List.getElem?_cons_succ, List.getElem?_cons_zero]; with_reducible rfl)
              case hwT29 => rfl
              refine wp_append_bytes (.tmp 61) (.tmp 64) rfl wy.heap.size (.slice (some ⟨gE, 0, none⟩) 0 0) v64 [] (Sf.bytes s.l t) rfl hO rfl hV (by have := HOL.out; simp; omega) hB1.size (Sf.bytes s.l t) rfl ?_
              rintro v65 wn2 ⟨ho, -, -, hb⟩
              replace hO := ho
              have hB2 := hB1.trans hb
              clear ho hb hB1 hV
              refine hK.out _ _ ?_ (fun hHeld => ?_)
              · trivial
              clear hK K
              try simp only [Act.put]
              try simp only [List.setIfInBounds_toArray, List.set_cons_zero, List.set_cons_succ]
              refine stepOne 10 (o := ?oT30) ?hiT30 (by kernel_rfl) ?hwT30 (fun K hK => ?_)
              case hiT30 => (simp only [List.getElem?_toArray, List.getElem?_cons_succ, List.getElem?_cons_zero]; with_reducible rfl)
              case hwT30 => rfl
              refine wp_append_bytes (.tmp 65) (.tmp 68) rfl wy.heap.size v65 (.slice Ab lb cb) (Sf.bytes s.l t) (b.take lb) rfl hO rfl ((HYB.out.under hB2).head HKL.out.1 HKL.out.2) (by have h1 := HOL.out; have h2 := HTKL.out; omega) hB2.size (Sf.bytes s.l t ++ b.take lb) rfl ?_
              rintro v69 wn3 ⟨ho, -, -, hb⟩
              replace hO := ho
              have hB3 := hB2.trans hb
              clear ho hb hB2
              refine hK.out _ _ ?_ (fun hHeld => ?_)
              · trivial
              clear hK K
              try simp only [Act.put]
              try simp only [List.setIfInBounds_toArray, List.set_cons_zero, List.set_cons_succ]
              refine stepOne 11 (o := ?oT31) ?hiT31 (by kernel_rfl) ?hwT31 (fun K hK => ?_)
              case hiT31 => (simp only [List.getElem?_toArray, List.getElem?_cons_succ, List.getElem?_cons_zero]; with_reducible rfl)
              case hwT31 => rfl
              go_simp
              go_at_call 37
              refine (rset_any t (Sf.bytes s.l t ++ b.take lb) v69 _ q lv G s (HY.out.under hB3) HT.out.1 HT.out.2 hO.bytes (fun _ j hj => by have h1 := (hO.lt j hj).1; have h2 := HQY.out; omega) HN.out.1 HN.out.2 (by rw [List.length_append]; have h1 := HOL.out; have h2 := HTKL.out; omega)).mono ?_
              rintro e w5 ⟨rfl, hd⟩
              have HD := Lib.hid (RDone.after HB2.out (RDone.afterq HGY.out (RDone.after hB3 hd)))
              clear hd
              refine hK.out _ _ ?_ (fun hHeld => ?_)
              · trivial
              clear hK K
              try simp only [Act.put]
              try simp only [List.setIfInBounds_toArray, List.set_cons_zero, List.set_cons_succ]
              refine takeW 12 (some 13) (oi := ?oT32) (v := ?vT32) ?hiT32 ?hdT32 (by kernel_rfl) (by kernel_rfl) (by kernel_rfl) (fun _ _ _ h => h) ?hwT32 ?hyT32 hHeld ?_
              case hiT32 => (simp only [List.getElem?_toArray, List.getElem?_cons_succ, List.getElem?_cons_zero]; with_reducible rfl)
              case hdT32 => rfl
              case hwT32 => rfl
              case hyT32 => (intro w hSw; (try dsimp only at hSw); go_simp; first | done | with_reducible rfl)
              try simp only [Act.put]
              try simp only [List.setIfInBounds_toArray, List.set_cons_zero, List.set_cons_succ]
              refine wpAnyH_done (by kernel_rfl) ?_ _
              refine NoPanic.normal ?_
              go_wp2
              go_ret2
              rw [HAP.out]
              exact ⟨rfl, HD.out⟩
            refine stepOf 5 (o := ?oT33) ?hiT33 ?hwT33 (fun K hK => ?_) AllReadyH.nil
            case hiT33 => (simp only [List.getElem?_toArray, List.getElem?_cons_succ, List.getElem?_cons_zero]; with_reducible rfl)
            case hwT33 => rfl
            go_simp
            go_at_call 42
            refine (rhas_any t _ q lv G s (HY.out.under hB0) HT.out.1).mono ?_
            rintro e w' ⟨⟨v64, rfl, hbv, hvq⟩, rfl⟩
            have hV : Bytes wn0 v64 (Sf.bytes s.l t) := hbv
            clear hbv hvq
            refine hK.out _ _ ?_ (fun hHeld => ?_)
            · trivial
            clear hK K
            try simp only [Act.put]
            try simp only [List.setIfInBounds_toArray, List.set_cons_zero, List.set_cons_succ]
            refine stepOne 2 (o := ?oT34) ?hiT34 (by kernel_rfl) ?hwT34 (fun K hK => ?_)
            case hiT34 => (simp only [List.getElem?_toArray, List.getElem?_cons_succ, List.getElem?_cons_zero]; with_reducible rfl)
            case hwT34 => rfl
            go_simp
            obtain ⟨gE, hg⟩ : ∃ g, wn0.heap.size = g := ⟨_, rfl⟩
            obtain ⟨wn1, hwm⟩ : ∃ wm, wn0.alloc (.cells #[] 5) = wm := ⟨_, rfl⟩
            have hO : Own wn1 wy.heap.size (.slice (some ⟨gE, 0, none⟩) 0 0) [] := by rw [← hwm, ← hg]; exact own_empty wn0 _ 0 #[] hB0.size (by unfold maxLen; omega) rfl
            have hB1 : Below wy.heap.size wy wn1 := by rw [← hwm]; exact hB0.alloc hB0.size _
            replace hV : Bytes wn1 v64 (Sf.bytes s.l t) := by rw [← hwm]; exact hV.alloc _
            rw [hwm]
            rw [hg]
            clear hwm hg hB0
            refine hK.out _ _ ?_ (fun hHeld => ?_)
            · trivial
            clear hK K
            try simp only [Act.put]
            try simp only [List.setIfInBounds_toArray, List.set_cons_zero, List.set_cons_succ]
            refine stepOne 6 (o := ?oT35) ?hiT35 (by kernel_rfl) ?hwT35 (fun K hK => ?_)
            case hiT35 => (simp only [List.getElem?_toArray, List.getElem?_cons_succ, List.getElem?_cons_zero]; with_reducible rfl)
            case hwT35 => rfl
            refine wp_append_bytes (.tmp 61) (.tmp 64) rfl wy.heap.size (.slice (some ⟨gE, 0, none⟩) 0 0) v64 [] (Sf.bytes s.l t) rfl hO rfl hV (by have := HOL.out; simp; omega) hB1.size (Sf.bytes s.l t) rfl ?_
            rintro v65 wn2 ⟨ho, -, -, hb⟩
            replace hO := ho
            have hB2 := hB1.trans hb
            clear ho hb hB1 hV
            refine hK.out _ _ ?_ (fun hHeld => ?_)
            · trivial
            clear hK K
            try simp only [Act.put]
            try simp only [List.setIfInBounds_toArray, List.set_cons_zero, List.set_cons_succ]
            refine stepOne 10 (o := ?oT36) ?hiT36 (by kernel_rfl) ?hwT36 (fun K hK => ?_)
            case hiT36 => (simp only [List.getElem?_toArray, List.getElem?_cons_succ, List.getElem?_cons_zero]; with_reducible rfl)
            case hwT36 => rfl
            refine wp_append_bytes (.tmp 65) (.tmp 68) rfl wy.heap.size v65 (.slice Ab lb cb) (Sf.bytes s.l t) (b.take lb) rfl hO rfl ((HYB.out.under hB2).head HKL.out.1 HKL.out.2) (by have h1 := HOL.out; have h2 := HTKL.out; omega) hB2.size (Sf.bytes s.l t ++ b.take lb) rfl ?_
            rintro v69 wn3 ⟨ho, -, -, hb⟩
            replace hO := ho
            have hB3 := hB2.trans hb
            clear ho hb hB2
            refine hK.out _ _ ?_ (fun hHeld => ?_)
            · trivial
            clear hK K
            try simp only [Act.put]
            try simp only [List.setIfInBounds_toArray, List.set_cons_zero, List.set_cons_succ]
            refine stepOne 11 (o := ?oT37) ?hiT37 (by kernel_rfl) ?hwT37 (fun K hK => ?_)
            case hiT37 => (simp only [List.getElem?_toArray, List.getElem?_cons_succ, List.getElem?_cons_zero]; with_reducible rfl)
            case hwT37 => rfl
            go_simp
            go_at_call 37
            refine (rset_any t (Sf.bytes s.l t ++ b.take lb) v69 _ q lv G s (HY.out.under hB3) HT.out.1 HT.out.2 hO.bytes (fun _ j hj => by have h1 := (hO.lt j hj).1; have h2 := HQY.out; omega) HN.out.1 HN.out.2 (by rw [List.length_append]; have h1 := HOL.out; have h2 := HTKL.out; omega)).mono ?_
            rintro e w5 ⟨rfl, hd⟩
            have HD := Lib.hid (RDone.after HB2.out (RDone.afterq HGY.out (RDone.after hB3 hd)))
            clear hd
            refine hK.out _ _ ?_ (fun hHeld => ?_)
            · trivial
            clear hK K
            try simp only [Act.put]
            try simp only [List.setIfInBounds_toArray, List.set_cons_zero, List.set_cons_succ]
            refine takeW 12 (some 13) (oi := ?oT38) (v := ?vT38) ?hiT38 ?hdT38 (by kernel_rfl) (by kernel_rfl) (by kernel_rfl) (fun _ _ _ h => h) ?hwT38 ?hyT38 hHeld ?_
            case hiT38 => (simp only [List.getElem?_toArray, List.getElem?_cons_succ, List.getElem?_cons_zero]; with_reducible rfl)
            case hdT38 => rfl
            case hwT38 => rfl
            case hyT38 => (intro w hSw; (try dsimp only at hSw); go_simp; first | done | with_reducible rfl)
            try simp only [Act.put]
            try simp only [List.setIfInBounds_toArray, List.set_cons_zero, List.set_cons_succ]
            refine wpAnyH_done (by kernel_rfl) ?_ _
            refine NoPanic.normal ?_
            go_wp2
            go_ret2
            rw [HAP.out]
            exact ⟨rfl, HD.out⟩
        · have hcn0 : (0 : Int) ≤ C := by omega
          have hcn1 : decide ((0 : Int) ≤ C) = true := decide_eq_true hcn0
          obtain ⟨k, hk⟩ : ∃ k : Nat, MC = (k : Int) := ⟨MC.toNat, by have := HMC.out; omega⟩
          subst hk
          have hkl : k ≤ lb := by have := HMC.out; omega
          have HPA : Hid (Sf.part s b.length = ({ s with cut := -1 }, k, 7)) := Lib.hid (by
            unfold Sf.part
            rw [HCC.out, HLB.out, if_neg hcm, Int.min_comm, HMC.out]
            rfl)
          have HGY0 : Hid (wx.grownBy (wx.setCell ⟨q, 3, none⟩ (.int .i64 (-1))) (some q)) := Lib.hid (grown_setCell wx ⟨q, 3, none⟩ _)
          obtain ⟨wy, hwy⟩ : ∃ wy, wy = wx.setCell ⟨q, 3, none⟩ (.int .i64 (-1)) := ⟨_, rfl⟩
          by_cases hov : RST < (lb : Int)
          · have hovd : decide (RST < (lb : Int)) = true := decide_eq_true hov
            by_cases hk0 : k = 0
            · subst hk0
              have HAP : Hid (app s t b g = ({ s with cut := -1 }, 0, 7)) := Lib.hid (by unfold app; rw [if_pos HRZ.out, HPA.out]; rfl)
              go_wp2
              go_ret2
              rw [HAP.out]
              exact ⟨rfl, RDone.after HB2.out (rdone_self HCUT.out HGY0.out)⟩
            · have HAP : Hid (app s t b g = (wr { s with cut := -1 } t (Sf.bytes s.l t ++ b.take k), 0, 7)) := Lib.hid (by
                unfold app
                rw [if_pos HRZ.out, HPA.out]
                simp only
                rw [if_neg (by omega), if_pos (by omega)])
              have hkz : ((k : Int) == 0) = false := by simpa using hk0
              go_upto_region 14 with fail
              rw [← hwy]
              rw [← hwy] at HCUT HGY0
              have HY := HCUT
              have HGY := HGY0
              clear hwy
              have HYB : Hid (Bytes wy (.slice Ab lb cb) b) := Lib.hid ((HB.out.1.under HB2.out).grownIf HGY.out fun h0 => .inr fun e => HB.out.2 h0 q e rfl)
              have HQY : Hid (q < wy.heap.size) := Lib.hid (HY.out.lt q HY.out.gq)
              have B1 : Hid (Below wy.heap.size wy (wy.alloc (.cells #[] 5))) := Lib.hid ((Below.refl _ _).alloc (Nat.le_refl _) _)
              have E1 : Hid (Own (wy.alloc (.cells #[] 5)) wy.heap.size (.slice (some ⟨wy.heap.size, 0, none⟩) 0 0) []) := Lib.hid (own_empty8 _ _ (Nat.le_refl _))
              have HOL : Hid ((Sf.bytes s.l t).length ≤ 1073741824) := Lib.hid (by have h1 := bytes_le H.out.good.1 t; rw [HUU.out] at h1; omega)
              have HTKL : Hid ((b.take k).length ≤ 1073741824) := Lib.hid (by rw [List.length_take, HLB.out]; omega)
              have hkc1 : (k : Int) ≤ (cb : Int) := by omega
              have hkc2 : (0 : Int) ≤ (k : Int) := by omega
              have HKL : Hid (k ≤ lb ∧ k ≤ cb) := Lib.hid ⟨by omega, by omega⟩
              refine wp_region_noPanic ?_
              refine wp_region_held_drew (S := fun _ => True) (by kernel_rfl) (trivial) (fun hHeld => ?_)
              obtain ⟨wn0, hwn⟩ : ∃ wn, wy.drew = wn := ⟨_, rfl⟩
              have hB0 : Below wy.heap.size wy wn0 := by rw [← hwn]; exact (Below.refl _ _).drew
              rw [hwn]
              clear hwn
              refine takeW 0 (some 59) (oi := ?oT39) (v := ?vT39) ?hiT39 ?hdT39 (by kernel_rfl) (by kernel_rfl) (by kernel_rfl) (fun _ _ _ h => h) ?hwT39 ?hyT39 hHeld ?_
              case hiT39 => (simp only [List.getElem?_toArray, List.getElem?_cons_zero]; with_reducible rfl)
              case hdT39 => rfl
              case hwT39 => rfl
              case hyT39 => (intro w hSw; (try dsimp only at hSw); go_simp; first | done | with_reducible rfl)
              try simp only [Act.put]
              try simp only [List.setIfInBounds_toArray, List.set_cons_zero, List.set_cons_succ]
              refine takeW 1 (some 60) (oi := ?oT40) (v := ?vT40) ?hiT40 ?hdT40 (by kernel_rfl) (by kernel_rfl) (by kernel_rfl) (fun _ _ _ h => h) ?hwT40 ?hyT40 hHeld ?_
              case hiT40 => (simp only [List.getElem?_toArray, List.getElem?_cons_succ, List.getElem?_cons_zero]; with_reducible rfl)
              case hdT40 => rfl
              case hwT40 => rfl
              case hyT40 => (intro w hSw; (try dsimp only at hSw); go_simp; first | done | with_reducible rfl)
              try simp only [Act.put]
              try simp only [List.setIfInBounds_toArray, List.set_cons_zero, List.set_cons_succ]
              refine takeW 3 (some 62) (oi := ?oT41) (v := ?vT41) ?hiT41 ?hdT41 (by kernel_rfl) (by kernel_rfl) (by kernel_rfl) (fun _ _ _ h => h) ?hwT41 ?hyT41 hHeld ?_
              case hiT41 => (simp only [List.getElem?_toArray, List.getElem?_cons_succ, List.getElem?_cons_zero]; with_reducible rfl)
              case hdT41 => rfl
              case hwT41 => rfl
              case hyT41 => (intro w hSw; (try dsimp only at hSw); go_simp; first | done | with_reducible rfl)
              try simp only [Act.put]
              try simp only [List.setIfInBounds_toArray, List.set_cons_zero, List.set_cons_succ]
              refine takeW 4 (some 63) (oi := ?oT42) (v := ?vT42) ?hiT42 ?hdT42 (by kernel_rfl) (by kernel_rfl) (by kernel_rfl) (fun _ _ _ h => h) ?hwT42 ?hyT42 hHeld ?_
              case hiT42 => (simp only [List.getElem?_toArray, List.getElem?_cons_succ, List.getElem?_cons_zero]; with_reducible rfl)
              case hdT42 => rfl
              case hwT42 => rfl
              case hyT42 => (intro w hSw; (try dsimp only at hSw); go_simp; first | done | with_reducible rfl)
              try simp only [Act.put]
              try simp only [List.setIfInBounds_toArray, List.set_cons_zero, List.set_cons_succ]
              refine takeW 7 (some 66) (oi := ?oT43) (v := ?vT43) ?hiT43 ?hdT43 (by kernel_rfl) (by kernel_rfl) (by kernel_rfl) (fun _ _ _ h => h) ?hwT43 ?hyT43 hHeld ?_
              case hiT43 => (simp only [List.getElem?_toArray, List.getElem?_cons_succ, List.getElem?_cons_zero]; with_reducible rfl)
              case hdT43 => rfl
              case hwT43 => rfl
              case hyT43 => (intro w hSw; (try dsimp only at hSw); go_simp; first | done | with_reducible rfl)
              try simp only [Act.put]
              try simp only [List.setIfInBounds_toArray, List.set_cons_zero, List.set_cons_succ]
              refine takeW 8 (some 67) (oi := ?oT44) (v := ?vT44) ?hiT44 ?hdT44 (by kernel_rfl) (by kernel_rfl) (by kernel_rfl) (fun _ _ _ h => h) ?hwT44 ?hyT44 hHeld ?_
              case hiT44 => (simp only [List.getElem?_toArray, List.getElem?_cons_succ, List.getElem?_cons_zero]; with_reducible rfl)
              case hdT44 => rfl
              case hwT44 => rfl
              case hyT44 => (intro w hSw; (try dsimp only at hSw); go_simp; first | done | with_reducible rfl)
              try simp only [Act.put]
              try simp only [List.setIfInBounds_toArray, List.set_cons_zero, List.set_cons_succ]
              refine takeW 9 (some 68) (oi := ?oT45) (v := ?vT45) ?hiT45 ?hdT45 (by kernel_rfl) (by kernel_rfl) (by kernel_rfl) (fun _ _ _ h => h) ?hwT45 ?hyT45 hHeld ?_
              case hiT45 => (simp only [List.getElem?_toArray, List.getElem?_cons_succ, List.getElem?_cons_zero]; with_reducible rfl)
              case hdT45 => rfl
              case hwT45 => rfl
              case hyT45 => (intro w hSw; (try dsimp only at hSw); go_simp; first | done | with_reducible rfl)
              try simp only [Act.put]
              try simp only [List.setIfInBounds_toArray, List.set_cons_zero, List.set_cons_succ]
              refine wpAnyH_ready (rs := [2, 5]) (by kernel_rfl) (by simp) ?_
              refine stepOf 2 (o := ?oT46) ?hiT46 ?hwT46 (fun K hK => ?_) ?_
              case hiT46 => (simp only [List.getElem?_toArray, List.getElem?_cons_succ, List.getElem?_cons_zero]; with_reducible rfl)
              case hwT46 => rfl
              · skip
                go_simp
                obtain ⟨gE, hg⟩ : ∃ g, wn0.heap.size = g := ⟨_, rfl⟩
                obtain ⟨wn1, hwm⟩ : ∃ wm, wn0.alloc (.cells #[] 5) = wm := ⟨_, rfl⟩
                have hO : Own wn1 wy.heap.size (.slice (some ⟨gE, 0, none⟩) 0 0) [] := by rw [← hwm, ← hg]; exact own_empty wn0 _ 0 #[] hB0.size (by unfold maxLen; omega) rfl
                have hB1 : Below wy.heap.size wy wn1 := by rw [← hwm]; exact hB0.alloc hB0.size _
                rw [hwm]
                rw [hg]
                clear hwm hg hB0
                refine hK.out _ _ ?_ (fun hHeld => ?_)
                · trivial
                clear hK K
                try simp only [Act.put]
                try simp only [List.setIfInBounds_toArray, List.set_cons_zero, List.set_cons_succ]
                refine stepOne 5 (o := ?oT47) ?hiT47 (by kernel_rfl) ?hwT47 (fun K hK => ?_)
                case hiT47 => (simp only [List.getElem?_toArray, List.getElem?_cons_succ, List.getElem?_cons_zero]; with_reducible rfl)
                case hwT47 => rfl
                go_simp
                go_at_call 42
                refine (rhas_any t _ q lv G { s with cut := -1 } (HY.out.under hB1) HT.out.1).mono ?_
                rintro e w' ⟨⟨v64, rfl, hbv, hvq⟩, rfl⟩
                have hV : Bytes wn1 v64 (Sf.bytes s.l t) := hbv
                clear hbv hvq
                refine hK.out _ _ ?_ (fun hHeld => ?_)
                · trivial
                clear hK K
                try simp only [Act.put]
                try simp only [List.setIfInBounds_toArray, List.set_cons_zero, List.set_cons_succ]
                refine stepOne 6 (o := ?oT48) ?hiT48 (by kernel_rfl) ?hwT48 (fun K hK => ?_)
                case hiT48 => (simp only [List.getElem?_toArray, List.getElem?_cons_succ, List.getElem?_cons_zero]; with_reducible rfl)
                case hwT48 => rfl
                refine wp_append_bytes (.tmp 61) (.tmp 64) rfl wy.heap.size (.slice (some ⟨gE, 0, none⟩) 0 0) v64 [] (Sf.bytes s.l t) rfl hO rfl hV (by have := HOL.out; simp; omega) hB1.size (Sf.bytes s.l t) rfl ?_
                rintro v65 wn2 ⟨ho, -, -, hb⟩
                replace hO := ho
                have hB2 := hB1.trans hb
                clear ho hb hB1 hV
                refine hK.out _ _ ?_ (fun hHeld => ?_)
                · trivial
                clear hK K
                try simp only [Act.put]
                try simp only [List.setIfInBounds_toArray, List.set_cons_zero, List.set_cons_succ]
                refine stepOne 10 (o := ?oT49) ?hiT49 (by kernel_rfl) ?hwT49 (fun K hK => ?_)
                case hiT49 => (simp only [List.getElem?_toArray, List.getElem?_cons_succ, List.getElem?_cons_zero]; with_reducible rfl)
                case hwT49 => rfl
                refine wp_append_bytes (.tmp 65) (.tmp 68) rfl wy.heap.size v65 (.slice Ab k cb) (Sf.bytes s.l t) (b.take k) rfl hO rfl ((HYB.out.under hB2).head HKL.out.1 HKL.out.2) (by have h1 := HOL.out; have h2 := HTKL.out; omega) hB2.size (Sf.bytes s.l t ++ b.take k) rfl ?_
                rintro v69 wn3 ⟨ho, -, -, hb⟩
                replace hO := ho
                have hB3 := hB2.trans hb
                clear ho hb hB2
                refine hK.out _ _ ?_ (fun hHeld => ?_)
                · trivial
                clear hK K
                try simp only [Act.put]
                try simp only [List.setIfInBounds_toArray, List.set_cons_zero, List.set_cons_succ]
                refine stepOne 11 (o := ?oT50) ?hiT50 (by kernel_rfl) ?hwT50 (fun K hK => ?_)
                case hiT50 => (simp only [List.getElem?_toArray, List.getElem?_cons_succ, List.getElem?_cons_zero]; with_reducible rfl)
                case hwT50 => rfl
                go_simp
                go_at_call 37
                refine (rset_any t (Sf.bytes s.l t ++ b.take k) v69 _ q lv G { s with cut := -1 } (HY.out.under hB3) HT.out.1 HT.out.2 hO.bytes (fun _ j hj => by have h1 := (hO.lt j hj).1; have h2 := HQY.out; omega) HN.out.1 HN.out.2 (by rw [List.length_append]; have h1 := HOL.out; have h2 := HTKL.out; omega)).mono ?_
                rintro e w5 ⟨rfl, hd⟩
                have HD := Lib.hid (RDone.after HB2.out (RDone.afterq HGY.out (RDone.after hB3 hd)))
                clear hd
                refine hK.out _ _ ?_ (fun hHeld => ?_)
                · trivial
                clear hK K
                refine takeW 12 (some 13) (oi := ?oT51) (v := ?vT51) ?hiT51 ?hdT51 (by kernel_rfl) (by kernel_rfl) (by kernel_rfl) (fun _ _ _ h => h) ?hwT51 ?hyT51 hHeld ?_
                case hiT51 => (simp only [List.getElem?_toArray, List.getElem?_cons_succ, List.getElem?_cons_zero]; with_reducible rfl)
                case hdT51 => rfl
                case hwT51 => rfl
                case hyT51 => (intro w hSw; (try dsimp only at hSw); go_simp; first | done | with_reducible rfl)
                try simp only [Act.put]
                try simp only [List.setIfInBounds_toArray, List.set_cons_zero, List.set_cons_succ]
                refine wpAnyH_done (by kernel_rfl) ?_ _
                refine NoPanic.normal ?_
                go_wp2
                go_ret2
                rw [HAP.out]
                exact ⟨rfl, HD.out⟩
              refine stepOf 5 (o := ?oT52) ?hiT52 ?hwT52 (fun K hK => ?_) AllReadyH.nil
              case hiT52 => (simp only [List.getElem?_toArray, List.getElem?_cons_succ, List.getElem?_cons_zero]; with_reducible rfl)
              case hwT52 => rfl
              go_simp
              go_at_call 42
              refine (rhas_any t _ q lv G { s with cut := -1 } (HY.out.under hB0) HT.out.1).mono ?_
              rintro e w' ⟨⟨v64, rfl, hbv, hvq⟩, rfl⟩
              have hV : Bytes wn0 v64 (Sf.bytes s.l t) := hbv
              clear hbv hvq
              refine hK.out _ _ ?_ (fun hHeld => ?_)
              · trivial
              clear hK K
              try simp only [Act.put]
              try simp only [List.setIfInBounds_toArray, List.set_cons_zero, List.set_cons_succ]
              refine stepOne 2 (o := ?oT53) ?hiT53 (by kernel_rfl) ?hwT53 (fun K hK => ?_)
              case hiT53 => (simp only [List.getElem?_toArray, List.getElem?_cons_succ, List.getElem?_cons_zero]; with_reducible rfl)
              case hwT53 => rfl
              go_simp
              obtain ⟨gE, hg⟩ : ∃ g, wn0.heap.size = g := ⟨_, rfl⟩
              obtain ⟨wn1, hwm⟩ : ∃ wm, wn0.alloc (.cells #[] 5) = wm := ⟨_, rfl⟩
              have hO : Own wn1 wy.heap.size (.slice (some ⟨gE, 0, none⟩) 0 0) [] := by rw [← hwm, ← hg]; exact own_empty wn0 _ 0 #[] hB0.size (by unfold maxLen; omega) rfl
              have hB1 : Below wy.heap.size wy wn1 := by rw [← hwm]; exact hB0.alloc hB0.size _
              replace hV : Bytes wn1 v64 (Sf.bytes s.l t) := by rw [← hwm]; exact hV.alloc _
              rw [hwm]
              rw [hg]
              clear hwm hg hB0
              refine hK.out _ _ ?_ (fun hHeld => ?_)
              · trivial
              clear hK K
              try simp only [Act.put]
              try simp only [List.setIfInBounds_toArray, List.set_cons_zero, List.set_cons_succ]
              refine stepOne 6 (o := ?oT54) ?hiT54 (by kernel_rfl) ?hwT54 (fun K hK => ?_)
              case hiT54 => (simp only [List.getElem?_toArray, List.getElem?_cons_succ, List.getElem?_cons_zero]; with_reducible rfl)
              case hwT54 => rfl
              refine wp_append_bytes (.tmp 61) (.tmp 64) rfl wy.heap.size (.slice (some ⟨gE, 0, none⟩) 0 0) v64 [] (Sf.bytes s.l t) rfl hO rfl hV (by have := HOL.out; simp; omega) hB1.size (Sf.bytes s.l t) rfl ?_
              rintro v65 wn2 ⟨ho, -, -, hb⟩
              replace hO := ho
              have hB2 := hB1.trans hb
              clear ho hb hB1 hV
              refine hK.out _ _ ?_ (fun hHeld => ?_)
              · trivial
              clear hK K
              try simp only [Act.put]
              try simp only [List.setIfInBounds_toArray, List.set_cons_zero, List.set_cons_succ]
              refine stepOne 10 (o := ?oT55) ?hiT55 (by kernel_rfl) ?hwT55 (fun K hK => ?_)
              case hiT55 => (simp only [List.getElem?_toArray, List.getElem?_cons_succ, List.getElem?_cons_zero]; with_reducible rfl)
              case hwT55 => rfl
              refine wp_append_bytes (.tmp 65) (.tmp 68) rfl wy.heap.size v65 (.slice Ab k cb) (Sf.bytes s.l t) (b.take k) rfl hO rfl ((HYB.out.under hB2).head HKL.out.1 HKL.out.2) (by have h1 := HOL.out; have h2 := HTKL.out; omega) hB2.size (Sf.bytes s.l t ++ b.take k) rfl ?_
              rintro v69 wn3 ⟨ho, -, -, hb⟩
              replace hO := ho
              have hB3 := hB2.trans hb
              clear ho hb hB2
              refine hK.out _ _ ?_ (fun hHeld => ?_)
              · trivial
              clear hK K
              try simp only [Act.put]
              try simp only [List.setIfInBounds_toArray, List.set_cons_zero, List.set_cons_succ]
              refine stepOne 11 (o := ?oT56) ?hiT56 (by kernel_rfl) ?hwT56 (fun K hK => ?_)
              case hiT56 => (simp only [List.getElem?_toArray, List.getElem?_cons_succ, List.getElem?_cons_zero]; with_reducible rfl)
              case hwT56 => rfl
              go_simp
              go_at_call 37
              refine (rset_any t (Sf.bytes s.l t ++ b.take k) v69 _ q lv G { s with cut := -1 } (HY.out.under hB3) HT.out.1 HT.out.2 hO.bytes (fun _ j hj => by have h1 := (hO.lt j hj).1; have h2 := HQY.out; omega) HN.out.1 HN.out.2 (by rw [List.length_append]; have h1 := HOL.out; have h2 := HTKL.out; omega)).mono ?_
              rintro e w5 ⟨rfl, hd⟩
              have HD := Lib.hid (RDone.after HB2.out (RDone.afterq HGY.out (RDone.after hB3 hd)))
              clear hd
              refine hK.out _ _ ?_ (fun hHeld => ?_)
              · trivial
              clear hK K
              refine takeW 12 (some 13) (oi := ?oT57) (v := ?vT57) ?hiT57 ?hdT57 (by kernel_rfl) (by kernel_rfl) (by kernel_rfl) (fun _ _ _ h => h) ?hwT57 ?hyT57 hHeld ?_
              case hiT57 => (simp only [List.getElem?_toArray, List.getElem?_cons_succ, List.getElem?_cons_zero]; with_reducible rfl)
              case hdT57 => rfl
              case hwT57 => rfl
              case hyT57 => (intro w hSw; (try dsimp only at hSw); go_simp; first | done | with_reducible rfl)
              try simp only [Act.put]
              try simp only [List.setIfInBounds_toArray, List.set_cons_zero, List.set_cons_succ]
              refine wpAnyH_done (by kernel_rfl) ?_ _
              refine NoPanic.normal ?_
              go_wp2
              go_ret2
              rw [HAP.out]
              exact ⟨rfl, HD.out⟩
          · have hovd : decide (RST < (lb : Int)) = false := decide_eq_false hov
            by_cases hk0 : k = 0
            · subst hk0
              have HAP : Hid (app s t b g = ({ s with cut := -1 }, 0, 7)) := Lib.hid (by unfold app; rw [if_pos HRZ.out, HPA.out]; rfl)
              go_wp2
              go_ret2
              rw [HAP.out]
              exact ⟨rfl, RDone.after HB2.out (rdone_self HCUT.out HGY0.out)⟩
            · have HAP : Hid (app s t b g = (wr { s with cut := -1 } t (Sf.bytes s.l t ++ b.take k), 0, 7)) := Lib.hid (by
                unfold app
                rw [if_pos HRZ.out, HPA.out]
                simp only
                rw [if_neg (by omega), if_pos (by omega)])
              have hkz : ((k : Int) == 0) = false := by simpa using hk0
              go_upto_region 14 with fail
              rw [← hwy]
              rw [← hwy] at HCUT HGY0
              have HY := HCUT
              have HGY := HGY0
              clear hwy
              have HYB : Hid (Bytes wy (.slice Ab lb cb) b) := Lib.hid ((HB.out.1.under HB2.out).grownIf HGY.out fun h0 => .inr fun e => HB.out.2 h0 q e rfl)
              have HQY : Hid (q < wy.heap.size) := Lib.hid (HY.out.lt q HY.out.gq)
              have B1 : Hid (Below wy.heap.size wy (wy.alloc (.cells #[] 5))) := Lib.hid ((Below.refl _ _).alloc (Nat.le_refl _) _)
              have E1 : Hid (Own (wy.alloc (.cells #[] 5)) wy.heap.size (.slice (some ⟨wy.heap.size, 0, none⟩) 0 0) []) := Lib.hid (own_empty8 _ _ (Nat.le_refl _))
              have HOL : Hid ((Sf.bytes s.l t).length ≤ 1073741824) := Lib.hid (by have h1 := bytes_le H.out.good.1 t; rw [HUU.out] at h1; omega)
              have HTKL : Hid ((b.take k).length ≤ 1073741824) := Lib.hid (by rw [List.length_take, HLB.out]; omega)
              have hkc1 : (k : Int) ≤ (cb : Int) := by omega
              have hkc2 : (0 : Int) ≤ (k : Int) := by omega
              have HKL : Hid (k ≤ lb ∧ k ≤ cb) := Lib.hid ⟨by omega, by omega⟩
              refine wp_region_noPanic ?_
              refine wp_region_held_drew (S := fun _ => True) (by kernel_rfl) (trivial) (fun hHeld => ?_)
              obtain ⟨wn0, hwn⟩ : ∃ wn, wy.drew = wn := ⟨_, rfl⟩
              have hB0 : Below wy.heap.size wy wn0 := by rw [← hwn]; exact (Below.refl _ _).drew
              rw [hwn]
              clear hwn
              refine takeW 0 (some 59) (oi := ?oT58) (v := ?vT58) ?hiT58 ?hdT58 (by kernel_rfl) (by kernel_rfl) (by kernel_rfl) (fun _ _ _ h => h) ?hwT58 ?hyT58 hHeld ?_
              case hiT58 => (simp only [List.getElem?_toArray, List.getElem?_cons_zero]; with_reducible rfl)
              case hdT58 => rfl
              case hwT58 => rfl
              case hyT58 => (intro w hSw; (try dsimp only at hSw); go_simp; first | done | with_reducible rfl)
              try simp only [Act.put]
              try simp only [List.setIfInBounds_toArray, List.set_cons_zero, List.set_cons_succ]
              refine takeW 1 (some 60) (oi := ?oT59) (v := ?vT59) ?hiT59 ?hdT59 (by kernel_rfl) (by kernel_rfl) (by kernel_rfl) (fun _ _ _ h => h) ?hwT59 ?hyT59 hHeld ?_
              case hiT59 => (simp only [List.getElem?_toArray, List.getElem?_cons_succ, List.getElem?_cons_zero]; with_reducible rfl)
              case hdT59 => rfl
              case hwT59 => rfl
              case hyT59 => (intro w hSw; (try dsimp only at hSw); go_simp; first | done | with_reducible rfl)
              try simp only [Act.put]
              try simp only [List.setIfInBounds_toArray, List.set_cons_zero, List.set_cons_succ]
              refine takeW 3 (some 62) (oi := ?oT60) (v := ?vT60) ?hiT60 ?hdT60 (by kernel_rfl) (by kernel_rfl) (by kernel_rfl) (fun _ _ _ h => h) ?hwT60 ?hyT60 hHeld ?_
              case hiT60 => (simp only [List.getElem?_toArray, List.getElem?_cons_succ, List.getElem?_cons_zero]; with_reducible rfl)
              case hdT60 => rfl
              case hwT60 => rfl
              case hyT60 => (intro w hSw; (try dsimp only at hSw); go_simp; first | done | with_reducible rfl)
              try simp only [Act.put]
              try simp only [List.setIfInBounds_toArray, List.set_cons_zero, List.set_cons_succ]
              refine takeW 4 (some 63) (oi := ?oT61) (v := ?vT61) ?hiT61 ?hdT61 (by kernel_rfl) (by kernel_rfl) (by kernel_rfl) (fun _ _ _ h => h) ?hwT61 ?hyT61 hHeld ?_
              case hiT61 => (simp only [List.getElem?_toArray, List.getElem?_cons_succ, List.getElem?_cons_zero]; with_reducible rfl)
              case hdT61 => rfl
              case hwT61 => rfl
              case hyT61 => (intro w hSw; (try dsimp only at hSw); go_simp; first | done | with_reducible rfl)
              try simp only [Act.put]
              try simp only [List.setIfInBounds_toArray, List.set_cons_zero, List.set_cons_succ]
              refine takeW 7 (some 66) (oi := ?oT62) (v := ?vT62) ?hiT62 ?hdT62 (by kernel_rfl) (by kernel_rfl) (by kernel_rfl) (fun _ _ _ h => h) ?hwT62 ?hyT62 hHeld ?_
              case hiT62 => (simp only [List.getElem?_toArray, List.getElem?_cons_succ, List.getElem?_cons_zero]; with_reducible rfl)
              case hdT62 => rfl
              case hwT62 => rfl
              case hyT62 => (intro w hSw; (try dsimp only at hSw); go_simp; first | done | with_reducible rfl)
              try simp only [Act.put]
              try simp only [List.setIfInBounds_toArray, List.set_cons_zero, List.set_cons_succ]
              refine takeW 8 (some 67) (oi := ?oT63) (v := ?vT63) ?hiT63 ?hdT63 (by kernel_rfl) (by kernel_rfl) (by kernel_rfl) (fun _ _ _ h => h) ?hwT63 ?hyT63 hHeld ?_
              case hiT63 => (simp only [List.getElem?_toArray, List.getElem?_cons_succ, List.getElem?_cons_zero]; with_reducible rfl)
              case hdT63 => rfl
              case hwT63 => rfl
              case hyT63 => (intro w hSw; (try dsimp only at hSw); go_simp; first | done | with_reducible rfl)
              try simp only [Act.put]
              try simp only [List.setIfInBounds_toArray, List.set_cons_zero, List.set_cons_succ]
              refine takeW 9 (some 68) (oi := ?oT64) (v := ?vT64) ?hiT64 ?hdT64 (by kernel_rfl) (by kernel_rfl) (by kernel_rfl) (fun _ _ _ h => h) ?hwT64 ?hyT64 hHeld ?_
              case hiT64 => (simp only [List.getElem?_toArray, List.getElem?_cons_succ, List.getElem?_cons_zero]; with_reducible rfl)
              case hdT64 => rfl
              case hwT64 => rfl
              case hyT64 => (intro w hSw; (try dsimp only at hSw); go_simp; first | done | with_reducible rfl)
              try simp only [Act.put]
              try simp only [List.setIfInBounds_toArray, List.set_cons_zero, List.set_cons_succ]
              refine wpAnyH_ready (rs := [2, 5]) (by kernel_rfl) (by simp) ?_
              refine stepOf 2 (o := ?oT65) ?hiT65 ?hwT65 (fun K hK => ?_) ?_
              case hiT65 => (simp only [List.getElem?_toArray, List.getElem?_cons_succ, List.getElem?_cons_zero]; with_reducible rfl)
              case hwT65 => rfl
              · skip
                go_simp
                obtain ⟨gE, hg⟩ : ∃ g, wn0.heap.size = g := ⟨_, rfl⟩
                obtain ⟨wn1, hwm⟩ : ∃ wm, wn0.alloc (.cells #[] 5) = wm := ⟨_, rfl⟩
                have hO : Own wn1 wy.heap.size (.slice (some ⟨gE, 0, none⟩) 0 0) [] := by rw [← hwm, ← hg]; exact own_empty wn0 _ 0 #[] hB0.size (by unfold maxLen; omega) rfl
                have hB1 : Below wy.heap.size wy wn1 := by rw [← hwm]; exact hB0.alloc hB0.size _
                rw [hwm]
                rw [hg]
                clear hwm hg hB0
                refine hK.out _ _ ?_ (fun hHeld => ?_)
                · trivial
                clear hK K
                try simp only [Act.put]
                try simp only [List.setIfInBounds_toArray, List.set_cons_zero, List.set_cons_succ]
                refine stepOne 5 (o := ?oT66) ?hiT66 (by kernel_rfl) ?hwT66 (fun K hK => ?_)
                case hiT66 => (simp only [List.getElem?_toArray, List.getElem?_cons_succ, List.getElem?_cons_zero]; with_reducible rfl)
                case hwT66 => rfl
                go_simp
                go_at_call 42
                refine (rhas_any t _ q lv G { s with cut := -1 } (HY.out.under hB1) HT.out.1).mono ?_
                rintro e w' ⟨⟨v64, rfl, hbv, hvq⟩, rfl⟩
                have hV : Bytes wn1 v64 (Sf.bytes s.l t) := hbv
                clear hbv hvq
                refine hK.out _ _ ?_ (fun hHeld => ?_)
                · trivial
                clear hK K
                try simp only [Act.put]
                try simp only [List.setIfInBounds_toArray, List.set_cons_zero, List.set_cons_succ]
                refine stepOne 6 (o := ?oT67) ?hiT67 (by kernel_rfl) ?hwT67 (fun K hK => ?_)
                case hiT67 => (simp only [List.getElem?_toArray, List.getElem?_cons_succ, List.getElem?_cons_zero]; with_reducible rfl)
                case hwT67 => rfl
                refine wp_append_bytes (.tmp 61) (.tmp 64) rfl wy.heap.size (.slice (some ⟨gE, 0, none⟩) 0 0) v64 [] (Sf.bytes s.l t) rfl hO rfl hV (by have := HOL.out; simp; omega) hB1.size (Sf.bytes s.l t) rfl ?_
                rintro v65 wn2 ⟨ho, -, -, hb⟩
                replace hO := ho
                have hB2 := hB1.trans hb
                clear ho hb hB1 hV
                refine hK.out _ _ ?_ (fun hHeld => ?_)
                · trivial
                clear hK K
                try simp only [Act.put]
                try simp only [List.setIfInBounds_toArray, List.set_cons_zero, List.set_cons_succ]
                refine stepOne 10 (o := ?oT68) ?hiT68 (by kernel_rfl) ?hwT68 (fun K hK => ?_)
                case hiT68 => (simp only [List.getElem?_toArray, List.getElem?_cons_succ, List.getElem?_cons_zero]; with_reducible rfl)
                case hwT68 => rfl
                refine wp_append_bytes (.tmp 65) (.tmp 68) rfl wy.heap.size v65 (.slice Ab k cb) (Sf.bytes s.l t) (b.take k) rfl hO rfl ((HYB.out.under hB2).head HKL.out.1 HKL.out.2) (by have h1 := HOL.out; have h2 := HTKL.out; omega) hB2.size (Sf.bytes s.l t ++ b.take k) rfl ?_
                rintro v69 wn3 ⟨ho, -, -, hb⟩
                replace hO := ho
                have hB3 := hB2.trans hb
                clear ho hb hB2
                refine hK.out _ _ ?_ (fun hHeld => ?_)
                · trivial
                clear hK K
                try simp only [Act.put]
                try simp only [List.setIfInBounds_toArray, List.set_cons_zero, List.set_cons_succ]
                refine stepOne 11 (o := ?oT69) ?hiT69 (by kernel_rfl) ?hwT69 (fun K hK => ?_)
                case hiT69 => (simp only [List.getElem?_toArray, List.getElem?_cons_succ, List.getElem?_cons_zero]; with_reducible rfl)
                case hwT69 => rfl
                go_simp
                go_at_call 37
                refine (rset_any t (Sf.bytes s.l t ++ b.take k) v69 _ q lv G { s with cut := -1 } (HY.out.under hB3) HT.out.1 HT.out.2 hO.bytes (fun _ j hj => by have h1 := (hO.lt j hj).1; have h2 := HQY.out; omega) HN.out.1 HN.out.2 (by rw [List.length_append]; have h1 := HOL.out; have h2 := HTKL.out; omega)).mono ?_
                rintro e w5 ⟨rfl, hd⟩
                have HD := Lib.hid (RDone.after HB2.out (RDone.afterq HGY.out (RDone.after hB3 hd)))
                clear hd
                refine hK.out _ _ ?_ (fun hHeld => ?_)
                · trivial
                clear hK K
                refine takeW 12 (some 13) (oi := ?oT70) (v := ?vT70) ?hiT70 ?hdT70 (by kernel_rfl) (by kernel_rfl) (by kernel_rfl) (fun _ _ _ h => h) ?hwT70 ?hyT70 hHeld ?_
                case hiT70 => (simp only [List.getElem?_toArray, List.getElem?_cons_succ, List.getElem?_cons_zero]; with_reducible rfl)
                case hdT70 => rfl
                case hwT70 => rfl
                case hyT70 => (intro w hSw; (try dsimp only at hSw); go_simp; first | done | with_reducible rfl)
                try simp only [Act.put]
                try simp only [List.setIfInBounds_toArray, List.set_cons_zero, List.set_cons_succ]
                refine wpAnyH_done (by kernel_rfl) ?_ _
                refine NoPanic.normal ?_
                go_wp2
                go_ret2
                rw [HAP.out]
                exact ⟨rfl, HD.out⟩
              refine stepOf 5 (o := ?oT71) ?hiT71 ?hwT71 (fun K hK => ?_) AllReadyH.nil
              case hiT71 => (simp only [List.getElem?_toArray, List.getElem?_cons_succ, List.getElem?_cons_zero]; with_reducible rfl)
              case hwT71 => rfl
              go_simp
              go_at_call 42
              refine (rhas_any t _ q lv G { s with cut := -1 } (HY.out.under hB0) HT.out.1).mono ?_
              rintro e w' ⟨⟨v64, rfl, hbv, hvq⟩, rfl⟩
              have hV : Bytes wn0 v64 (Sf.bytes s.l t) := hbv
              clear hbv hvq
              refine hK.out _ _ ?_ (fun hHeld => ?_)
              · trivial
              clear hK K
              try simp only [Act.put]
              try simp only [List.setIfInBounds_toArray, List.set_cons_zero, List.set_cons_succ]
              refine stepOne 2 (o := ?oT72) ?hiT72 (by kernel_rfl) ?hwT72 (fun K hK => ?_)
              case hiT72 => (simp only [List.getElem?_toArray, List.getElem?_cons_succ, List.getElem?_cons_zero]; with_reducible rfl)
              case hwT72 => rfl
              go_simp
              obtain ⟨gE, hg⟩ : ∃ g, wn0.heap.size = g := ⟨_, rfl⟩
              obtain ⟨wn1, hwm⟩ : ∃ wm, wn0.alloc (.cells #[] 5) = wm := ⟨_, rfl⟩
              have hO : Own wn1 wy.heap.size (.slice (some ⟨gE, 0, none⟩) 0 0) [] := by rw [← hwm, ← hg]; exact own_empty wn0 _ 0 #[] hB0.size (by unfold maxLen; omega) rfl
              have hB1 : Below wy.heap.size wy wn1 := by rw [← hwm]; exact hB0.alloc hB0.size _
              replace hV : Bytes wn1 v64 (Sf.bytes s.l t) := by rw [← hwm]; exact hV.alloc _
              rw [hwm]
              rw [hg]
              clear hwm hg hB0
              refine hK.out _ _ ?_ (fun hHeld => ?_)
              · trivial
              clear hK K
              try simp only [Act.put]
              try simp only [List.setIfInBounds_toArray, List.set_cons_zero, List.set_cons_succ]
              refine stepOne 6 (o := ?oT73) ?hiT73 (by kernel_rfl) ?hwT73 (fun K hK => ?_)
              case hiT73 => (simp only [List.getElem?_toArray, List.getElem?_cons_succ, List.getElem?_cons_zero]; with_reducible rfl)
              case hwT73 => rfl
              refine wp_append_bytes (.tmp 61) (.tmp 64) rfl wy.heap.size (.slice (some ⟨gE, 0, none⟩) 0 0) v64 [] (Sf.bytes s.l t) rfl hO rfl hV (by have := HOL.out; simp; omega) hB1.size (Sf.bytes s.l t) rfl ?_
              rintro v65 wn2 ⟨ho, -, -, hb⟩
              replace hO := ho
              have hB2 := hB1.trans hb
              clear ho hb hB1 hV
              refine hK.out _ _ ?_ (fun hHeld => ?_)
              · trivial
              clear hK K
              try simp only [Act.put]
              try simp only [List.setIfInBounds_toArray, List.set_cons_zero, List.set_cons_succ]
              refine stepOne 10 (o := ?oT74) ?hiT74 (by kernel_rfl) ?hwT74 (fun K hK => ?_)
              case hiT74 => (simp only [List.getElem?_toArray, List.getElem?_cons_succ, List.getElem?_cons_zero]; with_reducible rfl)
              case hwT74 => rfl
              refine wp_append_bytes (.tmp 65) (.tmp 68) rfl wy.heap.size v65 (.slice Ab k cb) (Sf.bytes s.l t) (b.take k) rfl hO rfl ((HYB.out.under hB2).head HKL.out.1 HKL.out.2) (by have h1 := HOL.out; have h2 := HTKL.out; omega) hB2.size (Sf.bytes s.l t ++ b.take k) rfl ?_
              rintro v69 wn3 ⟨ho, -, -, hb⟩
              replace hO := ho
              have hB3 := hB2.trans hb
              clear ho hb hB2
              refine hK.out _ _ ?_ (fun hHeld => ?_)
              · trivial
              clear hK K
              try simp only [Act.put]
              try simp only [List.setIfInBounds_toArray, List.set_cons_zero, List.set_cons_succ]
              refine stepOne 11 (o := ?oT75) ?hiT75 (by kernel_rfl) ?hwT75 (fun K hK => ?_)
              case hiT75 => (simp only [List.getElem?_toArray, List.getElem?_cons_succ, List.getElem?_cons_zero]; with_reducible rfl)
              case hwT75 => rfl
              go_simp
              go_at_call 37
              refine (rset_any t (Sf.bytes s.l t ++ b.take k) v69 _ q lv G { s with cut := -1 } (HY.out.under hB3) HT.out.1 HT.out.2 hO.bytes (fun _ j hj => by have h1 := (hO.lt j hj).1; have h2 := HQY.out; omega) HN.out.1 HN.out.2 (by rw [List.length_append]; have h1 := HOL.out; have h2 := HTKL.out; omega)).mono ?_
              rintro e w5 ⟨rfl, hd⟩
              have HD := Lib.hid (RDone.after HB2.out (RDone.afterq HGY.out (RDone.after hB3 hd)))
              clear hd
              refine hK.out _ _ ?_ (fun hHeld => ?_)
              · trivial
              clear hK K
              refine takeW 12 (some 13) (oi := ?oT76) (v := ?vT76) ?hiT76 ?hdT76 (by kernel_rfl) (by kernel_rfl) (by kernel_rfl) (fun _ _ _ h => h) ?hwT76 ?hyT76 hHeld ?_
              case hiT76 => (simp only [List.getElem?_toArray, List.getElem?_cons_succ, List.getElem?_cons_zero]; with_reducible rfl)
              case hdT76 => rfl
              case hwT76 => rfl
              case hyT76 => (intro w hSw; (try dsimp only at hSw); go_simp; first | done | with_reducible rfl)
              try simp only [Act.put]
              try simp only [List.setIfInBounds_toArray, List.set_cons_zero, List.set_cons_succ]
              refine wpAnyH_done (by kernel_rfl) ?_ _
              refine NoPanic.normal ?_
              go_wp2
              go_ret2
              rw [HAP.out]
              exact ⟨rfl, HD.out⟩
end Go.Proofs.Ytlfgadcfjjjbfaa
