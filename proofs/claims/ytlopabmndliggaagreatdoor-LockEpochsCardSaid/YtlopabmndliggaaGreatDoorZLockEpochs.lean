/- LockEpochs: taken, freed, and taken again, a lock's epoch rises by one each time; the statement's walk. -/
import Derived.Test.YtlopabmndliggaaGreatDoorZLockLost
import Derived.Test.YtlopabmndliggaaGreatDoorZInts
namespace Go.Proofs.YtlopabmndliggaaGreatDoor
set_option maxRecDepth 100000
open Go.ChangeShapes Go.WideShapes Go.ChangeAt Go.RowKit Go.ChangeMaps
open Sf Lk

/-- The lock's file behind i rounds: open for whoever comes. -/
def Ep (s : S) (i now : Nat) : Prop := (i = 0 ∧ s = lkN 10000 0 (-1)) ∨ (∃ (L : Lo) (k n : Nat), 0 < i ∧ s = lkO clm L.bytes k 10000 n (-1) ∧ OkL L ∧ L.c = (i : Int) ∧ L.d ≤ (now : Int) ∧ n ≤ 10 * i)
theorem Ep.bounds {s : S} {i now : Nat} (h : Ep s i now) (hi : i ≤ 41) : s.next ≤ 1000000 ∧ used s.l ≤ 1000000 := by
  rcases h with ⟨_, rfl⟩ | ⟨L, k, n, _, rfl, _, _, _, h⟩
  · exact ⟨by decide, by decide⟩
  · exact ⟨by show n ≤ 1000000; omega, used_clm L⟩
theorem ep_take {s : S} {i now u j T : Nat} (h : Ep s i now) (hi : i ≤ 40) (hn : now ≤ 90 * i) (hu : u ≤ 3) (hj : i + 1 = j) (hT : now + 30 = T) : ∃ k n, n ≤ 10 * i + 2 ∧ (takeRun 6 s (Lk.begin clm (u : Int) (j : Int) 3 30) (now : Int)).1 = lkO clm (Lo.bytes ⟨(u : Int), (j : Int), (j : Int), (T : Int)⟩) k 10000 n (-1) ∧ takenO (takeRun 6 s (Lk.begin clm (u : Int) (j : Int) 3 30) (now : Int)) = some ((k : Int), ⟨(u : Int), (j : Int), (j : Int), (T : Int)⟩) := by
  have hok : ∀ e : Int, e = (j : Int) → OkL ⟨(u : Int), (j : Int), e, (now : Int) + 30⟩ := fun e he => by subst he; simp [OkL]; omega
  have e2 : ((now : Int) + 30) = (T : Int) := by omega
  rcases h with ⟨rfl, rfl⟩ | ⟨L, k, n, h0, rfl, hL, hc, hd, hn2⟩
  · obtain rfl : j = 1 := by omega
    have := taken_new (r := 10000) (c := -1) (n := 0) (who := (u : Int)) (inc := ((1 : Nat) : Int)) (now := (now : Int)) (by omega) (by omega) (hok 1 rfl)
    rw [e2] at this
    exact ⟨1, 1, by omega, this⟩
  · have := taken_open (L := L) (k := k) (n := n) (r := 10000) (c := -1) (who := (u : Int)) (inc := (j : Int)) (now := (now : Int)) hL (by omega) (by omega) (fun h => by have := h.2.2; omega) (.inl hd) (hok _ (by omega))
    rw [e2, hc, show (i : Int) + 1 = (j : Int) by omega] at this
    exact ⟨n + 2, n + 2, by omega, this⟩
theorem okl_till {u j R : Nat} (hu : u ≤ 3) (hj : j ≤ 41) (hR : R ≤ 1000000) : OkL ⟨(u : Int), (j : Int), (j : Int), (R : Int)⟩ := by simp [OkL]; omega

set_option maxRecDepth 100000 in
set_option maxHeartbeats 8000000 in
theorem epochs_any (v : Value) (l : List Int) (w : World) (hT : Pow w) (hl : Ints w v l) : Calls Tryz.prog 3 #[v] w fun e w' => e = .returned (.bool true) ∧ Below w.heap.size w w' := by
  have HT := Lib.hid hT
  have HL := Lib.hid hl
  obtain ⟨_, hlen, A, c, rfl, _, _⟩ := hl
  obtain ⟨N, hN⟩ : ∃ N, l.length = N := ⟨_, rfl⟩
  rw [hN] at HL ⊢
  have kc : ({ data := #[99, 108, 97, 105, 109, 47, 97] } : ByteArray) = str clm := rfl
  have kt : ({ data := #[116, 109, 112] } : ByteArray) = str [116, 109, 112] := rfl
  clear hT hlen hN
  go_enter Tryz.func3, Tryz.ntmps3
  go_wp2_with fail
  refine (fs_new 10000 w).mono ?_
  rintro e w1 ⟨p, rfl, h1⟩
  have H1 : Hid (Fk (fun _ => False) w w1 p (lkN 10000 0 (-1))) := Lib.hid h1.keep
  clear h1
  go_wp2_with fail
  go_loopg [4, 5, 6] 41 (fun gg s4 s5 s6 wr => ∃ (i now : Nat) (s : S), i ≤ 40 ∧ 41 - i ≤ gg ∧ s4 = .int .i64 (now : Int) ∧ s5 = .int .i64 (i : Int) ∧ s6 = .int .i64 (i : Int) ∧ Hid (now ≤ 90 * i) ∧ Hid (Ep s i now) ∧ Hid (Fk (fun _ => False) w wr p s))
  case atStart => exact ⟨0, 0, _, by omega, by omega, rfl, rfl, rfl, Lib.hid (by omega), Lib.hid (.inl ⟨rfl, rfl⟩), H1⟩
  case round =>
    clear H1
    obtain ⟨i, now, s, hi, hgg, rfl, rfl, rfl, HNW, HEP, HF⟩ := hrel
    obtain ⟨wz, rfl⟩ : ∃ wx : World, wx = wr := ⟨_, rfl⟩
    by_cases h12 : i < N ∧ i < 40
    · have h1I : (i : Int) < (N : Int) := by omega
      have h2I : (i : Int) < 40 := by omega
      obtain ⟨b, off, rfl, kx⟩ := (HL.out.under HF.out.fs.below).at h12.1
      obtain ⟨z, hz⟩ : ∃ z, l.getD i 0 = z := ⟨_, rfl⟩
      rw [hz] at kx
      obtain ⟨u, hu, hul⟩ := lk_and z 3 (by omega)
      have hu' : bits .and .i64 z 3 = (u : Int) := hu
      obtain ⟨r, hr, hrl⟩ := lk_and (z / 4) 3 (by omega)
      have hr' : bits .and .i64 (z / 4) 3 = (r : Int) := hr
      obtain ⟨j, hj⟩ : ∃ j, i + 1 = j := ⟨_, rfl⟩
      obtain ⟨T, hTT⟩ : ∃ T, now + 30 = T := ⟨_, rfl⟩
      have wj : IntKind.i64.wrap ((i : Int) + 1) = (j : Int) := by rw [IntWalk.i64_in _ (by omega)]; omega
      have wT : IntKind.i64.wrap ((now : Int) + 30) = (T : Int) := by rw [IntWalk.i64_in _ (by have := HNW.out; omega)]; omega
      obtain ⟨k, n, hn, hp⟩ := ep_take HEP.out hi HNW.out hul hj hTT
      have C := Lib.hid (taken_is hp HF.out (HT.out.under HF.out.fs.below) (HEP.out.bounds (by omega)).1 (HEP.out.bounds (by omega)).2)
      have HN : Hid (n ≤ 10 * i + 2 ∧ i < 40 ∧ now ≤ 90 * i ∧ u ≤ 3 ∧ i + 1 = j ∧ now + 30 = T ∧ r ≤ 3) := Lib.hid ⟨hn, h12.2, HNW.out, hul, hj, hTT, hrl⟩
      clear hz hu hr hul hrl hj hTT hn hp HEP h12
      go_wp2_with fail
      refine C.out.mono ?_
      rintro e w2 ⟨rfl, h2, -⟩
      have H2 := Lib.hid h2
      have kx0 : w.cell? ⟨b, off + i, none⟩ = some (.int .i64 z) := by
        obtain ⟨b', off', e, h⟩ := HL.out.at (k := i) (by omega)
        injection e with e
        injection e with e1 e2
        subst e1 e2
        have := (cell_later HF.out.fs.below h).symm.trans kx
        rw [h, ← this]
      have KX0 := Lib.hid kx0
      clear h2 C kx0 kx
      unfold heldV
      obtain ⟨w3, q9, q10, K3, hw3, hq9, hq10, h3, m9, m10, -, b9, b10, bb3⟩ := H2.out.boxes #[.string (str clm), .int .i64 (k : Int)] #[.int .i64 (u : Int), .int .i64 (j : Int), .int .i64 (j : Int), .int .i64 (T : Int)]
      obtain rfl : q10 = q9 + 1 := by omega
      have kx := cell_later h3.fs.below KX0.out
      have H3 := Lib.hid h3
      have M3 : Hid (K3 q9 ∧ K3 (q9 + 1)) := Lib.hid ⟨m9, m10⟩
      have B9 := Lib.hid b9
      have B10 := Lib.hid b10
      have l0 := b10.at 0
      have l1 := b10.at 1
      have l2 := b10.at 2
      have l3 := b10.at 3
      have hjj : ((j : Int) != (j : Int)) = false := by simp
      have huu : ((u : Int) != (u : Int)) = false := by simp
      have hTT : ((T : Int) != (T : Int)) = false := by simp
      clear h3 m9 m10 b9 b10 bb3 H2 HF
      go_upto_block 2 with fail
      clear hw3 hq9 hq10 l0 l1 l2 l3 kx HL hjj huu hTT
      go_cut [4] (fun s4 wx => ∃ (now' : Nat) (s' : S), s4 = .int .i64 (now' : Int) ∧ Hid (now' ≤ 90 * j) ∧ Hid (Ep s' j now') ∧ Hid (Fk (fun _ => False) w wx p s'))
      case first =>
        have l0 := B10.out.at 0
        have l1 := B10.out.at 1
        have l2 := B10.out.at 2
        have l3 := B10.out.at 3
        have i0 := B9.out.at 0
        have i1 := B9.out.at 1
        have hz3 := B10.out.size
        by_cases hr0 : r = 0
        · subst hr0
          go_wp2_with fail
          refine (free_any clm (k : Int) ⟨(u : Int), (j : Int), (j : Int), (T : Int)⟩ 7 w3 (HT.out.under H3.out.fs.below)).mono ?_
          rintro e w4 ⟨gw, rfl, hg, hx, hb4⟩
          obtain ⟨K4, h4, m4, n4⟩ := H3.out.add hb4 hg (Blk.size hx)
          have H4 := Lib.hid h4
          have C5 := Lib.hid (written_any 1 (wrun_ok (fl := clm) (T := Nm.temp (Nm.held (u : Int) 999) (Nm.held (j : Int) 99999) (Nm.held 7 99999)) (b := Lo.bytes ⟨(u : Int), (j : Int), (j : Int), (T : Int)⟩) (k := k) (n := n) (r := 10000) (c := -1) (σ := (k : Int)) file_clm (Nm.temp_file (Nm.held_le _ _) (Nm.held_le _ _) (Nm.held_le _ _)) (lt_temp (by omega)) ⟨(u : Int), (j : Int), (j : Int), 0⟩ rfl (by rw [Lo.bytes_len]; decide) 4) (by decide) h4 m4 (by have := H3.out.fs.below.size; omega) hx nice_clm (nice_temp _ _ _ (Nm.held_le _ _) (Nm.held_le _ _) (Nm.held_le _ _)) (by have := HN.out; show n ≤ 1000000; omega) (used_clm _))
          clear l0 l1 l2 l3 i0 i1 hg hx hb4 h4 m4 n4 H3 B9 B10 M3
          go_wp2_with fail
          refine C5.out.mono ?_
          rintro e w5 ⟨rfl, h5, -, -⟩
          have H5 := Lib.hid h5.none
          clear h5 C5
          go_wp2
          go_meet
          exact ⟨now, _, rfl, Lib.hid (by have := HN.out; omega), Lib.hid (.inr ⟨⟨(u : Int), (j : Int), (j : Int), 0⟩, n + 2, n + 2, by have := HN.out; omega, rfl, okl_till (R := 0) (by have := HN.out; omega) (by have := HN.out; omega) (by omega), rfl, by show (0 : Int) ≤ now; omega, by have := HN.out; omega⟩), H5⟩
        · have hr0I := nat_ne hr0
          by_cases hr1 : r = 1
          · subst hr1
            obtain ⟨R, hRR⟩ : ∃ R, now + 90 = R := ⟨_, rfl⟩
            have wR : IntKind.i64.wrap ((now : Int) + 90) = (R : Int) := by rw [IntWalk.i64_in _ (by have := HN.out; omega)]; omega
            have wR2 : IntKind.i64.wrap ((now : Int) + 89) = ((R - 1 : Nat) : Int) := by rw [IntWalk.i64_in _ (by have := HN.out; omega)]; omega
            have HR : Hid (now + 90 = R) := Lib.hid hRR
            have HOKR : Hid (OkL ⟨(u : Int), (j : Int), (j : Int), (R : Int)⟩) := Lib.hid (okl_till (by have := HN.out; omega) (by have := HN.out; omega) (by have := HN.out; omega))
            clear hr0 hRR
            go_wp2_with fail
            refine (renew_any clm (k : Int) ⟨(u : Int), (j : Int), (j : Int), (T : Int)⟩ 7 (R : Int) w3 (HT.out.under H3.out.fs.below)).mono ?_
            rintro e w4 ⟨gw, rfl, hg, hx, hb4⟩
            obtain ⟨K4, h4, m4, n4⟩ := H3.out.add hb4 hg (Blk.size hx)
            have C5 := Lib.hid (written_any 1 (wrun_ok (fl := clm) (T := Nm.temp (Nm.held (u : Int) 999) (Nm.held (j : Int) 99999) (Nm.held 7 99999)) (b := Lo.bytes ⟨(u : Int), (j : Int), (j : Int), (T : Int)⟩) (k := k) (n := n) (r := 10000) (c := -1) (σ := (k : Int)) file_clm (Nm.temp_file (Nm.held_le _ _) (Nm.held_le _ _) (Nm.held_le _ _)) (lt_temp (by omega)) ⟨(u : Int), (j : Int), (j : Int), (R : Int)⟩ rfl (by rw [Lo.bytes_len]; decide) 4) (by decide) h4 m4 (by have := H3.out.fs.below.size; omega) hx nice_clm (nice_temp _ _ _ (Nm.held_le _ _) (Nm.held_le _ _) (Nm.held_le _ _)) (by have := HN.out; show n ≤ 1000000; omega) (used_clm _))
            clear l0 l1 l2 l3 i0 i1 hg hx hb4 h4 m4 n4 H3 B9 B10 M3
            go_wp2_with fail
            refine C5.out.mono ?_
            rintro e w5 ⟨rfl, h5, x5, -⟩
            have H5 := Lib.hid h5.none
            have C6 : Hid (Calls Tryz.prog 11 #[.pointer (some ⟨gw, 0, none⟩)] w5 fun e w' => e = .returned (.tuple #[guardV clm ((n + 2 : Nat) : Int), lockV (u : Int) (j : Int) (j : Int) (R : Int), .bool true]) ∧ Below w5.heap.size w5 w') := Lib.hid (by
              have := wrheld_any _ false x5
              rw [show wrO (⟨clm, ((n + 2 : Nat) : Int), ⟨(u : Int), (j : Int), (j : Int), (R : Int)⟩, Nm.temp (Nm.held (u : Int) 999) (Nm.held (j : Int) 99999) (Nm.held 7 99999), 3, 1⟩ : Sw) false = some (((n + 2 : Nat) : Int), Lo.held ⟨(u : Int), (j : Int), (j : Int), (R : Int)⟩) from rfl, held_ok HOKR.out] at this
              exact this)
            clear h5 x5 C5
            obtain ⟨n2, hn2⟩ : ∃ m, n + 2 = m := ⟨_, rfl⟩
            rw [hn2] at C6 H5
            have HN2 : Hid (n2 ≤ 10 * i + 4) := Lib.hid (by have := HN.out; omega)
            clear hn2
            go_wp2_with fail
            refine C6.out.mono ?_
            rintro e w6 ⟨rfl, hb6⟩
            have H6 := Lib.hid (H5.out.under hb6)
            clear hb6 H5 C6
            go_upto_region 24 with fail
            obtain ⟨w7, q14, q15, K7, hw7, hq14, hq15, h7, m14, m15, -, b14, b15, bb7⟩ := H6.out.boxes #[.string (str clm), .int .i64 (n2 : Int)] #[.int .i64 (u : Int), .int .i64 (j : Int), .int .i64 (j : Int), .int .i64 (R : Int)]
            rw [hw7, hq15, hq14]
            have H7 := Lib.hid h7.none
            have HST : Hid (∀ W, Below w7.heap.size w7 W → W.cell? ⟨q14, 1, none⟩ = some (.int .i64 (n2 : Int)) ∧ W.cell? ⟨q15, 2, none⟩ = some (.int .i64 (j : Int)) ∧ W.cell? ⟨q15, 3, none⟩ = some (.int .i64 (R : Int))) := Lib.hid fun W hb => ⟨(b14.under hb).at 1, (b15.under hb).at 2, (b15.under hb).at 3⟩
            clear hw7 hq15 hq14 h7 m14 m15 b14 b15 bb7 H6
            have CS : Hid (∀ W, Fk (fun _ => False) w W p (lkO clm (Lo.bytes ⟨(u : Int), (j : Int), (j : Int), (R : Int)⟩) n2 10000 n2 (-1)) → Calls Tryz.prog 12 #[.pointer (some ⟨p, 0, none⟩), .string (str clm)] W fun e w' => e = .returned (.int .i64 (n2 : Int)) ∧ W = w') := Lib.hid fun W h => fs_stamp clm w W p _ h.fs nice_clm
            have hjj : ((j : Int) != (j : Int)) = false := by simp
            have hRR : ((R : Int) != (R : Int)) = false := by simp
            have hnn : ((n2 : Int) != (n2 : Int)) = false := by simp
            refine wp_region_noPanic ?_
            refine wp_region_held_drew (S := fun W => W.cell? ⟨q14, 1, none⟩ = some (.int .i64 (n2 : Int)) ∧ W.cell? ⟨q15, 2, none⟩ = some (.int .i64 (j : Int)) ∧ W.cell? ⟨q15, 3, none⟩ = some (.int .i64 (R : Int))) (by kernel_rfl) (HST.out _ (Below.refl _ _).drew) (fun hHeld => ?_)
            refine takeW 0 (some 126) (oi := ?oT1) (v := ?vT1) ?hiT1 ?hdT1 (by kernel_rfl) (by kernel_rfl) (by kernel_rfl) (fun _ _ _ h => h) ?hwT1 ?hyT1 hHeld ?_
            case hiT1 => (simp only [List.getElem?_toArray, List.getElem?_cons_zero]; with_reducible rfl)
            case hdT1 => rfl
            case hwT1 => rfl
            case hyT1 => (intro w hSw; (try dsimp only at hSw); go_simp; first | done | with_reducible rfl)
            try simp only [Act.put]
            try simp only [List.setIfInBounds_toArray, List.set_cons_zero, List.set_cons_succ]
            refine takeW 1 (some 127) (oi := ?oT2) (v := ?vT2) ?hiT2 ?hdT2 (by kernel_rfl) (by kernel_rfl) (by kernel_rfl) (fun _ _ _ h => h) ?hwT2 ?hyT2 hHeld ?_
            case hiT2 => (simp only [List.getElem?_toArray, List.getElem?_cons_succ, List.getElem?_cons_zero]; with_reducible rfl)
            case hdT2 => rfl
            case hwT2 => rfl
            case hyT2 => (intro w hSw; (try dsimp only at hSw); go_simp; first | done | with_reducible rfl)
            try simp only [Act.put]
            try simp only [List.setIfInBounds_toArray, List.set_cons_zero, List.set_cons_succ]
            refine takeW 2 (some 128) (oi := ?oT3) (v := ?vT3) ?hiT3 ?hdT3 (by kernel_rfl) (by kernel_rfl) (by kernel_rfl) (fun _ _ _ h => h) ?hwT3 ?hyT3 hHeld ?_
            case hiT3 => (simp only [List.getElem?_toArray, List.getElem?_cons_succ, List.getElem?_cons_zero]; with_reducible rfl)
            case hdT3 => rfl
            case hwT3 => rfl
            case hyT3 => (intro w hSw; (try dsimp only at hSw); go_simp; first | done | with_reducible rfl)
            try simp only [Act.put]
            try simp only [List.setIfInBounds_toArray, List.set_cons_zero, List.set_cons_succ]
            refine takeW 3 (some 129) (oi := ?oT4) (v := ?vT4) ?hiT4 ?hdT4 (by kernel_rfl) (by kernel_rfl) (by kernel_rfl) (fun _ _ _ h => h) ?hwT4 ?hyT4 hHeld ?_
            case hiT4 => (simp only [List.getElem?_toArray, List.getElem?_cons_succ, List.getElem?_cons_zero]; with_reducible rfl)
            case hdT4 => rfl
            case hwT4 => rfl
            case hyT4 => (intro w hSw; (try dsimp only at hSw); go_simp; first | done | with_reducible rfl)
            try simp only [Act.put]
            try simp only [List.setIfInBounds_toArray, List.set_cons_zero, List.set_cons_succ]
            refine takeW 4 (some 130) (oi := ?oT5) (v := ?vT5) ?hiT5 ?hdT5 (by kernel_rfl) (by kernel_rfl) (by kernel_rfl) (fun _ _ _ h => h) ?hwT5 ?hyT5 hHeld ?_
            case hiT5 => (simp only [List.getElem?_toArray, List.getElem?_cons_succ, List.getElem?_cons_zero]; with_reducible rfl)
            case hdT5 => rfl
            case hwT5 => rfl
            case hyT5 => (intro w hSw; (try dsimp only at hSw); go_simp; first | done | with_reducible rfl)
            try simp only [Act.put]
            try simp only [List.setIfInBounds_toArray, List.set_cons_zero, List.set_cons_succ]
            refine takeW 5 (some 131) (oi := ?oT6) (v := ?vT6) ?hiT6 ?hdT6 (by kernel_rfl) (by kernel_rfl) (by kernel_rfl) (fun _ _ _ h => h) ?hwT6 ?hyT6 hHeld ?_
            case hiT6 => (simp only [List.getElem?_toArray, List.getElem?_cons_succ, List.getElem?_cons_zero]; with_reducible rfl)
            case hdT6 => rfl
            case hwT6 => rfl
            case hyT6 => (intro w hSw; (try dsimp only at hSw); go_simp; first | done | with_reducible rfl)
            try simp only [Act.put]
            try simp only [List.setIfInBounds_toArray, List.set_cons_zero, List.set_cons_succ]
            refine takeW 6 (some 132) (oi := ?oT7) (v := ?vT7) ?hiT7 ?hdT7 (by kernel_rfl) (by kernel_rfl) (by kernel_rfl) (fun _ _ _ h => h) ?hwT7 ?hyT7 hHeld ?_
            case hiT7 => (simp only [List.getElem?_toArray, List.getElem?_cons_succ, List.getElem?_cons_zero]; with_reducible rfl)
            case hdT7 => rfl
            case hwT7 => rfl
            case hyT7 => (intro w hSw; (try dsimp only at hSw); go_simp; first | done | with_reducible rfl)
            try simp only [Act.put]
            try simp only [List.setIfInBounds_toArray, List.set_cons_zero, List.set_cons_succ]
            refine takeW 7 (some 133) (oi := ?oT8) (v := ?vT8) ?hiT8 ?hdT8 (by kernel_rfl) (by kernel_rfl) (by kernel_rfl) (fun _ _ _ h => h) ?hwT8 ?hyT8 hHeld ?_
            case hiT8 => (simp only [List.getElem?_toArray, List.getElem?_cons_succ, List.getElem?_cons_zero]; with_reducible rfl)
            case hdT8 => rfl
            case hwT8 => rfl
            case hyT8 => (intro w hSw; (try dsimp only at hSw); go_simp; first | done | with_reducible rfl)
            try simp only [Act.put]
            try simp only [List.setIfInBounds_toArray, List.set_cons_zero, List.set_cons_succ]
            refine takeW 8 (some 134) (oi := ?oT9) (v := ?vT9) ?hiT9 ?hdT9 (by kernel_rfl) (by kernel_rfl) (by kernel_rfl) (fun _ _ _ h => h) ?hwT9 ?hyT9 hHeld ?_
            case hiT9 => (simp only [List.getElem?_toArray, List.getElem?_cons_succ, List.getElem?_cons_zero]; with_reducible rfl)
            case hdT9 => rfl
            case hwT9 => rfl
            case hyT9 => (intro w hSw; (try dsimp only at hSw); go_simp; first | done | with_reducible rfl)
            try simp only [Act.put]
            try simp only [List.setIfInBounds_toArray, List.set_cons_zero, List.set_cons_succ]
            refine takeW 9 (some 135) (oi := ?oT10) (v := ?vT10) ?hiT10 ?hdT10 (by kernel_rfl) (by kernel_rfl) (by kernel_rfl) (fun _ _ _ h => h) ?hwT10 ?hyT10 hHeld ?_
            case hiT10 => (simp only [List.getElem?_toArray, List.getElem?_cons_succ, List.getElem?_cons_zero]; with_reducible rfl)
            case hdT10 => rfl
            case hwT10 => rfl
            case hyT10 => (intro w hSw; (try dsimp only at hSw); go_simp; first | done | with_reducible rfl)
            try simp only [Act.put]
            try simp only [List.setIfInBounds_toArray, List.set_cons_zero, List.set_cons_succ]
            refine takeW 10 (some 136) (oi := ?oT11) (v := ?vT11) ?hiT11 ?hdT11 (by kernel_rfl) (by kernel_rfl) (by kernel_rfl) (fun _ _ _ h => h) ?hwT11 ?hyT11 hHeld ?_
            case hiT11 => (simp only [List.getElem?_toArray, List.getElem?_cons_succ, List.getElem?_cons_zero]; with_reducible rfl)
            case hdT11 => rfl
            case hwT11 => rfl
            case hyT11 => (intro w hSw; (try dsimp only at hSw); go_simp; first | done | with_reducible rfl)
            try simp only [Act.put]
            try simp only [List.setIfInBounds_toArray, List.set_cons_zero, List.set_cons_succ]
            refine takeW 11 (some 137) (oi := ?oT12) (v := ?vT12) ?hiT12 ?hdT12 (by kernel_rfl) (by kernel_rfl) (by kernel_rfl) (fun _ _ _ h => h) ?hwT12 ?hyT12 hHeld ?_
            case hiT12 => (simp only [List.getElem?_toArray, List.getElem?_cons_succ, List.getElem?_cons_zero]; with_reducible rfl)
            case hdT12 => rfl
            case hwT12 => rfl
            case hyT12 => (intro w hSw; (try dsimp only at hSw); go_simp; first | done | with_reducible rfl)
            try simp only [Act.put]
            try simp only [List.setIfInBounds_toArray, List.set_cons_zero, List.set_cons_succ]
            refine takeW 12 (some 138) (oi := ?oT13) (v := ?vT13) ?hiT13 ?hdT13 (by kernel_rfl) (by kernel_rfl) (by kernel_rfl) (fun _ _ _ h => h) ?hwT13 ?hyT13 hHeld ?_
            case hiT13 => (simp only [List.getElem?_toArray, List.getElem?_cons_succ, List.getElem?_cons_zero]; with_reducible rfl)
            case hdT13 => rfl
            case hwT13 => rfl
            case hyT13 => (intro w hSw; (try dsimp only at hSw); go_simp; first | done | with_reducible rfl)
            try simp only [Act.put]
            try simp only [List.setIfInBounds_toArray, List.set_cons_zero, List.set_cons_succ]
            refine takeW 13 (some 139) (oi := ?oT14) (v := ?vT14) ?hiT14 ?hdT14 (by kernel_rfl) (by kernel_rfl) (by kernel_rfl) (fun _ _ _ h => h) ?hwT14 ?hyT14 hHeld ?_
            case hiT14 => (simp only [List.getElem?_toArray, List.getElem?_cons_succ, List.getElem?_cons_zero]; with_reducible rfl)
            case hdT14 => rfl
            case hwT14 => rfl
            case hyT14 => (intro w hSw; (try dsimp only at hSw); go_simp; first | done | with_reducible rfl)
            try simp only [Act.put]
            try simp only [List.setIfInBounds_toArray, List.set_cons_zero, List.set_cons_succ]
            refine takeW 14 (some 140) (oi := ?oT15) (v := ?vT15) ?hiT15 ?hdT15 (by kernel_rfl) (by kernel_rfl) (by kernel_rfl) (fun _ _ _ h => h) ?hwT15 ?hyT15 hHeld ?_
            case hiT15 => (simp only [List.getElem?_toArray, List.getElem?_cons_succ, List.getElem?_cons_zero]; with_reducible rfl)
            case hdT15 => rfl
            case hwT15 => rfl
            case hyT15 => (intro w hSw; (try dsimp only at hSw); go_simp; first | done | with_reducible rfl)
            try simp only [Act.put]
            try simp only [List.setIfInBounds_toArray, List.set_cons_zero, List.set_cons_succ]
            refine takeW 15 (some 141) (oi := ?oT16) (v := ?vT16) ?hiT16 ?hdT16 (by kernel_rfl) (by kernel_rfl) (by kernel_rfl) (fun _ _ _ h => h) ?hwT16 ?hyT16 hHeld ?_
            case hiT16 => (simp only [List.getElem?_toArray, List.getElem?_cons_succ, List.getElem?_cons_zero]; with_reducible rfl)
            case hdT16 => rfl
            case hwT16 => rfl
            case hyT16 => (intro w hSw; (try dsimp only at hSw); go_simp; first | done | with_reducible rfl)
            try simp only [Act.put]
            try simp only [List.setIfInBounds_toArray, List.set_cons_zero, List.set_cons_succ]
            refine takeW 16 (some 142) (oi := ?oT17) (v := ?vT17) ?hiT17 ?hdT17 (by kernel_rfl) (by kernel_rfl) (by kernel_rfl) (fun _ _ _ h => h) ?hwT17 ?hyT17 hHeld ?_
            case hiT17 => (simp only [List.getElem?_toArray, List.getElem?_cons_succ, List.getElem?_cons_zero]; with_reducible rfl)
            case hdT17 => rfl
            case hwT17 => rfl
            case hyT17 => (intro w hSw; (try dsimp only at hSw); go_simp; first | done | with_reducible rfl)
            try simp only [Act.put]
            try simp only [List.setIfInBounds_toArray, List.set_cons_zero, List.set_cons_succ]
            refine takeW 17 (some 143) (oi := ?oT18) (v := ?vT18) ?hiT18 ?hdT18 (by kernel_rfl) (by kernel_rfl) (by kernel_rfl) (fun _ _ _ h => h) ?hwT18 ?hyT18 hHeld ?_
            case hiT18 => (simp only [List.getElem?_toArray, List.getElem?_cons_succ, List.getElem?_cons_zero]; with_reducible rfl)
            case hdT18 => rfl
            case hwT18 => rfl
            case hyT18 => (intro w hSw; (try dsimp only at hSw); go_simp; first | done | with_reducible rfl)
            try simp only [Act.put]
            try simp only [List.setIfInBounds_toArray, List.set_cons_zero, List.set_cons_succ]
            refine takeW 18 (some 144) (oi := ?oT19) (v := ?vT19) ?hiT19 ?hdT19 (by kernel_rfl) (by kernel_rfl) (by kernel_rfl) (fun _ _ _ h => h) ?hwT19 ?hyT19 hHeld ?_
            case hiT19 => (simp only [List.getElem?_toArray, List.getElem?_cons_succ, List.getElem?_cons_zero]; with_reducible rfl)
            case hdT19 => rfl
            case hwT19 => rfl
            case hyT19 => (intro w hSw; (try dsimp only at hSw); go_simp; first | done | with_reducible rfl)
            try simp only [Act.put]
            try simp only [List.setIfInBounds_toArray, List.set_cons_zero, List.set_cons_succ]
            refine stepOne 19 (o := ?oT20) ?hiT20 (by kernel_rfl) ?hwT20 (fun K hK => ?_)
            case hiT20 => (simp only [List.getElem?_toArray, List.getElem?_cons_succ, List.getElem?_cons_zero]; with_reducible rfl)
            case hwT20 => rfl
            go_simp
            go_at_call 12
            refine (CS.out w7.drew (H7.out.under (Below.refl _ _).drew)).mono ?_
            rintro e w13 ⟨rfl, rfl⟩
            refine hK.out _ _ ?_ (fun hHeld => ?_)
            · exact HST.out _ (Below.refl _ _).drew
            clear hK K
            try simp only [Act.put]
            try simp only [List.setIfInBounds_toArray, List.set_cons_zero, List.set_cons_succ]
            refine takeW 20 (some 146) (oi := ?oT21) (v := ?vT21) ?hiT21 ?hdT21 (by kernel_rfl) (by kernel_rfl) (by kernel_rfl) (fun _ _ _ h => h) ?hwT21 ?hyT21 hHeld ?_
            case hiT21 => (simp only [List.getElem?_toArray, List.getElem?_cons_succ, List.getElem?_cons_zero]; with_reducible rfl)
            case hdT21 => rfl
            case hwT21 => rfl
            case hyT21 => (intro w hSw; (try dsimp only at hSw); go_simp; first | done | with_reducible rfl)
            try simp only [Act.put]
            try simp only [List.setIfInBounds_toArray, List.set_cons_zero, List.set_cons_succ]
            refine takeW 21 (some 147) (oi := ?oT22) (v := ?vT22) ?hiT22 ?hdT22 (by kernel_rfl) (by kernel_rfl) (by kernel_rfl) (fun _ _ _ h => h) ?hwT22 ?hyT22 hHeld ?_
            case hiT22 => (simp only [List.getElem?_toArray, List.getElem?_cons_succ, List.getElem?_cons_zero]; with_reducible rfl)
            case hdT22 => rfl
            case hwT22 => rfl
            case hyT22 => (intro w hSw; (try dsimp only at hSw); go_simp; first | done | with_reducible rfl)
            try simp only [Act.put]
            try simp only [List.setIfInBounds_toArray, List.set_cons_zero, List.set_cons_succ]
            refine wpAnyH_done (by kernel_rfl) ?_ _
            refine NoPanic.normal ?_
            skip
            have H8 := Lib.hid (H7.out.under (Below.refl _ w7).drew)
            obtain ⟨w8, hw8⟩ : ∃ W, w7.drew = W := ⟨_, rfl⟩
            rw [hw8] at H8 ⊢
            clear hw8 H7 HST CS
            have C9 := Lib.hid (taken_is (taken_busy (L := ⟨(u : Int), (j : Int), (j : Int), (R : Int)⟩) (k := n2) (n := n2) (r := 10000) (c := -1) (who := 5) (inc := 1) (now := ((R - 1 : Nat) : Int)) HOKR.out (by have := HN.out; have := HR.out; omega) (fun h => by have h1 : (u : Int) = 5 := h.1; have := HN.out; omega) (fun h => h.elim (fun h => by have h1 : (R : Int) ≤ ((R - 1 : Nat) : Int) := h; have := HR.out; omega) (fun h => by have h1 : (u : Int) = 5 := h.1; have := HN.out; omega))) H8.out (HT.out.under H8.out.fs.below) (by have := HN2.out; have := HN.out; show n2 ≤ 1000000; omega) (used_clm _))
            go_wp2_with fail
            refine C9.out.mono ?_
            rintro e w9 ⟨rfl, h9, -⟩
            have H9 := Lib.hid (fun o1 o2 => (h9.alloc o1).alloc o2)
            clear h9 H8 C9
            unfold heldV
            go_wp2
            go_meet
            exact ⟨R, _, rfl, Lib.hid (by have := HN.out; have := HR.out; omega), Lib.hid (.inr ⟨⟨(u : Int), (j : Int), (j : Int), (R : Int)⟩, n2, n2, by have := HN.out; omega, rfl, HOKR.out, rfl, Int.le_refl _, by have := HN.out; have := HN2.out; omega⟩), Lib.hid (H9.out _ _)⟩
          · have hr1I := nat_ne hr1
            clear hr0 hr1
            have H4 := Lib.hid H3.out.none
            go_wp2
            go_meet
            exact ⟨T, _, rfl, Lib.hid (by have := HN.out; omega), Lib.hid (.inr ⟨⟨(u : Int), (j : Int), (j : Int), (T : Int)⟩, k, n, by have := HN.out; omega, rfl, okl_till (by have := HN.out; omega) (by have := HN.out; omega) (by have := HN.out; omega), rfl, Int.le_refl _, by have := HN.out; omega⟩), H4⟩
      case rest =>
        obtain ⟨now', s', rfl, HNW2, HEP2, H4⟩ := hcut
        clear H3 M3 B9 B10
        have hex : ∃ (L : Lo) (k n : Nat), s' = lkO clm L.bytes k 10000 n (-1) ∧ OkL L ∧ L.c = (j : Int) ∧ n ≤ 10 * j := by
          rcases HEP2.out with ⟨h, _⟩ | ⟨L, k, n, _, h1, h2, h3, _, h5⟩
          · have := HN.out
            omega
          · exact ⟨L, k, n, h1, h2, h3, h5⟩
        obtain ⟨⟨La, Lb, Lc, Ld⟩, k', n', rfl, hokl, hlc, hn'⟩ := hex
        have HOKL := Lib.hid hokl
        obtain rfl : Lc = (j : Int) := hlc
        have C5 := Lib.hid (fs_read clm w wc p _ H4.out.fs nice_clm (by have := used_clm (k := k') (n := n') (r := 10000) (c := -1) ⟨La, Lb, (j : Int), Ld⟩; omega))
        rw [Lk.read_one file_clm] at C5
        have hjj : ((j : Int) != (j : Int)) = false := by simp
        clear hokl hn'
        rename_i hKK
        refine hKK _ _ ?_
        clear hKK
        go_wp2_with fail
        refine C5.out.mono ?_
        rintro e w6 ⟨v, rfl, ho, hb6⟩
        have H6 := Lib.hid (H4.out.under hb6)
        have C7 : Hid (Calls Tryz.prog 14 #[v] w6 fun e w' => e = .returned (.tuple #[lockV La Lb (j : Int) Ld, .bool true]) ∧ Below w6.heap.size w6 w') := Lib.hid ((refopenL_any v _ w6 ho.bytes (by rw [Lo.bytes_len]; omega) _ rfl).mono fun e w' h => ⟨by
          have h1 := h.1
          rw [Lo.opens] at h1
          rw [h1]
          have h2 := held_ok HOKL.out
          injection h2 with e1 e2 e3 e4
          show Ending.returned (.tuple #[lockV _ _ _ _, _]) = _
          rw [e1, e2, e3, e4], h.2⟩)
        clear ho hb6 H4 C5
        go_wp2_with fail
        refine C7.out.mono ?_
        rintro e w7 ⟨rfl, hb7⟩
        have H7 := Lib.hid (fun o => (H6.out.under hb7).alloc o)
        clear hb7 H6 C7
        go_wp2_with fail
        go_roundg (41 - (i + 1))
        case rel => exact ⟨i + 1, now', _, by have := HN.out; omega, by omega, rfl, by rw [show i + 1 = j by have := HN.out; omega], by rw [show i + 1 = j by have := HN.out; omega], Lib.hid (by have := HNW2.out; have := HN.out; omega), Lib.hid (by rw [show i + 1 = j by have := HN.out; omega]; exact HEP2.out), Lib.hid (H7.out _)⟩
        case measure => have := HN.out; omega
    · have HL2 : Hid (Sf.list s.l [116, 109, 112] = []) := Lib.hid (by
        rcases HEP.out with ⟨_, rfl⟩ | ⟨L, k, n, _, rfl, _⟩
        · rfl
        · exact list_clm _ _ _ _ _)
      have CLI : Hid (Calls Tryz.prog 15 #[.pointer (some ⟨p, 0, none⟩), .string (str [116, 109, 112])] wz fun e w' => (∃ A c, e = .returned (.slice A 0 c)) ∧ Below wz.heap.size wz w') := Lib.hid ((fs_list [116, 109, 112] w wz p _ HF.out.fs (by decide) (by have := (HEP.out.bounds (by omega)).1; omega)).mono fun e w' ⟨v, he, ho, hb⟩ => by
        rw [HL2.out] at ho
        refine ⟨?_, hb⟩
        rcases ho.2 with ⟨rfl, _⟩ | ⟨g, cap, cur, rfl, _⟩
        · exact ⟨_, _, he⟩
        · exact ⟨_, _, he⟩)
      by_cases h1 : i < N
      · have h1I : (i : Int) < (N : Int) := by omega
        have h2I : decide ((i : Int) < 40) = false := decide_eq_false (by omega)
        have h2n : decide (i < 40) = false := decide_eq_false (by omega)
        clear h12 h1
        go_wp2_with fail
        refine CLI.out.mono ?_
        rintro e w3 ⟨⟨A0, c0, rfl⟩, hb3⟩
        have HB3 := Lib.hid (HF.out.fs.below.trans (hb3.mono HF.out.fs.below.size))
        clear hb3
        go_wp2_with fail
        refine (lawake_any w3 (HT.out.under HB3.out)).mono ?_
        rintro e w4 ⟨rfl, hb4⟩
        have HB4 := Lib.hid (HB3.out.trans (hb4.mono HB3.out.size))
        clear hb4
        go_wp2
        go_ret
        exact ⟨rfl, HB4.out⟩
      · have h1I : decide ((i : Int) < (N : Int)) = false := decide_eq_false (by omega)
        have h1n : decide (i < N) = false := decide_eq_false (by omega)
        clear h12 h1
        go_wp2_with fail
        refine CLI.out.mono ?_
        rintro e w3 ⟨⟨A0, c0, rfl⟩, hb3⟩
        have HB3 := Lib.hid (HF.out.fs.below.trans (hb3.mono HF.out.fs.below.size))
        clear hb3
        go_wp2_with fail
        refine (lawake_any w3 (HT.out.under HB3.out)).mono ?_
        rintro e w4 ⟨rfl, hb4⟩
        have HB4 := Lib.hid (HB3.out.trans (hb4.mono HB3.out.size))
        clear hb4
        go_wp2
        go_ret
        exact ⟨rfl, HB4.out⟩
end Go.Proofs.YtlopabmndliggaaGreatDoor
