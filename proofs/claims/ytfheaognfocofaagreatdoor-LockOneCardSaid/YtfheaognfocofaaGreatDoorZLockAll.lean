/- LockOne: the statement's walk. -/
import Derived.Test.YtfheaognfocofaaGreatDoorZLockComm
import Derived.Test.YtfheaognfocofaaGreatDoorZInts
namespace Go.Proofs.YtfheaognfocofaaGreatDoor
set_option maxRecDepth 100000
open Go.ChangeShapes Go.WideShapes Go.ChangeAt Go.RowKit Go.ChangeMaps
open Sf Lk

def isIdle (h : Hd) : Bool := match h.ph with | .idle => true | _ => false
set_option maxRecDepth 100000 in
set_option maxHeartbeats 8000000 in
theorem one_any (v : Value) (l : List Int) (w : World) (hT : Pow w) (hl : Ints w v l) : Calls Tryz.prog 3 #[v] w fun e w' => e = .returned (.bool true) ∧ Below w.heap.size w w' := by
  have HT := Lib.hid hT
  have HL := Lib.hid hl
  obtain ⟨_, hlen, A, c, rfl, _, _⟩ := hl
  obtain ⟨N, hN⟩ : ∃ N, l.length = N := ⟨_, rfl⟩
  rw [hN] at HL ⊢
  have kc : ({ data := #[99, 108, 97, 105, 109, 47, 97] } : ByteArray) = str clm := rfl
  have kt : ({ data := #[116, 109, 112] } : ByteArray) = str [116, 109, 112] := rfl
  clear hT hlen hN
  go_enter Tryz.func3, Tryz.ntmps3
  go_wp2_with fail
  refine (fs_new 1048576 w).mono ?_
  rintro e w1 ⟨p, rfl, h1⟩
  have H1 : Hid (Fk (fun _ => False) w w1 p ⟨[], 1048576, 0, -1⟩) := Lib.hid h1.keep
  clear h1
  go_wp2_with fail
  have h2 : ∃ W q, (w1.alloc (.cells #[Value.pointer none, Value.pointer none, Value.bool false, Value.string { data := #[] }, Value.int IntKind.i64 0, Value.int IntKind.i64 0, Value.int IntKind.i64 0, Value.int IntKind.i64 0, Value.int IntKind.i64 0, Value.bool false, Value.pointer none, Value.pointer none, Value.bool false, Value.string { data := #[] }, Value.int IntKind.i64 0, Value.int IntKind.i64 0, Value.int IntKind.i64 0, Value.int IntKind.i64 0, Value.int IntKind.i64 0, Value.bool false, Value.pointer none, Value.pointer none, Value.bool false, Value.string { data := #[] }, Value.int IntKind.i64 0, Value.int IntKind.i64 0, Value.int IntKind.i64 0, Value.int IntKind.i64 0, Value.int IntKind.i64 0, Value.bool false] 33)) = W ∧ w1.heap.size = q ∧ W3 w W p q ⟨[], 1048576, 0, -1⟩ (fun _ => ⟨.idle, false, [], 0, lo0, false⟩) (fun k => False ∨ k = q) (fun _ => hcells ⟨.idle, false, [], 0, lo0, false⟩ (.pointer none) (.pointer none)) (fun _ => 0) := by
    refine ⟨_, _, rfl, rfl, H1.out.more ((Below.refl _ _).alloc (Nat.le_refl _) _) (Nat.le_refl _) (by simp), .inr rfl, H1.out.fs.below.size, heap_alloc_new _ _, fun i hi => ⟨_, _, rfl, rfl, rfl⟩, fun i j _ _ _ h => absurd rfl h⟩
  obtain ⟨w2, q, hw2, hq, h3⟩ := h2
  rw [hw2, hq]
  have H2 := Lib.hid h3
  clear h3 hw2 hq H1
  go_loopg [5, 6, 7] 301 (fun gg s5 s6 s7 wr => ∃ (i now e : Nat) (s : S) (hs : Nat → Hd) (K : Nat → Prop) (R : Nat → List Value) (gb : Nat → Nat), i ≤ 300 ∧ 301 - i ≤ gg ∧ s5 = .int .i64 (now : Int) ∧ s6 = .int .i64 (e : Int) ∧ s7 = .int .i64 (i : Int) ∧ Hid (HInv s hs i now e) ∧ Hid (W3 w wr p q s hs K R gb))
  case atStart => exact ⟨0, 0, 0, _, _, _, _, _, by omega, by omega, rfl, rfl, rfl, Lib.hid hinv_new, H2⟩
  case round =>
    clear H2
    obtain ⟨i, now, e, s, hs, K, R, gb, hi, hgg, rfl, rfl, rfl, HI, HW⟩ := hrel
    obtain ⟨wz, rfl⟩ : ∃ wx : World, wx = wr := ⟨_, rfl⟩
    by_cases h12 : i < N ∧ i < 300
    · have h1I : (i : Int) < (N : Int) := by omega
      have h2I : (i : Int) < 300 := by omega
      obtain ⟨b, off, rfl, kx⟩ := (HL.out.under HW.out.fk.fs.below).at h12.1
      obtain ⟨z, hz⟩ : ∃ z, l.getD i 0 = z := ⟨_, rfl⟩
      rw [hz] at kx
      obtain ⟨u, hu, hul⟩ := lk_and (z / 16) 255 (by omega)
      have hu' : bits .and .i64 (z / 16) 255 = (u : Int) := hu
      obtain ⟨r, hr, hrl⟩ := lk_and z 15 (by omega)
      have hr' : bits .and .i64 z 15 = (r : Int) := hr
      obtain ⟨d, hd, hdl⟩ := lk_and (z / 4096) 63 (by omega)
      have hd' : bits .and .i64 (z / 4096) 63 = (d : Int) := hd
      clear hz hu hr hd
      go_upto_region 11 with fail
      obtain ⟨j, hj⟩ : ∃ j, u % 3 = j := ⟨_, rfl⟩
      have hj2 : (u : Int) % 3 = (j : Int) := by omega
      have hj3 : j < 3 := by omega
      rw [hj, hj2]
      have HJ : Hid (j < 3 ∧ i < N ∧ i < 300 ∧ d ≤ 63) := Lib.hid ⟨hj3, h12.1, h12.2, hdl⟩
      clear hj hj2 hu' hul h12 hj3
      by_cases hr15 : r = 15
      · as_aux_lemma =>
          subst hr15
          have hnow := HI.out.now
          have wn : IntKind.i64.wrap ((now : Int) + (d : Int)) = ((now + d : Nat) : Int) := by rw [IntWalk.i64_in _ (by have := HJ.out; omega)]; omega
          have wi : IntKind.i64.wrap ((i : Int) + 1) = ((i + 1 : Nat) : Int) := by rw [IntWalk.i64_in _ (by omega)]; omega
          go_wp2_with fail
          go_roundg (301 - (i + 1))
          case rel => exact ⟨i + 1, now + d, e, s, hs, K, R, gb, by have := HJ.out; omega, by omega, rfl, rfl, rfl, Lib.hid (HI.out.tick HJ.out.2.2.2), HW⟩
          case measure => have := HJ.out; omega
      · have hr15I : ((r : Int) == 15) = false := nat_ne hr15
        clear hr15
        have kx0 : w.cell? ⟨b, off + i, none⟩ = some (.int .i64 z) := by
          obtain ⟨b', off', e, h⟩ := HL.out.at (k := i) (by have := HJ.out; omega)
          injection e with e
          injection e with e1 e2
          subst e1 e2
          have := (cell_later HW.out.fk.fs.below h).symm.trans kx
          rw [h, ← this]
        have KX0 := Lib.hid kx0
        clear kx0
        go_upto_region 13 with fail
        clear kx
        go_cut [72] (fun s72 wx => s72 = .bool (isIdle (hs j)) ∧ Hid (W3 w wx p q s hs K R gb))
        case first =>
          as_aux_lemma =>
            obtain ⟨vt, vw, hRj, hpt, c0, c1, -⟩ := HW.out.cells HJ.out.1
            unfold HPt at hpt
            rcases hph : (hs j).ph with _ | t | x
            · rw [hph] at hpt
              obtain ⟨rfl, rfl⟩ := hpt
              have hid : isIdle (hs j) = true := by unfold isIdle; rw [hph]
              go_wp2
              go_meet
              exact ⟨by rw [hid], HW⟩
            · rw [hph] at hpt
              obtain ⟨rfl, rfl, -⟩ := hpt
              have hid : isIdle (hs j) = false := by unfold isIdle; rw [hph]
              go_wp2
              go_meet
              exact ⟨by rw [hid], HW⟩
            · rw [hph] at hpt
              obtain ⟨rfl, rfl, -⟩ := hpt
              have hid : isIdle (hs j) = false := by unfold isIdle; rw [hph]
              go_wp2
              go_meet
              exact ⟨by rw [hid], HW⟩
        case rest =>
          obtain ⟨rfl, HW1⟩ := hcut
          clear HW
          obtain ⟨wz, rfl⟩ : ∃ wx : World, wx = wc := ⟨_, rfl⟩
          have HW := HW1
          clear HW1
          rename_i hKK
          refine hKK _ _ ?_
          go_cut [] (fun wx => ∃ (hs' : Nat → Hd) (K' : Nat → Prop) (R' : Nat → List Value) (gb' : Nat → Nat), Hid (Lv (hs' j)) ∧ Hid (HInv s hs' i now e) ∧ Hid (W3 w wx p q s hs' K' R' gb'))
          case first =>
            as_aux_lemma =>
              obtain ⟨vt, vw, hRj, hpt, c0, c1, c2, c3, c4, c5, c6, c7, c8, c9⟩ := HW.out.cells HJ.out.1
              have kx := cell_later HW.out.fk.fs.below KX0.out
              unfold HPt at hpt
              rcases hph : (hs j).ph with _ | t | x
              · rw [hph] at hpt
                obtain ⟨rfl, rfl⟩ := hpt
                have HPH := Lib.hid hph
                have hid : isIdle (hs j) = true := by unfold isIdle; rw [hph]
                rw [hid]
                have HRJ := Lib.hid hRj
                rcases hhd : (hs j).held with _ | _
                · as_aux_lemma =>
                    rw [hhd] at c9
                    go_wp2_with fail
                    refine (tknew_any clm (j : Int) 1 3 40 wz (HT.out.under HW.out.fk.fs.below)).mono ?_
                    rintro e2 w2 ⟨g, rfl, hg, hx, hb⟩
                    obtain ⟨K', R', gb', h5⟩ := HW.out.begun_tk HJ.out.1 HPH.out hb hg hx
                    have H5 := Lib.hid h5
                    have f0 := Blk.free (HW.out.blk.under hb) (j * 10)
                    have k0 := cell_later hb c0
                    clear hg hx hb h5 c0 c1 c2 c3 c4 c5 c6 c7 c8 c9
                    go_wp2
                    go_meet
                    exact ⟨_, K', R', gb', Lib.hid (by unfold Lv; rw [upd_same]; intro h; cases h), Lib.hid (HI.out.take HJ.out.1 HPH.out), H5⟩
                · rw [hhd] at c9
                  by_cases h8 : r < 8
                  · have h8I : (r : Int) < 8 := by omega
                    as_aux_lemma =>
                      go_upto_region 18 with fail
                      have HD : Hid (W3 w wz.drew p q s hs K R gb) := Lib.hid (HW.out.under (Below.refl _ _).drew)
                      have HS := Lib.hid (HD.out.six HJ.out.1)
                      have CF : Hid (Calls Tryz.prog 6 #[guardV (hs j).gn (hs j).gs, loV (hs j).lo, .int .i64 4] wz.drew fun e w' => ∃ g, e = .returned (.pointer (some ⟨g, 0, none⟩)) ∧ wz.drew.heap.size ≤ g ∧ WrBlk w' g (write (hs j).gn (hs j).gs (hs j).lo 4 0) true ∧ Below wz.drew.heap.size wz.drew w') := Lib.hid (free_any _ _ _ _ _ (HT.out.under HD.out.fk.fs.below))
                      clear c0 c1 c2 c3 c4 c5 c6 c7 c8 c9
                      refine wp_region_noPanic ?_
                      refine wp_region_held_drew (S := fun W => W.cell? ⟨q, j * 10 + 3, none⟩ = some (.string (str (hs j).gn)) ∧ W.cell? ⟨q, j * 10 + 4, none⟩ = some (.int .i64 (hs j).gs) ∧ W.cell? ⟨q, j * 10 + 5, none⟩ = some (.int .i64 (hs j).lo.a) ∧ W.cell? ⟨q, j * 10 + 6, none⟩ = some (.int .i64 (hs j).lo.b) ∧ W.cell? ⟨q, j * 10 + 7, none⟩ = some (.int .i64 (hs j).lo.c) ∧ W.cell? ⟨q, j * 10 + 8, none⟩ = some (.int .i64 (hs j).lo.d)) (by kernel_rfl) (HS.out) (fun hHeld => ?_)
                      refine takeW 0 (some 108) (oi := ?oT1) (v := ?vT1) ?hiT1 ?hdT1 (by kernel_rfl) (by kernel_rfl) (by kernel_rfl) (fun _ _ _ h => h) ?hwT1 ?hyT1 hHeld ?_
                      case hiT1 => (simp only [List.getElem?_toArray, List.getElem?_cons_zero]; with_reducible rfl)
                      case hdT1 => rfl
                      case hwT1 => rfl
                      case hyT1 => (intro w hSw; (try dsimp only at hSw); go_simp; first | done | with_reducible rfl)
                      try simp only [Act.put]
                      try simp only [List.setIfInBounds_toArray, List.set_cons_zero, List.set_cons_succ]
                      refine takeW 1 (some 109) (oi := ?oT2) (v := ?vT2) ?hiT2 ?hdT2 (by kernel_rfl) (by kernel_rfl) (by kernel_rfl) (fun _ _ _ h => h) ?hwT2 ?hyT2 hHeld ?_
                      case hiT2 => (simp only [List.getElem?_toArray, List.getElem?_cons_succ, List.getElem?_cons_zero]; with_reducible rfl)
                      case hdT2 => rfl
                      case hwT2 => rfl
                      case hyT2 => (intro w hSw; (try dsimp only at hSw); go_simp; first | done | with_reducible rfl)
                      try simp only [Act.put]
                      try simp only [List.setIfInBounds_toArray, List.set_cons_zero, List.set_cons_succ]
                      refine takeW 2 (some 110) (oi := ?oT3) (v := ?vT3) ?hiT3 ?hdT3 (by kernel_rfl) (by kernel_rfl) (by kernel_rfl) (fun _ _ _ h => h) ?hwT3 ?hyT3 hHeld ?_
                      case hiT3 => (simp only [List.getElem?_toArray, List.getElem?_cons_succ, List.getElem?_cons_zero]; with_reducible rfl)
                      case hdT3 => rfl
                      case hwT3 => rfl
                      case hyT3 => (intro w hSw; (try dsimp only at hSw); go_simp; first | done | with_reducible rfl)
                      try simp only [Act.put]
                      try simp only [List.setIfInBounds_toArray, List.set_cons_zero, List.set_cons_succ]
                      refine takeW 3 (some 111) (oi := ?oT4) (v := ?vT4) ?hiT4 ?hdT4 (by kernel_rfl) (by kernel_rfl) (by kernel_rfl) (fun _ _ _ h => h) ?hwT4 ?hyT4 hHeld ?_
                      case hiT4 => (simp only [List.getElem?_toArray, List.getElem?_cons_succ, List.getElem?_cons_zero]; with_reducible rfl)
                      case hdT4 => rfl
                      case hwT4 => rfl
                      case hyT4 => (intro w hSw; (try dsimp only at hSw); go_simp; first | done | with_reducible rfl)
                      try simp only [Act.put]
                      try simp only [List.setIfInBounds_toArray, List.set_cons_zero, List.set_cons_succ]
                      refine takeW 4 (some 112) (oi := ?oT5) (v := ?vT5) ?hiT5 ?hdT5 (by kernel_rfl) (by kernel_rfl) (by kernel_rfl) (fun _ _ _ h => h) ?hwT5 ?hyT5 hHeld ?_
                      case hiT5 => (simp only [List.getElem?_toArray, List.getElem?_cons_succ, List.getElem?_cons_zero]; with_reducible rfl)
                      case hdT5 => rfl
                      case hwT5 => rfl
                      case hyT5 => (intro w hSw; (try dsimp only at hSw); go_simp; first | done | with_reducible rfl)
                      try simp only [Act.put]
                      try simp only [List.setIfInBounds_toArray, List.set_cons_zero, List.set_cons_succ]
                      refine takeW 5 (some 113) (oi := ?oT6) (v := ?vT6) ?hiT6 ?hdT6 (by kernel_rfl) (by kernel_rfl) (by kernel_rfl) (fun _ _ _ h => h) ?hwT6 ?hyT6 hHeld ?_
                      case hiT6 => (simp only [List.getElem?_toArray, List.getElem?_cons_succ, List.getElem?_cons_zero]; with_reducible rfl)
                      case hdT6 => rfl
                      case hwT6 => rfl
                      case hyT6 => (intro w hSw; (try dsimp only at hSw); go_simp; first | done | with_reducible rfl)
                      try simp only [Act.put]
                      try simp only [List.setIfInBounds_toArray, List.set_cons_zero, List.set_cons_succ]
                      refine takeW 6 (some 114) (oi := ?oT7) (v := ?vT7) ?hiT7 ?hdT7 (by kernel_rfl) (by kernel_rfl) (by kernel_rfl) (fun _ _ _ h => h) ?hwT7 ?hyT7 hHeld ?_
                      case hiT7 => (simp only [List.getElem?_toArray, List.getElem?_cons_succ, List.getElem?_cons_zero]; with_reducible rfl)
                      case hdT7 => rfl
                      case hwT7 => rfl
                      case hyT7 => (intro w hSw; (try dsimp only at hSw); go_simp; first | done | with_reducible rfl)
                      try simp only [Act.put]
                      try simp only [List.setIfInBounds_toArray, List.set_cons_zero, List.set_cons_succ]
                      refine takeW 7 (some 115) (oi := ?oT8) (v := ?vT8) ?hiT8 ?hdT8 (by kernel_rfl) (by kernel_rfl) (by kernel_rfl) (fun _ _ _ h => h) ?hwT8 ?hyT8 hHeld ?_
                      case hiT8 => (simp only [List.getElem?_toArray, List.getElem?_cons_succ, List.getElem?_cons_zero]; with_reducible rfl)
                      case hdT8 => rfl
                      case hwT8 => rfl
                      case hyT8 => (intro w hSw; (try dsimp only at hSw); go_simp; first | done | with_reducible rfl)
                      try simp only [Act.put]
                      try simp only [List.setIfInBounds_toArray, List.set_cons_zero, List.set_cons_succ]
                      refine takeW 8 (some 116) (oi := ?oT9) (v := ?vT9) ?hiT9 ?hdT9 (by kernel_rfl) (by kernel_rfl) (by kernel_rfl) (fun _ _ _ h => h) ?hwT9 ?hyT9 hHeld ?_
                      case hiT9 => (simp only [List.getElem?_toArray, List.getElem?_cons_succ, List.getElem?_cons_zero]; with_reducible rfl)
                      case hdT9 => rfl
                      case hwT9 => rfl
                      case hyT9 => (intro w hSw; (try dsimp only at hSw); go_simp; first | done | with_reducible rfl)
                      try simp only [Act.put]
                      try simp only [List.setIfInBounds_toArray, List.set_cons_zero, List.set_cons_succ]
                      refine takeW 9 (some 117) (oi := ?oT10) (v := ?vT10) ?hiT10 ?hdT10 (by kernel_rfl) (by kernel_rfl) (by kernel_rfl) (fun _ _ _ h => h) ?hwT10 ?hyT10 hHeld ?_
                      case hiT10 => (simp only [List.getElem?_toArray, List.getElem?_cons_succ, List.getElem?_cons_zero]; with_reducible rfl)
                      case hdT10 => rfl
                      case hwT10 => rfl
                      case hyT10 => (intro w hSw; (try dsimp only at hSw); go_simp; first | done | with_reducible rfl)
                      try simp only [Act.put]
                      try simp only [List.setIfInBounds_toArray, List.set_cons_zero, List.set_cons_succ]
                      refine stepOne 10 (o := ?oT11) ?hiT11 (by kernel_rfl) ?hwT11 (fun K hK => ?_)
                      case hiT11 => (simp only [List.getElem?_toArray, List.getElem?_cons_succ, List.getElem?_cons_zero]; with_reducible rfl)
                      case hwT11 => rfl
                      go_simp
                      go_at_call 6
                      refine CF.out.mono ?_
                      rintro e2 w2 ⟨g, rfl, hg, hx, hb⟩
                      obtain ⟨K', R', gb', h5⟩ := HD.out.begun_wr HJ.out.1 HPH.out hb hg hx
                      have H5 := Lib.hid h5
                      have HS2 := Lib.hid (six_under HS.out hb)
                      have HB2 := Lib.hid (HD.out.blk.under hb)
                      have k1 := cell_later hb ((HD.out.cells HJ.out.1).choose_spec.choose_spec.2.2.2.1)
                      have f1 := Blk.free HB2.out (j * 10 + 1)
                      have k2 := cell_later hb ((HD.out.cells HJ.out.1).choose_spec.choose_spec.2.2.2.2.1)
                      have f2 := Blk.free (Blk.set HB2.out (j * 10 + 1) (.pointer (some ⟨g, 0, none⟩))) (j * 10 + 2)
                      have k3 := off_cell k2 (k := j * 10 + 1) (by omega) (.pointer (some ⟨g, 0, none⟩))
                      clear hg hx hb h5
                      refine hK.out _ _ ?_ (fun hHeld => ?_)
                      · exact HS2.out
                      clear hK K
                      try simp only [Act.put]
                      try simp only [List.setIfInBounds_toArray, List.set_cons_zero, List.set_cons_succ]
                      refine takeW 11 (some 119) (oi := ?oT12) (v := ?vT12) ?hiT12 ?hdT12 (by kernel_rfl) (by kernel_rfl) (by kernel_rfl) (fun _ _ _ h => h) ?hwT12 ?hyT12 hHeld ?_
                      case hiT12 => (simp only [List.getElem?_toArray, List.getElem?_cons_succ, List.getElem?_cons_zero]; with_reducible rfl)
                      case hdT12 => rfl
                      case hwT12 => rfl
                      case hyT12 => (intro w hSw; (try dsimp only at hSw); go_simp; first | done | with_reducible rfl)
                      try simp only [Act.put]
                      try simp only [List.setIfInBounds_toArray, List.set_cons_zero, List.set_cons_succ]
                      refine takeW 12 (some 120) (oi := ?oT13) (v := ?vT13) ?hiT13 ?hdT13 (by kernel_rfl) (by kernel_rfl) (by kernel_rfl) (fun _ _ _ h => h) ?hwT13 ?hyT13 hHeld ?_
                      case hiT13 => (simp only [List.getElem?_toArray, List.getElem?_cons_succ, List.getElem?_cons_zero]; with_reducible rfl)
                      case hdT13 => rfl
                      case hwT13 => rfl
                      case hyT13 => (intro w hSw; (try dsimp only at hSw); go_simp; first | done | with_reducible rfl)
                      try simp only [Act.put]
                      try simp only [List.setIfInBounds_toArray, List.set_cons_zero, List.set_cons_succ]
                      refine stepOne 13 (o := ?oT14) ?hiT14 (by kernel_rfl) ?hwT14 (fun K hK => ?_)
                      case hiT14 => (simp only [List.getElem?_toArray, List.getElem?_cons_succ, List.getElem?_cons_zero]; with_reducible rfl)
                      case hwT14 => rfl
                      go_simp
                      refine hK.out _ _ ?_ (fun hHeld => ?_)
                      · exact six_set HS2.out (j := 1) (.inl (by omega)) _
                      clear hK K
                      try simp only [Act.put]
                      try simp only [List.setIfInBounds_toArray, List.set_cons_zero, List.set_cons_succ]
                      refine takeW 14 (some 121) (oi := ?oT15) (v := ?vT15) ?hiT15 ?hdT15 (by kernel_rfl) (by kernel_rfl) (by kernel_rfl) (fun _ _ _ h => h) ?hwT15 ?hyT15 hHeld ?_
                      case hiT15 => (simp only [List.getElem?_toArray, List.getElem?_cons_succ, List.getElem?_cons_zero]; with_reducible rfl)
                      case hdT15 => rfl
                      case hwT15 => rfl
                      case hyT15 => (intro w hSw; (try dsimp only at hSw); go_simp; first | done | with_reducible rfl)
                      try simp only [Act.put]
                      try simp only [List.setIfInBounds_toArray, List.set_cons_zero, List.set_cons_succ]
                      refine takeW 15 (some 122) (oi := ?oT16) (v := ?vT16) ?hiT16 ?hdT16 (by kernel_rfl) (by kernel_rfl) (by kernel_rfl) (fun _ _ _ h => h) ?hwT16 ?hyT16 hHeld ?_
                      case hiT16 => (simp only [List.getElem?_toArray, List.getElem?_cons_succ, List.getElem?_cons_zero]; with_reducible rfl)
                      case hdT16 => rfl
                      case hwT16 => rfl
                      case hyT16 => (intro w hSw; (try dsimp only at hSw); go_simp; first | done | with_reducible rfl)
                      try simp only [Act.put]
                      try simp only [List.setIfInBounds_toArray, List.set_cons_zero, List.set_cons_succ]
                      refine stepOne 16 (o := ?oT17) ?hiT17 (by kernel_rfl) ?hwT17 (fun K hK => ?_)
                      case hiT17 => (simp only [List.getElem?_toArray, List.getElem?_cons_succ, List.getElem?_cons_zero]; with_reducible rfl)
                      case hwT17 => rfl
                      go_simp
                      refine hK.out _ _ ?_ (fun hHeld => ?_)
                      · exact six_set (six_set HS2.out (j := 1) (.inl (by omega)) _) (j := 2) (.inl (by omega)) _
                      clear hK K
                      try simp only [Act.put]
                      try simp only [List.setIfInBounds_toArray, List.set_cons_zero, List.set_cons_succ]
                      refine wpAnyH_done (by kernel_rfl) ?_ _
                      refine NoPanic.normal ?_
                      skip
                      obtain ⟨w5, hw5⟩ : ∃ W, ((w2.setCell ⟨q, j * 10 + 1, none⟩ (.pointer (some ⟨g, 0, none⟩))).setCell ⟨q, j * 10 + 2, none⟩ (.bool true)) = W := ⟨_, rfl⟩
                      rw [hw5] at H5 ⊢
                      clear hw5 k1 k2 k3 f1 f2 HS2 HB2
                      obtain ⟨vt5, vw5, -, hp5, d0, d1, -⟩ := H5.out.cells HJ.out.1
                      unfold HPt at hp5
                      rw [upd_same] at hp5
                      obtain ⟨rfl, rfl, -⟩ := hp5
                      go_wp2
                      go_meet
                      exact ⟨_, K', R', gb', Lib.hid (by unfold Lv; rw [upd_same]; intro h; cases h), Lib.hid (HI.out.begun HJ.out.1 HPH.out hhd true (c := 4) (.inl rfl) (till := 0) (by omega)), H5⟩
                  · have h8I : decide ((r : Int) < 8) = false := decide_eq_false (by omega)
                    obtain ⟨T, hTT⟩ : ∃ T, now + 40 = T := ⟨_, rfl⟩
                    have wT : IntKind.i64.wrap ((now : Int) + 40) = (T : Int) := by rw [IntWalk.i64_in _ (by have := HI.out.now; have := HJ.out; omega)]; omega
                    have HTB : Hid ((0 : Int) ≤ (T : Int) ∧ (T : Int) ≤ 100000000) := Lib.hid (by have := HI.out.now; have := HJ.out; omega)
                    clear hTT
                    as_aux_lemma =>
                      go_upto_region 14 with fail
                      have HD : Hid (W3 w wz.drew p q s hs K R gb) := Lib.hid (HW.out.under (Below.refl _ _).drew)
                      have HS := Lib.hid (HD.out.six HJ.out.1)
                      have CF : Hid (Calls Tryz.prog 7 #[guardV (hs j).gn (hs j).gs, loV (hs j).lo, .int .i64 5, .int .i64 (T : Int)] wz.drew fun e w' => ∃ g, e = .returned (.pointer (some ⟨g, 0, none⟩)) ∧ wz.drew.heap.size ≤ g ∧ WrBlk w' g (write (hs j).gn (hs j).gs (hs j).lo 5 (T : Int)) false ∧ Below wz.drew.heap.size wz.drew w') := Lib.hid (renew_any _ _ _ _ _ _ (HT.out.under HD.out.fk.fs.below))
                      clear c0 c1 c2 c3 c4 c5 c6 c7 c8 c9
                      refine wp_region_noPanic ?_
                      refine wp_region_held_drew (S := fun W => W.cell? ⟨q, j * 10 + 3, none⟩ = some (.string (str (hs j).gn)) ∧ W.cell? ⟨q, j * 10 + 4, none⟩ = some (.int .i64 (hs j).gs) ∧ W.cell? ⟨q, j * 10 + 5, none⟩ = some (.int .i64 (hs j).lo.a) ∧ W.cell? ⟨q, j * 10 + 6, none⟩ = some (.int .i64 (hs j).lo.b) ∧ W.cell? ⟨q, j * 10 + 7, none⟩ = some (.int .i64 (hs j).lo.c) ∧ W.cell? ⟨q, j * 10 + 8, none⟩ = some (.int .i64 (hs j).lo.d)) (by kernel_rfl) (HS.out) (fun hHeld => ?_)
                      refine takeW 0 (some 73) (oi := ?oT18) (v := ?vT18) ?hiT18 ?hdT18 (by kernel_rfl) (by kernel_rfl) (by kernel_rfl) (fun _ _ _ h => h) ?hwT18 ?hyT18 hHeld ?_
                      case hiT18 => (simp only [List.getElem?_toArray, List.getElem?_cons_zero]; with_reducible rfl)
                      case hdT18 => rfl
                      case hwT18 => rfl
                      case hyT18 => (intro w hSw; (try dsimp only at hSw); go_simp; first | done | with_reducible rfl)
                      try simp only [Act.put]
                      try simp only [List.setIfInBounds_toArray, List.set_cons_zero, List.set_cons_succ]
                      refine takeW 1 (some 74) (oi := ?oT19) (v := ?vT19) ?hiT19 ?hdT19 (by kernel_rfl) (by kernel_rfl) (by kernel_rfl) (fun _ _ _ h => h) ?hwT19 ?hyT19 hHeld ?_
                      case hiT19 => (simp only [List.getElem?_toArray, List.getElem?_cons_succ, List.getElem?_cons_zero]; with_reducible rfl)
                      case hdT19 => rfl
                      case hwT19 => rfl
                      case hyT19 => (intro w hSw; (try dsimp only at hSw); go_simp; first | done | with_reducible rfl)
                      try simp only [Act.put]
                      try simp only [List.setIfInBounds_toArray, List.set_cons_zero, List.set_cons_succ]
                      refine takeW 2 (some 75) (oi := ?oT20) (v := ?vT20) ?hiT20 ?hdT20 (by kernel_rfl) (by kernel_rfl) (by kernel_rfl) (fun _ _ _ h => h) ?hwT20 ?hyT20 hHeld ?_
                      case hiT20 => (simp only [List.getElem?_toArray, List.getElem?_cons_succ, List.getElem?_cons_zero]; with_reducible rfl)
                      case hdT20 => rfl
                      case hwT20 => rfl
                      case hyT20 => (intro w hSw; (try dsimp only at hSw); go_simp; first | done | with_reducible rfl)
                      try simp only [Act.put]
                      try simp only [List.setIfInBounds_toArray, List.set_cons_zero, List.set_cons_succ]
                      refine takeW 3 (some 76) (oi := ?oT21) (v := ?vT21) ?hiT21 ?hdT21 (by kernel_rfl) (by kernel_rfl) (by kernel_rfl) (fun _ _ _ h => h) ?hwT21 ?hyT21 hHeld ?_
                      case hiT21 => (simp only [List.getElem?_toArray, List.getElem?_cons_succ, List.getElem?_cons_zero]; with_reducible rfl)
                      case hdT21 => rfl
                      case hwT21 => rfl
                      case hyT21 => (intro w hSw; (try dsimp only at hSw); go_simp; first | done | with_reducible rfl)
                      try simp only [Act.put]
                      try simp only [List.setIfInBounds_toArray, List.set_cons_zero, List.set_cons_succ]
                      refine takeW 4 (some 77) (oi := ?oT22) (v := ?vT22) ?hiT22 ?hdT22 (by kernel_rfl) (by kernel_rfl) (by kernel_rfl) (fun _ _ _ h => h) ?hwT22 ?hyT22 hHeld ?_
                      case hiT22 => (simp only [List.getElem?_toArray, List.getElem?_cons_succ, List.getElem?_cons_zero]; with_reducible rfl)
                      case hdT22 => rfl
                      case hwT22 => rfl
                      case hyT22 => (intro w hSw; (try dsimp only at hSw); go_simp; first | done | with_reducible rfl)
                      try simp only [Act.put]
                      try simp only [List.setIfInBounds_toArray, List.set_cons_zero, List.set_cons_succ]
                      refine takeW 5 (some 78) (oi := ?oT23) (v := ?vT23) ?hiT23 ?hdT23 (by kernel_rfl) (by kernel_rfl) (by kernel_rfl) (fun _ _ _ h => h) ?hwT23 ?hyT23 hHeld ?_
                      case hiT23 => (simp only [List.getElem?_toArray, List.getElem?_cons_succ, List.getElem?_cons_zero]; with_reducible rfl)
                      case hdT23 => rfl
                      case hwT23 => rfl
                      case hyT23 => (intro w hSw; (try dsimp only at hSw); go_simp; first | done | with_reducible rfl)
                      try simp only [Act.put]
                      try simp only [List.setIfInBounds_toArray, List.set_cons_zero, List.set_cons_succ]
                      refine takeW 6 (some 79) (oi := ?oT24) (v := ?vT24) ?hiT24 ?hdT24 (by kernel_rfl) (by kernel_rfl) (by kernel_rfl) (fun _ _ _ h => h) ?hwT24 ?hyT24 hHeld ?_
                      case hiT24 => (simp only [List.getElem?_toArray, List.getElem?_cons_succ, List.getElem?_cons_zero]; with_reducible rfl)
                      case hdT24 => rfl
                      case hwT24 => rfl
                      case hyT24 => (intro w hSw; (try dsimp only at hSw); go_simp; first | done | with_reducible rfl)
                      try simp only [Act.put]
                      try simp only [List.setIfInBounds_toArray, List.set_cons_zero, List.set_cons_succ]
                      refine takeW 7 (some 80) (oi := ?oT25) (v := ?vT25) ?hiT25 ?hdT25 (by kernel_rfl) (by kernel_rfl) (by kernel_rfl) (fun _ _ _ h => h) ?hwT25 ?hyT25 hHeld ?_
                      case hiT25 => (simp only [List.getElem?_toArray, List.getElem?_cons_succ, List.getElem?_cons_zero]; with_reducible rfl)
                      case hdT25 => rfl
                      case hwT25 => rfl
                      case hyT25 => (intro w hSw; (try dsimp only at hSw); go_simp; first | done | with_reducible rfl)
                      try simp only [Act.put]
                      try simp only [List.setIfInBounds_toArray, List.set_cons_zero, List.set_cons_succ]
                      refine takeW 8 (some 81) (oi := ?oT26) (v := ?vT26) ?hiT26 ?hdT26 (by kernel_rfl) (by kernel_rfl) (by kernel_rfl) (fun _ _ _ h => h) ?hwT26 ?hyT26 hHeld ?_
                      case hiT26 => (simp only [List.getElem?_toArray, List.getElem?_cons_succ, List.getElem?_cons_zero]; with_reducible rfl)
                      case hdT26 => rfl
                      case hwT26 => rfl
                      case hyT26 => (intro w hSw; (try dsimp only at hSw); go_simp; first | done | with_reducible rfl)
                      try simp only [Act.put]
                      try simp only [List.setIfInBounds_toArray, List.set_cons_zero, List.set_cons_succ]
                      refine takeW 9 (some 82) (oi := ?oT27) (v := ?vT27) ?hiT27 ?hdT27 (by kernel_rfl) (by kernel_rfl) (by kernel_rfl) (fun _ _ _ h => h) ?hwT27 ?hyT27 hHeld ?_
                      case hiT27 => (simp only [List.getElem?_toArray, List.getElem?_cons_succ, List.getElem?_cons_zero]; with_reducible rfl)
                      case hdT27 => rfl
                      case hwT27 => rfl
                      case hyT27 => (intro w hSw; (try dsimp only at hSw); go_simp; first | done | with_reducible rfl)
                      try simp only [Act.put]
                      try simp only [List.setIfInBounds_toArray, List.set_cons_zero, List.set_cons_succ]
                      refine takeW 10 (some 83) (oi := ?oT28) (v := ?vT28) ?hiT28 ?hdT28 (by kernel_rfl) (by kernel_rfl) (by kernel_rfl) (fun _ _ _ h => h) ?hwT28 ?hyT28 hHeld ?_
                      case hiT28 => (simp only [List.getElem?_toArray, List.getElem?_cons_succ, List.getElem?_cons_zero]; with_reducible rfl)
                      case hdT28 => rfl
                      case hwT28 => rfl
                      case hyT28 => (intro w hSw; (try dsimp only at hSw); go_simp; first | done | with_reducible rfl)
                      try simp only [Act.put]
                      try simp only [List.setIfInBounds_toArray, List.set_cons_zero, List.set_cons_succ]
                      refine takeW 11 (some 84) (oi := ?oT29) (v := ?vT29) ?hiT29 ?hdT29 (by kernel_rfl) (by kernel_rfl) (by kernel_rfl) (fun _ _ _ h => h) ?hwT29 ?hyT29 hHeld ?_
                      case hiT29 => (simp only [List.getElem?_toArray, List.getElem?_cons_succ, List.getElem?_cons_zero]; with_reducible rfl)
                      case hdT29 => rfl
                      case hwT29 => rfl
                      case hyT29 => (intro w hSw; (try dsimp only at hSw); go_simp; first | done | with_reducible rfl)
                      try simp only [Act.put]
                      try simp only [List.setIfInBounds_toArray, List.set_cons_zero, List.set_cons_succ]
                      refine stepOne 12 (o := ?oT30) ?hiT30 (by kernel_rfl) ?hwT30 (fun K hK => ?_)
                      case hiT30 => (simp only [List.getElem?_toArray, List.getElem?_cons_succ, List.getElem?_cons_zero]; with_reducible rfl)
                      case hwT30 => rfl
                      go_simp
                      go_at_call 7
                      refine CF.out.mono ?_
                      rintro e2 w2 ⟨g, rfl, hg, hx, hb⟩
                      obtain ⟨K', R', gb', h5⟩ := HD.out.begun_wr HJ.out.1 HPH.out hb hg hx
                      have H5 := Lib.hid h5
                      have HS2 := Lib.hid (six_under HS.out hb)
                      have HB2 := Lib.hid (HD.out.blk.under hb)
                      have k1 := cell_later hb ((HD.out.cells HJ.out.1).choose_spec.choose_spec.2.2.2.1)
                      have f1 := Blk.free HB2.out (j * 10 + 1)
                      have k2 := cell_later hb ((HD.out.cells HJ.out.1).choose_spec.choose_spec.2.2.2.2.1)
                      have f2 := Blk.free (Blk.set HB2.out (j * 10 + 1) (.pointer (some ⟨g, 0, none⟩))) (j * 10 + 2)
                      have k3 := off_cell k2 (k := j * 10 + 1) (by omega) (.pointer (some ⟨g, 0, none⟩))
                      clear hg hx hb h5
                      refine hK.out _ _ ?_ (fun hHeld => ?_)
                      · exact HS2.out
                      clear hK K
                      try simp only [Act.put]
                      try simp only [List.setIfInBounds_toArray, List.set_cons_zero, List.set_cons_succ]
                      refine takeW 13 (some 86) (oi := ?oT31) (v := ?vT31) ?hiT31 ?hdT31 (by kernel_rfl) (by kernel_rfl) (by kernel_rfl) (fun _ _ _ h => h) ?hwT31 ?hyT31 hHeld ?_
                      case hiT31 => (simp only [List.getElem?_toArray, List.getElem?_cons_succ, List.getElem?_cons_zero]; with_reducible rfl)
                      case hdT31 => rfl
                      case hwT31 => rfl
                      case hyT31 => (intro w hSw; (try dsimp only at hSw); go_simp; first | done | with_reducible rfl)
                      try simp only [Act.put]
                      try simp only [List.setIfInBounds_toArray, List.set_cons_zero, List.set_cons_succ]
                      refine takeW 14 (some 87) (oi := ?oT32) (v := ?vT32) ?hiT32 ?hdT32 (by kernel_rfl) (by kernel_rfl) (by kernel_rfl) (fun _ _ _ h => h) ?hwT32 ?hyT32 hHeld ?_
                      case hiT32 => (simp only [List.getElem?_toArray, List.getElem?_cons_succ, List.getElem?_cons_zero]; with_reducible rfl)
                      case hdT32 => rfl
                      case hwT32 => rfl
                      case hyT32 => (intro w hSw; (try dsimp only at hSw); go_simp; first | done | with_reducible rfl)
                      try simp only [Act.put]
                      try simp only [List.setIfInBounds_toArray, List.set_cons_zero, List.set_cons_succ]
                      refine stepOne 15 (o := ?oT33) ?hiT33 (by kernel_rfl) ?hwT33 (fun K hK => ?_)
                      case hiT33 => (simp only [List.getElem?_toArray, List.getElem?_cons_succ, List.getElem?_cons_zero]; with_reducible rfl)
                      case hwT33 => rfl
                      go_simp
                      refine hK.out _ _ ?_ (fun hHeld => ?_)
                      · exact six_set HS2.out (j := 1) (.inl (by omega)) _
                      clear hK K
                      try simp only [Act.put]
                      try simp only [List.setIfInBounds_toArray, List.set_cons_zero, List.set_cons_succ]
                      refine takeW 16 (some 88) (oi := ?oT34) (v := ?vT34) ?hiT34 ?hdT34 (by kernel_rfl) (by kernel_rfl) (by kernel_rfl) (fun _ _ _ h => h) ?hwT34 ?hyT34 hHeld ?_
                      case hiT34 => (simp only [List.getElem?_toArray, List.getElem?_cons_succ, List.getElem?_cons_zero]; with_reducible rfl)
                      case hdT34 => rfl
                      case hwT34 => rfl
                      case hyT34 => (intro w hSw; (try dsimp only at hSw); go_simp; first | done | with_reducible rfl)
                      try simp only [Act.put]
                      try simp only [List.setIfInBounds_toArray, List.set_cons_zero, List.set_cons_succ]
                      refine takeW 17 (some 89) (oi := ?oT35) (v := ?vT35) ?hiT35 ?hdT35 (by kernel_rfl) (by kernel_rfl) (by kernel_rfl) (fun _ _ _ h => h) ?hwT35 ?hyT35 hHeld ?_
                      case hiT35 => (simp only [List.getElem?_toArray, List.getElem?_cons_succ, List.getElem?_cons_zero]; with_reducible rfl)
                      case hdT35 => rfl
                      case hwT35 => rfl
                      case hyT35 => (intro w hSw; (try dsimp only at hSw); go_simp; first | done | with_reducible rfl)
                      try simp only [Act.put]
                      try simp only [List.setIfInBounds_toArray, List.set_cons_zero, List.set_cons_succ]
                      refine stepOne 18 (o := ?oT36) ?hiT36 (by kernel_rfl) ?hwT36 (fun K hK => ?_)
                      case hiT36 => (simp only [List.getElem?_toArray, List.getElem?_cons_succ, List.getElem?_cons_zero]; with_reducible rfl)
                      case hwT36 => rfl
                      go_simp
                      refine hK.out _ _ ?_ (fun hHeld => ?_)
                      · exact six_set (six_set HS2.out (j := 1) (.inl (by omega)) _) (j := 2) (.inl (by omega)) _
                      clear hK K
                      try simp only [Act.put]
                      try simp only [List.setIfInBounds_toArray, List.set_cons_zero, List.set_cons_succ]
                      refine wpAnyH_done (by kernel_rfl) ?_ _
                      refine NoPanic.normal ?_
                      skip
                      obtain ⟨w5, hw5⟩ : ∃ W, ((w2.setCell ⟨q, j * 10 + 1, none⟩ (.pointer (some ⟨g, 0, none⟩))).setCell ⟨q, j * 10 + 2, none⟩ (.bool false)) = W := ⟨_, rfl⟩
                      rw [hw5] at H5 ⊢
                      clear hw5 k1 k2 k3 f1 f2 HS2 HB2
                      obtain ⟨vt5, vw5, -, hp5, d0, d1, -⟩ := H5.out.cells HJ.out.1
                      unfold HPt at hp5
                      rw [upd_same] at hp5
                      obtain ⟨rfl, rfl, -⟩ := hp5
                      go_wp2
                      go_meet
                      exact ⟨_, K', R', gb', Lib.hid (by unfold Lv; rw [upd_same]; intro h; cases h), Lib.hid (HI.out.begun HJ.out.1 HPH.out hhd false (c := 5) (.inr rfl) HTB.out), H5⟩
              · rw [hph] at hpt
                obtain ⟨rfl, rfl, -⟩ := hpt
                have hlv : Lv (hs j) := fun h => by rw [hph] at h; cases h
                have hid : isIdle (hs j) = false := by unfold isIdle; rw [hph]
                rw [hid]
                go_wp2
                go_meet
                exact ⟨hs, K, R, gb, Lib.hid hlv, HI, HW⟩
              · rw [hph] at hpt
                obtain ⟨rfl, rfl, -⟩ := hpt
                have hlv : Lv (hs j) := fun h => by rw [hph] at h; cases h
                have hid : isIdle (hs j) = false := by unfold isIdle; rw [hph]
                rw [hid]
                go_wp2
                go_meet
                exact ⟨hs, K, R, gb, Lib.hid hlv, HI, HW⟩
          case rest =>
            as_aux_lemma =>
              obtain ⟨hs2, K2, R2, gb2, HLV, HI2, HW2⟩ := hcut
              apply_assumption
              clear HI HW
              have hord := fk_good HW2.out.fk
              have hu2 := HI2.out.used hord.1
              have hn2 := HI2.out.next
              obtain ⟨σ, hσ⟩ : ∃ m, stamp s.l clm = m := ⟨_, rfl⟩
              have CS0 := fs_stamp clm w wc p s HW2.out.fk.fs nice_clm
              rw [hσ] at CS0
              have CS := Lib.hid CS0
              clear CS0
              have wi : IntKind.i64.wrap ((i : Int) + 1) = ((i + 1 : Nat) : Int) := by rw [IntWalk.i64_in _ (by omega)]; omega
              rcases hph : (hs2 j).ph with _ | t | x
              · exact absurd hph HLV.out
              · skip
                as_aux_lemma =>
                  obtain ⟨vt, vw, hRj, hpt, c0, c1, -⟩ := HW2.out.cells HJ.out.1
                  unfold HPt at hpt
                  rw [hph] at hpt
                  obtain ⟨rfl, rfl, hk1, hk2, hk3, hk4⟩ := hpt
                  have hok := (HI2.out.hand j HJ.out.1).1
                  rw [hph] at hok
                  obtain ⟨a1, a2, a3, a4, a5, a6, -⟩ := hok
                  have TT := tk_hand HI2.out hord HJ.out.1 hi hph
                  have hto := step_told s t (now : Int)
                  obtain ⟨s', t', m, hst⟩ : ∃ s' t' m, t.step s (now : Int) = (s', t', m) := ⟨_, _, _, rfl⟩
                  have TC := Lib.hid (tk_to hst HW2.out.fk hk1 hk3 hk4 (by rw [a1]; exact nice_clm) (by rw [a2]; exact nice_tname HJ.out.1 (by omega)) (by omega) (by omega) (by rw [a5]; omega))
                  rw [hst] at TT hto
                  have HTT := Lib.hid TT
                  have HTO : Hid (t'.sw.told = m) := Lib.hid hto
                  have HPH := Lib.hid hph
                  clear TT hto hph hk1 hk3 hk4 a1 a2 a3 a4 a5 a6 hst hord hu2 hn2 hRj
                  go_wp2_with fail
                  refine CS.out.mono ?_
                  rintro e2 w3 ⟨rfl, rfl⟩
                  go_wp2_with fail
                  refine TC.out.mono ?_
                  rintro e2 w4 ⟨rfl, h4, x4, k4⟩
                  rcases HTT.out with ⟨hm, hi'⟩ | ⟨hm, hi'⟩ | ⟨hm, k, e', L, hk, hL, hfl, hget, hokl, hla, hlc, he1, he2, hest, hi'⟩
                  · as_aux_lemma =>
                    obtain rfl : m = 0 := hm
                    rw [tk_same HTO.out] at hi'
                    obtain ⟨R3, gb3, h5⟩ := HW2.out.tk_stepped HJ.out.1 HPH.out h4 x4 k4
                    have H5 := Lib.hid h5
                    have HI5 := Lib.hid hi'
                    clear h4 x4 k4 hi' h5 TC HTT CS c0 c1
                    go_wp2_with fail
                    go_roundg (301 - (i + 1))
                    case rel => exact ⟨i + 1, now, e, s', _, _, R3, gb3, by have := HJ.out; omega, by omega, rfl, rfl, rfl, HI5, H5⟩
                    case measure => have := HJ.out; omega
                  · as_aux_lemma =>
                    obtain rfl : m = 2 := hm
                    obtain ⟨R5, gb5, h5⟩ := HW2.out.tk_stepped HJ.out.1 HPH.out h4 x4 k4
                    obtain ⟨K6, R6, gb6, h6⟩ := HW2.out.tk_done HJ.out.1 HPH.out h4 x4 k4 (Below.refl _ _)
                    obtain ⟨vt, vw, -, -, d0, -⟩ := h5.cells HJ.out.1
                    have f0 := Blk.free h5.blk (j * 10)
                    have H6 := Lib.hid h6
                    have HI6 := Lib.hid hi'
                    clear h4 x4 k4 hi' h5 h6 TC HTT CS c0 c1
                    go_wp2_with fail
                    go_roundg (301 - (i + 1))
                    case rel => exact ⟨i + 1, now, e, s', _, K6, R6, gb6, by have := HJ.out; omega, by omega, rfl, rfl, rfl, HI6, H6⟩
                    case measure => have := HJ.out; omega
                  · as_aux_lemma =>
                    obtain rfl : m = 1 := hm
                    obtain ⟨La, Lb, Lc, Ld⟩ := L
                    obtain rfl : La = (j : Int) := hla
                    obtain rfl : Lc = (e' : Int) := hlc
                    obtain ⟨R5, gb5, h5⟩ := HW2.out.tk_stepped HJ.out.1 HPH.out h4 x4 k4
                    have H4 := Lib.hid h4
                    have X4 := Lib.hid x4
                    have K4 := Lib.hid k4
                    have H5 := Lib.hid h5
                    have HI5 := Lib.hid hi'
                    have HE : Hid (e ≤ e' ∧ e' ≤ e + 1 ∧ (e' = e → σ = k)) := Lib.hid ⟨he1, he2, fun h => hσ.symm.trans (hest h)⟩
                    have HGET : Hid (Sf.get s'.l clm = some ⟨clm, Lo.bytes ⟨(j : Int), Lb, (e' : Int), Ld⟩, k⟩) := Lib.hid hget
                    have HOKL := Lib.hid hokl
                    have CHd : Hid (Calls Tryz.prog 10 #[.pointer (some ⟨gb2 j, 0, none⟩)] w4 fun e w' => e = .returned (.tuple #[guardV clm (k : Int), lockV (j : Int) Lb (e' : Int) Ld, .bool true]) ∧ Below w4.heap.size w4 w') := Lib.hid (by
                      have := tkheld_any t' x4
                      have hh : t'.sw.held = some ((k : Int), ⟨(j : Int), Lb, (e' : Int), Ld⟩) := by
                        unfold Sw.held
                        rw [if_pos HTO.out]
                        have h1 : t'.sw.stamp = (k : Int) := hk
                        have h2 : t'.sw.lock.held = ⟨(j : Int), Lb, (e' : Int), Ld⟩ := hL
                        rw [h1, h2]
                      have hf : t'.sw.file = clm := hfl
                      rw [hh, hf] at this
                      exact this)
                    have B4 := k4.blk (g := q) ⟨HW2.out.ka, fun e => hk2 e.symm⟩ HW2.out.blk
                    have d0 : w4.cell? ⟨q, j * 10, none⟩ = some (.pointer (some ⟨gb2 j, 0, none⟩)) := (B4.at (j * 10)).trans ((HW2.out.blk.at (j * 10)).symm.trans c0)
                    clear B4 h4 x4 k4 h5 hi' TC HTT CS hk hL hfl hget hokl he1 he2 hest
                    go_wp2_with fail
                    refine CHd.out.mono ?_
                    rintro e2 w5 ⟨rfl, hb5⟩
                    have HB5 := Lib.hid hb5
                    clear hb5 CHd c0 c1 d0
                    go_upto_region 28 with fail
                    obtain ⟨w6, q12, q13, K6, hw6, hq12, hq13, f6, -, -, -, b12, b13, bb6⟩ := (H5.out.under HB5.out).fk.boxes #[.string (str clm), .int .i64 (k : Int)] #[.int .i64 (j : Int), .int .i64 Lb, .int .i64 (e' : Int), .int .i64 Ld]
                    rw [hw6, hq13, hq12]
                    have F6 : Hid (Fk K2 w w6 p s') := Lib.hid ((H5.out.under HB5.out).fk.under bb6)
                    have B12 := Lib.hid b12
                    have B13 := Lib.hid b13
                    have HBQ : Hid (w4.heap.size ≤ q12 ∧ w4.heap.size ≤ q13) := Lib.hid (by have := HB5.out.size; omega)
                    have BB6 : Hid (Below w4.heap.size w4 w6) := Lib.hid (HB5.out.trans (bb6.mono HB5.out.size))
                    have HST : Hid (∀ W, Below w6.heap.size w6 W → W.cell? ⟨q12, 0, none⟩ = some (.string (str clm)) ∧ W.cell? ⟨q12, 1, none⟩ = some (.int .i64 (k : Int)) ∧ W.cell? ⟨q13, 0, none⟩ = some (.int .i64 (j : Int)) ∧ W.cell? ⟨q13, 2, none⟩ = some (.int .i64 (e' : Int))) := Lib.hid fun W hb => ⟨(b12.under hb).at 0, (b12.under hb).at 1, (b13.under hb).at 0, (b13.under hb).at 2⟩
                    have HSK : stamp s'.l clm = k := by unfold stamp; rw [HGET.out]; rfl
                    have CST : Hid (Calls Tryz.prog 8 #[.pointer (some ⟨p, 0, none⟩), .string (str clm)] w6.drew fun e w' => e = .returned (.int .i64 (k : Int)) ∧ w6.drew = w') := Lib.hid (by
                      have := fs_stamp clm w w6.drew p s' (F6.out.under (Below.refl _ _).drew).fs nice_clm
                      rw [HSK] at this
                      exact this)
                    have hkk : ((k : Int) != (k : Int)) = false := by simp
                    have hjj : ((j : Int) != (j : Int)) = false := by simp
                    have hss : ((str clm).toList != (str clm).toList) = false := by simp
                    have hse : ((str clm).toList == (str clm).toList) = true := by simp
                    have hlt : decide ((e' : Int) < (e : Int)) = false := decide_eq_false (by have := HE.out; omega)
                    have we : IntKind.i64.wrap ((e : Int) + 1) = ((e + 1 : Nat) : Int) := by rw [IntWalk.i64_in _ (by have := HI2.out.ep; omega)]; omega
                    have hgt : decide (((e + 1 : Nat) : Int) < (e' : Int)) = false := decide_eq_false (by have := HE.out; omega)
                    have hltn : decide (e' < e) = false := decide_eq_false (by have := HE.out; omega)
                    have hgtn : decide (e + 1 < e') = false := decide_eq_false (by have := HE.out; omega)
                    have hgti : decide ((e : Int) + 1 < (e' : Int)) = false := decide_eq_false (by have := HE.out; omega)
                    clear hw6 hq12 hq13 f6 b12 b13 bb6 HB5 HSK
                    go_cut [210] (fun s210 wx => s210 = .bool false ∧ wx = w6.drew)
                    case first =>
                      by_cases hee : e' = e
                      · as_aux_lemma =>
                        have hsk : ((σ : Int) != (k : Int)) = false := by rw [HE.out.2.2 hee]; simp
                        have heq : ((e' : Int) == (e : Int)) = true := by rw [hee]; simp
                        clear hee
                        refine wp_region_noPanic ?_
                        refine wp_region_held_drew (S := fun W => W.cell? ⟨q12, 0, none⟩ = some (.string (str clm)) ∧ W.cell? ⟨q12, 1, none⟩ = some (.int .i64 (k : Int)) ∧ W.cell? ⟨q13, 0, none⟩ = some (.int .i64 (j : Int)) ∧ W.cell? ⟨q13, 2, none⟩ = some (.int .i64 (e' : Int))) (by kernel_rfl) (HST.out _ (Below.refl _ _).drew) (fun hHeld => ?_)
                        refine takeW 0 (some 166) (oi := ?oT37) (v := ?vT37) ?hiT37 ?hdT37 (by kernel_rfl) (by kernel_rfl) (by kernel_rfl) (fun _ _ _ h => h) ?hwT37 ?hyT37 hHeld ?_
                        case hiT37 => (simp only [List.getElem?_toArray, List.getElem?_cons_zero]; with_reducible rfl)
                        case hdT37 => rfl
                        case hwT37 => rfl
                        case hyT37 => (intro w hSw; (try dsimp only at hSw); go_simp; first | done | with_reducible rfl)
                        try simp only [Act.put]
                        try simp only [List.setIfInBounds_toArray, List.set_cons_zero, List.set_cons_succ]
                        refine takeW 1 (some 167) (oi := ?oT38) (v := ?vT38) ?hiT38 ?hdT38 (by kernel_rfl) (by kernel_rfl) (by kernel_rfl) (fun _ _ _ h => h) ?hwT38 ?hyT38 hHeld ?_
                        case hiT38 => (simp only [List.getElem?_toArray, List.getElem?_cons_succ, List.getElem?_cons_zero]; with_reducible rfl)
                        case hdT38 => rfl
                        case hwT38 => rfl
                        case hyT38 => (intro w hSw; (try dsimp only at hSw); go_simp; first | done | with_reducible rfl)
                        try simp only [Act.put]
                        try simp only [List.setIfInBounds_toArray, List.set_cons_zero, List.set_cons_succ]
                        refine takeW 2 (some 168) (oi := ?oT39) (v := ?vT39) ?hiT39 ?hdT39 (by kernel_rfl) (by kernel_rfl) (by kernel_rfl) (fun _ _ _ h => h) ?hwT39 ?hyT39 hHeld ?_
                        case hiT39 => (simp only [List.getElem?_toArray, List.getElem?_cons_succ, List.getElem?_cons_zero]; with_reducible rfl)
                        case hdT39 => rfl
                        case hwT39 => rfl
                        case hyT39 => (intro w hSw; (try dsimp only at hSw); go_simp; first | done | with_reducible rfl)
                        try simp only [Act.put]
                        try simp only [List.setIfInBounds_toArray, List.set_cons_zero, List.set_cons_succ]
                        refine takeW 3 (some 169) (oi := ?oT40) (v := ?vT40) ?hiT40 ?hdT40 (by kernel_rfl) (by kernel_rfl) (by kernel_rfl) (fun _ _ _ h => h) ?hwT40 ?hyT40 hHeld ?_
                        case hiT40 => (simp only [List.getElem?_toArray, List.getElem?_cons_succ, List.getElem?_cons_zero]; with_reducible rfl)
                        case hdT40 => rfl
                        case hwT40 => rfl
                        case hyT40 => (intro w hSw; (try dsimp only at hSw); go_simp; first | done | with_reducible rfl)
                        try simp only [Act.put]
                        try simp only [List.setIfInBounds_toArray, List.set_cons_zero, List.set_cons_succ]
                        refine takeW 4 (some 170) (oi := ?oT41) (v := ?vT41) ?hiT41 ?hdT41 (by kernel_rfl) (by kernel_rfl) (by kernel_rfl) (fun _ _ _ h => h) ?hwT41 ?hyT41 hHeld ?_
                        case hiT41 => (simp only [List.getElem?_toArray, List.getElem?_cons_succ, List.getElem?_cons_zero]; with_reducible rfl)
                        case hdT41 => rfl
                        case hwT41 => rfl
                        case hyT41 => (intro w hSw; (try dsimp only at hSw); go_simp; first | done | with_reducible rfl)
                        try simp only [Act.put]
                        try simp only [List.setIfInBounds_toArray, List.set_cons_zero, List.set_cons_succ]
                        refine takeW 5 (some 171) (oi := ?oT42) (v := ?vT42) ?hiT42 ?hdT42 (by kernel_rfl) (by kernel_rfl) (by kernel_rfl) (fun _ _ _ h => h) ?hwT42 ?hyT42 hHeld ?_
                        case hiT42 => (simp only [List.getElem?_toArray, List.getElem?_cons_succ, List.getElem?_cons_zero]; with_reducible rfl)
                        case hdT42 => rfl
                        case hwT42 => rfl
                        case hyT42 => (intro w hSw; (try dsimp only at hSw); go_simp; first | done | with_reducible rfl)
                        try simp only [Act.put]
                        try simp only [List.setIfInBounds_toArray, List.set_cons_zero, List.set_cons_succ]
                        refine takeW 6 (some 172) (oi := ?oT43) (v := ?vT43) ?hiT43 ?hdT43 (by kernel_rfl) (by kernel_rfl) (by kernel_rfl) (fun _ _ _ h => h) ?hwT43 ?hyT43 hHeld ?_
                        case hiT43 => (simp only [List.getElem?_toArray, List.getElem?_cons_succ, List.getElem?_cons_zero]; with_reducible rfl)
                        case hdT43 => rfl
                        case hwT43 => rfl
                        case hyT43 => (intro w hSw; (try dsimp only at hSw); go_simp; first | done | with_reducible rfl)
                        try simp only [Act.put]
                        try simp only [List.setIfInBounds_toArray, List.set_cons_zero, List.set_cons_succ]
                        refine takeW 7 (some 173) (oi := ?oT44) (v := ?vT44) ?hiT44 ?hdT44 (by kernel_rfl) (by kernel_rfl) (by kernel_rfl) (fun _ _ _ h => h) ?hwT44 ?hyT44 hHeld ?_
                        case hiT44 => (simp only [List.getElem?_toArray, List.getElem?_cons_succ, List.getElem?_cons_zero]; with_reducible rfl)
                        case hdT44 => rfl
                        case hwT44 => rfl
                        case hyT44 => (intro w hSw; (try dsimp only at hSw); go_simp; first | done | with_reducible rfl)
                        try simp only [Act.put]
                        try simp only [List.setIfInBounds_toArray, List.set_cons_zero, List.set_cons_succ]
                        refine takeW 8 (some 174) (oi := ?oT45) (v := ?vT45) ?hiT45 ?hdT45 (by kernel_rfl) (by kernel_rfl) (by kernel_rfl) (fun _ _ _ h => h) ?hwT45 ?hyT45 hHeld ?_
                        case hiT45 => (simp only [List.getElem?_toArray, List.getElem?_cons_succ, List.getElem?_cons_zero]; with_reducible rfl)
                        case hdT45 => rfl
                        case hwT45 => rfl
                        case hyT45 => (intro w hSw; (try dsimp only at hSw); go_simp; first | done | with_reducible rfl)
                        try simp only [Act.put]
                        try simp only [List.setIfInBounds_toArray, List.set_cons_zero, List.set_cons_succ]
                        refine takeW 9 (some 175) (oi := ?oT46) (v := ?vT46) ?hiT46 ?hdT46 (by kernel_rfl) (by kernel_rfl) (by kernel_rfl) (fun _ _ _ h => h) ?hwT46 ?hyT46 hHeld ?_
                        case hiT46 => (simp only [List.getElem?_toArray, List.getElem?_cons_succ, List.getElem?_cons_zero]; with_reducible rfl)
                        case hdT46 => rfl
                        case hwT46 => rfl
                        case hyT46 => (intro w hSw; (try dsimp only at hSw); go_simp; first | done | with_reducible rfl)
                        try simp only [Act.put]
                        try simp only [List.setIfInBounds_toArray, List.set_cons_zero, List.set_cons_succ]
                        refine takeW 10 (some 176) (oi := ?oT47) (v := ?vT47) ?hiT47 ?hdT47 (by kernel_rfl) (by kernel_rfl) (by kernel_rfl) (fun _ _ _ h => h) ?hwT47 ?hyT47 hHeld ?_
                        case hiT47 => (simp only [List.getElem?_toArray, List.getElem?_cons_succ, List.getElem?_cons_zero]; with_reducible rfl)
                        case hdT47 => rfl
                        case hwT47 => rfl
                        case hyT47 => (intro w hSw; (try dsimp only at hSw); go_simp; first | done | with_reducible rfl)
                        try simp only [Act.put]
                        try simp only [List.setIfInBounds_toArray, List.set_cons_zero, List.set_cons_succ]
                        refine stepOne 11 (o := ?oT48) ?hiT48 (by kernel_rfl) ?hwT48 (fun K hK => ?_)
                        case hiT48 => (simp only [List.getElem?_toArray, List.getElem?_cons_succ, List.getElem?_cons_zero]; with_reducible rfl)
                        case hwT48 => rfl
                        go_simp
                        go_at_call 8
                        refine CST.out.mono ?_
                        rintro e2 w13 ⟨rfl, rfl⟩
                        refine hK.out _ _ ?_ (fun hHeld => ?_)
                        · exact HST.out _ (Below.refl _ _).drew
                        clear hK K
                        try simp only [Act.put]
                        try simp only [List.setIfInBounds_toArray, List.set_cons_zero, List.set_cons_succ]
                        refine takeW 12 (some 178) (oi := ?oT49) (v := ?vT49) ?hiT49 ?hdT49 (by kernel_rfl) (by kernel_rfl) (by kernel_rfl) (fun _ _ _ h => h) ?hwT49 ?hyT49 hHeld ?_
                        case hiT49 => (simp only [List.getElem?_toArray, List.getElem?_cons_succ, List.getElem?_cons_zero]; with_reducible rfl)
                        case hdT49 => rfl
                        case hwT49 => rfl
                        case hyT49 => (intro w hSw; (try dsimp only at hSw); go_simp; first | done | with_reducible rfl)
                        try simp only [Act.put]
                        try simp only [List.setIfInBounds_toArray, List.set_cons_zero, List.set_cons_succ]
                        refine takeW 13 (some 179) (oi := ?oT50) (v := ?vT50) ?hiT50 ?hdT50 (by kernel_rfl) (by kernel_rfl) (by kernel_rfl) (fun _ _ _ h => h) ?hwT50 ?hyT50 hHeld ?_
                        case hiT50 => (simp only [List.getElem?_toArray, List.getElem?_cons_succ, List.getElem?_cons_zero]; with_reducible rfl)
                        case hdT50 => rfl
                        case hwT50 => rfl
                        case hyT50 => (intro w hSw; (try dsimp only at hSw); go_simp; first | done | with_reducible rfl)
                        try simp only [Act.put]
                        try simp only [List.setIfInBounds_toArray, List.set_cons_zero, List.set_cons_succ]
                        refine takeW 14 (some 180) (oi := ?oT51) (v := ?vT51) ?hiT51 ?hdT51 (by kernel_rfl) (by kernel_rfl) (by kernel_rfl) (fun _ _ _ h => h) ?hwT51 ?hyT51 hHeld ?_
                        case hiT51 => (simp only [List.getElem?_toArray, List.getElem?_cons_succ, List.getElem?_cons_zero]; with_reducible rfl)
                        case hdT51 => rfl
                        case hwT51 => rfl
                        case hyT51 => (intro w hSw; (try dsimp only at hSw); go_simp; first | done | with_reducible rfl)
                        try simp only [Act.put]
                        try simp only [List.setIfInBounds_toArray, List.set_cons_zero, List.set_cons_succ]
                        refine takeW 15 (some 181) (oi := ?oT52) (v := ?vT52) ?hiT52 ?hdT52 (by kernel_rfl) (by kernel_rfl) (by kernel_rfl) (fun _ _ _ h => h) ?hwT52 ?hyT52 hHeld ?_
                        case hiT52 => (simp only [List.getElem?_toArray, List.getElem?_cons_succ, List.getElem?_cons_zero]; with_reducible rfl)
                        case hdT52 => rfl
                        case hwT52 => rfl
                        case hyT52 => (intro w hSw; (try dsimp only at hSw); go_simp; first | done | with_reducible rfl)
                        try simp only [Act.put]
                        try simp only [List.setIfInBounds_toArray, List.set_cons_zero, List.set_cons_succ]
                        refine takeW 16 (some 182) (oi := ?oT53) (v := ?vT53) ?hiT53 ?hdT53 (by kernel_rfl) (by kernel_rfl) (by kernel_rfl) (fun _ _ _ h => h) ?hwT53 ?hyT53 hHeld ?_
                        case hiT53 => (simp only [List.getElem?_toArray, List.getElem?_cons_succ, List.getElem?_cons_zero]; with_reducible rfl)
                        case hdT53 => rfl
                        case hwT53 => rfl
                        case hyT53 => (intro w hSw; (try dsimp only at hSw); go_simp; first | done | with_reducible rfl)
                        try simp only [Act.put]
                        try simp only [List.setIfInBounds_toArray, List.set_cons_zero, List.set_cons_succ]
                        refine takeW 17 (some 183) (oi := ?oT54) (v := ?vT54) ?hiT54 ?hdT54 (by kernel_rfl) (by kernel_rfl) (by kernel_rfl) (fun _ _ _ h => h) ?hwT54 ?hyT54 hHeld ?_
                        case hiT54 => (simp only [List.getElem?_toArray, List.getElem?_cons_succ, List.getElem?_cons_zero]; with_reducible rfl)
                        case hdT54 => rfl
                        case hwT54 => rfl
                        case hyT54 => (intro w hSw; (try dsimp only at hSw); go_simp; first | done | with_reducible rfl)
                        try simp only [Act.put]
                        try simp only [List.setIfInBounds_toArray, List.set_cons_zero, List.set_cons_succ]
                        refine takeW 18 (some 184) (oi := ?oT55) (v := ?vT55) ?hiT55 ?hdT55 (by kernel_rfl) (by kernel_rfl) (by kernel_rfl) (fun _ _ _ h => h) ?hwT55 ?hyT55 hHeld ?_
                        case hiT55 => (simp only [List.getElem?_toArray, List.getElem?_cons_succ, List.getElem?_cons_zero]; with_reducible rfl)
                        case hdT55 => rfl
                        case hwT55 => rfl
                        case hyT55 => (intro w hSw; (try dsimp only at hSw); go_simp; first | done | with_reducible rfl)
                        try simp only [Act.put]
                        try simp only [List.setIfInBounds_toArray, List.set_cons_zero, List.set_cons_succ]
                        refine takeW 19 (some 185) (oi := ?oT56) (v := ?vT56) ?hiT56 ?hdT56 (by kernel_rfl) (by kernel_rfl) (by kernel_rfl) (fun _ _ _ h => h) ?hwT56 ?hyT56 hHeld ?_
                        case hiT56 => (simp only [List.getElem?_toArray, List.getElem?_cons_succ, List.getElem?_cons_zero]; with_reducible rfl)
                        case hdT56 => rfl
                        case hwT56 => rfl
                        case hyT56 => (intro w hSw; (try dsimp only at hSw); go_simp; first | done | with_reducible rfl)
                        try simp only [Act.put]
                        try simp only [List.setIfInBounds_toArray, List.set_cons_zero, List.set_cons_succ]
                        refine takeW 20 (some 186) (oi := ?oT57) (v := ?vT57) ?hiT57 ?hdT57 (by kernel_rfl) (by kernel_rfl) (by kernel_rfl) (fun _ _ _ h => h) ?hwT57 ?hyT57 hHeld ?_
                        case hiT57 => (simp only [List.getElem?_toArray, List.getElem?_cons_succ, List.getElem?_cons_zero]; with_reducible rfl)
                        case hdT57 => rfl
                        case hwT57 => rfl
                        case hyT57 => (intro w hSw; (try dsimp only at hSw); go_simp; first | done | with_reducible rfl)
                        try simp only [Act.put]
                        try simp only [List.setIfInBounds_toArray, List.set_cons_zero, List.set_cons_succ]
                        refine takeW 21 (some 187) (oi := ?oT58) (v := ?vT58) ?hiT58 ?hdT58 (by kernel_rfl) (by kernel_rfl) (by kernel_rfl) (fun _ _ _ h => h) ?hwT58 ?hyT58 hHeld ?_
                        case hiT58 => (simp only [List.getElem?_toArray, List.getElem?_cons_succ, List.getElem?_cons_zero]; with_reducible rfl)
                        case hdT58 => rfl
                        case hwT58 => rfl
                        case hyT58 => (intro w hSw; (try dsimp only at hSw); go_simp; first | done | with_reducible rfl)
                        try simp only [Act.put]
                        try simp only [List.setIfInBounds_toArray, List.set_cons_zero, List.set_cons_succ]
                        refine takeW 22 (some 188) (oi := ?oT59) (v := ?vT59) ?hiT59 ?hdT59 (by kernel_rfl) (by kernel_rfl) (by kernel_rfl) (fun _ _ _ h => h) ?hwT59 ?hyT59 hHeld ?_
                        case hiT59 => (simp only [List.getElem?_toArray, List.getElem?_cons_succ, List.getElem?_cons_zero]; with_reducible rfl)
                        case hdT59 => rfl
                        case hwT59 => rfl
                        case hyT59 => (intro w hSw; (try dsimp only at hSw); go_simp; first | done | with_reducible rfl)
                        try simp only [Act.put]
                        try simp only [List.setIfInBounds_toArray, List.set_cons_zero, List.set_cons_succ]
                        refine takeW 23 (some 189) (oi := ?oT60) (v := ?vT60) ?hiT60 ?hdT60 (by kernel_rfl) (by kernel_rfl) (by kernel_rfl) (fun _ _ _ h => h) ?hwT60 ?hyT60 hHeld ?_
                        case hiT60 => (simp only [List.getElem?_toArray, List.getElem?_cons_succ, List.getElem?_cons_zero]; with_reducible rfl)
                        case hdT60 => rfl
                        case hwT60 => rfl
                        case hyT60 => (intro w hSw; (try dsimp only at hSw); go_simp; first | done | with_reducible rfl)
                        try simp only [Act.put]
                        try simp only [List.setIfInBounds_toArray, List.set_cons_zero, List.set_cons_succ]
                        refine takeW 24 (some 190) (oi := ?oT61) (v := ?vT61) ?hiT61 ?hdT61 (by kernel_rfl) (by kernel_rfl) (by kernel_rfl) (fun _ _ _ h => h) ?hwT61 ?hyT61 hHeld ?_
                        case hiT61 => (simp only [List.getElem?_toArray, List.getElem?_cons_succ, List.getElem?_cons_zero]; with_reducible rfl)
                        case hdT61 => rfl
                        case hwT61 => rfl
                        case hyT61 => (intro w hSw; (try dsimp only at hSw); go_simp; first | done | with_reducible rfl)
                        try simp only [Act.put]
                        try simp only [List.setIfInBounds_toArray, List.set_cons_zero, List.set_cons_succ]
                        refine takeW 25 (some 191) (oi := ?oT62) (v := ?vT62) ?hiT62 ?hdT62 (by kernel_rfl) (by kernel_rfl) (by kernel_rfl) (fun _ _ _ h => h) ?hwT62 ?hyT62 hHeld ?_
                        case hiT62 => (simp only [List.getElem?_toArray, List.getElem?_cons_succ, List.getElem?_cons_zero]; with_reducible rfl)
                        case hdT62 => rfl
                        case hwT62 => rfl
                        case hyT62 => (intro w hSw; (try dsimp only at hSw); go_simp; first | done | with_reducible rfl)
                        try simp only [Act.put]
                        try simp only [List.setIfInBounds_toArray, List.set_cons_zero, List.set_cons_succ]
                        refine takeW 26 (some 192) (oi := ?oT63) (v := ?vT63) ?hiT63 ?hdT63 (by kernel_rfl) (by kernel_rfl) (by kernel_rfl) (fun _ _ _ h => h) ?hwT63 ?hyT63 hHeld ?_
                        case hiT63 => (simp only [List.getElem?_toArray, List.getElem?_cons_succ, List.getElem?_cons_zero]; with_reducible rfl)
                        case hdT63 => rfl
                        case hwT63 => rfl
                        case hyT63 => (intro w hSw; (try dsimp only at hSw); go_simp; first | done | with_reducible rfl)
                        try simp only [Act.put]
                        try simp only [List.setIfInBounds_toArray, List.set_cons_zero, List.set_cons_succ]
                        refine takeW 27 (some 193) (oi := ?oT64) (v := ?vT64) ?hiT64 ?hdT64 (by kernel_rfl) (by kernel_rfl) (by kernel_rfl) (fun _ _ _ h => h) ?hwT64 ?hyT64 hHeld ?_
                        case hiT64 => (simp only [List.getElem?_toArray, List.getElem?_cons_succ, List.getElem?_cons_zero]; with_reducible rfl)
                        case hdT64 => rfl
                        case hwT64 => rfl
                        case hyT64 => (intro w hSw; (try dsimp only at hSw); go_simp; first | done | with_reducible rfl)
                        try simp only [Act.put]
                        try simp only [List.setIfInBounds_toArray, List.set_cons_zero, List.set_cons_succ]
                        refine takeW 28 (some 194) (oi := ?oT65) (v := ?vT65) ?hiT65 ?hdT65 (by kernel_rfl) (by kernel_rfl) (by kernel_rfl) (fun _ _ _ h => h) ?hwT65 ?hyT65 hHeld ?_
                        case hiT65 => (simp only [List.getElem?_toArray, List.getElem?_cons_succ, List.getElem?_cons_zero]; with_reducible rfl)
                        case hdT65 => rfl
                        case hwT65 => rfl
                        case hyT65 => (intro w hSw; (try dsimp only at hSw); go_simp; first | done | with_reducible rfl)
                        try simp only [Act.put]
                        try simp only [List.setIfInBounds_toArray, List.set_cons_zero, List.set_cons_succ]
                        refine takeW 29 (some 195) (oi := ?oT66) (v := ?vT66) ?hiT66 ?hdT66 (by kernel_rfl) (by kernel_rfl) (by kernel_rfl) (fun _ _ _ h => h) ?hwT66 ?hyT66 hHeld ?_
                        case hiT66 => (simp only [List.getElem?_toArray, List.getElem?_cons_succ, List.getElem?_cons_zero]; with_reducible rfl)
                        case hdT66 => rfl
                        case hwT66 => rfl
                        case hyT66 => (intro w hSw; (try dsimp only at hSw); go_simp; first | done | with_reducible rfl)
                        try simp only [Act.put]
                        try simp only [List.setIfInBounds_toArray, List.set_cons_zero, List.set_cons_succ]
                        refine takeW 30 (some 196) (oi := ?oT67) (v := ?vT67) ?hiT67 ?hdT67 (by kernel_rfl) (by kernel_rfl) (by kernel_rfl) (fun _ _ _ h => h) ?hwT67 ?hyT67 hHeld ?_
                        case hiT67 => (simp only [List.getElem?_toArray, List.getElem?_cons_succ, List.getElem?_cons_zero]; with_reducible rfl)
                        case hdT67 => rfl
                        case hwT67 => rfl
                        case hyT67 => (intro w hSw; (try dsimp only at hSw); go_simp; first | done | with_reducible rfl)
                        try simp only [Act.put]
                        try simp only [List.setIfInBounds_toArray, List.set_cons_zero, List.set_cons_succ]
                        refine takeW 31 (some 197) (oi := ?oT68) (v := ?vT68) ?hiT68 ?hdT68 (by kernel_rfl) (by kernel_rfl) (by kernel_rfl) (fun _ _ _ h => h) ?hwT68 ?hyT68 hHeld ?_
                        case hiT68 => (simp only [List.getElem?_toArray, List.getElem?_cons_succ, List.getElem?_cons_zero]; with_reducible rfl)
                        case hdT68 => rfl
                        case hwT68 => rfl
                        case hyT68 => (intro w hSw; (try dsimp only at hSw); go_simp; first | done | with_reducible rfl)
                        try simp only [Act.put]
                        try simp only [List.setIfInBounds_toArray, List.set_cons_zero, List.set_cons_succ]
                        refine takeW 32 (some 198) (oi := ?oT69) (v := ?vT69) ?hiT69 ?hdT69 (by kernel_rfl) (by kernel_rfl) (by kernel_rfl) (fun _ _ _ h => h) ?hwT69 ?hyT69 hHeld ?_
                        case hiT69 => (simp only [List.getElem?_toArray, List.getElem?_cons_succ, List.getElem?_cons_zero]; with_reducible rfl)
                        case hdT69 => rfl
                        case hwT69 => rfl
                        case hyT69 => (intro w hSw; (try dsimp only at hSw); go_simp; first | done | with_reducible rfl)
                        try simp only [Act.put]
                        try simp only [List.setIfInBounds_toArray, List.set_cons_zero, List.set_cons_succ]
                        refine takeW 33 (some 199) (oi := ?oT70) (v := ?vT70) ?hiT70 ?hdT70 (by kernel_rfl) (by kernel_rfl) (by kernel_rfl) (fun _ _ _ h => h) ?hwT70 ?hyT70 hHeld ?_
                        case hiT70 => (simp only [List.getElem?_toArray, List.getElem?_cons_succ, List.getElem?_cons_zero]; with_reducible rfl)
                        case hdT70 => rfl
                        case hwT70 => rfl
                        case hyT70 => (intro w hSw; (try dsimp only at hSw); go_simp; first | done | with_reducible rfl)
                        try simp only [Act.put]
                        try simp only [List.setIfInBounds_toArray, List.set_cons_zero, List.set_cons_succ]
                        refine takeW 34 (some 200) (oi := ?oT71) (v := ?vT71) ?hiT71 ?hdT71 (by kernel_rfl) (by kernel_rfl) (by kernel_rfl) (fun _ _ _ h => h) ?hwT71 ?hyT71 hHeld ?_
                        case hiT71 => (simp only [List.getElem?_toArray, List.getElem?_cons_succ, List.getElem?_cons_zero]; with_reducible rfl)
                        case hdT71 => rfl
                        case hwT71 => rfl
                        case hyT71 => (intro w hSw; (try dsimp only at hSw); go_simp; first | done | with_reducible rfl)
                        try simp only [Act.put]
                        try simp only [List.setIfInBounds_toArray, List.set_cons_zero, List.set_cons_succ]
                        refine takeW 35 (some 201) (oi := ?oT72) (v := ?vT72) ?hiT72 ?hdT72 (by kernel_rfl) (by kernel_rfl) (by kernel_rfl) (fun _ _ _ h => h) ?hwT72 ?hyT72 hHeld ?_
                        case hiT72 => (simp only [List.getElem?_toArray, List.getElem?_cons_succ, List.getElem?_cons_zero]; with_reducible rfl)
                        case hdT72 => rfl
                        case hwT72 => rfl
                        case hyT72 => (intro w hSw; (try dsimp only at hSw); go_simp; first | done | with_reducible rfl)
                        try simp only [Act.put]
                        try simp only [List.setIfInBounds_toArray, List.set_cons_zero, List.set_cons_succ]
                        refine takeW 36 (some 202) (oi := ?oT73) (v := ?vT73) ?hiT73 ?hdT73 (by kernel_rfl) (by kernel_rfl) (by kernel_rfl) (fun _ _ _ h => h) ?hwT73 ?hyT73 hHeld ?_
                        case hiT73 => (simp only [List.getElem?_toArray, List.getElem?_cons_succ, List.getElem?_cons_zero]; with_reducible rfl)
                        case hdT73 => rfl
                        case hwT73 => rfl
                        case hyT73 => (intro w hSw; (try dsimp only at hSw); go_simp; first | done | with_reducible rfl)
                        try simp only [Act.put]
                        try simp only [List.setIfInBounds_toArray, List.set_cons_zero, List.set_cons_succ]
                        refine takeW 37 (some 203) (oi := ?oT74) (v := ?vT74) ?hiT74 ?hdT74 (by kernel_rfl) (by kernel_rfl) (by kernel_rfl) (fun _ _ _ h => h) ?hwT74 ?hyT74 hHeld ?_
                        case hiT74 => (simp only [List.getElem?_toArray, List.getElem?_cons_succ, List.getElem?_cons_zero]; with_reducible rfl)
                        case hdT74 => rfl
                        case hwT74 => rfl
                        case hyT74 => (intro w hSw; (try dsimp only at hSw); go_simp; first | done | with_reducible rfl)
                        try simp only [Act.put]
                        try simp only [List.setIfInBounds_toArray, List.set_cons_zero, List.set_cons_succ]
                        refine takeW 38 (some 204) (oi := ?oT75) (v := ?vT75) ?hiT75 ?hdT75 (by kernel_rfl) (by kernel_rfl) (by kernel_rfl) (fun _ _ _ h => h) ?hwT75 ?hyT75 hHeld ?_
                        case hiT75 => (simp only [List.getElem?_toArray, List.getElem?_cons_succ, List.getElem?_cons_zero]; with_reducible rfl)
                        case hdT75 => rfl
                        case hwT75 => rfl
                        case hyT75 => (intro w hSw; (try dsimp only at hSw); go_simp; first | done | with_reducible rfl)
                        try simp only [Act.put]
                        try simp only [List.setIfInBounds_toArray, List.set_cons_zero, List.set_cons_succ]
                        refine takeW 39 (some 205) (oi := ?oT76) (v := ?vT76) ?hiT76 ?hdT76 (by kernel_rfl) (by kernel_rfl) (by kernel_rfl) (fun _ _ _ h => h) ?hwT76 ?hyT76 hHeld ?_
                        case hiT76 => (simp only [List.getElem?_toArray, List.getElem?_cons_succ, List.getElem?_cons_zero]; with_reducible rfl)
                        case hdT76 => rfl
                        case hwT76 => rfl
                        case hyT76 => (intro w hSw; (try dsimp only at hSw); go_simp; first | done | with_reducible rfl)
                        try simp only [Act.put]
                        try simp only [List.setIfInBounds_toArray, List.set_cons_zero, List.set_cons_succ]
                        refine takeW 40 (some 206) (oi := ?oT77) (v := ?vT77) ?hiT77 ?hdT77 (by kernel_rfl) (by kernel_rfl) (by kernel_rfl) (fun _ _ _ h => h) ?hwT77 ?hyT77 hHeld ?_
                        case hiT77 => (simp only [List.getElem?_toArray, List.getElem?_cons_succ, List.getElem?_cons_zero]; with_reducible rfl)
                        case hdT77 => rfl
                        case hwT77 => rfl
                        case hyT77 => (intro w hSw; (try dsimp only at hSw); go_simp; first | done | with_reducible rfl)
                        try simp only [Act.put]
                        try simp only [List.setIfInBounds_toArray, List.set_cons_zero, List.set_cons_succ]
                        refine takeW 41 (some 207) (oi := ?oT78) (v := ?vT78) ?hiT78 ?hdT78 (by kernel_rfl) (by kernel_rfl) (by kernel_rfl) (fun _ _ _ h => h) ?hwT78 ?hyT78 hHeld ?_
                        case hiT78 => (simp only [List.getElem?_toArray, List.getElem?_cons_succ, List.getElem?_cons_zero]; with_reducible rfl)
                        case hdT78 => rfl
                        case hwT78 => rfl
                        case hyT78 => (intro w hSw; (try dsimp only at hSw); go_simp; first | done | with_reducible rfl)
                        try simp only [Act.put]
                        try simp only [List.setIfInBounds_toArray, List.set_cons_zero, List.set_cons_succ]
                        refine takeW 42 (some 208) (oi := ?oT79) (v := ?vT79) ?hiT79 ?hdT79 (by kernel_rfl) (by kernel_rfl) (by kernel_rfl) (fun _ _ _ h => h) ?hwT79 ?hyT79 hHeld ?_
                        case hiT79 => (simp only [List.getElem?_toArray, List.getElem?_cons_succ, List.getElem?_cons_zero]; with_reducible rfl)
                        case hdT79 => rfl
                        case hwT79 => rfl
                        case hyT79 => (intro w hSw; (try dsimp only at hSw); go_simp; first | done | with_reducible rfl)
                        try simp only [Act.put]
                        try simp only [List.setIfInBounds_toArray, List.set_cons_zero, List.set_cons_succ]
                        refine takeW 43 (some 209) (oi := ?oT80) (v := ?vT80) ?hiT80 ?hdT80 (by kernel_rfl) (by kernel_rfl) (by kernel_rfl) (fun _ _ _ h => h) ?hwT80 ?hyT80 hHeld ?_
                        case hiT80 => (simp only [List.getElem?_toArray, List.getElem?_cons_succ, List.getElem?_cons_zero]; with_reducible rfl)
                        case hdT80 => rfl
                        case hwT80 => rfl
                        case hyT80 => (intro w hSw; (try dsimp only at hSw); go_simp; first | done | with_reducible rfl)
                        try simp only [Act.put]
                        try simp only [List.setIfInBounds_toArray, List.set_cons_zero, List.set_cons_succ]
                        refine takeW 44 (some 210) (oi := ?oT81) (v := ?vT81) ?hiT81 ?hdT81 (by kernel_rfl) (by kernel_rfl) (by kernel_rfl) (fun _ _ _ h => h) ?hwT81 ?hyT81 hHeld ?_
                        case hiT81 => (simp only [List.getElem?_toArray, List.getElem?_cons_succ, List.getElem?_cons_zero]; with_reducible rfl)
                        case hdT81 => rfl
                        case hwT81 => rfl
                        case hyT81 => (intro w hSw; (try dsimp only at hSw); go_simp; first | done | with_reducible rfl)
                        try simp only [Act.put]
                        try simp only [List.setIfInBounds_toArray, List.set_cons_zero, List.set_cons_succ]
                        refine wpAnyH_done (by kernel_rfl) ?_ _
                        refine NoPanic.normal ?_
                        skip
                        go_wp2_with fail
                        go_meet
                        exact ⟨rfl, rfl⟩
                      · as_aux_lemma =>
                        have heq := nat_ne hee
                        clear hee
                        refine wp_region_noPanic ?_
                        refine wp_region_held_drew (S := fun W => W.cell? ⟨q12, 0, none⟩ = some (.string (str clm)) ∧ W.cell? ⟨q12, 1, none⟩ = some (.int .i64 (k : Int)) ∧ W.cell? ⟨q13, 0, none⟩ = some (.int .i64 (j : Int)) ∧ W.cell? ⟨q13, 2, none⟩ = some (.int .i64 (e' : Int))) (by kernel_rfl) (HST.out _ (Below.refl _ _).drew) (fun hHeld => ?_)
                        refine takeW 0 (some 166) (oi := ?oT82) (v := ?vT82) ?hiT82 ?hdT82 (by kernel_rfl) (by kernel_rfl) (by kernel_rfl) (fun _ _ _ h => h) ?hwT82 ?hyT82 hHeld ?_
                        case hiT82 => (simp only [List.getElem?_toArray, List.getElem?_cons_zero]; with_reducible rfl)
                        case hdT82 => rfl
                        case hwT82 => rfl
                        case hyT82 => (intro w hSw; (try dsimp only at hSw); go_simp; first | done | with_reducible rfl)
                        try simp only [Act.put]
                        try simp only [List.setIfInBounds_toArray, List.set_cons_zero, List.set_cons_succ]
                        refine takeW 1 (some 167) (oi := ?oT83) (v := ?vT83) ?hiT83 ?hdT83 (by kernel_rfl) (by kernel_rfl) (by kernel_rfl) (fun _ _ _ h => h) ?hwT83 ?hyT83 hHeld ?_
                        case hiT83 => (simp only [List.getElem?_toArray, List.getElem?_cons_succ, List.getElem?_cons_zero]; with_reducible rfl)
                        case hdT83 => rfl
                        case hwT83 => rfl
                        case hyT83 => (intro w hSw; (try dsimp only at hSw); go_simp; first | done | with_reducible rfl)
                        try simp only [Act.put]
                        try simp only [List.setIfInBounds_toArray, List.set_cons_zero, List.set_cons_succ]
                        refine takeW 2 (some 168) (oi := ?oT84) (v := ?vT84) ?hiT84 ?hdT84 (by kernel_rfl) (by kernel_rfl) (by kernel_rfl) (fun _ _ _ h => h) ?hwT84 ?hyT84 hHeld ?_
                        case hiT84 => (simp only [List.getElem?_toArray, List.getElem?_cons_succ, List.getElem?_cons_zero]; with_reducible rfl)
                        case hdT84 => rfl
                        case hwT84 => rfl
                        case hyT84 => (intro w hSw; (try dsimp only at hSw); go_simp; first | done | with_reducible rfl)
                        try simp only [Act.put]
                        try simp only [List.setIfInBounds_toArray, List.set_cons_zero, List.set_cons_succ]
                        refine takeW 3 (some 169) (oi := ?oT85) (v := ?vT85) ?hiT85 ?hdT85 (by kernel_rfl) (by kernel_rfl) (by kernel_rfl) (fun _ _ _ h => h) ?hwT85 ?hyT85 hHeld ?_
                        case hiT85 => (simp only [List.getElem?_toArray, List.getElem?_cons_succ, List.getElem?_cons_zero]; with_reducible rfl)
                        case hdT85 => rfl
                        case hwT85 => rfl
                        case hyT85 => (intro w hSw; (try dsimp only at hSw); go_simp; first | done | with_reducible rfl)
                        try simp only [Act.put]
                        try simp only [List.setIfInBounds_toArray, List.set_cons_zero, List.set_cons_succ]
                        refine takeW 4 (some 170) (oi := ?oT86) (v := ?vT86) ?hiT86 ?hdT86 (by kernel_rfl) (by kernel_rfl) (by kernel_rfl) (fun _ _ _ h => h) ?hwT86 ?hyT86 hHeld ?_
                        case hiT86 => (simp only [List.getElem?_toArray, List.getElem?_cons_succ, List.getElem?_cons_zero]; with_reducible rfl)
                        case hdT86 => rfl
                        case hwT86 => rfl
                        case hyT86 => (intro w hSw; (try dsimp only at hSw); go_simp; first | done | with_reducible rfl)
                        try simp only [Act.put]
                        try simp only [List.setIfInBounds_toArray, List.set_cons_zero, List.set_cons_succ]
                        refine takeW 5 (some 171) (oi := ?oT87) (v := ?vT87) ?hiT87 ?hdT87 (by kernel_rfl) (by kernel_rfl) (by kernel_rfl) (fun _ _ _ h => h) ?hwT87 ?hyT87 hHeld ?_
                        case hiT87 => (simp only [List.getElem?_toArray, List.getElem?_cons_succ, List.getElem?_cons_zero]; with_reducible rfl)
                        case hdT87 => rfl
                        case hwT87 => rfl
                        case hyT87 => (intro w hSw; (try dsimp only at hSw); go_simp; first | done | with_reducible rfl)
                        try simp only [Act.put]
                        try simp only [List.setIfInBounds_toArray, List.set_cons_zero, List.set_cons_succ]
                        refine takeW 6 (some 172) (oi := ?oT88) (v := ?vT88) ?hiT88 ?hdT88 (by kernel_rfl) (by kernel_rfl) (by kernel_rfl) (fun _ _ _ h => h) ?hwT88 ?hyT88 hHeld ?_
                        case hiT88 => (simp only [List.getElem?_toArray, List.getElem?_cons_succ, List.getElem?_cons_zero]; with_reducible rfl)
                        case hdT88 => rfl
                        case hwT88 => rfl
                        case hyT88 => (intro w hSw; (try dsimp only at hSw); go_simp; first | done | with_reducible rfl)
                        try simp only [Act.put]
                        try simp only [List.setIfInBounds_toArray, List.set_cons_zero, List.set_cons_succ]
                        refine takeW 7 (some 173) (oi := ?oT89) (v := ?vT89) ?hiT89 ?hdT89 (by kernel_rfl) (by kernel_rfl) (by kernel_rfl) (fun _ _ _ h => h) ?hwT89 ?hyT89 hHeld ?_
                        case hiT89 => (simp only [List.getElem?_toArray, List.getElem?_cons_succ, List.getElem?_cons_zero]; with_reducible rfl)
                        case hdT89 => rfl
                        case hwT89 => rfl
                        case hyT89 => (intro w hSw; (try dsimp only at hSw); go_simp; first | done | with_reducible rfl)
                        try simp only [Act.put]
                        try simp only [List.setIfInBounds_toArray, List.set_cons_zero, List.set_cons_succ]
                        refine takeW 8 (some 174) (oi := ?oT90) (v := ?vT90) ?hiT90 ?hdT90 (by kernel_rfl) (by kernel_rfl) (by kernel_rfl) (fun _ _ _ h => h) ?hwT90 ?hyT90 hHeld ?_
                        case hiT90 => (simp only [List.getElem?_toArray, List.getElem?_cons_succ, List.getElem?_cons_zero]; with_reducible rfl)
                        case hdT90 => rfl
                        case hwT90 => rfl
                        case hyT90 => (intro w hSw; (try dsimp only at hSw); go_simp; first | done | with_reducible rfl)
                        try simp only [Act.put]
                        try simp only [List.setIfInBounds_toArray, List.set_cons_zero, List.set_cons_succ]
                        refine takeW 9 (some 175) (oi := ?oT91) (v := ?vT91) ?hiT91 ?hdT91 (by kernel_rfl) (by kernel_rfl) (by kernel_rfl) (fun _ _ _ h => h) ?hwT91 ?hyT91 hHeld ?_
                        case hiT91 => (simp only [List.getElem?_toArray, List.getElem?_cons_succ, List.getElem?_cons_zero]; with_reducible rfl)
                        case hdT91 => rfl
                        case hwT91 => rfl
                        case hyT91 => (intro w hSw; (try dsimp only at hSw); go_simp; first | done | with_reducible rfl)
                        try simp only [Act.put]
                        try simp only [List.setIfInBounds_toArray, List.set_cons_zero, List.set_cons_succ]
                        refine takeW 10 (some 176) (oi := ?oT92) (v := ?vT92) ?hiT92 ?hdT92 (by kernel_rfl) (by kernel_rfl) (by kernel_rfl) (fun _ _ _ h => h) ?hwT92 ?hyT92 hHeld ?_
                        case hiT92 => (simp only [List.getElem?_toArray, List.getElem?_cons_succ, List.getElem?_cons_zero]; with_reducible rfl)
                        case hdT92 => rfl
                        case hwT92 => rfl
                        case hyT92 => (intro w hSw; (try dsimp only at hSw); go_simp; first | done | with_reducible rfl)
                        try simp only [Act.put]
                        try simp only [List.setIfInBounds_toArray, List.set_cons_zero, List.set_cons_succ]
                        refine stepOne 11 (o := ?oT93) ?hiT93 (by kernel_rfl) ?hwT93 (fun K hK => ?_)
                        case hiT93 => (simp only [List.getElem?_toArray, List.getElem?_cons_succ, List.getElem?_cons_zero]; with_reducible rfl)
                        case hwT93 => rfl
                        go_simp
                        go_at_call 8
                        refine CST.out.mono ?_
                        rintro e2 w13 ⟨rfl, rfl⟩
                        refine hK.out _ _ ?_ (fun hHeld => ?_)
                        · exact HST.out _ (Below.refl _ _).drew
                        clear hK K
                        try simp only [Act.put]
                        try simp only [List.setIfInBounds_toArray, List.set_cons_zero, List.set_cons_succ]
                        refine takeW 12 (some 178) (oi := ?oT94) (v := ?vT94) ?hiT94 ?hdT94 (by kernel_rfl) (by kernel_rfl) (by kernel_rfl) (fun _ _ _ h => h) ?hwT94 ?hyT94 hHeld ?_
                        case hiT94 => (simp only [List.getElem?_toArray, List.getElem?_cons_succ, List.getElem?_cons_zero]; with_reducible rfl)
                        case hdT94 => rfl
                        case hwT94 => rfl
                        case hyT94 => (intro w hSw; (try dsimp only at hSw); go_simp; first | done | with_reducible rfl)
                        try simp only [Act.put]
                        try simp only [List.setIfInBounds_toArray, List.set_cons_zero, List.set_cons_succ]
                        refine takeW 13 (some 179) (oi := ?oT95) (v := ?vT95) ?hiT95 ?hdT95 (by kernel_rfl) (by kernel_rfl) (by kernel_rfl) (fun _ _ _ h => h) ?hwT95 ?hyT95 hHeld ?_
                        case hiT95 => (simp only [List.getElem?_toArray, List.getElem?_cons_succ, List.getElem?_cons_zero]; with_reducible rfl)
                        case hdT95 => rfl
                        case hwT95 => rfl
                        case hyT95 => (intro w hSw; (try dsimp only at hSw); go_simp; first | done | with_reducible rfl)
                        try simp only [Act.put]
                        try simp only [List.setIfInBounds_toArray, List.set_cons_zero, List.set_cons_succ]
                        refine takeW 14 (some 180) (oi := ?oT96) (v := ?vT96) ?hiT96 ?hdT96 (by kernel_rfl) (by kernel_rfl) (by kernel_rfl) (fun _ _ _ h => h) ?hwT96 ?hyT96 hHeld ?_
                        case hiT96 => (simp only [List.getElem?_toArray, List.getElem?_cons_succ, List.getElem?_cons_zero]; with_reducible rfl)
                        case hdT96 => rfl
                        case hwT96 => rfl
                        case hyT96 => (intro w hSw; (try dsimp only at hSw); go_simp; first | done | with_reducible rfl)
                        try simp only [Act.put]
                        try simp only [List.setIfInBounds_toArray, List.set_cons_zero, List.set_cons_succ]
                        refine takeW 15 (some 181) (oi := ?oT97) (v := ?vT97) ?hiT97 ?hdT97 (by kernel_rfl) (by kernel_rfl) (by kernel_rfl) (fun _ _ _ h => h) ?hwT97 ?hyT97 hHeld ?_
                        case hiT97 => (simp only [List.getElem?_toArray, List.getElem?_cons_succ, List.getElem?_cons_zero]; with_reducible rfl)
                        case hdT97 => rfl
                        case hwT97 => rfl
                        case hyT97 => (intro w hSw; (try dsimp only at hSw); go_simp; first | done | with_reducible rfl)
                        try simp only [Act.put]
                        try simp only [List.setIfInBounds_toArray, List.set_cons_zero, List.set_cons_succ]
                        refine takeW 16 (some 182) (oi := ?oT98) (v := ?vT98) ?hiT98 ?hdT98 (by kernel_rfl) (by kernel_rfl) (by kernel_rfl) (fun _ _ _ h => h) ?hwT98 ?hyT98 hHeld ?_
                        case hiT98 => (simp only [List.getElem?_toArray, List.getElem?_cons_succ, List.getElem?_cons_zero]; with_reducible rfl)
                        case hdT98 => rfl
                        case hwT98 => rfl
                        case hyT98 => (intro w hSw; (try dsimp only at hSw); go_simp; first | done | with_reducible rfl)
                        try simp only [Act.put]
                        try simp only [List.setIfInBounds_toArray, List.set_cons_zero, List.set_cons_succ]
                        refine takeW 17 (some 183) (oi := ?oT99) (v := ?vT99) ?hiT99 ?hdT99 (by kernel_rfl) (by kernel_rfl) (by kernel_rfl) (fun _ _ _ h => h) ?hwT99 ?hyT99 hHeld ?_
                        case hiT99 => (simp only [List.getElem?_toArray, List.getElem?_cons_succ, List.getElem?_cons_zero]; with_reducible rfl)
                        case hdT99 => rfl
                        case hwT99 => rfl
                        case hyT99 => (intro w hSw; (try dsimp only at hSw); go_simp; first | done | with_reducible rfl)
                        try simp only [Act.put]
                        try simp only [List.setIfInBounds_toArray, List.set_cons_zero, List.set_cons_succ]
                        refine takeW 18 (some 184) (oi := ?oT100) (v := ?vT100) ?hiT100 ?hdT100 (by kernel_rfl) (by kernel_rfl) (by kernel_rfl) (fun _ _ _ h => h) ?hwT100 ?hyT100 hHeld ?_
                        case hiT100 => (simp only [List.getElem?_toArray, List.getElem?_cons_succ, List.getElem?_cons_zero]; with_reducible rfl)
                        case hdT100 => rfl
                        case hwT100 => rfl
                        case hyT100 => (intro w hSw; (try dsimp only at hSw); go_simp; first | done | with_reducible rfl)
                        try simp only [Act.put]
                        try simp only [List.setIfInBounds_toArray, List.set_cons_zero, List.set_cons_succ]
                        refine takeW 19 (some 185) (oi := ?oT101) (v := ?vT101) ?hiT101 ?hdT101 (by kernel_rfl) (by kernel_rfl) (by kernel_rfl) (fun _ _ _ h => h) ?hwT101 ?hyT101 hHeld ?_
                        case hiT101 => (simp only [List.getElem?_toArray, List.getElem?_cons_succ, List.getElem?_cons_zero]; with_reducible rfl)
                        case hdT101 => rfl
                        case hwT101 => rfl
                        case hyT101 => (intro w hSw; (try dsimp only at hSw); go_simp; first | done | with_reducible rfl)
                        try simp only [Act.put]
                        try simp only [List.setIfInBounds_toArray, List.set_cons_zero, List.set_cons_succ]
                        refine takeW 20 (some 186) (oi := ?oT102) (v := ?vT102) ?hiT102 ?hdT102 (by kernel_rfl) (by kernel_rfl) (by kernel_rfl) (fun _ _ _ h => h) ?hwT102 ?hyT102 hHeld ?_
                        case hiT102 => (simp only [List.getElem?_toArray, List.getElem?_cons_succ, List.getElem?_cons_zero]; with_reducible rfl)
                        case hdT102 => rfl
                        case hwT102 => rfl
                        case hyT102 => (intro w hSw; (try dsimp only at hSw); go_simp; first | done | with_reducible rfl)
                        try simp only [Act.put]
                        try simp only [List.setIfInBounds_toArray, List.set_cons_zero, List.set_cons_succ]
                        refine takeW 21 (some 187) (oi := ?oT103) (v := ?vT103) ?hiT103 ?hdT103 (by kernel_rfl) (by kernel_rfl) (by kernel_rfl) (fun _ _ _ h => h) ?hwT103 ?hyT103 hHeld ?_
                        case hiT103 => (simp only [List.getElem?_toArray, List.getElem?_cons_succ, List.getElem?_cons_zero]; with_reducible rfl)
                        case hdT103 => rfl
                        case hwT103 => rfl
                        case hyT103 => (intro w hSw; (try dsimp only at hSw); go_simp; first | done | with_reducible rfl)
                        try simp only [Act.put]
                        try simp only [List.setIfInBounds_toArray, List.set_cons_zero, List.set_cons_succ]
                        refine takeW 22 (some 188) (oi := ?oT104) (v := ?vT104) ?hiT104 ?hdT104 (by kernel_rfl) (by kernel_rfl) (by kernel_rfl) (fun _ _ _ h => h) ?hwT104 ?hyT104 hHeld ?_
                        case hiT104 => (simp only [List.getElem?_toArray, List.getElem?_cons_succ, List.getElem?_cons_zero]; with_reducible rfl)
                        case hdT104 => rfl
                        case hwT104 => rfl
                        case hyT104 => (intro w hSw; (try dsimp only at hSw); go_simp; first | done | with_reducible rfl)
                        try simp only [Act.put]
                        try simp only [List.setIfInBounds_toArray, List.set_cons_zero, List.set_cons_succ]
                        refine takeW 23 (some 189) (oi := ?oT105) (v := ?vT105) ?hiT105 ?hdT105 (by kernel_rfl) (by kernel_rfl) (by kernel_rfl) (fun _ _ _ h => h) ?hwT105 ?hyT105 hHeld ?_
                        case hiT105 => (simp only [List.getElem?_toArray, List.getElem?_cons_succ, List.getElem?_cons_zero]; with_reducible rfl)
                        case hdT105 => rfl
                        case hwT105 => rfl
                        case hyT105 => (intro w hSw; (try dsimp only at hSw); go_simp; first | done | with_reducible rfl)
                        try simp only [Act.put]
                        try simp only [List.setIfInBounds_toArray, List.set_cons_zero, List.set_cons_succ]
                        refine takeW 24 (some 190) (oi := ?oT106) (v := ?vT106) ?hiT106 ?hdT106 (by kernel_rfl) (by kernel_rfl) (by kernel_rfl) (fun _ _ _ h => h) ?hwT106 ?hyT106 hHeld ?_
                        case hiT106 => (simp only [List.getElem?_toArray, List.getElem?_cons_succ, List.getElem?_cons_zero]; with_reducible rfl)
                        case hdT106 => rfl
                        case hwT106 => rfl
                        case hyT106 => (intro w hSw; (try dsimp only at hSw); go_simp; first | done | with_reducible rfl)
                        try simp only [Act.put]
                        try simp only [List.setIfInBounds_toArray, List.set_cons_zero, List.set_cons_succ]
                        refine takeW 25 (some 191) (oi := ?oT107) (v := ?vT107) ?hiT107 ?hdT107 (by kernel_rfl) (by kernel_rfl) (by kernel_rfl) (fun _ _ _ h => h) ?hwT107 ?hyT107 hHeld ?_
                        case hiT107 => (simp only [List.getElem?_toArray, List.getElem?_cons_succ, List.getElem?_cons_zero]; with_reducible rfl)
                        case hdT107 => rfl
                        case hwT107 => rfl
                        case hyT107 => (intro w hSw; (try dsimp only at hSw); go_simp; first | done | with_reducible rfl)
                        try simp only [Act.put]
                        try simp only [List.setIfInBounds_toArray, List.set_cons_zero, List.set_cons_succ]
                        refine takeW 26 (some 192) (oi := ?oT108) (v := ?vT108) ?hiT108 ?hdT108 (by kernel_rfl) (by kernel_rfl) (by kernel_rfl) (fun _ _ _ h => h) ?hwT108 ?hyT108 hHeld ?_
                        case hiT108 => (simp only [List.getElem?_toArray, List.getElem?_cons_succ, List.getElem?_cons_zero]; with_reducible rfl)
                        case hdT108 => rfl
                        case hwT108 => rfl
                        case hyT108 => (intro w hSw; (try dsimp only at hSw); go_simp; first | done | with_reducible rfl)
                        try simp only [Act.put]
                        try simp only [List.setIfInBounds_toArray, List.set_cons_zero, List.set_cons_succ]
                        refine takeW 27 (some 193) (oi := ?oT109) (v := ?vT109) ?hiT109 ?hdT109 (by kernel_rfl) (by kernel_rfl) (by kernel_rfl) (fun _ _ _ h => h) ?hwT109 ?hyT109 hHeld ?_
                        case hiT109 => (simp only [List.getElem?_toArray, List.getElem?_cons_succ, List.getElem?_cons_zero]; with_reducible rfl)
                        case hdT109 => rfl
                        case hwT109 => rfl
                        case hyT109 => (intro w hSw; (try dsimp only at hSw); go_simp; first | done | with_reducible rfl)
                        try simp only [Act.put]
                        try simp only [List.setIfInBounds_toArray, List.set_cons_zero, List.set_cons_succ]
                        refine takeW 28 (some 194) (oi := ?oT110) (v := ?vT110) ?hiT110 ?hdT110 (by kernel_rfl) (by kernel_rfl) (by kernel_rfl) (fun _ _ _ h => h) ?hwT110 ?hyT110 hHeld ?_
                        case hiT110 => (simp only [List.getElem?_toArray, List.getElem?_cons_succ, List.getElem?_cons_zero]; with_reducible rfl)
                        case hdT110 => rfl
                        case hwT110 => rfl
                        case hyT110 => (intro w hSw; (try dsimp only at hSw); go_simp; first | done | with_reducible rfl)
                        try simp only [Act.put]
                        try simp only [List.setIfInBounds_toArray, List.set_cons_zero, List.set_cons_succ]
                        refine takeW 29 (some 195) (oi := ?oT111) (v := ?vT111) ?hiT111 ?hdT111 (by kernel_rfl) (by kernel_rfl) (by kernel_rfl) (fun _ _ _ h => h) ?hwT111 ?hyT111 hHeld ?_
                        case hiT111 => (simp only [List.getElem?_toArray, List.getElem?_cons_succ, List.getElem?_cons_zero]; with_reducible rfl)
                        case hdT111 => rfl
                        case hwT111 => rfl
                        case hyT111 => (intro w hSw; (try dsimp only at hSw); go_simp; first | done | with_reducible rfl)
                        try simp only [Act.put]
                        try simp only [List.setIfInBounds_toArray, List.set_cons_zero, List.set_cons_succ]
                        refine takeW 30 (some 196) (oi := ?oT112) (v := ?vT112) ?hiT112 ?hdT112 (by kernel_rfl) (by kernel_rfl) (by kernel_rfl) (fun _ _ _ h => h) ?hwT112 ?hyT112 hHeld ?_
                        case hiT112 => (simp only [List.getElem?_toArray, List.getElem?_cons_succ, List.getElem?_cons_zero]; with_reducible rfl)
                        case hdT112 => rfl
                        case hwT112 => rfl
                        case hyT112 => (intro w hSw; (try dsimp only at hSw); go_simp; first | done | with_reducible rfl)
                        try simp only [Act.put]
                        try simp only [List.setIfInBounds_toArray, List.set_cons_zero, List.set_cons_succ]
                        refine takeW 31 (some 197) (oi := ?oT113) (v := ?vT113) ?hiT113 ?hdT113 (by kernel_rfl) (by kernel_rfl) (by kernel_rfl) (fun _ _ _ h => h) ?hwT113 ?hyT113 hHeld ?_
                        case hiT113 => (simp only [List.getElem?_toArray, List.getElem?_cons_succ, List.getElem?_cons_zero]; with_reducible rfl)
                        case hdT113 => rfl
                        case hwT113 => rfl
                        case hyT113 => (intro w hSw; (try dsimp only at hSw); go_simp; first | done | with_reducible rfl)
                        try simp only [Act.put]
                        try simp only [List.setIfInBounds_toArray, List.set_cons_zero, List.set_cons_succ]
                        refine takeW 32 (some 198) (oi := ?oT114) (v := ?vT114) ?hiT114 ?hdT114 (by kernel_rfl) (by kernel_rfl) (by kernel_rfl) (fun _ _ _ h => h) ?hwT114 ?hyT114 hHeld ?_
                        case hiT114 => (simp only [List.getElem?_toArray, List.getElem?_cons_succ, List.getElem?_cons_zero]; with_reducible rfl)
                        case hdT114 => rfl
                        case hwT114 => rfl
                        case hyT114 => (intro w hSw; (try dsimp only at hSw); go_simp; first | done | with_reducible rfl)
                        try simp only [Act.put]
                        try simp only [List.setIfInBounds_toArray, List.set_cons_zero, List.set_cons_succ]
                        refine takeW 33 (some 199) (oi := ?oT115) (v := ?vT115) ?hiT115 ?hdT115 (by kernel_rfl) (by kernel_rfl) (by kernel_rfl) (fun _ _ _ h => h) ?hwT115 ?hyT115 hHeld ?_
                        case hiT115 => (simp only [List.getElem?_toArray, List.getElem?_cons_succ, List.getElem?_cons_zero]; with_reducible rfl)
                        case hdT115 => rfl
                        case hwT115 => rfl
                        case hyT115 => (intro w hSw; (try dsimp only at hSw); go_simp; first | done | with_reducible rfl)
                        try simp only [Act.put]
                        try simp only [List.setIfInBounds_toArray, List.set_cons_zero, List.set_cons_succ]
                        refine takeW 34 (some 200) (oi := ?oT116) (v := ?vT116) ?hiT116 ?hdT116 (by kernel_rfl) (by kernel_rfl) (by kernel_rfl) (fun _ _ _ h => h) ?hwT116 ?hyT116 hHeld ?_
                        case hiT116 => (simp only [List.getElem?_toArray, List.getElem?_cons_succ, List.getElem?_cons_zero]; with_reducible rfl)
                        case hdT116 => rfl
                        case hwT116 => rfl
                        case hyT116 => (intro w hSw; (try dsimp only at hSw); go_simp; first | done | with_reducible rfl)
                        try simp only [Act.put]
                        try simp only [List.setIfInBounds_toArray, List.set_cons_zero, List.set_cons_succ]
                        refine takeW 35 (some 201) (oi := ?oT117) (v := ?vT117) ?hiT117 ?hdT117 (by kernel_rfl) (by kernel_rfl) (by kernel_rfl) (fun _ _ _ h => h) ?hwT117 ?hyT117 hHeld ?_
                        case hiT117 => (simp only [List.getElem?_toArray, List.getElem?_cons_succ, List.getElem?_cons_zero]; with_reducible rfl)
                        case hdT117 => rfl
                        case hwT117 => rfl
                        case hyT117 => (intro w hSw; (try dsimp only at hSw); go_simp; first | done | with_reducible rfl)
                        try simp only [Act.put]
                        try simp only [List.setIfInBounds_toArray, List.set_cons_zero, List.set_cons_succ]
                        refine takeW 36 (some 202) (oi := ?oT118) (v := ?vT118) ?hiT118 ?hdT118 (by kernel_rfl) (by kernel_rfl) (by kernel_rfl) (fun _ _ _ h => h) ?hwT118 ?hyT118 hHeld ?_
                        case hiT118 => (simp only [List.getElem?_toArray, List.getElem?_cons_succ, List.getElem?_cons_zero]; with_reducible rfl)
                        case hdT118 => rfl
                        case hwT118 => rfl
                        case hyT118 => (intro w hSw; (try dsimp only at hSw); go_simp; first | done | with_reducible rfl)
                        try simp only [Act.put]
                        try simp only [List.setIfInBounds_toArray, List.set_cons_zero, List.set_cons_succ]
                        refine takeW 37 (some 203) (oi := ?oT119) (v := ?vT119) ?hiT119 ?hdT119 (by kernel_rfl) (by kernel_rfl) (by kernel_rfl) (fun _ _ _ h => h) ?hwT119 ?hyT119 hHeld ?_
                        case hiT119 => (simp only [List.getElem?_toArray, List.getElem?_cons_succ, List.getElem?_cons_zero]; with_reducible rfl)
                        case hdT119 => rfl
                        case hwT119 => rfl
                        case hyT119 => (intro w hSw; (try dsimp only at hSw); go_simp; first | done | with_reducible rfl)
                        try simp only [Act.put]
                        try simp only [List.setIfInBounds_toArray, List.set_cons_zero, List.set_cons_succ]
                        refine takeW 38 (some 204) (oi := ?oT120) (v := ?vT120) ?hiT120 ?hdT120 (by kernel_rfl) (by kernel_rfl) (by kernel_rfl) (fun _ _ _ h => h) ?hwT120 ?hyT120 hHeld ?_
                        case hiT120 => (simp only [List.getElem?_toArray, List.getElem?_cons_succ, List.getElem?_cons_zero]; with_reducible rfl)
                        case hdT120 => rfl
                        case hwT120 => rfl
                        case hyT120 => (intro w hSw; (try dsimp only at hSw); go_simp; first | done | with_reducible rfl)
                        try simp only [Act.put]
                        try simp only [List.setIfInBounds_toArray, List.set_cons_zero, List.set_cons_succ]
                        refine takeU 39 (some 205) (oi := ?oT121) ?hiT121 ?hdT121 (by kernel_rfl) (by kernel_rfl) (by kernel_rfl) (fun _ _ _ h => h) ?hwT121 hHeld ?_
                        case hiT121 => (simp only [List.getElem?_toArray, List.getElem?_cons_succ, List.getElem?_cons_zero]; with_reducible rfl)
                        case hdT121 => rfl
                        case hwT121 => rfl
                        try simp only [Act.put]
                        try simp only [List.setIfInBounds_toArray, List.set_cons_zero, List.set_cons_succ]
                        refine takeU 40 (some 206) (oi := ?oT122) ?hiT122 ?hdT122 (by kernel_rfl) (by kernel_rfl) (by kernel_rfl) (fun _ _ _ h => h) ?hwT122 hHeld ?_
                        case hiT122 => (simp only [List.getElem?_toArray, List.getElem?_cons_succ, List.getElem?_cons_zero]; with_reducible rfl)
                        case hdT122 => rfl
                        case hwT122 => rfl
                        try simp only [Act.put]
                        try simp only [List.setIfInBounds_toArray, List.set_cons_zero, List.set_cons_succ]
                        refine takeU 41 (some 207) (oi := ?oT123) ?hiT123 ?hdT123 (by kernel_rfl) (by kernel_rfl) (by kernel_rfl) (fun _ _ _ h => h) ?hwT123 hHeld ?_
                        case hiT123 => (simp only [List.getElem?_toArray, List.getElem?_cons_succ, List.getElem?_cons_zero]; with_reducible rfl)
                        case hdT123 => rfl
                        case hwT123 => rfl
                        try simp only [Act.put]
                        try simp only [List.setIfInBounds_toArray, List.set_cons_zero, List.set_cons_succ]
                        refine takeU 42 (some 208) (oi := ?oT124) ?hiT124 ?hdT124 (by kernel_rfl) (by kernel_rfl) (by kernel_rfl) (fun _ _ _ h => h) ?hwT124 hHeld ?_
                        case hiT124 => (simp only [List.getElem?_toArray, List.getElem?_cons_succ, List.getElem?_cons_zero]; with_reducible rfl)
                        case hdT124 => rfl
                        case hwT124 => rfl
                        try simp only [Act.put]
                        try simp only [List.setIfInBounds_toArray, List.set_cons_zero, List.set_cons_succ]
                        refine takeW 43 (some 209) (oi := ?oT125) (v := ?vT125) ?hiT125 ?hdT125 (by kernel_rfl) (by kernel_rfl) (by kernel_rfl) (fun _ _ _ h => h) ?hwT125 ?hyT125 hHeld ?_
                        case hiT125 => (simp only [List.getElem?_toArray, List.getElem?_cons_succ, List.getElem?_cons_zero]; with_reducible rfl)
                        case hdT125 => rfl
                        case hwT125 => rfl
                        case hyT125 => (intro w hSw; (try dsimp only at hSw); go_simp; first | done | with_reducible rfl)
                        try simp only [Act.put]
                        try simp only [List.setIfInBounds_toArray, List.set_cons_zero, List.set_cons_succ]
                        refine takeW 44 (some 210) (oi := ?oT126) (v := ?vT126) ?hiT126 ?hdT126 (by kernel_rfl) (by kernel_rfl) (by kernel_rfl) (fun _ _ _ h => h) ?hwT126 ?hyT126 hHeld ?_
                        case hiT126 => (simp only [List.getElem?_toArray, List.getElem?_cons_succ, List.getElem?_cons_zero]; with_reducible rfl)
                        case hdT126 => rfl
                        case hwT126 => rfl
                        case hyT126 => (intro w hSw; (try dsimp only at hSw); go_simp; first | done | with_reducible rfl)
                        try simp only [Act.put]
                        try simp only [List.setIfInBounds_toArray, List.set_cons_zero, List.set_cons_succ]
                        refine wpAnyH_done (by kernel_rfl) ?_ _
                        refine NoPanic.normal ?_
                        skip
                        go_wp2_with fail
                        go_meet
                        exact ⟨rfl, rfl⟩
                    case rest =>
                     as_aux_lemma =>
                      obtain ⟨rfl, rfl⟩ := hcut
                      clear CST
                      have F7 := Lib.hid (F6.out.under (Below.refl _ w6).drew)
                      have CRD := Lib.hid (fs_read clm w w6.drew p s' F7.out.fs nice_clm (by have := HI5.out.used (fk_good F7.out).1; omega))
                      have HRD : Sf.read s' clm = (Lo.bytes ⟨(j : Int), Lb, (e' : Int), Ld⟩, k, 0) := by
                        unfold Sf.read
                        rw [if_pos file_clm, HGET.out]
                      rw [HRD] at CRD
                      clear HRD
                      apply_assumption
                      go_wp2_with fail
                      refine CRD.out.mono ?_
                      rintro e2 w7 ⟨v7, rfl, ho, hb7⟩
                      have COL : Hid (Calls Tryz.prog 12 #[v7] w7 fun e w' => e = .returned (.tuple #[lockV (j : Int) Lb (e' : Int) Ld, .bool true]) ∧ Below w7.heap.size w7 w') := Lib.hid ((refopenL_any v7 _ w7 ho.bytes (by rw [Lo.bytes_len]; omega) _ rfl).mono fun e w' h => ⟨by
                        have h1 := h.1
                        rw [Lo.opens] at h1
                        rw [h1]
                        have h2 := held_ok HOKL.out
                        injection h2 with e1 e2 e3 e4
                        show Ending.returned (.tuple #[lockV _ _ _ _, _]) = _
                        rw [e1, e2, e3, e4], h.2⟩)
                      have HB7 := Lib.hid hb7
                      clear ho hb7 CRD
                      go_wp2_with fail
                      refine COL.out.mono ?_
                      rintro e2 w8 ⟨rfl, hb8⟩
                      have HB8 : Hid (Below w6.heap.size w6 w8) := Lib.hid (((Below.refl _ w6).drew.trans (HB7.out.mono (by simp))).trans (hb8.mono (Nat.le_trans (by simp) HB7.out.size)))
                      clear hb8 COL
                      as_aux_lemma =>
                      have hqs : q < w4.heap.size := by have := HW2.out.fk.lt HW2.out.ka; have := K4.out.1; omega
                      have hq6 : q < w6.heap.size := Nat.lt_of_lt_of_le hqs BB6.out.size
                      go_upto_region 32 with fail
                      obtain ⟨w9, hw9⟩ : ∃ W, w8.alloc (.cells #[.int .i64 (j : Int), .int .i64 Lb, .int .i64 (e' : Int), .int .i64 Ld] 30) = W := ⟨_, rfl⟩
                      obtain ⟨q14, hq14⟩ : ∃ Q, w8.heap.size = Q := ⟨_, rfl⟩
                      rw [hw9, hq14]
                      have b14 : Blk w9 q14 30 #[.int .i64 (j : Int), .int .i64 Lb, .int .i64 (e' : Int), .int .i64 Ld] := by rw [← hw9, ← hq14]; exact heap_alloc_new w8 _
                      have HB9 : Hid (Below w6.heap.size w6 w9) := Lib.hid (by rw [← hw9]; exact HB8.out.alloc HB8.out.size _)
                      have HBT : Hid (Below w4.heap.size w4 w9) := Lib.hid (BB6.out.trans (HB9.out.mono BB6.out.size))
                      clear hw9 hq14
                      have m0 := b14.at 0
                      have m1 := b14.at 1
                      have m2 := b14.at 2
                      have m3 := b14.at 3
                      have y13 := B13.out.under HB9.out
                      have y12 := B12.out.under HB9.out
                      have l0 := y13.at 0
                      have l1 := y13.at 1
                      have l2 := y13.at 2
                      have l3 := y13.at 3
                      have g0 := y12.at 0
                      have g1 := y12.at 1
                      go_upto_region 35 with fail
                      clear m0 m1 m2 m3 b14
                      obtain ⟨K6', R6, gb6, h6⟩ := HW2.out.tk_told (f := clm) (k := (k : Int)) (L := ⟨(j : Int), Lb, (e' : Int), Ld⟩) HJ.out.1 HPH.out H4.out X4.out K4.out HBT.out
                      have H6 := Lib.hid h6
                      as_aux_lemma =>
                      have HPD : Hid (PWd w9 q q12 q13 (k : Int) (j : Int) Lb (e' : Int) Ld (str clm)) := Lib.hid ⟨y12, y13, fun o => Blk.free (H5.out.under HBT.out).blk o, (H5.out.under HBT.out).cell30, by have := HBQ.out; omega, by have := HBQ.out; omega⟩
                      have HSS : Hid (∀ W, PWd W q q12 q13 (k : Int) (j : Int) Lb (e' : Int) Ld (str clm) → W.cell? ⟨q12, 0, none⟩ = some (.string (str clm)) ∧ W.cell? ⟨q12, 1, none⟩ = some (.int .i64 (k : Int)) ∧ W.cell? ⟨q13, 0, none⟩ = some (.int .i64 (j : Int)) ∧ W.cell? ⟨q13, 1, none⟩ = some (.int .i64 Lb) ∧ W.cell? ⟨q13, 2, none⟩ = some (.int .i64 (e' : Int)) ∧ W.cell? ⟨q13, 3, none⟩ = some (.int .i64 Ld)) := Lib.hid fun W h => ⟨h.1.at 0, h.1.at 1, h.2.1.at 0, h.2.1.at 1, h.2.1.at 2, h.2.1.at 3⟩
                      obtain ⟨wF, hwF⟩ : ∃ W, ((((((w9.setCell ⟨q, j * 10 + 3, none⟩ (.string (str clm))).setCell ⟨q, j * 10 + 4, none⟩ (.int .i64 (k : Int))).setCell ⟨q, j * 10 + 5, none⟩ (.int .i64 (j : Int))).setCell ⟨q, j * 10 + 6, none⟩ (.int .i64 Lb)).setCell ⟨q, j * 10 + 7, none⟩ (.int .i64 (e' : Int))).setCell ⟨q, j * 10 + 8, none⟩ (.int .i64 Ld)).setCell ⟨q, j * 10 + 9, none⟩ (.bool true) = W := ⟨_, rfl⟩
                      have HWF := Lib.hid hwF
                      have hpf : PWd wF q q12 q13 (k : Int) (j : Int) Lb (e' : Int) Ld (str clm) := by
                        rw [← hwF]
                        exact ((((((HPD.out.set _ _).set _ _).set _ _).set _ _).set _ _).set _ _).set _ _
                      have E12 := Lib.hid (And.intro (hpf.2.2.2.1 (j * 10) (by have := HJ.out; omega)) (hpf.2.2.1 (j * 10)))
                      rw [hwF] at H6
                      clear hwF hpf h6 y12 y13 hq6 hqs g0 g1 l0 l1 l2 l3
                      go_cut [] (fun wx => wx = wF.drew)
                      case first =>
                        as_aux_lemma =>
                        refine wp_region_noPanic ?_
                        refine wp_region_held_drew (S := fun W => W.cell? ⟨q12, 0, none⟩ = some (.string (str clm)) ∧ W.cell? ⟨q12, 1, none⟩ = some (.int .i64 (k : Int)) ∧ W.cell? ⟨q13, 0, none⟩ = some (.int .i64 (j : Int)) ∧ W.cell? ⟨q13, 1, none⟩ = some (.int .i64 Lb) ∧ W.cell? ⟨q13, 2, none⟩ = some (.int .i64 (e' : Int)) ∧ W.cell? ⟨q13, 3, none⟩ = some (.int .i64 Ld)) (by kernel_rfl) (HSS.out _ HPD.out) (fun hHeld => ?_)
                        refine takeW 0 (some 231) (oi := ?oT127) (v := ?vT127) ?hiT127 ?hdT127 (by kernel_rfl) (by kernel_rfl) (by kernel_rfl) (fun _ _ _ h => h) ?hwT127 ?hyT127 hHeld ?_
                        case hiT127 => (simp only [List.getElem?_toArray, List.getElem?_cons_zero]; with_reducible rfl)
                        case hdT127 => rfl
                        case hwT127 => rfl
                        case hyT127 => (intro w hSw; (try dsimp only at hSw); go_simp; first | done | with_reducible rfl)
                        try simp only [Act.put]
                        try simp only [List.setIfInBounds_toArray, List.set_cons_zero, List.set_cons_succ]
                        refine takeW 1 (some 232) (oi := ?oT128) (v := ?vT128) ?hiT128 ?hdT128 (by kernel_rfl) (by kernel_rfl) (by kernel_rfl) (fun _ _ _ h => h) ?hwT128 ?hyT128 hHeld ?_
                        case hiT128 => (simp only [List.getElem?_toArray, List.getElem?_cons_succ, List.getElem?_cons_zero]; with_reducible rfl)
                        case hdT128 => rfl
                        case hwT128 => rfl
                        case hyT128 => (intro w hSw; (try dsimp only at hSw); go_simp; first | done | with_reducible rfl)
                        try simp only [Act.put]
                        try simp only [List.setIfInBounds_toArray, List.set_cons_zero, List.set_cons_succ]
                        refine takeW 2 (some 233) (oi := ?oT129) (v := ?vT129) ?hiT129 ?hdT129 (by kernel_rfl) (by kernel_rfl) (by kernel_rfl) (fun _ _ _ h => h) ?hwT129 ?hyT129 hHeld ?_
                        case hiT129 => (simp only [List.getElem?_toArray, List.getElem?_cons_succ, List.getElem?_cons_zero]; with_reducible rfl)
                        case hdT129 => rfl
                        case hwT129 => rfl
                        case hyT129 => (intro w hSw; (try dsimp only at hSw); go_simp; first | done | with_reducible rfl)
                        try simp only [Act.put]
                        try simp only [List.setIfInBounds_toArray, List.set_cons_zero, List.set_cons_succ]
                        refine takeW 3 (some 234) (oi := ?oT130) (v := ?vT130) ?hiT130 ?hdT130 (by kernel_rfl) (by kernel_rfl) (by kernel_rfl) (fun _ _ _ h => h) ?hwT130 ?hyT130 hHeld ?_
                        case hiT130 => (simp only [List.getElem?_toArray, List.getElem?_cons_succ, List.getElem?_cons_zero]; with_reducible rfl)
                        case hdT130 => rfl
                        case hwT130 => rfl
                        case hyT130 => (intro w hSw; (try dsimp only at hSw); go_simp; first | done | with_reducible rfl)
                        try simp only [Act.put]
                        try simp only [List.setIfInBounds_toArray, List.set_cons_zero, List.set_cons_succ]
                        refine takeW 4 (some 235) (oi := ?oT131) (v := ?vT131) ?hiT131 ?hdT131 (by kernel_rfl) (by kernel_rfl) (by kernel_rfl) (fun _ _ _ h => h) ?hwT131 ?hyT131 hHeld ?_
                        case hiT131 => (simp only [List.getElem?_toArray, List.getElem?_cons_succ, List.getElem?_cons_zero]; with_reducible rfl)
                        case hdT131 => rfl
                        case hwT131 => rfl
                        case hyT131 => (intro w hSw; (try dsimp only at hSw); go_simp; first | done | with_reducible rfl)
                        try simp only [Act.put]
                        try simp only [List.setIfInBounds_toArray, List.set_cons_zero, List.set_cons_succ]
                        refine takeW 5 (some 236) (oi := ?oT132) (v := ?vT132) ?hiT132 ?hdT132 (by kernel_rfl) (by kernel_rfl) (by kernel_rfl) (fun _ _ _ h => h) ?hwT132 ?hyT132 hHeld ?_
                        case hiT132 => (simp only [List.getElem?_toArray, List.getElem?_cons_succ, List.getElem?_cons_zero]; with_reducible rfl)
                        case hdT132 => rfl
                        case hwT132 => rfl
                        case hyT132 => (intro w hSw; (try dsimp only at hSw); go_simp; first | done | with_reducible rfl)
                        try simp only [Act.put]
                        try simp only [List.setIfInBounds_toArray, List.set_cons_zero, List.set_cons_succ]
                        refine takeW 6 (some 237) (oi := ?oT133) (v := ?vT133) ?hiT133 ?hdT133 (by kernel_rfl) (by kernel_rfl) (by kernel_rfl) (fun _ _ _ h => h) ?hwT133 ?hyT133 hHeld ?_
                        case hiT133 => (simp only [List.getElem?_toArray, List.getElem?_cons_succ, List.getElem?_cons_zero]; with_reducible rfl)
                        case hdT133 => rfl
                        case hwT133 => rfl
                        case hyT133 => (intro w hSw; (try dsimp only at hSw); go_simp; first | done | with_reducible rfl)
                        try simp only [Act.put]
                        try simp only [List.setIfInBounds_toArray, List.set_cons_zero, List.set_cons_succ]
                        refine stepOne 7 (o := ?oT134) ?hiT134 (by kernel_rfl) ?hwT134 (fun K hK => ?_)
                        case hiT134 => (simp only [List.getElem?_toArray, List.getElem?_cons_succ, List.getElem?_cons_zero]; with_reducible rfl)
                        case hwT134 => rfl
                        obtain ⟨u3, c3⟩ := HPD.out.2.2.2.1 (j * 10 + 3) (by have := HJ.out; omega)
                        have f3 := HPD.out.2.2.1 (j * 10 + 3)
                        obtain ⟨u4, c4⟩ := HPD.out.2.2.2.1 (j * 10 + 4) (by have := HJ.out; omega)
                        have f4 := HPD.out.2.2.1 (j * 10 + 4)
                        go_simp
                        clear c3 f3 c4 f4
                        refine hK.out _ _ ?_ (fun hHeld => ?_)
                        · exact HSS.out _ (PWd.set (PWd.set HPD.out (j * 10 + 3) (.string (str clm))) (j * 10 + 4) (.int .i64 (k : Int)))
                        clear hK K
                        try simp only [Act.put]
                        try simp only [List.setIfInBounds_toArray, List.set_cons_zero, List.set_cons_succ]
                        refine takeW 8 (some 238) (oi := ?oT135) (v := ?vT135) ?hiT135 ?hdT135 (by kernel_rfl) (by kernel_rfl) (by kernel_rfl) (fun _ _ _ h => h) ?hwT135 ?hyT135 hHeld ?_
                        case hiT135 => (simp only [List.getElem?_toArray, List.getElem?_cons_succ, List.getElem?_cons_zero]; with_reducible rfl)
                        case hdT135 => rfl
                        case hwT135 => rfl
                        case hyT135 => (intro w hSw; (try dsimp only at hSw); go_simp; first | done | with_reducible rfl)
                        try simp only [Act.put]
                        try simp only [List.setIfInBounds_toArray, List.set_cons_zero, List.set_cons_succ]
                        refine takeW 9 (some 239) (oi := ?oT136) (v := ?vT136) ?hiT136 ?hdT136 (by kernel_rfl) (by kernel_rfl) (by kernel_rfl) (fun _ _ _ h => h) ?hwT136 ?hyT136 hHeld ?_
                        case hiT136 => (simp only [List.getElem?_toArray, List.getElem?_cons_succ, List.getElem?_cons_zero]; with_reducible rfl)
                        case hdT136 => rfl
                        case hwT136 => rfl
                        case hyT136 => (intro w hSw; (try dsimp only at hSw); go_simp; first | done | with_reducible rfl)
                        try simp only [Act.put]
                        try simp only [List.setIfInBounds_toArray, List.set_cons_zero, List.set_cons_succ]
                        refine stepOne 10 (o := ?oT137) ?hiT137 (by kernel_rfl) ?hwT137 (fun K hK => ?_)
                        case hiT137 => (simp only [List.getElem?_toArray, List.getElem?_cons_succ, List.getElem?_cons_zero]; with_reducible rfl)
                        case hwT137 => rfl
                        obtain ⟨wn1, hwn1⟩ : ∃ W, ((w9.setCell ⟨q, j * 10 + 3, none⟩ (.string (str clm))).setCell ⟨q, j * 10 + 4, none⟩ (.int .i64 (k : Int))) = W := ⟨_, rfl⟩
                        rw [hwn1]
                        have HP1 : Hid (PWd wn1 q q12 q13 (k : Int) (j : Int) Lb (e' : Int) Ld (str clm)) := Lib.hid (by rw [← hwn1]; exact (PWd.set (PWd.set HPD.out (j * 10 + 3) (.string (str clm))) (j * 10 + 4) (.int .i64 (k : Int))))
                        have HQ1 := Lib.hid hwn1
                        clear hwn1
                        obtain ⟨u5, c5⟩ := HP1.out.2.2.2.1 (j * 10 + 5) (by have := HJ.out; omega)
                        have f5 := HP1.out.2.2.1 (j * 10 + 5)
                        obtain ⟨u6, c6⟩ := HP1.out.2.2.2.1 (j * 10 + 6) (by have := HJ.out; omega)
                        have f6 := HP1.out.2.2.1 (j * 10 + 6)
                        obtain ⟨u7, c7⟩ := HP1.out.2.2.2.1 (j * 10 + 7) (by have := HJ.out; omega)
                        have f7 := HP1.out.2.2.1 (j * 10 + 7)
                        obtain ⟨u8, c8⟩ := HP1.out.2.2.2.1 (j * 10 + 8) (by have := HJ.out; omega)
                        have f8 := HP1.out.2.2.1 (j * 10 + 8)
                        go_simp
                        clear c5 f5 c6 f6 c7 f7 c8 f8
                        refine hK.out _ _ ?_ (fun hHeld => ?_)
                        · exact HSS.out _ (PWd.set (PWd.set (PWd.set (PWd.set HP1.out (j * 10 + 5) (.int .i64 (j : Int))) (j * 10 + 6) (.int .i64 Lb)) (j * 10 + 7) (.int .i64 (e' : Int))) (j * 10 + 8) (.int .i64 Ld))
                        clear hK K
                        try simp only [Act.put]
                        try simp only [List.setIfInBounds_toArray, List.set_cons_zero, List.set_cons_succ]
                        refine takeW 11 (some 240) (oi := ?oT138) (v := ?vT138) ?hiT138 ?hdT138 (by kernel_rfl) (by kernel_rfl) (by kernel_rfl) (fun _ _ _ h => h) ?hwT138 ?hyT138 hHeld ?_
                        case hiT138 => (simp only [List.getElem?_toArray, List.getElem?_cons_succ, List.getElem?_cons_zero]; with_reducible rfl)
                        case hdT138 => rfl
                        case hwT138 => rfl
                        case hyT138 => (intro w hSw; (try dsimp only at hSw); go_simp; first | done | with_reducible rfl)
                        try simp only [Act.put]
                        try simp only [List.setIfInBounds_toArray, List.set_cons_zero, List.set_cons_succ]
                        refine takeW 12 (some 241) (oi := ?oT139) (v := ?vT139) ?hiT139 ?hdT139 (by kernel_rfl) (by kernel_rfl) (by kernel_rfl) (fun _ _ _ h => h) ?hwT139 ?hyT139 hHeld ?_
                        case hiT139 => (simp only [List.getElem?_toArray, List.getElem?_cons_succ, List.getElem?_cons_zero]; with_reducible rfl)
                        case hdT139 => rfl
                        case hwT139 => rfl
                        case hyT139 => (intro w hSw; (try dsimp only at hSw); go_simp; first | done | with_reducible rfl)
                        try simp only [Act.put]
                        try simp only [List.setIfInBounds_toArray, List.set_cons_zero, List.set_cons_succ]
                        refine stepOne 13 (o := ?oT140) ?hiT140 (by kernel_rfl) ?hwT140 (fun K hK => ?_)
                        case hiT140 => (simp only [List.getElem?_toArray, List.getElem?_cons_succ, List.getElem?_cons_zero]; with_reducible rfl)
                        case hwT140 => rfl
                        obtain ⟨wn2, hwn2⟩ : ∃ W, ((((wn1.setCell ⟨q, j * 10 + 5, none⟩ (.int .i64 (j : Int))).setCell ⟨q, j * 10 + 5 + 1, none⟩ (.int .i64 Lb)).setCell ⟨q, j * 10 + 5 + 2, none⟩ (.int .i64 (e' : Int))).setCell ⟨q, j * 10 + 5 + 3, none⟩ (.int .i64 Ld)) = W := ⟨_, rfl⟩
                        rw [hwn2]
                        have HP2 : Hid (PWd wn2 q q12 q13 (k : Int) (j : Int) Lb (e' : Int) Ld (str clm)) := Lib.hid (by rw [← hwn2]; exact (PWd.set (PWd.set (PWd.set (PWd.set HP1.out (j * 10 + 5) (.int .i64 (j : Int))) (j * 10 + 6) (.int .i64 Lb)) (j * 10 + 7) (.int .i64 (e' : Int))) (j * 10 + 8) (.int .i64 Ld)))
                        have HQ2 := Lib.hid hwn2
                        clear hwn2
                        obtain ⟨u9, c9⟩ := HP2.out.2.2.2.1 (j * 10 + 9) (by have := HJ.out; omega)
                        have f9 := HP2.out.2.2.1 (j * 10 + 9)
                        go_simp
                        clear c9 f9
                        refine hK.out _ _ ?_ (fun hHeld => ?_)
                        · exact HSS.out _ (PWd.set HP2.out (j * 10 + 9) (.bool true))
                        clear hK K
                        try simp only [Act.put]
                        try simp only [List.setIfInBounds_toArray, List.set_cons_zero, List.set_cons_succ]
                        refine wpAnyH_done (by kernel_rfl) ?_ _
                        refine NoPanic.normal ?_
                        go_wp2_with fail
                        go_meet
                        refine congrArg World.drew ?_
                        rw [← HWF.out, ← HQ2.out, ← HQ1.out]
                        try rfl
                      case rest =>
                        as_aux_lemma =>
                        obtain rfl : wc = wF.drew := hcut
                        obtain ⟨u0, e1⟩ := E12.out.1
                        have f1 := E12.out.2
                        go_wp2_with fail
                        go_roundg (301 - (i + 1))
                        case rel => exact ⟨i + 1, now, e', s', _, K6', R6, gb6, by have := HJ.out; omega, by omega, rfl, rfl, rfl, HI5, Lib.hid (H6.out.under (Below.refl _ _).drew)⟩
                        case measure => have := HJ.out; omega
              · as_aux_lemma =>
                  obtain ⟨vt, vw, hRj, hpt, c0, c1, c2, c3, c4, c5, c6, c7, c8, c9⟩ := HW2.out.cells HJ.out.1
                  unfold HPt at hpt
                  rw [hph] at hpt
                  obtain ⟨rfl, rfl, hk1, hk2, hk3, hk4⟩ := hpt
                  have hok := (HI2.out.hand j HJ.out.1).1
                  rw [hph] at hok
                  obtain ⟨b0, b1, b2, b3, -, cx, hcx, b4, -⟩ := hok
                  have WT := wr_hand HI2.out hord HJ.out.1 hph
                  have hto := wstep_told s x
                  obtain ⟨s', x', m, hst⟩ : ∃ s' x' m, x.step s = (s', x', m) := ⟨_, _, _, rfl⟩
                  have WC := Lib.hid (wr_to hst HW2.out.fk hk1 hk3 hk4 (by rw [b1]; exact nice_clm) (by rw [b4]; exact nice_tname HJ.out.1 (by omega)) (by omega) (by omega))
                  rw [hst] at WT hto
                  have HTT := Lib.hid WT
                  have HTO : Hid (x'.told = m) := Lib.hid hto
                  have HPH := Lib.hid hph
                  have HSG : Hid (stamp s.l clm = σ) := Lib.hid hσ
                  clear WT hto hph hk1 hk3 hk4 b0 b1 b2 b3 hcx b4 hst hord hu2 hn2 hRj
                  go_wp2_with fail
                  refine CS.out.mono ?_
                  rintro e2 w3 ⟨rfl, rfl⟩
                  go_wp2_with fail
                  refine WC.out.mono ?_
                  rintro e2 w4 ⟨rfl, h4, x4, k4⟩
                  rcases HTT.out with ⟨hm, hi'⟩ | hm1
                  · as_aux_lemma =>
                    obtain rfl : m = 0 := hm
                    rw [wr_same HTO.out] at hi'
                    obtain ⟨R3, gb3, h5⟩ := HW2.out.wr_stepped HJ.out.1 HPH.out h4 x4 k4
                    have H5 := Lib.hid h5
                    have HI5 := Lib.hid hi'
                    clear h4 x4 k4 hi' h5 WC HTT CS c0 c1 c2 c3 c4 c5 c6 c7 c8 c9
                    go_wp2_with fail
                    go_roundg (301 - (i + 1))
                    case rel => exact ⟨i + 1, now, e, s', _, _, R3, gb3, by have := HJ.out; omega, by omega, rfl, rfl, rfl, HI5, H5⟩
                    case measure => have := HJ.out; omega
                  · as_aux_lemma =>
                    obtain ⟨R5, gb5, h5⟩ := HW2.out.wr_stepped HJ.out.1 HPH.out h4 x4 k4
                    have B4 := k4.blk (g := q) ⟨HW2.out.ka, fun e => hk2 e.symm⟩ HW2.out.blk
                    have tr : ∀ (o : Nat) (v : Value), wc.cell? ⟨q, j * 10 + o, none⟩ = some v → w4.cell? ⟨q, j * 10 + o, none⟩ = some v := fun o v h => (B4.at _).trans ((HW2.out.blk.at _).symm.trans h)
                    have d1 := tr 1 _ c1
                    have d2 := tr 2 _ c2
                    have d3 := tr 3 _ c3
                    have d4 := tr 4 _ c4
                    have d5 := tr 5 _ c5
                    have d6 := tr 6 _ c6
                    have d7 := tr 7 _ c7
                    have d8 := tr 8 _ c8
                    have d9 := tr 9 _ c9
                    have H4 := Lib.hid h4
                    have X4 := Lib.hid x4
                    have K4 := Lib.hid k4
                    have H5 := Lib.hid h5
                    have HTR : Hid (∀ W, Below w4.heap.size w4 W → W.cell? ⟨q, j * 10 + 1, none⟩ = some (.pointer (some ⟨gb2 j, 0, none⟩)) ∧ W.cell? ⟨q, j * 10 + 2, none⟩ = some (.bool (hs2 j).fr) ∧ W.cell? ⟨q, j * 10 + 3, none⟩ = some (.string (str (hs2 j).gn)) ∧ W.cell? ⟨q, j * 10 + 4, none⟩ = some (.int .i64 (hs2 j).gs) ∧ W.cell? ⟨q, j * 10 + 5, none⟩ = some (.int .i64 (hs2 j).lo.a) ∧ W.cell? ⟨q, j * 10 + 6, none⟩ = some (.int .i64 (hs2 j).lo.b) ∧ W.cell? ⟨q, j * 10 + 7, none⟩ = some (.int .i64 (hs2 j).lo.c) ∧ W.cell? ⟨q, j * 10 + 8, none⟩ = some (.int .i64 (hs2 j).lo.d) ∧ W.cell? ⟨q, j * 10 + 9, none⟩ = some (.bool (hs2 j).held)) := Lib.hid fun W hb => ⟨cell_later hb d1, cell_later hb d2, cell_later hb d3, cell_later hb d4, cell_later hb d5, cell_later hb d6, cell_later hb d7, cell_later hb d8, cell_later hb d9⟩
                    have HFR : Hid (∀ W, Below w4.heap.size w4 W → ∀ o, W.frozen? ⟨q, o, none⟩ = false) := Lib.hid fun W hb o => Blk.free (B4.under hb) o
                    have hs1 : q < w4.heap.size := B4.size
                    have HQS : Hid (q < w4.heap.size) := Lib.hid hs1
                    clear tr h4 x4 k4 h5 B4 WC CS c0 c1 c2 c3 c4 c5 c6 c7 c8 c9 hs1 d2 d3 d5 d6 d7 d8 d9
                    rcases hm1 with ⟨hm, hi'⟩ | ⟨hm, hgs, k, L, hk, hL, hfl, hstp, hLc, hi1, hi2⟩
                    · as_aux_lemma =>
                      obtain rfl : m = 2 := hm
                      have HI6 := Lib.hid hi'
                      have ho : wrO x' (hs2 j).fr = none := by
                        have h2 : x'.held = none := by
                          unfold Sw.held
                          exact if_neg (by rw [HTO.out]; decide)
                        cases (hs2 j).fr
                        · exact h2
                        · rfl
                      have CH : Hid (Calls Tryz.prog 14 #[.pointer (some ⟨gb2 j, 0, none⟩)] w4 fun e w' => e = .returned (.tuple #[guardV [] 0, lockV 0 0 0 0, .bool false]) ∧ Below w4.heap.size w4 w') := Lib.hid (by
                        have := wrheld_any x' _ X4.out
                        rw [ho] at this
                        exact this)
                      clear hi' HTT
                      clear ho
                      go_wp2_with fail
                      refine CH.out.mono ?_
                      rintro e2 w5 ⟨rfl, hb5⟩
                      have HB5 := Lib.hid hb5
                      clear hb5 CH d1 d4
                      go_upto_region 44 with fail
                      obtain ⟨w7, hw7⟩ : ∃ W, (w5.alloc (.cells #[.string (str []), .int .i64 0] 28)).alloc (.cells #[.int .i64 0, .int .i64 0, .int .i64 0, .int .i64 0] 30) = W := ⟨_, rfl⟩
                      rw [hw7]
                      have HBT : Hid (Below w4.heap.size w4 w7) := Lib.hid (by rw [← hw7]; exact (HB5.out.alloc HB5.out.size _).alloc (Nat.le_trans HB5.out.size (by simp)) _)
                      clear hw7
                      obtain ⟨K6', R6, gb6, h6⟩ := HW2.out.wr_done (q := false) HJ.out.1 HPH.out H4.out X4.out K4.out HBT.out
                      have H6 := Lib.hid h6
                      clear h6
                      refine wp_region_noPanic ?_
                      refine wp_region_held_drew (S := fun _ => True) (by kernel_rfl) (trivial) (fun hHeld => ?_)
                      refine takeW 0 (some 285) (oi := ?oT141) (v := ?vT141) ?hiT141 ?hdT141 (by kernel_rfl) (by kernel_rfl) (by kernel_rfl) (fun _ _ _ h => h) ?hwT141 ?hyT141 hHeld ?_
                      case hiT141 => (simp only [List.getElem?_toArray, List.getElem?_cons_zero]; with_reducible rfl)
                      case hdT141 => rfl
                      case hwT141 => rfl
                      case hyT141 => (intro w hSw; (try dsimp only at hSw); go_simp; first | done | with_reducible rfl)
                      try simp only [Act.put]
                      try simp only [List.setIfInBounds_toArray, List.set_cons_zero, List.set_cons_succ]
                      refine takeW 1 (some 286) (oi := ?oT142) (v := ?vT142) ?hiT142 ?hdT142 (by kernel_rfl) (by kernel_rfl) (by kernel_rfl) (fun _ _ _ h => h) ?hwT142 ?hyT142 hHeld ?_
                      case hiT142 => (simp only [List.getElem?_toArray, List.getElem?_cons_succ, List.getElem?_cons_zero]; with_reducible rfl)
                      case hdT142 => rfl
                      case hwT142 => rfl
                      case hyT142 => (intro w hSw; (try dsimp only at hSw); go_simp; first | done | with_reducible rfl)
                      try simp only [Act.put]
                      try simp only [List.setIfInBounds_toArray, List.set_cons_zero, List.set_cons_succ]
                      refine takeW 2 (some 287) (oi := ?oT143) (v := ?vT143) ?hiT143 ?hdT143 (by kernel_rfl) (by kernel_rfl) (by kernel_rfl) (fun _ _ _ h => h) ?hwT143 ?hyT143 hHeld ?_
                      case hiT143 => (simp only [List.getElem?_toArray, List.getElem?_cons_succ, List.getElem?_cons_zero]; with_reducible rfl)
                      case hdT143 => rfl
                      case hwT143 => rfl
                      case hyT143 => (intro w hSw; (try dsimp only at hSw); go_simp; first | done | with_reducible rfl)
                      try simp only [Act.put]
                      try simp only [List.setIfInBounds_toArray, List.set_cons_zero, List.set_cons_succ]
                      refine takeW 3 (some 288) (oi := ?oT144) (v := ?vT144) ?hiT144 ?hdT144 (by kernel_rfl) (by kernel_rfl) (by kernel_rfl) (fun _ _ _ h => h) ?hwT144 ?hyT144 hHeld ?_
                      case hiT144 => (simp only [List.getElem?_toArray, List.getElem?_cons_succ, List.getElem?_cons_zero]; with_reducible rfl)
                      case hdT144 => rfl
                      case hwT144 => rfl
                      case hyT144 => (intro w hSw; (try dsimp only at hSw); go_simp; first | done | with_reducible rfl)
                      try simp only [Act.put]
                      try simp only [List.setIfInBounds_toArray, List.set_cons_zero, List.set_cons_succ]
                      refine takeU 4 (some 289) (oi := ?oT145) ?hiT145 ?hdT145 (by kernel_rfl) (by kernel_rfl) (by kernel_rfl) (fun _ _ _ h => h) ?hwT145 hHeld ?_
                      case hiT145 => (simp only [List.getElem?_toArray, List.getElem?_cons_succ, List.getElem?_cons_zero]; with_reducible rfl)
                      case hdT145 => rfl
                      case hwT145 => rfl
                      try simp only [Act.put]
                      try simp only [List.setIfInBounds_toArray, List.set_cons_zero, List.set_cons_succ]
                      refine takeU 5 (some 290) (oi := ?oT146) ?hiT146 ?hdT146 (by kernel_rfl) (by kernel_rfl) (by kernel_rfl) (fun _ _ _ h => h) ?hwT146 hHeld ?_
                      case hiT146 => (simp only [List.getElem?_toArray, List.getElem?_cons_succ, List.getElem?_cons_zero]; with_reducible rfl)
                      case hdT146 => rfl
                      case hwT146 => rfl
                      try simp only [Act.put]
                      try simp only [List.setIfInBounds_toArray, List.set_cons_zero, List.set_cons_succ]
                      refine takeU 6 (some 291) (oi := ?oT147) ?hiT147 ?hdT147 (by kernel_rfl) (by kernel_rfl) (by kernel_rfl) (fun _ _ _ h => h) ?hwT147 hHeld ?_
                      case hiT147 => (simp only [List.getElem?_toArray, List.getElem?_cons_succ, List.getElem?_cons_zero]; with_reducible rfl)
                      case hdT147 => rfl
                      case hwT147 => rfl
                      try simp only [Act.put]
                      try simp only [List.setIfInBounds_toArray, List.set_cons_zero, List.set_cons_succ]
                      refine takeU 7 (some 292) (oi := ?oT148) ?hiT148 ?hdT148 (by kernel_rfl) (by kernel_rfl) (by kernel_rfl) (fun _ _ _ h => h) ?hwT148 hHeld ?_
                      case hiT148 => (simp only [List.getElem?_toArray, List.getElem?_cons_succ, List.getElem?_cons_zero]; with_reducible rfl)
                      case hdT148 => rfl
                      case hwT148 => rfl
                      try simp only [Act.put]
                      try simp only [List.setIfInBounds_toArray, List.set_cons_zero, List.set_cons_succ]
                      refine takeU 8 (some 293) (oi := ?oT149) ?hiT149 ?hdT149 (by kernel_rfl) (by kernel_rfl) (by kernel_rfl) (fun _ _ _ h => h) ?hwT149 hHeld ?_
                      case hiT149 => (simp only [List.getElem?_toArray, List.getElem?_cons_succ, List.getElem?_cons_zero]; with_reducible rfl)
                      case hdT149 => rfl
                      case hwT149 => rfl
                      try simp only [Act.put]
                      try simp only [List.setIfInBounds_toArray, List.set_cons_zero, List.set_cons_succ]
                      refine takeW 9 (some 294) (oi := ?oT150) (v := ?vT150) ?hiT150 ?hdT150 (by kernel_rfl) (by kernel_rfl) (by kernel_rfl) (fun _ _ _ h => h) ?hwT150 ?hyT150 hHeld ?_
                      case hiT150 => (simp only [List.getElem?_toArray, List.getElem?_cons_succ, List.getElem?_cons_zero]; with_reducible rfl)
                      case hdT150 => rfl
                      case hwT150 => rfl
                      case hyT150 => (intro w hSw; (try dsimp only at hSw); go_simp; first | done | with_reducible rfl)
                      try simp only [Act.put]
                      try simp only [List.setIfInBounds_toArray, List.set_cons_zero, List.set_cons_succ]
                      refine takeW 10 (some 295) (oi := ?oT151) (v := ?vT151) ?hiT151 ?hdT151 (by kernel_rfl) (by kernel_rfl) (by kernel_rfl) (fun _ _ _ h => h) ?hwT151 ?hyT151 hHeld ?_
                      case hiT151 => (simp only [List.getElem?_toArray, List.getElem?_cons_succ, List.getElem?_cons_zero]; with_reducible rfl)
                      case hdT151 => rfl
                      case hwT151 => rfl
                      case hyT151 => (intro w hSw; (try dsimp only at hSw); go_simp; first | done | with_reducible rfl)
                      try simp only [Act.put]
                      try simp only [List.setIfInBounds_toArray, List.set_cons_zero, List.set_cons_succ]
                      refine takeW 11 (some 296) (oi := ?oT152) (v := ?vT152) ?hiT152 ?hdT152 (by kernel_rfl) (by kernel_rfl) (by kernel_rfl) (fun _ _ _ h => h) ?hwT152 ?hyT152 hHeld ?_
                      case hiT152 => (simp only [List.getElem?_toArray, List.getElem?_cons_succ, List.getElem?_cons_zero]; with_reducible rfl)
                      case hdT152 => rfl
                      case hwT152 => rfl
                      case hyT152 => (intro w hSw; (try dsimp only at hSw); go_simp; first | done | with_reducible rfl)
                      try simp only [Act.put]
                      try simp only [List.setIfInBounds_toArray, List.set_cons_zero, List.set_cons_succ]
                      refine takeW 12 (some 297) (oi := ?oT153) (v := ?vT153) ?hiT153 ?hdT153 (by kernel_rfl) (by kernel_rfl) (by kernel_rfl) (fun _ _ _ h => h) ?hwT153 ?hyT153 hHeld ?_
                      case hiT153 => (simp only [List.getElem?_toArray, List.getElem?_cons_succ, List.getElem?_cons_zero]; with_reducible rfl)
                      case hdT153 => rfl
                      case hwT153 => rfl
                      case hyT153 => (intro w hSw; (try dsimp only at hSw); go_simp; first | done | with_reducible rfl)
                      try simp only [Act.put]
                      try simp only [List.setIfInBounds_toArray, List.set_cons_zero, List.set_cons_succ]
                      refine takeW 13 (some 298) (oi := ?oT154) (v := ?vT154) ?hiT154 ?hdT154 (by kernel_rfl) (by kernel_rfl) (by kernel_rfl) (fun _ _ _ h => h) ?hwT154 ?hyT154 hHeld ?_
                      case hiT154 => (simp only [List.getElem?_toArray, List.getElem?_cons_succ, List.getElem?_cons_zero]; with_reducible rfl)
                      case hdT154 => rfl
                      case hwT154 => rfl
                      case hyT154 => (intro w hSw; (try dsimp only at hSw); go_simp; first | done | with_reducible rfl)
                      try simp only [Act.put]
                      try simp only [List.setIfInBounds_toArray, List.set_cons_zero, List.set_cons_succ]
                      refine takeU 14 (some 299) (oi := ?oT155) ?hiT155 ?hdT155 (by kernel_rfl) (by kernel_rfl) (by kernel_rfl) (fun _ _ _ h => h) ?hwT155 hHeld ?_
                      case hiT155 => (simp only [List.getElem?_toArray, List.getElem?_cons_succ, List.getElem?_cons_zero]; with_reducible rfl)
                      case hdT155 => rfl
                      case hwT155 => rfl
                      try simp only [Act.put]
                      try simp only [List.setIfInBounds_toArray, List.set_cons_zero, List.set_cons_succ]
                      refine takeU 15 (some 300) (oi := ?oT156) ?hiT156 ?hdT156 (by kernel_rfl) (by kernel_rfl) (by kernel_rfl) (fun _ _ _ h => h) ?hwT156 hHeld ?_
                      case hiT156 => (simp only [List.getElem?_toArray, List.getElem?_cons_succ, List.getElem?_cons_zero]; with_reducible rfl)
                      case hdT156 => rfl
                      case hwT156 => rfl
                      try simp only [Act.put]
                      try simp only [List.setIfInBounds_toArray, List.set_cons_zero, List.set_cons_succ]
                      refine takeU 16 (some 301) (oi := ?oT157) ?hiT157 ?hdT157 (by kernel_rfl) (by kernel_rfl) (by kernel_rfl) (fun _ _ _ h => h) ?hwT157 hHeld ?_
                      case hiT157 => (simp only [List.getElem?_toArray, List.getElem?_cons_succ, List.getElem?_cons_zero]; with_reducible rfl)
                      case hdT157 => rfl
                      case hwT157 => rfl
                      try simp only [Act.put]
                      try simp only [List.setIfInBounds_toArray, List.set_cons_zero, List.set_cons_succ]
                      refine takeU 17 (some 302) (oi := ?oT158) ?hiT158 ?hdT158 (by kernel_rfl) (by kernel_rfl) (by kernel_rfl) (fun _ _ _ h => h) ?hwT158 hHeld ?_
                      case hiT158 => (simp only [List.getElem?_toArray, List.getElem?_cons_succ, List.getElem?_cons_zero]; with_reducible rfl)
                      case hdT158 => rfl
                      case hwT158 => rfl
                      try simp only [Act.put]
                      try simp only [List.setIfInBounds_toArray, List.set_cons_zero, List.set_cons_succ]
                      refine takeU 18 (some 303) (oi := ?oT159) ?hiT159 ?hdT159 (by kernel_rfl) (by kernel_rfl) (by kernel_rfl) (fun _ _ _ h => h) ?hwT159 hHeld ?_
                      case hiT159 => (simp only [List.getElem?_toArray, List.getElem?_cons_succ, List.getElem?_cons_zero]; with_reducible rfl)
                      case hdT159 => rfl
                      case hwT159 => rfl
                      try simp only [Act.put]
                      try simp only [List.setIfInBounds_toArray, List.set_cons_zero, List.set_cons_succ]
                      refine takeU 19 (some 304) (oi := ?oT160) ?hiT160 ?hdT160 (by kernel_rfl) (by kernel_rfl) (by kernel_rfl) (fun _ _ _ h => h) ?hwT160 hHeld ?_
                      case hiT160 => (simp only [List.getElem?_toArray, List.getElem?_cons_succ, List.getElem?_cons_zero]; with_reducible rfl)
                      case hdT160 => rfl
                      case hwT160 => rfl
                      try simp only [Act.put]
                      try simp only [List.setIfInBounds_toArray, List.set_cons_zero, List.set_cons_succ]
                      refine takeU 20 (some 305) (oi := ?oT161) ?hiT161 ?hdT161 (by kernel_rfl) (by kernel_rfl) (by kernel_rfl) (fun _ _ _ h => h) ?hwT161 hHeld ?_
                      case hiT161 => (simp only [List.getElem?_toArray, List.getElem?_cons_succ, List.getElem?_cons_zero]; with_reducible rfl)
                      case hdT161 => rfl
                      case hwT161 => rfl
                      try simp only [Act.put]
                      try simp only [List.setIfInBounds_toArray, List.set_cons_zero, List.set_cons_succ]
                      refine takeU 21 (some 306) (oi := ?oT162) ?hiT162 ?hdT162 (by kernel_rfl) (by kernel_rfl) (by kernel_rfl) (fun _ _ _ h => h) ?hwT162 hHeld ?_
                      case hiT162 => (simp only [List.getElem?_toArray, List.getElem?_cons_succ, List.getElem?_cons_zero]; with_reducible rfl)
                      case hdT162 => rfl
                      case hwT162 => rfl
                      try simp only [Act.put]
                      try simp only [List.setIfInBounds_toArray, List.set_cons_zero, List.set_cons_succ]
                      refine takeU 22 (some 307) (oi := ?oT163) ?hiT163 ?hdT163 (by kernel_rfl) (by kernel_rfl) (by kernel_rfl) (fun _ _ _ h => h) ?hwT163 hHeld ?_
                      case hiT163 => (simp only [List.getElem?_toArray, List.getElem?_cons_succ, List.getElem?_cons_zero]; with_reducible rfl)
                      case hdT163 => rfl
                      case hwT163 => rfl
                      try simp only [Act.put]
                      try simp only [List.setIfInBounds_toArray, List.set_cons_zero, List.set_cons_succ]
                      refine takeU 23 (some 308) (oi := ?oT164) ?hiT164 ?hdT164 (by kernel_rfl) (by kernel_rfl) (by kernel_rfl) (fun _ _ _ h => h) ?hwT164 hHeld ?_
                      case hiT164 => (simp only [List.getElem?_toArray, List.getElem?_cons_succ, List.getElem?_cons_zero]; with_reducible rfl)
                      case hdT164 => rfl
                      case hwT164 => rfl
                      try simp only [Act.put]
                      try simp only [List.setIfInBounds_toArray, List.set_cons_zero, List.set_cons_succ]
                      refine takeU 24 (some 309) (oi := ?oT165) ?hiT165 ?hdT165 (by kernel_rfl) (by kernel_rfl) (by kernel_rfl) (fun _ _ _ h => h) ?hwT165 hHeld ?_
                      case hiT165 => (simp only [List.getElem?_toArray, List.getElem?_cons_succ, List.getElem?_cons_zero]; with_reducible rfl)
                      case hdT165 => rfl
                      case hwT165 => rfl
                      try simp only [Act.put]
                      try simp only [List.setIfInBounds_toArray, List.set_cons_zero, List.set_cons_succ]
                      refine takeU 25 (some 310) (oi := ?oT166) ?hiT166 ?hdT166 (by kernel_rfl) (by kernel_rfl) (by kernel_rfl) (fun _ _ _ h => h) ?hwT166 hHeld ?_
                      case hiT166 => (simp only [List.getElem?_toArray, List.getElem?_cons_succ, List.getElem?_cons_zero]; with_reducible rfl)
                      case hdT166 => rfl
                      case hwT166 => rfl
                      try simp only [Act.put]
                      try simp only [List.setIfInBounds_toArray, List.set_cons_zero, List.set_cons_succ]
                      refine takeU 26 (some 311) (oi := ?oT167) ?hiT167 ?hdT167 (by kernel_rfl) (by kernel_rfl) (by kernel_rfl) (fun _ _ _ h => h) ?hwT167 hHeld ?_
                      case hiT167 => (simp only [List.getElem?_toArray, List.getElem?_cons_succ, List.getElem?_cons_zero]; with_reducible rfl)
                      case hdT167 => rfl
                      case hwT167 => rfl
                      try simp only [Act.put]
                      try simp only [List.setIfInBounds_toArray, List.set_cons_zero, List.set_cons_succ]
                      refine takeU 27 (some 312) (oi := ?oT168) ?hiT168 ?hdT168 (by kernel_rfl) (by kernel_rfl) (by kernel_rfl) (fun _ _ _ h => h) ?hwT168 hHeld ?_
                      case hiT168 => (simp only [List.getElem?_toArray, List.getElem?_cons_succ, List.getElem?_cons_zero]; with_reducible rfl)
                      case hdT168 => rfl
                      case hwT168 => rfl
                      try simp only [Act.put]
                      try simp only [List.setIfInBounds_toArray, List.set_cons_zero, List.set_cons_succ]
                      refine takeU 28 (some 313) (oi := ?oT169) ?hiT169 ?hdT169 (by kernel_rfl) (by kernel_rfl) (by kernel_rfl) (fun _ _ _ h => h) ?hwT169 hHeld ?_
                      case hiT169 => (simp only [List.getElem?_toArray, List.getElem?_cons_succ, List.getElem?_cons_zero]; with_reducible rfl)
                      case hdT169 => rfl
                      case hwT169 => rfl
                      try simp only [Act.put]
                      try simp only [List.setIfInBounds_toArray, List.set_cons_zero, List.set_cons_succ]
                      refine takeW 29 (some 314) (oi := ?oT170) (v := ?vT170) ?hiT170 ?hdT170 (by kernel_rfl) (by kernel_rfl) (by kernel_rfl) (fun _ _ _ h => h) ?hwT170 ?hyT170 hHeld ?_
                      case hiT170 => (simp only [List.getElem?_toArray, List.getElem?_cons_succ, List.getElem?_cons_zero]; with_reducible rfl)
                      case hdT170 => rfl
                      case hwT170 => rfl
                      case hyT170 => (intro w hSw; (try dsimp only at hSw); go_simp; first | done | with_reducible rfl)
                      try simp only [Act.put]
                      try simp only [List.setIfInBounds_toArray, List.set_cons_zero, List.set_cons_succ]
                      refine takeW 30 (some 315) (oi := ?oT171) (v := ?vT171) ?hiT171 ?hdT171 (by kernel_rfl) (by kernel_rfl) (by kernel_rfl) (fun _ _ _ h => h) ?hwT171 ?hyT171 hHeld ?_
                      case hiT171 => (simp only [List.getElem?_toArray, List.getElem?_cons_succ, List.getElem?_cons_zero]; with_reducible rfl)
                      case hdT171 => rfl
                      case hwT171 => rfl
                      case hyT171 => (intro w hSw; (try dsimp only at hSw); go_simp; first | done | with_reducible rfl)
                      try simp only [Act.put]
                      try simp only [List.setIfInBounds_toArray, List.set_cons_zero, List.set_cons_succ]
                      refine wpAnyH_done (by kernel_rfl) ?_ _
                      refine NoPanic.normal ?_
                      skip
                      have d9 := (HTR.out _ HBT.out).2.2.2.2.2.2.2.2
                      have f9 := HFR.out _ HBT.out (j * 10 + 9)
                      go_upto_region 49 with fail
                      clear d9 f9
                      obtain ⟨w8, hw8⟩ : ∃ W, w7.setCell ⟨q, j * 10 + 9, none⟩ (.bool false) = W := ⟨_, rfl⟩
                      have d1 : w8.cell? ⟨q, j * 10 + 1, none⟩ = some (.pointer (some ⟨gb2 j, 0, none⟩)) := by rw [← hw8]; exact off_cell (HTR.out _ HBT.out).1 (by omega) _
                      have f1 : w8.frozen? ⟨q, j * 10 + 1, none⟩ = false := by rw [← hw8]; exact (World.frozen?_setCell _ _ _ _).trans (HFR.out _ HBT.out _)
                      rw [hw8] at H6 ⊢
                      clear hw8
                      go_wp2_with fail
                      go_roundg (301 - (i + 1))
                      case rel => exact ⟨i + 1, now, e, s', _, K6', R6, gb6, by have := HJ.out; omega, by omega, rfl, rfl, rfl, HI6, Lib.hid (H6.out.under (Below.refl _ _).drew)⟩
                      case measure => have := HJ.out; omega
                    · obtain rfl : m = 1 := hm
                      rcases hfr : (hs2 j).fr with _ | _
                      · skip
                        as_aux_lemma =>
                        obtain ⟨La, Lb, Lc, Ld⟩ := L
                        have HLC : Hid (Lc = (hs2 j).lo.c) := Lib.hid hLc
                        have HI6 := Lib.hid hi2
                        have hgg : ((σ : Int) == (hs2 j).gs) = true := by rw [← hgs, HSG.out]; simp
                        have hh : heldV x'.file (wrO x' (hs2 j).fr) = .tuple #[guardV clm (k : Int), lockV La Lb Lc Ld, .bool true] := by
                          unfold wrO Sw.held
                          rw [if_neg (by rw [hfr]; simp), if_pos HTO.out, hk, hL, hfl]
                          rfl
                        have CH : Hid (Calls Tryz.prog 14 #[.pointer (some ⟨gb2 j, 0, none⟩)] w4 fun e w' => e = .returned (.tuple #[guardV clm (k : Int), lockV La Lb Lc Ld, .bool true]) ∧ Below w4.heap.size w4 w') := Lib.hid (by
                          have := wrheld_any x' _ X4.out
                          rw [hh] at this
                          exact this)
                        have HSK : Hid (stamp s'.l clm = k) := Lib.hid hstp
                        clear hi1 hi2 HTT hk hL hfl hstp hLc hgs hh
                        go_wp2_with fail
                        refine CH.out.mono ?_
                        rintro e2 w5 ⟨rfl, hb5⟩
                        have HB5 := Lib.hid hb5
                        clear hb5 CH d1 d4
                        go_upto_region 44 with fail
                        obtain ⟨w7, q22, q23, K7, hw7, hq22, hq23, f7, -, -, -, b22, b23, bb7⟩ := (H5.out.under HB5.out).fk.boxes #[.string (str clm), .int .i64 (k : Int)] #[.int .i64 La, .int .i64 Lb, .int .i64 Lc, .int .i64 Ld]
                        rw [hw7, hq23, hq22]
                        have HQ2 : Hid (q22 ≠ q ∧ q23 ≠ q) := Lib.hid (by have := HQS.out; have := HB5.out.size; omega)
                        have HBT : Hid (Below w4.heap.size w4 w7) := Lib.hid (HB5.out.trans (bb7.mono HB5.out.size))
                        have F7 := Lib.hid ((H5.out.under HB5.out).fk.under bb7)
                        have B22 := Lib.hid b22
                        have B23 := Lib.hid b23
                        have HST : Hid (∀ W, Below w7.heap.size w7 W → W.cell? ⟨q22, 1, none⟩ = some (.int .i64 (k : Int)) ∧ W.cell? ⟨q23, 2, none⟩ = some (.int .i64 Lc) ∧ W.cell? ⟨q, j * 10 + 2, none⟩ = some (.bool false) ∧ W.cell? ⟨q, j * 10 + 7, none⟩ = some (.int .i64 Lc)) := Lib.hid fun W hb => by
                          have h := HTR.out W (HBT.out.trans (hb.mono HBT.out.size))
                          rw [hfr, ← HLC.out] at h
                          exact ⟨(b22.under hb).at 1, (b23.under hb).at 2, h.2.1, h.2.2.2.2.2.2.1⟩
                        have CST : Hid (Calls Tryz.prog 8 #[.pointer (some ⟨p, 0, none⟩), .string (str clm)] w7.drew fun e w' => e = .returned (.int .i64 (k : Int)) ∧ w7.drew = w') := Lib.hid (by
                          have := fs_stamp clm w w7.drew p s' (F7.out.under (Below.refl _ _).drew).fs nice_clm
                          rw [HSK.out] at this
                          exact this)
                        have hkk : ((k : Int) != (k : Int)) = false := by simp
                        have hll : (Lc != Lc) = false := by simp
                        obtain ⟨K6', R6, gb6, h6⟩ := HW2.out.wr_told (f := clm) (k := (k : Int)) (L := ⟨La, Lb, Lc, Ld⟩) HJ.out.1 HPH.out H4.out X4.out K4.out HBT.out
                        have H6 := Lib.hid h6
                        clear hw7 hq23 hq22 f7 b22 b23 bb7 h6
                        refine wp_region_noPanic ?_
                        refine wp_region_held_drew (S := fun W => W.cell? ⟨q22, 1, none⟩ = some (.int .i64 (k : Int)) ∧ W.cell? ⟨q23, 2, none⟩ = some (.int .i64 Lc) ∧ W.cell? ⟨q, j * 10 + 2, none⟩ = some (.bool false) ∧ W.cell? ⟨q, j * 10 + 7, none⟩ = some (.int .i64 Lc)) (by kernel_rfl) (HST.out _ (Below.refl _ _).drew) (fun hHeld => ?_)
                        refine takeW 0 (some 285) (oi := ?oT172) (v := ?vT172) ?hiT172 ?hdT172 (by kernel_rfl) (by kernel_rfl) (by kernel_rfl) (fun _ _ _ h => h) ?hwT172 ?hyT172 hHeld ?_
                        case hiT172 => (simp only [List.getElem?_toArray, List.getElem?_cons_zero]; with_reducible rfl)
                        case hdT172 => rfl
                        case hwT172 => rfl
                        case hyT172 => (intro w hSw; (try dsimp only at hSw); go_simp; first | done | with_reducible rfl)
                        try simp only [Act.put]
                        try simp only [List.setIfInBounds_toArray, List.set_cons_zero, List.set_cons_succ]
                        refine takeW 1 (some 286) (oi := ?oT173) (v := ?vT173) ?hiT173 ?hdT173 (by kernel_rfl) (by kernel_rfl) (by kernel_rfl) (fun _ _ _ h => h) ?hwT173 ?hyT173 hHeld ?_
                        case hiT173 => (simp only [List.getElem?_toArray, List.getElem?_cons_succ, List.getElem?_cons_zero]; with_reducible rfl)
                        case hdT173 => rfl
                        case hwT173 => rfl
                        case hyT173 => (intro w hSw; (try dsimp only at hSw); go_simp; first | done | with_reducible rfl)
                        try simp only [Act.put]
                        try simp only [List.setIfInBounds_toArray, List.set_cons_zero, List.set_cons_succ]
                        refine takeW 2 (some 287) (oi := ?oT174) (v := ?vT174) ?hiT174 ?hdT174 (by kernel_rfl) (by kernel_rfl) (by kernel_rfl) (fun _ _ _ h => h) ?hwT174 ?hyT174 hHeld ?_
                        case hiT174 => (simp only [List.getElem?_toArray, List.getElem?_cons_succ, List.getElem?_cons_zero]; with_reducible rfl)
                        case hdT174 => rfl
                        case hwT174 => rfl
                        case hyT174 => (intro w hSw; (try dsimp only at hSw); go_simp; first | done | with_reducible rfl)
                        try simp only [Act.put]
                        try simp only [List.setIfInBounds_toArray, List.set_cons_zero, List.set_cons_succ]
                        refine takeW 3 (some 288) (oi := ?oT175) (v := ?vT175) ?hiT175 ?hdT175 (by kernel_rfl) (by kernel_rfl) (by kernel_rfl) (fun _ _ _ h => h) ?hwT175 ?hyT175 hHeld ?_
                        case hiT175 => (simp only [List.getElem?_toArray, List.getElem?_cons_succ, List.getElem?_cons_zero]; with_reducible rfl)
                        case hdT175 => rfl
                        case hwT175 => rfl
                        case hyT175 => (intro w hSw; (try dsimp only at hSw); go_simp; first | done | with_reducible rfl)
                        try simp only [Act.put]
                        try simp only [List.setIfInBounds_toArray, List.set_cons_zero, List.set_cons_succ]
                        refine takeW 4 (some 289) (oi := ?oT176) (v := ?vT176) ?hiT176 ?hdT176 (by kernel_rfl) (by kernel_rfl) (by kernel_rfl) (fun _ _ _ h => h) ?hwT176 ?hyT176 hHeld ?_
                        case hiT176 => (simp only [List.getElem?_toArray, List.getElem?_cons_succ, List.getElem?_cons_zero]; with_reducible rfl)
                        case hdT176 => rfl
                        case hwT176 => rfl
                        case hyT176 => (intro w hSw; (try dsimp only at hSw); go_simp; first | done | with_reducible rfl)
                        try simp only [Act.put]
                        try simp only [List.setIfInBounds_toArray, List.set_cons_zero, List.set_cons_succ]
                        refine takeW 5 (some 290) (oi := ?oT177) (v := ?vT177) ?hiT177 ?hdT177 (by kernel_rfl) (by kernel_rfl) (by kernel_rfl) (fun _ _ _ h => h) ?hwT177 ?hyT177 hHeld ?_
                        case hiT177 => (simp only [List.getElem?_toArray, List.getElem?_cons_succ, List.getElem?_cons_zero]; with_reducible rfl)
                        case hdT177 => rfl
                        case hwT177 => rfl
                        case hyT177 => (intro w hSw; (try dsimp only at hSw); go_simp; first | done | with_reducible rfl)
                        try simp only [Act.put]
                        try simp only [List.setIfInBounds_toArray, List.set_cons_zero, List.set_cons_succ]
                        refine takeW 6 (some 291) (oi := ?oT178) (v := ?vT178) ?hiT178 ?hdT178 (by kernel_rfl) (by kernel_rfl) (by kernel_rfl) (fun _ _ _ h => h) ?hwT178 ?hyT178 hHeld ?_
                        case hiT178 => (simp only [List.getElem?_toArray, List.getElem?_cons_succ, List.getElem?_cons_zero]; with_reducible rfl)
                        case hdT178 => rfl
                        case hwT178 => rfl
                        case hyT178 => (intro w hSw; (try dsimp only at hSw); go_simp; first | done | with_reducible rfl)
                        try simp only [Act.put]
                        try simp only [List.setIfInBounds_toArray, List.set_cons_zero, List.set_cons_succ]
                        refine takeW 7 (some 292) (oi := ?oT179) (v := ?vT179) ?hiT179 ?hdT179 (by kernel_rfl) (by kernel_rfl) (by kernel_rfl) (fun _ _ _ h => h) ?hwT179 ?hyT179 hHeld ?_
                        case hiT179 => (simp only [List.getElem?_toArray, List.getElem?_cons_succ, List.getElem?_cons_zero]; with_reducible rfl)
                        case hdT179 => rfl
                        case hwT179 => rfl
                        case hyT179 => (intro w hSw; (try dsimp only at hSw); go_simp; first | done | with_reducible rfl)
                        try simp only [Act.put]
                        try simp only [List.setIfInBounds_toArray, List.set_cons_zero, List.set_cons_succ]
                        refine takeW 8 (some 293) (oi := ?oT180) (v := ?vT180) ?hiT180 ?hdT180 (by kernel_rfl) (by kernel_rfl) (by kernel_rfl) (fun _ _ _ h => h) ?hwT180 ?hyT180 hHeld ?_
                        case hiT180 => (simp only [List.getElem?_toArray, List.getElem?_cons_succ, List.getElem?_cons_zero]; with_reducible rfl)
                        case hdT180 => rfl
                        case hwT180 => rfl
                        case hyT180 => (intro w hSw; (try dsimp only at hSw); go_simp; first | done | with_reducible rfl)
                        try simp only [Act.put]
                        try simp only [List.setIfInBounds_toArray, List.set_cons_zero, List.set_cons_succ]
                        refine takeW 9 (some 294) (oi := ?oT181) (v := ?vT181) ?hiT181 ?hdT181 (by kernel_rfl) (by kernel_rfl) (by kernel_rfl) (fun _ _ _ h => h) ?hwT181 ?hyT181 hHeld ?_
                        case hiT181 => (simp only [List.getElem?_toArray, List.getElem?_cons_succ, List.getElem?_cons_zero]; with_reducible rfl)
                        case hdT181 => rfl
                        case hwT181 => rfl
                        case hyT181 => (intro w hSw; (try dsimp only at hSw); go_simp; first | done | with_reducible rfl)
                        try simp only [Act.put]
                        try simp only [List.setIfInBounds_toArray, List.set_cons_zero, List.set_cons_succ]
                        refine takeW 10 (some 295) (oi := ?oT182) (v := ?vT182) ?hiT182 ?hdT182 (by kernel_rfl) (by kernel_rfl) (by kernel_rfl) (fun _ _ _ h => h) ?hwT182 ?hyT182 hHeld ?_
                        case hiT182 => (simp only [List.getElem?_toArray, List.getElem?_cons_succ, List.getElem?_cons_zero]; with_reducible rfl)
                        case hdT182 => rfl
                        case hwT182 => rfl
                        case hyT182 => (intro w hSw; (try dsimp only at hSw); go_simp; first | done | with_reducible rfl)
                        try simp only [Act.put]
                        try simp only [List.setIfInBounds_toArray, List.set_cons_zero, List.set_cons_succ]
                        refine takeW 11 (some 296) (oi := ?oT183) (v := ?vT183) ?hiT183 ?hdT183 (by kernel_rfl) (by kernel_rfl) (by kernel_rfl) (fun _ _ _ h => h) ?hwT183 ?hyT183 hHeld ?_
                        case hiT183 => (simp only [List.getElem?_toArray, List.getElem?_cons_succ, List.getElem?_cons_zero]; with_reducible rfl)
                        case hdT183 => rfl
                        case hwT183 => rfl
                        case hyT183 => (intro w hSw; (try dsimp only at hSw); go_simp; first | done | with_reducible rfl)
                        try simp only [Act.put]
                        try simp only [List.setIfInBounds_toArray, List.set_cons_zero, List.set_cons_succ]
                        refine takeW 12 (some 297) (oi := ?oT184) (v := ?vT184) ?hiT184 ?hdT184 (by kernel_rfl) (by kernel_rfl) (by kernel_rfl) (fun _ _ _ h => h) ?hwT184 ?hyT184 hHeld ?_
                        case hiT184 => (simp only [List.getElem?_toArray, List.getElem?_cons_succ, List.getElem?_cons_zero]; with_reducible rfl)
                        case hdT184 => rfl
                        case hwT184 => rfl
                        case hyT184 => (intro w hSw; (try dsimp only at hSw); go_simp; first | done | with_reducible rfl)
                        try simp only [Act.put]
                        try simp only [List.setIfInBounds_toArray, List.set_cons_zero, List.set_cons_succ]
                        refine takeW 13 (some 298) (oi := ?oT185) (v := ?vT185) ?hiT185 ?hdT185 (by kernel_rfl) (by kernel_rfl) (by kernel_rfl) (fun _ _ _ h => h) ?hwT185 ?hyT185 hHeld ?_
                        case hiT185 => (simp only [List.getElem?_toArray, List.getElem?_cons_succ, List.getElem?_cons_zero]; with_reducible rfl)
                        case hdT185 => rfl
                        case hwT185 => rfl
                        case hyT185 => (intro w hSw; (try dsimp only at hSw); go_simp; first | done | with_reducible rfl)
                        try simp only [Act.put]
                        try simp only [List.setIfInBounds_toArray, List.set_cons_zero, List.set_cons_succ]
                        refine takeW 14 (some 299) (oi := ?oT186) (v := ?vT186) ?hiT186 ?hdT186 (by kernel_rfl) (by kernel_rfl) (by kernel_rfl) (fun _ _ _ h => h) ?hwT186 ?hyT186 hHeld ?_
                        case hiT186 => (simp only [List.getElem?_toArray, List.getElem?_cons_succ, List.getElem?_cons_zero]; with_reducible rfl)
                        case hdT186 => rfl
                        case hwT186 => rfl
                        case hyT186 => (intro w hSw; (try dsimp only at hSw); go_simp; first | done | with_reducible rfl)
                        try simp only [Act.put]
                        try simp only [List.setIfInBounds_toArray, List.set_cons_zero, List.set_cons_succ]
                        refine takeW 15 (some 300) (oi := ?oT187) (v := ?vT187) ?hiT187 ?hdT187 (by kernel_rfl) (by kernel_rfl) (by kernel_rfl) (fun _ _ _ h => h) ?hwT187 ?hyT187 hHeld ?_
                        case hiT187 => (simp only [List.getElem?_toArray, List.getElem?_cons_succ, List.getElem?_cons_zero]; with_reducible rfl)
                        case hdT187 => rfl
                        case hwT187 => rfl
                        case hyT187 => (intro w hSw; (try dsimp only at hSw); go_simp; first | done | with_reducible rfl)
                        try simp only [Act.put]
                        try simp only [List.setIfInBounds_toArray, List.set_cons_zero, List.set_cons_succ]
                        refine takeW 16 (some 301) (oi := ?oT188) (v := ?vT188) ?hiT188 ?hdT188 (by kernel_rfl) (by kernel_rfl) (by kernel_rfl) (fun _ _ _ h => h) ?hwT188 ?hyT188 hHeld ?_
                        case hiT188 => (simp only [List.getElem?_toArray, List.getElem?_cons_succ, List.getElem?_cons_zero]; with_reducible rfl)
                        case hdT188 => rfl
                        case hwT188 => rfl
                        case hyT188 => (intro w hSw; (try dsimp only at hSw); go_simp; first | done | with_reducible rfl)
                        try simp only [Act.put]
                        try simp only [List.setIfInBounds_toArray, List.set_cons_zero, List.set_cons_succ]
                        refine stepOne 17 (o := ?oT189) ?hiT189 (by kernel_rfl) ?hwT189 (fun K hK => ?_)
                        case hiT189 => (simp only [List.getElem?_toArray, List.getElem?_cons_succ, List.getElem?_cons_zero]; with_reducible rfl)
                        case hwT189 => rfl
                        go_simp
                        go_at_call 8
                        refine CST.out.mono ?_
                        rintro e2 w13 ⟨rfl, rfl⟩
                        refine hK.out _ _ ?_ (fun hHeld => ?_)
                        · exact HST.out _ (Below.refl _ _).drew
                        clear hK K
                        try simp only [Act.put]
                        try simp only [List.setIfInBounds_toArray, List.set_cons_zero, List.set_cons_succ]
                        refine takeW 18 (some 303) (oi := ?oT190) (v := ?vT190) ?hiT190 ?hdT190 (by kernel_rfl) (by kernel_rfl) (by kernel_rfl) (fun _ _ _ h => h) ?hwT190 ?hyT190 hHeld ?_
                        case hiT190 => (simp only [List.getElem?_toArray, List.getElem?_cons_succ, List.getElem?_cons_zero]; with_reducible rfl)
                        case hdT190 => rfl
                        case hwT190 => rfl
                        case hyT190 => (intro w hSw; (try dsimp only at hSw); go_simp; first | done | with_reducible rfl)
                        try simp only [Act.put]
                        try simp only [List.setIfInBounds_toArray, List.set_cons_zero, List.set_cons_succ]
                        refine takeW 19 (some 304) (oi := ?oT191) (v := ?vT191) ?hiT191 ?hdT191 (by kernel_rfl) (by kernel_rfl) (by kernel_rfl) (fun _ _ _ h => h) ?hwT191 ?hyT191 hHeld ?_
                        case hiT191 => (simp only [List.getElem?_toArray, List.getElem?_cons_succ, List.getElem?_cons_zero]; with_reducible rfl)
                        case hdT191 => rfl
                        case hwT191 => rfl
                        case hyT191 => (intro w hSw; (try dsimp only at hSw); go_simp; first | done | with_reducible rfl)
                        try simp only [Act.put]
                        try simp only [List.setIfInBounds_toArray, List.set_cons_zero, List.set_cons_succ]
                        refine takeW 20 (some 305) (oi := ?oT192) (v := ?vT192) ?hiT192 ?hdT192 (by kernel_rfl) (by kernel_rfl) (by kernel_rfl) (fun _ _ _ h => h) ?hwT192 ?hyT192 hHeld ?_
                        case hiT192 => (simp only [List.getElem?_toArray, List.getElem?_cons_succ, List.getElem?_cons_zero]; with_reducible rfl)
                        case hdT192 => rfl
                        case hwT192 => rfl
                        case hyT192 => (intro w hSw; (try dsimp only at hSw); go_simp; first | done | with_reducible rfl)
                        try simp only [Act.put]
                        try simp only [List.setIfInBounds_toArray, List.set_cons_zero, List.set_cons_succ]
                        refine takeW 21 (some 306) (oi := ?oT193) (v := ?vT193) ?hiT193 ?hdT193 (by kernel_rfl) (by kernel_rfl) (by kernel_rfl) (fun _ _ _ h => h) ?hwT193 ?hyT193 hHeld ?_
                        case hiT193 => (simp only [List.getElem?_toArray, List.getElem?_cons_succ, List.getElem?_cons_zero]; with_reducible rfl)
                        case hdT193 => rfl
                        case hwT193 => rfl
                        case hyT193 => (intro w hSw; (try dsimp only at hSw); go_simp; first | done | with_reducible rfl)
                        try simp only [Act.put]
                        try simp only [List.setIfInBounds_toArray, List.set_cons_zero, List.set_cons_succ]
                        refine takeW 22 (some 307) (oi := ?oT194) (v := ?vT194) ?hiT194 ?hdT194 (by kernel_rfl) (by kernel_rfl) (by kernel_rfl) (fun _ _ _ h => h) ?hwT194 ?hyT194 hHeld ?_
                        case hiT194 => (simp only [List.getElem?_toArray, List.getElem?_cons_succ, List.getElem?_cons_zero]; with_reducible rfl)
                        case hdT194 => rfl
                        case hwT194 => rfl
                        case hyT194 => (intro w hSw; (try dsimp only at hSw); go_simp; first | done | with_reducible rfl)
                        try simp only [Act.put]
                        try simp only [List.setIfInBounds_toArray, List.set_cons_zero, List.set_cons_succ]
                        refine takeW 23 (some 308) (oi := ?oT195) (v := ?vT195) ?hiT195 ?hdT195 (by kernel_rfl) (by kernel_rfl) (by kernel_rfl) (fun _ _ _ h => h) ?hwT195 ?hyT195 hHeld ?_
                        case hiT195 => (simp only [List.getElem?_toArray, List.getElem?_cons_succ, List.getElem?_cons_zero]; with_reducible rfl)
                        case hdT195 => rfl
                        case hwT195 => rfl
                        case hyT195 => (intro w hSw; (try dsimp only at hSw); go_simp; first | done | with_reducible rfl)
                        try simp only [Act.put]
                        try simp only [List.setIfInBounds_toArray, List.set_cons_zero, List.set_cons_succ]
                        refine takeW 24 (some 309) (oi := ?oT196) (v := ?vT196) ?hiT196 ?hdT196 (by kernel_rfl) (by kernel_rfl) (by kernel_rfl) (fun _ _ _ h => h) ?hwT196 ?hyT196 hHeld ?_
                        case hiT196 => (simp only [List.getElem?_toArray, List.getElem?_cons_succ, List.getElem?_cons_zero]; with_reducible rfl)
                        case hdT196 => rfl
                        case hwT196 => rfl
                        case hyT196 => (intro w hSw; (try dsimp only at hSw); go_simp; first | done | with_reducible rfl)
                        try simp only [Act.put]
                        try simp only [List.setIfInBounds_toArray, List.set_cons_zero, List.set_cons_succ]
                        refine takeW 25 (some 310) (oi := ?oT197) (v := ?vT197) ?hiT197 ?hdT197 (by kernel_rfl) (by kernel_rfl) (by kernel_rfl) (fun _ _ _ h => h) ?hwT197 ?hyT197 hHeld ?_
                        case hiT197 => (simp only [List.getElem?_toArray, List.getElem?_cons_succ, List.getElem?_cons_zero]; with_reducible rfl)
                        case hdT197 => rfl
                        case hwT197 => rfl
                        case hyT197 => (intro w hSw; (try dsimp only at hSw); go_simp; first | done | with_reducible rfl)
                        try simp only [Act.put]
                        try simp only [List.setIfInBounds_toArray, List.set_cons_zero, List.set_cons_succ]
                        refine takeW 26 (some 311) (oi := ?oT198) (v := ?vT198) ?hiT198 ?hdT198 (by kernel_rfl) (by kernel_rfl) (by kernel_rfl) (fun _ _ _ h => h) ?hwT198 ?hyT198 hHeld ?_
                        case hiT198 => (simp only [List.getElem?_toArray, List.getElem?_cons_succ, List.getElem?_cons_zero]; with_reducible rfl)
                        case hdT198 => rfl
                        case hwT198 => rfl
                        case hyT198 => (intro w hSw; (try dsimp only at hSw); go_simp; first | done | with_reducible rfl)
                        try simp only [Act.put]
                        try simp only [List.setIfInBounds_toArray, List.set_cons_zero, List.set_cons_succ]
                        refine takeW 27 (some 312) (oi := ?oT199) (v := ?vT199) ?hiT199 ?hdT199 (by kernel_rfl) (by kernel_rfl) (by kernel_rfl) (fun _ _ _ h => h) ?hwT199 ?hyT199 hHeld ?_
                        case hiT199 => (simp only [List.getElem?_toArray, List.getElem?_cons_succ, List.getElem?_cons_zero]; with_reducible rfl)
                        case hdT199 => rfl
                        case hwT199 => rfl
                        case hyT199 => (intro w hSw; (try dsimp only at hSw); go_simp; first | done | with_reducible rfl)
                        try simp only [Act.put]
                        try simp only [List.setIfInBounds_toArray, List.set_cons_zero, List.set_cons_succ]
                        refine takeW 28 (some 313) (oi := ?oT200) (v := ?vT200) ?hiT200 ?hdT200 (by kernel_rfl) (by kernel_rfl) (by kernel_rfl) (fun _ _ _ h => h) ?hwT200 ?hyT200 hHeld ?_
                        case hiT200 => (simp only [List.getElem?_toArray, List.getElem?_cons_succ, List.getElem?_cons_zero]; with_reducible rfl)
                        case hdT200 => rfl
                        case hwT200 => rfl
                        case hyT200 => (intro w hSw; (try dsimp only at hSw); go_simp; first | done | with_reducible rfl)
                        try simp only [Act.put]
                        try simp only [List.setIfInBounds_toArray, List.set_cons_zero, List.set_cons_succ]
                        refine takeW 29 (some 314) (oi := ?oT201) (v := ?vT201) ?hiT201 ?hdT201 (by kernel_rfl) (by kernel_rfl) (by kernel_rfl) (fun _ _ _ h => h) ?hwT201 ?hyT201 hHeld ?_
                        case hiT201 => (simp only [List.getElem?_toArray, List.getElem?_cons_succ, List.getElem?_cons_zero]; with_reducible rfl)
                        case hdT201 => rfl
                        case hwT201 => rfl
                        case hyT201 => (intro w hSw; (try dsimp only at hSw); go_simp; first | done | with_reducible rfl)
                        try simp only [Act.put]
                        try simp only [List.setIfInBounds_toArray, List.set_cons_zero, List.set_cons_succ]
                        refine takeW 30 (some 315) (oi := ?oT202) (v := ?vT202) ?hiT202 ?hdT202 (by kernel_rfl) (by kernel_rfl) (by kernel_rfl) (fun _ _ _ h => h) ?hwT202 ?hyT202 hHeld ?_
                        case hiT202 => (simp only [List.getElem?_toArray, List.getElem?_cons_succ, List.getElem?_cons_zero]; with_reducible rfl)
                        case hdT202 => rfl
                        case hwT202 => rfl
                        case hyT202 => (intro w hSw; (try dsimp only at hSw); go_simp; first | done | with_reducible rfl)
                        try simp only [Act.put]
                        try simp only [List.setIfInBounds_toArray, List.set_cons_zero, List.set_cons_succ]
                        refine wpAnyH_done (by kernel_rfl) ?_ _
                        refine NoPanic.normal ?_
                        skip
                        have d9 := (HTR.out _ HBT.out).2.2.2.2.2.2.2.2
                        have f9 := HFR.out _ HBT.out (j * 10 + 9)
                        go_upto_region 48 with fail
                        clear d9 f9
                        obtain ⟨w8, hw8⟩ : ∃ W, w7.setCell ⟨q, j * 10 + 9, none⟩ (.bool true) = W := ⟨_, rfl⟩
                        have HPD : Hid (PWd w8 q q22 q23 (k : Int) La Lb Lc Ld (str clm)) := Lib.hid ⟨by rw [← hw8]; exact B22.out.setOther HQ2.out.1 _, by rw [← hw8]; exact B23.out.setOther HQ2.out.2 _, fun o => by rw [← hw8]; exact (World.frozen?_setCell _ _ _ _).trans (HFR.out _ HBT.out _), fun o ho => by
                          rw [← hw8]
                          obtain ⟨v, hv⟩ := (H5.out.under HBT.out).cell30 o ho
                          by_cases e : j * 10 + 9 = o
                          · subst e
                            exact ⟨_, World.cell?_setCell_same' _ _ _ (by rw [hv]; rfl)⟩
                          · exact ⟨v, off_cell hv e _⟩, HQ2.out.1, HQ2.out.2⟩
                        have HSS : Hid (∀ W, PWd W q q22 q23 (k : Int) La Lb Lc Ld (str clm) → W.cell? ⟨q22, 0, none⟩ = some (.string (str clm)) ∧ W.cell? ⟨q22, 1, none⟩ = some (.int .i64 (k : Int)) ∧ W.cell? ⟨q23, 0, none⟩ = some (.int .i64 La) ∧ W.cell? ⟨q23, 1, none⟩ = some (.int .i64 Lb) ∧ W.cell? ⟨q23, 2, none⟩ = some (.int .i64 Lc) ∧ W.cell? ⟨q23, 3, none⟩ = some (.int .i64 Ld)) := Lib.hid fun W h => ⟨h.1.at 0, h.1.at 1, h.2.1.at 0, h.2.1.at 1, h.2.1.at 2, h.2.1.at 3⟩
                        have d1 : w8.cell? ⟨q, j * 10 + 1, none⟩ = some (.pointer (some ⟨gb2 j, 0, none⟩)) := by rw [← hw8]; exact off_cell (HTR.out _ HBT.out).1 (by omega) _
                        have D1 := Lib.hid d1
                        rw [hw8] at H6 ⊢
                        clear hw8 d1
                        obtain ⟨wF, hwF⟩ : ∃ W, (((((w8.setCell ⟨q, j * 10 + 3, none⟩ (.string (str clm))).setCell ⟨q, j * 10 + 4, none⟩ (.int .i64 (k : Int))).setCell ⟨q, j * 10 + 5, none⟩ (.int .i64 La)).setCell ⟨q, j * 10 + 6, none⟩ (.int .i64 Lb)).setCell ⟨q, j * 10 + 7, none⟩ (.int .i64 Lc)).setCell ⟨q, j * 10 + 8, none⟩ (.int .i64 Ld) = W := ⟨_, rfl⟩
                        have HWF := Lib.hid hwF
                        have e1 : wF.cell? ⟨q, j * 10 + 1, none⟩ = some (.pointer (some ⟨gb2 j, 0, none⟩)) := by
                          rw [← hwF]
                          exact off_cell (off_cell (off_cell (off_cell (off_cell (off_cell D1.out (by omega) _) (by omega) _) (by omega) _) (by omega) _) (by omega) _) (by omega) _
                        have e2' : wF.frozen? ⟨q, j * 10 + 1, none⟩ = false := by
                          rw [← hwF]
                          simp only [World.frozen?_setCell]
                          exact HPD.out.2.2.1 _
                        have E12 := Lib.hid (And.intro e1 e2')
                        rw [hwF] at H6
                        clear hwF e1 e2'
                        go_cut [] (fun wx => wx = wF.drew.drew)
                        case first =>
                          as_aux_lemma =>
                          refine wp_region_noPanic ?_
                          refine wp_region_held_drew (S := fun W => W.cell? ⟨q22, 0, none⟩ = some (.string (str clm)) ∧ W.cell? ⟨q22, 1, none⟩ = some (.int .i64 (k : Int)) ∧ W.cell? ⟨q23, 0, none⟩ = some (.int .i64 La) ∧ W.cell? ⟨q23, 1, none⟩ = some (.int .i64 Lb) ∧ W.cell? ⟨q23, 2, none⟩ = some (.int .i64 Lc) ∧ W.cell? ⟨q23, 3, none⟩ = some (.int .i64 Ld)) (by kernel_rfl) (HSS.out _ HPD.out) (fun hHeld => ?_)
                          refine takeW 0 (some 321) (oi := ?oT203) (v := ?vT203) ?hiT203 ?hdT203 (by kernel_rfl) (by kernel_rfl) (by kernel_rfl) (fun _ _ _ h => h) ?hwT203 ?hyT203 hHeld ?_
                          case hiT203 => (simp only [List.getElem?_toArray, List.getElem?_cons_zero]; with_reducible rfl)
                          case hdT203 => rfl
                          case hwT203 => rfl
                          case hyT203 => (intro w hSw; (try dsimp only at hSw); go_simp; first | done | with_reducible rfl)
                          try simp only [Act.put]
                          try simp only [List.setIfInBounds_toArray, List.set_cons_zero, List.set_cons_succ]
                          refine takeW 1 (some 322) (oi := ?oT204) (v := ?vT204) ?hiT204 ?hdT204 (by kernel_rfl) (by kernel_rfl) (by kernel_rfl) (fun _ _ _ h => h) ?hwT204 ?hyT204 hHeld ?_
                          case hiT204 => (simp only [List.getElem?_toArray, List.getElem?_cons_succ, List.getElem?_cons_zero]; with_reducible rfl)
                          case hdT204 => rfl
                          case hwT204 => rfl
                          case hyT204 => (intro w hSw; (try dsimp only at hSw); go_simp; first | done | with_reducible rfl)
                          try simp only [Act.put]
                          try simp only [List.setIfInBounds_toArray, List.set_cons_zero, List.set_cons_succ]
                          refine takeW 2 (some 323) (oi := ?oT205) (v := ?vT205) ?hiT205 ?hdT205 (by kernel_rfl) (by kernel_rfl) (by kernel_rfl) (fun _ _ _ h => h) ?hwT205 ?hyT205 hHeld ?_
                          case hiT205 => (simp only [List.getElem?_toArray, List.getElem?_cons_succ, List.getElem?_cons_zero]; with_reducible rfl)
                          case hdT205 => rfl
                          case hwT205 => rfl
                          case hyT205 => (intro w hSw; (try dsimp only at hSw); go_simp; first | done | with_reducible rfl)
                          try simp only [Act.put]
                          try simp only [List.setIfInBounds_toArray, List.set_cons_zero, List.set_cons_succ]
                          refine takeW 3 (some 324) (oi := ?oT206) (v := ?vT206) ?hiT206 ?hdT206 (by kernel_rfl) (by kernel_rfl) (by kernel_rfl) (fun _ _ _ h => h) ?hwT206 ?hyT206 hHeld ?_
                          case hiT206 => (simp only [List.getElem?_toArray, List.getElem?_cons_succ, List.getElem?_cons_zero]; with_reducible rfl)
                          case hdT206 => rfl
                          case hwT206 => rfl
                          case hyT206 => (intro w hSw; (try dsimp only at hSw); go_simp; first | done | with_reducible rfl)
                          try simp only [Act.put]
                          try simp only [List.setIfInBounds_toArray, List.set_cons_zero, List.set_cons_succ]
                          refine takeW 4 (some 325) (oi := ?oT207) (v := ?vT207) ?hiT207 ?hdT207 (by kernel_rfl) (by kernel_rfl) (by kernel_rfl) (fun _ _ _ h => h) ?hwT207 ?hyT207 hHeld ?_
                          case hiT207 => (simp only [List.getElem?_toArray, List.getElem?_cons_succ, List.getElem?_cons_zero]; with_reducible rfl)
                          case hdT207 => rfl
                          case hwT207 => rfl
                          case hyT207 => (intro w hSw; (try dsimp only at hSw); go_simp; first | done | with_reducible rfl)
                          try simp only [Act.put]
                          try simp only [List.setIfInBounds_toArray, List.set_cons_zero, List.set_cons_succ]
                          refine takeW 5 (some 326) (oi := ?oT208) (v := ?vT208) ?hiT208 ?hdT208 (by kernel_rfl) (by kernel_rfl) (by kernel_rfl) (fun _ _ _ h => h) ?hwT208 ?hyT208 hHeld ?_
                          case hiT208 => (simp only [List.getElem?_toArray, List.getElem?_cons_succ, List.getElem?_cons_zero]; with_reducible rfl)
                          case hdT208 => rfl
                          case hwT208 => rfl
                          case hyT208 => (intro w hSw; (try dsimp only at hSw); go_simp; first | done | with_reducible rfl)
                          try simp only [Act.put]
                          try simp only [List.setIfInBounds_toArray, List.set_cons_zero, List.set_cons_succ]
                          refine stepOne 6 (o := ?oT209) ?hiT209 (by kernel_rfl) ?hwT209 (fun K hK => ?_)
                          case hiT209 => (simp only [List.getElem?_toArray, List.getElem?_cons_succ, List.getElem?_cons_zero]; with_reducible rfl)
                          case hwT209 => rfl
                          obtain ⟨u3, c3⟩ := HPD.out.2.2.2.1 (j * 10 + 3) (by have := HJ.out; omega)
                          have f3 := HPD.out.2.2.1 (j * 10 + 3)
                          obtain ⟨u4, c4⟩ := HPD.out.2.2.2.1 (j * 10 + 4) (by have := HJ.out; omega)
                          have f4 := HPD.out.2.2.1 (j * 10 + 4)
                          go_simp
                          clear c3 f3 c4 f4
                          refine hK.out _ _ ?_ (fun hHeld => ?_)
                          · exact HSS.out _ (PWd.set (PWd.set HPD.out (j * 10 + 3) (.string (str clm))) (j * 10 + 4) (.int .i64 (k : Int)))
                          clear hK K
                          try simp only [Act.put]
                          try simp only [List.setIfInBounds_toArray, List.set_cons_zero, List.set_cons_succ]
                          refine takeW 7 (some 327) (oi := ?oT210) (v := ?vT210) ?hiT210 ?hdT210 (by kernel_rfl) (by kernel_rfl) (by kernel_rfl) (fun _ _ _ h => h) ?hwT210 ?hyT210 hHeld ?_
                          case hiT210 => (simp only [List.getElem?_toArray, List.getElem?_cons_succ, List.getElem?_cons_zero]; with_reducible rfl)
                          case hdT210 => rfl
                          case hwT210 => rfl
                          case hyT210 => (intro w hSw; (try dsimp only at hSw); go_simp; first | done | with_reducible rfl)
                          try simp only [Act.put]
                          try simp only [List.setIfInBounds_toArray, List.set_cons_zero, List.set_cons_succ]
                          refine takeW 8 (some 328) (oi := ?oT211) (v := ?vT211) ?hiT211 ?hdT211 (by kernel_rfl) (by kernel_rfl) (by kernel_rfl) (fun _ _ _ h => h) ?hwT211 ?hyT211 hHeld ?_
                          case hiT211 => (simp only [List.getElem?_toArray, List.getElem?_cons_succ, List.getElem?_cons_zero]; with_reducible rfl)
                          case hdT211 => rfl
                          case hwT211 => rfl
                          case hyT211 => (intro w hSw; (try dsimp only at hSw); go_simp; first | done | with_reducible rfl)
                          try simp only [Act.put]
                          try simp only [List.setIfInBounds_toArray, List.set_cons_zero, List.set_cons_succ]
                          refine stepOne 9 (o := ?oT212) ?hiT212 (by kernel_rfl) ?hwT212 (fun K hK => ?_)
                          case hiT212 => (simp only [List.getElem?_toArray, List.getElem?_cons_succ, List.getElem?_cons_zero]; with_reducible rfl)
                          case hwT212 => rfl
                          obtain ⟨wn1, hwn1⟩ : ∃ W, ((w8.setCell ⟨q, j * 10 + 3, none⟩ (.string (str clm))).setCell ⟨q, j * 10 + 4, none⟩ (.int .i64 (k : Int))) = W := ⟨_, rfl⟩
                          rw [hwn1]
                          have HP1 : Hid (PWd wn1 q q22 q23 (k : Int) La Lb Lc Ld (str clm)) := Lib.hid (by rw [← hwn1]; exact (PWd.set (PWd.set HPD.out (j * 10 + 3) (.string (str clm))) (j * 10 + 4) (.int .i64 (k : Int))))
                          have HQ1 := Lib.hid hwn1
                          clear hwn1
                          obtain ⟨u5, c5⟩ := HP1.out.2.2.2.1 (j * 10 + 5) (by have := HJ.out; omega)
                          have f5 := HP1.out.2.2.1 (j * 10 + 5)
                          obtain ⟨u6, c6⟩ := HP1.out.2.2.2.1 (j * 10 + 6) (by have := HJ.out; omega)
                          have f6 := HP1.out.2.2.1 (j * 10 + 6)
                          obtain ⟨u7, c7⟩ := HP1.out.2.2.2.1 (j * 10 + 7) (by have := HJ.out; omega)
                          have f7 := HP1.out.2.2.1 (j * 10 + 7)
                          obtain ⟨u8, c8⟩ := HP1.out.2.2.2.1 (j * 10 + 8) (by have := HJ.out; omega)
                          have f8 := HP1.out.2.2.1 (j * 10 + 8)
                          go_simp
                          clear c5 f5 c6 f6 c7 f7 c8 f8
                          refine hK.out _ _ ?_ (fun hHeld => ?_)
                          · exact HSS.out _ (PWd.set (PWd.set (PWd.set (PWd.set HP1.out (j * 10 + 5) (.int .i64 La)) (j * 10 + 6) (.int .i64 Lb)) (j * 10 + 7) (.int .i64 Lc)) (j * 10 + 8) (.int .i64 Ld))
                          clear hK K
                          try simp only [Act.put]
                          try simp only [List.setIfInBounds_toArray, List.set_cons_zero, List.set_cons_succ]
                          refine wpAnyH_done (by kernel_rfl) ?_ _
                          refine NoPanic.normal ?_
                          go_wp2_with fail
                          go_meet
                          refine congrArg World.drew (congrArg World.drew ?_)
                          rw [← HWF.out, ← HQ1.out]
                          try rfl
                        case rest =>
                          as_aux_lemma =>
                          obtain rfl : wc = wF.drew.drew := hcut
                          have e1 := E12.out.1
                          have f1 := E12.out.2
                          go_wp2_with fail
                          go_roundg (301 - (i + 1))
                          case rel => exact ⟨i + 1, now, e, s', _, K6', R6, gb6, by have := HJ.out; omega, by omega, rfl, rfl, rfl, HI6, Lib.hid ((H6.out.under (Below.refl _ _).drew).under (Below.refl _ _).drew)⟩
                          case measure => have := HJ.out; omega
                      · as_aux_lemma =>
                        have HI6 := Lib.hid hi1
                        have ho : wrO x' (hs2 j).fr = none := by unfold wrO; rw [if_pos hfr]
                        have hgg : ((σ : Int) == (hs2 j).gs) = true := by rw [← hgs, HSG.out]; simp
                        clear hgs
                        have CH : Hid (Calls Tryz.prog 14 #[.pointer (some ⟨gb2 j, 0, none⟩)] w4 fun e w' => e = .returned (.tuple #[guardV [] 0, lockV 0 0 0 0, .bool false]) ∧ Below w4.heap.size w4 w') := Lib.hid (by
                          have := wrheld_any x' _ X4.out
                          rw [ho] at this
                          exact this)
                        clear hi1 hi2 HTT hk hL hfl hstp hLc
                        clear ho
                        go_wp2_with fail
                        refine CH.out.mono ?_
                        rintro e2 w5 ⟨rfl, hb5⟩
                        have HB5 := Lib.hid hb5
                        clear hb5 CH d1 d4
                        go_upto_region 44 with fail
                        obtain ⟨w7, hw7⟩ : ∃ W, (w5.alloc (.cells #[.string (str []), .int .i64 0] 28)).alloc (.cells #[.int .i64 0, .int .i64 0, .int .i64 0, .int .i64 0] 30) = W := ⟨_, rfl⟩
                        rw [hw7]
                        have HBT : Hid (Below w4.heap.size w4 w7) := Lib.hid (by rw [← hw7]; exact (HB5.out.alloc HB5.out.size _).alloc (Nat.le_trans HB5.out.size (by simp)) _)
                        clear hw7
                        obtain ⟨K6', R6, gb6, h6⟩ := HW2.out.wr_done (q := false) HJ.out.1 HPH.out H4.out X4.out K4.out HBT.out
                        have H6 := Lib.hid h6
                        have HFT : Hid (∀ W, Below w7.heap.size w7 W → W.cell? ⟨q, j * 10 + 2, none⟩ = some (.bool true)) := Lib.hid fun W hb => by
                          have := (HTR.out W (HBT.out.trans (hb.mono HBT.out.size))).2.1
                          rwa [hfr] at this
                        clear h6
                        refine wp_region_noPanic ?_
                        refine wp_region_held_drew (S := fun W => W.cell? ⟨q, j * 10 + 2, none⟩ = some (.bool true)) (by kernel_rfl) (HFT.out _ (Below.refl _ _).drew) (fun hHeld => ?_)
                        refine takeW 0 (some 285) (oi := ?oT213) (v := ?vT213) ?hiT213 ?hdT213 (by kernel_rfl) (by kernel_rfl) (by kernel_rfl) (fun _ _ _ h => h) ?hwT213 ?hyT213 hHeld ?_
                        case hiT213 => (simp only [List.getElem?_toArray, List.getElem?_cons_zero]; with_reducible rfl)
                        case hdT213 => rfl
                        case hwT213 => rfl
                        case hyT213 => (intro w hSw; (try dsimp only at hSw); go_simp; first | done | with_reducible rfl)
                        try simp only [Act.put]
                        try simp only [List.setIfInBounds_toArray, List.set_cons_zero, List.set_cons_succ]
                        refine takeW 1 (some 286) (oi := ?oT214) (v := ?vT214) ?hiT214 ?hdT214 (by kernel_rfl) (by kernel_rfl) (by kernel_rfl) (fun _ _ _ h => h) ?hwT214 ?hyT214 hHeld ?_
                        case hiT214 => (simp only [List.getElem?_toArray, List.getElem?_cons_succ, List.getElem?_cons_zero]; with_reducible rfl)
                        case hdT214 => rfl
                        case hwT214 => rfl
                        case hyT214 => (intro w hSw; (try dsimp only at hSw); go_simp; first | done | with_reducible rfl)
                        try simp only [Act.put]
                        try simp only [List.setIfInBounds_toArray, List.set_cons_zero, List.set_cons_succ]
                        refine takeW 2 (some 287) (oi := ?oT215) (v := ?vT215) ?hiT215 ?hdT215 (by kernel_rfl) (by kernel_rfl) (by kernel_rfl) (fun _ _ _ h => h) ?hwT215 ?hyT215 hHeld ?_
                        case hiT215 => (simp only [List.getElem?_toArray, List.getElem?_cons_succ, List.getElem?_cons_zero]; with_reducible rfl)
                        case hdT215 => rfl
                        case hwT215 => rfl
                        case hyT215 => (intro w hSw; (try dsimp only at hSw); go_simp; first | done | with_reducible rfl)
                        try simp only [Act.put]
                        try simp only [List.setIfInBounds_toArray, List.set_cons_zero, List.set_cons_succ]
                        refine takeW 3 (some 288) (oi := ?oT216) (v := ?vT216) ?hiT216 ?hdT216 (by kernel_rfl) (by kernel_rfl) (by kernel_rfl) (fun _ _ _ h => h) ?hwT216 ?hyT216 hHeld ?_
                        case hiT216 => (simp only [List.getElem?_toArray, List.getElem?_cons_succ, List.getElem?_cons_zero]; with_reducible rfl)
                        case hdT216 => rfl
                        case hwT216 => rfl
                        case hyT216 => (intro w hSw; (try dsimp only at hSw); go_simp; first | done | with_reducible rfl)
                        try simp only [Act.put]
                        try simp only [List.setIfInBounds_toArray, List.set_cons_zero, List.set_cons_succ]
                        refine takeW 4 (some 289) (oi := ?oT217) (v := ?vT217) ?hiT217 ?hdT217 (by kernel_rfl) (by kernel_rfl) (by kernel_rfl) (fun _ _ _ h => h) ?hwT217 ?hyT217 hHeld ?_
                        case hiT217 => (simp only [List.getElem?_toArray, List.getElem?_cons_succ, List.getElem?_cons_zero]; with_reducible rfl)
                        case hdT217 => rfl
                        case hwT217 => rfl
                        case hyT217 => (intro w hSw; (try dsimp only at hSw); go_simp; first | done | with_reducible rfl)
                        try simp only [Act.put]
                        try simp only [List.setIfInBounds_toArray, List.set_cons_zero, List.set_cons_succ]
                        refine takeW 5 (some 290) (oi := ?oT218) (v := ?vT218) ?hiT218 ?hdT218 (by kernel_rfl) (by kernel_rfl) (by kernel_rfl) (fun _ _ _ h => h) ?hwT218 ?hyT218 hHeld ?_
                        case hiT218 => (simp only [List.getElem?_toArray, List.getElem?_cons_succ, List.getElem?_cons_zero]; with_reducible rfl)
                        case hdT218 => rfl
                        case hwT218 => rfl
                        case hyT218 => (intro w hSw; (try dsimp only at hSw); go_simp; first | done | with_reducible rfl)
                        try simp only [Act.put]
                        try simp only [List.setIfInBounds_toArray, List.set_cons_zero, List.set_cons_succ]
                        refine takeW 6 (some 291) (oi := ?oT219) (v := ?vT219) ?hiT219 ?hdT219 (by kernel_rfl) (by kernel_rfl) (by kernel_rfl) (fun _ _ _ h => h) ?hwT219 ?hyT219 hHeld ?_
                        case hiT219 => (simp only [List.getElem?_toArray, List.getElem?_cons_succ, List.getElem?_cons_zero]; with_reducible rfl)
                        case hdT219 => rfl
                        case hwT219 => rfl
                        case hyT219 => (intro w hSw; (try dsimp only at hSw); go_simp; first | done | with_reducible rfl)
                        try simp only [Act.put]
                        try simp only [List.setIfInBounds_toArray, List.set_cons_zero, List.set_cons_succ]
                        refine takeW 7 (some 292) (oi := ?oT220) (v := ?vT220) ?hiT220 ?hdT220 (by kernel_rfl) (by kernel_rfl) (by kernel_rfl) (fun _ _ _ h => h) ?hwT220 ?hyT220 hHeld ?_
                        case hiT220 => (simp only [List.getElem?_toArray, List.getElem?_cons_succ, List.getElem?_cons_zero]; with_reducible rfl)
                        case hdT220 => rfl
                        case hwT220 => rfl
                        case hyT220 => (intro w hSw; (try dsimp only at hSw); go_simp; first | done | with_reducible rfl)
                        try simp only [Act.put]
                        try simp only [List.setIfInBounds_toArray, List.set_cons_zero, List.set_cons_succ]
                        refine takeW 8 (some 293) (oi := ?oT221) (v := ?vT221) ?hiT221 ?hdT221 (by kernel_rfl) (by kernel_rfl) (by kernel_rfl) (fun _ _ _ h => h) ?hwT221 ?hyT221 hHeld ?_
                        case hiT221 => (simp only [List.getElem?_toArray, List.getElem?_cons_succ, List.getElem?_cons_zero]; with_reducible rfl)
                        case hdT221 => rfl
                        case hwT221 => rfl
                        case hyT221 => (intro w hSw; (try dsimp only at hSw); go_simp; first | done | with_reducible rfl)
                        try simp only [Act.put]
                        try simp only [List.setIfInBounds_toArray, List.set_cons_zero, List.set_cons_succ]
                        refine takeW 9 (some 294) (oi := ?oT222) (v := ?vT222) ?hiT222 ?hdT222 (by kernel_rfl) (by kernel_rfl) (by kernel_rfl) (fun _ _ _ h => h) ?hwT222 ?hyT222 hHeld ?_
                        case hiT222 => (simp only [List.getElem?_toArray, List.getElem?_cons_succ, List.getElem?_cons_zero]; with_reducible rfl)
                        case hdT222 => rfl
                        case hwT222 => rfl
                        case hyT222 => (intro w hSw; (try dsimp only at hSw); go_simp; first | done | with_reducible rfl)
                        try simp only [Act.put]
                        try simp only [List.setIfInBounds_toArray, List.set_cons_zero, List.set_cons_succ]
                        refine takeW 10 (some 295) (oi := ?oT223) (v := ?vT223) ?hiT223 ?hdT223 (by kernel_rfl) (by kernel_rfl) (by kernel_rfl) (fun _ _ _ h => h) ?hwT223 ?hyT223 hHeld ?_
                        case hiT223 => (simp only [List.getElem?_toArray, List.getElem?_cons_succ, List.getElem?_cons_zero]; with_reducible rfl)
                        case hdT223 => rfl
                        case hwT223 => rfl
                        case hyT223 => (intro w hSw; (try dsimp only at hSw); go_simp; first | done | with_reducible rfl)
                        try simp only [Act.put]
                        try simp only [List.setIfInBounds_toArray, List.set_cons_zero, List.set_cons_succ]
                        refine takeW 11 (some 296) (oi := ?oT224) (v := ?vT224) ?hiT224 ?hdT224 (by kernel_rfl) (by kernel_rfl) (by kernel_rfl) (fun _ _ _ h => h) ?hwT224 ?hyT224 hHeld ?_
                        case hiT224 => (simp only [List.getElem?_toArray, List.getElem?_cons_succ, List.getElem?_cons_zero]; with_reducible rfl)
                        case hdT224 => rfl
                        case hwT224 => rfl
                        case hyT224 => (intro w hSw; (try dsimp only at hSw); go_simp; first | done | with_reducible rfl)
                        try simp only [Act.put]
                        try simp only [List.setIfInBounds_toArray, List.set_cons_zero, List.set_cons_succ]
                        refine takeW 12 (some 297) (oi := ?oT225) (v := ?vT225) ?hiT225 ?hdT225 (by kernel_rfl) (by kernel_rfl) (by kernel_rfl) (fun _ _ _ h => h) ?hwT225 ?hyT225 hHeld ?_
                        case hiT225 => (simp only [List.getElem?_toArray, List.getElem?_cons_succ, List.getElem?_cons_zero]; with_reducible rfl)
                        case hdT225 => rfl
                        case hwT225 => rfl
                        case hyT225 => (intro w hSw; (try dsimp only at hSw); go_simp; first | done | with_reducible rfl)
                        try simp only [Act.put]
                        try simp only [List.setIfInBounds_toArray, List.set_cons_zero, List.set_cons_succ]
                        refine takeW 13 (some 298) (oi := ?oT226) (v := ?vT226) ?hiT226 ?hdT226 (by kernel_rfl) (by kernel_rfl) (by kernel_rfl) (fun _ _ _ h => h) ?hwT226 ?hyT226 hHeld ?_
                        case hiT226 => (simp only [List.getElem?_toArray, List.getElem?_cons_succ, List.getElem?_cons_zero]; with_reducible rfl)
                        case hdT226 => rfl
                        case hwT226 => rfl
                        case hyT226 => (intro w hSw; (try dsimp only at hSw); go_simp; first | done | with_reducible rfl)
                        try simp only [Act.put]
                        try simp only [List.setIfInBounds_toArray, List.set_cons_zero, List.set_cons_succ]
                        refine takeU 14 (some 299) (oi := ?oT227) ?hiT227 ?hdT227 (by kernel_rfl) (by kernel_rfl) (by kernel_rfl) (fun _ _ _ h => h) ?hwT227 hHeld ?_
                        case hiT227 => (simp only [List.getElem?_toArray, List.getElem?_cons_succ, List.getElem?_cons_zero]; with_reducible rfl)
                        case hdT227 => rfl
                        case hwT227 => rfl
                        try simp only [Act.put]
                        try simp only [List.setIfInBounds_toArray, List.set_cons_zero, List.set_cons_succ]
                        refine takeU 15 (some 300) (oi := ?oT228) ?hiT228 ?hdT228 (by kernel_rfl) (by kernel_rfl) (by kernel_rfl) (fun _ _ _ h => h) ?hwT228 hHeld ?_
                        case hiT228 => (simp only [List.getElem?_toArray, List.getElem?_cons_succ, List.getElem?_cons_zero]; with_reducible rfl)
                        case hdT228 => rfl
                        case hwT228 => rfl
                        try simp only [Act.put]
                        try simp only [List.setIfInBounds_toArray, List.set_cons_zero, List.set_cons_succ]
                        refine takeU 16 (some 301) (oi := ?oT229) ?hiT229 ?hdT229 (by kernel_rfl) (by kernel_rfl) (by kernel_rfl) (fun _ _ _ h => h) ?hwT229 hHeld ?_
                        case hiT229 => (simp only [List.getElem?_toArray, List.getElem?_cons_succ, List.getElem?_cons_zero]; with_reducible rfl)
                        case hdT229 => rfl
                        case hwT229 => rfl
                        try simp only [Act.put]
                        try simp only [List.setIfInBounds_toArray, List.set_cons_zero, List.set_cons_succ]
                        refine takeU 17 (some 302) (oi := ?oT230) ?hiT230 ?hdT230 (by kernel_rfl) (by kernel_rfl) (by kernel_rfl) (fun _ _ _ h => h) ?hwT230 hHeld ?_
                        case hiT230 => (simp only [List.getElem?_toArray, List.getElem?_cons_succ, List.getElem?_cons_zero]; with_reducible rfl)
                        case hdT230 => rfl
                        case hwT230 => rfl
                        try simp only [Act.put]
                        try simp only [List.setIfInBounds_toArray, List.set_cons_zero, List.set_cons_succ]
                        refine takeU 18 (some 303) (oi := ?oT231) ?hiT231 ?hdT231 (by kernel_rfl) (by kernel_rfl) (by kernel_rfl) (fun _ _ _ h => h) ?hwT231 hHeld ?_
                        case hiT231 => (simp only [List.getElem?_toArray, List.getElem?_cons_succ, List.getElem?_cons_zero]; with_reducible rfl)
                        case hdT231 => rfl
                        case hwT231 => rfl
                        try simp only [Act.put]
                        try simp only [List.setIfInBounds_toArray, List.set_cons_zero, List.set_cons_succ]
                        refine takeU 19 (some 304) (oi := ?oT232) ?hiT232 ?hdT232 (by kernel_rfl) (by kernel_rfl) (by kernel_rfl) (fun _ _ _ h => h) ?hwT232 hHeld ?_
                        case hiT232 => (simp only [List.getElem?_toArray, List.getElem?_cons_succ, List.getElem?_cons_zero]; with_reducible rfl)
                        case hdT232 => rfl
                        case hwT232 => rfl
                        try simp only [Act.put]
                        try simp only [List.setIfInBounds_toArray, List.set_cons_zero, List.set_cons_succ]
                        refine takeU 20 (some 305) (oi := ?oT233) ?hiT233 ?hdT233 (by kernel_rfl) (by kernel_rfl) (by kernel_rfl) (fun _ _ _ h => h) ?hwT233 hHeld ?_
                        case hiT233 => (simp only [List.getElem?_toArray, List.getElem?_cons_succ, List.getElem?_cons_zero]; with_reducible rfl)
                        case hdT233 => rfl
                        case hwT233 => rfl
                        try simp only [Act.put]
                        try simp only [List.setIfInBounds_toArray, List.set_cons_zero, List.set_cons_succ]
                        refine takeU 21 (some 306) (oi := ?oT234) ?hiT234 ?hdT234 (by kernel_rfl) (by kernel_rfl) (by kernel_rfl) (fun _ _ _ h => h) ?hwT234 hHeld ?_
                        case hiT234 => (simp only [List.getElem?_toArray, List.getElem?_cons_succ, List.getElem?_cons_zero]; with_reducible rfl)
                        case hdT234 => rfl
                        case hwT234 => rfl
                        try simp only [Act.put]
                        try simp only [List.setIfInBounds_toArray, List.set_cons_zero, List.set_cons_succ]
                        refine takeU 22 (some 307) (oi := ?oT235) ?hiT235 ?hdT235 (by kernel_rfl) (by kernel_rfl) (by kernel_rfl) (fun _ _ _ h => h) ?hwT235 hHeld ?_
                        case hiT235 => (simp only [List.getElem?_toArray, List.getElem?_cons_succ, List.getElem?_cons_zero]; with_reducible rfl)
                        case hdT235 => rfl
                        case hwT235 => rfl
                        try simp only [Act.put]
                        try simp only [List.setIfInBounds_toArray, List.set_cons_zero, List.set_cons_succ]
                        refine takeU 23 (some 308) (oi := ?oT236) ?hiT236 ?hdT236 (by kernel_rfl) (by kernel_rfl) (by kernel_rfl) (fun _ _ _ h => h) ?hwT236 hHeld ?_
                        case hiT236 => (simp only [List.getElem?_toArray, List.getElem?_cons_succ, List.getElem?_cons_zero]; with_reducible rfl)
                        case hdT236 => rfl
                        case hwT236 => rfl
                        try simp only [Act.put]
                        try simp only [List.setIfInBounds_toArray, List.set_cons_zero, List.set_cons_succ]
                        refine takeU 24 (some 309) (oi := ?oT237) ?hiT237 ?hdT237 (by kernel_rfl) (by kernel_rfl) (by kernel_rfl) (fun _ _ _ h => h) ?hwT237 hHeld ?_
                        case hiT237 => (simp only [List.getElem?_toArray, List.getElem?_cons_succ, List.getElem?_cons_zero]; with_reducible rfl)
                        case hdT237 => rfl
                        case hwT237 => rfl
                        try simp only [Act.put]
                        try simp only [List.setIfInBounds_toArray, List.set_cons_zero, List.set_cons_succ]
                        refine takeU 25 (some 310) (oi := ?oT238) ?hiT238 ?hdT238 (by kernel_rfl) (by kernel_rfl) (by kernel_rfl) (fun _ _ _ h => h) ?hwT238 hHeld ?_
                        case hiT238 => (simp only [List.getElem?_toArray, List.getElem?_cons_succ, List.getElem?_cons_zero]; with_reducible rfl)
                        case hdT238 => rfl
                        case hwT238 => rfl
                        try simp only [Act.put]
                        try simp only [List.setIfInBounds_toArray, List.set_cons_zero, List.set_cons_succ]
                        refine takeU 26 (some 311) (oi := ?oT239) ?hiT239 ?hdT239 (by kernel_rfl) (by kernel_rfl) (by kernel_rfl) (fun _ _ _ h => h) ?hwT239 hHeld ?_
                        case hiT239 => (simp only [List.getElem?_toArray, List.getElem?_cons_succ, List.getElem?_cons_zero]; with_reducible rfl)
                        case hdT239 => rfl
                        case hwT239 => rfl
                        try simp only [Act.put]
                        try simp only [List.setIfInBounds_toArray, List.set_cons_zero, List.set_cons_succ]
                        refine takeU 27 (some 312) (oi := ?oT240) ?hiT240 ?hdT240 (by kernel_rfl) (by kernel_rfl) (by kernel_rfl) (fun _ _ _ h => h) ?hwT240 hHeld ?_
                        case hiT240 => (simp only [List.getElem?_toArray, List.getElem?_cons_succ, List.getElem?_cons_zero]; with_reducible rfl)
                        case hdT240 => rfl
                        case hwT240 => rfl
                        try simp only [Act.put]
                        try simp only [List.setIfInBounds_toArray, List.set_cons_zero, List.set_cons_succ]
                        refine takeU 28 (some 313) (oi := ?oT241) ?hiT241 ?hdT241 (by kernel_rfl) (by kernel_rfl) (by kernel_rfl) (fun _ _ _ h => h) ?hwT241 hHeld ?_
                        case hiT241 => (simp only [List.getElem?_toArray, List.getElem?_cons_succ, List.getElem?_cons_zero]; with_reducible rfl)
                        case hdT241 => rfl
                        case hwT241 => rfl
                        try simp only [Act.put]
                        try simp only [List.setIfInBounds_toArray, List.set_cons_zero, List.set_cons_succ]
                        refine takeW 29 (some 314) (oi := ?oT242) (v := ?vT242) ?hiT242 ?hdT242 (by kernel_rfl) (by kernel_rfl) (by kernel_rfl) (fun _ _ _ h => h) ?hwT242 ?hyT242 hHeld ?_
                        case hiT242 => (simp only [List.getElem?_toArray, List.getElem?_cons_succ, List.getElem?_cons_zero]; with_reducible rfl)
                        case hdT242 => rfl
                        case hwT242 => rfl
                        case hyT242 => (intro w hSw; (try dsimp only at hSw); go_simp; first | done | with_reducible rfl)
                        try simp only [Act.put]
                        try simp only [List.setIfInBounds_toArray, List.set_cons_zero, List.set_cons_succ]
                        refine takeW 30 (some 315) (oi := ?oT243) (v := ?vT243) ?hiT243 ?hdT243 (by kernel_rfl) (by kernel_rfl) (by kernel_rfl) (fun _ _ _ h => h) ?hwT243 ?hyT243 hHeld ?_
                        case hiT243 => (simp only [List.getElem?_toArray, List.getElem?_cons_succ, List.getElem?_cons_zero]; with_reducible rfl)
                        case hdT243 => rfl
                        case hwT243 => rfl
                        case hyT243 => (intro w hSw; (try dsimp only at hSw); go_simp; first | done | with_reducible rfl)
                        try simp only [Act.put]
                        try simp only [List.setIfInBounds_toArray, List.set_cons_zero, List.set_cons_succ]
                        refine wpAnyH_done (by kernel_rfl) ?_ _
                        refine NoPanic.normal ?_
                        skip
                        have d9 := (HTR.out _ HBT.out).2.2.2.2.2.2.2.2
                        have f9 := HFR.out _ HBT.out (j * 10 + 9)
                        go_upto_region 49 with fail
                        clear d9 f9
                        obtain ⟨w8, hw8⟩ : ∃ W, w7.setCell ⟨q, j * 10 + 9, none⟩ (.bool false) = W := ⟨_, rfl⟩
                        have d1 : w8.cell? ⟨q, j * 10 + 1, none⟩ = some (.pointer (some ⟨gb2 j, 0, none⟩)) := by rw [← hw8]; exact off_cell (HTR.out _ HBT.out).1 (by omega) _
                        have f1 : w8.frozen? ⟨q, j * 10 + 1, none⟩ = false := by rw [← hw8]; exact (World.frozen?_setCell _ _ _ _).trans (HFR.out _ HBT.out _)
                        rw [hw8] at H6 ⊢
                        clear hw8
                        go_wp2_with fail
                        go_roundg (301 - (i + 1))
                        case rel => exact ⟨i + 1, now, e, s', _, K6', R6, gb6, by have := HJ.out; omega, by omega, rfl, rfl, rfl, HI6, Lib.hid (H6.out.under (Below.refl _ _).drew)⟩
                        case measure => have := HJ.out; omega
    · have CLI : Hid (Calls Tryz.prog 15 #[.pointer (some ⟨p, 0, none⟩), .string (str [116, 109, 112])] wz fun e w' => (∃ A m c, e = .returned (.slice A m c) ∧ m ≤ 3) ∧ Below wz.heap.size wz w') := Lib.hid ((fs_list [116, 109, 112] w wz p s HW.out.fk.fs (by decide) (by have := HI.out.next; omega)).mono fun e w' ⟨v, he, ho, hb⟩ => by
        have hl := HI.out.few (fk_good HW.out.fk)
        refine ⟨?_, hb⟩
        rcases ho.2 with ⟨rfl, h0⟩ | ⟨g, cap, cur, rfl, _⟩
        · exact ⟨_, _, _, he, by omega⟩
        · exact ⟨_, _, _, he, hl⟩)
      have HB := Lib.hid HW.out.fk.fs.below
      clear HI HW
      by_cases h1 : i < N
      · as_aux_lemma =>
          have h1I : (i : Int) < (N : Int) := by omega
          have h2I : decide ((i : Int) < 300) = false := decide_eq_false (by omega)
          have h2n : decide (i < 300) = false := decide_eq_false (by omega)
          clear h12 h1
          go_wp2_with fail
          refine CLI.out.mono ?_
          rintro e2 w3 ⟨⟨A0, m0, c0, rfl, hm0⟩, hb3⟩
          have HB3 := Lib.hid (HB.out.trans (hb3.mono HB.out.size))
          have hm1 : (m0 : Int) ≤ 3 := by omega
          clear hb3
          go_wp2_with fail
          refine (lawake_any w3 (HT.out.under HB3.out)).mono ?_
          rintro e2 w4 ⟨rfl, hb4⟩
          have HB4 := Lib.hid (HB3.out.trans (hb4.mono HB3.out.size))
          clear hb4
          go_wp2
          go_ret
          exact ⟨rfl, HB4.out⟩
      · as_aux_lemma =>
          have h1I : decide ((i : Int) < (N : Int)) = false := decide_eq_false (by omega)
          have h1n : decide (i < N) = false := decide_eq_false (by omega)
          clear h12 h1
          go_wp2_with fail
          refine CLI.out.mono ?_
          rintro e2 w3 ⟨⟨A0, m0, c0, rfl, hm0⟩, hb3⟩
          have HB3 := Lib.hid (HB.out.trans (hb3.mono HB.out.size))
          have hm1 : (m0 : Int) ≤ 3 := by omega
          clear hb3
          go_wp2_with fail
          refine (lawake_any w3 (HT.out.under HB3.out)).mono ?_
          rintro e2 w4 ⟨rfl, hb4⟩
          have HB4 := Lib.hid (HB3.out.trans (hb4.mono HB3.out.size))
          clear hb4
          go_wp2
          go_ret
          exact ⟨rfl, HB4.out⟩
end Go.Proofs.YtfheaognfocofaaGreatDoor
