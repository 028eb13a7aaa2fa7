/- LockLooks: what a lock's bytes are for somebody at a time is as the document says; the statement's walk. -/
import Derived.Test.YtlopabmndliggaaDoorZ13
import Derived.Test.YtlopabmndliggaaDoorZLockAwake
namespace Go.Proofs.YtlopabmndliggaaDoor
set_option maxRecDepth 100000
open Go.ChangeShapes Go.WideShapes Go.ChangeAt Go.RowKit Go.ChangeMaps
open Sf Lk

theorem what_of {o : Option Rc.L4} {M : Lo} {b : Bool} (hb : o.isSome = b) (hM : loOf o = M) (x y z : Int) : what o x y z = if b = false ∨ M.c = 1099511627776 then 1 else if M.a = x ∧ M.b = y ∧ z < M.d then 2 else if M.d ≤ z ∨ (M.a = x ∧ M.b < y) then 3 else 4 := by
  subst hb hM
  unfold what
  rcases o with _ | o <;> simp
set_option maxRecDepth 100000 in
set_option maxHeartbeats 8000000 in
theorem looks_any (r1 r2 r3 r4 : Int) (v : Value) (l : List Nat) (n who inc now : Int) (w : World) (hT : Pow w) (hb : Bytes w v l) : Calls Tryd.prog 5 #[lockV r1 r2 r3 r4, v, .int .i64 n, .int .i64 who, .int .i64 inc, .int .i64 now] w fun e w' => e = .returned (.bool true) ∧ Below w.heap.size w w' := by
  have HT := Lib.hid hT
  have HB := Lib.hid hb
  obtain ⟨_, _, A, c, rfl, _, _⟩ := hb.parts
  obtain ⟨N, hN⟩ : ∃ N, l.length = N := ⟨_, rfl⟩
  have HN := Lib.hid hN
  rw [hN] at HB ⊢
  clear hT hb hN
  go_enter Tryd.func5, Tryd.ntmps5
  by_cases hlt : N ≤ 100
  · have hI : decide ((100 : Int) < (N : Int)) = false := decide_eq_false (by omega)
    have hIn : decide (100 < N) = false := decide_eq_false (by omega)
    go_wp2_with fail
    obtain ⟨n1, hn1⟩ : ∃ z, bits .and .i64 n 3 = z := ⟨_, rfl⟩
    obtain ⟨n2, hn2⟩ : ∃ z, bits .and .i64 (n / 4) 3 = z := ⟨_, rfl⟩
    obtain ⟨n3, hn3⟩ : ∃ z, bits .and .i64 (n / 16) 255 = z := ⟨_, rfl⟩
    obtain ⟨n4, hn4⟩ : ∃ z, bits .and .i64 (n / 4096) 255 = z := ⟨_, rfl⟩
    rw [hn1, hn2, hn3, hn4]
    clear hn1 hn2 hn3 hn4
    obtain ⟨w2, hw2⟩ : ∃ W, (w.alloc (.cells #[.int .i64 r1, .int .i64 r2, .int .i64 r3, .int .i64 r4] 27)).alloc (.cells #[.int .i64 n1, .int .i64 n2, .int .i64 n3, .int .i64 n4] 27) = W := ⟨_, rfl⟩
    obtain ⟨q6, hq6⟩ : ∃ q, w.heap.size = q := ⟨_, rfl⟩
    obtain ⟨q13, hq13⟩ : ∃ q, w.heap.size + 1 = q := ⟨_, rfl⟩
    have HX6 : Hid (Blk w2 q6 27 #[.int .i64 r1, .int .i64 r2, .int .i64 r3, .int .i64 r4]) := Lib.hid (by rw [← hw2, ← hq6]; exact Blk.alloc (heap_alloc_new w _) _)
    have HX13 : Hid (Blk w2 q13 27 #[.int .i64 n1, .int .i64 n2, .int .i64 n3, .int .i64 n4]) := Lib.hid (by rw [← hw2, ← hq13]; exact heap_alloc_new' _ _ (by simp))
    have HB2 : Hid (Below w.heap.size w w2) := Lib.hid (by rw [← hw2]; exact ((Below.refl _ _).alloc (Nat.le_refl _) _).alloc (by simp) _)
    rw [hw2, hq13, hq6]
    clear hw2 hq13 hq6
    have HSB : Hid (∀ W, Below w2.heap.size w2 W → W.cell? ⟨q6, 0, none⟩ = some (.int .i64 r1) ∧ W.cell? ⟨q6, 1, none⟩ = some (.int .i64 r2) ∧ W.cell? ⟨q6, 2, none⟩ = some (.int .i64 r3) ∧ W.cell? ⟨q6, 3, none⟩ = some (.int .i64 r4) ∧ W.cell? ⟨q13, 0, none⟩ = some (.int .i64 n1) ∧ W.cell? ⟨q13, 1, none⟩ = some (.int .i64 n2) ∧ W.cell? ⟨q13, 2, none⟩ = some (.int .i64 n3) ∧ W.cell? ⟨q13, 3, none⟩ = some (.int .i64 n4)) := Lib.hid fun W hb => ⟨(HX6.out.under hb).at 0, (HX6.out.under hb).at 1, (HX6.out.under hb).at 2, (HX6.out.under hb).at 3, (HX13.out.under hb).at 0, (HX13.out.under hb).at 1, (HX13.out.under hb).at 2, (HX13.out.under hb).at 3⟩
    obtain ⟨b1, hb1⟩ : ∃ b, Lo.bytes ⟨r1, r2, r3, r4⟩ = b := ⟨_, rfl⟩
    obtain ⟨b2, hb2⟩ : ∃ b, Lo.bytes ⟨n1, n2, n3, n4⟩ = b := ⟨_, rfl⟩
    have HL1 : Hid (b1.length = 34) := Lib.hid (by rw [← hb1]; exact Lo.bytes_len _)
    have HL2 : Hid (b2.length = 34) := Lib.hid (by rw [← hb2]; exact Lo.bytes_len _)
    have C1 : Hid (∀ W, Calls Tryd.prog 10 #[lockV r1 r2 r3 r4] W (Made W.heap.size b1 W)) := Lib.hid fun W => reflock_is r1 r2 r3 r4 _ W hb1
    have C2 : Hid (∀ W, Calls Tryd.prog 10 #[lockV n1 n2 n3 n4] W (Made W.heap.size b2 W)) := Lib.hid fun W => reflock_is n1 n2 n3 n4 _ W hb2
    clear hb1 hb2
    refine wp_region_noPanic ?_
    refine wp_region_held_drew (S := fun W => W.cell? ⟨q6, 0, none⟩ = some (.int .i64 r1) ∧ W.cell? ⟨q6, 1, none⟩ = some (.int .i64 r2) ∧ W.cell? ⟨q6, 2, none⟩ = some (.int .i64 r3) ∧ W.cell? ⟨q6, 3, none⟩ = some (.int .i64 r4) ∧ W.cell? ⟨q13, 0, none⟩ = some (.int .i64 n1) ∧ W.cell? ⟨q13, 1, none⟩ = some (.int .i64 n2) ∧ W.cell? ⟨q13, 2, none⟩ = some (.int .i64 n3) ∧ W.cell? ⟨q13, 3, none⟩ = some (.int .i64 n4)) (by kernel_rfl) (HSB.out _ (Below.refl _ _).drew) (fun hHeld => ?_)
    refine takeW 0 (some 38) (oi := ?oT1) (v := ?vT1) ?hiT1 ?hdT1 (by kernel_rfl) (by kernel_rfl) (by kernel_rfl) (fun _ _ _ h => h) ?hwT1 ?hyT1 hHeld ?_
    case hiT1 => (simp only [List.getElem?_toArray, List.getElem?_cons_zero]; with_reducible rfl)
    case hdT1 => rfl
    case hwT1 => rfl
    case hyT1 => (intro w hSw; (try dsimp only at hSw); go_simp; first | done | with_reducible rfl)
    try simp only [Act.put]
    try simp only [List.setIfInBounds_toArray, List.set_cons_zero, List.set_cons_succ]
    refine takeW 1 (some 39) (oi := ?oT2) (v := ?vT2) ?hiT2 ?hdT2 (by kernel_rfl) (by kernel_rfl) (by kernel_rfl) (fun _ _ _ h => h) ?hwT2 ?hyT2 hHeld ?_
    case hiT2 => (simp only [List.getElem?_toArray, List.getElem?_cons_succ, List.getElem?_cons_zero]; with_reducible rfl)
    case hdT2 => rfl
    case hwT2 => rfl
    case hyT2 => (intro w hSw; (try dsimp only at hSw); go_simp; first | done | with_reducible rfl)
    try simp only [Act.put]
    try simp only [List.setIfInBounds_toArray, List.set_cons_zero, List.set_cons_succ]
    refine takeW 3 (some 41) (oi := ?oT3) (v := ?vT3) ?hiT3 ?hdT3 (by kernel_rfl) (by kernel_rfl) (by kernel_rfl) (fun _ _ _ h => h) ?hwT3 ?hyT3 hHeld ?_
    case hiT3 => (simp only [List.getElem?_toArray, List.getElem?_cons_succ, List.getElem?_cons_zero]; with_reducible rfl)
    case hdT3 => rfl
    case hwT3 => rfl
    case hyT3 => (intro w hSw; (try dsimp only at hSw); go_simp; first | done | with_reducible rfl)
    try simp only [Act.put]
    try simp only [List.setIfInBounds_toArray, List.set_cons_zero, List.set_cons_succ]
    refine takeW 7 (some 45) (oi := ?oT4) (v := ?vT4) ?hiT4 ?hdT4 (by kernel_rfl) (by kernel_rfl) (by kernel_rfl) (fun _ _ _ h => h) ?hwT4 ?hyT4 hHeld ?_
    case hiT4 => (simp only [List.getElem?_toArray, List.getElem?_cons_succ, List.getElem?_cons_zero]; with_reducible rfl)
    case hdT4 => rfl
    case hwT4 => rfl
    case hyT4 => (intro w hSw; (try dsimp only at hSw); go_simp; first | done | with_reducible rfl)
    try simp only [Act.put]
    try simp only [List.setIfInBounds_toArray, List.set_cons_zero, List.set_cons_succ]
    refine stepOne 2 (o := ?oT5) ?hiT5 (by kernel_rfl) ?hwT5 (fun K hK => ?_)
    case hiT5 => (simp only [List.getElem?_toArray, List.getElem?_cons_succ, List.getElem?_cons_zero]; with_reducible rfl)
    case hwT5 => rfl
    go_simp
    go_at_call 10
    refine (C1.out _).mono ?_
    rintro e w3 ⟨u1, rfl, ho1, hb1⟩
    have HM1 : Hid (Below w2.heap.size w2 w3) := Lib.hid ((Below.refl w2.heap.size w2).drew.trans hb1)
    have HO1 := Lib.hid ho1.bytes
    obtain ⟨_, _, A1, c1, rfl, _, _⟩ := ho1.bytes.parts
    rw [HL1.out] at HO1 ⊢
    clear ho1 hb1
    refine hK.out _ _ ?_ (fun hHeld => ?_)
    · exact HSB.out _ HM1.out
    clear hK K
    try simp only [Act.put]
    try simp only [List.setIfInBounds_toArray, List.set_cons_zero, List.set_cons_succ]
    refine stepOne 4 (o := ?oT6) ?hiT6 (by kernel_rfl) ?hwT6 (fun K hK => ?_)
    case hiT6 => (simp only [List.getElem?_toArray, List.getElem?_cons_succ, List.getElem?_cons_zero]; with_reducible rfl)
    case hwT6 => rfl
    go_simp
    go_at_call 10
    refine (C2.out _).mono ?_
    rintro e w4 ⟨u2, rfl, ho2, hb2⟩
    have HM2 : Hid (Below w2.heap.size w2 w4) := Lib.hid (HM1.out.trans (hb2.mono HM1.out.size))
    have HO2 := Lib.hid ho2.bytes
    obtain ⟨_, _, A2, c2, rfl, _, _⟩ := ho2.bytes.parts
    rw [HL2.out] at HO2 ⊢
    clear ho2
    have hb3 : Below w3.heap.size w3 w4 := hb2
    clear hb2
    refine hK.out _ _ ?_ (fun hHeld => ?_)
    · exact HSB.out _ HM2.out
    clear hK K
    try simp only [Act.put]
    try simp only [List.setIfInBounds_toArray, List.set_cons_zero, List.set_cons_succ]
    refine stepOne 5 (o := ?oT7) ?hiT7 (by kernel_rfl) ?hwT7 (fun K hK => ?_)
    case hiT7 => (simp only [List.getElem?_toArray, List.getElem?_cons_succ, List.getElem?_cons_zero]; with_reducible rfl)
    case hwT7 => rfl
    go_simp
    refine hK.out _ _ ?_ (fun hHeld => ?_)
    · exact HSB.out _ (HM2.out.alloc HM2.out.size _)
    clear hK K
    try simp only [Act.put]
    try simp only [List.setIfInBounds_toArray, List.set_cons_zero, List.set_cons_succ]
    refine takeW 6 (some 44) (oi := ?oT8) (v := ?vT8) ?hiT8 ?hdT8 (by kernel_rfl) (by kernel_rfl) (by kernel_rfl) (fun _ _ _ h => h) ?hwT8 ?hyT8 hHeld ?_
    case hiT8 => (simp only [List.getElem?_toArray, List.getElem?_cons_succ, List.getElem?_cons_zero]; with_reducible rfl)
    case hdT8 => rfl
    case hwT8 => rfl
    case hyT8 => (intro w hSw; (try dsimp only at hSw); go_simp; first | done | with_reducible rfl)
    try simp only [Act.put]
    try simp only [List.setIfInBounds_toArray, List.set_cons_zero, List.set_cons_succ]
    refine wpAnyH_done (by kernel_rfl) ?_ _
    refine NoPanic.normal ?_
    skip
    obtain ⟨w6, hw6⟩ : ∃ W, w4.alloc (.cells #[.slice A N c, .slice A1 34 c1, .slice A2 34 c2] 33) = W := ⟨_, rfl⟩
    obtain ⟨G, hG⟩ : ∃ q, w4.heap.size = q := ⟨_, rfl⟩
    have HRW : Hid (Blk w6 G 33 #[.slice A N c, .slice A1 34 c1, .slice A2 34 c2]) := Lib.hid (by rw [← hw6, ← hG]; exact heap_alloc_new w4 _)
    have HB6 : Hid (Below w.heap.size w w6) := Lib.hid (by rw [← hw6]; exact (HB2.out.trans (HM2.out.mono HB2.out.size)).alloc (HB2.out.trans (HM2.out.mono HB2.out.size)).size _)
    have HROW : Hid (∀ k, k < 3 → ∃ (A' : Option Addr) (n' c' : Nat) (L : List Nat), (#[Value.slice A N c, .slice A1 34 c1, .slice A2 34 c2] : Array Value)[k]? = some (.slice A' n' c') ∧ Bytes w6 (.slice A' n' c') L ∧ L.length ≤ 100) := Lib.hid fun k hk => by
      have h3 : Below w3.heap.size w3 w4 := hb3
      have e4 : ∀ {v : Value} {L : List Nat}, Bytes w4 v L → Bytes w6 v L := fun h => by rw [← hw6]; exact h.alloc _
      obtain rfl | rfl | rfl : k = 0 ∨ k = 1 ∨ k = 2 := by omega
      · exact ⟨_, _, _, l, rfl, HB.out.under HB6.out, by rw [HN.out]; exact hlt⟩
      · exact ⟨_, _, _, b1, rfl, e4 (HO1.out.under h3), by rw [HL1.out]; omega⟩
      · exact ⟨_, _, _, b2, rfl, e4 HO2.out, by rw [HL2.out]; omega⟩
    rw [hw6, hG]
    clear hw6 hG hHeld hI hIn hlt HB HN HX6 HX13 HSB HL1 HL2 C1 C2 HM1 HM2 HO1 HO2 HB2 hb3
    go_wp2_with fail
    go_loopg [3, 4, 5, 45] 3 (fun gg s3 s4 s5 s45 wr => ∃ (k : Nat) (x y z : Int), k ≤ 3 ∧ 3 - k ≤ gg ∧ s3 = .int .i64 x ∧ s4 = .int .i64 y ∧ s5 = .int .i64 z ∧ s45 = .int .i64 (k : Int) ∧ Hid (Below w6.heap.size w6 wr))
    case atStart => exact ⟨0, who, inc, now, by omega, by omega, rfl, rfl, rfl, rfl, Lib.hid (Below.refl _ _)⟩
    case round =>
      obtain ⟨k, x, y, z, hk, hgg, rfl, rfl, rfl, rfl, HBL⟩ := hrel
      obtain ⟨wz, rfl⟩ : ∃ wx : World, wx = wr := ⟨_, rfl⟩
      by_cases hlt : k < 3
      · have hlI : (k : Int) < 3 := by omega
        obtain ⟨A', n', c', L, hce, hby, hll⟩ := HROW.out k hlt
        have kx : wz.cell? ⟨G, k, none⟩ = some (.slice A' n' c') := by rw [(HRW.out.under HBL.out).at k]; exact hce
        have HBY := Lib.hid hby
        have HLL := Lib.hid hll
        clear hce hby hll
        go_wp2_with fail
        clear kx
        go_loopg [3, 4, 5, 16] 2 (fun gg s3 s4 s5 s16 wr => ∃ (q : Nat) (x y z : Int), q ≤ 2 ∧ 2 - q ≤ gg ∧ s3 = .int .i64 x ∧ s4 = .int .i64 y ∧ s5 = .int .i64 z ∧ s16 = .int .i64 (q : Int) ∧ Hid (Below w6.heap.size w6 wr))
        case atStart => exact ⟨0, x, y, z, by omega, by omega, rfl, rfl, rfl, rfl, HBL⟩
        case round =>
          clear HBL
          obtain ⟨q, x, y, z, hq, hgq, rfl, rfl, rfl, rfl, HBL⟩ := hrel
          obtain ⟨wy, rfl⟩ : ∃ wx : World, wx = wr := ⟨_, rfl⟩
          by_cases hlq : q < 2
          · have hlqI : (q : Int) < 2 := by omega
            have C1 : Hid (Calls Tryd.prog 11 #[.slice A' n' c'] wy fun e w' => e = .returned (.tuple #[loV (loOf (Rc.openL L)), .bool (Rc.openL L).isSome]) ∧ Below wy.heap.size wy w') := Lib.hid ((refopenL_any _ L wy (HBY.out.under HBL.out) (by have := HLL.out; omega) _ rfl).mono fun e w' h => ⟨by rw [h.1]; rcases Rc.openL L with _ | ⟨a, b, c, d⟩ <;> rfl, h.2⟩)
            have CLK : Hid (∀ W, Below w6.heap.size w6 W → Calls Tryd.prog 12 #[.slice A' n' c', .int .i64 x, .int .i64 y, .int .i64 z] W fun e w' => e = .returned (.tuple #[loV (loOf (Rc.openL L)), .int .i64 ((what (Rc.openL L) x y z : Nat) : Int)]) ∧ Below W.heap.size W w') := Lib.hid fun W hb => look_any _ L W (HBY.out.under hb) (by have := HLL.out; omega) x y z
            obtain ⟨o, ho⟩ : ∃ o, Rc.openL L = o := ⟨_, rfl⟩
            rw [ho] at C1 CLK
            clear ho
            obtain ⟨WH, hWH⟩ : ∃ q, what o x y z = q := ⟨_, rfl⟩
            have HWH := Lib.hid hWH
            rw [hWH] at CLK
            obtain ⟨M, hM⟩ : ∃ M, loOf o = M := ⟨_, rfl⟩
            have HMO := Lib.hid hM
            rw [hM] at C1 CLK
            obtain ⟨b, hbo⟩ : ∃ b, o.isSome = b := ⟨_, rfl⟩
            have HBO := Lib.hid hbo
            rw [hbo] at C1
            clear hWH hM hbo
            obtain ⟨ma, mb, mc, md⟩ := M
            go_wp2_with fail
            refine C1.out.mono ?_
            rintro e w7 ⟨rfl, hb7⟩
            have HB7 := Lib.hid (HBL.out.trans (hb7.mono HBL.out.size))
            clear hb7 C1
            go_upto_block 4 with fail
            obtain ⟨w8, hw8⟩ : ∃ W, w7.alloc (.cells #[.int .i64 ma, .int .i64 mb, .int .i64 mc, .int .i64 md] 27) = W := ⟨_, rfl⟩
            obtain ⟨q17, hq17⟩ : ∃ q, w7.heap.size = q := ⟨_, rfl⟩
            have HX17 : Hid (Blk w8 q17 27 #[.int .i64 ma, .int .i64 mb, .int .i64 mc, .int .i64 md]) := Lib.hid (by rw [← hw8, ← hq17]; exact heap_alloc_new w7 _)
            have HB8 : Hid (Below w6.heap.size w6 w8) := Lib.hid (by rw [← hw8]; exact HB7.out.alloc HB7.out.size _)
            rw [hw8, hq17]
            clear hw8 hq17 HB7
            go_cut [19] (fun s19 wx => s19 = .int .i64 (WH : Int) ∧ wx = w8)
            case first =>
              have k0 := HX17.out.at 0
              have k1 := HX17.out.at 1
              have k2 := HX17.out.at 2
              have k3 := HX17.out.at 3
              rcases b with _ | _
              · skip
                have HV : Hid (WH = 1) := Lib.hid (by rw [← HWH.out, what_of HBO.out HMO.out]; exact if_pos (.inl rfl))
                go_wp2
                go_meet
                exact ⟨by rw [HV.out]; rfl, rfl⟩
              · by_cases h0 : mc = 1099511627776
                · have b0 := lk_eq h0
                  have HV : Hid (WH = 1) := Lib.hid (by rw [← HWH.out, what_of HBO.out HMO.out]; exact if_pos (.inr h0))
                  clear h0
                  go_wp2
                  go_meet
                  exact ⟨by rw [HV.out]; rfl, rfl⟩
                · have b0 := lk_ne h0
                  have hn0 : ¬ (true = false ∨ mc = 1099511627776) := fun h => h.elim (fun h => by cases h) h0
                  by_cases h1 : ma = x
                  · have b1 := lk_eq h1
                    by_cases h2 : mb = y
                    · have b2 := lk_eq h2
                      by_cases h3 : z < md
                      · skip
                        have b3 : decide (z < md) = true := decide_eq_true h3
                        have HV : Hid (WH = 2) := Lib.hid (by rw [← HWH.out, what_of HBO.out HMO.out]; rw [if_neg hn0]; exact if_pos ⟨h1, h2, h3⟩)
                        clear h0 hn0 h1 h2
                        go_wp2
                        go_meet
                        exact ⟨by rw [HV.out]; rfl, rfl⟩
                      · skip
                        have b3 : decide (z < md) = false := decide_eq_false h3
                        have b4 : md ≤ z := by omega
                        have HV : Hid (WH = 3) := Lib.hid (by rw [← HWH.out, what_of HBO.out HMO.out]; rw [if_neg hn0]; rw [if_neg (fun h => h3 h.2.2)]; exact if_pos (.inl b4))
                        clear h0 hn0 h1 h2 h3
                        go_wp2
                        go_meet
                        exact ⟨by rw [HV.out]; rfl, rfl⟩
                    · have b2 := lk_ne h2
                      by_cases h3 : md ≤ z
                      · skip
                        have HV : Hid (WH = 3) := Lib.hid (by rw [← HWH.out, what_of HBO.out HMO.out]; rw [if_neg hn0]; rw [if_neg (fun h => h2 h.2.1)]; exact if_pos (.inl h3))
                        clear h0 hn0 h1 h2
                        go_wp2
                        go_meet
                        exact ⟨by rw [HV.out]; rfl, rfl⟩
                      · have b3 : decide (md ≤ z) = false := decide_eq_false h3
                        by_cases h4 : mb < y
                        · skip
                          have b4 : decide (mb < y) = true := decide_eq_true h4
                          have HV : Hid (WH = 3) := Lib.hid (by rw [← HWH.out, what_of HBO.out HMO.out]; rw [if_neg hn0]; rw [if_neg (fun h => h2 h.2.1)]; exact if_pos (.inr ⟨h1, h4⟩))
                          clear h0 hn0 h1 h2 h3
                          go_wp2
                          go_meet
                          exact ⟨by rw [HV.out]; rfl, rfl⟩
                        · skip
                          have b4 : decide (mb < y) = false := decide_eq_false h4
                          have HV : Hid (WH = 4) := Lib.hid (by rw [← HWH.out, what_of HBO.out HMO.out]; rw [if_neg hn0]; rw [if_neg (fun h => h2 h.2.1)]; exact if_neg (fun h => h.elim h3 (fun h => h4 h.2)))
                          clear h0 hn0 h1 h2 h3 h4
                          go_wp2
                          go_meet
                          exact ⟨by rw [HV.out]; rfl, rfl⟩
                  · have b1 := lk_ne h1
                    by_cases h3 : md ≤ z
                    · skip
                      have HV : Hid (WH = 3) := Lib.hid (by rw [← HWH.out, what_of HBO.out HMO.out]; rw [if_neg hn0]; rw [if_neg (fun h => h1 h.1)]; exact if_pos (.inl h3))
                      clear h0 hn0 h1
                      go_wp2
                      go_meet
                      exact ⟨by rw [HV.out]; rfl, rfl⟩
                    · have b3 : decide (md ≤ z) = false := decide_eq_false h3
                      have HV : Hid (WH = 4) := Lib.hid (by rw [← HWH.out, what_of HBO.out HMO.out]; rw [if_neg hn0]; rw [if_neg (fun h => h1 h.1)]; exact if_neg (fun h => h.elim h3 (fun h => h1 h.1)))
                      clear h0 hn0 h1 h3
                      go_wp2
                      go_meet
                      exact ⟨by rw [HV.out]; rfl, rfl⟩
            case rest =>
              obtain ⟨rfl, rfl⟩ := hcut
              go_wp2_with fail
              refine (CLK.out _ HB8.out).mono ?_
              rintro e w9 ⟨rfl, hb9⟩
              have HB9 := Lib.hid (HB8.out.trans (hb9.mono HB8.out.size))
              have k17 := HX17.out.under hb9
              have i0 := fun o => (k17.alloc o).at 0
              have i1 := fun o => (k17.alloc o).at 1
              have i2 := fun o => (k17.alloc o).at 2
              have i3 := fun o => (k17.alloc o).at 3
              have hww : ((WH : Int) != (WH : Int)) = false := by simp
              clear hb9 k17
              obtain ⟨x2, hx2⟩ : ∃ z, bits .and .i64 x 3 = z := ⟨_, rfl⟩
              obtain ⟨y2, hy2⟩ : ∃ z, bits .and .i64 y 3 = z := ⟨_, rfl⟩
              obtain ⟨z2, hz2⟩ : ∃ u, bits .and .i64 z 255 = u := ⟨_, rfl⟩
              go_wp2_with fail
              go_roundg (2 - (q + 1))
              case rel => exact ⟨q + 1, x2, y2, z2, by omega, by omega, rfl, rfl, rfl, by go_num, Lib.hid (HB9.out.alloc HB9.out.size _)⟩
              case measure => omega
          · obtain rfl : q = 2 := by omega
            go_wp2_with fail
            go_roundg (3 - (k + 1))
            case rel => exact ⟨k + 1, x, y, z, by omega, by omega, rfl, rfl, rfl, by go_num, HBL⟩
            case measure => omega
      · obtain rfl : k = 3 := by omega
        have HBE := Lib.hid (HB6.out.trans (HBL.out.mono HB6.out.size))
        go_wp2_with fail
        refine (lawake_any _ (HT.out.under HBE.out)).mono ?_
        rintro e w9 ⟨rfl, hb9⟩
        have HB9 := Lib.hid (HBE.out.trans (hb9.mono HBE.out.size))
        clear hb9
        go_wp2
        go_ret
        exact ⟨rfl, HB9.out⟩
  · have hI : (100 : Int) < (N : Int) := by omega
    have hIn : 100 < N := by omega
    have HB1 : Hid (∀ o, Below w.heap.size w (w.alloc o)) := Lib.hid fun o => (Below.refl w.heap.size w).alloc (Nat.le_refl _) o
    clear hlt
    go_wp2_with fail
    refine (lawake_any _ (HT.out.under (HB1.out _))).mono ?_
    rintro e w5 ⟨rfl, hb5⟩
    have HB5 := Lib.hid ((HB1.out _).trans (hb5.mono (HB1.out _).size))
    clear hb5
    go_wp2
    go_ret
    exact ⟨rfl, HB5.out⟩
end Go.Proofs.YtlopabmndliggaaDoor
