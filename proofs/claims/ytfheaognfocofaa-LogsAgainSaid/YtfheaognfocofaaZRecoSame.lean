/- Two commits, two rows of commits that are the same are told so. -/
import Derived.Test.YtfheaognfocofaaZRecoRows
import Derived.Test.YtfheaognfocofaaZ01
namespace Go.Proofs.Ytfheaognfocofaa
set_option maxRecDepth 100000
open Go.ChangeShapes Go.WideShapes Go.ChangeAt Go.RowKit

def sameD (t1 t2 p1 p2 : List Nat) (a1 a2 b1 b2 : Int) : Bool := decide (t1 = t2) && decide (a1 = a2) && decide (b1 = b2) && decide (p1 = p2)
set_option maxRecDepth 100000 in
set_option maxHeartbeats 2000000 in
theorem sameD_any (t1 t2 p1 p2 : List Nat) (a1 a2 b1 b2 : Int) (x1 x2 : Value) (w : World) (h1 : Bytes w x1 p1) (h2 : Bytes w x2 p2) (ht1 : ∀ c ∈ t1, c < 256) (ht2 : ∀ c ∈ t2, c < 256) (q : Bool) (hq : sameD t1 t2 p1 p2 a1 a2 b1 b2 = q) :
    Calls Try.prog 33 #[doneV (str t1) a1 b1 x1, doneV (str t2) a2 b2 x2] w fun e w' => e = .returned (.bool q) ∧ Below w.heap.size w w' := by
  have HQ := Lib.hid hq
  have hse := str_same ht1 ht2
  have hsp := str_same h1.parts.1 h2.parts.1
  have rt1 := fun o1 o2 => run_text ((h1.alloc o1).alloc o2)
  have rt2 := fun o1 o2 => run_text ((h2.alloc o1).alloc o2)
  have HB : Hid (∀ o1 o2, Below w.heap.size w ((w.alloc o1).alloc o2)) := Lib.hid fun o1 o2 => ((Below.refl _ _).alloc (Nat.le_refl _) _).alloc (by simp) _
  obtain ⟨_, _, A1, c1, rfl, _, _⟩ := h1.parts
  obtain ⟨_, _, A2, c2, rfl, _, _⟩ := h2.parts
  obtain ⟨m1, hm1⟩ : ∃ n, p1.length = n := ⟨_, rfl⟩
  obtain ⟨m2, hm2⟩ : ∃ n, p2.length = n := ⟨_, rfl⟩
  rw [hm1] at rt1 ⊢
  rw [hm2] at rt2 ⊢
  obtain ⟨s1, hs1⟩ : ∃ s, str t1 = s := ⟨_, rfl⟩
  obtain ⟨s2, hs2⟩ : ∃ s, str t2 = s := ⟨_, rfl⟩
  obtain ⟨r1, hr1⟩ : ∃ s, str p1 = s := ⟨_, rfl⟩
  obtain ⟨r2, hr2⟩ : ∃ s, str p2 = s := ⟨_, rfl⟩
  rw [hs1, hs2] at hse ⊢
  rw [hr1, hr2] at hsp
  rw [hr1] at rt1
  rw [hr2] at rt2
  clear h1 h2 ht1 ht2 hq hm1 hm2 hs1 hs2 hr1 hr2
  go_enter Try.func33, Try.ntmps33
  by_cases e1 : t1 = t2
  · rw [decide_eq_true e1] at hse
    by_cases e2 : a1 = a2
    · have e2I : (a1 == a2) = true := by simp [e2]
      by_cases e3 : b1 = b2
      · have e3I : (b1 == b2) = true := by simp [e3]
        by_cases e4 : p1 = p2
        · rw [decide_eq_true e4] at hsp
          have HV : Hid (q = true) := Lib.hid (by rw [← HQ.out]; simp [sameD, e1, e2, e3, e4])
          clear e1 e2 e3 e4
          go_wp2
          go_ret
          exact ⟨by rw [HV.out]; rfl, HB.out _ _⟩
        · rw [decide_eq_false e4] at hsp
          have HV : Hid (q = false) := Lib.hid (by rw [← HQ.out]; simp [sameD, e4])
          clear e1 e2 e3 e4
          go_wp2
          go_ret
          exact ⟨by rw [HV.out]; rfl, HB.out _ _⟩
      · have e3I : (b1 == b2) = false := by simp [e3]
        have HV : Hid (q = false) := Lib.hid (by rw [← HQ.out]; simp [sameD, e3])
        clear e1 e2 e3
        go_wp2
        go_ret
        exact ⟨by rw [HV.out]; rfl, HB.out _ _⟩
    · have e2I : (a1 == a2) = false := by simp [e2]
      have HV : Hid (q = false) := Lib.hid (by rw [← HQ.out]; simp [sameD, e2])
      clear e1 e2
      go_wp2
      go_ret
      exact ⟨by rw [HV.out]; rfl, HB.out _ _⟩
  · rw [decide_eq_false e1] at hse
    have HV : Hid (q = false) := Lib.hid (by rw [← HQ.out]; simp [sameD, e1])
    clear e1
    go_wp2
    go_ret
    exact ⟨by rw [HV.out]; rfl, HB.out _ _⟩
theorem sameD_nat (d e : Rc.D) : sameD d.1 e.1 d.2.1 e.2.1 (d.2.2.1 : Int) (e.2.2.1 : Int) (d.2.2.2 : Int) (e.2.2.2 : Int) = decide (d = e) := by
  obtain ⟨a, b, c, f⟩ := d
  obtain ⟨a', b', c', f'⟩ := e
  rw [Bool.eq_iff_iff]
  simp only [sameD, Bool.and_eq_true, decide_eq_true_eq, Prod.mk.injEq]
  constructor
  · rintro ⟨⟨⟨h1, h2⟩, h3⟩, h4⟩
    exact ⟨h1, h4, by omega, by omega⟩
  · rintro ⟨h1, h4, h2, h3⟩
    exact ⟨⟨⟨h1, by omega⟩, by omega⟩, h4⟩

set_option maxRecDepth 100000 in
set_option maxHeartbeats 4000000 in
theorem sameDs_any (v1 v2 : Value) (R1 R2 : List Rc.D) (w : World) (h1 : RdDs w v1 R1) (h2 : RdDs w v2 R2) (t1 : ∀ d ∈ R1, ∀ c ∈ d.1, c < 256) (t2 : ∀ d ∈ R2, ∀ c ∈ d.1, c < 256) (hm1 : R1.length ≤ 1000000000) (hm2 : R2.length ≤ 1000000000) (q : Bool) (hq : decide (R1 = R2) = q) :
    Calls Try.prog 15 #[v1, v2] w fun e w' => e = .returned (.bool q) ∧ Below w.heap.size w w' := by
  have HQ := Lib.hid hq
  have H1 := Lib.hid h1
  have H2 := Lib.hid h2
  have T1 := Lib.hid t1
  have T2 := Lib.hid t2
  obtain ⟨A1, c1, rfl, hc1⟩ := h1.parts
  obtain ⟨A2, c2, rfl, hc2⟩ := h2.parts
  obtain ⟨n1, hn1⟩ : ∃ n, R1.length = n := ⟨_, rfl⟩
  obtain ⟨n2, hn2⟩ : ∃ n, R2.length = n := ⟨_, rfl⟩
  rw [hn1] at hc1 hm1 H1 ⊢
  rw [hn2] at hc2 hm2 H2 ⊢
  have HN1 := Lib.hid hn1
  have HN2 := Lib.hid hn2
  clear h1 h2 t1 t2 hq hn1 hn2
  go_enter Try.func15, Try.ntmps15
  by_cases hne : n1 = n2
  · subst hne
    have hnI : ((n1 : Int) != (n1 : Int)) = false := by simp
    go_wp2_with fail
    clear hnI
    go_loopg [5] n1 (fun g i wr => ∃ k : Nat, k ≤ n1 ∧ n1 - k ≤ g ∧ i = .int .i64 (k : Int) ∧ Hid (R1.take k = R2.take k) ∧ Hid (Below w.heap.size w wr))
    case atStart => exact ⟨0, by omega, by omega, rfl, Lib.hid rfl, Lib.hid (Below.refl _ _)⟩
    case round =>
      obtain ⟨k, hk, hg, rfl, hpre, hbl⟩ := hrel
      obtain ⟨wz, rfl⟩ : ∃ wx : World, wx = wr := ⟨_, rfl⟩
      by_cases hlt : k < n1
      · have hkI : (k : Int) < (n1 : Int) := by omega
        have hk1 : k < R1.length := by rw [HN1.out]; exact hlt
        have hk2 : k < R2.length := by rw [HN2.out]; exact hlt
        obtain ⟨b1, o1, x1, rfl, p0, p1, p2, p3, p4⟩ := (H1.out.under hbl.out).at (List.getElem?_eq_getElem hk1)
        obtain ⟨b2, o2, x2, rfl, q0, q1, q2, q3, q4⟩ := (H2.out.under hbl.out).at (List.getElem?_eq_getElem hk2)
        have HNEXT : Hid (R1[k]'hk1 = R2[k]'hk2 → R1.take (k + 1) = R2.take (k + 1)) := Lib.hid (fun e => by rw [List.take_succ_eq_append_getElem hk1, List.take_succ_eq_append_getElem hk2, hpre.out, e])
        have HNOT : Hid (R1[k]'hk1 ≠ R2[k]'hk2 → R1 ≠ R2) := Lib.hid (fun h e => h (by subst e; rfl))
        have HT1 : Hid (∀ c ∈ (R1[k]'hk1).1, c < 256) := Lib.hid (T1.out _ (List.getElem_mem hk1))
        have HT2 : Hid (∀ c ∈ (R2[k]'hk2).1, c < 256) := Lib.hid (T2.out _ (List.getElem_mem hk2))
        obtain ⟨d1, hd1⟩ : ∃ d, R1[k]'hk1 = d := ⟨_, rfl⟩
        obtain ⟨d2, hd2⟩ : ∃ d, R2[k]'hk2 = d := ⟨_, rfl⟩
        rw [hd1] at p0 p1 p2 p4 HNEXT HNOT HT1
        rw [hd2] at q0 q1 q2 q4 HNEXT HNOT HT2
        obtain ⟨s, hs⟩ : ∃ s, decide (d1 = d2) = s := ⟨_, rfl⟩
        have HC : Hid (Calls Try.prog 33 #[doneV (str d1.1) (d1.2.2.1 : Int) (d1.2.2.2 : Int) x1, doneV (str d2.1) (d2.2.2.1 : Int) (d2.2.2.2 : Int) x2] wz.drew fun e w' => e = .returned (.bool s) ∧ Below wz.drew.heap.size wz.drew w') := Lib.hid (sameD_any _ _ _ _ _ _ _ _ _ _ wz.drew p4.drew q4.drew HT1.out HT2.out s (by rw [sameD_nat, hs]))
        have HS := Lib.hid hs
        obtain ⟨s1, hs1⟩ : ∃ s, str d1.1 = s := ⟨_, rfl⟩
        obtain ⟨s2, hs2⟩ : ∃ s, str d2.1 = s := ⟨_, rfl⟩
        obtain ⟨y1, hy1⟩ : ∃ y, d1.2.2.1 = y := ⟨_, rfl⟩
        obtain ⟨y2, hy2⟩ : ∃ y, d2.2.2.1 = y := ⟨_, rfl⟩
        obtain ⟨z1, hz1⟩ : ∃ y, d1.2.2.2 = y := ⟨_, rfl⟩
        obtain ⟨z2, hz2⟩ : ∃ y, d2.2.2.2 = y := ⟨_, rfl⟩
        rw [hs1] at p0 HC
        rw [hy1] at p1 HC
        rw [hz1] at p2 HC
        rw [hs2] at q0 HC
        rw [hy2] at q1 HC
        rw [hz2] at q2 HC
        obtain ⟨_, _, Ax1, cx1, rfl, _, _⟩ := p4.parts
        obtain ⟨_, _, Ax2, cx2, rfl, _, _⟩ := q4.parts
        obtain ⟨j1, hj1⟩ : ∃ n, d1.2.1.length = n := ⟨_, rfl⟩
        obtain ⟨j2, hj2⟩ : ∃ n, d2.2.1.length = n := ⟨_, rfl⟩
        rw [hj1] at p3 HC
        rw [hj2] at q3 HC
        clear p4 q4 hs hs1 hs2 hy1 hy2 hz1 hz2 hj1 hj2 hd1 hd2
        go_upto_region 6 with fail
        refine wp_region_noPanic ?_
        refine wp_region_held_drew (S := fun w' => w'.cell? ⟨b1, o1 + k * 4, none⟩ = some (.string s1) ∧ w'.cell? ⟨b1, o1 + k * 4 + 1, none⟩ = some (.int .i64 (y1 : Int)) ∧ w'.cell? ⟨b1, o1 + k * 4 + 2, none⟩ = some (.int .i64 (z1 : Int)) ∧ w'.cell? ⟨b1, o1 + k * 4 + 3, none⟩ = some (.slice Ax1 j1 cx1) ∧ w'.cell? ⟨b2, o2 + k * 4, none⟩ = some (.string s2) ∧ w'.cell? ⟨b2, o2 + k * 4 + 1, none⟩ = some (.int .i64 (y2 : Int)) ∧ w'.cell? ⟨b2, o2 + k * 4 + 2, none⟩ = some (.int .i64 (z2 : Int)) ∧ w'.cell? ⟨b2, o2 + k * 4 + 3, none⟩ = some (.slice Ax2 j2 cx2)) (by kernel_rfl) (⟨p0, p1, p2, p3, q0, q1, q2, q3⟩) (fun hHeld => ?_)
        refine takeW 0 (some 17) (oi := ?oT1) (v := ?vT1) ?hiT1 ?hdT1 (by kernel_rfl) (by kernel_rfl) (by kernel_rfl) (fun _ _ _ h => h) ?hwT1 ?hyT1 hHeld ?_
        case hiT1 => (simp only [List.getElem?_toArray, List.getElem?_cons_zero]; with_reducible rfl)
        case hdT1 => rfl
        case hwT1 => rfl
        case hyT1 => (intro w hSw; (try dsimp only at hSw); go_simp; first | done | with_reducible rfl)
        try simp only [Act.put]
        try simp only [List.setIfInBounds_toArray, List.set_cons_zero, List.set_cons_succ]
        refine takeW 1 (some 18) (oi := ?oT2) (v := ?vT2) ?hiT2 ?hdT2 (by kernel_rfl) (by kernel_rfl) (by kernel_rfl) (fun _ _ _ h => h) ?hwT2 ?hyT2 hHeld ?_
        case hiT2 => (simp only [List.getElem?_toArray, List.getElem?_cons_succ, List.getElem?_cons_zero]; with_reducible rfl)
        case hdT2 => rfl
        case hwT2 => rfl
        case hyT2 => (intro w hSw; (try dsimp only at hSw); go_simp; first | done | with_reducible rfl)
        try simp only [Act.put]
        try simp only [List.setIfInBounds_toArray, List.set_cons_zero, List.set_cons_succ]
        refine takeW 2 (some 19) (oi := ?oT3) (v := ?vT3) ?hiT3 ?hdT3 (by kernel_rfl) (by kernel_rfl) (by kernel_rfl) (fun _ _ _ h => h) ?hwT3 ?hyT3 hHeld ?_
        case hiT3 => (simp only [List.getElem?_toArray, List.getElem?_cons_succ, List.getElem?_cons_zero]; with_reducible rfl)
        case hdT3 => rfl
        case hwT3 => rfl
        case hyT3 => (intro w hSw; (try dsimp only at hSw); go_simp; first | done | with_reducible rfl)
        try simp only [Act.put]
        try simp only [List.setIfInBounds_toArray, List.set_cons_zero, List.set_cons_succ]
        refine takeW 3 (some 20) (oi := ?oT4) (v := ?vT4) ?hiT4 ?hdT4 (by kernel_rfl) (by kernel_rfl) (by kernel_rfl) (fun _ _ _ h => h) ?hwT4 ?hyT4 hHeld ?_
        case hiT4 => (simp only [List.getElem?_toArray, List.getElem?_cons_succ, List.getElem?_cons_zero]; with_reducible rfl)
        case hdT4 => rfl
        case hwT4 => rfl
        case hyT4 => (intro w hSw; (try dsimp only at hSw); go_simp; first | done | with_reducible rfl)
        try simp only [Act.put]
        try simp only [List.setIfInBounds_toArray, List.set_cons_zero, List.set_cons_succ]
        refine takeW 4 (some 21) (oi := ?oT5) (v := ?vT5) ?hiT5 ?hdT5 (by kernel_rfl) (by kernel_rfl) (by kernel_rfl) (fun _ _ _ h => h) ?hwT5 ?hyT5 hHeld ?_
        case hiT5 => (simp only [List.getElem?_toArray, List.getElem?_cons_succ, List.getElem?_cons_zero]; with_reducible rfl)
        case hdT5 => rfl
        case hwT5 => rfl
        case hyT5 => (intro w hSw; (try dsimp only at hSw); go_simp; first | done | with_reducible rfl)
        try simp only [Act.put]
        try simp only [List.setIfInBounds_toArray, List.set_cons_zero, List.set_cons_succ]
        refine takeW 5 (some 22) (oi := ?oT6) (v := ?vT6) ?hiT6 ?hdT6 (by kernel_rfl) (by kernel_rfl) (by kernel_rfl) (fun _ _ _ h => h) ?hwT6 ?hyT6 hHeld ?_
        case hiT6 => (simp only [List.getElem?_toArray, List.getElem?_cons_succ, List.getElem?_cons_zero]; with_reducible rfl)
        case hdT6 => rfl
        case hwT6 => rfl
        case hyT6 => (intro w hSw; (try dsimp only at hSw); go_simp; first | done | with_reducible rfl)
        try simp only [Act.put]
        try simp only [List.setIfInBounds_toArray, List.set_cons_zero, List.set_cons_succ]
        refine takeW 6 (some 23) (oi := ?oT7) (v := ?vT7) ?hiT7 ?hdT7 (by kernel_rfl) (by kernel_rfl) (by kernel_rfl) (fun _ _ _ h => h) ?hwT7 ?hyT7 hHeld ?_
        case hiT7 => (simp only [List.getElem?_toArray, List.getElem?_cons_succ, List.getElem?_cons_zero]; with_reducible rfl)
        case hdT7 => rfl
        case hwT7 => rfl
        case hyT7 => (intro w hSw; (try dsimp only at hSw); go_simp; first | done | with_reducible rfl)
        try simp only [Act.put]
        try simp only [List.setIfInBounds_toArray, List.set_cons_zero, List.set_cons_succ]
        refine takeW 7 (some 24) (oi := ?oT8) (v := ?vT8) ?hiT8 ?hdT8 (by kernel_rfl) (by kernel_rfl) (by kernel_rfl) (fun _ _ _ h => h) ?hwT8 ?hyT8 hHeld ?_
        case hiT8 => (simp only [List.getElem?_toArray, List.getElem?_cons_succ, List.getElem?_cons_zero]; with_reducible rfl)
        case hdT8 => rfl
        case hwT8 => rfl
        case hyT8 => (intro w hSw; (try dsimp only at hSw); go_simp; first | done | with_reducible rfl)
        try simp only [Act.put]
        try simp only [List.setIfInBounds_toArray, List.set_cons_zero, List.set_cons_succ]
        refine stepOne 8 (o := ?oT9) ?hiT9 (by kernel_rfl) ?hwT9 (fun K hK => ?_)
        case hiT9 => (simp only [List.getElem?_toArray, List.getElem?_cons_succ, List.getElem?_cons_zero]; with_reducible rfl)
        case hwT9 => rfl
        go_simp
        go_at_call 33
        refine HC.out.mono ?_
        rintro e w2 ⟨rfl, hb2⟩
        refine hK.out _ _ ?_ (fun hHeld => ?_)
        · exact ⟨cell_later hb2 p0, cell_later hb2 p1, cell_later hb2 p2, cell_later hb2 p3, cell_later hb2 q0, cell_later hb2 q1, cell_later hb2 q2, cell_later hb2 q3⟩
        clear hK K
        try simp only [Act.put]
        try simp only [List.setIfInBounds_toArray, List.set_cons_zero, List.set_cons_succ]
        refine takeW 9 (some 26) (oi := ?oT10) (v := ?vT10) ?hiT10 ?hdT10 (by kernel_rfl) (by kernel_rfl) (by kernel_rfl) (fun _ _ _ h => h) ?hwT10 ?hyT10 hHeld ?_
        case hiT10 => (simp only [List.getElem?_toArray, List.getElem?_cons_succ, List.getElem?_cons_zero]; with_reducible rfl)
        case hdT10 => rfl
        case hwT10 => rfl
        case hyT10 => (intro w hSw; (try dsimp only at hSw); go_simp; first | done | with_reducible rfl)
        try simp only [Act.put]
        try simp only [List.setIfInBounds_toArray, List.set_cons_zero, List.set_cons_succ]
        refine wpAnyH_done (by kernel_rfl) ?_ _
        refine NoPanic.normal ?_
        skip
        have HB2 : Hid (Below w.heap.size w w2) := Lib.hid (hbl.out.drew.trans (hb2.mono hbl.out.size))
        clear hb2 p0 p1 p2 p3 q0 q1 q2 q3
        rcases s with _ | _
        · have HV : Hid (q = false) := Lib.hid (by rw [← HQ.out, decide_eq_false_iff_not]; exact HNOT.out (by have := HS.out; simpa using this))
          go_wp2
          go_ret
          exact ⟨by rw [HV.out]; rfl, HB2.out⟩
        · have HN := Lib.hid (HNEXT.out (by have := HS.out; simpa using this))
          go_wp2
          go_roundg (n1 - (k + 1))
          all_goals first
            | omega
            | exact ⟨k + 1, hlt, by omega, by go_num, HN, HB2⟩
      · obtain rfl : k = n1 := by omega
        have HV : Hid (q = true) := Lib.hid (by
          rw [← HQ.out, decide_eq_true_eq]
          have := hpre.out
          rwa [List.take_of_length_le (Nat.le_of_eq HN1.out), List.take_of_length_le (Nat.le_of_eq HN2.out)] at this)
        have hkI : ((k : Int) < (k : Int)) = False := by simp
        go_wp2
        go_ret
        exact ⟨by rw [HV.out]; rfl, hbl.out⟩
  · have hnI : ((n1 : Int) != (n2 : Int)) = true := by rw [bne_iff_ne]; omega
    have HV : Hid (q = false) := Lib.hid (by rw [← HQ.out, decide_eq_false_iff_not]; intro e; apply hne; rw [← HN1.out, ← HN2.out, e])
    go_wp2
    go_ret
    exact ⟨by rw [HV.out]; rfl, Below.refl _ _⟩
end Go.Proofs.Ytfheaognfocofaa
