/- Two rows of texts, of actions, are the same: what package slices tells of them. -/
import Derived.Test.YtgjehlegcmeeoaaGreatDoorZ05
import Derived.Test.YtgjehlegcmeeoaaGreatDoorZ13
namespace Go.Proofs.YtgjehlegcmeeoaaGreatDoor
set_option maxRecDepth 100000
open Go.ChangeShapes Go.WideShapes Go.ChangeAt Go.RowKit Go.Shelf

set_option maxHeartbeats 4000000 in
theorem eqtexts_any (v1 v2 : Value) (L1 L2 : List (List Nat)) (w : World) (h1 : SlT w v1 L1) (h2 : SlT w v2 L2) (t1 : ∀ t ∈ L1, ∀ c ∈ t, c < 256) (t2 : ∀ t ∈ L2, ∀ c ∈ t, c < 256) :
    Calls Tryz.prog 33 #[v1, v2] w fun e w' => e = .returned (.bool (decide (L1 = L2))) ∧ ∃ nq, w' = w.drewN nq := by
  obtain ⟨A1, c1, rfl, h11, h12, h13⟩ := h1
  obtain ⟨A2, c2, rfl, h21, h22, h23⟩ := h2
  obtain ⟨N1, hN1⟩ : ∃ N, L1.length = N := ⟨_, rfl⟩
  obtain ⟨N2, hN2⟩ : ∃ N, L2.length = N := ⟨_, rfl⟩
  rw [hN1] at h11 h12 h13
  rw [hN2] at h21 h22 h23
  have HN1 := Lib.hid hN1
  have HN2 := Lib.hid hN2
  have H1 := Lib.hid h13
  have H2 := Lib.hid h23
  have T1 := Lib.hid t1
  have T2 := Lib.hid t2
  unfold maxLen at h12 h22
  rw [hN1, hN2]
  clear h13 h23 hN1 hN2 t1 t2
  go_enter Tryz.func33, Tryz.ntmps33
  by_cases hne : N1 = N2
  · subst hne
    go_wp2_with fail
    go_loopw [13] (fun i wr => ∃ k : Nat, k ≤ N1 ∧ i = .int .i64 (k : Int) ∧ Hid (L1.take k = L2.take k) ∧ ∃ nq, wr = w.drewN nq) (fun i _ => N1 - (intOf i).toNat)
    case atStart => exact ⟨0, by omega, rfl, Lib.hid rfl, 0, rfl⟩
    case round =>
      obtain ⟨k, hk, rfl, hpre, nq, rfl⟩ := hrel
      by_cases hlt : k < N1
      · have hkn : (k : Int) < (N1 : Int) := by omega
        have hk1 : k < L1.length := by rw [HN1.out]; exact hlt
        have hk2 : k < L2.length := by rw [HN2.out]; exact hlt
        obtain ⟨b1, o1, rfl, _, hc1⟩ := H1.out (by omega)
        obtain ⟨b2, o2, rfl, _, hc2⟩ := H2.out (by omega)
        have p0 := hc1 k (by omega)
        have q0 := hc2 k (by omega)
        rw [List.getD_eq_getElem?_getD, List.getElem?_eq_getElem hk1, Option.getD_some, Nat.mul_one] at p0
        rw [List.getD_eq_getElem?_getD, List.getElem?_eq_getElem hk2, Option.getD_some, Nat.mul_one] at q0
        have HNEXT : Hid (L1[k]'hk1 = L2[k]'hk2 → L1.take (k + 1) = L2.take (k + 1)) := Lib.hid (fun e => by rw [List.take_succ_eq_append_getElem hk1, List.take_succ_eq_append_getElem hk2, hpre.out, e])
        have HNOT : Hid (L1[k]'hk1 ≠ L2[k]'hk2 → L1 ≠ L2) := Lib.hid (fun h e => h (by subst e; rfl))
        have HT1 : Hid (∀ c ∈ (L1[k]'hk1), c < 256) := Lib.hid (T1.out _ (List.getElem_mem hk1))
        have HT2 : Hid (∀ c ∈ (L2[k]'hk2), c < 256) := Lib.hid (T2.out _ (List.getElem_mem hk2))
        obtain ⟨xt, hx⟩ : ∃ x, L1[k]'hk1 = x := ⟨_, rfl⟩
        obtain ⟨yt, hy⟩ : ∃ y, L2[k]'hk2 = y := ⟨_, rfl⟩
        rw [hx] at p0 HNEXT HNOT HT1
        rw [hy] at q0 HNEXT HNOT HT2
        clear hc1 hc2 hx hy
        have hse := str_same HT1.out HT2.out
        by_cases he : xt = yt
        · subst he
          have HN3 := Lib.hid (HNEXT.out rfl)
          clear HNEXT HNOT
          go_wp2
          go_quiet (fail)
          go_wp2
          go_roundw
          case rel => exact ⟨k + 1, hlt, by go_num, HN3, _, rfl⟩
          case measure => simp [intOf]; omega
        · have hD : decide (L1 = L2) = false := decide_eq_false (HNOT.out fun e => he e)
          have HD := Lib.hid hD
          have het : ((str xt).toList == (str yt).toList) = false := by
            rw [hse]
            exact decide_eq_false he
          clear hD HNEXT HNOT he hse
          go_wp2
          go_quiet (fail)
          go_wp2
          go_ret
          exact ⟨by rw [HD.out]; rfl, _, World.drewN_drewN _ _ _⟩
      · obtain rfl : k = N1 := by omega
        have hD : decide (L1 = L2) = true := decide_eq_true (by
          have := hpre.out
          rwa [List.take_of_length_le (by rw [HN1.out]; exact Nat.le_refl _), List.take_of_length_le (by rw [HN2.out]; exact Nat.le_refl _)] at this)
        have HD := Lib.hid hD
        clear hD
        go_wp2
        go_ret
        exact ⟨by rw [HD.out]; rfl, nq, rfl⟩
  · have hD : decide (L1 = L2) = false := decide_eq_false (fun e => hne (by rw [← HN1.out, ← HN2.out, e]))
    have hn2 : ((N1 : Int) != (N2 : Int)) = true := by simp; omega
    have HD := Lib.hid hD
    clear hD hne
    go_wp2
    go_ret
    exact ⟨by rw [HD.out]; rfl, 0, rfl⟩
/-- Two actions whose texts are bytes: are they the same? -/
theorem eqdo_any (v1 v2 : Value) (L1 L2 : List Ac.D) (w : World) (h1 : RdD w v1 L1) (h2 : RdD w v2 L2) (t1 : ∀ d ∈ L1, ∀ c ∈ d.text, c < 256) (t2 : ∀ d ∈ L2, ∀ c ∈ d.text, c < 256) :
    Calls Tryz.prog 55 #[v1, v2] w fun e w' => e = .returned (.bool (decide (L1 = L2))) ∧ ∃ nq, w' = w.drewN nq := by
  obtain ⟨A1, c1, rfl, h11, h12, h13⟩ := h1
  obtain ⟨A2, c2, rfl, h21, h22, h23⟩ := h2
  obtain ⟨N1, hN1⟩ : ∃ N, L1.length = N := ⟨_, rfl⟩
  obtain ⟨N2, hN2⟩ : ∃ N, L2.length = N := ⟨_, rfl⟩
  rw [hN1] at h11 h12
  rw [hN2] at h21 h22
  have HN1 := Lib.hid hN1
  have HN2 := Lib.hid hN2
  have H1 := Lib.hid h13
  have H2 := Lib.hid h23
  have T1 := Lib.hid t1
  have T2 := Lib.hid t2
  unfold maxLen at h12 h22
  rw [hN1, hN2]
  clear h13 h23 hN1 hN2 t1 t2
  go_enter Tryz.func55, Tryz.ntmps55
  by_cases hne : N1 = N2
  · subst hne
    go_wp2_with fail
    go_loopw [13] (fun i wr => ∃ k : Nat, k ≤ N1 ∧ i = .int .i64 (k : Int) ∧ Hid (L1.take k = L2.take k) ∧ ∃ nq, wr = w.drewN nq) (fun i _ => N1 - (intOf i).toNat)
    case atStart => exact ⟨0, by omega, rfl, Lib.hid rfl, 0, rfl⟩
    case round =>
      obtain ⟨k, hk, rfl, hpre, nq, rfl⟩ := hrel
      by_cases hlt : k < N1
      · have hkn : (k : Int) < (N1 : Int) := by omega
        have hk1 : k < L1.length := by rw [HN1.out]; exact hlt
        have hk2 : k < L2.length := by rw [HN2.out]; exact hlt
        obtain ⟨b1, o1, rfl, hc1⟩ := H1.out (by rw [HN1.out]; omega)
        obtain ⟨b2, o2, rfl, hc2⟩ := H2.out (by rw [HN2.out]; omega)
        obtain ⟨p0, p1, p2⟩ := hc1 k hk1
        obtain ⟨q0, q1, q2⟩ := hc2 k hk2
        have HNEXT : Hid (L1[k]'hk1 = L2[k]'hk2 → L1.take (k + 1) = L2.take (k + 1)) := Lib.hid (fun e => by rw [List.take_succ_eq_append_getElem hk1, List.take_succ_eq_append_getElem hk2, hpre.out, e])
        have HNOT : Hid (L1[k]'hk1 ≠ L2[k]'hk2 → L1 ≠ L2) := Lib.hid (fun h e => h (by subst e; rfl))
        have HT1 : Hid (∀ c ∈ (L1[k]'hk1).text, c < 256) := Lib.hid (T1.out _ (List.getElem_mem hk1))
        have HT2 : Hid (∀ c ∈ (L2[k]'hk2).text, c < 256) := Lib.hid (T2.out _ (List.getElem_mem hk2))
        obtain ⟨x, hx⟩ : ∃ x, L1[k]'hk1 = x := ⟨_, rfl⟩
        obtain ⟨y, hy⟩ : ∃ y, L2[k]'hk2 = y := ⟨_, rfl⟩
        rw [hx] at p0 p1 p2 HNEXT HNOT HT1
        rw [hy] at q0 q1 q2 HNEXT HNOT HT2
        clear hc1 hc2 hx hy
        obtain ⟨xk, xn, xt⟩ := x
        obtain ⟨yk, yn, yt⟩ := y
        change w.cell? ⟨b1, o1 + k * 3 + 2, none⟩ = some (.string (str xt)) at p2
        change w.cell? ⟨b1, o1 + k * 3 + 1, none⟩ = some (.int .i64 (xn : Int)) at p1
        change w.cell? ⟨b1, o1 + k * 3, none⟩ = some (.int .i64 (xk : Int)) at p0
        change w.cell? ⟨b2, o2 + k * 3 + 2, none⟩ = some (.string (str yt)) at q2
        change w.cell? ⟨b2, o2 + k * 3 + 1, none⟩ = some (.int .i64 (yn : Int)) at q1
        change w.cell? ⟨b2, o2 + k * 3, none⟩ = some (.int .i64 (yk : Int)) at q0
        change Hid (∀ c ∈ xt, c < 256) at HT1
        change Hid (∀ c ∈ yt, c < 256) at HT2
        have hse := str_same HT1.out HT2.out
        by_cases he : xk = yk ∧ xn = yn ∧ xt = yt
        · obtain ⟨rfl, rfl, rfl⟩ := he
          have HN3 := Lib.hid (HNEXT.out rfl)
          clear HNEXT HNOT
          go_wp2
          go_quiet (fail)
          go_wp2
          go_roundw
          case rel => exact ⟨k + 1, hlt, by go_num, HN3, _, rfl⟩
          case measure => simp [intOf]; omega
        · have hD : decide (L1 = L2) = false := decide_eq_false (HNOT.out fun e => he (by injection e with e1 e2 e3; exact ⟨e1, e2, e3⟩))
          have HD := Lib.hid hD
          clear hD HNEXT HNOT
          by_cases hek : xk = yk
          · subst hek
            by_cases hen : xn = yn
            · subst hen
              have het : ((str xt).toList == (str yt).toList) = false := by
                rw [hse]
                exact decide_eq_false fun e => he ⟨rfl, rfl, e⟩
              clear he hse
              go_wp2
              go_quiet (fail)
              go_wp2
              go_ret
              exact ⟨by rw [HD.out]; rfl, _, World.drewN_drewN _ _ _⟩
            · have het : ((xn : Int) == (yn : Int)) = false := by simp; omega
              clear he hse
              go_wp2
              go_quiet (fail)
              go_wp2
              go_ret
              exact ⟨by rw [HD.out]; rfl, _, World.drewN_drewN _ _ _⟩
          · have het : ((xk : Int) == (yk : Int)) = false := by simp; omega
            clear he hse
            go_wp2
            go_quiet (fail)
            go_wp2
            go_ret
            exact ⟨by rw [HD.out]; rfl, _, World.drewN_drewN _ _ _⟩
      · obtain rfl : k = N1 := by omega
        have hD : decide (L1 = L2) = true := decide_eq_true (by
          have := hpre.out
          rwa [List.take_of_length_le (by rw [HN1.out]; exact Nat.le_refl _), List.take_of_length_le (by rw [HN2.out]; exact Nat.le_refl _)] at this)
        have HD := Lib.hid hD
        clear hD
        go_wp2
        go_ret
        exact ⟨by rw [HD.out]; rfl, nq, rfl⟩
  · have hD : decide (L1 = L2) = false := decide_eq_false (fun e => hne (by rw [← HN1.out, ← HN2.out, e]))
    have hn2 : ((N1 : Int) != (N2 : Int)) = true := by simp; omega
    have HD := Lib.hid hD
    clear hD hne
    go_wp2
    go_ret
    exact ⟨by rw [HD.out]; rfl, 0, rfl⟩
/-- Actions whose texts are bytes. -/
def ActsB (l : List (List Ac.D)) : Prop := ∀ x ∈ l, ∀ d ∈ x, ∀ c ∈ d.text, c < 256
set_option maxHeartbeats 4000000 in
theorem eqacts_any (v1 v2 : Value) (L1 L2 : List (List Ac.D)) (w : World) (h1 : SlA w v1 L1) (h2 : SlA w v2 L2) (t1 : ActsB L1) (t2 : ActsB L2) :
    Calls Tryz.prog 54 #[v1, v2, .func (.func 55) #[] #[]] w fun e w' => e = .returned (.bool (decide (L1 = L2))) ∧ ∃ nq, w' = w.drewN nq := by
  have hent := enters_of Tryz.func55 (by kernel_rfl) rfl
  obtain ⟨A1, c1, rfl, h11, h12, h13⟩ := h1
  obtain ⟨A2, c2, rfl, h21, h22, h23⟩ := h2
  obtain ⟨N1, hN1⟩ : ∃ N, L1.length = N := ⟨_, rfl⟩
  obtain ⟨N2, hN2⟩ : ∃ N, L2.length = N := ⟨_, rfl⟩
  rw [hN1] at h11 h12 h13
  rw [hN2] at h21 h22 h23
  have HN1 := Lib.hid hN1
  have HN2 := Lib.hid hN2
  have H1 := Lib.hid h13
  have H2 := Lib.hid h23
  have T1 := Lib.hid t1
  have T2 := Lib.hid t2
  unfold maxLen at h12 h22
  rw [hN1, hN2]
  clear h13 h23 hN1 hN2 t1 t2
  go_enter Tryz.func54, Tryz.ntmps54
  by_cases hne : N1 = N2
  · subst hne
    go_wp2_with fail
    go_loopw [17] (fun i wr => ∃ k : Nat, k ≤ N1 ∧ i = .int .i64 (k : Int) ∧ Hid (L1.take k = L2.take k) ∧ ∃ nq, wr = w.drewN nq) (fun i _ => N1 - (intOf i).toNat)
    case atStart => exact ⟨0, by omega, rfl, Lib.hid rfl, 0, rfl⟩
    case round =>
      obtain ⟨k, hk, rfl, hpre, nq, rfl⟩ := hrel
      by_cases hlt : k < N1
      · have hkn : (k : Int) < (N1 : Int) := by omega
        have hk1 : k < L1.length := by rw [HN1.out]; exact hlt
        have hk2 : k < L2.length := by rw [HN2.out]; exact hlt
        obtain ⟨b1, o1, rfl, _, hc1⟩ := H1.out (by omega)
        obtain ⟨b2, o2, rfl, _, hc2⟩ := H2.out (by omega)
        obtain ⟨u1, p0, d1⟩ := hc1 k (by omega)
        obtain ⟨u2, q0, d2⟩ := hc2 k (by omega)
        rw [Nat.mul_one] at p0 q0
        rw [List.getD_eq_getElem?_getD, List.getElem?_eq_getElem hk1, Option.getD_some] at d1
        rw [List.getD_eq_getElem?_getD, List.getElem?_eq_getElem hk2, Option.getD_some] at d2
        have HNEXT : Hid (L1[k]'hk1 = L2[k]'hk2 → L1.take (k + 1) = L2.take (k + 1)) := Lib.hid (fun e => by rw [List.take_succ_eq_append_getElem hk1, List.take_succ_eq_append_getElem hk2, hpre.out, e])
        have HNOT : Hid (L1[k]'hk1 ≠ L2[k]'hk2 → L1 ≠ L2) := Lib.hid (fun h e => h (by subst e; rfl))
        have HC : Hid (Calls Tryz.prog 55 #[u1, u2] (w.drewN nq) fun e w' => e = .returned (.bool (decide (L1[k]'hk1 = L2[k]'hk2))) ∧ ∃ nq, w' = w.drewN nq) := Lib.hid ((eqdo_any u1 u2 (L1[k]'hk1) (L2[k]'hk2) (w.drewN nq) (d1.rd.under ⟨rfl, rfl, rfl, Nat.le_refl _, fun _ _ => rfl⟩) (d2.rd.under ⟨rfl, rfl, rfl, Nat.le_refl _, fun _ _ => rfl⟩) (T1.out _ (List.getElem_mem hk1)) (T2.out _ (List.getElem_mem hk2))).mono fun e w' h => ⟨h.1, h.2.elim fun q hq => ⟨_, hq.trans (World.drewN_drewN _ _ _)⟩⟩)
        obtain ⟨Au, nu, cu, rfl⟩ : ∃ A n c, u1 = .slice A n c := by
          obtain ⟨A, c, e, _⟩ := d1
          exact ⟨_, _, _, e⟩
        obtain ⟨Bu, mu, du, rfl⟩ : ∃ A n c, u2 = .slice A n c := by
          obtain ⟨A, c, e, _⟩ := d2
          exact ⟨_, _, _, e⟩
        obtain ⟨x, hx⟩ : ∃ x, L1[k]'hk1 = x := ⟨_, rfl⟩
        obtain ⟨y, hy⟩ : ∃ y, L2[k]'hk2 = y := ⟨_, rfl⟩
        rw [hx] at HNEXT HNOT
        rw [hy] at HNEXT HNOT
        rw [hx, hy] at HC
        clear hc1 hc2 hx hy d1 d2
        by_cases he : x = y
        · subst he
          have HN3 := Lib.hid (HNEXT.out rfl)
          have HC2 : Hid (Calls Tryz.prog 55 #[.slice Au nu cu, .slice Bu mu du] (w.drewN nq) fun e w' => e = .returned (.bool true) ∧ ∃ nq, w' = w.drewN nq) := Lib.hid (HC.out.mono fun e w' h => ⟨by rw [h.1]; simp, h.2⟩)
          clear HNEXT HNOT HC
          go_wp2_with fail
          refine HC2.out.mono ?_
          rintro e w2 ⟨rfl, nq2, rfl⟩
          go_wp2
          go_roundw
          case rel => exact ⟨k + 1, hlt, by go_num, HN3, _, rfl⟩
          case measure => simp [intOf]; omega
        · have hD : decide (L1 = L2) = false := decide_eq_false (HNOT.out fun e => he e)
          have HD := Lib.hid hD
          have HC2 : Hid (Calls Tryz.prog 55 #[.slice Au nu cu, .slice Bu mu du] (w.drewN nq) fun e w' => e = .returned (.bool false) ∧ ∃ nq, w' = w.drewN nq) := Lib.hid (HC.out.mono fun e w' h => ⟨by rw [h.1]; simp [he], h.2⟩)
          clear hD HNEXT HNOT he HC
          go_wp2_with fail
          refine HC2.out.mono ?_
          rintro e w2 ⟨rfl, nq2, rfl⟩
          go_wp2
          go_ret
          exact ⟨by rw [HD.out]; rfl, _, rfl⟩
      · obtain rfl : k = N1 := by omega
        have hD : decide (L1 = L2) = true := decide_eq_true (by
          have := hpre.out
          rwa [List.take_of_length_le (by rw [HN1.out]; exact Nat.le_refl _), List.take_of_length_le (by rw [HN2.out]; exact Nat.le_refl _)] at this)
        have HD := Lib.hid hD
        clear hD
        go_wp2
        go_ret
        exact ⟨by rw [HD.out]; rfl, nq, rfl⟩
  · have hD : decide (L1 = L2) = false := decide_eq_false (fun e => hne (by rw [← HN1.out, ← HN2.out, e]))
    have hn2 : ((N1 : Int) != (N2 : Int)) = true := by simp; omega
    have HD := Lib.hid hD
    clear hD hne
    go_wp2
    go_ret
    exact ⟨by rw [HD.out]; rfl, 0, rfl⟩
end Go.Proofs.YtgjehlegcmeeoaaGreatDoor

/- Two rules, two rows of rules, are the same: what package mani tells of them. -/
namespace Go.Proofs.YtgjehlegcmeeoaaGreatDoor
set_option maxRecDepth 100000
open Go.ChangeShapes Go.WideShapes Go.ChangeAt Go.RowKit Go.Shelf

/-- What four cells of a rule read as. -/
structure RdR (w : World) (q : Value × Value × Value × Value) (r : Mn.Rule) : Prop where
  outs : SlT w q.1 r.outs
  ins : SlT w q.2.1 r.ins
  order : SlT w q.2.2.1 r.order
  acts : SlA w q.2.2.2 r.acts
theorem Parts.rd {w : World} {hi : Nat} {q : Value × Value × Value × Value} {r : Mn.Rule} (h : Parts w hi q r) : RdR w q r := ⟨h.outs.sl, h.ins.sl, h.order.sl, h.acts.sl⟩
theorem SlT.later {w w' : World} {v : Value} {l : List (List Nat)} (h : SlT w v l) (hb : Below w.heap.size w w') : SlT w' v l := h.keep (Q := fun _ => True) (Keep.below hb) trivial
theorem SlA.later {w w' : World} {v : Value} {l : List (List Ac.D)} (h : SlA w v l) (hb : Below w.heap.size w w') : SlA w' v l := h.keep (Q := fun _ => True) (Keep.below hb) trivial trivial
theorem RdR.later {w w' : World} {q : Value × Value × Value × Value} {r : Mn.Rule} (h : RdR w q r) (hb : Below w.heap.size w w') : RdR w' q r := ⟨h.outs.later hb, h.ins.later hb, h.order.later hb, h.acts.later hb⟩
/-- A rule whose texts are bytes. -/
structure ByteR (r : Mn.Rule) : Prop where
  outs : ∀ t ∈ r.outs, ∀ c ∈ t, c < 256
  ins : ∀ t ∈ r.ins, ∀ c ∈ t, c < 256
  order : ∀ t ∈ r.order, ∀ c ∈ t, c < 256
  acts : ActsB r.acts
theorem SlT.shape {w : World} {v : Value} {l : List (List Nat)} (h : SlT w v l) : ∃ A n c, v = .slice A n c := by
  obtain ⟨A, c, e, _⟩ := h
  exact ⟨_, _, _, e⟩
theorem SlA.shape {w : World} {v : Value} {l : List (List Ac.D)} (h : SlA w v l) : ∃ A n c, v = .slice A n c := by
  obtain ⟨A, c, e, _⟩ := h
  exact ⟨_, _, _, e⟩

set_option maxHeartbeats 8000000 in
theorem same_any (q1 q2 : Value × Value × Value × Value) (r1 r2 : Mn.Rule) (w : World) (h1 : RdR w q1 r1) (h2 : RdR w q2 r2) (g1 : ByteR r1) (g2 : ByteR r2) :
    Calls Tryz.prog 32 #[.agg (cellsR q1 r1).toArray, .agg (cellsR q2 r2).toArray] w fun e w' => e = .returned (.bool (decide (r1 = r2))) ∧ Below w.heap.size w w' := by
  obtain ⟨o1, i1, d1, a1⟩ := q1
  obtain ⟨o2, i2, d2, a2⟩ := q2
  obtain ⟨O1, I1, D1, A1, p1⟩ := r1
  obtain ⟨O2, I2, D2, A2, p2⟩ := r2
  rw [show (cellsR (o1, i1, d1, a1) ⟨O1, I1, D1, A1, p1⟩).toArray = #[o1, i1, d1, a1, .bool p1] from rfl, show (cellsR (o2, i2, d2, a2) ⟨O2, I2, D2, A2, p2⟩).toArray = #[o2, i2, d2, a2, .bool p2] from rfl]
  have HO : Hid (∀ W, Below w.heap.size w W → Calls Tryz.prog 33 #[o1, o2] W fun e w' => e = .returned (.bool (decide (O1 = O2))) ∧ ∃ nq, w' = W.drewN nq) := Lib.hid fun W hb => eqtexts_any o1 o2 O1 O2 W (h1.outs.later hb) (h2.outs.later hb) g1.outs g2.outs
  have HI : Hid (∀ W, Below w.heap.size w W → Calls Tryz.prog 33 #[i1, i2] W fun e w' => e = .returned (.bool (decide (I1 = I2))) ∧ ∃ nq, w' = W.drewN nq) := Lib.hid fun W hb => eqtexts_any i1 i2 I1 I2 W (h1.ins.later hb) (h2.ins.later hb) g1.ins g2.ins
  have HD : Hid (∀ W, Below w.heap.size w W → Calls Tryz.prog 33 #[d1, d2] W fun e w' => e = .returned (.bool (decide (D1 = D2))) ∧ ∃ nq, w' = W.drewN nq) := Lib.hid fun W hb => eqtexts_any d1 d2 D1 D2 W (h1.order.later hb) (h2.order.later hb) g1.order g2.order
  have HA : Hid (∀ W, Below w.heap.size w W → Calls Tryz.prog 54 #[a1, a2, .func (.func 55) #[] #[]] W fun e w' => e = .returned (.bool (decide (A1 = A2))) ∧ ∃ nq, w' = W.drewN nq) := Lib.hid fun W hb => eqacts_any a1 a2 A1 A2 W (h1.acts.later hb) (h2.acts.later hb) g1.acts g2.acts
  obtain ⟨_, _, _, rfl⟩ := h1.outs.shape
  obtain ⟨_, _, _, rfl⟩ := h2.outs.shape
  obtain ⟨_, _, _, rfl⟩ := h1.ins.shape
  obtain ⟨_, _, _, rfl⟩ := h2.ins.shape
  obtain ⟨_, _, _, rfl⟩ := h1.order.shape
  obtain ⟨_, _, _, rfl⟩ := h2.order.shape
  obtain ⟨_, _, _, rfl⟩ := h1.acts.shape
  obtain ⟨_, _, _, rfl⟩ := h2.acts.shape
  clear h1 h2 g1 g2
  obtain ⟨R, hR⟩ : ∃ R, decide ((⟨O1, I1, D1, A1, p1⟩ : Mn.Rule) = ⟨O2, I2, D2, A2, p2⟩) = R := ⟨_, rfl⟩
  rw [hR]
  have HR := Lib.hid hR
  clear hR
  have HW : Hid (∀ o1 o2, Below w.heap.size w ((w.alloc o1).alloc o2)) := Lib.hid fun o1 o2 => ((Below.refl _ _).alloc (Nat.le_refl _) o1).alloc (by simp) o2
  have HWD : Hid (∀ W n, Below w.heap.size w W → Below w.heap.size w (W.drewN n)) := Lib.hid fun W n hb => hb.trans ⟨rfl, rfl, rfl, Nat.le_refl _, fun _ _ => rfl⟩
  obtain ⟨bo, hbo⟩ : ∃ b, decide (O1 = O2) = b := ⟨_, rfl⟩
  rw [hbo] at HO
  have Bbo := Lib.hid hbo
  clear hbo
  obtain ⟨bi, hbi⟩ : ∃ b, decide (I1 = I2) = b := ⟨_, rfl⟩
  rw [hbi] at HI
  have Bbi := Lib.hid hbi
  clear hbi
  obtain ⟨bd, hbd⟩ : ∃ b, decide (D1 = D2) = b := ⟨_, rfl⟩
  rw [hbd] at HD
  have Bbd := Lib.hid hbd
  clear hbd
  obtain ⟨ba, hba⟩ : ∃ b, decide (A1 = A2) = b := ⟨_, rfl⟩
  rw [hba] at HA
  have Bba := Lib.hid hba
  clear hba
  by_cases hp : p1 = p2
  · subst hp
    have hpe : (p1 == p1) = true := by simp
    rcases bo with _ | _
    · skip
      have HRF : Hid (R = false) := Lib.hid (by rw [← HR.out]; exact decide_eq_false (fun e => absurd (by injection e) (of_decide_eq_false Bbo.out)))
      rw [HRF.out]
      clear HR
      go_enter Tryz.func32, Tryz.ntmps32
      go_wp2_with fail
      refine (HO.out _ (HW.out _ _)).mono ?_
      rintro e w1 ⟨rfl, n1, rfl⟩
      go_wp2
      go_ret
      exact ⟨rfl, (HWD.out _ _ (HW.out _ _))⟩
    · skip
      rcases bi with _ | _
      · skip
        have HRF : Hid (R = false) := Lib.hid (by rw [← HR.out]; exact decide_eq_false (fun e => absurd (by injection e) (of_decide_eq_false Bbi.out)))
        rw [HRF.out]
        clear HR
        go_enter Tryz.func32, Tryz.ntmps32
        go_wp2_with fail
        refine (HO.out _ (HW.out _ _)).mono ?_
        rintro e w1 ⟨rfl, n1, rfl⟩
        go_wp2_with fail
        refine (HI.out _ (HWD.out _ _ (HW.out _ _))).mono ?_
        rintro e w2 ⟨rfl, n2, rfl⟩
        go_wp2
        go_ret
        exact ⟨rfl, (HWD.out _ _ (HW.out _ _))⟩
      · skip
        rcases bd with _ | _
        · skip
          have HRF : Hid (R = false) := Lib.hid (by rw [← HR.out]; exact decide_eq_false (fun e => absurd (by injection e) (of_decide_eq_false Bbd.out)))
          rw [HRF.out]
          clear HR
          go_enter Tryz.func32, Tryz.ntmps32
          go_wp2_with fail
          refine (HO.out _ (HW.out _ _)).mono ?_
          rintro e w1 ⟨rfl, n1, rfl⟩
          go_wp2_with fail
          refine (HI.out _ (HWD.out _ _ (HW.out _ _))).mono ?_
          rintro e w2 ⟨rfl, n2, rfl⟩
          go_wp2_with fail
          refine (HD.out _ (HWD.out _ _ (HW.out _ _))).mono ?_
          rintro e w3 ⟨rfl, n3, rfl⟩
          go_wp2
          go_ret
          exact ⟨rfl, (HWD.out _ _ (HW.out _ _))⟩
        · skip
          rcases ba with _ | _
          · skip
            have HRF : Hid (R = false) := Lib.hid (by rw [← HR.out]; exact decide_eq_false (fun e => absurd (by injection e) (of_decide_eq_false Bba.out)))
            rw [HRF.out]
            clear HR
            go_enter Tryz.func32, Tryz.ntmps32
            go_wp2_with fail
            refine (HO.out _ (HW.out _ _)).mono ?_
            rintro e w1 ⟨rfl, n1, rfl⟩
            go_wp2_with fail
            refine (HI.out _ (HWD.out _ _ (HW.out _ _))).mono ?_
            rintro e w2 ⟨rfl, n2, rfl⟩
            go_wp2_with fail
            refine (HD.out _ (HWD.out _ _ (HW.out _ _))).mono ?_
            rintro e w3 ⟨rfl, n3, rfl⟩
            go_wp2_with fail
            refine (HA.out _ (HWD.out _ _ (HW.out _ _))).mono ?_
            rintro e w4 ⟨rfl, n4, rfl⟩
            go_wp2
            go_ret
            exact ⟨rfl, (HWD.out _ _ (HW.out _ _))⟩
          · skip
            have HRT : Hid (R = true) := Lib.hid (by rw [← HR.out, of_decide_eq_true Bbo.out, of_decide_eq_true Bbi.out, of_decide_eq_true Bbd.out, of_decide_eq_true Bba.out]; exact decide_eq_true rfl)
            rw [HRT.out]
            clear HR
            go_enter Tryz.func32, Tryz.ntmps32
            go_wp2_with fail
            refine (HO.out _ (HW.out _ _)).mono ?_
            rintro e w1 ⟨rfl, n1, rfl⟩
            go_wp2_with fail
            refine (HI.out _ (HWD.out _ _ (HW.out _ _))).mono ?_
            rintro e w2 ⟨rfl, n2, rfl⟩
            go_wp2_with fail
            refine (HD.out _ (HWD.out _ _ (HW.out _ _))).mono ?_
            rintro e w3 ⟨rfl, n3, rfl⟩
            go_wp2_with fail
            refine (HA.out _ (HWD.out _ _ (HW.out _ _))).mono ?_
            rintro e w4 ⟨rfl, n4, rfl⟩
            go_wp2
            go_ret
            exact ⟨rfl, (HWD.out _ _ (HW.out _ _))⟩
  · have hpe : (p1 == p2) = false := by simpa using hp
    have HRF : Hid (R = false) := Lib.hid (by rw [← HR.out]; exact decide_eq_false (fun e => hp (by injection e)))
    rw [HRF.out]
    clear HR hp
    go_enter Tryz.func32, Tryz.ntmps32
    go_wp2
    go_ret
    exact ⟨rfl, HW.out _ _⟩
end Go.Proofs.YtgjehlegcmeeoaaGreatDoor

/- Two rows of rules, two manifests, are the same: what package mani tells of them. -/
namespace Go.Proofs.YtgjehlegcmeeoaaGreatDoor
set_option maxRecDepth 100000
open Go.ChangeShapes Go.WideShapes Go.ChangeAt Go.RowKit Go.Shelf

theorem SlR.at {w : World} {A : Option Addr} {n c : Nat} {l : List Mn.Rule} (h : SlR w (.slice A n c) l) (k : Nat) (hk : k < l.length) : ∃ b off q, A = some ⟨b, off, none⟩ ∧ RdR w q (l.getD k emptyRule) ∧ w.cell? ⟨b, off + k * 5, none⟩ = some q.1 ∧ w.cell? ⟨b, off + k * 5 + 1, none⟩ = some q.2.1 ∧ w.cell? ⟨b, off + k * 5 + 2, none⟩ = some q.2.2.1 ∧ w.cell? ⟨b, off + k * 5 + 3, none⟩ = some q.2.2.2 ∧ w.cell? ⟨b, off + k * 5 + 4, none⟩ = some (.bool (l.getD k emptyRule).phony) := by
  obtain ⟨A', c', e, _, _, hx⟩ := h
  injection e with e1 e2 e3
  subst e1 e2 e3
  obtain ⟨b, off, rfl, _, hc⟩ := hx (by omega)
  obtain ⟨u1, u2, u3, u4, c1, c2, c3, c4, c5, s1, s2, s3, s4⟩ := hc k hk
  exact ⟨b, off, (u1, u2, u3, u4), rfl, ⟨s1, s2, s3, s4⟩, c1, c2, c3, c4, c5⟩
theorem SlR.shape {w : World} {v : Value} {l : List Mn.Rule} (h : SlR w v l) : ∃ A c, v = .slice A l.length c := by
  obtain ⟨A, c, e, _⟩ := h
  exact ⟨_, _, e⟩
set_option maxHeartbeats 8000000 in
theorem eqrules_any (v1 v2 : Value) (L1 L2 : List Mn.Rule) (w : World) (h1 : SlR w v1 L1) (h2 : SlR w v2 L2) (t1 : ∀ r ∈ L1, ByteR r) (t2 : ∀ r ∈ L2, ByteR r) (hn1 : L1.length ≤ 1000000) (hn2 : L2.length ≤ 1000000) :
    Calls Tryz.prog 31 #[v1, v2, .func (.func 32) #[] #[]] w fun e w' => e = .returned (.bool (decide (L1 = L2))) ∧ Below w.heap.size w w' := by
  have hent := enters_of Tryz.func32 (by kernel_rfl) rfl
  obtain ⟨A1, c1, rfl⟩ := h1.shape
  obtain ⟨A2, c2, rfl⟩ := h2.shape
  obtain ⟨N1, hN1⟩ : ∃ N, L1.length = N := ⟨_, rfl⟩
  obtain ⟨N2, hN2⟩ : ∃ N, L2.length = N := ⟨_, rfl⟩
  rw [hN1] at h1 hn1
  rw [hN2] at h2 hn2
  have HN1 := Lib.hid hN1
  have HN2 := Lib.hid hN2
  have H1 := Lib.hid h1
  have H2 := Lib.hid h2
  have T1 := Lib.hid t1
  have T2 := Lib.hid t2
  rw [hN1, hN2]
  clear h1 h2 hN1 hN2 t1 t2
  go_enter Tryz.func31, Tryz.ntmps31
  by_cases hne : N1 = N2
  · subst hne
    go_wp2_with fail
    go_loopw [17] (fun i wr => ∃ k : Nat, k ≤ N1 ∧ i = .int .i64 (k : Int) ∧ Hid (L1.take k = L2.take k) ∧ Below w.heap.size w wr) (fun i _ => N1 - (intOf i).toNat)
    case atStart => exact ⟨0, by omega, rfl, Lib.hid rfl, Below.refl _ _⟩
    case round =>
      obtain ⟨k, hk, rfl, hpre, hbz⟩ := hrel
      obtain ⟨wz, rfl⟩ : ∃ wx : World, wx = wr := ⟨_, rfl⟩
      have HBZ := Lib.hid hbz
      clear hbz
      by_cases hlt : k < N1
      · have hkn : (k : Int) < (N1 : Int) := by omega
        have hk1 : k < L1.length := by rw [HN1.out]; exact hlt
        have hk2 : k < L2.length := by rw [HN2.out]; exact hlt
        obtain ⟨b1, o1, q1, rfl, hr1, p0, p1, p2, p3, p4⟩ := (H1.out.under HBZ.out).at k hk1
        obtain ⟨b2, o2, q2, rfl, hr2, s0, s1, s2, s3, s4⟩ := (H2.out.under HBZ.out).at k hk2
        have e1 : L1.getD k emptyRule = L1[k]'hk1 := by rw [List.getD_eq_getElem?_getD, List.getElem?_eq_getElem hk1]; rfl
        have e2 : L2.getD k emptyRule = L2[k]'hk2 := by rw [List.getD_eq_getElem?_getD, List.getElem?_eq_getElem hk2]; rfl
        have HNEXT : Hid (L1.getD k emptyRule = L2.getD k emptyRule → L1.take (k + 1) = L2.take (k + 1)) := Lib.hid (fun e => by rw [List.take_succ_eq_append_getElem hk1, List.take_succ_eq_append_getElem hk2, hpre.out, ← e1, ← e2, e])
        have HNOT : Hid (L1.getD k emptyRule ≠ L2.getD k emptyRule → L1 ≠ L2) := Lib.hid (fun h e => h (by subst e; rfl))
        have HG1 : Hid (ByteR (L1.getD k emptyRule)) := Lib.hid (T1.out _ (by rw [e1]; exact List.getElem_mem hk1))
        have HG2 : Hid (ByteR (L2.getD k emptyRule)) := Lib.hid (T2.out _ (by rw [e2]; exact List.getElem_mem hk2))
        obtain ⟨x, hx⟩ : ∃ x, L1.getD k emptyRule = x := ⟨_, rfl⟩
        obtain ⟨y, hy⟩ : ∃ y, L2.getD k emptyRule = y := ⟨_, rfl⟩
        rw [hx] at hr1 p4 HNEXT HNOT HG1
        rw [hy] at hr2 s4 HNEXT HNOT HG2
        obtain ⟨qo1, qi1, qd1, qa1⟩ := q1
        obtain ⟨qo2, qi2, qd2, qa2⟩ := q2
        dsimp only at p0 p1 p2 p3 s0 s1 s2 s3
        obtain ⟨xo, xi, xd, xa, xp⟩ := x
        obtain ⟨yo, yi, yd, ya, yp⟩ := y
        dsimp only at p4 s4
        have HC : Hid (∀ W, Below wz.heap.size wz W → Calls Tryz.prog 32 #[.agg #[qo1, qi1, qd1, qa1, .bool xp], .agg #[qo2, qi2, qd2, qa2, .bool yp]] W fun e w' => e = .returned (.bool (decide ((⟨xo, xi, xd, xa, xp⟩ : Mn.Rule) = ⟨yo, yi, yd, ya, yp⟩))) ∧ Below W.heap.size W w') :=
          Lib.hid fun W hb => same_any (qo1, qi1, qd1, qa1) (qo2, qi2, qd2, qa2) ⟨xo, xi, xd, xa, xp⟩ ⟨yo, yi, yd, ya, yp⟩ W (hr1.later hb) (hr2.later hb) HG1.out HG2.out
        obtain ⟨_, _, _, rfl⟩ := hr1.outs.shape
        obtain ⟨_, _, _, rfl⟩ := hr1.ins.shape
        obtain ⟨_, _, _, rfl⟩ := hr1.order.shape
        obtain ⟨_, _, _, rfl⟩ := hr1.acts.shape
        obtain ⟨_, _, _, rfl⟩ := hr2.outs.shape
        obtain ⟨_, _, _, rfl⟩ := hr2.ins.shape
        obtain ⟨_, _, _, rfl⟩ := hr2.order.shape
        obtain ⟨_, _, _, rfl⟩ := hr2.acts.shape
        obtain ⟨B, hB⟩ : ∃ B, decide ((⟨xo, xi, xd, xa, xp⟩ : Mn.Rule) = ⟨yo, yi, yd, ya, yp⟩) = B := ⟨_, rfl⟩
        rw [hB] at HC
        have HBB := Lib.hid hB
        have HA1 : ∀ o, Below wz.heap.size wz (wz.alloc o) := fun o => (Below.refl _ _).alloc (Nat.le_refl _) o
        have s0o := fun o => cell_later (HA1 o) s0
        have s1o := fun o => cell_later (HA1 o) s1
        have s2o := fun o => cell_later (HA1 o) s2
        have s3o := fun o => cell_later (HA1 o) s3
        have s4o := fun o => cell_later (HA1 o) s4
        have HW : Hid (∀ o1 o2, Below wz.heap.size wz ((wz.alloc o1).alloc o2)) := Lib.hid fun o1 o2 => ((Below.refl _ _).alloc (Nat.le_refl _) o1).alloc (by simp) o2
        clear hr1 hr2 hx hy hB e1 e2 HA1 hk1 hk2
        rcases B with _ | _
        · have HD : Hid (decide (L1 = L2) = false) := Lib.hid (decide_eq_false (HNOT.out (of_decide_eq_false HBB.out)))
          clear HNEXT HNOT
          go_wp2_with fail
          refine (HC.out _ (HW.out _ _)).mono ?_
          rintro e w2 ⟨rfl, hb2⟩
          have HB2 : Hid (Below w.heap.size w w2) := Lib.hid ((HBZ.out.trans ((HW.out _ _).mono (by have := HBZ.out.size; omega))).trans (hb2.mono (by have := HBZ.out.size; simp; omega)))
          clear hb2
          go_wp2
          go_ret
          exact ⟨by rw [HD.out] <;> rfl, HB2.out⟩
        · have HN3 := Lib.hid (HNEXT.out (of_decide_eq_true HBB.out))
          clear HNEXT HNOT
          go_wp2_with fail
          refine (HC.out _ (HW.out _ _)).mono ?_
          rintro e w2 ⟨rfl, hb2⟩
          have HB2 : Hid (Below w.heap.size w w2) := Lib.hid ((HBZ.out.trans ((HW.out _ _).mono (by have := HBZ.out.size; omega))).trans (hb2.mono (by have := HBZ.out.size; simp; omega)))
          clear hb2
          go_wp2
          go_roundw
          case rel => exact ⟨k + 1, hlt, by go_num, HN3, HB2.out⟩
          case measure => simp [intOf]; omega
      · obtain rfl : k = N1 := by omega
        have hD : decide (L1 = L2) = true := decide_eq_true (by
          have := hpre.out
          rwa [List.take_of_length_le (by rw [HN1.out]; exact Nat.le_refl _), List.take_of_length_le (by rw [HN2.out]; exact Nat.le_refl _)] at this)
        have HD := Lib.hid hD
        clear hD
        go_wp2
        go_ret
        exact ⟨by rw [HD.out]; rfl, HBZ.out⟩
  · have hD : decide (L1 = L2) = false := decide_eq_false (fun e => hne (by rw [← HN1.out, ← HN2.out, e]))
    have hn2 : ((N1 : Int) != (N2 : Int)) = true := by simp; omega
    have HD := Lib.hid hD
    clear hD hne
    go_wp2
    go_ret
    exact ⟨by rw [HD.out]; rfl, Below.refl _ _⟩
/-- Two boxes that are made one behind the other. -/
theorem two_boxes (w : World) (c1 c2 : Array Value) (t1 t2 : TypeId) : Blk ((w.alloc (.cells c1 t1)).alloc (.cells c2 t2)) w.heap.size t1 c1 ∧ Blk ((w.alloc (.cells c1 t1)).alloc (.cells c2 t2)) (w.heap.size + 1) t2 c2 := by
  refine ⟨(show Blk (w.alloc (.cells c1 t1)) w.heap.size t1 c1 from heap_alloc_new w _).alloc _, ?_⟩
  have := heap_alloc_new (w.alloc (.cells c1 t1)) (.cells c2 t2)
  rwa [World.size_alloc] at this
/-- A manifest, as it is handed over. -/
def RdM (w : World) (v : Value) (m : Mn.M) : Prop := ∃ rv dv, v = .agg #[rv, dv] ∧ SlR w rv m.rules ∧ SlT w dv m.dflt
structure ByteM (m : Mn.M) : Prop where
  rules : ∀ r ∈ m.rules, ByteR r
  dflt : ∀ t ∈ m.dflt, ∀ c ∈ t, c < 256
  len : m.rules.length ≤ 1000000
set_option maxHeartbeats 4000000 in
theorem msame_any (v1 v2 : Value) (m1 m2 : Mn.M) (w : World) (h1 : RdM w v1 m1) (h2 : RdM w v2 m2) (t1 : ByteM m1) (t2 : ByteM m2) :
    Calls Tryz.prog 17 #[v1, v2] w fun e w' => e = .returned (.bool (decide (m1 = m2))) ∧ Below w.heap.size w w' := by
  obtain ⟨rv1, dv1, rfl, hr1, hd1⟩ := h1
  obtain ⟨rv2, dv2, rfl, hr2, hd2⟩ := h2
  obtain ⟨R1, D1⟩ := m1
  obtain ⟨R2, D2⟩ := m2
  have HR : Hid (∀ W, Below w.heap.size w W → Calls Tryz.prog 31 #[rv1, rv2, .func (.func 32) #[] #[]] W fun e w' => e = .returned (.bool (decide (R1 = R2))) ∧ Below W.heap.size W w') :=
    Lib.hid fun W hb => eqrules_any rv1 rv2 R1 R2 W (hr1.under hb) (hr2.under hb) t1.rules t2.rules t1.len t2.len
  have HD : Hid (∀ W, Below w.heap.size w W → Calls Tryz.prog 33 #[dv1, dv2] W fun e w' => e = .returned (.bool (decide (D1 = D2))) ∧ ∃ nq, w' = W.drewN nq) :=
    Lib.hid fun W hb => eqtexts_any dv1 dv2 D1 D2 W (hd1.later hb) (hd2.later hb) t1.dflt t2.dflt
  obtain ⟨a1, a2, rfl⟩ := hr1.shape
  obtain ⟨c1, c2, rfl⟩ := hr2.shape
  obtain ⟨b1, b2, b3, rfl⟩ := hd1.shape
  obtain ⟨d1, d2, d3, rfl⟩ := hd2.shape
  obtain ⟨br, hbr⟩ : ∃ b, decide (R1 = R2) = b := ⟨_, rfl⟩
  rw [hbr] at HR
  have HBR := Lib.hid hbr
  obtain ⟨bd, hbd⟩ : ∃ b, decide (D1 = D2) = b := ⟨_, rfl⟩
  rw [hbd] at HD
  have HBD := Lib.hid hbd
  obtain ⟨B, hB⟩ : ∃ B, decide ((⟨R1, D1⟩ : Mn.M) = ⟨R2, D2⟩) = B := ⟨_, rfl⟩
  rw [hB]
  have HB := Lib.hid hB
  have HW : Hid (∀ o1 o2, Below w.heap.size w ((w.alloc o1).alloc o2)) := Lib.hid fun o1 o2 => ((Below.refl _ _).alloc (Nat.le_refl _) o1).alloc (by simp) o2
  clear hr1 hr2 hd1 hd2 hbr hbd hB t1 t2
  rcases br with _ | _
  · have HF : Hid (B = false) := Lib.hid (by rw [← HB.out]; exact decide_eq_false (fun e => absurd (by injection e) (of_decide_eq_false HBR.out)))
    rw [HF.out]
    clear HB
    go_enter Tryz.func17, Tryz.ntmps17
    go_wp2_with fail
    refine (HR.out _ (HW.out _ _)).mono ?_
    rintro e w1 ⟨rfl, hb1⟩
    have HB1 : Hid (Below w.heap.size w w1) := Lib.hid ((HW.out _ _).trans (hb1.mono (by simp; omega)))
    clear hb1
    go_wp2
    go_ret
    exact ⟨rfl, HB1.out⟩
  · rcases bd with _ | _
    · have HF : Hid (B = false) := Lib.hid (by rw [← HB.out]; exact decide_eq_false (fun e => absurd (by injection e) (of_decide_eq_false HBD.out)))
      rw [HF.out]
      clear HB
      go_enter Tryz.func17, Tryz.ntmps17
      go_wp2_with fail
      refine (HR.out _ (HW.out _ _)).mono ?_
      rintro e w1 ⟨rfl, hb1⟩
      have hbx := two_boxes w #[.slice a1 R1.length a2, .slice b1 b2 b3] #[.slice c1 R2.length c2, .slice d1 d2 d3] 29 29
      have k1 : w1.cell? ⟨w.heap.size, 1, none⟩ = some (.slice b1 b2 b3) := (hbx.1.under hb1).at 1
      have k2 : w1.cell? ⟨w.heap.size + 1, 1, none⟩ = some (.slice d1 d2 d3) := (hbx.2.under hb1).at 1
      have HB1 : Hid (Below w.heap.size w w1) := Lib.hid ((HW.out _ _).trans (hb1.mono (by simp; omega)))
      clear hb1 hbx
      go_wp2_with fail
      refine (HD.out _ HB1.out).mono ?_
      rintro e w2 ⟨rfl, n2, rfl⟩
      go_wp2
      go_ret
      exact ⟨rfl, HB1.out.trans ⟨rfl, rfl, rfl, Nat.le_refl _, fun _ _ => rfl⟩⟩
    · have HT : Hid (B = true) := Lib.hid (by rw [← HB.out, of_decide_eq_true HBR.out, of_decide_eq_true HBD.out]; exact decide_eq_true rfl)
      rw [HT.out]
      clear HB
      go_enter Tryz.func17, Tryz.ntmps17
      go_wp2_with fail
      refine (HR.out _ (HW.out _ _)).mono ?_
      rintro e w1 ⟨rfl, hb1⟩
      have hbx := two_boxes w #[.slice a1 R1.length a2, .slice b1 b2 b3] #[.slice c1 R2.length c2, .slice d1 d2 d3] 29 29
      have k1 : w1.cell? ⟨w.heap.size, 1, none⟩ = some (.slice b1 b2 b3) := (hbx.1.under hb1).at 1
      have k2 : w1.cell? ⟨w.heap.size + 1, 1, none⟩ = some (.slice d1 d2 d3) := (hbx.2.under hb1).at 1
      have HB1 : Hid (Below w.heap.size w w1) := Lib.hid ((HW.out _ _).trans (hb1.mono (by simp; omega)))
      clear hb1 hbx
      go_wp2_with fail
      refine (HD.out _ HB1.out).mono ?_
      rintro e w2 ⟨rfl, n2, rfl⟩
      go_wp2
      go_ret
      exact ⟨rfl, HB1.out.trans ⟨rfl, rfl, rfl, Nat.le_refl _, fun _ _ => rfl⟩⟩
end Go.Proofs.YtgjehlegcmeeoaaGreatDoor
