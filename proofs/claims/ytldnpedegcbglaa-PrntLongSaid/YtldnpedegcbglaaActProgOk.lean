/- What package acts answers: is a row of things an action? -/
import Derived.Test.YtldnpedegcbglaaActRight
namespace Go.Proofs.Ytldnpedegcbglaa
set_option maxRecDepth 100000
open Go.ChangeShapes Go.WideShapes Go.ChangeAt Go.RowKit

theorem okL_of_all {L : List Ac.E} (h : ∀ i (h : i < L.length), Ac.okX (decide (i = 0)) (L[i]'h) = true) : Ac.okL L = (decide (1 ≤ L.length) && decide (L.length ≤ 8)) := by
  cases L with
  | nil => rfl
  | cons d r =>
    show (Ac.okX true d && r.all (Ac.okX false) && decide (r.length + 1 ≤ 8)) = _
    rw [show Ac.okX true d = true from h 0 (by simp), show r.all (Ac.okX false) = true from List.all_eq_true.2 fun x hx => by
      obtain ⟨i, hi, rfl⟩ := List.getElem_of_mem hx
      have := h (i + 1) (by simpa using hi)
      rw [List.getElem_cons_succ] at this
      exact this]
    simp
theorem okL_not_at {L : List Ac.E} {i : Nat} (hi : i < L.length) (h : Ac.okX (decide (i = 0)) (L[i]'hi) = false) : Ac.okL L = false := by
  cases L with
  | nil => rfl
  | cons d r =>
    show (Ac.okX true d && r.all (Ac.okX false) && decide (r.length + 1 ≤ 8)) = false
    cases i with
    | zero =>
      rw [show Ac.okX true d = false from h]
      rfl
    | succ i =>
      rw [show r.all (Ac.okX false) = false from ?_]
      · simp
      · rw [List.all_eq_false]
        refine ⟨r[i]'(by simpa using hi), List.getElem_mem _, ?_⟩
        rw [List.getElem_cons_succ] at h
        rw [show Ac.okX false (r[i]'(by simpa using hi)) = false from h]
        simp
theorem okL_many {L : List Ac.E} (h : L.length < 1 ∨ 8 < L.length) : Ac.okL L = false := by
  cases L with
  | nil => rfl
  | cons d r =>
    show (Ac.okX true d && r.all (Ac.okX false) && decide (r.length + 1 ≤ 8)) = false
    rw [List.length_cons] at h
    rw [decide_eq_false (by omega), Bool.and_false]
set_option maxRecDepth 100000 in
set_option maxHeartbeats 8000000 in
theorem okact_any (v : Value) (L : List Ac.E) (w : World) (hv : RdE w v L) (ht : ∀ d ∈ L, d.kind ≤ 1000000 ∧ (∀ c ∈ d.text, c < 256) ∧ d.text.length ≤ 1099511627776) :
    Calls Try.prog 40 #[v] w fun e w' => e = .returned (.bool (Ac.okL L)) ∧ Below w.heap.size w w' := by
  have HV := Lib.hid hv
  have HT := Lib.hid ht
  obtain ⟨A, c, rfl, hc, hm, _⟩ := hv
  obtain ⟨n, hn⟩ : ∃ n, L.length = n := ⟨_, rfl⟩
  rw [hn] at hc hm HV ⊢
  have HN := Lib.hid hn
  have HM := Lib.hid hm
  clear hn ht hm
  rcases Nat.lt_or_ge n 1 with h1 | h1
  · have h1I : (n : Int) < 1 := by omega
    have HW : Hid (Ac.okL L = false) := Lib.hid (okL_many (by rw [HN.out]; omega))
    clear h1
    go_enter Try.func40, Try.ntmps40
    go_wp2
    go_ret
    exact ⟨by rw [HW.out] <;> rfl, Below.refl _ _⟩
  rcases Nat.lt_or_ge 8 n with h8 | h8
  · have h1I : ¬ (n : Int) < 1 := by omega
    have h8I : (8 : Int) < (n : Int) := by omega
    have HW : Hid (Ac.okL L = false) := Lib.hid (okL_many (by rw [HN.out]; omega))
    go_enter Try.func40, Try.ntmps40
    go_wp2
    go_ret
    exact ⟨by rw [HW.out] <;> rfl, Below.refl _ _⟩
  have h1I : ¬ (n : Int) < 1 := by omega
  have h8I : ¬ (8 : Int) < (n : Int) := by omega
  go_enter Try.func40, Try.ntmps40
  go_wp2_with fail
  go_loopw [15] (fun iv wr => ∃ k : Nat, k ≤ n ∧ iv = .int .i64 (k : Int) ∧ Hid (∀ i (h : i < L.length), i < k → Ac.okX (decide (i = 0)) (L[i]'h) = true) ∧ Hid (Below w.heap.size w wr)) (fun iv _ => n - (intOf iv).toNat)
  case atStart => exact ⟨0, Nat.zero_le _, rfl, Lib.hid (fun i h h' => absurd h' (by omega)), Lib.hid (Below.refl _ _)⟩
  case round =>
    obtain ⟨k, hk, rfl, hall, hbl⟩ := hrel
    by_cases hlt : k < n
    · have hkI : (k : Int) < (n : Int) := by omega
      have hkL : k < L.length := by rw [HN.out]; exact hlt
      obtain ⟨b, off, rfl, p0, p1, p2⟩ := (HV.out.under hbl.out).at k hkL
      have HBAD : Hid (Ac.okX (decide (k = 0)) (L[k]'hkL) = false → Ac.okL L = false) := Lib.hid (okL_not_at hkL)
      have HNX : Hid (Ac.okX (decide (k = 0)) (L[k]'hkL) = true → ∀ i (h : i < L.length), i < k + 1 → Ac.okX (decide (i = 0)) (L[i]'h) = true) := Lib.hid (fun hk' i h h' => by
        rcases Nat.lt_or_ge i k with h1 | h1
        · exact hall.out i h h1
        · obtain rfl : i = k := by omega
          exact hk')
      have HTX := Lib.hid (HT.out _ (List.getElem_mem hkL))
      obtain ⟨x, hx⟩ : ∃ x, L[k]'hkL = x := ⟨_, rfl⟩
      rw [hx] at p0 p1 p2 HBAD HNX HTX
      clear hx hall hkL
      have HRT : Hid (∀ W, Calls Try.prog 50 #[.agg (cellsE x).toArray] W fun e w' => e = .returned (.bool (Ac.right x)) ∧ Below W.heap.size W w') := Lib.hid (fun W => right_any x W HTX.out.1 HTX.out.2)
      have HBG : Hid (∀ W, Calls Try.prog 49 #[.int .i64 (x.kind : Int)] W fun e w' => e = .returned (.bool (Ac.isFirst x.kind)) ∧ W = w') := Lib.hid (fun W => begins_any x.kind W HTX.out.1)
      obtain ⟨xk, xn, xt⟩ := x
      change wr.cell? ⟨b, off + k * 3, none⟩ = some (.int .i64 (xk : Int)) at p0
      change wr.cell? ⟨b, off + k * 3 + 1, none⟩ = some (.int .i64 xn) at p1
      change wr.cell? ⟨b, off + k * 3 + 2, none⟩ = some (.string (str xt)) at p2
      rw [show (cellsE ⟨xk, xn, xt⟩).toArray = #[.int .i64 (xk : Int), .int .i64 xn, .string (str xt)] from rfl] at HRT
      change Hid (∀ W, Calls Try.prog 49 #[.int .i64 (xk : Int)] W fun e w' => e = .returned (.bool (Ac.isFirst xk)) ∧ W = w') at HBG
      have HBA : Hid (∀ o, Below w.heap.size w (wr.alloc o)) := Lib.hid (fun o => hbl.out.alloc hbl.out.size o)
      obtain ⟨q, hq⟩ : ∃ q, decide (k = 0) = q := ⟨_, rfl⟩
      have hq2 : ((k : Int) == 0) = q := by
        rw [← hq]
        rcases Nat.eq_zero_or_pos k with h | h
        · subst h; rfl
        · rw [decide_eq_false (by omega)]; simp; omega
      rw [hq] at HBAD HNX
      clear hq
      unfold Ac.okX at HBAD HNX
      obtain ⟨p, hp⟩ : ∃ p, Ac.isFirst xk = p := ⟨_, rfl⟩
      obtain ⟨z, hz⟩ : ∃ z, Ac.right ⟨xk, xn, xt⟩ = z := ⟨_, rfl⟩
      rw [hz] at HBAD HNX HRT
      change Hid ((Ac.isFirst xk == q && z) = false → Ac.okL L = false) at HBAD
      change Hid ((Ac.isFirst xk == q && z) = true → _) at HNX
      rw [hp] at HBAD HNX HBG
      clear hp hz HTX
      by_cases hpq : p = q
      · subst hpq
        rcases z with _ | _
        · have HW := Lib.hid (HBAD.out (by simp))
          clear HBAD HNX
          go_wp2_with (go_at_call 49; refine (HBG.out _).mono ?_; rintro e w2 ⟨rfl, rfl⟩)
          refine (HRT.out _).mono ?_
          rintro e w3 ⟨rfl, hb3⟩
          have HB3 := Lib.hid ((HBA.out (.cells #[.int .i64 (xk : Int), .int .i64 xn, .string (str xt)] 26)).trans (hb3.mono (HBA.out _).size))
          clear hb3
          go_wp2
          go_ret
          exact ⟨by rw [HW.out] <;> rfl, HB3.out⟩
        · have HW := Lib.hid (HNX.out (by simp))
          clear HBAD HNX
          go_wp2_with (go_at_call 49; refine (HBG.out _).mono ?_; rintro e w2 ⟨rfl, rfl⟩)
          refine (HRT.out _).mono ?_
          rintro e w3 ⟨rfl, hb3⟩
          have HB3 := Lib.hid ((HBA.out (.cells #[.int .i64 (xk : Int), .int .i64 xn, .string (str xt)] 26)).trans (hb3.mono (HBA.out _).size))
          clear hb3
          go_wp2
          go_roundw
          case rel => exact ⟨k + 1, hlt, by go_num, HW, HB3⟩
          case measure => simp [intOf]; omega
      · have HW := Lib.hid (HBAD.out (by rw [show (p == q) = false from by simpa using hpq]; rfl))
        clear HBAD HNX
        rcases p with _ | _ <;> rcases q with _ | _
        · exact absurd rfl hpq
        · clear hpq
          go_wp2_with (go_at_call 49; refine (HBG.out _).mono ?_; rintro e w2 ⟨rfl, rfl⟩)
          go_ret
          exact ⟨by rw [HW.out] <;> rfl, HBA.out _⟩
        · clear hpq
          go_wp2_with (go_at_call 49; refine (HBG.out _).mono ?_; rintro e w2 ⟨rfl, rfl⟩)
          go_ret
          exact ⟨by rw [HW.out] <;> rfl, HBA.out _⟩
        · exact absurd rfl hpq
    · obtain rfl : k = n := by omega
      have HW : Hid (Ac.okL L = true) := Lib.hid (by
        rw [okL_of_all (fun i h => hall.out i h (by rw [HN.out] at h; exact h)), HN.out, decide_eq_true h1, decide_eq_true h8]
        rfl)
      clear hall
      go_wp2
      go_ret
      exact ⟨by rw [HW.out] <;> rfl, hbl.out⟩
end Go.Proofs.Ytldnpedegcbglaa
