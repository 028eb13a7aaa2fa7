/- The document's own answer for actions: is a row of things one? -/
import Derived.Test.YtemliglhippdcaaActRef
namespace Go.Proofs.Ytemliglhippdcaa
set_option maxRecDepth 100000
open Go.ChangeShapes Go.WideShapes Go.ChangeAt Go.RowKit

theorem ok_of_all {L : List Ac.D} (h : ∀ i (h : i < L.length), Ac.okD (decide (i = 0)) (L[i]'h) = true) : Ac.ok L = (decide (1 ≤ L.length) && decide (L.length ≤ 8)) := by
  cases L with
  | nil => rfl
  | cons d r =>
    show (Ac.okD true d && r.all (Ac.okD false) && decide (r.length + 1 ≤ 8)) = _
    rw [show Ac.okD true d = true from h 0 (by simp), show r.all (Ac.okD false) = true from List.all_eq_true.2 fun x hx => by
      obtain ⟨i, hi, rfl⟩ := List.getElem_of_mem hx
      have := h (i + 1) (by simpa using hi)
      rw [List.getElem_cons_succ] at this
      exact this]
    simp
theorem ok_not_at {L : List Ac.D} {i : Nat} (hi : i < L.length) (h : Ac.okD (decide (i = 0)) (L[i]'hi) = false) : Ac.ok L = false := by
  cases L with
  | nil => rfl
  | cons d r =>
    show (Ac.okD true d && r.all (Ac.okD false) && decide (r.length + 1 ≤ 8)) = false
    cases i with
    | zero =>
      rw [show Ac.okD true d = false from h]
      rfl
    | succ i =>
      rw [show r.all (Ac.okD false) = false from ?_]
      · simp
      · rw [List.all_eq_false]
        refine ⟨r[i]'(by simpa using hi), List.getElem_mem _, ?_⟩
        rw [List.getElem_cons_succ] at h
        rw [show Ac.okD false (r[i]'(by simpa using hi)) = false from h]
        simp
set_option maxRecDepth 100000 in
set_option maxHeartbeats 8000000 in
theorem refokact_any (v : Value) (L : List Ac.D) (w : World) (hv : RdD w v L) (ht : ∀ d ∈ L, (∀ c ∈ d.text, c < 256) ∧ d.text.length ≤ 1099511627776) :
    Calls Try.prog 77 #[v] w fun e w' => e = .returned (.bool (Ac.ok L)) ∧ Below w.heap.size w w' := by
  have HV := Lib.hid hv
  have HT := Lib.hid ht
  obtain ⟨A, c, rfl, hc, hm, _⟩ := hv
  obtain ⟨n, hn⟩ : ∃ n, L.length = n := ⟨_, rfl⟩
  rw [hn] at hc hm HV ⊢
  unfold maxLen at hm
  have HN := Lib.hid hn
  clear hn ht
  go_enter Try.func77, Try.ntmps77
  go_wp2_with fail
  go_loopw [3] (fun iv wr => ∃ k : Nat, k ≤ n ∧ iv = .int .i64 (k : Int) ∧ Hid (∀ i (h : i < L.length), i < k → Ac.okD (decide (i = 0)) (L[i]'h) = true) ∧ Hid (Below w.heap.size w wr)) (fun iv _ => n - (intOf iv).toNat)
  case atStart => exact ⟨0, Nat.zero_le _, rfl, Lib.hid (fun i h h' => absurd h' (by omega)), Lib.hid (Below.refl _ _)⟩
  case round =>
    obtain ⟨k, hk, rfl, hall, hbl⟩ := hrel
    by_cases hlt : k < n
    · have hkI : (k : Int) < (n : Int) := by omega
      have hkL : k < L.length := by rw [HN.out]; exact hlt
      obtain ⟨b, off, rfl, p0, p1, p2⟩ := (HV.out.under hbl.out).at k hkL
      have HBAD : Hid (Ac.okD (decide (k = 0)) (L[k]'hkL) = false → Ac.ok L = false) := Lib.hid (ok_not_at hkL)
      have HNX : Hid (Ac.okD (decide (k = 0)) (L[k]'hkL) = true → ∀ i (h : i < L.length), i < k + 1 → Ac.okD (decide (i = 0)) (L[i]'h) = true) := Lib.hid (fun hk' i h h' => by
        rcases Nat.lt_or_ge i k with h1 | h1
        · exact hall.out i h h1
        · obtain rfl : i = k := by omega
          exact hk')
      have HTX := Lib.hid (HT.out _ (List.getElem_mem hkL))
      obtain ⟨x, hx⟩ : ∃ x, L[k]'hkL = x := ⟨_, rfl⟩
      rw [hx] at p0 p1 p2 HBAD HNX HTX
      clear hx hall hkL
      obtain ⟨xk, xn, xt⟩ := x
      change wr.cell? ⟨b, off + k * 3, none⟩ = some (.int .i64 (xk : Int)) at p0
      change wr.cell? ⟨b, off + k * 3 + 1, none⟩ = some (.int .i64 (xn : Int)) at p1
      change wr.cell? ⟨b, off + k * 3 + 2, none⟩ = some (.string (str xt)) at p2
      change Hid ((∀ c ∈ xt, c < 256) ∧ xt.length ≤ 1099511627776) at HTX
      have HBA : Hid (∀ o, Below w.heap.size w (wr.alloc o)) := Lib.hid (fun o => hbl.out.alloc hbl.out.size o)
      have hn0 : ¬ (xn : Int) < 0 := by omega
      have hte : ((str xt).toList == []) = decide (xt = []) := by
        have := str_same (l := xt) (m := []) HTX.out.1 (by simp)
        rw [str_toList [], List.map_nil] at this
        exact this
      have hte2 : (str xt).toList.isEmpty = decide (xt = []) := by
        cases xt with
        | nil => rw [str_empty]; rfl
        | cons => rw [str_some]; rfl
      obtain ⟨q, hq⟩ : ∃ q, decide (k = 0) = q := ⟨_, rfl⟩
      have hq2 : ((k : Int) == 0) = q := by
        rw [← hq]
        rcases Nat.eq_zero_or_pos k with h | h
        · subst h; rfl
        · rw [decide_eq_false (by omega)]; simp; omega
      rw [hq] at HBAD HNX
      have hkind : xk = 0 ∨ xk = 1 ∨ xk = 2 ∨ xk = 3 ∨ xk = 4 ∨ xk = 5 ∨ xk = 6 ∨ xk = 7 ∨ xk = 8 ∨ xk = 9 ∨ xk = 10 ∨ xk = 11 ∨ 12 ≤ xk := by omega
      rcases hkind with rfl | rfl | rfl | rfl | rfl | rfl | rfl | rfl | rfl | rfl | rfl | rfl | hbig
      · skip
        have HW := Lib.hid (HBAD.out (by simp [Ac.okD]))
        clear HBAD HNX
        go_wp2
        go_ret
        exact ⟨by rw [HW.out]; rfl, HBA.out _⟩
      · skip
        rcases q with _ | _
        · skip
          have HW := Lib.hid (HBAD.out (by simp [Ac.okD, Ac.isFirst]))
          clear HBAD HNX
          go_wp2
          go_ret
          exact ⟨by rw [HW.out]; rfl, HBA.out _⟩
        · skip
          by_cases hmost : xn ≤ 0
          · have hmI : ¬ (0 : Int) < (xn : Int) := by omega
            rcases hpl : Ac.plainT xt with _ | _
            · skip
              have HPL := Lib.hid hpl
              have HW := Lib.hid (HBAD.out (by simp [Ac.okD, hpl]))
              clear HBAD HNX hpl
              go_wp2_with fail
              refine (refplain_any xt _ HTX.out.1 HTX.out.2).mono ?_
              rintro e w2 ⟨rfl, rfl⟩
              rw [HPL.out]
              go_wp2
              go_ret
              exact ⟨by rw [HW.out]; rfl, HBA.out _⟩
            · skip
              have HPL := Lib.hid hpl
              have HW := Lib.hid (HNX.out (by simp [Ac.okD, Ac.isFirst, Ac.isText, Ac.most, hpl]; try omega))
              clear HBAD HNX hpl
              go_wp2_with fail
              refine (refplain_any xt _ HTX.out.1 HTX.out.2).mono ?_
              rintro e w2 ⟨rfl, rfl⟩
              rw [HPL.out]
              go_wp2
              go_roundw
              case rel => exact ⟨k + 1, hlt, by go_num, HW, Lib.hid (HBA.out _)⟩
              case measure => simp [intOf]; omega
          · have hmI : (0 : Int) < (xn : Int) := by omega
            have HW := Lib.hid (HBAD.out (by simp [Ac.okD, Ac.most]; omega))
            clear HBAD HNX
            go_wp2
            go_ret
            exact ⟨by rw [HW.out]; rfl, HBA.out _⟩
      · skip
        rcases q with _ | _
        · skip
          have HW := Lib.hid (HBAD.out (by simp [Ac.okD, Ac.isFirst]))
          clear HBAD HNX
          go_wp2
          go_ret
          exact ⟨by rw [HW.out]; rfl, HBA.out _⟩
        · skip
          by_cases hmost : xn ≤ 15
          · have hmI : ¬ (15 : Int) < (xn : Int) := by omega
            rcases hpl : Ac.plainT xt with _ | _
            · skip
              have HPL := Lib.hid hpl
              have HW := Lib.hid (HBAD.out (by simp [Ac.okD, hpl]))
              clear HBAD HNX hpl
              go_wp2_with fail
              refine (refplain_any xt _ HTX.out.1 HTX.out.2).mono ?_
              rintro e w2 ⟨rfl, rfl⟩
              rw [HPL.out]
              go_wp2
              go_ret
              exact ⟨by rw [HW.out]; rfl, HBA.out _⟩
            · skip
              have HPL := Lib.hid hpl
              rcases hem : decide (xt = []) with _ | _
              · skip
                rw [hem] at hte hte2
                have HW := Lib.hid (HBAD.out (by simp [Ac.okD, Ac.isText]; simp at hem; simp [hem]))
                clear HBAD HNX hpl hem
                go_wp2_with fail
                refine (refplain_any xt _ HTX.out.1 HTX.out.2).mono ?_
                rintro e w2 ⟨rfl, rfl⟩
                rw [HPL.out]
                go_wp2
                go_ret
                exact ⟨by rw [HW.out]; rfl, HBA.out _⟩
              · skip
                rw [hem] at hte hte2
                have HW := Lib.hid (HNX.out (by simp at hem; subst hem; simp [Ac.okD, Ac.isFirst, Ac.isText, Ac.most, Ac.plainT]; try omega))
                clear HBAD HNX hpl hem
                go_wp2_with fail
                refine (refplain_any xt _ HTX.out.1 HTX.out.2).mono ?_
                rintro e w2 ⟨rfl, rfl⟩
                rw [HPL.out]
                go_wp2
                go_roundw
                case rel => exact ⟨k + 1, hlt, by go_num, HW, Lib.hid (HBA.out _)⟩
                case measure => simp [intOf]; omega
          · have hmI : (15 : Int) < (xn : Int) := by omega
            have HW := Lib.hid (HBAD.out (by simp [Ac.okD, Ac.most]; omega))
            clear HBAD HNX
            go_wp2
            go_ret
            exact ⟨by rw [HW.out]; rfl, HBA.out _⟩
      · skip
        rcases q with _ | _
        · skip
          have HW := Lib.hid (HBAD.out (by simp [Ac.okD, Ac.isFirst]))
          clear HBAD HNX
          go_wp2
          go_ret
          exact ⟨by rw [HW.out]; rfl, HBA.out _⟩
        · skip
          by_cases hmost : xn ≤ 0
          · have hmI : ¬ (0 : Int) < (xn : Int) := by omega
            rcases hpl : Ac.plainT xt with _ | _
            · skip
              have HPL := Lib.hid hpl
              have HW := Lib.hid (HBAD.out (by simp [Ac.okD, hpl]))
              clear HBAD HNX hpl
              go_wp2_with fail
              refine (refplain_any xt _ HTX.out.1 HTX.out.2).mono ?_
              rintro e w2 ⟨rfl, rfl⟩
              rw [HPL.out]
              go_wp2
              go_ret
              exact ⟨by rw [HW.out]; rfl, HBA.out _⟩
            · skip
              have HPL := Lib.hid hpl
              rcases hem : decide (xt = []) with _ | _
              · skip
                rw [hem] at hte hte2
                have HW := Lib.hid (HBAD.out (by simp [Ac.okD, Ac.isText]; simp at hem; simp [hem]))
                clear HBAD HNX hpl hem
                go_wp2_with fail
                refine (refplain_any xt _ HTX.out.1 HTX.out.2).mono ?_
                rintro e w2 ⟨rfl, rfl⟩
                rw [HPL.out]
                go_wp2
                go_ret
                exact ⟨by rw [HW.out]; rfl, HBA.out _⟩
              · skip
                rw [hem] at hte hte2
                have HW := Lib.hid (HNX.out (by simp at hem; subst hem; simp [Ac.okD, Ac.isFirst, Ac.isText, Ac.most, Ac.plainT]; try omega))
                clear HBAD HNX hpl hem
                go_wp2_with fail
                refine (refplain_any xt _ HTX.out.1 HTX.out.2).mono ?_
                rintro e w2 ⟨rfl, rfl⟩
                rw [HPL.out]
                go_wp2
                go_roundw
                case rel => exact ⟨k + 1, hlt, by go_num, HW, Lib.hid (HBA.out _)⟩
                case measure => simp [intOf]; omega
          · have hmI : (0 : Int) < (xn : Int) := by omega
            have HW := Lib.hid (HBAD.out (by simp [Ac.okD, Ac.most]; omega))
            clear HBAD HNX
            go_wp2
            go_ret
            exact ⟨by rw [HW.out]; rfl, HBA.out _⟩
      · skip
        rcases q with _ | _
        · skip
          by_cases hmost : xn ≤ 0
          · have hmI : ¬ (0 : Int) < (xn : Int) := by omega
            rcases hpl : Ac.plainT xt with _ | _
            · skip
              have HPL := Lib.hid hpl
              have HW := Lib.hid (HBAD.out (by simp [Ac.okD, hpl]))
              clear HBAD HNX hpl
              go_wp2_with fail
              refine (refplain_any xt _ HTX.out.1 HTX.out.2).mono ?_
              rintro e w2 ⟨rfl, rfl⟩
              rw [HPL.out]
              go_wp2
              go_ret
              exact ⟨by rw [HW.out]; rfl, HBA.out _⟩
            · skip
              have HPL := Lib.hid hpl
              rcases hem : decide (xt = []) with _ | _
              · skip
                rw [hem] at hte hte2
                have HW := Lib.hid (HBAD.out (by simp [Ac.okD, Ac.isText]; simp at hem; simp [hem]))
                clear HBAD HNX hpl hem
                go_wp2_with fail
                refine (refplain_any xt _ HTX.out.1 HTX.out.2).mono ?_
                rintro e w2 ⟨rfl, rfl⟩
                rw [HPL.out]
                go_wp2
                go_ret
                exact ⟨by rw [HW.out]; rfl, HBA.out _⟩
              · skip
                rw [hem] at hte hte2
                have HW := Lib.hid (HNX.out (by simp at hem; subst hem; simp [Ac.okD, Ac.isFirst, Ac.isText, Ac.most, Ac.plainT]; try omega))
                clear HBAD HNX hpl hem
                go_wp2_with fail
                refine (refplain_any xt _ HTX.out.1 HTX.out.2).mono ?_
                rintro e w2 ⟨rfl, rfl⟩
                rw [HPL.out]
                go_wp2
                go_roundw
                case rel => exact ⟨k + 1, hlt, by go_num, HW, Lib.hid (HBA.out _)⟩
                case measure => simp [intOf]; omega
          · have hmI : (0 : Int) < (xn : Int) := by omega
            have HW := Lib.hid (HBAD.out (by simp [Ac.okD, Ac.most]; omega))
            clear HBAD HNX
            go_wp2
            go_ret
            exact ⟨by rw [HW.out]; rfl, HBA.out _⟩
        · skip
          have HW := Lib.hid (HBAD.out (by simp [Ac.okD, Ac.isFirst]))
          clear HBAD HNX
          go_wp2
          go_ret
          exact ⟨by rw [HW.out]; rfl, HBA.out _⟩
      · skip
        rcases q with _ | _
        · skip
          by_cases hmost : xn ≤ 0
          · have hmI : ¬ (0 : Int) < (xn : Int) := by omega
            rcases hpl : Ac.plainT xt with _ | _
            · skip
              have HPL := Lib.hid hpl
              have HW := Lib.hid (HBAD.out (by simp [Ac.okD, hpl]))
              clear HBAD HNX hpl
              go_wp2_with fail
              refine (refplain_any xt _ HTX.out.1 HTX.out.2).mono ?_
              rintro e w2 ⟨rfl, rfl⟩
              rw [HPL.out]
              go_wp2
              go_ret
              exact ⟨by rw [HW.out]; rfl, HBA.out _⟩
            · skip
              have HPL := Lib.hid hpl
              rcases hem : decide (xt = []) with _ | _
              · skip
                rw [hem] at hte hte2
                have HW := Lib.hid (HBAD.out (by simp [Ac.okD, Ac.isText]; simp at hem; simp [hem]))
                clear HBAD HNX hpl hem
                go_wp2_with fail
                refine (refplain_any xt _ HTX.out.1 HTX.out.2).mono ?_
                rintro e w2 ⟨rfl, rfl⟩
                rw [HPL.out]
                go_wp2
                go_ret
                exact ⟨by rw [HW.out]; rfl, HBA.out _⟩
              · skip
                rw [hem] at hte hte2
                have HW := Lib.hid (HNX.out (by simp at hem; subst hem; simp [Ac.okD, Ac.isFirst, Ac.isText, Ac.most, Ac.plainT]; try omega))
                clear HBAD HNX hpl hem
                go_wp2_with fail
                refine (refplain_any xt _ HTX.out.1 HTX.out.2).mono ?_
                rintro e w2 ⟨rfl, rfl⟩
                rw [HPL.out]
                go_wp2
                go_roundw
                case rel => exact ⟨k + 1, hlt, by go_num, HW, Lib.hid (HBA.out _)⟩
                case measure => simp [intOf]; omega
          · have hmI : (0 : Int) < (xn : Int) := by omega
            have HW := Lib.hid (HBAD.out (by simp [Ac.okD, Ac.most]; omega))
            clear HBAD HNX
            go_wp2
            go_ret
            exact ⟨by rw [HW.out]; rfl, HBA.out _⟩
        · skip
          have HW := Lib.hid (HBAD.out (by simp [Ac.okD, Ac.isFirst]))
          clear HBAD HNX
          go_wp2
          go_ret
          exact ⟨by rw [HW.out]; rfl, HBA.out _⟩
      · skip
        rcases q with _ | _
        · skip
          by_cases hmost : xn ≤ 0
          · have hmI : ¬ (0 : Int) < (xn : Int) := by omega
            rcases hpl : Ac.plainT xt with _ | _
            · skip
              have HPL := Lib.hid hpl
              have HW := Lib.hid (HBAD.out (by simp [Ac.okD, hpl]))
              clear HBAD HNX hpl
              go_wp2_with fail
              refine (refplain_any xt _ HTX.out.1 HTX.out.2).mono ?_
              rintro e w2 ⟨rfl, rfl⟩
              rw [HPL.out]
              go_wp2
              go_ret
              exact ⟨by rw [HW.out]; rfl, HBA.out _⟩
            · skip
              have HPL := Lib.hid hpl
              rcases hem : decide (xt = []) with _ | _
              · skip
                rw [hem] at hte hte2
                have HW := Lib.hid (HBAD.out (by simp [Ac.okD, Ac.isText]; simp at hem; simp [hem]))
                clear HBAD HNX hpl hem
                go_wp2_with fail
                refine (refplain_any xt _ HTX.out.1 HTX.out.2).mono ?_
                rintro e w2 ⟨rfl, rfl⟩
                rw [HPL.out]
                go_wp2
                go_ret
                exact ⟨by rw [HW.out]; rfl, HBA.out _⟩
              · skip
                rw [hem] at hte hte2
                have HW := Lib.hid (HNX.out (by simp at hem; subst hem; simp [Ac.okD, Ac.isFirst, Ac.isText, Ac.most, Ac.plainT]; try omega))
                clear HBAD HNX hpl hem
                go_wp2_with fail
                refine (refplain_any xt _ HTX.out.1 HTX.out.2).mono ?_
                rintro e w2 ⟨rfl, rfl⟩
                rw [HPL.out]
                go_wp2
                go_roundw
                case rel => exact ⟨k + 1, hlt, by go_num, HW, Lib.hid (HBA.out _)⟩
                case measure => simp [intOf]; omega
          · have hmI : (0 : Int) < (xn : Int) := by omega
            have HW := Lib.hid (HBAD.out (by simp [Ac.okD, Ac.most]; omega))
            clear HBAD HNX
            go_wp2
            go_ret
            exact ⟨by rw [HW.out]; rfl, HBA.out _⟩
        · skip
          have HW := Lib.hid (HBAD.out (by simp [Ac.okD, Ac.isFirst]))
          clear HBAD HNX
          go_wp2
          go_ret
          exact ⟨by rw [HW.out]; rfl, HBA.out _⟩
      · skip
        rcases q with _ | _
        · skip
          by_cases hmost : xn ≤ 999
          · have hmI : ¬ (999 : Int) < (xn : Int) := by omega
            rcases hpl : Ac.plainT xt with _ | _
            · skip
              have HPL := Lib.hid hpl
              have HW := Lib.hid (HBAD.out (by simp [Ac.okD, hpl]))
              clear HBAD HNX hpl
              go_wp2_with fail
              refine (refplain_any xt _ HTX.out.1 HTX.out.2).mono ?_
              rintro e w2 ⟨rfl, rfl⟩
              rw [HPL.out]
              go_wp2
              go_ret
              exact ⟨by rw [HW.out]; rfl, HBA.out _⟩
            · skip
              have HPL := Lib.hid hpl
              rcases hem : decide (xt = []) with _ | _
              · skip
                rw [hem] at hte hte2
                have HW := Lib.hid (HBAD.out (by simp [Ac.okD, Ac.isText]; simp at hem; simp [hem]))
                clear HBAD HNX hpl hem
                go_wp2_with fail
                refine (refplain_any xt _ HTX.out.1 HTX.out.2).mono ?_
                rintro e w2 ⟨rfl, rfl⟩
                rw [HPL.out]
                go_wp2
                go_ret
                exact ⟨by rw [HW.out]; rfl, HBA.out _⟩
              · skip
                rw [hem] at hte hte2
                have HW := Lib.hid (HNX.out (by simp at hem; subst hem; simp [Ac.okD, Ac.isFirst, Ac.isText, Ac.most, Ac.plainT]; try omega))
                clear HBAD HNX hpl hem
                go_wp2_with fail
                refine (refplain_any xt _ HTX.out.1 HTX.out.2).mono ?_
                rintro e w2 ⟨rfl, rfl⟩
                rw [HPL.out]
                go_wp2
                go_roundw
                case rel => exact ⟨k + 1, hlt, by go_num, HW, Lib.hid (HBA.out _)⟩
                case measure => simp [intOf]; omega
          · have hmI : (999 : Int) < (xn : Int) := by omega
            have HW := Lib.hid (HBAD.out (by simp [Ac.okD, Ac.most]; omega))
            clear HBAD HNX
            go_wp2
            go_ret
            exact ⟨by rw [HW.out]; rfl, HBA.out _⟩
        · skip
          have HW := Lib.hid (HBAD.out (by simp [Ac.okD, Ac.isFirst]))
          clear HBAD HNX
          go_wp2
          go_ret
          exact ⟨by rw [HW.out]; rfl, HBA.out _⟩
      · skip
        rcases q with _ | _
        · skip
          by_cases hmost : xn ≤ 999
          · have hmI : ¬ (999 : Int) < (xn : Int) := by omega
            rcases hpl : Ac.plainT xt with _ | _
            · skip
              have HPL := Lib.hid hpl
              have HW := Lib.hid (HBAD.out (by simp [Ac.okD, hpl]))
              clear HBAD HNX hpl
              go_wp2_with fail
              refine (refplain_any xt _ HTX.out.1 HTX.out.2).mono ?_
              rintro e w2 ⟨rfl, rfl⟩
              rw [HPL.out]
              go_wp2
              go_ret
              exact ⟨by rw [HW.out]; rfl, HBA.out _⟩
            · skip
              have HPL := Lib.hid hpl
              rcases hem : decide (xt = []) with _ | _
              · skip
                rw [hem] at hte hte2
                have HW := Lib.hid (HBAD.out (by simp [Ac.okD, Ac.isText]; simp at hem; simp [hem]))
                clear HBAD HNX hpl hem
                go_wp2_with fail
                refine (refplain_any xt _ HTX.out.1 HTX.out.2).mono ?_
                rintro e w2 ⟨rfl, rfl⟩
                rw [HPL.out]
                go_wp2
                go_ret
                exact ⟨by rw [HW.out]; rfl, HBA.out _⟩
              · skip
                rw [hem] at hte hte2
                have HW := Lib.hid (HNX.out (by simp at hem; subst hem; simp [Ac.okD, Ac.isFirst, Ac.isText, Ac.most, Ac.plainT]; try omega))
                clear HBAD HNX hpl hem
                go_wp2_with fail
                refine (refplain_any xt _ HTX.out.1 HTX.out.2).mono ?_
                rintro e w2 ⟨rfl, rfl⟩
                rw [HPL.out]
                go_wp2
                go_roundw
                case rel => exact ⟨k + 1, hlt, by go_num, HW, Lib.hid (HBA.out _)⟩
                case measure => simp [intOf]; omega
          · have hmI : (999 : Int) < (xn : Int) := by omega
            have HW := Lib.hid (HBAD.out (by simp [Ac.okD, Ac.most]; omega))
            clear HBAD HNX
            go_wp2
            go_ret
            exact ⟨by rw [HW.out]; rfl, HBA.out _⟩
        · skip
          have HW := Lib.hid (HBAD.out (by simp [Ac.okD, Ac.isFirst]))
          clear HBAD HNX
          go_wp2
          go_ret
          exact ⟨by rw [HW.out]; rfl, HBA.out _⟩
      · skip
        rcases q with _ | _
        · skip
          by_cases hmost : xn ≤ 0
          · have hmI : ¬ (0 : Int) < (xn : Int) := by omega
            rcases hpl : Ac.plainT xt with _ | _
            · skip
              have HPL := Lib.hid hpl
              have HW := Lib.hid (HBAD.out (by simp [Ac.okD, hpl]))
              clear HBAD HNX hpl
              go_wp2_with fail
              refine (refplain_any xt _ HTX.out.1 HTX.out.2).mono ?_
              rintro e w2 ⟨rfl, rfl⟩
              rw [HPL.out]
              go_wp2
              go_ret
              exact ⟨by rw [HW.out]; rfl, HBA.out _⟩
            · skip
              have HPL := Lib.hid hpl
              rcases hem : decide (xt = []) with _ | _
              · skip
                rw [hem] at hte hte2
                have HW := Lib.hid (HBAD.out (by simp [Ac.okD, Ac.isText]; simp at hem; simp [hem]))
                clear HBAD HNX hpl hem
                go_wp2_with fail
                refine (refplain_any xt _ HTX.out.1 HTX.out.2).mono ?_
                rintro e w2 ⟨rfl, rfl⟩
                rw [HPL.out]
                go_wp2
                go_ret
                exact ⟨by rw [HW.out]; rfl, HBA.out _⟩
              · skip
                rw [hem] at hte hte2
                have HW := Lib.hid (HNX.out (by simp at hem; subst hem; simp [Ac.okD, Ac.isFirst, Ac.isText, Ac.most, Ac.plainT]; try omega))
                clear HBAD HNX hpl hem
                go_wp2_with fail
                refine (refplain_any xt _ HTX.out.1 HTX.out.2).mono ?_
                rintro e w2 ⟨rfl, rfl⟩
                rw [HPL.out]
                go_wp2
                go_roundw
                case rel => exact ⟨k + 1, hlt, by go_num, HW, Lib.hid (HBA.out _)⟩
                case measure => simp [intOf]; omega
          · have hmI : (0 : Int) < (xn : Int) := by omega
            have HW := Lib.hid (HBAD.out (by simp [Ac.okD, Ac.most]; omega))
            clear HBAD HNX
            go_wp2
            go_ret
            exact ⟨by rw [HW.out]; rfl, HBA.out _⟩
        · skip
          have HW := Lib.hid (HBAD.out (by simp [Ac.okD, Ac.isFirst]))
          clear HBAD HNX
          go_wp2
          go_ret
          exact ⟨by rw [HW.out]; rfl, HBA.out _⟩
      · skip
        rcases q with _ | _
        · skip
          by_cases hmost : xn ≤ 0
          · have hmI : ¬ (0 : Int) < (xn : Int) := by omega
            rcases hpl : Ac.plainT xt with _ | _
            · skip
              have HPL := Lib.hid hpl
              have HW := Lib.hid (HBAD.out (by simp [Ac.okD, hpl]))
              clear HBAD HNX hpl
              go_wp2_with fail
              refine (refplain_any xt _ HTX.out.1 HTX.out.2).mono ?_
              rintro e w2 ⟨rfl, rfl⟩
              rw [HPL.out]
              go_wp2
              go_ret
              exact ⟨by rw [HW.out]; rfl, HBA.out _⟩
            · skip
              have HPL := Lib.hid hpl
              have HW := Lib.hid (HNX.out (by simp [Ac.okD, Ac.isFirst, Ac.isText, Ac.most, hpl]; try omega))
              clear HBAD HNX hpl
              go_wp2_with fail
              refine (refplain_any xt _ HTX.out.1 HTX.out.2).mono ?_
              rintro e w2 ⟨rfl, rfl⟩
              rw [HPL.out]
              go_wp2
              go_roundw
              case rel => exact ⟨k + 1, hlt, by go_num, HW, Lib.hid (HBA.out _)⟩
              case measure => simp [intOf]; omega
          · have hmI : (0 : Int) < (xn : Int) := by omega
            have HW := Lib.hid (HBAD.out (by simp [Ac.okD, Ac.most]; omega))
            clear HBAD HNX
            go_wp2
            go_ret
            exact ⟨by rw [HW.out]; rfl, HBA.out _⟩
        · skip
          have HW := Lib.hid (HBAD.out (by simp [Ac.okD, Ac.isFirst]))
          clear HBAD HNX
          go_wp2
          go_ret
          exact ⟨by rw [HW.out]; rfl, HBA.out _⟩
      · skip
        rcases q with _ | _
        · skip
          by_cases hmost : xn ≤ 0
          · have hmI : ¬ (0 : Int) < (xn : Int) := by omega
            rcases hpl : Ac.plainT xt with _ | _
            · skip
              have HPL := Lib.hid hpl
              have HW := Lib.hid (HBAD.out (by simp [Ac.okD, hpl]))
              clear HBAD HNX hpl
              go_wp2_with fail
              refine (refplain_any xt _ HTX.out.1 HTX.out.2).mono ?_
              rintro e w2 ⟨rfl, rfl⟩
              rw [HPL.out]
              go_wp2
              go_ret
              exact ⟨by rw [HW.out]; rfl, HBA.out _⟩
            · skip
              have HPL := Lib.hid hpl
              rcases hem : decide (xt = []) with _ | _
              · skip
                rw [hem] at hte hte2
                have HW := Lib.hid (HBAD.out (by simp [Ac.okD, Ac.isText]; simp at hem; simp [hem]))
                clear HBAD HNX hpl hem
                go_wp2_with fail
                refine (refplain_any xt _ HTX.out.1 HTX.out.2).mono ?_
                rintro e w2 ⟨rfl, rfl⟩
                rw [HPL.out]
                go_wp2
                go_ret
                exact ⟨by rw [HW.out]; rfl, HBA.out _⟩
              · skip
                rw [hem] at hte hte2
                have HW := Lib.hid (HNX.out (by simp at hem; subst hem; simp [Ac.okD, Ac.isFirst, Ac.isText, Ac.most, Ac.plainT]; try omega))
                clear HBAD HNX hpl hem
                go_wp2_with fail
                refine (refplain_any xt _ HTX.out.1 HTX.out.2).mono ?_
                rintro e w2 ⟨rfl, rfl⟩
                rw [HPL.out]
                go_wp2
                go_roundw
                case rel => exact ⟨k + 1, hlt, by go_num, HW, Lib.hid (HBA.out _)⟩
                case measure => simp [intOf]; omega
          · have hmI : (0 : Int) < (xn : Int) := by omega
            have HW := Lib.hid (HBAD.out (by simp [Ac.okD, Ac.most]; omega))
            clear HBAD HNX
            go_wp2
            go_ret
            exact ⟨by rw [HW.out]; rfl, HBA.out _⟩
        · skip
          have HW := Lib.hid (HBAD.out (by simp [Ac.okD, Ac.isFirst]))
          clear HBAD HNX
          go_wp2
          go_ret
          exact ⟨by rw [HW.out]; rfl, HBA.out _⟩
      · have hbI : (11 : Int) < (xk : Int) := by omega
        have hlI : ¬ (xk : Int) < 1 := by omega
        have hne1 : ((xk : Int) == 1) = false := by simp; omega
        have hne2 : ((xk : Int) == 2) = false := by simp; omega
        have hne3 : ((xk : Int) == 3) = false := by simp; omega
        have hne7 : ((xk : Int) == 7) = false := by simp; omega
        have hne8 : ((xk : Int) == 8) = false := by simp; omega
        have hne10 : ((xk : Int) == 10) = false := by simp; omega
        have HW := Lib.hid (HBAD.out (by simp [Ac.okD]; omega))
        clear HBAD HNX
        go_wp2
        go_ret
        exact ⟨by rw [HW.out]; rfl, HBA.out _⟩
    · obtain rfl : k = n := by omega
      have HW := Lib.hid (ok_of_all fun i h => hall.out i h (by rw [HN.out] at h; exact h))
      rcases Nat.eq_zero_or_pos k with h0 | h0
      · subst h0
        go_wp2
        go_ret
        exact ⟨by rw [HW.out, HN.out]; rfl, hbl.out⟩
      · have h1 : (1 : Int) ≤ (k : Int) := by omega
        rcases Nat.lt_or_ge 8 k with h | h
        · have h2 : ¬ (k : Int) ≤ 8 := by omega
          go_wp2
          go_ret
          exact ⟨by rw [HW.out, HN.out, decide_eq_false (show ¬ k ≤ 8 by omega)]; simp, hbl.out⟩
        · have h2 : (k : Int) ≤ 8 := by omega
          go_wp2
          go_ret
          exact ⟨by rw [HW.out, HN.out, decide_eq_true (show 1 ≤ k by omega), decide_eq_true (show k ≤ 8 by omega)]; rfl, hbl.out⟩
end Go.Proofs.Ytemliglhippdcaa
