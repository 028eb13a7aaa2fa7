/- The document's own files: the names in a folder. -/
import Derived.Test.YtlfgadcfjjjbfaaRfApp
namespace Go.Proofs.Ytlfgadcfjjjbfaa
set_option maxRecDepth 100000
open Go.ChangeShapes Go.WideShapes Go.ChangeAt Go.RowKit Go.ChangeMaps
open Sf

/-- Whether a name lies in a folder, as far as its first k bytes tell. -/
def scanIn (t d : List Nat) : Nat → Bool
  | 0 => decide (d = [])
  | k + 1 => if t.getD k 0 = 47 then decide (d ≠ []) && decide (t.take k = d) else scanIn t d k
def lastIn (t d : List Nat) : Bool := if d = [] then scanIn t d t.length else if t.length ≤ d.length then false else if t.take d.length = d then scanIn t d t.length else false
theorem ok_noslash {l : List Nat} (h : Nm.ok l = true) (k : Nat) : l.getD k 0 ≠ 47 := by
  unfold Nm.ok at h
  simp only [Bool.and_eq_true, decide_eq_true_eq] at h
  by_cases hk : k < l.length
  · have := List.all_eq_true.1 h.1.1 _ (List.getElem_mem hk)
    rw [List.getD_eq_getElem?_getD, List.getElem?_eq_getElem hk]
    intro e
    rw [show (some l[k]).getD 0 = l[k] from rfl] at e
    rw [e] at this
    exact absurd this (by decide)
  · rw [List.getD_eq_getElem?_getD, List.getElem?_eq_none (by omega)]
    simp
theorem scan_none (t d : List Nat) : ∀ k, (∀ j, j < k → t.getD j 0 ≠ 47) → scanIn t d k = decide (d = [])
  | 0, _ => rfl
  | k + 1, h => by
    unfold scanIn
    rw [if_neg (h k (by omega))]
    exact scan_none t d k fun j hj => h j (by omega)
theorem scan_past (t d : List Nat) {k0 : Nat} (hx : t.getD k0 0 = 47) (hb : ∀ j, k0 < j → t.getD j 0 ≠ 47) : ∀ n, scanIn t d (k0 + 1 + n) = (decide (d ≠ []) && decide (t.take k0 = d))
  | 0 => by
    show scanIn t d (k0 + 1) = _
    unfold scanIn
    rw [if_pos hx]
  | n + 1 => by
    show scanIn t d (k0 + 1 + n + 1) = _
    unfold scanIn
    rw [if_neg (hb _ (by omega))]
    exact scan_past t d hx hb n
theorem first_slash {t : List Nat} (h : 47 ∈ t) : ∃ k, k < t.length ∧ t.getD k 0 = 47 ∧ ∀ j, j < k → t.getD j 0 ≠ 47 := by
  induction t with
  | nil => cases h
  | cons x r ih =>
    by_cases hx : x = 47
    · exact ⟨0, by simp, by simpa using hx, fun j hj => by omega⟩
    · obtain ⟨k, h1, h2, h3⟩ := ih (by simpa [Ne.symm hx] using h)
      refine ⟨k + 1, by simpa using h1, by simpa using h2, fun j hj => ?_⟩
      rcases j with _ | j
      · simpa using hx
      · simpa using h3 j (by omega)
theorem last_is {t : List Nat} (d : List Nat) (hf : Nm.file t = true) : lastIn t d = decide (folder t = d) := by
  by_cases h : 47 ∈ t
  · obtain ⟨k, hk, hx, hall⟩ := first_slash h
    rw [Nm.file_at hk hx hall] at hf
    obtain ⟨f1, f2⟩ := Bool.and_eq_true_iff.1 hf
    have hne : t.take k ≠ [] := fun e => by rw [e] at f1; cases f1
    have hb : ∀ j, k < j → t.getD j 0 ≠ 47 := fun j hj => by
      have := ok_noslash f2 (j - (k + 1))
      rwa [List.getD_eq_getElem?_getD, List.getElem?_drop, show k + 1 + (j - (k + 1)) = j by omega, ← List.getD_eq_getElem?_getD] at this
    have hs : scanIn t d t.length = (decide (d ≠ []) && decide (t.take k = d)) := by
      have := scan_past t d hx hb (t.length - (k + 1))
      rwa [show k + 1 + (t.length - (k + 1)) = t.length by omega] at this
    rw [folder_at hk hx hall]
    unfold lastIn
    rw [hs]
    by_cases hd : d = []
    · subst hd
      simp [hne]
    · by_cases he : t.take k = d
      · have hl : d.length = k := by rw [← he, List.length_take]; omega
        rw [hl]
        simp [hd, he, show ¬ t.length ≤ k by omega]
      · simp [hd, he]
  · have hs : scanIn t d t.length = decide (d = []) := scan_none t d _ fun j hj e => h (by
      rw [List.getD_eq_getElem?_getD, List.getElem?_eq_getElem hj] at e
      rw [← show t[j] = 47 from e]
      exact List.getElem_mem hj)
    rw [folder_no h]
    unfold lastIn
    rw [hs]
    by_cases hd : d = []
    · simp [hd]
    · simp [hd, Ne.symm hd]
theorem list_take (l : List Fi) (d : List Nat) {k : Nat} (hk : k < l.length) : list (l.take (k + 1)) d = list (l.take k) d ++ (if folder (l[k]'hk).name = d then [(l[k]'hk).name] else []) := by
  unfold list
  rw [List.take_succ_eq_append_getElem hk, List.map_append, List.filter_append]
  congr 1
  by_cases h : folder (l[k]'hk).name = d <;> simp [h]

set_option maxHeartbeats 4000000 in
theorem rlist_any (d : List Nat) (w : World) (q : Nat) (lv : Value) (G : Nat → Prop) (s : S) (h : Rf w q lv G s) (hd : ∀ c ∈ d, c < 256) (hdl : d.length ≤ 1048576) (hf : ∀ x ∈ s.l, Nm.file x.name = true) :
    Calls Try.prog 30 #[.pointer (some ⟨q, 0, none⟩), .string (str d)] w fun e w' => ∃ v, e = .returned v ∧ OwnT w' w.heap.size v (list s.l d) ∧ Below w.heap.size w w' := by
  have k0 : w.cell? ⟨q, 0, none⟩ = some lv := h.blk.at 0
  obtain ⟨A, c, rfl, hc, hm⟩ := h.shape
  obtain ⟨n, hn⟩ : ∃ n, s.l.length = n := ⟨_, rfl⟩
  have H := Lib.hid h
  have HD := Lib.hid hd
  have HF := Lib.hid hf
  rw [hn] at hc hm k0 H
  have HN := Lib.hid hn
  have K0 := Lib.hid k0
  clear hn h hd hf k0
  go_enter Try.func30, Try.ntmps30
  go_wp2_with fail
  go_loopw [5, 6] (fun ov iv wr => ∃ k : Nat, k ≤ n ∧ iv = .int .i64 (k : Int) ∧ Hid (OwnT wr w.heap.size ov (list (s.l.take k) d)) ∧ Hid (Below w.heap.size w wr)) (fun _ iv _ => n - (intOf iv).toNat)
  case atStart => exact ⟨0, by omega, rfl, Lib.hid (ownT_none _ _), Lib.hid (Below.refl _ _)⟩
  case round =>
    obtain ⟨k, hk, rfl, HO, HB⟩ := hrel
    have k0 : wr.cell? ⟨q, 0, none⟩ = some (.slice A n c) := (H.out.under HB.out).blk.at 0
    by_cases hlt : k < n
    · have hlt' : (k : Int) < (n : Int) := by omega
      have hkl : k < s.l.length := by rw [HN.out]; exact hlt
      obtain ⟨-, -, b, off, rfl, c1, -, -⟩ := (H.out.under HB.out).at hkl
      obtain ⟨t, ht⟩ : ∃ t, (s.l[k]'hkl).name = t := ⟨_, rfl⟩
      rw [ht] at c1
      have HT : Hid ((∀ c ∈ t, c < 256) ∧ t.length ≤ 1048576 ∧ Nm.file t = true) := Lib.hid (by
        have h1 := H.out.good.2.1 _ (List.getElem_mem hkl)
        have h2 := HF.out _ (List.getElem_mem hkl)
        rw [ht] at h1 h2
        exact ⟨h1.1, h1.2.1, h2⟩)
      have HL : Hid (list (s.l.take (k + 1)) d = list (s.l.take k) d ++ (if lastIn t d then [t] else [])) := Lib.hid (by
        rw [list_take s.l d hkl, ht, last_is d HT.out.2.2]
        by_cases e : folder t = d <;> simp [e])
      clear ht
      obtain ⟨d0, hd0⟩ : ∃ d0 : Bool, decide (d = []) = d0 := ⟨_, rfl⟩
      have hs1 : (str d).toList.isEmpty = d0 := by rw [← hd0]; cases d <;> simp [str_empty, str_some]
      have HD0 := Lib.hid hd0
      clear hd0
      obtain ⟨m, hm2⟩ : ∃ m, t.length = m := ⟨_, rfl⟩
      obtain ⟨dn, hdn⟩ : ∃ dn, d.length = dn := ⟨_, rfl⟩
      have hsz := str_size t
      have hszd := str_size d
      rw [hm2] at hsz
      rw [hdn] at hszd hdl
      have HM := Lib.hid (And.intro hm2 (And.intro HT.out.2.1 hdn))
      have hmm : m ≤ 1048576 := by rw [← hm2]; exact HT.out.2.1
      have HG := Lib.hid (fun k h => str_get HT.out.1 k h)
      have hpart := fun (a b : Nat) => str_part t a b
      clear hm2 hdn
      go_wp2_with fail
      go_loopw [8, 9] (fun bv jv wx => ∃ j : Nat, j ≤ m ∧ jv = .int .i64 (j : Int) ∧ (∃ b0 : Bool, bv = .bool b0 ∧ Hid (scanIn t d j = b0)) ∧ wx = wr) (fun _ jv _ => m - (intOf jv).toNat)
      case atStart => exact ⟨0, by omega, rfl, ⟨_, rfl, HD0⟩, rfl⟩
      case round =>
        obtain ⟨j, hj, rfl, ⟨b0, rfl, HS⟩, rfl⟩ := hrel
        by_cases hjt : j < m
        · have hjt' : (j : Int) < (m : Int) := by omega
          have hjm : (j : Int) ≤ (m : Int) := by omega
          have hks : j < (str t).size := by rw [hsz]; exact hjt
          obtain ⟨x, hx, HX⟩ : ∃ x, ((str t)[j]'hks).toNat = x ∧ Hid (t.getD j 0 = x) := ⟨_, rfl, Lib.hid (HG.out j hks).symm⟩
          by_cases h47 : x = 47
          · subst h47
            cases d0
            · have hse := str_same (l := t.take j) (m := d) (fun c hc => HT.out.1 c (List.mem_of_mem_take hc)) HD.out
              obtain ⟨e0, he0⟩ : ∃ e0 : Bool, decide (t.take j = d) = e0 := ⟨_, rfl⟩
              rw [he0] at hse
              have HS2 : Hid (scanIn t d (j + 1) = e0) := Lib.hid (by
                unfold scanIn
                rw [if_pos HX.out, he0]
                have := HD0.out
                simp at this
                simp [this])
              clear he0
              go_wp2
              go_roundw
              case rel => exact ⟨j + 1, by omega, by go_num, ⟨_, rfl, HS2⟩, by first | rfl | trivial⟩
              case measure => simp [intOf]; omega
            · have HS2 : Hid (scanIn t d (j + 1) = false) := Lib.hid (by
                unfold scanIn
                rw [if_pos HX.out]
                have := HD0.out
                simp at this
                simp [this])
              go_wp2
              go_roundw
              case rel => exact ⟨j + 1, by omega, by go_num, ⟨_, rfl, HS2⟩, by first | rfl | trivial⟩
              case measure => simp [intOf]; omega
          · have h47' : ¬ (x : Int) = 47 := by omega
            have HS2 : Hid (scanIn t d (j + 1) = b0) := Lib.hid (by
              unfold scanIn
              rw [if_neg (by rw [HX.out]; exact h47)]
              exact HS.out)
            clear h47
            go_wp2
            go_roundw
            case rel => exact ⟨j + 1, by omega, by go_num, ⟨_, rfl, HS2⟩, by first | rfl | trivial⟩
            case measure => simp [intOf]; omega
        · obtain rfl : m = j := by omega
          cases d0
          · by_cases hmd : m ≤ dn
            · have hmdi : (m : Int) ≤ (dn : Int) := by omega
              have HLI : Hid (lastIn t d = false) := Lib.hid (by
                have h0 := HD0.out
                simp at h0
                unfold lastIn
                rw [HM.out.1, HM.out.2.2, HS.out]
                simp [h0, hmd])
              have HR : Hid (list (s.l.take k) d = list (s.l.take (k + 1)) d) := Lib.hid (by rw [HL.out, HLI.out]; simp)
              clear k0 c1
              go_wp2
              go_roundw
              case rel => exact ⟨k + 1, by omega, by go_num, Lib.hid (by rw [← HR.out]; exact HO.out), HB⟩
              case measure => simp [intOf]; omega
            · have hmdi : ¬ (m : Int) ≤ (dn : Int) := by omega
              have hdm : dn ≤ m := by omega
              have hdmi : (dn : Int) ≤ (m : Int) := by omega
              have hse := str_same (l := t.take dn) (m := d) (fun c hc => HT.out.1 c (List.mem_of_mem_take hc)) HD.out
              by_cases he : t.take dn = d
              · rw [decide_eq_true he] at hse
                cases b0
                · have HLI : Hid (lastIn t d = false) := Lib.hid (by
                    have h0 := HD0.out
                    simp at h0
                    unfold lastIn
                    rw [HM.out.1, HM.out.2.2, HS.out]
                    simp [h0, hmd, he])
                  clear he
                  have HR : Hid (list (s.l.take k) d = list (s.l.take (k + 1)) d) := Lib.hid (by rw [HL.out, HLI.out]; simp)
                  clear k0 c1
                  go_wp2
                  go_roundw
                  case rel => exact ⟨k + 1, by omega, by go_num, Lib.hid (by rw [← HR.out]; exact HO.out), HB⟩
                  case measure => simp [intOf]; omega
                · have HLI : Hid (lastIn t d = true) := Lib.hid (by
                    have h0 := HD0.out
                    simp at h0
                    unfold lastIn
                    rw [HM.out.1, HM.out.2.2, HS.out]
                    simp [h0, hmd, he])
                  clear he
                  have HR : Hid (list (s.l.take k) d ++ [t] = list (s.l.take (k + 1)) d) := Lib.hid (by rw [HL.out, HLI.out]; rfl)
                  have HLN : Hid ((list (s.l.take k) d).length ≤ 1099511627776) := Lib.hid (by
                    have h1 : (list (s.l.take k) d).length ≤ (s.l.take k).length := by unfold list; exact Nat.le_trans (List.length_filter_le _ _) (by rw [List.length_map]; exact Nat.le_refl _)
                    rw [List.length_take] at h1
                    omega)
                  clear k0 c1
                  go_wp2_with (first
                    | (at_builtin; refine wpList_append_text rfl _ _ rfl w.heap.size u5 (list (s.l.take k) d) t rfl HO.out rfl _ HLN.out HB.out.size _ HR.out ?_; intro v' w3 hgr)
                    | fail)
                  refine ⟨⟨k + 1, by omega, by go_num, Lib.hid hgr.1, Lib.hid ((HB.out.alloc HB.out.size _).trans hgr.2.2)⟩, ?_⟩
                  simp [intOf]
                  omega
              · rw [decide_eq_false he] at hse
                have HLI : Hid (lastIn t d = false) := Lib.hid (by
                  have h0 := HD0.out
                  simp at h0
                  unfold lastIn
                  rw [HM.out.1, HM.out.2.2, HS.out]
                  simp [h0, hmd, he])
                clear he
                have HR : Hid (list (s.l.take k) d = list (s.l.take (k + 1)) d) := Lib.hid (by rw [HL.out, HLI.out]; simp)
                clear k0 c1
                go_wp2
                go_roundw
                case rel => exact ⟨k + 1, by omega, by go_num, Lib.hid (by rw [← HR.out]; exact HO.out), HB⟩
                case measure => simp [intOf]; omega
          · cases b0
            · have HLI : Hid (lastIn t d = false) := Lib.hid (by
                have h0 := HD0.out
                simp at h0
                unfold lastIn
                rw [HM.out.1, HM.out.2.2, HS.out]
                simp [h0])
              have HR : Hid (list (s.l.take k) d = list (s.l.take (k + 1)) d) := Lib.hid (by rw [HL.out, HLI.out]; simp)
              clear k0 c1
              go_wp2
              go_roundw
              case rel => exact ⟨k + 1, by omega, by go_num, Lib.hid (by rw [← HR.out]; exact HO.out), HB⟩
              case measure => simp [intOf]; omega
            · have HLI : Hid (lastIn t d = true) := Lib.hid (by
                have h0 := HD0.out
                simp at h0
                unfold lastIn
                rw [HM.out.1, HM.out.2.2, HS.out]
                simp [h0])
              have HR : Hid (list (s.l.take k) d ++ [t] = list (s.l.take (k + 1)) d) := Lib.hid (by rw [HL.out, HLI.out]; rfl)
              have HLN : Hid ((list (s.l.take k) d).length ≤ 1099511627776) := Lib.hid (by
                have h1 : (list (s.l.take k) d).length ≤ (s.l.take k).length := by unfold list; exact Nat.le_trans (List.length_filter_le _ _) (by rw [List.length_map]; exact Nat.le_refl _)
                rw [List.length_take] at h1
                omega)
              clear k0 c1
              go_wp2_with (first
                | (at_builtin; refine wpList_append_text rfl _ _ rfl w.heap.size u5 (list (s.l.take k) d) t rfl HO.out rfl _ HLN.out HB.out.size _ HR.out ?_; intro v' w3 hgr)
                | fail)
              refine ⟨⟨k + 1, by omega, by go_num, Lib.hid hgr.1, Lib.hid ((HB.out.alloc HB.out.size _).trans hgr.2.2)⟩, ?_⟩
              simp [intOf]
              omega
    · obtain rfl : n = k := by omega
      have HE : Hid (list s.l d = list (s.l.take n) d) := Lib.hid (by rw [List.take_of_length_le (by rw [HN.out]; exact Nat.le_refl _)])
      go_wp2
      go_ret
      exact ⟨_, rfl, by rw [HE.out]; exact HO.out, HB.out⟩
end Go.Proofs.Ytlfgadcfjjjbfaa
