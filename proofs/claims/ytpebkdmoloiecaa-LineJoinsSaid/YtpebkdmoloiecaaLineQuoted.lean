/- The reader reads a text in quotes. -/
import Derived.Test.YtpebkdmoloiecaaLineMore
namespace Go.Proofs.Ytpebkdmoloiecaa
open Go.ChangeShapes Go.WideShapes Go.ChangeAt Go.RowKit

set_option maxRecDepth 100000 in
set_option maxHeartbeats 4000000 in
theorem quoted_any (v : Value) (t : List Nat) (num g i : Nat) (w0 w : World) (h : Rd w0 v t num g i w) (hi : i < t.length) (ht : t.length ≤ 1000000) (h10 : ∀ x ∈ t, x ≠ 10)
    (T : Ln.Tok) (hT : T = Ln.tokq (t.drop (i + 1))) :
    Calls Try.prog 27 #[.pointer (some ⟨g, 0, none⟩)] w (NIs w0 v t num g i w T) := by
  have HT := Lib.hid hT
  clear hT
  have HR := Lib.hid h
  have h8 := h.bytes.1
  have hV := h.bytes
  obtain ⟨_, _, A, c, rfl, hc, hcell⟩ := h.bytes.parts
  obtain ⟨bb, off, rfl, _⟩ := hcell (by omega)
  clear h hcell
  obtain ⟨n, hn⟩ : ∃ n, t.length = n := ⟨_, rfl⟩
  rw [hn] at hi ht hc HR hV ⊢
  have HN := Lib.hid hn
  have H8 := Lib.hid (u8_lt h8)
  have H10 := Lib.hid h10
  clear hn h8 h10
  have hg0 := HR.out.size
  obtain ⟨q, hq⟩ : ∃ q : Nat, (i : Int) + 1 = (q : Int) := ⟨i + 1, by omega⟩
  have HQ : Hid (i + 1 = q) := Lib.hid (by omega)
  have hqn : (q : Int) ≤ (n : Int) := by omega
  have hq0 : (0 : Int) ≤ (q : Int) := by omega
  obtain ⟨r, hr⟩ : ∃ r, t.drop q = r := ⟨_, rfl⟩
  have HRL : Hid (r.length = n - q) := Lib.hid (by rw [← hr, List.length_drop, HN.out])
  have HRD : Hid (∀ y, r.getD y 0 = t.getD (q + y) 0) := Lib.hid (fun y => by rw [← hr, Ln.drop_getD])
  have HR10 : Hid (∀ x ∈ r, x ≠ 10) := Lib.hid (fun x hx => H10.out x (List.mem_of_mem_drop (by rw [← hr] at hx; exact hx)))
  have HTR : Hid (T = Ln.tokq r) := Lib.hid (by rw [HT.out, HQ.out, hr])
  have HRR := Lib.hid hr
  obtain ⟨ad, had⟩ : ∃ ad : Addr, (if c = q then some (⟨bb, off, none⟩ : Addr) else some ⟨bb, off + q, none⟩) = some ad := by split <;> exact ⟨_, rfl⟩
  have hVr := hV.tail (k := q) (d := c - q) (A' := some ad) (by omega) (by omega) (fun hlt b0 o0 e => by
    injection e with e
    injection e with e1 e2
    subst e1 e2
    rw [← had, if_neg (by omega)])
  rw [hr] at hVr
  have HVR := Lib.hid hVr
  have g0 : ∀ o o', ((w.alloc o).alloc o').cell? ⟨g, 0, none⟩ = some (.slice (some ⟨bb, off, none⟩) n c) := fun o o' => ((HR.out.alloc o).alloc o').blk.at 0
  have g2 : ∀ o o', ((w.alloc o).alloc o').cell? ⟨g, 2, none⟩ = some (.int .i64 (i : Int)) := fun o o' => ((HR.out.alloc o).alloc o').blk.at 2
  clear hV HT hr hVr
  go_enter Try.func27, Try.ntmps27
  go_wp2_with fail
  refine (index_any ad (n - q) (c - q) 34 r _ ((HVR.out.alloc _).alloc _) (by omega)).mono ?_
  rintro ex w2 ⟨⟨idx, rfl, hidx⟩, hw2⟩
  have hO : Hid (Outs w2 w.heap.size) := Lib.hid (by rw [← hw2]; exact outs_new w)
  have hR : Hid (Rd w0 (.slice (some ⟨bb, off, none⟩) n c) t num g i w2) := Lib.hid (by rw [← hw2]; exact (HR.out.alloc _).alloc _)
  have hG : Hid (w.grownBy w2 (some g)) := Lib.hid (by rw [← hw2]; exact Below.toGrown (((Below.refl _ _).alloc (Nat.le_refl _) _).alloc (by simp) _) _)
  clear g0 g2 hw2 HVR
  have g0 : w2.cell? ⟨g, 0, none⟩ = some (.slice (some ⟨bb, off, none⟩) n c) := hR.out.blk.at 0
  have g2 : w2.cell? ⟨g, 2, none⟩ = some (.int .i64 (i : Int)) := hR.out.blk.at 2
  rcases hidx with ⟨k, hk, hk34, hkn, rfl⟩ | ⟨hno, rfl⟩
  · have HK := Lib.hid hk
    have HK34 := Lib.hid hk34
    have HKN := Lib.hid hkn
    have hkn0 : k < n - q := by rw [← HRL.out]; exact hk
    clear hk hk34 hkn
    rcases Nat.lt_or_ge 64 k with hL | hL
    · have hL' : (64 : Int) < (k : Int) := by omega
      have HT3 : Hid (T = .bad 3 0) := Lib.hid (by
        rw [HTR.out, Ln.tokq_shut (m := ((r.take k).takeWhile Ln.okq).length) HR10.out HK.out HK34.out HKN.out ?_ ?_ ?_, if_pos hL]
        · have := Ln.takeWhile_le Ln.okq (r.take k)
          rw [List.length_take] at this
          omega
        · intro y hy
          have h1 := Ln.takeWhile_getD (r.take k) y hy
          have h2 := Ln.takeWhile_le Ln.okq (r.take k)
          rw [List.length_take] at h2
          rwa [List.getD_eq_getElem?_getD, List.getElem?_take, if_pos (by omega), ← List.getD_eq_getElem?_getD] at h1
        · exact Ln.takeWhile_where Ln.okq r k (by have := HK.out; omega))
      clear hL
      go_wp2_with fail
      refine (ownfault_any 3 (.slice (some ⟨bb, off, none⟩) n c) t num g i i w0 _ hR.out (by omega)).mono ?_
      rintro ex w3 ⟨rfl, hb2⟩
      have hO2 := hO.out.under hb2
      have HG2 := Lib.hid (grow_below hG.out (hb2.mono hG.out.size))
      have HR2 := Lib.hid (hR.out.under hb2)
      have HO2 := Lib.hid hO2
      obtain ⟨b0, b1, b2, b3, bf0, bf1, bf2, bf3, f0, f1, f2, ff0, ff1, ff2⟩ := hO2.facts
      clear hO2 hb2 g0 g2
      go_wp2
      refine bodyPost_ret (results_cell_cell rfl _ _ w.heap.size (w.heap.size + 1) _ _ _ _ _ _ _ _ rfl rfl (HO2.out.full1 _ _ _ _ _ _ _) (HO2.out.full2 _ _ _ _ _ _ _) Try.underlying34 rfl (by kernel_rfl) Try.underlying29 rfl (by kernel_rfl)) rfl ?_
      exact nis_bad HT3.out ⟨[], 0, 0, false⟩ (by rw [show i + 1 + 0 = q from HQ.out]; rfl) (grow_put7 HG2.out (Nat.le_refl _) _ _ _ _ _ _ _) (HR2.out.put7 hg0 _ _ _ _ _ _ _)
    · have hL' : ¬ (64 : Int) < (k : Int) := by omega
      have HL := Lib.hid hL
      obtain ⟨E, hE⟩ : ∃ E : Nat, (i : Int) + (k : Int) = (E : Int) := ⟨i + k, by omega⟩
      have HEE : Hid (i + k = E) := Lib.hid (by omega)
      clear hL
      go_wp2_with fail
      go_loop [6] (fun xv => ∃ p m : Nat, m ≤ k ∧ q + m = p ∧ xv = .int .i64 (p : Int) ∧ Hid (∀ y, y < m → Ln.okq (r.getD y 0) = true)) (fun xv => n - (intOf xv).toNat)
      case atStart => exact ⟨q, 0, by omega, rfl, rfl, Lib.hid (by omega)⟩
      case round =>
        obtain ⟨p, m, hmk, hqm, rfl, hok⟩ := hrel
        have HQM := Lib.hid hqm
        by_cases hlt : m < k
        · have hpE : (p : Int) ≤ (E : Int) := by have := HEE.out; have := HQ.out; omega
          have hpn : p < n := by omega
          have hpnI : (p : Int) < (n : Int) := by omega
          have hp0 : (0 : Int) ≤ (p : Int) := by omega
          obtain ⟨_, _, A', c', hAe, _, hcell⟩ := hR.out.bytes.parts
          injection hAe with e1 e2 e3
          obtain ⟨b', o', e4, hcl⟩ := hcell (by rw [HN.out]; omega)
          rw [← e1] at e4
          injection e4 with e4
          injection e4 with e5 e6
          have hck := hcl p (by rw [HN.out]; exact hpn)
          rw [← e5, ← e6] at hck
          clear hcell hcl e1 e2 e3 e5 e6
          obtain ⟨z, hz⟩ : ∃ z, t.getD p 0 = z := ⟨_, rfl⟩
          have HRM : Hid (r.getD m 0 = z) := Lib.hid (by rw [HRD.out, hqm, hz])
          rw [hz] at hck
          have HZ34 : Hid (z ≠ 34) := Lib.hid (by rw [← HRM.out]; exact HKN.out m hlt)
          clear hz hqm
          rcases ho : Ln.okq z with _ | _
          · have HT3 : Hid (T = .bad 1 (m + 1)) := Lib.hid (by
              rw [HTR.out, Ln.tokq_shut (m := m) HR10.out HK.out HK34.out HKN.out hmk hok.out (.inr (by rw [HRM.out]; exact ho)), if_neg (by have := HL.out; omega), if_neg (by omega)])
            have HO1 : Hid ((Ln.okq z && decide (z ≠ 34)) = false) := Lib.hid (by rw [ho]; rfl)
            clear ho
            go_wp2_with fail
            refine (within_any z _).mono ?_
            rintro ex w3 ⟨rfl, rfl⟩
            rw [HO1.out]
            go_wp2_with fail
            refine (ownfault_any 1 (.slice (some ⟨bb, off, none⟩) n c) t num g i p w0 _ hR.out (by omega)).mono ?_
            rintro ex w4 ⟨rfl, hb2⟩
            have hO2 := hO.out.under hb2
            have HG2 := Lib.hid (grow_below hG.out (hb2.mono hG.out.size))
            have HR2 := Lib.hid (hR.out.under hb2)
            have HO2 := Lib.hid hO2
            obtain ⟨b0, b1, b2, b3, bf0, bf1, bf2, bf3, f0, f1, f2, ff0, ff1, ff2⟩ := hO2.facts
            clear hO2 hb2 g0 g2
            go_wp2
            refine bodyPost_ret (results_cell_cell rfl _ _ w.heap.size (w.heap.size + 1) _ _ _ _ _ _ _ _ rfl rfl (HO2.out.full1 _ _ _ _ _ _ _) (HO2.out.full2 _ _ _ _ _ _ _) Try.underlying34 rfl (by kernel_rfl) Try.underlying29 rfl (by kernel_rfl)) rfl ?_
            exact nis_bad HT3.out ⟨[], 0, 0, false⟩ (by rw [show i + 1 + (m + 1) = p + 1 from by have := HQM.out; have := HQ.out; omega]; rfl) (grow_put7 HG2.out (Nat.le_refl _) _ _ _ _ _ _ _) (HR2.out.put7 hg0 _ _ _ _ _ _ _)
          · have HO1 : Hid ((Ln.okq z && decide (z ≠ 34)) = true) := Lib.hid (by rw [ho]; simp [HZ34.out])
            have HOK : Hid (∀ y, y < m + 1 → Ln.okq (r.getD y 0) = true) := Lib.hid (fun y hy => by
              rcases Nat.lt_or_ge y m with h | h
              · exact hok.out y h
              · rw [show y = m from by omega, HRM.out]
                exact ho)
            clear ho hok
            go_wp2_with fail
            refine (within_any z _).mono ?_
            rintro ex w3 ⟨rfl, rfl⟩
            rw [HO1.out]
            go_wp2
            go_round
            case rel => exact ⟨p + 1, m + 1, hlt, by have := HQM.out; omega, by go_num, HOK⟩
            case measure => simp [intOf]; omega
        · obtain rfl : m = k := by omega
          have HT3 : Hid (T = .word (r.take m) (m + 2) true) := Lib.hid (by
            rw [HTR.out, Ln.tokq_shut (m := m) HR10.out HK.out HK34.out HKN.out hmk hok.out (.inl rfl), if_neg (by have := HL.out; omega), if_pos rfl])
          have hpE : ¬ (p : Int) ≤ (E : Int) := by have := HEE.out; have := HQ.out; omega
          obtain ⟨k2, hk2⟩ : ∃ k2 : Nat, (m : Int) + 2 = (k2 : Int) := ⟨m + 2, by omega⟩
          have HK2 : Hid (m + 2 = k2) := Lib.hid (by omega)
          clear hok
          go_wp2_with fail
          refine (take_any (.slice (some ⟨bb, off, none⟩) n c) t num g i k2 w0 _ hR.out (by omega) (by rw [HN.out]; have := HQ.out; omega) (by rw [HN.out]; exact ht)).mono ?_
          rintro ex w3 ⟨rfl, hg2, hr2⟩
          have HO2 := Lib.hid (hO.out.grown hg2 hg0)
          have HG2 := Lib.hid (grow_trans hG.out hg2)
          have HR2 := Lib.hid hr2
          have HSZ : Hid (w2.heap.size ≤ w3.heap.size) := Lib.hid hg2.size
          obtain ⟨S, hS⟩ : ∃ S, (t.drop i).take k2 = S := ⟨_, rfl⟩
          rw [hS]
          have hSl : S.length = k2 := by rw [← hS, List.length_take, List.length_drop, HN.out]; have := HQ.out; omega
          have hsz : (str S).size = k2 := by rw [str_size, hSl]
          have hpart : (str S).extract 1 (m + 1) = str (r.take m) := by
            rw [str_part, ← hS, List.drop_take, List.take_take, List.drop_drop, show i + 1 = q from HQ.out, HRR.out, show min (m + 1 - 1) (k2 - 1) = m from by omega]
          clear hg2 hr2 g0 g2 hS hSl
          rw [show (cellsW (⟨S, num, i + 1, false⟩ : Ln.W)).toArray = #[.string (str S), .int .i64 (num : Int), .int .i64 ((i + 1 : Nat) : Int), .bool false] from rfl]
          have F := fun o => (HO2.out.alloc o).facts
          have b0 := fun o => (F o).1
          have b1 := fun o => (F o).2.1
          have b2 := fun o => (F o).2.2.1
          have b3 := fun o => (F o).2.2.2.1
          have bf0 := fun o => (F o).2.2.2.2.1
          have bf1 := fun o => (F o).2.2.2.2.2.1
          have bf2 := fun o => (F o).2.2.2.2.2.2.1
          have bf3 := fun o => (F o).2.2.2.2.2.2.2.1
          have f0 := fun o => (F o).2.2.2.2.2.2.2.2.1
          have f1 := fun o => (F o).2.2.2.2.2.2.2.2.2.1
          have f2 := fun o => (F o).2.2.2.2.2.2.2.2.2.2.1
          have ff0 := fun o => (F o).2.2.2.2.2.2.2.2.2.2.2.1
          have ff1 := fun o => (F o).2.2.2.2.2.2.2.2.2.2.2.2.1
          have ff2 := fun o => (F o).2.2.2.2.2.2.2.2.2.2.2.2.2
          clear F
          go_wp2
          refine bodyPost_ret (results_cell_cell rfl _ _ w.heap.size (w.heap.size + 1) _ _ _ _ _ _ _ _ rfl rfl ((HO2.out.alloc _).full1 _ _ _ _ _ _ _) ((HO2.out.alloc _).full2 _ _ _ _ _ _ _) Try.underlying34 rfl (by kernel_rfl) Try.underlying29 rfl (by kernel_rfl)) rfl ?_
          refine nis_word HT3.out (by rw [show i + 1 = q from HQ.out]; rfl) (grow_put7 (grow_below HG2.out ((Below.refl _ _).alloc HG2.out.size _)) (Nat.le_refl _) _ _ _ _ _ _ _) ?_
          rw [HK2.out]
          exact (HR2.out.alloc _).put7 hg0 _ _ _ _ _ _ _
  · have HT3 : Hid (T = .bad 2 0) := Lib.hid (by rw [HTR.out]; exact Ln.tokq_open HR10.out hno)
    clear hno
    go_wp2_with fail
    refine (ownfault_any 2 (.slice (some ⟨bb, off, none⟩) n c) t num g i i w0 _ hR.out (by omega)).mono ?_
    rintro ex w3 ⟨rfl, hb2⟩
    have hO2 := hO.out.under hb2
    have HG2 := Lib.hid (grow_below hG.out (hb2.mono hG.out.size))
    have HR2 := Lib.hid (hR.out.under hb2)
    have HO2 := Lib.hid hO2
    obtain ⟨b0, b1, b2, b3, bf0, bf1, bf2, bf3, f0, f1, f2, ff0, ff1, ff2⟩ := hO2.facts
    clear hO2 hb2 g0 g2
    go_wp2
    refine bodyPost_ret (results_cell_cell rfl _ _ w.heap.size (w.heap.size + 1) _ _ _ _ _ _ _ _ rfl rfl (HO2.out.full1 _ _ _ _ _ _ _) (HO2.out.full2 _ _ _ _ _ _ _) Try.underlying34 rfl (by kernel_rfl) Try.underlying29 rfl (by kernel_rfl)) rfl ?_
    exact nis_bad HT3.out ⟨[], 0, 0, false⟩ (by rw [show i + 1 + 0 = q from HQ.out]; rfl) (grow_put7 HG2.out (Nat.le_refl _) _ _ _ _ _ _ _) (HR2.out.put7 hg0 _ _ _ _ _ _ _)
end Go.Proofs.Ytpebkdmoloiecaa
