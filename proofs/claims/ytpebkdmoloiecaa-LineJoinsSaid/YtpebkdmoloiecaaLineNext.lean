/- The reader reads the word that stands at its place. -/
import Derived.Test.YtpebkdmoloiecaaLineQuoted
namespace Go.Proofs.Ytpebkdmoloiecaa
open Go.ChangeShapes Go.WideShapes Go.ChangeAt Go.RowKit

theorem tok_cases (T : Ln.Tok) : (∃ m, T = .skip m) ∨ (∃ s m q, T = .word s m q) ∨ ∃ k o, T = .bad k o := by
  cases T with
  | skip m => exact .inl ⟨m, rfl⟩
  | word s m q => exact .inr (.inl ⟨s, m, q, rfl⟩)
  | bad k o => exact .inr (.inr ⟨k, o, rfl⟩)
/-- Results that are handed on. -/
theorem NIs.skipped {w0 : World} {v : Value} {t : List Nat} {num g i m : Nat} {w w' : World} {e : Ending} (h : NIs w0 v t num g i w (.skip m) e w') : False := h
set_option maxRecDepth 100000 in
set_option maxHeartbeats 4000000 in
theorem next_any (v : Value) (t : List Nat) (num g i : Nat) (w0 w : World) (h : Rd w0 v t num g i w) (hi : i < t.length) (ht : t.length ≤ 1000000) (h10 : ∀ x ∈ t, x ≠ 10)
    (hb : ¬ (t.getD i 0 = 32 ∨ t.getD i 0 = 9)) (h35 : t.getD i 0 ≠ 35) (T : Ln.Tok) (hT : T = Ln.tok (t.getD i 0) (t.drop (i + 1))) :
    Calls Try.prog 20 #[.pointer (some ⟨g, 0, none⟩)] w (NIs w0 v t num g i w T) := by
  have HR := Lib.hid h
  obtain ⟨h8, _, A, c, rfl, hc, hcell⟩ := h.bytes.parts
  obtain ⟨bb, off, rfl, hcl⟩ := hcell (by omega)
  have hck := hcl i hi
  have h8i := u8_lt h8 i
  clear h hcell hcl h8
  obtain ⟨z, hz⟩ : ∃ z, t.getD i 0 = z := ⟨_, rfl⟩
  rw [hz] at hb h35 hck h8i hT
  have HZ := Lib.hid hz
  have HT := Lib.hid hT
  have HZ8 := Lib.hid h8i
  have H10 := Lib.hid h10
  have HI := Lib.hid hi
  have HTL := Lib.hid ht
  obtain ⟨n, hn⟩ : ∃ n, t.length = n := ⟨_, rfl⟩
  rw [hn] at hi ht hc HR ⊢
  have HN := Lib.hid hn
  have HB := Lib.hid hb
  have H35 := Lib.hid h35
  have hbb : bb < w.heap.size := World.block_lt_of_cell? _ _ hck
  have hck2 : ∀ o o', ((w.alloc o).alloc o').cell? ⟨bb, off + i, none⟩ = some (.int .u8 (z : Int)) := fun o o' => (World.cell?_alloc_lt _ o' ⟨bb, off + i, none⟩ (by simp; omega)).trans ((World.cell?_alloc_lt w o ⟨bb, off + i, none⟩ hbb).trans hck)
  clear hn hz hT h8i h10 hb h35 hck
  have hg0 := HR.out.size
  have hin : (i : Int) < (n : Int) := by omega
  have g0 : ∀ o o', ((w.alloc o).alloc o').cell? ⟨g, 0, none⟩ = some (.slice (some ⟨bb, off, none⟩) n c) := fun o o' => ((HR.out.alloc o).alloc o').blk.at 0
  have g2 : ∀ o o', ((w.alloc o).alloc o').cell? ⟨g, 2, none⟩ = some (.int .i64 (i : Int)) := fun o o' => ((HR.out.alloc o).alloc o').blk.at 2
  go_enter Try.func20, Try.ntmps20
  go_wp2_with fail
  go_quiet (fail)
  generalize hW : World.drewN _ _ = W
  have hO : Hid (Outs W w.heap.size) := Lib.hid (by rw [← hW]; exact (outs_new w).drew _)
  have hR : Hid (Rd w0 (.slice (some ⟨bb, off, none⟩) n c) t num g i W) := Lib.hid (by rw [← hW]; exact ((HR.out.alloc _).alloc _).heap _ rfl)
  have hG : Hid (w.grownBy W (some g)) := Lib.hid (by rw [← hW]; exact grow_drew (Below.toGrown (((Below.refl _ _).alloc (Nat.le_refl _) _).alloc (by simp) _) _) _)
  clear g0 g2 hck2 hW
  have g2 : W.cell? ⟨g, 2, none⟩ = some (.int .i64 (i : Int)) := hR.out.blk.at 2
  by_cases h34 : z = 34
  · subst h34
    have HTQ : Hid (T = Ln.tokq (t.drop (i + 1))) := Lib.hid (by rw [HT.out]; exact Ln.tok_quote)
    go_wp2_with fail
    refine (quoted_any (.slice (some ⟨bb, off, none⟩) n c) t num g i w0 _ hR.out HI.out HTL.out H10.out T HTQ.out).mono ?_
    intro ex w2 hni
    rcases tok_cases T with ⟨m, hTT⟩ | ⟨s, m, q, hTT⟩ | ⟨k, o, hTT⟩
    · rw [hTT] at hni
      exact hni.skipped.elim
    · have HTT := Lib.hid hTT
      rw [hTT] at hni
      obtain ⟨rfl, hg2, hr2⟩ := hni
      have hO2 := hO.out.grown hg2 hg0
      have HG2 := Lib.hid (grow_trans hG.out hg2)
      have HR2 := Lib.hid hr2
      have HO2 := Lib.hid hO2
      obtain ⟨b0, b1, b2, b3, bf0, bf1, bf2, bf3, f0, f1, f2, ff0, ff1, ff2⟩ := hO2.facts
      clear hO2 hg2 hr2 g2 hTT
      rw [show (cellsW (⟨s, num, i + 1, q⟩ : Ln.W)).toArray = #[.string (str s), .int .i64 (num : Int), .int .i64 ((i + 1 : Nat) : Int), .bool q] from rfl]
      go_wp2
      refine bodyPost_ret (results_cell_cell rfl _ _ w.heap.size (w.heap.size + 1) _ _ _ _ _ _ _ _ rfl rfl (HO2.out.full1 _ _ _ _ _ _ _) (HO2.out.full2 _ _ _ _ _ _ _) Try.underlying34 rfl (by kernel_rfl) Try.underlying29 rfl (by kernel_rfl)) rfl ?_
      exact nis_word HTT.out rfl (grow_put7 HG2.out (Nat.le_refl _) _ _ _ _ _ _ _) (HR2.out.put7 hg0 _ _ _ _ _ _ _)
    · have HTT := Lib.hid hTT
      rw [hTT] at hni
      obtain ⟨⟨⟨y1, y2, y3, y4⟩, rfl⟩, hg2, hr2⟩ := hni
      have hO2 := hO.out.grown hg2 hg0
      have HG2 := Lib.hid (grow_trans hG.out hg2)
      have HR2 := Lib.hid hr2
      have HO2 := Lib.hid hO2
      obtain ⟨b0, b1, b2, b3, bf0, bf1, bf2, bf3, f0, f1, f2, ff0, ff1, ff2⟩ := hO2.facts
      clear hO2 hg2 hr2 g2 hTT
      rw [show (cellsW (⟨y1, y2, y3, y4⟩ : Ln.W)).toArray = #[.string (str y1), .int .i64 (y2 : Int), .int .i64 (y3 : Int), .bool y4] from rfl]
      go_wp2
      refine bodyPost_ret (results_cell_cell rfl _ _ w.heap.size (w.heap.size + 1) _ _ _ _ _ _ _ _ rfl rfl (HO2.out.full1 _ _ _ _ _ _ _) (HO2.out.full2 _ _ _ _ _ _ _) Try.underlying34 rfl (by kernel_rfl) Try.underlying29 rfl (by kernel_rfl)) rfl ?_
      exact nis_bad HTT.out ⟨y1, y2, y3, y4⟩ rfl (grow_put7 HG2.out (Nat.le_refl _) _ _ _ _ _ _ _) (HR2.out.put7 hg0 _ _ _ _ _ _ _)
  · have b34 : ((z : Int) == 34) = false := by simp; omega
    have H34 := Lib.hid h34
    clear h34
    rcases hsg : Ln.sign z with _ | _
    · have HSG := Lib.hid hsg
      clear hsg
      rcases hpl : Ln.plain z with _ | _
      · have HPL := Lib.hid hpl
        have HT3 : Hid (T = .bad 1 0) := Lib.hid (by
          have hp := HPL.out
          rw [HT.out]
          refine Ln.tok_byte HB.out ?_ HSG.out
          unfold Ln.plain at hp
          rw [HSG.out] at hp
          have h34 := H34.out
          have hz8 := HZ8.out
          by_cases a : 32 < z
          · by_cases b : z < 127
            · simp [a, b, h34] at hp
            · omega
          · omega)
        clear hpl
        go_wp2_with fail
        refine (sign_any z HZ8.out _).mono ?_
        rintro ex w2 ⟨rfl, rfl⟩
        rw [HSG.out]
        go_wp2_with fail
        refine (may_any z HZ8.out _).mono ?_
        rintro ex w2 ⟨rfl, rfl⟩
        rw [HPL.out]
        go_wp2_with fail
        refine (ownfault_any 1 (.slice (some ⟨bb, off, none⟩) n c) t num g i i w0 _ hR.out (by omega)).mono ?_
        rintro ex w3 ⟨rfl, hb2⟩
        have hO2 := hO.out.under hb2
        have HG2 := Lib.hid (grow_below hG.out (hb2.mono hG.out.size))
        have HR2 := Lib.hid (hR.out.under hb2)
        have HO2 := Lib.hid hO2
        obtain ⟨b0, b1, b2, b3, bf0, bf1, bf2, bf3, f0, f1, f2, ff0, ff1, ff2⟩ := hO2.facts
        clear hO2 hb2 g2
        go_wp2
        refine bodyPost_ret (results_cell_cell rfl _ _ w.heap.size (w.heap.size + 1) _ _ _ _ _ _ _ _ rfl rfl (HO2.out.full1 _ _ _ _ _ _ _) (HO2.out.full2 _ _ _ _ _ _ _) Try.underlying34 rfl (by kernel_rfl) Try.underlying29 rfl (by kernel_rfl)) rfl ?_
        exact nis_bad HT3.out ⟨[], 0, 0, false⟩ rfl (grow_put7 HG2.out (Nat.le_refl _) _ _ _ _ _ _ _) (HR2.out.put7 hg0 _ _ _ _ _ _ _)
      · have HPL := Lib.hid hpl
        have HTP : Hid (T = if 64 < ((t.drop (i + 1)).takeWhile Ln.plain).length + 1 then .bad 3 0 else .word (t.getD i 0 :: (t.drop (i + 1)).takeWhile Ln.plain) (((t.drop (i + 1)).takeWhile Ln.plain).length + 1) false) := Lib.hid (by
          have hp := HPL.out
          rw [HT.out, HZ.out]
          refine Ln.tok_plain ?_ H35.out H34.out HSG.out
          unfold Ln.plain at hp
          simp at hp
          omega)
        clear hpl
        go_wp2_with fail
        refine (sign_any z HZ8.out _).mono ?_
        rintro ex w2 ⟨rfl, rfl⟩
        rw [HSG.out]
        go_wp2_with fail
        refine (may_any z HZ8.out _).mono ?_
        rintro ex w2 ⟨rfl, rfl⟩
        rw [HPL.out]
        go_wp2_with fail
        refine (plain_any (.slice (some ⟨bb, off, none⟩) n c) t num g i w0 _ hR.out HI.out HTL.out T HTP.out).mono ?_
        intro ex w2 hni
        rcases tok_cases T with ⟨m, hTT⟩ | ⟨s, m, q, hTT⟩ | ⟨k, o, hTT⟩
        · rw [hTT] at hni
          exact hni.skipped.elim
        · have HTT := Lib.hid hTT
          rw [hTT] at hni
          obtain ⟨rfl, hg2, hr2⟩ := hni
          have hO2 := hO.out.grown hg2 hg0
          have HG2 := Lib.hid (grow_trans hG.out hg2)
          have HR2 := Lib.hid hr2
          have HO2 := Lib.hid hO2
          obtain ⟨b0, b1, b2, b3, bf0, bf1, bf2, bf3, f0, f1, f2, ff0, ff1, ff2⟩ := hO2.facts
          clear hO2 hg2 hr2 g2 hTT
          rw [show (cellsW (⟨s, num, i + 1, q⟩ : Ln.W)).toArray = #[.string (str s), .int .i64 (num : Int), .int .i64 ((i + 1 : Nat) : Int), .bool q] from rfl]
          go_wp2
          refine bodyPost_ret (results_cell_cell rfl _ _ w.heap.size (w.heap.size + 1) _ _ _ _ _ _ _ _ rfl rfl (HO2.out.full1 _ _ _ _ _ _ _) (HO2.out.full2 _ _ _ _ _ _ _) Try.underlying34 rfl (by kernel_rfl) Try.underlying29 rfl (by kernel_rfl)) rfl ?_
          exact nis_word HTT.out rfl (grow_put7 HG2.out (Nat.le_refl _) _ _ _ _ _ _ _) (HR2.out.put7 hg0 _ _ _ _ _ _ _)
        · have HTT := Lib.hid hTT
          rw [hTT] at hni
          obtain ⟨⟨⟨y1, y2, y3, y4⟩, rfl⟩, hg2, hr2⟩ := hni
          have hO2 := hO.out.grown hg2 hg0
          have HG2 := Lib.hid (grow_trans hG.out hg2)
          have HR2 := Lib.hid hr2
          have HO2 := Lib.hid hO2
          obtain ⟨b0, b1, b2, b3, bf0, bf1, bf2, bf3, f0, f1, f2, ff0, ff1, ff2⟩ := hO2.facts
          clear hO2 hg2 hr2 g2 hTT
          rw [show (cellsW (⟨y1, y2, y3, y4⟩ : Ln.W)).toArray = #[.string (str y1), .int .i64 (y2 : Int), .int .i64 (y3 : Int), .bool y4] from rfl]
          go_wp2
          refine bodyPost_ret (results_cell_cell rfl _ _ w.heap.size (w.heap.size + 1) _ _ _ _ _ _ _ _ rfl rfl (HO2.out.full1 _ _ _ _ _ _ _) (HO2.out.full2 _ _ _ _ _ _ _) Try.underlying34 rfl (by kernel_rfl) Try.underlying29 rfl (by kernel_rfl)) rfl ?_
          exact nis_bad HTT.out ⟨y1, y2, y3, y4⟩ rfl (grow_put7 HG2.out (Nat.le_refl _) _ _ _ _ _ _ _) (HR2.out.put7 hg0 _ _ _ _ _ _ _)
    · have HSG := Lib.hid hsg
      have HT3 : Hid (T = .word [z] 1 false) := Lib.hid (by rw [HT.out]; exact Ln.tok_sign hsg)
      clear hsg
      go_wp2_with fail
      refine (sign_any z HZ8.out _).mono ?_
      rintro ex w2 ⟨rfl, rfl⟩
      rw [HSG.out]
      go_wp2_with fail
      refine (take_any (.slice (some ⟨bb, off, none⟩) n c) t num g i 1 w0 _ hR.out (Nat.le_refl _) HI.out HTL.out).mono ?_
      rintro ex w3 ⟨rfl, hg2, hr2⟩
      have hO2 := hO.out.grown hg2 hg0
      have HG2 := Lib.hid (grow_trans hG.out hg2)
      have HR2 := Lib.hid hr2
      have HO2 := Lib.hid hO2
      obtain ⟨b0, b1, b2, b3, bf0, bf1, bf2, bf3, f0, f1, f2, ff0, ff1, ff2⟩ := hO2.facts
      clear hO2 hg2 hr2 g2
      rw [show (t.drop i).take 1 = [z] from by rw [Ln.drop_cons HI.out, HZ.out]; rfl]
      rw [show (cellsW (⟨[z], num, i + 1, false⟩ : Ln.W)).toArray = #[.string (str [z]), .int .i64 (num : Int), .int .i64 ((i + 1 : Nat) : Int), .bool false] from rfl]
      go_wp2
      refine bodyPost_ret (results_cell_cell rfl _ _ w.heap.size (w.heap.size + 1) _ _ _ _ _ _ _ _ rfl rfl (HO2.out.full1 _ _ _ _ _ _ _) (HO2.out.full2 _ _ _ _ _ _ _) Try.underlying34 rfl (by kernel_rfl) Try.underlying29 rfl (by kernel_rfl)) rfl ?_
      exact nis_word HT3.out rfl (grow_put7 HG2.out (Nat.le_refl _) _ _ _ _ _ _ _) (HR2.out.put7 hg0 _ _ _ _ _ _ _)
end Go.Proofs.Ytpebkdmoloiecaa
