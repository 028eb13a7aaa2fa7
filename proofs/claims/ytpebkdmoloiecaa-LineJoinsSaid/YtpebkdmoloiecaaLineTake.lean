/- The reader takes its next bytes as a word. -/
import Derived.Test.YtpebkdmoloiecaaLineOwn
namespace Go.Proofs.Ytpebkdmoloiecaa
open Go.ChangeShapes Go.WideShapes Go.ChangeAt Go.RowKit
set_option maxRecDepth 100000 in
set_option maxHeartbeats 4000000 in
theorem take_any (v : Value) (t : List Nat) (num g i s : Nat) (w0 w : World) (h : Rd w0 v t num g i w) (hs : 1 ≤ s) (hi : i + s ≤ t.length) (ht : t.length ≤ 1000000) :
    Calls Try.prog 29 #[.pointer (some ⟨g, 0, none⟩), .int .i64 (s : Int)] w fun e w' => e = .returned (.agg (cellsW ⟨(t.drop i).take s, num, i + 1, false⟩).toArray) ∧ w.grownBy w' (some g) ∧ Rd w0 v t num g (i + s) w' := by
  have hV := h.bytes
  obtain ⟨_, _, A, c, rfl, hc, hcell⟩ := hV.parts
  obtain ⟨bb, off, rfl, _⟩ := hcell (by omega)
  clear hcell
  obtain ⟨n, hn⟩ : ∃ n, t.length = n := ⟨_, rfl⟩
  rw [hn] at hi ht hc h hV
  have HN := Lib.hid hn
  obtain ⟨e, he⟩ : ∃ e : Nat, (i : Int) + (s : Int) = (e : Int) := ⟨i + s, by omega⟩
  have HE : Hid (i + s = e) := Lib.hid (by omega)
  have h1 := ((hV.head (k := e) (by omega) (by omega)).tail (k := i) (d := c - i) (A' := some ⟨bb, off + i, none⟩) (by omega) (by omega) (fun _ b0 o0 e => by cases e; rfl))
  have HT : Hid (List.drop i (List.take e t) = (t.drop i).take s) := Lib.hid (by rw [List.drop_take, show e - i = s from by omega])
  rw [HT.out] at h1
  obtain ⟨T, hT⟩ : ∃ T, (t.drop i).take s = T := ⟨_, rfl⟩
  rw [hT] at h1 ⊢
  have H1 := Lib.hid h1
  have HR := Lib.hid h
  clear h hV h1 HT hT hn
  have hec : (e : Int) ≤ (c : Int) := by omega
  have hie : (i : Int) ≤ (e : Int) := by omega
  have hi0 : (0 : Int) ≤ (i : Int) := by omega
  go_enter Try.func29, Try.ntmps29
  go_wp2_with fail
  generalize hW : World.alloc w _ = W
  have hRB : Blk W w.heap.size 34 #[.string ⟨#[]⟩, .int .i64 0, .int .i64 0, .bool false] := by rw [← hW]; exact heap_alloc_new w _
  have hRW : Rd w0 (.slice (some ⟨bb, off, none⟩) n c) t num g i W := by rw [← hW]; exact HR.out.alloc _
  have hBW : Bytes W (.slice (some ⟨bb, off + i, none⟩) (e - i) (c - i)) T := by rw [← hW]; exact H1.out.alloc _
  have hbl : Below w.heap.size w W := by rw [← hW]; exact (Below.refl _ _).alloc (Nat.le_refl _) _
  have hcv := run_text hBW
  have hcv2 := fun o => run_text (hBW.alloc o)
  have hcv3 := run_text (w := W.drew) hBW
  have hcv4 := fun o => run_text (w := (W.alloc o).drew) (hBW.alloc o)
  have g0 : W.cell? ⟨g, 0, none⟩ = some (.slice (some ⟨bb, off, none⟩) n c) := hRW.blk.at 0
  have g1 : W.cell? ⟨g, 1, none⟩ = some (.int .i64 (num : Int)) := hRW.blk.at 1
  have g2 : W.cell? ⟨g, 2, none⟩ = some (.int .i64 (i : Int)) := hRW.blk.at 2
  have k0 : ∀ o, (W.alloc o).cell? ⟨g, 0, none⟩ = some (.slice (some ⟨bb, off, none⟩) n c) := fun o => (hRW.alloc o).blk.at 0
  have k1 : ∀ o, (W.alloc o).cell? ⟨g, 1, none⟩ = some (.int .i64 (num : Int)) := fun o => (hRW.alloc o).blk.at 1
  have k2 : ∀ o, (W.alloc o).cell? ⟨g, 2, none⟩ = some (.int .i64 (i : Int)) := fun o => (hRW.alloc o).blk.at 2
  have HRB := Lib.hid hRB
  have HRW := Lib.hid hRW
  have HBL := Lib.hid hbl
  have HHW := Lib.hid hW
  clear hRB hRW hBW hbl hW
  go_region
  generalize hW2 : World.drew (World.alloc W _) = W2
  have hwW := HBL.out.size
  have hgW := HRW.out.size
  have hgw := HR.out.size
  have hRW2 : Rd w0 (.slice (some ⟨bb, off, none⟩) n c) t num g i W2 := by rw [← hW2]; exact (HRW.out.alloc _).heap 1 rfl
  have hX2 : Blk W2 W.heap.size 34 #[.string (str T), .int .i64 (num : Int), .int .i64 ((i : Int) + 1), .bool false] := by rw [← hW2]; exact heap_alloc_new W _
  have hRB2 : Blk W2 w.heap.size 34 #[.string ⟨#[]⟩, .int .i64 0, .int .i64 0, .bool false] := by rw [← hW2]; exact HRB.out.alloc _
  have hbl2 : Below w.heap.size w W2 := by
    rw [← hW2]
    have := HBL.out.alloc hwW (.cells #[.string (str T), .int .i64 (num : Int), .int .i64 ((i : Int) + 1), .bool false] 34)
    exact ⟨this.1, this.2, this.3, this.4, this.5⟩
  clear hcv hcv2 hcv3 hcv4 g0 g1 g2 k0 k1 k2 hW2
  have HHE := Lib.hid he
  have HZ : Hid (w.heap.size < W.heap.size) := Lib.hid (by rw [← HHW.out]; simp)
  have g0 : W2.cell? ⟨g, 0, none⟩ = some (.slice (some ⟨bb, off, none⟩) n c) := hRW2.blk.at 0
  have g1 : W2.cell? ⟨g, 1, none⟩ = some (.int .i64 (num : Int)) := hRW2.blk.at 1
  have g2 : W2.cell? ⟨g, 2, none⟩ = some (.int .i64 (i : Int)) := hRW2.blk.at 2
  have gf := hRW2.blk.free 2
  have hX3 : Blk (W2.setCell ⟨g, 2, none⟩ (.int .i64 (e : Int))) W.heap.size 34 #[.string (str T), .int .i64 (num : Int), .int .i64 ((i : Int) + 1), .bool false] := hX2.setOther (by simp; omega) _
  have hB3 : Blk (W2.setCell ⟨g, 2, none⟩ (.int .i64 (e : Int))) w.heap.size 34 #[.string ⟨#[]⟩, .int .i64 0, .int .i64 0, .bool false] := hRB2.setOther (by simp; omega) _
  have x0 : (W2.setCell ⟨g, 2, none⟩ (.int .i64 (e : Int))).cell? ⟨W.heap.size, 0, none⟩ = some (.string (str T)) := hX3.at 0
  have x1 : (W2.setCell ⟨g, 2, none⟩ (.int .i64 (e : Int))).cell? ⟨W.heap.size, 1, none⟩ = some (.int .i64 (num : Int)) := hX3.at 1
  have x2 : (W2.setCell ⟨g, 2, none⟩ (.int .i64 (e : Int))).cell? ⟨W.heap.size, 2, none⟩ = some (.int .i64 ((i : Int) + 1)) := hX3.at 2
  have x3 : (W2.setCell ⟨g, 2, none⟩ (.int .i64 (e : Int))).cell? ⟨W.heap.size, 3, none⟩ = some (.bool false) := hX3.at 3
  have b0 : (W2.setCell ⟨g, 2, none⟩ (.int .i64 (e : Int))).cell? ⟨w.heap.size, 0, none⟩ = some (.string ⟨#[]⟩) := hB3.at 0
  have b1 : (W2.setCell ⟨g, 2, none⟩ (.int .i64 (e : Int))).cell? ⟨w.heap.size, 1, none⟩ = some (.int .i64 0) := hB3.at 1
  have b2 : (W2.setCell ⟨g, 2, none⟩ (.int .i64 (e : Int))).cell? ⟨w.heap.size, 2, none⟩ = some (.int .i64 0) := hB3.at 2
  have b3 : (W2.setCell ⟨g, 2, none⟩ (.int .i64 (e : Int))).cell? ⟨w.heap.size, 3, none⟩ = some (.bool false) := hB3.at 3
  have bf0 := hB3.free 0
  have bf1 := hB3.free 1
  have bf2 := hB3.free 2
  have bf3 := hB3.free 3
  have HB3 := Lib.hid hB3
  have HRW2 := Lib.hid hRW2
  have HBL2 := Lib.hid hbl2
  clear hX2 hX3 hB3 hRB2 hRW2 hbl2 hwW
  go_wp2
  refine bodyPost_ret (results_cell_row rfl _ _ w.heap.size _ _ _ _ (by rfl) ((((HB3.out.set 0 _).set 1 _).set 2 _).set 3 _) Try.underlying34 rfl (by kernel_rfl)) rfl ?_
  have h0 := HR.out.2.1.size
  refine ⟨rfl, ?_, ?_⟩
  · exact grow_set (grow_set (grow_set (grow_set (grow_set (Below.toGrown HBL2.out _) (.inr rfl) _) (.inl (Nat.le_refl _)) _) (.inl (Nat.le_refl _)) _) (.inl (Nat.le_refl _)) _) (.inl (Nat.le_refl _)) _
  · rw [HE.out, HN.out]
    exact ((((HRW2.out.move e).setOther (by simp; omega) h0 _).setOther (by simp; omega) h0 _).setOther (by simp; omega) h0 _).setOther (by simp; omega) h0 _
end Go.Proofs.Ytpebkdmoloiecaa
