/- The words of one line. -/
import Derived.Test.YtpebkdmoloiecaaLineNext
import Derived.Test.YtpebkdmoloiecaaLineSplit
namespace Go.Proofs.Ytpebkdmoloiecaa
open Go.ChangeShapes Go.WideShapes Go.ChangeAt Go.RowKit

theorem St.grownLow {w w' : World} {base g : Nat} {v u : Value} {LL : List (List Ln.W)} {R : List Ln.W} (h : St w base v LL u R) (hg : w.grownBy w' (some g)) (hp : g < base) : St w' base v LL u R := by
  obtain ⟨us, h1, h2, h3, h4, h5, h6, h7⟩ := h
  have hlow : ∀ {t : Value}, Between base w.heap.size t → t.ownBlock = none ∨ t.ownBlock ≠ some g := fun {t} hb => .inr fun e => by
    have := (hb _ e).1
    omega
  exact ⟨us, h1, h2.kept hg (hlow fun k hk => World.ownsRow.lt h2 k hk), h3, fun i hi => (h4 i hi).grown hg (hlow (h4 i hi).lt), h5, h6.grown hg (hlow h6.lt), h7⟩
theorem below_grown {w0 w w' : World} {g : Nat} (h : Below w0.heap.size w0 w) (hg : w.grownBy w' (some g)) (h0 : w0.heap.size ≤ g) : Below w0.heap.size w0 w' :=
  ⟨hg.os.trans h.os, hg.tape.trans h.tape, hg.output.trans h.output, Nat.le_trans h.size hg.size, fun k hk => (hg.block k (Nat.lt_of_lt_of_le hk h.size) (by simp; omega)).trans (h.block k hk)⟩
theorem word_cells3 (w : World) (o o' : Obj) (z : Ln.W) : ∀ j y, (cellsW z)[j]? = some y → (((w.alloc o).alloc o').alloc (.cells (cellsW z).toArray 34)).cell? ⟨w.heap.size + 1 + 1, j, none⟩ = some y := fun j y hy => by
  have h : Blk (((w.alloc o).alloc o').alloc (.cells (cellsW z).toArray 34)) (w.heap.size + 1 + 1) 34 (cellsW z).toArray := heap_alloc_at _ _ (by simp)
  rw [h.at j, List.getElem?_toArray]
  exact hy
theorem Rd.below4 {w0 w w' : World} {v : Value} {t : List Nat} {num g i B : Nat} (h : Rd w0 v t num g i w) (hb : Below B w w') (hg : g < B) : Rd w0 v t num g i w' := ⟨h.1, h.2.1.trans (hb.mono (Nat.le_of_lt (Nat.lt_of_le_of_lt h.2.2.1 hg))), h.2.2.1, h.2.2.2.below hb hg⟩
/-- What is told of one line. -/
def OneIs (t : List Nat) (w : World) (e : Ending) (w' : World) : Ln.Res → Prop
  | .ok LL => ∃ (R : List Ln.W) (u : Value), LL = Ln.close R ∧ R.length ≤ t.length ∧ e = .returned (.tuple #[u, .agg #[.int .i64 0, .int .i64 0, .int .i64 0]]) ∧ OwnW w' w.heap.size u R
  | .bad k ln col => e = .returned (.tuple #[.slice none 0 0, .agg #[.int .i64 (k : Int), .int .i64 (ln : Int), .int .i64 (col : Int)]]) ∧ 1 ≤ k
set_option maxRecDepth 100000 in
set_option maxHeartbeats 4000000 in
theorem one_any (v : Value) (t : List Nat) (num : Nat) (w : World) (hv : Bytes w v t) (ht : t.length ≤ 1000000) (h10 : ∀ x ∈ t, x ≠ 10) (T : Ln.Res) (hT : T = Ln.sp t num 1 []) :
    Calls Try.prog 14 #[v, .int .i64 (num : Int)] w fun e w' => OneIs t w e w' T ∧ Below w.heap.size w w' := by
  have HV := Lib.hid hv
  have HT := Lib.hid hT
  have H10 := Lib.hid h10
  have HTL := Lib.hid ht
  obtain ⟨_, _, A, c, rfl, _, _⟩ := hv.parts
  clear hv hT h10 ht
  obtain ⟨n, hn⟩ : ∃ n, t.length = n := ⟨_, rfl⟩
  have HN := Lib.hid hn
  rw [hn] at HV ⊢
  clear hn
  go_enter Try.func14, Try.ntmps14
  go_wp2_with fail
  obtain ⟨g, hg⟩ : ∃ g, g = w.heap.size + 1 := ⟨_, rfl⟩
  rw [← hg]
  go_loopw [6] (fun uv wr => ∃ (i : Nat) (R : List Ln.W), i ≤ n ∧ R.length ≤ i ∧ Hid (Ln.K t num i R) ∧ Hid (Rd w (.slice A n c) t num g i wr) ∧ Hid (St wr (w.heap.size + 2) (.slice none 0 0) [] uv R) ∧ Hid (Blk wr w.heap.size 29 #[.int .i64 0, .int .i64 0, .int .i64 0]) ∧ Hid (Below w.heap.size w wr)) (fun _ wr => n - (intOf ((wr.cell? ⟨g, 2, none⟩).getD undef)).toNat)
  case atStart =>
    refine ⟨0, [], by omega, by simp, Lib.hid (Ln.K.start t num), Lib.hid ⟨HV.out, ((Below.refl _ _).alloc (Nat.le_refl _) _).alloc (by simp) _, by omega, ?_⟩, Lib.hid (st_none _ _), Lib.hid (Blk.alloc (heap_alloc_new w _) _), Lib.hid (((Below.refl _ _).alloc (Nat.le_refl _) _).alloc (by simp) _)⟩
    rw [hg]
    exact heap_alloc_at _ _ (by simp)
  case round =>
    obtain ⟨i, R, hin, hRi, hK, hR, hS, hF, hbl⟩ := hrel
    have HG := Lib.hid hg
    clear hg
    obtain ⟨wz, rfl⟩ : ∃ wx : World, wx = wr := ⟨_, rfl⟩
    go_wp2_with fail
    refine (more_any (.slice A n c) t num g i w _ hR.out (by rw [HN.out]; exact hin) HTL.out).mono ?_
    rintro ex w2 ⟨j, hij, hjn, hbk, hR2, hG2, hcase⟩
    have hgw : g < wz.heap.size := hR.out.size
    have HZ2 : Hid (wz.cell? ⟨g, 2, none⟩ = some (.int .i64 (i : Int))) := Lib.hid (hR.out.blk.at 2)
    have HK := Lib.hid (by have := hK.out.blanks (j - i) (by omega) (fun y h1 h2 => hbk y h1 (by omega)); rwa [show i + (j - i) = j from by omega] at this)
    have HR2 := Lib.hid hR2
    have HS2 := Lib.hid (hS.out.grownLow hG2 (by have := HG.out; omega))
    have HF2 := Lib.hid (hF.out.grown hG2 (by have := HG.out; simp; omega))
    have HBL2 := Lib.hid (below_grown hbl.out hG2 (by have := HG.out; omega))
    have HJN := Lib.hid hjn
    clear hbk hR2 hG2 hK hR hS hF hbl hjn
    rcases hcase with ⟨rfl, hend⟩ | ⟨rfl, hjl, hnb, hn35⟩
    · have HT2 : Hid (T = .ok (Ln.close R)) := Lib.hid (by
        rw [HT.out]
        rcases hend with h | ⟨h, h35⟩
        · exact HK.out.done h
        · exact HK.out.rest h H10.out h35)
      clear hend
      have g0 : w2.cell? ⟨w.heap.size, 0, none⟩ = some (.int .i64 0) := HF2.out.at 0
      have g1 : w2.cell? ⟨w.heap.size, 1, none⟩ = some (.int .i64 0) := HF2.out.at 1
      have g2 : w2.cell? ⟨w.heap.size, 2, none⟩ = some (.int .i64 0) := HF2.out.at 2
      have f0 := HF2.out.free 0
      have f1 := HF2.out.free 1
      have f2 := HF2.out.free 2
      go_wp2
      refine bodyPost_ret (results_tmp_cell rfl _ _ w.heap.size _ _ _ _ rfl (((HF2.out.set 0 _).set 1 _).set 2 _) Try.underlying29 rfl (by kernel_rfl)) rfl ?_
      refine ⟨?_, ((HBL2.out.setCell (by simp) _).setCell (by simp) _).setCell (by simp) _⟩
      rw [HT2.out]
      refine ⟨R, _, rfl, by rw [HN.out]; omega, rfl, ?_⟩
      obtain ⟨us, h1, h2, h3, h4, h5, h6, h7⟩ := ((HS2.out.setLow (p := ⟨w.heap.size, 0, none⟩) (by simp) (.int .i64 0)).setLow (p := ⟨w.heap.size, 1, none⟩) (by simp) (.int .i64 0)).setLow (p := ⟨w.heap.size, 2, none⟩) (by simp) (.int .i64 0)
      exact h6.more (by omega)
    · have HJL := Lib.hid hjl
      have HNB := Lib.hid hnb
      have HN35 := Lib.hid hn35
      have HJ10 : Hid (t.getD j 0 ≠ 10) := Lib.hid (by
        rw [List.getD_eq_getElem?_getD, List.getElem?_eq_getElem hjl]
        exact H10.out _ (List.getElem_mem hjl))
      obtain ⟨K, hKK⟩ : ∃ K, K = Ln.tok (t.getD j 0) (t.drop (j + 1)) := ⟨_, rfl⟩
      have HKK := Lib.hid hKK
      clear hjl hnb hn35 hKK
      go_wp2_with fail
      refine (next_any (.slice A n c) t num g j w _ HR2.out HJL.out HTL.out H10.out HNB.out HN35.out K HKK.out).mono ?_
      intro ex w3 hni
      have hgw2 : g < w2.heap.size := HR2.out.size
      rcases tok_cases K with ⟨m, hTT⟩ | ⟨s, m, q, hTT⟩ | ⟨k, o, hTT⟩
      · rw [hTT] at hni
        exact hni.skipped.elim
      · have HTT := Lib.hid (HKK.out.symm.trans hTT)
        rw [hTT] at hni
        obtain ⟨rfl, hG3, hR3⟩ := hni
        clear hTT
        have hk3 := HK.out.word HJL.out HJ10.out HTT.out
        obtain ⟨cl, hcl⟩ : ∃ cl, j + 1 = cl := ⟨_, rfl⟩
        rw [hcl] at hk3 ⊢
        have HK3 := Lib.hid hk3
        have HM := Lib.hid (Ln.tok_word_le HTT.out).1
        clear hk3 hcl
        have HR3 := Lib.hid hR3
        have HS3 := Lib.hid (HS2.out.grownLow hG3 (by have := HG.out; omega))
        have HF3 := Lib.hid (HF2.out.grown hG3 (by have := HG.out; simp; omega))
        have HBL3 := Lib.hid (below_grown HBL2.out hG3 (by have := HG.out; omega))
        clear hG3 hR3
        rw [show (cellsW (⟨s, num, cl, q⟩ : Ln.W)).toArray = #[.string (str s), .int .i64 (num : Int), .int .i64 (cl : Int), .bool q] from rfl]
        obtain ⟨Ar, cr, hre, hcr⟩ := HS3.out.row
        subst hre
        obtain ⟨rn, hrn⟩ : ∃ k, R.length = k := ⟨_, rfl⟩
        rw [hrn] at hRi HS3 hcr HS2 ⊢
        have HRN := Lib.hid hrn
        clear hrn
        have hgw3 : g < w3.heap.size := HR3.out.size
        have HSZ : Hid (w.heap.size + 2 ≤ w3.heap.size) := Lib.hid (by have := HG.out; omega)
        go_wp2_with (at_builtin; refine wpList_append_word rfl _ _ rfl (w.heap.size + 2) (w3.heap.size + 1 + 1) (.slice none 0 0) (.slice Ar rn cr) [] R ⟨s, num, cl, q⟩ rfl (((HS3.out.alloc _).alloc _).alloc _) rfl (word_cells3 w3 _ _ ⟨s, num, cl, q⟩) (by rw [HRN.out]; have := HTL.out; have := HN.out; omega) (Nat.le_trans HSZ.out (by simp; omega)) _ rfl ?_)
        rintro u' w4 hst4 hb4
        have HS5 := Lib.hid hst4
        have HR5 := Lib.hid ((((HR3.out.alloc _).alloc _).alloc _).below4 hb4 (by have := HG.out; omega))
        have HF5 := Lib.hid ((((HF3.out.alloc _).alloc _).alloc _).below hb4 (by omega))
        have HBL5 := Lib.hid ((((HBL3.out.alloc HBL3.out.size _).alloc (HBL3.out.alloc HBL3.out.size _).size _).alloc ((HBL3.out.alloc HBL3.out.size _).alloc (HBL3.out.alloc HBL3.out.size _).size _).size _).trans (hb4.mono (by omega)))
        clear hst4 hb4
        go_wp2
        go_roundw
        case rel => exact ⟨j + m, R ++ [⟨s, num, cl, q⟩], by rw [← HN.out]; exact HK3.out.1, by rw [List.length_append, List.length_singleton, HRN.out]; have := HM.out; omega, HK3, HR5, HS5, HF5, HBL5⟩
        case measure =>
          rw [show w4.cell? ⟨g, 2, none⟩ = some (.int .i64 ((j + m : Nat) : Int)) from HR5.out.blk.at 2]
          rw [HZ2.out]
          have h1 := HK3.out.1
          have h2 := HN.out
          have h3 := HM.out
          simp [intOf]
          omega
      · have HTT := Lib.hid (HKK.out.symm.trans hTT)
        rw [hTT] at hni
        obtain ⟨⟨⟨y1, y2, y3, y4⟩, rfl⟩, hG3, hR3⟩ := hni
        clear hTT
        have HF3 := Lib.hid (HF2.out.grown hG3 (by have := HG.out; simp; omega))
        have HBL3 := Lib.hid (below_grown HBL2.out hG3 (by have := HG.out; omega))
        have HT3 : Hid (T = .bad k num (j + 1 + o)) := Lib.hid (by rw [HT.out]; exact HK.out.bad HJL.out HJ10.out HTT.out)
        have HK1 : Hid (1 ≤ k) := Lib.hid (Ln.tok_bad HTT.out).1
        have hk0 : ((k : Int) != 0) = true := by have := HK1.out; simp; omega
        clear hG3 hR3
        rw [show (cellsW (⟨y1, y2, y3, y4⟩ : Ln.W)).toArray = #[.string (str y1), .int .i64 (y2 : Int), .int .i64 (y3 : Int), .bool y4] from rfl]
        go_wp2_with fail
        generalize hW : World.alloc (World.alloc w3 _) _ = W
        have hX : Blk W (w3.heap.size + 1) 29 #[.int .i64 (k : Int), .int .i64 (num : Int), .int .i64 ((j : Int) + 1 + (o : Int))] := by rw [← hW]; exact heap_alloc_at _ _ (by simp)
        have hF4 : Blk W w.heap.size 29 #[.int .i64 0, .int .i64 0, .int .i64 0] := by rw [← hW]; exact (HF3.out.alloc _).alloc _
        have HBL4 : Hid (Below w.heap.size w W) := Lib.hid (by rw [← hW]; exact (HBL3.out.alloc HBL3.out.size _).alloc (HBL3.out.alloc HBL3.out.size _).size _)
        have x0 : W.cell? ⟨w3.heap.size + 1, 0, none⟩ = some (.int .i64 (k : Int)) := hX.at 0
        have x1 : W.cell? ⟨w3.heap.size + 1, 1, none⟩ = some (.int .i64 (num : Int)) := hX.at 1
        have x2 : W.cell? ⟨w3.heap.size + 1, 2, none⟩ = some (.int .i64 ((j : Int) + 1 + (o : Int))) := hX.at 2
        have g0 : W.cell? ⟨w.heap.size, 0, none⟩ = some (.int .i64 0) := hF4.at 0
        have g1 : W.cell? ⟨w.heap.size, 1, none⟩ = some (.int .i64 0) := hF4.at 1
        have g2 : W.cell? ⟨w.heap.size, 2, none⟩ = some (.int .i64 0) := hF4.at 2
        have f0 := hF4.free 0
        have f1 := hF4.free 1
        have f2 := hF4.free 2
        have HF4 := Lib.hid hF4
        clear hX hF4 hW
        go_region
        go_wp2
        refine bodyPost_ret (results_tmp_cell rfl _ _ w.heap.size _ _ _ _ rfl (((HF4.out.set 0 _).set 1 _).set 2 _) Try.underlying29 rfl (by kernel_rfl)) rfl ?_
        have hb5 := ((HBL4.out.setCell (p := ⟨w.heap.size, 0, none⟩) (by simp) (.int .i64 (k : Int))).setCell (p := ⟨w.heap.size, 1, none⟩) (by simp) (.int .i64 (num : Int))).setCell (p := ⟨w.heap.size, 2, none⟩) (by simp) (.int .i64 ((j : Int) + 1 + (o : Int)))
        refine ⟨?_, hb5.1, hb5.2, hb5.3, hb5.4, hb5.5⟩
        rw [HT3.out]
        exact ⟨rfl, HK1.out⟩
end Go.Proofs.Ytpebkdmoloiecaa
