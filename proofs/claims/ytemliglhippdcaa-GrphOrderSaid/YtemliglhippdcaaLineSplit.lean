/- The document's own answer for lines and words: what Split tells. -/
import Derived.Test.YtemliglhippdcaaLineRef
import Derived.Deep.RegionHeld3
import Derived.Deep.DeepCutAuto
import Derived.Deep.RegionWith
import Derived.Deep.CutBlock
namespace Go.Proofs.Ytemliglhippdcaa
set_option maxRecDepth 100000
open Go.ChangeShapes Go.WideShapes Go.ChangeAt Go.RowKit

/-- Lines of words, all of the call's own. -/
def Lns (w : World) (base : Nat) (v : Value) (LL : List (List Ln.W)) : Prop := St w base v LL (.slice none 0 0) []
/-- What is told of a text: its lines, or a fault and no lines. -/
def Told (w : World) (w' : World) (e : Ending) : Ln.Res → Prop
  | .ok LL => ∃ v, e = .returned (.tuple #[v, .agg #[.int .i64 0, .int .i64 0, .int .i64 0]]) ∧ Lns w' w.heap.size v LL
  | .bad k ln col => ∃ A c, e = .returned (.tuple #[.slice A 0 c, .agg #[.int .i64 (k : Int), .int .i64 (ln : Int), .int .i64 (col : Int)]])
def SplitIs (b : List Nat) (w : World) (e : Ending) (w' : World) : Prop := Told w w' e (Ln.split b) ∧ Below w.heap.size w w'
theorem heap_alloc_at (w : World) (o : Obj) {k : Nat} (h : k = w.heap.size) : (w.alloc o).heap[k]? = some o := by subst h; exact heap_alloc_new w o
/-- A word's cells lie in a block that was made for them, behind another one. -/
theorem word_cells (w : World) (o : Obj) (z : Ln.W) : ∀ j y, (cellsW z)[j]? = some y → ((w.alloc o).alloc (.cells (cellsW z).toArray 70)).cell? ⟨w.heap.size + 1, j, none⟩ = some y := fun j y hy => by
  have h : Blk ((w.alloc o).alloc (.cells (cellsW z).toArray 70)) (w.heap.size + 1) 70 (cellsW z).toArray := heap_alloc_at _ _ (by simp)
  rw [h.at j, List.getElem?_toArray]
  exact hy
theorem close_none {R : List Ln.W} (h : R.length = 0) : Ln.close R = [] := by
  rw [List.length_eq_zero_iff.1 h]; rfl
theorem close_some {R : List Ln.W} (h : R.length ≠ 0) : Ln.close R = [R] := by
  cases R with
  | nil => exact absurd rfl h
  | cons x r => rfl
set_option maxRecDepth 100000 in
set_option maxHeartbeats 8000000 in
theorem refsplit_any (v : Value) (b : List Nat) (w : World) (hv : Bytes w v b) (hb : b.length ≤ 1000000) :
    Calls Try.prog 25 #[v] w (SplitIs b w) := by
  have HV := Lib.hid hv
  obtain ⟨hb8, hm, A, c, rfl, hc, hcell⟩ := hv.parts
  obtain ⟨n, hn⟩ : ∃ n, b.length = n := ⟨_, rfl⟩
  rw [hn] at hb hm hc HV ⊢
  have HN := Lib.hid hn
  have HB8 := Lib.hid (u8_lt hb8)
  clear hn hb8 hcell hv hm
  go_enter Try.func25, Try.ntmps25
  go_wp2_with fail
  go_loopw [4, 5, 6, 7, 8] (fun ov rv lv fv iv wr => ∃ (i ln fr : Nat) (O : List (List Ln.W)) (R : List Ln.W), i ≤ n + 1 ∧ fr ≤ i ∧ ln ≤ i + 1 ∧ O.length ≤ i ∧ R.length ≤ i ∧ iv = .int .i64 (i : Int) ∧ lv = .int .i64 (ln : Int) ∧ fv = .int .i64 (fr : Int) ∧
    Hid (Ln.J b i ln fr O R) ∧ St wr (w.heap.size + 1) ov O rv R ∧ Blk wr w.heap.size 28 #[.int .i64 0, .int .i64 0, .int .i64 0] ∧ Below w.heap.size w wr) (fun _ _ _ _ iv _ => n + 1 - (intOf iv).toNat)
  case atStart =>
    exact ⟨0, 1, 0, [], [], by omega, by omega, by omega, by simp, by simp, by go_num, by go_num, by go_num, Lib.hid (Ln.J.start b), st_none _ _, heap_alloc_new w _, (Below.refl _ _).alloc (Nat.le_refl _) _⟩
  case round =>
    obtain ⟨i, ln, fr, O, R, h1, h2, h3, h4, h5, rfl, rfl, rfl, hJ, hst, hF, hbl⟩ := hrel
    obtain ⟨wz, rfl⟩ : ∃ wx : World, wx = wr := ⟨_, rfl⟩
    have HS := Lib.hid hst
    have hwz : w.heap.size + 1 ≤ wz.heap.size := hF.size
    obtain ⟨Ar, cr, hre, hcr⟩ := hst.row
    subst hre
    obtain ⟨rn, hrn⟩ : ∃ k, R.length = k := ⟨_, rfl⟩
    rw [hrn] at h5 HS hcr ⊢
    have HRN := Lib.hid hrn
    clear hst hrn
    by_cases hin : i ≤ n
    · have hin' : (i : Int) ≤ (n : Int) := by omega
      by_cases hend : i = n
      · subst hend
        as_aux_lemma =>
          rcases Nat.eq_zero_or_pos rn with h0 | h0
          · subst h0
            have HJ2 : Hid (Ln.J b (i + 1) (ln + 1) (i + 1) O []) := Lib.hid (by have := hJ.out.done HN.out.symm; rwa [close_none HRN.out, List.append_nil] at this)
            go_wp2
            go_roundw
            case rel => exact ⟨i + 1, ln + 1, i + 1, O, [], by omega, by omega, by omega, by omega, by simp, by go_num, by go_num, by go_num, HJ2, St.nil HRN.out HS.out, hF, hbl⟩
            case measure => simp [intOf]
          · have h0' : (0 : Int) < (rn : Int) := by omega
            have HJ2 : Hid (Ln.J b (i + 1) (ln + 1) (i + 1) (O ++ [R]) []) := Lib.hid (by have := hJ.out.done HN.out.symm; rwa [close_some (by rw [HRN.out]; omega)] at this)
            go_wp2_with (at_builtin; refine wpList_append_line rfl _ _ rfl (w.heap.size + 1) wz.heap.size u4 (.slice Ar rn cr) O R rfl (HS.out.alloc _) rfl (Blk.at (heap_alloc_new wz _) 0) (by omega) (Nat.le_trans hwz (by simp)) _ rfl ?_)
            rintro v' w' hst2 hb2
            have hF2 := (hF.alloc (.cells #[.slice Ar rn cr] 64)).below hb2 (Nat.lt_succ_self _)
            have hbl2 := (hbl.alloc hbl.size (.cells #[.slice Ar rn cr] 64)).trans (hb2.mono (Nat.le_succ _))
            have HS2 := Lib.hid hst2
            clear hst2 hb2 hF hbl
            go_wp2
            go_roundw
            case rel => exact ⟨i + 1, ln + 1, i + 1, O ++ [R], [], by omega, by omega, by omega, by simp; omega, by simp, by go_num, by go_num, by go_num, HJ2, HS2.out, hF2, hbl2⟩
            case measure => simp [intOf]
      · have hi' : i < n := by omega
        have hin2 : (i : Int) < (n : Int) := by omega
        have hV := HV.out.under hbl
        obtain ⟨_, _, A', c', hAe, _, hcell⟩ := hV.parts
        injection hAe with e1 e2 e3
        subst e1
        obtain ⟨bb, off, rfl, hcl⟩ := hcell (by rw [HN.out]; omega)
        have hck := hcl i (by rw [HN.out]; exact hi')
        have HCE := Lib.hid (fun y (hy : y < n) => hcl y (by rw [HN.out]; exact hy))
        clear hcell hcl e2 e3
        obtain ⟨z, hz⟩ : ∃ z, b.getD i 0 = z := ⟨_, rfl⟩
        have HZ8 : Hid (z < 256) := Lib.hid (hz ▸ HB8.out i)
        rw [hz] at hck
        have HZ := Lib.hid hz
        clear hz
        by_cases h10 : z = 10
        · subst h10
          as_aux_lemma =>
            rcases Nat.eq_zero_or_pos rn with h0 | h0
            · subst h0
              have HJ2 : Hid (Ln.J b (i + 1) (ln + 1) (i + 1) O []) := Lib.hid (by have := hJ.out.nl (by rw [HN.out]; exact hi') HZ.out; rwa [close_none HRN.out, List.append_nil] at this)
              go_wp2
              go_roundw
              case rel => exact ⟨i + 1, ln + 1, i + 1, O, [], by omega, by omega, by omega, by omega, by simp, by go_num, by go_num, by go_num, HJ2, St.nil HRN.out HS.out, hF, hbl⟩
              case measure => simp [intOf]; omega
            · have h0' : (0 : Int) < (rn : Int) := by omega
              have HJ2 : Hid (Ln.J b (i + 1) (ln + 1) (i + 1) (O ++ [R]) []) := Lib.hid (by have := hJ.out.nl (by rw [HN.out]; exact hi') HZ.out; rwa [close_some (by rw [HRN.out]; omega)] at this)
              go_wp2_with (at_builtin; refine wpList_append_line rfl _ _ rfl (w.heap.size + 1) wz.heap.size u4 (.slice Ar rn cr) O R rfl (HS.out.alloc _) rfl (Blk.at (heap_alloc_new wz _) 0) (by omega) (Nat.le_trans hwz (by simp)) _ rfl ?_)
              rintro v' w' hst2 hb2
              have hF2 := (hF.alloc (.cells #[.slice Ar rn cr] 64)).below hb2 (Nat.lt_succ_self _)
              have hbl2 := (hbl.alloc hbl.size (.cells #[.slice Ar rn cr] 64)).trans (hb2.mono (Nat.le_succ _))
              have HS2 := Lib.hid hst2
              clear hst2 hb2 hF hbl hck hV
              go_wp2
              go_roundw
              case rel => exact ⟨i + 1, ln + 1, i + 1, O ++ [R], [], by omega, by omega, by omega, by simp; omega, by simp, by go_num, by go_num, by go_num, HJ2, HS2.out, hF2, hbl2⟩
              case measure => simp [intOf]; omega
        · have HZN : Hid (b.getD i 0 ≠ 10) := Lib.hid (by rw [HZ.out]; exact h10)
          have HI : Hid (i < b.length) := Lib.hid (by rw [HN.out]; exact hi')
          obtain ⟨cl, hcol⟩ : ∃ cl : Nat, (i : Int) - (fr : Int) + 1 = (cl : Int) := ⟨i - fr + 1, by omega⟩
          have HCOL : Hid (i - fr + 1 = cl) := Lib.hid (by omega)
          have hbb : bb < wz.heap.size := World.block_lt_of_cell? _ _ hck
          have HCEL : Hid (∀ y, y < n → ∀ o, (wz.alloc o).cell? ⟨bb, off + y, none⟩ = some (.int .u8 ((b.getD y 0 : Nat) : Int))) := Lib.hid (fun y hy o => (World.cell?_alloc_lt wz o ⟨bb, off + y, none⟩ hbb).trans (HCE.out y hy))
          have b10 : ((z : Int) == 10) = false := by simp; omega
          have bin : ((i : Int) == (n : Int)) = false := by simp; omega
          by_cases hbk : z = 32 ∨ z = 9
          · have HJ2 : Hid (Ln.J b (i + 1) ln fr O R) := Lib.hid (hJ.out.skip HI.out h2 HZN.out (Ln.tok_blank (by rw [HZ.out]; exact hbk)) HI.out)
            as_aux_lemma =>
              clear h10 HCEL hcol
              rcases hbk with rfl | rfl
              all_goals
                go_wp2
                go_roundw
                case rel => exact ⟨i + 1, ln, fr, O, R, by omega, by omega, by omega, by omega, by rw [HRN.out]; omega, by go_num, rfl, rfl, HJ2, HS.out.alloc _, hF.alloc _, hbl.alloc hbl.size _⟩
                case measure => simp [intOf]; omega
          · have hk1 : z ≠ 32 := fun e => hbk (.inl e)
            have hk2 : z ≠ 9 := fun e => hbk (.inr e)
            have b32 : ((z : Int) == 32) = false := by simp; omega
            have b9 : ((z : Int) == 9) = false := by simp; omega
            by_cases h35 : z = 35
            · subst h35
              as_aux_lemma =>
                have HJ2 : Hid (∀ k, i + 1 ≤ k → k ≤ n → (∀ y, i + 1 ≤ y → y < k → Ln.noNl (b.getD y 0) = true) → (k = n ∨ b.getD k 0 = 10) → Ln.J b k ln fr O R) := Lib.hid (fun k ha hb' hno hst => by
                  have ht := (Ln.takeWhile_from Ln.noNl b (i + 1) k ha (by rw [HN.out]; exact hb') hno (fun hlt => by
                    rcases hst with h | h
                    · rw [HN.out] at hlt; omega
                    · rw [h]; rfl)).2
                  have := hJ.out.skip (n := k - i) HI.out h2 HZN.out (by rw [HZ.out, Ln.tok_rest, ht]; congr 1; omega) (by rw [HN.out]; omega)
                  rwa [show i + (k - i) = k from by omega] at this)
                clear h10 hbk hk1 hk2
                go_wp2_with fail
                go_loop [8] (fun iv => ∃ k : Nat, i ≤ k ∧ k ≤ n ∧ iv = .int .i64 (k : Int) ∧ Hid (∀ y, i + 1 ≤ y → y < k → Ln.noNl (b.getD y 0) = true)) (fun iv => n - (intOf iv).toNat)
                case atStart => exact ⟨i, Nat.le_refl _, hin, rfl, Lib.hid (by omega)⟩
                case round =>
                  obtain ⟨k, hk1, hk2, rfl, hno⟩ := hrel
                  by_cases hk : k < n
                  · have hkn : (k : Int) < (n : Int) := by omega
                    have hck2 := HCEL.out k hk
                    obtain ⟨z2, hz2⟩ : ∃ z, b.getD k 0 = z := ⟨_, rfl⟩
                    rw [hz2] at hck2
                    have HZ2 := Lib.hid hz2
                    clear hz2
                    by_cases h10 : z2 = 10
                    · subst h10
                      have hik : i + 1 ≤ k := by
                        rcases Nat.lt_or_ge i k with h | h
                        · exact h
                        · have e := HZ.out
                          rw [show i = k from by omega, HZ2.out] at e
                          omega
                      have HJ3 := Lib.hid (HJ2.out k hik hk2 hno.out (.inr HZ2.out))
                      go_wp2
                      go_roundw
                      case rel => exact ⟨k, ln, fr, O, R, by omega, by omega, by omega, by omega, by rw [HRN.out]; omega, by go_num, rfl, rfl, HJ3, HS.out.alloc _, hF.alloc _, hbl.alloc hbl.size _⟩
                      case measure => simp [intOf]; omega
                    · have hne : ((z2 : Int) != 10) = true := by simp; omega
                      have HNO : Hid (∀ y, i + 1 ≤ y → y < k + 1 → Ln.noNl (b.getD y 0) = true) := Lib.hid (fun y ha hb' => by
                        rcases Nat.lt_or_ge y k with h | h
                        · exact hno.out y ha h
                        · rw [show y = k from by omega, HZ2.out]
                          simp [Ln.noNl, h10])
                      clear h10 hno
                      go_wp2
                      go_round
                      case rel => exact ⟨k + 1, by omega, by omega, by go_num, HNO⟩
                      case measure => simp [intOf]; omega
                  · obtain rfl : k = n := by omega
                    have HJ3 := Lib.hid (HJ2.out k hi' hk2 hno.out (.inl rfl))
                    go_wp2
                    go_roundw
                    case rel => exact ⟨k, ln, fr, O, R, by omega, by omega, by omega, by omega, by rw [HRN.out]; omega, by go_num, rfl, rfl, HJ3, HS.out.alloc _, hF.alloc _, hbl.alloc hbl.size _⟩
                    case measure => simp [intOf]; omega
            · have b35 : ((z : Int) == 35) = false := by simp; omega
              rcases hsg : Ln.sign z with _ | _
              · have HSG := Lib.hid hsg
                by_cases h34 : z = 34
                · subst h34
                  as_aux_lemma =>
                    have HQT := Lib.hid (refquoted_any (.slice (some ⟨bb, off, none⟩) n c) b i ⟨[], ln, cl, false⟩)
                    have HTQ : Hid (Ln.tok (b.getD i 0) (b.drop (i + 1)) = Ln.tokq (b.drop (i + 1))) := Lib.hid (by rw [HZ.out]; exact Ln.tok_quote)
                    clear h10 hbk hk1 hk2 hsg HCEL
                    go_wp2_with fail
                    refine (refsign_any 34 _).mono ?_
                    rintro e w2 ⟨rfl, rfl⟩
                    rw [HSG.out]
                    go_wp2_with fail
                    refine (HQT.out _ (hV.alloc _) HI.out (by rw [HN.out]; exact hb)).mono ?_
                    intro e w2 hq
                    rcases htq : Ln.tokq (b.drop (i + 1)) with m | ⟨t, m, q⟩ | ⟨k, o⟩
                    · exact (Ln.tokq_skip htq).elim
                    · rw [htq] at hq
                      obtain ⟨rfl, hq2⟩ := hq
                      obtain ⟨rfl, hm1, hm2, -⟩ := Ln.tokq_word htq
                      rw [List.length_drop, HN.out] at hm2
                      have him : i + m ≤ n := by omega
                      have HJ2 : Hid (Ln.J b (i + m) ln fr O (R ++ [⟨t, ln, cl, true⟩])) := Lib.hid (by have := hJ.out.word HI.out h2 HZN.out (HTQ.out.trans htq) (by rw [HN.out]; exact him); rwa [HCOL.out] at this)
                      rw [show (cellsW { ({ text := [], line := ln, col := cl, q := false } : Ln.W) with text := t, q := true }).toArray = #[.string (str t), .int .i64 ln, .int .i64 cl, .bool true] from rfl]
                      have HST2 := Lib.hid ((HS.out.alloc _).under hq2)
                      have HF2 := Lib.hid ((hF.alloc _).under hq2)
                      have HBL2 := Lib.hid ((hbl.alloc hbl.size _).trans (hq2.mono (hbl.alloc hbl.size _).size))
                      have hw2 : w.heap.size + 1 ≤ w2.heap.size := HF2.out.size
                      obtain ⟨pe, hpe⟩ : ∃ pe, i + m = pe := ⟨_, rfl⟩
                      rw [hpe] at HJ2 him ⊢
                      have hpi : i + 1 ≤ pe := by omega
                      clear hq2 htq hm2 hF hbl hck hV hJ
                      go_wp2_with (at_builtin; refine wpList_append_word rfl _ _ rfl (w.heap.size + 1) (w2.heap.size + 1) u4 (.slice Ar rn cr) O R ⟨t, ln, cl, true⟩ rfl ((HST2.out.alloc _).alloc _) rfl (word_cells w2 _ ⟨t, ln, cl, true⟩) (by rw [HRN.out]; omega) (Nat.le_trans hw2 (by simp; omega)) _ rfl ?_)
                      rintro u' w' hst2 hb2
                      have hF3 := ((HF2.out.alloc _).alloc _).below hb2 (Nat.lt_succ_self _)
                      have hbl3 := ((HBL2.out.alloc HBL2.out.size _).alloc (HBL2.out.alloc HBL2.out.size _).size _).trans (hb2.mono (Nat.le_succ _))
                      have HS2 := Lib.hid hst2
                      clear hst2 hb2
                      go_wp2
                      go_roundw
                      case rel => exact ⟨pe, ln, fr, O, R ++ [⟨t, ln, cl, true⟩], by omega, by omega, by omega, by omega, by rw [List.length_append, HRN.out, List.length_singleton]; omega, by go_num, rfl, rfl, HJ2, HS2.out, hF3, hbl3⟩
                      case measure => simp [intOf]; omega
                    · rw [htq] at hq
                      obtain ⟨⟨y, rfl⟩, hq2⟩ := hq
                      obtain ⟨hk0, hk3, ho⟩ := Ln.tokq_bad htq
                      rw [List.length_drop, HN.out] at ho
                      have HB : Hid (Ln.split b = .bad k ln (cl + o)) := Lib.hid (by have := hJ.out.bad HI.out HZN.out (HTQ.out.trans htq); rwa [HCOL.out] at this)
                      rw [show (cellsW y).toArray = #[.string (str y.text), .int .i64 y.line, .int .i64 y.col, .bool y.q] from rfl]
                      have HF2 := Lib.hid ((hF.alloc _).under hq2)
                      have HBL2 := Lib.hid ((hbl.alloc hbl.size _).trans (hq2.mono (hbl.alloc hbl.size _).size))
                      obtain ⟨pe, hpe⟩ : ∃ pe, i + o = pe := ⟨_, rfl⟩
                      obtain ⟨co, hco⟩ : ∃ co : Nat, (pe : Int) - (fr : Int) + 1 = (co : Int) := ⟨pe - fr + 1, by omega⟩
                      have HCO : Hid (cl + o = co) := Lib.hid (by omega)
                      have hpn : pe ≤ n := by omega
                      have hpf : fr ≤ pe := by omega
                      have hkz : ((k : Int) != 0) = true := by simp; omega
                      rw [hpe]
                      clear hq2 htq ho hF hbl hck hV hJ hpe
                      go_wp2_with fail
                      refine (reffault_any k ln co _).mono ?_
                      rintro e w3 ⟨rfl, hb2⟩
                      have hF3 := (HF2.out.alloc _).under hb2
                      have hbl3 := (HBL2.out.alloc HBL2.out.size _).trans (hb2.mono (HBL2.out.alloc HBL2.out.size _).size)
                      have g0 : w3.cell? ⟨w.heap.size, 0, none⟩ = some (.int .i64 0) := hF3.at 0
                      have g1 : w3.cell? ⟨w.heap.size, 1, none⟩ = some (.int .i64 0) := hF3.at 1
                      have g2 : w3.cell? ⟨w.heap.size, 2, none⟩ = some (.int .i64 0) := hF3.at 2
                      have f0 := hF3.free 0
                      have f1 := hF3.free 1
                      have f2 := hF3.free 2
                      clear hb2
                      go_wp2
                      refine bodyPost_ret (results_tmp_cell rfl _ _ w.heap.size _ _ _ _ rfl (((hF3.set 0 _).set 1 _).set 2 _) Try.underlying28 rfl (by kernel_rfl)) rfl ?_
                      refine ⟨?_, ((hbl3.setCell (by simp) _).setCell (by simp) _).setCell (by simp) _⟩
                      rw [HB.out, HCO.out]
                      exact ⟨none, 0, rfl⟩
                · have b34 : ((z : Int) == 34) = false := by simp; omega
                  by_cases hby : z < 33 ∨ 126 < z
                  · have HTK := Lib.hid (Ln.tok_byte (r := b.drop (i + 1)) hbk hby hsg)
                    as_aux_lemma =>
                      have HB : Hid (Ln.split b = .bad 1 ln cl) := Lib.hid (by have := hJ.out.bad HI.out HZN.out (by rw [HZ.out]; exact HTK.out); rwa [HCOL.out] at this)
                      clear h10 hbk hk1 hk2 hsg HTK HCEL
                      have hby' : (z : Int) < 33 ∨ ((33 : Int) ≤ (z : Int) ∧ (126 : Int) < (z : Int)) := by omega
                      clear hby
                      go_wp2_with fail
                      refine (refsign_any z _).mono ?_
                      rintro e w2 ⟨rfl, rfl⟩
                      rw [HSG.out]
                      rcases hby' with c1 | ⟨c1, c2⟩
                      all_goals
                        go_wp2_with fail
                        refine (reffault_any 1 ln cl _).mono ?_
                        rintro e w2 ⟨rfl, hb2⟩
                        have hF2 := (hF.alloc _).under hb2
                        have hbl2 := (hbl.alloc hbl.size _).trans (hb2.mono (hbl.alloc hbl.size _).size)
                        have g0 : w2.cell? ⟨w.heap.size, 0, none⟩ = some (.int .i64 0) := hF2.at 0
                        have g1 : w2.cell? ⟨w.heap.size, 1, none⟩ = some (.int .i64 0) := hF2.at 1
                        have g2 : w2.cell? ⟨w.heap.size, 2, none⟩ = some (.int .i64 0) := hF2.at 2
                        have f0 := hF2.free 0
                        have f1 := hF2.free 1
                        have f2 := hF2.free 2
                        clear hb2 hck
                        go_wp2
                        refine bodyPost_ret (results_tmp_cell rfl _ _ w.heap.size _ _ _ _ rfl (((hF2.set 0 _).set 1 _).set 2 _) Try.underlying28 rfl (by kernel_rfl)) rfl ?_
                        refine ⟨?_, ((hbl2.setCell (by simp) _).setCell (by simp) _).setCell (by simp) _⟩
                        rw [HB.out]
                        exact ⟨none, 0, rfl⟩
                  · have HTK := Lib.hid (Ln.tok_plain (r := b.drop (i + 1)) (c := z) (by omega) h35 h34 hsg)
                    as_aux_lemma =>
                      have hz33 : ¬ (z : Int) < 33 := by omega
                      have hz126 : ¬ (126 : Int) < (z : Int) := by omega
                      have HPZ : Hid (Ln.plain z = true) := Lib.hid (by simp [Ln.plain, hsg]; omega)
                      clear h10 hbk hk1 hk2 hsg hby
                      go_wp2_with fail
                      refine (refsign_any z _).mono ?_
                      rintro e w2 ⟨rfl, rfl⟩
                      rw [HSG.out]
                      go_upto_block 3 with fail
                      go_cut [15] (fun kv wx => ∃ k : Nat, i + 1 ≤ k ∧ k ≤ n ∧ kv = .int .i64 (k : Int) ∧ ((b.drop (i + 1)).takeWhile Ln.plain = (b.drop (i + 1)).take (k - (i + 1)) ∧ ((b.drop (i + 1)).takeWhile Ln.plain).length = k - (i + 1)) ∧ wz.alloc (.cells #[.string { data := #[] }, .int .i64 ln, .int .i64 cl, .bool false] 70) = wx)
                      case first =>
                        go_wp2_with fail
                        go_loop [15] (fun kv => ∃ k : Nat, i ≤ k ∧ k ≤ n ∧ kv = .int .i64 (k : Int) ∧ Hid (∀ y, i + 1 ≤ y → y < k → Ln.plain (b.getD y 0) = true)) (fun kv => n - (intOf kv).toNat)
                        case atStart => exact ⟨i, Nat.le_refl _, hin, rfl, Lib.hid (by omega)⟩
                        case round =>
                          obtain ⟨k, hk1, hk2, rfl, hpl⟩ := hrel
                          by_cases hk : k < n
                          · have hkn : (k : Int) < (n : Int) := by omega
                            have hck2 := HCEL.out k hk
                            obtain ⟨z2, hz2⟩ : ∃ z, b.getD k 0 = z := ⟨_, rfl⟩
                            rw [hz2] at hck2
                            have HZ2 := Lib.hid hz2
                            clear hz2
                            have hsp : (Ln.plain z2 = true ∧ (32 : Int) < (z2 : Int) ∧ (z2 : Int) < 127 ∧ ((z2 : Int) != 34) = true ∧ Ln.sign z2 = false) ∨ (Ln.plain z2 = false ∧ (¬ (32 : Int) < (z2 : Int) ∨ ((32 : Int) < (z2 : Int) ∧ ¬ (z2 : Int) < 127) ∨ ((32 : Int) < (z2 : Int) ∧ (z2 : Int) < 127 ∧ z2 = 34) ∨ ((32 : Int) < (z2 : Int) ∧ (z2 : Int) < 127 ∧ ((z2 : Int) != 34) = true ∧ Ln.sign z2 = true))) := by
                              by_cases a1 : 32 < z2
                              · by_cases a2 : z2 < 127
                                · by_cases a3 : z2 = 34
                                  · exact .inr ⟨by simp [Ln.plain, a3], .inr (.inr (.inl ⟨by omega, by omega, a3⟩))⟩
                                  · have a4 : ((z2 : Int) != 34) = true := by simp; omega
                                    rcases hs : Ln.sign z2 with _ | _
                                    · exact .inl ⟨by simp [Ln.plain, a1, a2, a3, hs], by omega, by omega, a4, rfl⟩
                                    · exact .inr ⟨by simp [Ln.plain, hs], .inr (.inr (.inr ⟨by omega, by omega, a4, rfl⟩))⟩
                                · exact .inr ⟨by simp [Ln.plain, a2], .inr (.inl ⟨by omega, by omega⟩)⟩
                              · exact .inr ⟨by simp [Ln.plain, a1], .inl (by omega)⟩
                            rcases hsp with ⟨hp, a1, a2, a3, a4⟩ | ⟨hp, hways⟩
                            · have HPL : Hid (∀ y, i + 1 ≤ y → y < k + 1 → Ln.plain (b.getD y 0) = true) := Lib.hid (fun y ha hb' => by
                                rcases Nat.lt_or_ge y k with h | h
                                · exact hpl.out y ha h
                                · rw [show y = k from by omega, HZ2.out]
                                  exact hp)
                              have HS4 := Lib.hid a4
                              clear hp hpl a4
                              go_wp2_with fail
                              refine (refsign_any z2 _).mono ?_
                              rintro e w2 ⟨rfl, rfl⟩
                              rw [HS4.out]
                              go_wp2
                              go_round
                              case rel => exact ⟨k + 1, by omega, by omega, by go_num, HPL⟩
                              case measure => simp [intOf]; omega
                            · have hik : i + 1 ≤ k := by
                                rcases Nat.lt_or_ge i k with h | h
                                · exact h
                                · have e := HZ.out
                                  rw [show i = k from by omega, HZ2.out] at e
                                  rw [e, HPZ.out] at hp
                                  cases hp
                              have HRUN := Lib.hid (Ln.takeWhile_from Ln.plain b (i + 1) k hik (by rw [HN.out]; exact hk2) hpl.out (fun _ => by rw [HZ2.out]; exact hp))
                              clear hp hpl
                              rcases hways with a1 | ⟨a1, a2⟩ | ⟨a1, a2, rfl⟩ | ⟨a1, a2, a3, a4⟩
                              · go_wp2_with fail
                                go_meet
                                exact ⟨k, hik, hk2, rfl, HRUN.out, rfl⟩
                              · go_wp2_with fail
                                go_meet
                                exact ⟨k, hik, hk2, rfl, HRUN.out, rfl⟩
                              · go_wp2_with fail
                                go_meet
                                exact ⟨k, hik, hk2, rfl, HRUN.out, rfl⟩
                              · have HS4 := Lib.hid a4
                                clear a4
                                go_wp2_with fail
                                refine (refsign_any z2 _).mono ?_
                                rintro e w2 ⟨rfl, rfl⟩
                                rw [HS4.out]
                                go_wp2_with fail
                                go_meet
                                exact ⟨k, hik, hk2, rfl, HRUN.out, rfl⟩
                          · obtain rfl : k = n := by omega
                            have HRUN := Lib.hid (Ln.takeWhile_from Ln.plain b (i + 1) k hi' (by rw [HN.out]; exact hk2) hpl.out (fun h => absurd h (by rw [HN.out]; omega)))
                            go_wp2_with fail
                            go_meet
                            exact ⟨k, hi', hk2, rfl, HRUN.out, rfl⟩
                      case rest =>
                        obtain ⟨k, hik, hkn, rfl, hrun, rfl⟩ := hcut
                        have hT : List.drop i (List.take k b) = z :: (b.drop (i + 1)).take (k - (i + 1)) := by
                          rw [List.drop_take, Ln.drop_cons HI.out, HZ.out, show k - i = (k - (i + 1)) + 1 from by omega, List.take_succ_cons]
                        have hs1 := fun o => ((hV.alloc o).head (k := k) hkn (by omega)).tail (k := i) (d := c - i) (A' := some ⟨bb, off + i, none⟩) (by omega) (by omega) (fun _ b0 o0 e => by cases e; rfl)
                        have htk := HTK.out
                        rw [hrun.2, hrun.1] at htk
                        obtain ⟨T, hTe⟩ : ∃ T, z :: (b.drop (i + 1)).take (k - (i + 1)) = T := ⟨_, rfl⟩
                        have hTl : T.length = k - i := by
                          rw [← hTe, List.length_cons, List.length_take, List.length_drop, HN.out]
                          omega
                        rw [hT, hTe] at hs1
                        rw [hTe, show k - (i + 1) + 1 = k - i from by omega] at htk
                        have hcv := fun o => run_text (hs1 o)
                        have hsz : (str T).size = k - i := by rw [str_size, hTl]
                        have hkc : (k : Int) ≤ (c : Int) := by omega
                        have hik' : (i : Int) ≤ (k : Int) := by omega
                        have hi0 : (0 : Int) ≤ (i : Int) := by omega
                        clear hs1 hT hTe hTl hrun HCEL HTK
                        rcases Nat.lt_or_ge 64 (k - i) with hL | hL
                        · have hL' : (64 : Int) < ((k - i : Nat) : Int) := by omega
                          have HB : Hid (Ln.split b = .bad 3 ln cl) := Lib.hid (by have := hJ.out.bad HI.out HZN.out (by rw [HZ.out]; exact htk.trans (if_pos hL)); rwa [HCOL.out] at this)
                          clear hL htk hck
                          go_wp2_with fail
                          refine (reffault_any 3 ln cl _).mono ?_
                          rintro e w2 ⟨rfl, hb2⟩
                          have hF2 := (hF.alloc _).under hb2
                          have hbl2 := (hbl.alloc hbl.size _).trans (hb2.mono (hbl.alloc hbl.size _).size)
                          have g0 : w2.cell? ⟨w.heap.size, 0, none⟩ = some (.int .i64 0) := hF2.at 0
                          have g1 : w2.cell? ⟨w.heap.size, 1, none⟩ = some (.int .i64 0) := hF2.at 1
                          have g2 : w2.cell? ⟨w.heap.size, 2, none⟩ = some (.int .i64 0) := hF2.at 2
                          have f0 := hF2.free 0
                          have f1 := hF2.free 1
                          have f2 := hF2.free 2
                          clear hb2 hcv
                          go_wp2
                          refine bodyPost_ret (results_tmp_cell rfl _ _ w.heap.size _ _ _ _ rfl (((hF2.set 0 _).set 1 _).set 2 _) Try.underlying28 rfl (by kernel_rfl)) rfl ?_
                          refine ⟨?_, ((hbl2.setCell (by simp) _).setCell (by simp) _).setCell (by simp) _⟩
                          rw [HB.out]
                          exact ⟨none, 0, rfl⟩
                        · have hL' : ¬ (64 : Int) < ((k - i : Nat) : Int) := by omega
                          have HJ2 : Hid (Ln.J b k ln fr O (R ++ [⟨T, ln, cl, false⟩])) := Lib.hid (by
                            have := hJ.out.word HI.out h2 HZN.out (by rw [HZ.out]; exact htk.trans (if_neg (by omega))) (by rw [HN.out]; omega)
                            rwa [HCOL.out, show i + (k - i) = k from by omega] at this)
                          clear hL htk
                          go_wp2_with (at_builtin; refine wpList_append_word rfl _ _ rfl (w.heap.size + 1) (wz.heap.size + 1) u4 (.slice Ar rn cr) O R ⟨T, ln, cl, false⟩ rfl ((HS.out.alloc _).alloc _) rfl (word_cells wz _ ⟨T, ln, cl, false⟩) (by rw [HRN.out]; omega) (Nat.le_trans hwz (by simp; omega)) _ rfl ?_)
                          rintro u' w' hst2 hb2
                          have hF2 := ((hF.alloc _).alloc _).below hb2 (Nat.lt_succ_self _)
                          have hbl2 := ((hbl.alloc hbl.size _).alloc (hbl.alloc hbl.size _).size _).trans (hb2.mono (Nat.le_succ _))
                          have HS2 := Lib.hid hst2
                          clear hst2 hb2 hF hbl hck hV hcv
                          go_wp2
                          go_roundw
                          case rel => exact ⟨k, ln, fr, O, R ++ [⟨T, ln, cl, false⟩], by omega, by omega, by omega, by omega, by rw [List.length_append, HRN.out, List.length_singleton]; omega, by go_num, rfl, rfl, HJ2, HS2.out, hF2, hbl2⟩
                          case measure => simp [intOf]; omega
              · have HTK := Lib.hid (Ln.tok_sign (r := b.drop (i + 1)) hsg)
                have HSG := Lib.hid hsg
                as_aux_lemma =>
                  have HJ2 : Hid (Ln.J b (i + 1) ln fr O (R ++ [⟨[z], ln, cl, false⟩])) := Lib.hid (by have := hJ.out.word HI.out h2 HZN.out (by rw [HZ.out]; exact HTK.out) HI.out; rwa [HCOL.out] at this)
                  have hs1 := fun o => ((hV.alloc o).head (k := i + 1) (by omega) (by omega)).tail (k := i) (d := c - i) (A' := some ⟨bb, off + i, none⟩) (by omega) (by omega) (fun _ b0 o0 e => by cases e; rfl)
                  have hz1 : List.drop i (List.take (i + 1) b) = [z] := by
                    rw [List.drop_take, show i + 1 - i = 1 from by omega, Ln.drop_cons HI.out, HZ.out]
                    rfl
                  rw [hz1, show i + 1 - i = 1 from by omega] at hs1
                  have hcv := fun o => run_text (hs1 o)
                  have hic : (i : Int) + 1 ≤ (c : Int) := by omega
                  have hi0 : (0 : Int) ≤ (i : Int) := by omega
                  clear hs1 hz1 h10 hbk hk1 hk2 hsg HTK HCEL
                  go_wp2_with fail
                  refine (refsign_any z _).mono ?_
                  rintro e w2 ⟨rfl, rfl⟩
                  rw [HSG.out]
                  go_wp2_with (at_builtin; refine wpList_append_word rfl _ _ rfl (w.heap.size + 1) (wz.heap.size + 1) u4 (.slice Ar rn cr) O R ⟨[z], ln, cl, false⟩ rfl ((HS.out.alloc _).alloc _) rfl (word_cells wz _ ⟨[z], ln, cl, false⟩) (by rw [HRN.out]; omega) (Nat.le_trans hwz (by simp; omega)) _ rfl ?_)
                  rintro u' w' hst2 hb2
                  have hF2 := ((hF.alloc _).alloc _).below hb2 (Nat.lt_succ_self _)
                  have hbl2 := ((hbl.alloc hbl.size _).alloc (hbl.alloc hbl.size _).size _).trans (hb2.mono (Nat.le_succ _))
                  have HS2 := Lib.hid hst2
                  clear hst2 hb2 hF hbl hck hV hcv
                  go_wp2
                  go_roundw
                  case rel => exact ⟨i + 1, ln, fr, O, R ++ [⟨[z], ln, cl, false⟩], by omega, by omega, by omega, by omega, by rw [List.length_append, HRN.out, List.length_singleton]; omega, by go_num, rfl, rfl, HJ2, HS2.out, hF2, hbl2⟩
                  case measure => simp [intOf]; omega
    · obtain rfl : i = n + 1 := by omega
      as_aux_lemma =>
        have HO : Hid (Ln.split b = .ok O) := Lib.hid (by
          rcases hJ.out with h | h
          · have := h.1
            rw [HN.out] at this
            omega
          · exact h.2.1)
        have g0 : wz.cell? ⟨w.heap.size, 0, none⟩ = some (.int .i64 0) := hF.at 0
        have g1 : wz.cell? ⟨w.heap.size, 1, none⟩ = some (.int .i64 0) := hF.at 1
        have g2 : wz.cell? ⟨w.heap.size, 2, none⟩ = some (.int .i64 0) := hF.at 2
        have f0 := hF.free 0
        have f1 := hF.free 1
        have f2 := hF.free 2
        go_wp2
        refine bodyPost_ret (results_tmp_cell rfl _ _ w.heap.size _ _ _ _ rfl (((hF.set 0 _).set 1 _).set 2 _) Try.underlying28 rfl (by kernel_rfl)) rfl ?_
        refine ⟨?_, ((hbl.setCell (by simp) _).setCell (by simp) _).setCell (by simp) _⟩
        rw [HO.out]
        exact ⟨u4, rfl, ((((HS.out.setLow (by simp) _).setLow (by simp) _).setLow (by simp) _).more (Nat.le_succ _)).drop⟩
end Go.Proofs.Ytemliglhippdcaa
