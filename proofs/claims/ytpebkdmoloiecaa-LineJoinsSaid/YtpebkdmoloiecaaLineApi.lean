/- The program's own call on lines: what Split tells of any bytes. -/
import Derived.Test.YtpebkdmoloiecaaLineOne
import Derived.Test.YtpebkdmoloiecaaSame
namespace Go.Proofs.Ytpebkdmoloiecaa
open Go.ChangeShapes Go.WideShapes Go.ChangeAt Go.RowKit

/-- A row that was made behind all that is there. -/
theorem St.put {w w' : World} {base : Nat} {v u : Value} {LL : List (List Ln.W)} {R : List Ln.W} (h : St w base v LL (.slice none 0 0) []) (hb : Below w.heap.size w w') (hbase : base ≤ w.heap.size) (hu : OwnW w' w.heap.size u R) : St w' base v LL u R := by
  obtain ⟨us, h1, h2, h3, h4, h5, h6, h7⟩ := h.under hb
  obtain ⟨us', h1', h2', h3', h4', h5', h6', h7'⟩ := h
  refine ⟨us', h1', h2'.kept (Below.toGrown hb none) (by cases v.ownBlock <;> simp), h3', fun i hi => (h4' i hi).under hb, h5', hu.more hbase, fun i hi => ?_⟩
  have hlt := (h4' i hi).lt
  have hge := hu.lt
  cases hx : (us'.getD i undef).ownBlock with
  | none => exact .inl rfl
  | some k =>
    refine .inr fun e => ?_
    have h1 := (hlt k hx).2
    have h2 := (hge k e.symm).1
    omega
/-- How far a text is read, line by line. -/
def Q (b : List Nat) (i ln : Nat) (O : List (List Ln.W)) : Prop := i ≤ b.length ∧ Ln.split b = (Ln.sp (b.drop i) ln 1 []).pre O
theorem Q.start (b : List Nat) : Q b 0 1 [] := ⟨Nat.zero_le _, by rw [Ln.Res.pre_nil]; rfl⟩
theorem Q.done {b : List Nat} {i ln : Nat} {O : List (List Ln.W)} (h : Q b i ln O) (hi : i = b.length) : Ln.split b = .ok O := by
  rw [h.2, hi, List.drop_of_length_le (Nat.le_refl _), Ln.sp_nil]
  simp [Ln.Res.pre, Ln.close]
theorem Q.last {b : List Nat} {i ln : Nat} {O LL : List (List Ln.W)} (h : Q b i ln O) (hs : Ln.sp (b.drop i) ln 1 [] = .ok LL) : Q b b.length (ln + 1) (O ++ LL) := by
  refine ⟨Nat.le_refl _, ?_⟩
  rw [h.2, hs, List.drop_of_length_le (Nat.le_refl _), Ln.sp_nil]
  simp [Ln.Res.pre, Ln.close]
theorem cut_at {r : List Nat} {k : Nat} (hk : k < r.length) (h10 : r.getD k 0 = 10) : r = r.take k ++ 10 :: r.drop (k + 1) := by
  conv => lhs; rw [← List.take_append_drop k r]
  rw [Ln.drop_cons hk, h10]
theorem no_ten {r : List Nat} {k : Nat} (hn : ∀ y, y < k → r.getD y 0 ≠ 10) : ∀ x ∈ r.take k, x ≠ 10 := by
  intro x hx
  obtain ⟨y, hy, rfl⟩ := List.getElem_of_mem hx
  rw [List.length_take] at hy
  have := hn y (by omega)
  rw [List.getD_eq_getElem?_getD, List.getElem?_eq_getElem (by omega)] at this
  rw [List.getElem_take]
  exact this
theorem Q.line {b : List Nat} {i ln k : Nat} {O LL : List (List Ln.W)} (h : Q b i ln O) (hk : k < (b.drop i).length) (h10 : (b.drop i).getD k 0 = 10) (hn : ∀ y, y < k → (b.drop i).getD y 0 ≠ 10) (hs : Ln.sp ((b.drop i).take k) ln 1 [] = .ok LL) : Q b (i + k + 1) (ln + 1) (O ++ LL) := by
  have hl : i + k + 1 ≤ b.length := by rw [List.length_drop] at hk; omega
  refine ⟨hl, ?_⟩
  rw [h.2, cut_at hk h10, Ln.sp_first _ ln (no_ten hn), hs, List.drop_drop]
  show (Ln.Res.pre LL _).pre O = _
  rw [Ln.Res.pre_pre]
  rfl
theorem Q.badline {b : List Nat} {i ln k kd l c : Nat} {O : List (List Ln.W)} (h : Q b i ln O) (hk : k < (b.drop i).length) (h10 : (b.drop i).getD k 0 = 10) (hn : ∀ y, y < k → (b.drop i).getD y 0 ≠ 10) (hs : Ln.sp ((b.drop i).take k) ln 1 [] = .bad kd l c) : Ln.split b = .bad kd l c := by
  rw [h.2, cut_at hk h10, Ln.sp_first _ ln (no_ten hn), hs]
  rfl
theorem Q.badlast {b : List Nat} {i ln kd l c : Nat} {O : List (List Ln.W)} (h : Q b i ln O) (hs : Ln.sp (b.drop i) ln 1 [] = .bad kd l c) : Ln.split b = .bad kd l c := by
  rw [h.2, hs]
  rfl
/-- The line that is cut off: all its bytes, where the reading goes on, and what it means to have read it. -/
def Step (b : List Nat) (i ln : Nat) (O : List (List Ln.W)) (t : List Nat) (i' : Nat) : Prop :=
  i < i' ∧ i' ≤ b.length ∧ t.length ≤ i' - i ∧ (∀ x ∈ t, x ≠ 10) ∧ (∀ LL, Ln.sp t ln 1 [] = .ok LL → Q b i' (ln + 1) (O ++ LL)) ∧ ∀ kd l c, Ln.sp t ln 1 [] = .bad kd l c → Ln.split b = .bad kd l c
theorem step_cut {b : List Nat} {i ln k : Nat} {O : List (List Ln.W)} (h : Q b i ln O) (hk : k < (b.drop i).length) (h10 : (b.drop i).getD k 0 = 10) (hn : ∀ y, y < k → (b.drop i).getD y 0 ≠ 10) : Step b i ln O ((b.drop i).take k) (i + k + 1) :=
  ⟨by omega, by rw [List.length_drop] at hk; omega, by rw [List.length_take]; omega, no_ten hn, fun LL hs => h.line hk h10 hn hs, fun kd l c hs => h.badline hk h10 hn hs⟩
theorem step_last {b : List Nat} {i ln : Nat} {O : List (List Ln.W)} (h : Q b i ln O) (hi : i < b.length) (hn : ∀ y, y < (b.drop i).length → (b.drop i).getD y 0 ≠ 10) : Step b i ln O (b.drop i) b.length :=
  ⟨hi, Nat.le_refl _, by rw [List.length_drop]; omega, by have := no_ten hn; rwa [List.take_length] at this, fun LL hs => h.last hs, fun kd l c hs => h.badlast hs⟩
set_option maxRecDepth 100000 in
set_option maxHeartbeats 8000000 in
theorem split_any (v : Value) (b : List Nat) (w : World) (hv : Bytes w v b) (hb : b.length ≤ 1000000) :
    Calls Try.prog 10 #[v] w (SplitIs b w) := by
  have HV := Lib.hid hv
  have HB := Lib.hid hb
  clear hb
  obtain ⟨n, hn⟩ : ∃ n, b.length = n := ⟨_, rfl⟩
  have HN := Lib.hid hn
  have HN6 : Hid (n ≤ 1000000) := Lib.hid (by rw [← hn]; exact HB.out)
  clear hn hv
  go_enter Try.func10, Try.ntmps10
  go_wp2_with fail
  go_loopw [0, 4, 5] (fun bv ov lv wr => ∃ (i ln : Nat) (O : List (List Ln.W)), i ≤ n ∧ ln ≤ i + 1 ∧ O.length ≤ i ∧ lv = .int .i64 (ln : Int) ∧ Hid (Q b i ln O) ∧ Hid (Bytes w bv (b.drop i)) ∧ Hid (St wr (w.heap.size + 1) ov O (.slice none 0 0) []) ∧ Hid (Blk wr w.heap.size 29 #[.int .i64 0, .int .i64 0, .int .i64 0]) ∧ Hid (Below w.heap.size w wr)) (fun bv _ _ _ => match bv with | .slice _ k _ => k | _ => 0)
  case atStart => exact ⟨0, 1, [], by omega, by omega, by simp, by go_num, Lib.hid (Q.start b), Lib.hid HV.out, Lib.hid (st_none _ _), Lib.hid (heap_alloc_new w _), Lib.hid ((Below.refl _ _).alloc (Nat.le_refl _) _)⟩
  case round =>
    obtain ⟨i, ln, O, hin, hln, hOi, rfl, hQ, hV, hS, hF, hbl⟩ := hrel
    obtain ⟨wz, rfl⟩ : ∃ wx : World, wx = wr := ⟨_, rfl⟩
    obtain ⟨_, _, A, c, hve, hc, _⟩ := hV.out.parts
    subst hve
    obtain ⟨r, hr⟩ : ∃ r, r = n - i := ⟨_, rfl⟩
    have HRL : Hid ((b.drop i).length = r) := Lib.hid (by rw [List.length_drop, HN.out, hr])
    rw [HRL.out] at hV hc ⊢
    by_cases hend : i = n
    · subst hend
      have h0 : r = 0 := by omega
      clear hr
      subst h0
      have HO : Hid (Ln.split b = .ok O) := Lib.hid (hQ.out.done HN.out.symm)
      have g0 : wz.cell? ⟨w.heap.size, 0, none⟩ = some (.int .i64 0) := hF.out.at 0
      have g1 : wz.cell? ⟨w.heap.size, 1, none⟩ = some (.int .i64 0) := hF.out.at 1
      have g2 : wz.cell? ⟨w.heap.size, 2, none⟩ = some (.int .i64 0) := hF.out.at 2
      have f0 := hF.out.free 0
      have f1 := hF.out.free 1
      have f2 := hF.out.free 2
      go_wp2
      refine bodyPost_ret (results_tmp_cell rfl _ _ w.heap.size _ _ _ _ rfl (((hF.out.set 0 _).set 1 _).set 2 _) Try.underlying29 rfl (by kernel_rfl)) rfl ?_
      refine ⟨?_, ((hbl.out.setCell (by simp) _).setCell (by simp) _).setCell (by simp) _⟩
      rw [HO.out]
      exact ⟨u4, rfl, ((((hS.out.setLow (by simp) _).setLow (by simp) _).setLow (by simp) _).more (Nat.le_succ _)).drop⟩
    · have hr0 : (0 : Int) < (r : Int) := by omega
      have hr1 : 0 < r := by omega
      have HIN : Hid (i < b.length) := Lib.hid (by rw [HN.out]; omega)
      have HR := Lib.hid hr
      clear hr hend
      have hws : w.heap.size + 1 ≤ wz.heap.size := hF.out.size
      go_wp2_with fail
      refine (cut_any (.slice A r c) (b.drop i) wz.heap.size 0 1 _ ((hV.out.under hbl.out).alloc _) (by rw [HRL.out]; exact hr1) (by rw [HRL.out]; have := HB.out; have := HN.out; have := HR.out; omega) (Blk.at (heap_alloc_new wz _) 0)).mono ?_
      rintro ex w2 ⟨⟨nq, hw2⟩, hcut⟩
      have key : ∃ v1 A2 c2 f t i', ex = .returned (.tuple #[v1, .slice A2 (n - i') c2, .bool f]) ∧ Bytes w v1 t ∧ Bytes w (.slice A2 (n - i') c2) (b.drop i') ∧ Step b i ln O t i' := by
        have hlen : ∀ i', (b.drop i').length = n - i' := fun i' => by rw [List.length_drop, HN.out]
        rcases hcut with ⟨k, v1, v2, h1, h2, h3, rfl, h56⟩ | ⟨h1, rfl⟩
        · obtain ⟨h5, h6⟩ := h56 w hV.out
          rw [List.drop_drop, show i + (k + 1) = i + k + 1 from by omega] at h6
          obtain ⟨_, _, A2, c2, rfl, _, _⟩ := h6.parts
          rw [hlen] at h6 ⊢
          exact ⟨v1, A2, c2, true, _, i + k + 1, rfl, h5, h6, step_cut hQ.out h1 h2 h3⟩
        · refine ⟨.slice A r c, none, 0, false, b.drop i, n, by rw [Nat.sub_self], hV.out, ?_, by have := step_last hQ.out HIN.out h1; rwa [HN.out] at this⟩
          rw [Nat.sub_self, List.drop_of_length_le (Nat.le_of_eq HN.out)]
          exact bytes_none _
      obtain ⟨v1, A2, c2, f, t, i', rfl, hB1, hB2, hst⟩ := key
      have HS2 := Lib.hid (by rw [hw2]; exact (hS.out.alloc _).heap rfl : St w2 (w.heap.size + 1) u4 O (.slice none 0 0) [])
      have HF2 := Lib.hid (by rw [hw2]; exact hF.out.alloc _ : Blk w2 w.heap.size 29 #[.int .i64 0, .int .i64 0, .int .i64 0])
      have HBL2 : Hid (Below w.heap.size w w2) := Lib.hid (by
        have := hbl.out.alloc hbl.out.size (.cells #[.int .u8 10] 5)
        rw [hw2]
        exact ⟨this.1, this.2, this.3, this.4, this.5⟩)
      have hws2 : w.heap.size + 1 ≤ w2.heap.size := HF2.out.size
      have HB1 := Lib.hid hB1
      have HB2 := Lib.hid hB2
      have HST := Lib.hid hst
      obtain ⟨T, hT⟩ : ∃ T, T = Ln.sp t ln 1 [] := ⟨_, rfl⟩
      have HT := Lib.hid hT
      clear hcut hw2 hB1 hB2 hst hT hV hS hF hbl hQ
      go_wp2_with fail
      refine (one_any v1 t ln _ (HB1.out.under HBL2.out) (by have := HST.out.2.2.1; have := HST.out.2.1; have := HB.out; omega) HST.out.2.2.2.1 T HT.out).mono ?_
      rintro ex w3 ⟨hone, hb3⟩
      have HF3 := Lib.hid (HF2.out.under hb3)
      have HBL3 := Lib.hid (HBL2.out.trans (hb3.mono HBL2.out.size))
      have hin2 : i' ≤ n := by have := HST.out.2.1; have := HN.out; omega
      have hii : i < i' := HST.out.1
      rcases T with LL | ⟨kd, l, cl⟩
      · obtain ⟨R, u, hLL, hRl, rfl, hu⟩ := hone
        have HS3 := Lib.hid (HS2.out.put hb3 hws2 hu)
        have HQ3 := Lib.hid (HST.out.2.2.2.2.1 LL HT.out.symm)
        obtain ⟨Ar, cr, rfl, hcr⟩ := hu.parts
        obtain ⟨rn, hrn⟩ : ∃ k, R.length = k := ⟨_, rfl⟩
        rw [hrn] at HS3 ⊢
        have HRN := Lib.hid hrn
        have HS4 := Lib.hid (HS2.out.under hb3)
        have HLL := Lib.hid hLL
        have hws3 : w.heap.size + 1 ≤ w3.heap.size := HF3.out.size
        obtain ⟨l2, hl2⟩ : ∃ l2 : Nat, (ln : Int) + 1 = (l2 : Int) := ⟨ln + 1, by omega⟩
        have HL2 : Hid (ln + 1 = l2) := Lib.hid (by omega)
        have hl3 : (l2 : Int) ≤ 9223372036854775807 := by have := HN6.out; omega
        clear hb3 hu hcr hrn hLL
        rcases Nat.eq_zero_or_pos rn with h0 | h0
        · subst h0
          have HQ4 : Hid (Q b i' l2 O) := Lib.hid (by rw [← HL2.out]; have := HQ3.out; rwa [HLL.out, close_none HRN.out, List.append_nil] at this)
          go_wp2
          go_roundw
          case rel => exact ⟨i', l2, O, hin2, by have := HL2.out; omega, by omega, rfl, HQ4, HB2, Lib.hid (HS4.out.alloc _), Lib.hid (HF3.out.alloc _), Lib.hid (HBL3.out.alloc HBL3.out.size _)⟩
          case measure => have := HR.out; show n - i' < r; omega
        · have h0' : (0 : Int) < (rn : Int) := by omega
          have HQ4 : Hid (Q b i' l2 (O ++ [R])) := Lib.hid (by rw [← HL2.out]; have := HQ3.out; rwa [HLL.out, close_some (by rw [HRN.out]; omega)] at this)
          go_wp2_with (at_builtin; refine wpList_append_line rfl _ _ rfl (w.heap.size + 1) (w3.heap.size + 1) u4 (.slice Ar rn cr) O R rfl ((HS3.out.alloc _).alloc _) rfl (Blk.at (heap_alloc_at _ _ (by simp)) 0) (by have := HB.out; have := HN.out; omega) (Nat.le_trans hws3 (by simp; omega)) _ rfl ?_)
          rintro v' w4 hst4 hb4
          have HF4 := Lib.hid (((HF3.out.alloc _).alloc _).below hb4 (Nat.lt_succ_self _))
          have HBL4 := Lib.hid (((HBL3.out.alloc HBL3.out.size _).alloc (HBL3.out.alloc HBL3.out.size _).size _).trans (hb4.mono (Nat.le_succ _)))
          have HS5 := Lib.hid hst4
          clear hst4 hb4
          go_wp2
          go_roundw
          case rel => exact ⟨i', l2, O ++ [R], hin2, by have := HL2.out; omega, by simp; omega, rfl, HQ4, HB2, HS5, HF4, HBL4⟩
          case measure => have := HR.out; show n - i' < r; omega
      · obtain ⟨rfl, hk1⟩ := hone
        have HK1 := Lib.hid hk1
        have HT3 : Hid (Ln.split b = .bad kd l cl) := Lib.hid (HST.out.2.2.2.2.2 kd l cl HT.out.symm)
        have hk0 : ((kd : Int) != 0) = true := by simp; omega
        clear hk1 hb3
        go_wp2_with fail
        generalize hW : World.alloc w3 _ = W
        have hX : Blk W w3.heap.size 29 #[.int .i64 (kd : Int), .int .i64 (l : Int), .int .i64 (cl : Int)] := by rw [← hW]; exact heap_alloc_new w3 _
        have hF4 : Blk W w.heap.size 29 #[.int .i64 0, .int .i64 0, .int .i64 0] := by rw [← hW]; exact HF3.out.alloc _
        have HBL4 : Hid (Below w.heap.size w W) := Lib.hid (by rw [← hW]; exact HBL3.out.alloc HBL3.out.size _)
        have x0 : W.cell? ⟨w3.heap.size, 0, none⟩ = some (.int .i64 (kd : Int)) := hX.at 0
        have x1 : W.cell? ⟨w3.heap.size, 1, none⟩ = some (.int .i64 (l : Int)) := hX.at 1
        have x2 : W.cell? ⟨w3.heap.size, 2, none⟩ = some (.int .i64 (cl : Int)) := hX.at 2
        have g0 : W.cell? ⟨w.heap.size, 0, none⟩ = some (.int .i64 0) := hF4.at 0
        have g1 : W.cell? ⟨w.heap.size, 1, none⟩ = some (.int .i64 0) := hF4.at 1
        have g2 : W.cell? ⟨w.heap.size, 2, none⟩ = some (.int .i64 0) := hF4.at 2
        have f0 := hF4.free 0
        have f1 := hF4.free 1
        have f2 := hF4.free 2
        have HF4 := Lib.hid hF4
        clear hX hF4 hW
        go_region
        go_wp2
        refine bodyPost_ret (results_tmp_cell rfl _ _ w.heap.size _ _ _ _ rfl (((HF4.out.set 0 _).set 1 _).set 2 _) Try.underlying29 rfl (by kernel_rfl)) rfl ?_
        have hb5 := ((HBL4.out.setCell (p := ⟨w.heap.size, 0, none⟩) (by simp) (.int .i64 (kd : Int))).setCell (p := ⟨w.heap.size, 1, none⟩) (by simp) (.int .i64 (l : Int))).setCell (p := ⟨w.heap.size, 2, none⟩) (by simp) (.int .i64 (cl : Int))
        refine ⟨?_, hb5.1, hb5.2, hb5.3, hb5.4, hb5.5⟩
        rw [HT3.out]
        exact ⟨none, 0, rfl⟩
end Go.Proofs.Ytpebkdmoloiecaa
