/- The reader goes to where the next word begins; a word of plain bytes. -/
import Derived.Test.YtpebkdmoloiecaaLineLib
import Derived.Test.YtpebkdmoloiecaaLineTake
import Derived.BigQuiet
import Derived.Deep.QuietTactic
namespace Go.Proofs.Ytpebkdmoloiecaa
open Go.ChangeShapes Go.WideShapes Go.ChangeAt Go.RowKit

theorem blank_q (x : Nat) (q : Bool) (hq : decide (x = 32 ∨ x = 9) = q) (w : World) (n : Nat) : Calls Try.prog 26 #[.int .u8 x] (w.drewN n) fun e w' => e = .returned (.bool q) ∧ ∃ m, w' = w.drewN m := by
  subst hq
  exact (blank_any x _).mono fun e w' ⟨h1, h2⟩ => ⟨h1, n, h2.symm⟩
theorem may_q (x : Nat) (q : Bool) (hx : x < 256) (hq : Ln.plain x = q) (w : World) (n : Nat) : Calls Try.prog 30 #[.int .u8 x] (w.drewN n) fun e w' => e = .returned (.bool q) ∧ ∃ m, w' = w.drewN m := by
  subst hq
  exact (may_any x hx _).mono fun e w' ⟨h1, h2⟩ => ⟨h1, n, h2.symm⟩
/-- What is told of what stands at the reader's place: a word, behind which it then is; or a fault. -/
def NIs (w0 : World) (v : Value) (t : List Nat) (num g i : Nat) (w : World) : Ln.Tok → Ending → World → Prop
  | .skip _, _, _ => False
  | .word s m q, e, w' => e = .returned (.tuple #[.agg (cellsW ⟨s, num, i + 1, q⟩).toArray, .agg #[.int .i64 0, .int .i64 0, .int .i64 0]]) ∧ w.grownBy w' (some g) ∧ Rd w0 v t num g (i + m) w'
  | .bad k o, e, w' => (∃ y : Ln.W, e = .returned (.tuple #[.agg (cellsW y).toArray, .agg #[.int .i64 (k : Int), .int .i64 (num : Int), .int .i64 ((i + 1 + o : Nat) : Int)]])) ∧ w.grownBy w' (some g) ∧ Rd w0 v t num g i w'
theorem nis_bad {w0 : World} {v : Value} {t : List Nat} {num g i k o : Nat} {w w' : World} {T : Ln.Tok} {e : Ending} (h : T = .bad k o) (y : Ln.W) (he : e = .returned (.tuple #[.agg (cellsW y).toArray, .agg #[.int .i64 (k : Int), .int .i64 (num : Int), .int .i64 ((i + 1 + o : Nat) : Int)]])) (hg : w.grownBy w' (some g)) (hr : Rd w0 v t num g i w') : NIs w0 v t num g i w T e w' := by
  rw [h]
  exact ⟨⟨y, he⟩, hg, hr⟩
theorem nis_word {w0 : World} {v : Value} {t s : List Nat} {num g i m : Nat} {q : Bool} {w w' : World} {T : Ln.Tok} {e : Ending} (h : T = .word s m q) (he : e = .returned (.tuple #[.agg (cellsW ⟨s, num, i + 1, q⟩).toArray, .agg #[.int .i64 0, .int .i64 0, .int .i64 0]])) (hg : w.grownBy w' (some g)) (hr : Rd w0 v t num g (i + m) w') : NIs w0 v t num g i w T e w' := by
  rw [h]
  exact ⟨he, hg, hr⟩
theorem results_cell_cell {P : Program} {fn : Func} {p1 p2 : Tmp} {ty1 ty2 : TypeId} (h : fn.results = #[.cell p1 ty1, .cell p2 ty2]) (tmps : Array Value) (w : World) (g1 g2 : Nat) (bt1 bt2 : TypeId) (cs1 cs2 : Array Value) (fr1 fr2 : Nat × Nat) (d1 d2 : TypeDesc)
    (hp1 : tmps.getD p1 undef = .pointer (some ⟨g1, 0, none⟩)) (hp2 : tmps.getD p2 undef = .pointer (some ⟨g2, 0, none⟩)) (hg1 : w.heap[g1]? = some (.cells cs1 bt1 fr1)) (hg2 : w.heap[g2]? = some (.cells cs2 bt2 fr2))
    (hu1 : P.underlying ty1 = some d1) (hd1 : (match d1 with | .struct _ | .array _ _ => true | _ => false) = true) (hi1 : (P.info? ty1).map (·.size) = some cs1.size)
    (hu2 : P.underlying ty2 = some d2) (hd2 : (match d2 with | .struct _ | .array _ _ => true | _ => false) = true) (hi2 : (P.info? ty2).map (·.size) = some cs2.size) :
    (results fn tmps).run P w = .ok (.tuple #[.agg cs1, .agg cs2]) w := by
  have hp1' : tmps[p1]?.getD undef = .pointer (some ⟨g1, 0, none⟩) := by simpa using hp1
  have hp2' : tmps[p2]?.getD undef = .pointer (some ⟨g2, 0, none⟩) := by simpa using hp2
  simp [results, h, hp1', hp2', asAddr, run_loadVar_row w g1 bt1 ty1 cs1 fr1 d1 hg1 hu1 hd1 hi1, run_loadVar_row w g2 bt2 ty2 cs2 fr2 d2 hg2 hu2 hd2 hi2]
/-- The two cells that a call's results lie in. -/
def Outs (W : World) (a : Nat) : Prop := Blk W a 34 #[.string ⟨#[]⟩, .int .i64 0, .int .i64 0, .bool false] ∧ Blk W (a + 1) 29 #[.int .i64 0, .int .i64 0, .int .i64 0]
theorem outs_new (w : World) : Outs ((w.alloc (.cells #[.string ⟨#[]⟩, .int .i64 0, .int .i64 0, .bool false] 34)).alloc (.cells #[.int .i64 0, .int .i64 0, .int .i64 0] 29)) w.heap.size :=
  ⟨Blk.alloc (heap_alloc_new w _) _, by
    rw [show w.heap.size + 1 = (w.alloc (.cells #[.string ⟨#[]⟩, .int .i64 0, .int .i64 0, .bool false] 34)).heap.size from by simp]
    exact heap_alloc_new _ _⟩
theorem Outs.size {W : World} {a : Nat} (h : Outs W a) : a + 1 < W.heap.size := h.2.size
theorem Outs.under {W W' : World} {a : Nat} (h : Outs W a) (hb : Below W.heap.size W W') : Outs W' a := ⟨h.1.under hb, h.2.under hb⟩
theorem Outs.alloc {W : World} {a : Nat} (h : Outs W a) (o : Obj) : Outs (W.alloc o) a := h.under ((Below.refl _ _).alloc (Nat.le_refl _) _)
theorem Outs.drew {W : World} {a : Nat} (h : Outs W a) (n : Nat) : Outs (W.drewN n) a := h
theorem Outs.grown {W W' : World} {a g : Nat} (h : Outs W a) (hb : W.grownBy W' (some g)) (hg : g < a) : Outs W' a := ⟨h.1.grown hb (by simp; omega), h.2.grown hb (by simp; omega)⟩
theorem Outs.facts {W : World} {a : Nat} (h : Outs W a) : W.cell? ⟨a, 0, none⟩ = some (.string ⟨#[]⟩) ∧ W.cell? ⟨a, 1, none⟩ = some (.int .i64 0) ∧ W.cell? ⟨a, 2, none⟩ = some (.int .i64 0) ∧ W.cell? ⟨a, 3, none⟩ = some (.bool false) ∧
    W.frozen? ⟨a, 0, none⟩ = false ∧ W.frozen? ⟨a, 1, none⟩ = false ∧ W.frozen? ⟨a, 2, none⟩ = false ∧ W.frozen? ⟨a, 3, none⟩ = false ∧
    W.cell? ⟨a + 1, 0, none⟩ = some (.int .i64 0) ∧ W.cell? ⟨a + 1, 1, none⟩ = some (.int .i64 0) ∧ W.cell? ⟨a + 1, 2, none⟩ = some (.int .i64 0) ∧ W.frozen? ⟨a + 1, 0, none⟩ = false ∧ W.frozen? ⟨a + 1, 1, none⟩ = false ∧ W.frozen? ⟨a + 1, 2, none⟩ = false :=
  ⟨h.1.at 0, h.1.at 1, h.1.at 2, h.1.at 3, h.1.free 0, h.1.free 1, h.1.free 2, h.1.free 3, h.2.at 0, h.2.at 1, h.2.at 2, h.2.free 0, h.2.free 1, h.2.free 2⟩
abbrev put7 (W : World) (a : Nat) (x0 x1 x2 x3 y0 y1 y2 : Value) : World :=
  ((((((W.setCell ⟨a, 0, none⟩ x0).setCell ⟨a, 1, none⟩ x1).setCell ⟨a, 2, none⟩ x2).setCell ⟨a, 3, none⟩ x3).setCell ⟨a + 1, 0, none⟩ y0).setCell ⟨a + 1, 1, none⟩ y1).setCell ⟨a + 1, 2, none⟩ y2
theorem Outs.full1 {W : World} {a : Nat} (h : Outs W a) (x0 x1 x2 x3 y0 y1 y2 : Value) : Blk (put7 W a x0 x1 x2 x3 y0 y1 y2) a 34 #[x0, x1, x2, x3] :=
  ((((((h.1.set 0 x0).set 1 x1).set 2 x2).set 3 x3).setOther (by simp) _).setOther (by simp) _).setOther (by simp) _
theorem Outs.full2 {W : World} {a : Nat} (h : Outs W a) (x0 x1 x2 x3 y0 y1 y2 : Value) : Blk (put7 W a x0 x1 x2 x3 y0 y1 y2) (a + 1) 29 #[y0, y1, y2] :=
  (((((((h.2.setOther (by simp) _).setOther (by simp) _).setOther (by simp) _).setOther (by simp) _).set 0 y0).set 1 y1).set 2 y2)
theorem grow_put7 {w W : World} {a g : Nat} (h : w.grownBy W (some g)) (ha : w.heap.size ≤ a) (x0 x1 x2 x3 y0 y1 y2 : Value) : w.grownBy (put7 W a x0 x1 x2 x3 y0 y1 y2) (some g) :=
  grow_set (grow_set (grow_set (grow_set (grow_set (grow_set (grow_set h (.inl ha) _) (.inl ha) _) (.inl ha) _) (.inl ha) _) (.inl (Nat.le_succ_of_le ha)) _) (.inl (Nat.le_succ_of_le ha)) _) (.inl (Nat.le_succ_of_le ha)) _
theorem Rd.put7 {w0 W : World} {v : Value} {t : List Nat} {num g i a : Nat} (h : Rd w0 v t num g i W) (hg : g < a) (x0 x1 x2 x3 y0 y1 y2 : Value) : Rd w0 v t num g i (put7 W a x0 x1 x2 x3 y0 y1 y2) := by
  have h0 := h.2.2.1
  exact ((((((h.setOther (by simp; omega) (by simp; omega) _).setOther (by simp; omega) (by simp; omega) _).setOther (by simp; omega) (by simp; omega) _).setOther (by simp; omega) (by simp; omega) _).setOther (by simp; omega) (by simp; omega) _).setOther (by simp; omega) (by simp; omega) _).setOther (by simp; omega) (by simp; omega) _
/-- Where the reader goes on: behind all blanks; a word begins there, or none. -/
def MoreIs (w0 : World) (v : Value) (t : List Nat) (num g i : Nat) (w : World) (e : Ending) (w' : World) : Prop :=
  ∃ j, i ≤ j ∧ j ≤ t.length ∧ (∀ y, i ≤ y → y < j → t.getD y 0 = 32 ∨ t.getD y 0 = 9) ∧ Rd w0 v t num g j w' ∧ w.grownBy w' (some g) ∧
    ((e = .returned (.bool false) ∧ (j = t.length ∨ (j < t.length ∧ t.getD j 0 = 35))) ∨ (e = .returned (.bool true) ∧ j < t.length ∧ ¬ (t.getD j 0 = 32 ∨ t.getD j 0 = 9) ∧ t.getD j 0 ≠ 35))
theorem grow_refl (w : World) (row : Option Nat) : w.grownBy w row := World.grownBy.refl w row
theorem grow_drew {w W : World} {row : Option Nat} (h : w.grownBy W row) (n : Nat) : w.grownBy (W.drewN n) row := ⟨h.os, h.tape, h.output, h.size, h.block⟩
set_option maxRecDepth 100000 in
set_option maxHeartbeats 4000000 in
theorem more_any (v : Value) (t : List Nat) (num g i : Nat) (w0 w : World) (h : Rd w0 v t num g i w) (hi : i ≤ t.length) (ht : t.length ≤ 1000000) :
    Calls Try.prog 19 #[.pointer (some ⟨g, 0, none⟩)] w (MoreIs w0 v t num g i w) := by
  have HR := Lib.hid h
  obtain ⟨_, _, A, c, rfl, hc, _⟩ := h.bytes.parts
  clear h
  obtain ⟨n, hn⟩ : ∃ n, t.length = n := ⟨_, rfl⟩
  rw [hn] at hi ht hc HR ⊢
  have HN := Lib.hid hn
  clear hn
  go_enter Try.func19, Try.ntmps19
  go_wp2_with fail
  go_loopw [] (fun wr => ∃ j, i ≤ j ∧ j ≤ n ∧ Hid (∀ y, i ≤ y → y < j → t.getD y 0 = 32 ∨ t.getD y 0 = 9) ∧ Hid (Rd w0 (.slice A n c) t num g j wr) ∧ Hid (w.grownBy wr (some g))) (fun wr => n - (intOf ((wr.cell? ⟨g, 2, none⟩).getD undef)).toNat)
  case atStart => exact ⟨i, Nat.le_refl _, hi, Lib.hid (by omega), HR, Lib.hid (grow_refl w _)⟩
  case round =>
    obtain ⟨j, hij, hjn, hbl, hR, hG⟩ := hrel
    have g0 : wr.cell? ⟨g, 0, none⟩ = some (.slice A n c) := hR.out.blk.at 0
    have g2 : wr.cell? ⟨g, 2, none⟩ = some (.int .i64 (j : Int)) := hR.out.blk.at 2
    have gf := hR.out.blk.free 2
    by_cases hj : j < n
    · have hjI : (j : Int) < (n : Int) := by omega
      obtain ⟨h8, _, A', c', hAe, _, hcell⟩ := hR.out.bytes.parts
      injection hAe with e1 e2 e3
      subst e1
      obtain ⟨bb, off, rfl, hcl⟩ := hcell (by rw [HN.out]; omega)
      have hck := hcl j (by rw [HN.out]; exact hj)
      have h8j := u8_lt h8 j
      clear hcell hcl e2 e3 h8
      obtain ⟨z, hz⟩ : ∃ z, t.getD j 0 = z := ⟨_, rfl⟩
      rw [hz] at hck h8j
      have HZ := Lib.hid hz
      have HZ8 := Lib.hid h8j
      clear hz h8j
      by_cases hb : z = 32 ∨ z = 9
      · have HB := Lib.hid hb
        clear hb
        go_wp2
        go_quiet ((go_at_call 26; exact blank_q z true (decide_eq_true HB.out) _ _))
        go_wp2
        go_roundw
        case rel =>
          refine ⟨j + 1, by omega, by omega, Lib.hid fun y h1 h2 => ?_, Lib.hid ((hR.out.heap _ rfl).move (j + 1)), Lib.hid (grow_set (grow_drew hG.out _) (.inr rfl) _)⟩
          rcases Nat.lt_or_ge y j with h | h
          · exact hbl.out y h1 h
          · rw [show y = j from by omega, HZ.out]
            exact HB.out
        case measure =>
          have h2 : ((wr.drewN nq).setCell ⟨g, 2, none⟩ (.int .i64 ((j : Int) + 1))).cell? ⟨g, 2, none⟩ = some (.int .i64 ((j + 1 : Nat) : Int)) := ((hR.out.heap nq rfl).move (j + 1)).blk.at 2
          rw [h2, g2]
          simp [intOf]
          omega
      · have HB := Lib.hid hb
        by_cases h35 : z = 35
        · subst h35
          clear hb
          go_wp2
          go_quiet ((go_at_call 26; exact blank_q 35 false rfl _ _))
          go_wp2
          go_quiet (fail)
          go_wp2
          go_ret
          exact ⟨j, hij, by rw [HN.out]; exact hjn, hbl.out, (hR.out.heap _ rfl).heap _ rfl, grow_drew (grow_drew hG.out _) _, .inl ⟨rfl, .inr ⟨by rw [HN.out]; exact hj, HZ.out⟩⟩⟩
        · have d35 : ((z : Int) != 35) = true := by simp; omega
          have H35 := Lib.hid h35
          clear hb h35
          go_wp2
          go_quiet ((go_at_call 26; exact blank_q z false (decide_eq_false HB.out) _ _))
          go_wp2
          go_quiet (fail)
          go_wp2
          go_ret
          exact ⟨j, hij, by rw [HN.out]; exact hjn, hbl.out, (hR.out.heap _ rfl).heap _ rfl, grow_drew (grow_drew hG.out _) _, .inr ⟨rfl, by rw [HN.out]; exact hj, by rw [HZ.out]; exact HB.out, by rw [HZ.out]; exact H35.out⟩⟩
    · obtain rfl : j = n := by omega
      have d1 : decide ((j : Int) < (j : Int)) = false := by simp
      go_wp2
      go_quiet (fail)
      go_wp2
      go_quiet (fail)
      go_wp2
      go_ret
      exact ⟨j, hij, by rw [HN.out]; exact Nat.le_refl _, hbl.out, (hR.out.heap _ rfl).heap _ rfl, grow_drew (grow_drew hG.out _) _, .inl ⟨rfl, .inl HN.out.symm⟩⟩
set_option maxRecDepth 100000 in
set_option maxHeartbeats 4000000 in
theorem plain_any (v : Value) (t : List Nat) (num g i : Nat) (w0 w : World) (h : Rd w0 v t num g i w) (hi : i < t.length) (ht : t.length ≤ 1000000)
    (T : Ln.Tok) (hT : T = if 64 < ((t.drop (i + 1)).takeWhile Ln.plain).length + 1 then .bad 3 0 else .word (t.getD i 0 :: (t.drop (i + 1)).takeWhile Ln.plain) (((t.drop (i + 1)).takeWhile Ln.plain).length + 1) false) :
    Calls Try.prog 31 #[.pointer (some ⟨g, 0, none⟩)] w (NIs w0 v t num g i w T) := by
  have HT := Lib.hid hT
  clear hT
  have HR := Lib.hid h
  have h8 := h.bytes.1
  obtain ⟨_, _, A, c, rfl, hc, _⟩ := h.bytes.parts
  clear h
  obtain ⟨n, hn⟩ : ∃ n, t.length = n := ⟨_, rfl⟩
  rw [hn] at hi ht hc HR ⊢
  have HN := Lib.hid hn
  have H8 := Lib.hid (u8_lt h8)
  clear hn h8
  have hg0 := HR.out.size
  go_enter Try.func31, Try.ntmps31
  go_wp2_with fail
  go_loopw [4] (fun kv wr => ∃ k : Nat, 1 ≤ k ∧ i + k ≤ n ∧ kv = .int .i64 (k : Int) ∧ Hid (∀ y, i + 1 ≤ y → y < i + k → Ln.plain (t.getD y 0) = true) ∧ Hid (Rd w0 (.slice A n c) t num g i wr) ∧ Hid (Outs wr w.heap.size) ∧ Hid (w.grownBy wr (some g))) (fun kv _ => n - (intOf kv).toNat)
  case atStart => exact ⟨1, Nat.le_refl _, hi, rfl, Lib.hid (by omega), Lib.hid ((HR.out.alloc _).alloc _), Lib.hid (outs_new w), Lib.hid (Below.toGrown (((Below.refl _ _).alloc (Nat.le_refl _) _).alloc (by simp) _) _)⟩
  case round =>
    obtain ⟨k, hk1, hkn, rfl, hpl, hR, hO, hG⟩ := hrel
    have g0 : wr.cell? ⟨g, 0, none⟩ = some (.slice A n c) := hR.out.blk.at 0
    have g2 : wr.cell? ⟨g, 2, none⟩ = some (.int .i64 (i : Int)) := hR.out.blk.at 2
    obtain ⟨e, he⟩ : ∃ e : Nat, (i : Int) + (k : Int) = (e : Int) := ⟨i + k, by omega⟩
    have HE : Hid (i + k = e) := Lib.hid (by omega)
    have fin : Hid (e = n ∨ Ln.plain (t.getD e 0) = false) → Hid (T = if 64 < k then .bad 3 0 else .word ((t.drop i).take k) k false) := fun hf => Lib.hid (by
      have hrun := Ln.takeWhile_from Ln.plain t (i + 1) (i + k) (by omega) (by rw [HN.out]; omega) hpl.out (fun hlt => by
        rcases hf.out with h | h
        · have := HE.out
          rw [HN.out] at hlt
          omega
        · rw [HE.out]; exact h)
      rw [HT.out, hrun.2, hrun.1, Ln.drop_cons (i := i) (by rw [HN.out]; exact hi), show i + k - (i + 1) + 1 = k from by omega]
      obtain ⟨k', rfl⟩ : ∃ k', k = k' + 1 := ⟨k - 1, by omega⟩
      rw [List.take_succ_cons, show i + (k' + 1) - (i + 1) = k' from by omega])
    have HF := Lib.hid fin
    clear fin
    by_cases hj : e < n
    · have hjI : (e : Int) < (n : Int) := by omega
      obtain ⟨h8, _, A', c', hAe, _, hcell⟩ := hR.out.bytes.parts
      injection hAe with e1 e2 e3
      subst e1
      obtain ⟨bb, off, rfl, hcl⟩ := hcell (by rw [HN.out]; omega)
      have hck := hcl e (by rw [HN.out]; exact hj)
      clear hcell hcl e2 e3 h8
      obtain ⟨z, hz⟩ : ∃ z, t.getD e 0 = z := ⟨_, rfl⟩
      have HZ8 : Hid (z < 256) := Lib.hid (by rw [← hz]; exact H8.out e)
      rw [hz] at hck
      have HZ := Lib.hid hz
      clear hz
      rcases hb : Ln.plain z with _ | _
      · have HB := Lib.hid hb
        have HT2 := HF.out (Lib.hid (.inr (by rw [HZ.out]; exact hb)))
        clear hb HF
        go_wp2
        go_quiet ((go_at_call 30; exact may_q z false HZ8.out HB.out _ _))
        rcases Nat.lt_or_ge 64 k with hL | hL
        · have hL' : (64 : Int) < (k : Int) := by omega
          have HT3 := Lib.hid (HT2.out.trans (if_pos hL))
          clear hL
          go_wp2_with fail
          refine (ownfault_any 3 (.slice (some ⟨bb, off, none⟩) n c) t num g i i w0 _ (hR.out.heap _ rfl) (by omega)).mono ?_
          rintro ex w2 ⟨rfl, hb2⟩
          have hO2 := (hO.out.drew _).under hb2
          have HG2 := Lib.hid (grow_below (grow_drew hG.out _) (hb2.mono (grow_drew hG.out _).size))
          have HR2 := Lib.hid ((hR.out.heap _ rfl).under hb2)
          have HO2 := Lib.hid hO2
          obtain ⟨b0, b1, b2, b3, bf0, bf1, bf2, bf3, f0, f1, f2, ff0, ff1, ff2⟩ := hO2.facts
          clear hO2 hb2 g0 g2
          go_wp2
          refine bodyPost_ret (results_cell_cell rfl _ _ w.heap.size (w.heap.size + 1) _ _ _ _ _ _ _ _ rfl rfl (HO2.out.full1 _ _ _ _ _ _ _) (HO2.out.full2 _ _ _ _ _ _ _) Try.underlying34 rfl (by kernel_rfl) Try.underlying29 rfl (by kernel_rfl)) rfl ?_
          exact nis_bad HT3.out ⟨[], 0, 0, false⟩ rfl (grow_put7 HG2.out (Nat.le_refl _) _ _ _ _ _ _ _) (HR2.out.put7 hg0 _ _ _ _ _ _ _)
        · have hL' : ¬ (64 : Int) < (k : Int) := by omega
          have HT3 := Lib.hid (HT2.out.trans (if_neg (by omega)))
          clear hL
          go_wp2_with fail
          refine (take_any (.slice (some ⟨bb, off, none⟩) n c) t num g i k w0 _ (hR.out.heap _ rfl) hk1 (by rw [HN.out]; exact hkn) (by rw [HN.out]; exact ht)).mono ?_
          rintro ex w2 ⟨rfl, hg2, hr2⟩
          have hO2 := (hO.out.drew _).grown hg2 hg0
          have HG2 := Lib.hid (grow_trans (grow_drew hG.out _) hg2)
          have HR2 := Lib.hid hr2
          have HO2 := Lib.hid hO2
          obtain ⟨b0, b1, b2, b3, bf0, bf1, bf2, bf3, f0, f1, f2, ff0, ff1, ff2⟩ := hO2.facts
          clear hO2 hg2 hr2 g0 g2
          rw [show (cellsW (⟨(t.drop i).take k, num, i + 1, false⟩ : Ln.W)).toArray = #[.string (str ((t.drop i).take k)), .int .i64 (num : Int), .int .i64 ((i + 1 : Nat) : Int), .bool false] from rfl]
          go_wp2
          refine bodyPost_ret (results_cell_cell rfl _ _ w.heap.size (w.heap.size + 1) _ _ _ _ _ _ _ _ rfl rfl (HO2.out.full1 _ _ _ _ _ _ _) (HO2.out.full2 _ _ _ _ _ _ _) Try.underlying34 rfl (by kernel_rfl) Try.underlying29 rfl (by kernel_rfl)) rfl ?_
          exact nis_word HT3.out rfl (grow_put7 HG2.out (Nat.le_refl _) _ _ _ _ _ _ _) (HR2.out.put7 hg0 _ _ _ _ _ _ _)
      · have HB := Lib.hid hb
        clear hb
        go_wp2
        go_quiet ((go_at_call 30; exact may_q z true HZ8.out HB.out _ _))
        go_wp2
        go_roundw
        case rel =>
          refine ⟨k + 1, by omega, by have := HE.out; omega, by go_num, Lib.hid fun y h1 h2 => ?_, Lib.hid (hR.out.heap _ rfl), Lib.hid (hO.out.drew _), Lib.hid (grow_drew hG.out _)⟩
          rcases Nat.lt_or_ge y (i + k) with h | h
          · exact hpl.out y h1 h
          · rw [show y = e from by have := HE.out; omega, HZ.out]
            exact HB.out
        case measure => have := HE.out; simp [intOf]; omega
    · obtain rfl : e = n := by have := HE.out; omega
      have HT2 := HF.out (Lib.hid (.inl rfl))
      clear HF
      have d1 : decide ((e : Int) < (e : Int)) = false := by simp
      go_wp2
      go_quiet (fail)
      rcases Nat.lt_or_ge 64 k with hL | hL
      · have hL' : (64 : Int) < (k : Int) := by omega
        have HT3 := Lib.hid (HT2.out.trans (if_pos hL))
        clear hL
        go_wp2_with fail
        refine (ownfault_any 3 (.slice A e c) t num g i i w0 _ (hR.out.heap _ rfl) (by omega)).mono ?_
        rintro ex w2 ⟨rfl, hb2⟩
        have hO2 := (hO.out.drew _).under hb2
        have HG2 := Lib.hid (grow_below (grow_drew hG.out _) (hb2.mono (grow_drew hG.out _).size))
        have HR2 := Lib.hid ((hR.out.heap _ rfl).under hb2)
        have HO2 := Lib.hid hO2
        obtain ⟨b0, b1, b2, b3, bf0, bf1, bf2, bf3, f0, f1, f2, ff0, ff1, ff2⟩ := hO2.facts
        clear hO2 hb2 g0 g2
        go_wp2
        refine bodyPost_ret (results_cell_cell rfl _ _ w.heap.size (w.heap.size + 1) _ _ _ _ _ _ _ _ rfl rfl (HO2.out.full1 _ _ _ _ _ _ _) (HO2.out.full2 _ _ _ _ _ _ _) Try.underlying34 rfl (by kernel_rfl) Try.underlying29 rfl (by kernel_rfl)) rfl ?_
        exact nis_bad HT3.out ⟨[], 0, 0, false⟩ rfl (grow_put7 HG2.out (Nat.le_refl _) _ _ _ _ _ _ _) (HR2.out.put7 hg0 _ _ _ _ _ _ _)
      · have hL' : ¬ (64 : Int) < (k : Int) := by omega
        have HT3 := Lib.hid (HT2.out.trans (if_neg (by omega)))
        clear hL
        go_wp2_with fail
        refine (take_any (.slice A e c) t num g i k w0 _ (hR.out.heap _ rfl) hk1 (by rw [HN.out]; exact hkn) (by rw [HN.out]; exact ht)).mono ?_
        rintro ex w2 ⟨rfl, hg2, hr2⟩
        have hO2 := (hO.out.drew _).grown hg2 hg0
        have HG2 := Lib.hid (grow_trans (grow_drew hG.out _) hg2)
        have HR2 := Lib.hid hr2
        have HO2 := Lib.hid hO2
        obtain ⟨b0, b1, b2, b3, bf0, bf1, bf2, bf3, f0, f1, f2, ff0, ff1, ff2⟩ := hO2.facts
        clear hO2 hg2 hr2 g0 g2
        rw [show (cellsW (⟨(t.drop i).take k, num, i + 1, false⟩ : Ln.W)).toArray = #[.string (str ((t.drop i).take k)), .int .i64 (num : Int), .int .i64 ((i + 1 : Nat) : Int), .bool false] from rfl]
        go_wp2
        refine bodyPost_ret (results_cell_cell rfl _ _ w.heap.size (w.heap.size + 1) _ _ _ _ _ _ _ _ rfl rfl (HO2.out.full1 _ _ _ _ _ _ _) (HO2.out.full2 _ _ _ _ _ _ _) Try.underlying34 rfl (by kernel_rfl) Try.underlying29 rfl (by kernel_rfl)) rfl ?_
        exact nis_word HT3.out rfl (grow_put7 HG2.out (Nat.le_refl _) _ _ _ _ _ _ _) (HR2.out.put7 hg0 _ _ _ _ _ _ _)
end Go.Proofs.Ytpebkdmoloiecaa
