/- The program's own reader of one line: what each of its calls tells, and where it leaves the reader. -/
import Derived.Test.YtgjehlegcmeeoaaGreatDoorZ05
import Derived.Test.YtgjehlegcmeeoaaGreatDoorZ00
import Derived.BigRegion
import Derived.Deep.RegionHeld3
import Derived.Deep.RegionWith
import Derived.Deep.CutBlock
import Derived.Deep.DeepCutAuto
namespace Go.Proofs.YtgjehlegcmeeoaaGreatDoor
set_option maxRecDepth 100000
open Go.ChangeShapes Go.WideShapes Go.ChangeAt Go.RowKit

/-- A reader of a line, in a block of its own: the line's bytes as they were at the beginning; which line; how far it is. -/
def Rd (w0 : World) (v : Value) (t : List Nat) (num g i : Nat) (w : World) : Prop :=
  Bytes w0 v t ∧ Below w0.heap.size w0 w ∧ w0.heap.size ≤ g ∧ Blk w g 110 #[v, .int .i64 (num : Int), .int .i64 (i : Int)]
theorem Rd.bytes {w0 w : World} {v : Value} {t : List Nat} {num g i : Nat} (h : Rd w0 v t num g i w) : Bytes w v t := h.1.under h.2.1
theorem Rd.blk {w0 w : World} {v : Value} {t : List Nat} {num g i : Nat} (h : Rd w0 v t num g i w) : Blk w g 110 #[v, .int .i64 (num : Int), .int .i64 (i : Int)] := h.2.2.2
theorem Rd.size {w0 w : World} {v : Value} {t : List Nat} {num g i : Nat} (h : Rd w0 v t num g i w) : g < w.heap.size := h.2.2.2.size
theorem Rd.alloc {w0 w : World} {v : Value} {t : List Nat} {num g i : Nat} (h : Rd w0 v t num g i w) (o : Obj) : Rd w0 v t num g i (w.alloc o) := ⟨h.1, h.2.1.alloc h.2.1.size _, h.2.2.1, h.2.2.2.alloc _⟩
theorem Rd.under {w0 w w' : World} {v : Value} {t : List Nat} {num g i : Nat} (h : Rd w0 v t num g i w) (hb : Below w.heap.size w w') : Rd w0 v t num g i w' := ⟨h.1, h.2.1.trans (hb.mono h.2.1.size), h.2.2.1, h.2.2.2.under hb⟩
theorem Rd.heap {w0 w W : World} {v : Value} {t : List Nat} {num g i : Nat} (h : Rd w0 v t num g i w) (nq : Nat) (e : W = w.drewN nq) : Rd w0 v t num g i W := by
  subst e
  exact ⟨h.1, ⟨h.2.1.1, h.2.1.2, h.2.1.3, h.2.1.4, h.2.1.5⟩, h.2.2.1, h.2.2.2⟩
theorem Rd.setOther {w0 w : World} {v : Value} {t : List Nat} {num g i : Nat} (h : Rd w0 v t num g i w) {p : Addr} (hp : g ≠ p.block) (h0 : w0.heap.size ≤ p.block) (u : Value) : Rd w0 v t num g i (w.setCell p u) := ⟨h.1, h.2.1.setCell h0 _, h.2.2.1, h.2.2.2.setOther hp _⟩
theorem Rd.move {w0 w : World} {v : Value} {t : List Nat} {num g i : Nat} (h : Rd w0 v t num g i w) (j : Nat) : Rd w0 v t num g j (w.setCell ⟨g, 2, none⟩ (.int .i64 (j : Int))) := ⟨h.1, h.2.1.setCell h.2.2.1 _, h.2.2.1, h.2.2.2.set 2 _⟩

theorem grow_below {w W W' : World} {row : Option Nat} (h : w.grownBy W row) (hb : Below w.heap.size W W') : w.grownBy W' row :=
  ⟨hb.os.trans h.os, hb.tape.trans h.tape, hb.output.trans h.output, Nat.le_trans h.size hb.size, fun k hk hne => (hb.block k hk).trans (h.block k hk hne)⟩
theorem grow_set {w W : World} {g : Nat} (h : w.grownBy W (some g)) {p : Addr} (hp : w.heap.size ≤ p.block ∨ p.block = g) (u : Value) : w.grownBy (W.setCell p u) (some g) :=
  ⟨h.os, h.tape, h.output, by simpa using h.size, fun k hk hne => (Below.heap_setCell W p u k fun e => by
    rcases hp with hp | hp
    · omega
    · exact hne (by rw [e, hp])).trans (h.block k hk hne)⟩
theorem grow_trans {w w1 w2 : World} {row : Option Nat} (h : w.grownBy w1 row) (h2 : w1.grownBy w2 row) : w.grownBy w2 row :=
  ⟨h2.os.trans h.os, h2.tape.trans h.tape, h2.output.trans h.output, Nat.le_trans h.size h2.size, fun k hk hne => (h2.block k (Nat.lt_of_lt_of_le hk h.size) hne).trans (h.block k hk hne)⟩

set_option maxRecDepth 100000 in
set_option maxHeartbeats 2000000 in
theorem blank_any (x : Nat) (w : World) : Calls Tryz.prog 86 #[.int .u8 x] w fun e w' => e = .returned (.bool (decide (x = 32 ∨ x = 9))) ∧ w = w' := by
  go_enter Tryz.func86, Tryz.ntmps86
  by_cases h1 : x = 32
  · subst h1
    go_wp2
    go_ret
    exact ⟨rfl, rfl⟩
  · have d1 : ((x : Int) == 32) = false := by simp; omega
    by_cases h2 : x = 9
    · subst h2
      go_wp2
      go_ret
      exact ⟨rfl, rfl⟩
    · have d2 : ((x : Int) == 9) = false := by simp; omega
      have e : decide (x = 32 ∨ x = 9) = false := by simp [h1, h2]
      rw [e]
      clear e h1 h2
      go_wp2
      go_ret
      exact ⟨rfl, rfl⟩
set_option maxRecDepth 100000 in
set_option maxHeartbeats 2000000 in
theorem within_any (x : Nat) (w : World) : Calls Tryz.prog 112 #[.int .u8 x] w fun e w' => e = .returned (.bool (Ln.okq x && decide (x ≠ 34))) ∧ w = w' := by
  go_enter Tryz.func112, Tryz.ntmps112
  by_cases h1 : 32 ≤ x
  · have d1 : (32 : Int) ≤ (x : Int) := by omega
    by_cases h2 : x ≤ 126
    · have d2 : (x : Int) ≤ 126 := by omega
      by_cases h3 : x = 34
      · subst h3
        go_wp2
        go_ret
        exact ⟨rfl, rfl⟩
      · have d3 : ((x : Int) != 34) = true := by simp; omega
        have e : (Ln.okq x && decide (x ≠ 34)) = true := by simp [Ln.okq, h1, h2, h3]
        rw [e]
        clear e h1 h2 h3
        go_wp2
        go_ret
        exact ⟨rfl, rfl⟩
    · have d2 : ¬ (x : Int) ≤ 126 := by omega
      have e : (Ln.okq x && decide (x ≠ 34)) = false := by simp [Ln.okq, h2]
      rw [e]
      clear e h1 h2
      go_wp2
      go_ret
      exact ⟨rfl, rfl⟩
  · have d1 : ¬ (32 : Int) ≤ (x : Int) := by omega
    have e : (Ln.okq x && decide (x ≠ 34)) = false := by simp [Ln.okq, h1]
    rw [e]
    clear e h1
    go_wp2
    go_ret
    exact ⟨rfl, rfl⟩
set_option maxRecDepth 100000 in
set_option maxHeartbeats 2000000 in
theorem ownfault_any (k : Int) (v : Value) (t : List Nat) (num g i a : Nat) (w0 w : World) (h : Rd w0 v t num g i w) (ha : a ≤ 1000000) :
    Calls Tryz.prog 92 #[.pointer (some ⟨g, 0, none⟩), .int .i64 k, .int .i64 (a : Int)] w fun e w' => e = .returned (.agg #[.int .i64 k, .int .i64 (num : Int), .int .i64 ((a + 1 : Nat) : Int)]) ∧ Below w.heap.size w w' := by
  have g1 : ∀ o, (w.alloc o).cell? ⟨g, 1, none⟩ = some (.int .i64 (num : Int)) := fun o => (h.alloc o).blk.at 1
  have hg := h.size
  clear h
  go_enter Tryz.func92, Tryz.ntmps92
  go_wp2
  refine bodyPost_ret (results_cell_row rfl _ _ w.heap.size _ _ _ _ (by rfl) (heap_alloc_new w _) Tryz.underlying23 rfl (by kernel_rfl)) rfl ?_
  exact ⟨rfl, (Below.refl _ _).alloc (Nat.le_refl _) _⟩
end Go.Proofs.YtgjehlegcmeeoaaGreatDoor

/- The reader takes its next bytes as a word. -/
namespace Go.Proofs.YtgjehlegcmeeoaaGreatDoor
set_option maxRecDepth 100000
open Go.ChangeShapes Go.WideShapes Go.ChangeAt Go.RowKit
set_option maxRecDepth 100000 in
set_option maxHeartbeats 4000000 in
theorem take_any (v : Value) (t : List Nat) (num g i s : Nat) (w0 w : World) (h : Rd w0 v t num g i w) (hs : 1 ≤ s) (hi : i + s ≤ t.length) (ht : t.length ≤ 1000000) :
    Calls Tryz.prog 89 #[.pointer (some ⟨g, 0, none⟩), .int .i64 (s : Int)] w fun e w' => e = .returned (.agg (cellsW ⟨(t.drop i).take s, num, i + 1, false⟩).toArray) ∧ w.grownBy w' (some g) ∧ Rd w0 v t num g (i + s) w' := by
  have hV := h.bytes
  obtain ⟨_, _, A, c, rfl, hc, hcell⟩ := hV.parts
  obtain ⟨bb, off, rfl, _⟩ := hcell (by omega)
  clear hcell
  obtain ⟨n, hn⟩ : ∃ n, t.length = n := ⟨_, rfl⟩
  rw [hn] at hi ht hc h hV
  have HN := Lib.hid hn
  obtain ⟨e, he⟩ : ∃ e : Nat, (i : Int) + (s : Int) = (e : Int) := ⟨i + s, by omega⟩
  have HE : Hid (i + s = e) := Lib.hid (by omega)
  have h1 := ((hV.head (k := e) (by omega) (by omega)).tail (k := i) (d := c - i) (A' := some ⟨bb, off + i, none⟩) (by omega) (by omega) (fun _ b0 o0 e => by cases e; rfl))
  have HT : Hid (List.drop i (List.take e t) = (t.drop i).take s) := Lib.hid (by rw [List.drop_take, show e - i = s from by omega])
  rw [HT.out] at h1
  obtain ⟨T, hT⟩ : ∃ T, (t.drop i).take s = T := ⟨_, rfl⟩
  rw [hT] at h1 ⊢
  have H1 := Lib.hid h1
  have HR := Lib.hid h
  clear h hV h1 HT hT hn
  have hec : (e : Int) ≤ (c : Int) := by omega
  have hie : (i : Int) ≤ (e : Int) := by omega
  have hi0 : (0 : Int) ≤ (i : Int) := by omega
  go_enter Tryz.func89, Tryz.ntmps89
  go_wp2_with fail
  generalize hW : World.alloc w _ = W
  have hRB : Blk W w.heap.size 55 #[.string ⟨#[]⟩, .int .i64 0, .int .i64 0, .bool false] := by rw [← hW]; exact heap_alloc_new w _
  have hRW : Rd w0 (.slice (some ⟨bb, off, none⟩) n c) t num g i W := by rw [← hW]; exact HR.out.alloc _
  have hBW : Bytes W (.slice (some ⟨bb, off + i, none⟩) (e - i) (c - i)) T := by rw [← hW]; exact H1.out.alloc _
  have hbl : Below w.heap.size w W := by rw [← hW]; exact (Below.refl _ _).alloc (Nat.le_refl _) _
  have hcv := run_text hBW
  have hcv2 := fun o => run_text (hBW.alloc o)
  have hcv3 := run_text (w := W.drew) hBW
  have hcv4 := fun o => run_text (w := (W.alloc o).drew) (hBW.alloc o)
  have g0 : W.cell? ⟨g, 0, none⟩ = some (.slice (some ⟨bb, off, none⟩) n c) := hRW.blk.at 0
  have g1 : W.cell? ⟨g, 1, none⟩ = some (.int .i64 (num : Int)) := hRW.blk.at 1
  have g2 : W.cell? ⟨g, 2, none⟩ = some (.int .i64 (i : Int)) := hRW.blk.at 2
  have k0 : ∀ o, (W.alloc o).cell? ⟨g, 0, none⟩ = some (.slice (some ⟨bb, off, none⟩) n c) := fun o => (hRW.alloc o).blk.at 0
  have k1 : ∀ o, (W.alloc o).cell? ⟨g, 1, none⟩ = some (.int .i64 (num : Int)) := fun o => (hRW.alloc o).blk.at 1
  have k2 : ∀ o, (W.alloc o).cell? ⟨g, 2, none⟩ = some (.int .i64 (i : Int)) := fun o => (hRW.alloc o).blk.at 2
  have HRB := Lib.hid hRB
  have HRW := Lib.hid hRW
  have HBL := Lib.hid hbl
  have HHW := Lib.hid hW
  clear hRB hRW hBW hbl hW
  go_region
  generalize hW2 : World.drew (World.alloc W _) = W2
  have hwW := HBL.out.size
  have hgW := HRW.out.size
  have hgw := HR.out.size
  have hRW2 : Rd w0 (.slice (some ⟨bb, off, none⟩) n c) t num g i W2 := by rw [← hW2]; exact (HRW.out.alloc _).heap 1 rfl
  have hX2 : Blk W2 W.heap.size 55 #[.string (str T), .int .i64 (num : Int), .int .i64 ((i : Int) + 1), .bool false] := by rw [← hW2]; exact heap_alloc_new W _
  have hRB2 : Blk W2 w.heap.size 55 #[.string ⟨#[]⟩, .int .i64 0, .int .i64 0, .bool false] := by rw [← hW2]; exact HRB.out.alloc _
  have hbl2 : Below w.heap.size w W2 := by
    rw [← hW2]
    have := HBL.out.alloc hwW (.cells #[.string (str T), .int .i64 (num : Int), .int .i64 ((i : Int) + 1), .bool false] 55)
    exact ⟨this.1, this.2, this.3, this.4, this.5⟩
  clear hcv hcv2 hcv3 hcv4 g0 g1 g2 k0 k1 k2 hW2
  have HHE := Lib.hid he
  have HZ : Hid (w.heap.size < W.heap.size) := Lib.hid (by rw [← HHW.out]; simp)
  have g0 : W2.cell? ⟨g, 0, none⟩ = some (.slice (some ⟨bb, off, none⟩) n c) := hRW2.blk.at 0
  have g1 : W2.cell? ⟨g, 1, none⟩ = some (.int .i64 (num : Int)) := hRW2.blk.at 1
  have g2 : W2.cell? ⟨g, 2, none⟩ = some (.int .i64 (i : Int)) := hRW2.blk.at 2
  have gf := hRW2.blk.free 2
  have hX3 : Blk (W2.setCell ⟨g, 2, none⟩ (.int .i64 (e : Int))) W.heap.size 55 #[.string (str T), .int .i64 (num : Int), .int .i64 ((i : Int) + 1), .bool false] := hX2.setOther (by simp; omega) _
  have hB3 : Blk (W2.setCell ⟨g, 2, none⟩ (.int .i64 (e : Int))) w.heap.size 55 #[.string ⟨#[]⟩, .int .i64 0, .int .i64 0, .bool false] := hRB2.setOther (by simp; omega) _
  have x0 : (W2.setCell ⟨g, 2, none⟩ (.int .i64 (e : Int))).cell? ⟨W.heap.size, 0, none⟩ = some (.string (str T)) := hX3.at 0
  have x1 : (W2.setCell ⟨g, 2, none⟩ (.int .i64 (e : Int))).cell? ⟨W.heap.size, 1, none⟩ = some (.int .i64 (num : Int)) := hX3.at 1
  have x2 : (W2.setCell ⟨g, 2, none⟩ (.int .i64 (e : Int))).cell? ⟨W.heap.size, 2, none⟩ = some (.int .i64 ((i : Int) + 1)) := hX3.at 2
  have x3 : (W2.setCell ⟨g, 2, none⟩ (.int .i64 (e : Int))).cell? ⟨W.heap.size, 3, none⟩ = some (.bool false) := hX3.at 3
  have b0 : (W2.setCell ⟨g, 2, none⟩ (.int .i64 (e : Int))).cell? ⟨w.heap.size, 0, none⟩ = some (.string ⟨#[]⟩) := hB3.at 0
  have b1 : (W2.setCell ⟨g, 2, none⟩ (.int .i64 (e : Int))).cell? ⟨w.heap.size, 1, none⟩ = some (.int .i64 0) := hB3.at 1
  have b2 : (W2.setCell ⟨g, 2, none⟩ (.int .i64 (e : Int))).cell? ⟨w.heap.size, 2, none⟩ = some (.int .i64 0) := hB3.at 2
  have b3 : (W2.setCell ⟨g, 2, none⟩ (.int .i64 (e : Int))).cell? ⟨w.heap.size, 3, none⟩ = some (.bool false) := hB3.at 3
  have bf0 := hB3.free 0
  have bf1 := hB3.free 1
  have bf2 := hB3.free 2
  have bf3 := hB3.free 3
  have HB3 := Lib.hid hB3
  have HRW2 := Lib.hid hRW2
  have HBL2 := Lib.hid hbl2
  clear hX2 hX3 hB3 hRB2 hRW2 hbl2 hwW
  go_wp2
  refine bodyPost_ret (results_cell_row rfl _ _ w.heap.size _ _ _ _ (by rfl) ((((HB3.out.set 0 _).set 1 _).set 2 _).set 3 _) Tryz.underlying55 rfl (by kernel_rfl)) rfl ?_
  have h0 := HR.out.2.1.size
  refine ⟨rfl, ?_, ?_⟩
  · exact grow_set (grow_set (grow_set (grow_set (grow_set (Below.toGrown HBL2.out _) (.inr rfl) _) (.inl (Nat.le_refl _)) _) (.inl (Nat.le_refl _)) _) (.inl (Nat.le_refl _)) _) (.inl (Nat.le_refl _)) _
  · rw [HE.out, HN.out]
    exact ((((HRW2.out.move e).setOther (by simp; omega) h0 _).setOther (by simp; omega) h0 _).setOther (by simp; omega) h0 _).setOther (by simp; omega) h0 _
end Go.Proofs.YtgjehlegcmeeoaaGreatDoor

/- The document's own answer for lines and words: what Split tells. -/
namespace Go.Proofs.YtgjehlegcmeeoaaGreatDoor
set_option maxRecDepth 100000
open Go.ChangeShapes Go.WideShapes Go.ChangeAt Go.RowKit

/-- Lines of words, all of the call's own. -/
def Lns (w : World) (base : Nat) (v : Value) (LL : List (List Ln.W)) : Prop := St w base v LL (.slice none 0 0) []
/-- What is told of a text: its lines, or a fault and no lines. -/
def Told (w : World) (w' : World) (e : Ending) : Ln.Res → Prop
  | .ok LL => ∃ v, e = .returned (.tuple #[v, .agg #[.int .i64 0, .int .i64 0, .int .i64 0]]) ∧ Lns w' w.heap.size v LL
  | .bad k ln col => ∃ A c, e = .returned (.tuple #[.slice A 0 c, .agg #[.int .i64 (k : Int), .int .i64 (ln : Int), .int .i64 (col : Int)]])
def SplitIs (b : List Nat) (w : World) (e : Ending) (w' : World) : Prop := Told w w' e (Ln.split b) ∧ Below w.heap.size w w'
theorem heap_alloc_at (w : World) (o : Obj) {k : Nat} (h : k = w.heap.size) : (w.alloc o).heap[k]? = some o := by subst h; exact heap_alloc_new w o
/-- A word's cells lie in a block that was made for them, behind another one. -/
theorem word_cells (w : World) (o : Obj) (z : Ln.W) : ∀ j y, (cellsW z)[j]? = some y → ((w.alloc o).alloc (.cells (cellsW z).toArray 55)).cell? ⟨w.heap.size + 1, j, none⟩ = some y := fun j y hy => by
  have h : Blk ((w.alloc o).alloc (.cells (cellsW z).toArray 55)) (w.heap.size + 1) 55 (cellsW z).toArray := heap_alloc_at _ _ (by simp)
  rw [h.at j, List.getElem?_toArray]
  exact hy
theorem close_none {R : List Ln.W} (h : R.length = 0) : Ln.close R = [] := by
  rw [List.length_eq_zero_iff.1 h]; rfl
theorem close_some {R : List Ln.W} (h : R.length ≠ 0) : Ln.close R = [R] := by
  cases R with
  | nil => exact absurd rfl h
  | cons x r => rfl
set_option maxRecDepth 100000 in
set_option maxHeartbeats 8000000 in
theorem refsplit_any (v : Value) (b : List Nat) (w : World) (hv : Bytes w v b) (hb : b.length ≤ 1000000) :
    Calls Tryz.prog 21 #[v] w (SplitIs b w) := by
  have HV := Lib.hid hv
  obtain ⟨hb8, hm, A, c, rfl, hc, hcell⟩ := hv.parts
  obtain ⟨n, hn⟩ : ∃ n, b.length = n := ⟨_, rfl⟩
  rw [hn] at hb hm hc HV ⊢
  have HN := Lib.hid hn
  have HB8 := Lib.hid (u8_lt hb8)
  clear hn hb8 hcell hv hm
  go_enter Tryz.func21, Tryz.ntmps21
  go_wp2_with fail
  go_loopw [4, 5, 6, 7, 8] (fun ov rv lv fv iv wr => ∃ (i ln fr : Nat) (O : List (List Ln.W)) (R : List Ln.W), i ≤ n + 1 ∧ fr ≤ i ∧ ln ≤ i + 1 ∧ O.length ≤ i ∧ R.length ≤ i ∧ iv = .int .i64 (i : Int) ∧ lv = .int .i64 (ln : Int) ∧ fv = .int .i64 (fr : Int) ∧
    Hid (Ln.J b i ln fr O R) ∧ St wr (w.heap.size + 1) ov O rv R ∧ Blk wr w.heap.size 23 #[.int .i64 0, .int .i64 0, .int .i64 0] ∧ Below w.heap.size w wr) (fun _ _ _ _ iv _ => n + 1 - (intOf iv).toNat)
  case atStart =>
    exact ⟨0, 1, 0, [], [], by omega, by omega, by omega, by simp, by simp, by go_num, by go_num, by go_num, Lib.hid (Ln.J.start b), st_none _ _, heap_alloc_new w _, (Below.refl _ _).alloc (Nat.le_refl _) _⟩
  case round =>
    obtain ⟨i, ln, fr, O, R, h1, h2, h3, h4, h5, rfl, rfl, rfl, hJ, hst, hF, hbl⟩ := hrel
    obtain ⟨wz, rfl⟩ : ∃ wx : World, wx = wr := ⟨_, rfl⟩
    have HS := Lib.hid hst
    have hwz : w.heap.size + 1 ≤ wz.heap.size := hF.size
    obtain ⟨Ar, cr, hre, hcr⟩ := hst.row
    subst hre
    obtain ⟨rn, hrn⟩ : ∃ k, R.length = k := ⟨_, rfl⟩
    rw [hrn] at h5 HS hcr ⊢
    have HRN := Lib.hid hrn
    clear hst hrn
    by_cases hin : i ≤ n
    · have hin' : (i : Int) ≤ (n : Int) := by omega
      by_cases hend : i = n
      · subst hend
        as_aux_lemma =>
          rcases Nat.eq_zero_or_pos rn with h0 | h0
          · subst h0
            have HJ2 : Hid (Ln.J b (i + 1) (ln + 1) (i + 1) O []) := Lib.hid (by have := hJ.out.done HN.out.symm; rwa [close_none HRN.out, List.append_nil] at this)
            go_wp2
            go_roundw
            case rel => exact ⟨i + 1, ln + 1, i + 1, O, [], by omega, by omega, by omega, by omega, by simp, by go_num, by go_num, by go_num, HJ2, St.nil HRN.out HS.out, hF, hbl⟩
            case measure => simp [intOf]
          · have h0' : (0 : Int) < (rn : Int) := by omega
            have HJ2 : Hid (Ln.J b (i + 1) (ln + 1) (i + 1) (O ++ [R]) []) := Lib.hid (by have := hJ.out.done HN.out.symm; rwa [close_some (by rw [HRN.out]; omega)] at this)
            go_wp2_with (at_builtin; refine wpList_append_line rfl _ _ rfl (w.heap.size + 1) wz.heap.size u4 (.slice Ar rn cr) O R rfl (HS.out.alloc _) rfl (Blk.at (heap_alloc_new wz _) 0) (by omega) (Nat.le_trans hwz (by simp)) _ rfl ?_)
            rintro v' w' hst2 hb2
            have hF2 := (hF.alloc (.cells #[.slice Ar rn cr] 53)).below hb2 (Nat.lt_succ_self _)
            have hbl2 := (hbl.alloc hbl.size (.cells #[.slice Ar rn cr] 53)).trans (hb2.mono (Nat.le_succ _))
            have HS2 := Lib.hid hst2
            clear hst2 hb2 hF hbl
            go_wp2
            go_roundw
            case rel => exact ⟨i + 1, ln + 1, i + 1, O ++ [R], [], by omega, by omega, by omega, by simp; omega, by simp, by go_num, by go_num, by go_num, HJ2, HS2.out, hF2, hbl2⟩
            case measure => simp [intOf]
      · have hi' : i < n := by omega
        have hin2 : (i : Int) < (n : Int) := by omega
        have hV := HV.out.under hbl
        obtain ⟨_, _, A', c', hAe, _, hcell⟩ := hV.parts
        injection hAe with e1 e2 e3
        subst e1
        obtain ⟨bb, off, rfl, hcl⟩ := hcell (by rw [HN.out]; omega)
        have hck := hcl i (by rw [HN.out]; exact hi')
        have HCE := Lib.hid (fun y (hy : y < n) => hcl y (by rw [HN.out]; exact hy))
        clear hcell hcl e2 e3
        obtain ⟨z, hz⟩ : ∃ z, b.getD i 0 = z := ⟨_, rfl⟩
        have HZ8 : Hid (z < 256) := Lib.hid (hz ▸ HB8.out i)
        rw [hz] at hck
        have HZ := Lib.hid hz
        clear hz
        by_cases h10 : z = 10
        · subst h10
          as_aux_lemma =>
            rcases Nat.eq_zero_or_pos rn with h0 | h0
            · subst h0
              have HJ2 : Hid (Ln.J b (i + 1) (ln + 1) (i + 1) O []) := Lib.hid (by have := hJ.out.nl (by rw [HN.out]; exact hi') HZ.out; rwa [close_none HRN.out, List.append_nil] at this)
              go_wp2
              go_roundw
              case rel => exact ⟨i + 1, ln + 1, i + 1, O, [], by omega, by omega, by omega, by omega, by simp, by go_num, by go_num, by go_num, HJ2, St.nil HRN.out HS.out, hF, hbl⟩
              case measure => simp [intOf]; omega
            · have h0' : (0 : Int) < (rn : Int) := by omega
              have HJ2 : Hid (Ln.J b (i + 1) (ln + 1) (i + 1) (O ++ [R]) []) := Lib.hid (by have := hJ.out.nl (by rw [HN.out]; exact hi') HZ.out; rwa [close_some (by rw [HRN.out]; omega)] at this)
              go_wp2_with (at_builtin; refine wpList_append_line rfl _ _ rfl (w.heap.size + 1) wz.heap.size u4 (.slice Ar rn cr) O R rfl (HS.out.alloc _) rfl (Blk.at (heap_alloc_new wz _) 0) (by omega) (Nat.le_trans hwz (by simp)) _ rfl ?_)
              rintro v' w' hst2 hb2
              have hF2 := (hF.alloc (.cells #[.slice Ar rn cr] 53)).below hb2 (Nat.lt_succ_self _)
              have hbl2 := (hbl.alloc hbl.size (.cells #[.slice Ar rn cr] 53)).trans (hb2.mono (Nat.le_succ _))
              have HS2 := Lib.hid hst2
              clear hst2 hb2 hF hbl hck hV
              go_wp2
              go_roundw
              case rel => exact ⟨i + 1, ln + 1, i + 1, O ++ [R], [], by omega, by omega, by omega, by simp; omega, by simp, by go_num, by go_num, by go_num, HJ2, HS2.out, hF2, hbl2⟩
              case measure => simp [intOf]; omega
        · have HZN : Hid (b.getD i 0 ≠ 10) := Lib.hid (by rw [HZ.out]; exact h10)
          have HI : Hid (i < b.length) := Lib.hid (by rw [HN.out]; exact hi')
          obtain ⟨cl, hcol⟩ : ∃ cl : Nat, (i : Int) - (fr : Int) + 1 = (cl : Int) := ⟨i - fr + 1, by omega⟩
          have HCOL : Hid (i - fr + 1 = cl) := Lib.hid (by omega)
          have hbb : bb < wz.heap.size := World.block_lt_of_cell? _ _ hck
          have HCEL : Hid (∀ y, y < n → ∀ o, (wz.alloc o).cell? ⟨bb, off + y, none⟩ = some (.int .u8 ((b.getD y 0 : Nat) : Int))) := Lib.hid (fun y hy o => (World.cell?_alloc_lt wz o ⟨bb, off + y, none⟩ hbb).trans (HCE.out y hy))
          have b10 : ((z : Int) == 10) = false := by simp; omega
          have bin : ((i : Int) == (n : Int)) = false := by simp; omega
          by_cases hbk : z = 32 ∨ z = 9
          · have HJ2 : Hid (Ln.J b (i + 1) ln fr O R) := Lib.hid (hJ.out.skip HI.out h2 HZN.out (Ln.tok_blank (by rw [HZ.out]; exact hbk)) HI.out)
            as_aux_lemma =>
              clear h10 HCEL hcol
              rcases hbk with rfl | rfl
              all_goals
                go_wp2
                go_roundw
                case rel => exact ⟨i + 1, ln, fr, O, R, by omega, by omega, by omega, by omega, by rw [HRN.out]; omega, by go_num, rfl, rfl, HJ2, HS.out.alloc _, hF.alloc _, hbl.alloc hbl.size _⟩
                case measure => simp [intOf]; omega
          · have hk1 : z ≠ 32 := fun e => hbk (.inl e)
            have hk2 : z ≠ 9 := fun e => hbk (.inr e)
            have b32 : ((z : Int) == 32) = false := by simp; omega
            have b9 : ((z : Int) == 9) = false := by simp; omega
            by_cases h35 : z = 35
            · subst h35
              as_aux_lemma =>
                have HJ2 : Hid (∀ k, i + 1 ≤ k → k ≤ n → (∀ y, i + 1 ≤ y → y < k → Ln.noNl (b.getD y 0) = true) → (k = n ∨ b.getD k 0 = 10) → Ln.J b k ln fr O R) := Lib.hid (fun k ha hb' hno hst => by
                  have ht := (Ln.takeWhile_from Ln.noNl b (i + 1) k ha (by rw [HN.out]; exact hb') hno (fun hlt => by
                    rcases hst with h | h
                    · rw [HN.out] at hlt; omega
                    · rw [h]; rfl)).2
                  have := hJ.out.skip (n := k - i) HI.out h2 HZN.out (by rw [HZ.out, Ln.tok_rest, ht]; congr 1; omega) (by rw [HN.out]; omega)
                  rwa [show i + (k - i) = k from by omega] at this)
                clear h10 hbk hk1 hk2
                go_wp2_with fail
                go_loop [8] (fun iv => ∃ k : Nat, i ≤ k ∧ k ≤ n ∧ iv = .int .i64 (k : Int) ∧ Hid (∀ y, i + 1 ≤ y → y < k → Ln.noNl (b.getD y 0) = true)) (fun iv => n - (intOf iv).toNat)
                case atStart => exact ⟨i, Nat.le_refl _, hin, rfl, Lib.hid (by omega)⟩
                case round =>
                  obtain ⟨k, hk1, hk2, rfl, hno⟩ := hrel
                  by_cases hk : k < n
                  · have hkn : (k : Int) < (n : Int) := by omega
                    have hck2 := HCEL.out k hk
                    obtain ⟨z2, hz2⟩ : ∃ z, b.getD k 0 = z := ⟨_, rfl⟩
                    rw [hz2] at hck2
                    have HZ2 := Lib.hid hz2
                    clear hz2
                    by_cases h10 : z2 = 10
                    · subst h10
                      have hik : i + 1 ≤ k := by
                        rcases Nat.lt_or_ge i k with h | h
                        · exact h
                        · have e := HZ.out
                          rw [show i = k from by omega, HZ2.out] at e
                          omega
                      have HJ3 := Lib.hid (HJ2.out k hik hk2 hno.out (.inr HZ2.out))
                      go_wp2
                      go_roundw
                      case rel => exact ⟨k, ln, fr, O, R, by omega, by omega, by omega, by omega, by rw [HRN.out]; omega, by go_num, rfl, rfl, HJ3, HS.out.alloc _, hF.alloc _, hbl.alloc hbl.size _⟩
                      case measure => simp [intOf]; omega
                    · have hne : ((z2 : Int) != 10) = true := by simp; omega
                      have HNO : Hid (∀ y, i + 1 ≤ y → y < k + 1 → Ln.noNl (b.getD y 0) = true) := Lib.hid (fun y ha hb' => by
                        rcases Nat.lt_or_ge y k with h | h
                        · exact hno.out y ha h
                        · rw [show y = k from by omega, HZ2.out]
                          simp [Ln.noNl, h10])
                      clear h10 hno
                      go_wp2
                      go_round
                      case rel => exact ⟨k + 1, by omega, by omega, by go_num, HNO⟩
                      case measure => simp [intOf]; omega
                  · obtain rfl : k = n := by omega
                    have HJ3 := Lib.hid (HJ2.out k hi' hk2 hno.out (.inl rfl))
                    go_wp2
                    go_roundw
                    case rel => exact ⟨k, ln, fr, O, R, by omega, by omega, by omega, by omega, by rw [HRN.out]; omega, by go_num, rfl, rfl, HJ3, HS.out.alloc _, hF.alloc _, hbl.alloc hbl.size _⟩
                    case measure => simp [intOf]; omega
            · have b35 : ((z : Int) == 35) = false := by simp; omega
              rcases hsg : Ln.sign z with _ | _
              · have HSG := Lib.hid hsg
                by_cases h34 : z = 34
                · subst h34
                  as_aux_lemma =>
                    have HQT := Lib.hid (refquoted_any (.slice (some ⟨bb, off, none⟩) n c) b i ⟨[], ln, cl, false⟩)
                    have HTQ : Hid (Ln.tok (b.getD i 0) (b.drop (i + 1)) = Ln.tokq (b.drop (i + 1))) := Lib.hid (by rw [HZ.out]; exact Ln.tok_quote)
                    clear h10 hbk hk1 hk2 hsg HCEL
                    go_wp2_with fail
                    refine (refsign_any 34 _).mono ?_
                    rintro e w2 ⟨rfl, rfl⟩
                    rw [HSG.out]
                    go_wp2_with fail
                    refine (HQT.out _ (hV.alloc _) HI.out (by rw [HN.out]; exact hb)).mono ?_
                    intro e w2 hq
                    rcases htq : Ln.tokq (b.drop (i + 1)) with m | ⟨t, m, q⟩ | ⟨k, o⟩
                    · exact (Ln.tokq_skip htq).elim
                    · rw [htq] at hq
                      obtain ⟨rfl, hq2⟩ := hq
                      obtain ⟨rfl, hm1, hm2, -⟩ := Ln.tokq_word htq
                      rw [List.length_drop, HN.out] at hm2
                      have him : i + m ≤ n := by omega
                      have HJ2 : Hid (Ln.J b (i + m) ln fr O (R ++ [⟨t, ln, cl, true⟩])) := Lib.hid (by have := hJ.out.word HI.out h2 HZN.out (HTQ.out.trans htq) (by rw [HN.out]; exact him); rwa [HCOL.out] at this)
                      rw [show (cellsW { ({ text := [], line := ln, col := cl, q := false } : Ln.W) with text := t, q := true }).toArray = #[.string (str t), .int .i64 ln, .int .i64 cl, .bool true] from rfl]
                      have HST2 := Lib.hid ((HS.out.alloc _).under hq2)
                      have HF2 := Lib.hid ((hF.alloc _).under hq2)
                      have HBL2 := Lib.hid ((hbl.alloc hbl.size _).trans (hq2.mono (hbl.alloc hbl.size _).size))
                      have hw2 : w.heap.size + 1 ≤ w2.heap.size := HF2.out.size
                      obtain ⟨pe, hpe⟩ : ∃ pe, i + m = pe := ⟨_, rfl⟩
                      rw [hpe] at HJ2 him ⊢
                      have hpi : i + 1 ≤ pe := by omega
                      clear hq2 htq hm2 hF hbl hck hV hJ
                      go_wp2_with (at_builtin; refine wpList_append_word rfl _ _ rfl (w.heap.size + 1) (w2.heap.size + 1) u4 (.slice Ar rn cr) O R ⟨t, ln, cl, true⟩ rfl ((HST2.out.alloc _).alloc _) rfl (word_cells w2 _ ⟨t, ln, cl, true⟩) (by rw [HRN.out]; omega) (Nat.le_trans hw2 (by simp; omega)) _ rfl ?_)
                      rintro u' w' hst2 hb2
                      have hF3 := ((HF2.out.alloc _).alloc _).below hb2 (Nat.lt_succ_self _)
                      have hbl3 := ((HBL2.out.alloc HBL2.out.size _).alloc (HBL2.out.alloc HBL2.out.size _).size _).trans (hb2.mono (Nat.le_succ _))
                      have HS2 := Lib.hid hst2
                      clear hst2 hb2
                      go_wp2
                      go_roundw
                      case rel => exact ⟨pe, ln, fr, O, R ++ [⟨t, ln, cl, true⟩], by omega, by omega, by omega, by omega, by rw [List.length_append, HRN.out, List.length_singleton]; omega, by go_num, rfl, rfl, HJ2, HS2.out, hF3, hbl3⟩
                      case measure => simp [intOf]; omega
                    · rw [htq] at hq
                      obtain ⟨⟨y, rfl⟩, hq2⟩ := hq
                      obtain ⟨hk0, hk3, ho⟩ := Ln.tokq_bad htq
                      rw [List.length_drop, HN.out] at ho
                      have HB : Hid (Ln.split b = .bad k ln (cl + o)) := Lib.hid (by have := hJ.out.bad HI.out HZN.out (HTQ.out.trans htq); rwa [HCOL.out] at this)
                      rw [show (cellsW y).toArray = #[.string (str y.text), .int .i64 y.line, .int .i64 y.col, .bool y.q] from rfl]
                      have HF2 := Lib.hid ((hF.alloc _).under hq2)
                      have HBL2 := Lib.hid ((hbl.alloc hbl.size _).trans (hq2.mono (hbl.alloc hbl.size _).size))
                      obtain ⟨pe, hpe⟩ : ∃ pe, i + o = pe := ⟨_, rfl⟩
                      obtain ⟨co, hco⟩ : ∃ co : Nat, (pe : Int) - (fr : Int) + 1 = (co : Int) := ⟨pe - fr + 1, by omega⟩
                      have HCO : Hid (cl + o = co) := Lib.hid (by omega)
                      have hpn : pe ≤ n := by omega
                      have hpf : fr ≤ pe := by omega
                      have hkz : ((k : Int) != 0) = true := by simp; omega
                      rw [hpe]
                      clear hq2 htq ho hF hbl hck hV hJ hpe
                      go_wp2_with fail
                      refine (reffault_any k ln co _).mono ?_
                      rintro e w3 ⟨rfl, hb2⟩
                      have hF3 := (HF2.out.alloc _).under hb2
                      have hbl3 := (HBL2.out.alloc HBL2.out.size _).trans (hb2.mono (HBL2.out.alloc HBL2.out.size _).size)
                      have g0 : w3.cell? ⟨w.heap.size, 0, none⟩ = some (.int .i64 0) := hF3.at 0
                      have g1 : w3.cell? ⟨w.heap.size, 1, none⟩ = some (.int .i64 0) := hF3.at 1
                      have g2 : w3.cell? ⟨w.heap.size, 2, none⟩ = some (.int .i64 0) := hF3.at 2
                      have f0 := hF3.free 0
                      have f1 := hF3.free 1
                      have f2 := hF3.free 2
                      clear hb2
                      go_wp2
                      refine bodyPost_ret (results_tmp_cell rfl _ _ w.heap.size _ _ _ _ rfl (((hF3.set 0 _).set 1 _).set 2 _) Tryz.underlying23 rfl (by kernel_rfl)) rfl ?_
                      refine ⟨?_, ((hbl3.setCell (by simp) _).setCell (by simp) _).setCell (by simp) _⟩
                      rw [HB.out, HCO.out]
                      exact ⟨none, 0, rfl⟩
                · have b34 : ((z : Int) == 34) = false := by simp; omega
                  by_cases hby : z < 33 ∨ 126 < z
                  · have HTK := Lib.hid (Ln.tok_byte (r := b.drop (i + 1)) hbk hby hsg)
                    as_aux_lemma =>
                      have HB : Hid (Ln.split b = .bad 1 ln cl) := Lib.hid (by have := hJ.out.bad HI.out HZN.out (by rw [HZ.out]; exact HTK.out); rwa [HCOL.out] at this)
                      clear h10 hbk hk1 hk2 hsg HTK HCEL
                      have hby' : (z : Int) < 33 ∨ ((33 : Int) ≤ (z : Int) ∧ (126 : Int) < (z : Int)) := by omega
                      clear hby
                      go_wp2_with fail
                      refine (refsign_any z _).mono ?_
                      rintro e w2 ⟨rfl, rfl⟩
                      rw [HSG.out]
                      rcases hby' with c1 | ⟨c1, c2⟩
                      all_goals
                        go_wp2_with fail
                        refine (reffault_any 1 ln cl _).mono ?_
                        rintro e w2 ⟨rfl, hb2⟩
                        have hF2 := (hF.alloc _).under hb2
                        have hbl2 := (hbl.alloc hbl.size _).trans (hb2.mono (hbl.alloc hbl.size _).size)
                        have g0 : w2.cell? ⟨w.heap.size, 0, none⟩ = some (.int .i64 0) := hF2.at 0
                        have g1 : w2.cell? ⟨w.heap.size, 1, none⟩ = some (.int .i64 0) := hF2.at 1
                        have g2 : w2.cell? ⟨w.heap.size, 2, none⟩ = some (.int .i64 0) := hF2.at 2
                        have f0 := hF2.free 0
                        have f1 := hF2.free 1
                        have f2 := hF2.free 2
                        clear hb2 hck
                        go_wp2
                        refine bodyPost_ret (results_tmp_cell rfl _ _ w.heap.size _ _ _ _ rfl (((hF2.set 0 _).set 1 _).set 2 _) Tryz.underlying23 rfl (by kernel_rfl)) rfl ?_
                        refine ⟨?_, ((hbl2.setCell (by simp) _).setCell (by simp) _).setCell (by simp) _⟩
                        rw [HB.out]
                        exact ⟨none, 0, rfl⟩
                  · have HTK := Lib.hid (Ln.tok_plain (r := b.drop (i + 1)) (c := z) (by omega) h35 h34 hsg)
                    as_aux_lemma =>
                      have hz33 : ¬ (z : Int) < 33 := by omega
                      have hz126 : ¬ (126 : Int) < (z : Int) := by omega
                      have HPZ : Hid (Ln.plain z = true) := Lib.hid (by simp [Ln.plain, hsg]; omega)
                      clear h10 hbk hk1 hk2 hsg hby
                      go_wp2_with fail
                      refine (refsign_any z _).mono ?_
                      rintro e w2 ⟨rfl, rfl⟩
                      rw [HSG.out]
                      go_upto_block 3 with fail
                      go_cut [15] (fun kv wx => ∃ k : Nat, i + 1 ≤ k ∧ k ≤ n ∧ kv = .int .i64 (k : Int) ∧ ((b.drop (i + 1)).takeWhile Ln.plain = (b.drop (i + 1)).take (k - (i + 1)) ∧ ((b.drop (i + 1)).takeWhile Ln.plain).length = k - (i + 1)) ∧ wz.alloc (.cells #[.string { data := #[] }, .int .i64 ln, .int .i64 cl, .bool false] 55) = wx)
                      case first =>
                        go_wp2_with fail
                        go_loop [15] (fun kv => ∃ k : Nat, i ≤ k ∧ k ≤ n ∧ kv = .int .i64 (k : Int) ∧ Hid (∀ y, i + 1 ≤ y → y < k → Ln.plain (b.getD y 0) = true)) (fun kv => n - (intOf kv).toNat)
                        case atStart => exact ⟨i, Nat.le_refl _, hin, rfl, Lib.hid (by omega)⟩
                        case round =>
                          obtain ⟨k, hk1, hk2, rfl, hpl⟩ := hrel
                          by_cases hk : k < n
                          · have hkn : (k : Int) < (n : Int) := by omega
                            have hck2 := HCEL.out k hk
                            obtain ⟨z2, hz2⟩ : ∃ z, b.getD k 0 = z := ⟨_, rfl⟩
                            rw [hz2] at hck2
                            have HZ2 := Lib.hid hz2
                            clear hz2
                            have hsp : (Ln.plain z2 = true ∧ (32 : Int) < (z2 : Int) ∧ (z2 : Int) < 127 ∧ ((z2 : Int) != 34) = true ∧ Ln.sign z2 = false) ∨ (Ln.plain z2 = false ∧ (¬ (32 : Int) < (z2 : Int) ∨ ((32 : Int) < (z2 : Int) ∧ ¬ (z2 : Int) < 127) ∨ ((32 : Int) < (z2 : Int) ∧ (z2 : Int) < 127 ∧ z2 = 34) ∨ ((32 : Int) < (z2 : Int) ∧ (z2 : Int) < 127 ∧ ((z2 : Int) != 34) = true ∧ Ln.sign z2 = true))) := by
                              by_cases a1 : 32 < z2
                              · by_cases a2 : z2 < 127
                                · by_cases a3 : z2 = 34
                                  · exact .inr ⟨by simp [Ln.plain, a3], .inr (.inr (.inl ⟨by omega, by omega, a3⟩))⟩
                                  · have a4 : ((z2 : Int) != 34) = true := by simp; omega
                                    rcases hs : Ln.sign z2 with _ | _
                                    · exact .inl ⟨by simp [Ln.plain, a1, a2, a3, hs], by omega, by omega, a4, rfl⟩
                                    · exact .inr ⟨by simp [Ln.plain, hs], .inr (.inr (.inr ⟨by omega, by omega, a4, rfl⟩))⟩
                                · exact .inr ⟨by simp [Ln.plain, a2], .inr (.inl ⟨by omega, by omega⟩)⟩
                              · exact .inr ⟨by simp [Ln.plain, a1], .inl (by omega)⟩
                            rcases hsp with ⟨hp, a1, a2, a3, a4⟩ | ⟨hp, hways⟩
                            · have HPL : Hid (∀ y, i + 1 ≤ y → y < k + 1 → Ln.plain (b.getD y 0) = true) := Lib.hid (fun y ha hb' => by
                                rcases Nat.lt_or_ge y k with h | h
                                · exact hpl.out y ha h
                                · rw [show y = k from by omega, HZ2.out]
                                  exact hp)
                              have HS4 := Lib.hid a4
                              clear hp hpl a4
                              go_wp2_with fail
                              refine (refsign_any z2 _).mono ?_
                              rintro e w2 ⟨rfl, rfl⟩
                              rw [HS4.out]
                              go_wp2
                              go_round
                              case rel => exact ⟨k + 1, by omega, by omega, by go_num, HPL⟩
                              case measure => simp [intOf]; omega
                            · have hik : i + 1 ≤ k := by
                                rcases Nat.lt_or_ge i k with h | h
                                · exact h
                                · have e := HZ.out
                                  rw [show i = k from by omega, HZ2.out] at e
                                  rw [e, HPZ.out] at hp
                                  cases hp
                              have HRUN := Lib.hid (Ln.takeWhile_from Ln.plain b (i + 1) k hik (by rw [HN.out]; exact hk2) hpl.out (fun _ => by rw [HZ2.out]; exact hp))
                              clear hp hpl
                              rcases hways with a1 | ⟨a1, a2⟩ | ⟨a1, a2, rfl⟩ | ⟨a1, a2, a3, a4⟩
                              · go_wp2_with fail
                                go_meet
                                exact ⟨k, hik, hk2, rfl, HRUN.out, rfl⟩
                              · go_wp2_with fail
                                go_meet
                                exact ⟨k, hik, hk2, rfl, HRUN.out, rfl⟩
                              · go_wp2_with fail
                                go_meet
                                exact ⟨k, hik, hk2, rfl, HRUN.out, rfl⟩
                              · have HS4 := Lib.hid a4
                                clear a4
                                go_wp2_with fail
                                refine (refsign_any z2 _).mono ?_
                                rintro e w2 ⟨rfl, rfl⟩
                                rw [HS4.out]
                                go_wp2_with fail
                                go_meet
                                exact ⟨k, hik, hk2, rfl, HRUN.out, rfl⟩
                          · obtain rfl : k = n := by omega
                            have HRUN := Lib.hid (Ln.takeWhile_from Ln.plain b (i + 1) k hi' (by rw [HN.out]; exact hk2) hpl.out (fun h => absurd h (by rw [HN.out]; omega)))
                            go_wp2_with fail
                            go_meet
                            exact ⟨k, hi', hk2, rfl, HRUN.out, rfl⟩
                      case rest =>
                        obtain ⟨k, hik, hkn, rfl, hrun, rfl⟩ := hcut
                        have hT : List.drop i (List.take k b) = z :: (b.drop (i + 1)).take (k - (i + 1)) := by
                          rw [List.drop_take, Ln.drop_cons HI.out, HZ.out, show k - i = (k - (i + 1)) + 1 from by omega, List.take_succ_cons]
                        have hs1 := fun o => ((hV.alloc o).head (k := k) hkn (by omega)).tail (k := i) (d := c - i) (A' := some ⟨bb, off + i, none⟩) (by omega) (by omega) (fun _ b0 o0 e => by cases e; rfl)
                        have htk := HTK.out
                        rw [hrun.2, hrun.1] at htk
                        obtain ⟨T, hTe⟩ : ∃ T, z :: (b.drop (i + 1)).take (k - (i + 1)) = T := ⟨_, rfl⟩
                        have hTl : T.length = k - i := by
                          rw [← hTe, List.length_cons, List.length_take, List.length_drop, HN.out]
                          omega
                        rw [hT, hTe] at hs1
                        rw [hTe, show k - (i + 1) + 1 = k - i from by omega] at htk
                        have hcv := fun o => run_text (hs1 o)
                        have hsz : (str T).size = k - i := by rw [str_size, hTl]
                        have hkc : (k : Int) ≤ (c : Int) := by omega
                        have hik' : (i : Int) ≤ (k : Int) := by omega
                        have hi0 : (0 : Int) ≤ (i : Int) := by omega
                        clear hs1 hT hTe hTl hrun HCEL HTK
                        rcases Nat.lt_or_ge 64 (k - i) with hL | hL
                        · have hL' : (64 : Int) < ((k - i : Nat) : Int) := by omega
                          have HB : Hid (Ln.split b = .bad 3 ln cl) := Lib.hid (by have := hJ.out.bad HI.out HZN.out (by rw [HZ.out]; exact htk.trans (if_pos hL)); rwa [HCOL.out] at this)
                          clear hL htk hck
                          go_wp2_with fail
                          refine (reffault_any 3 ln cl _).mono ?_
                          rintro e w2 ⟨rfl, hb2⟩
                          have hF2 := (hF.alloc _).under hb2
                          have hbl2 := (hbl.alloc hbl.size _).trans (hb2.mono (hbl.alloc hbl.size _).size)
                          have g0 : w2.cell? ⟨w.heap.size, 0, none⟩ = some (.int .i64 0) := hF2.at 0
                          have g1 : w2.cell? ⟨w.heap.size, 1, none⟩ = some (.int .i64 0) := hF2.at 1
                          have g2 : w2.cell? ⟨w.heap.size, 2, none⟩ = some (.int .i64 0) := hF2.at 2
                          have f0 := hF2.free 0
                          have f1 := hF2.free 1
                          have f2 := hF2.free 2
                          clear hb2 hcv
                          go_wp2
                          refine bodyPost_ret (results_tmp_cell rfl _ _ w.heap.size _ _ _ _ rfl (((hF2.set 0 _).set 1 _).set 2 _) Tryz.underlying23 rfl (by kernel_rfl)) rfl ?_
                          refine ⟨?_, ((hbl2.setCell (by simp) _).setCell (by simp) _).setCell (by simp) _⟩
                          rw [HB.out]
                          exact ⟨none, 0, rfl⟩
                        · have hL' : ¬ (64 : Int) < ((k - i : Nat) : Int) := by omega
                          have HJ2 : Hid (Ln.J b k ln fr O (R ++ [⟨T, ln, cl, false⟩])) := Lib.hid (by
                            have := hJ.out.word HI.out h2 HZN.out (by rw [HZ.out]; exact htk.trans (if_neg (by omega))) (by rw [HN.out]; omega)
                            rwa [HCOL.out, show i + (k - i) = k from by omega] at this)
                          clear hL htk
                          go_wp2_with (at_builtin; refine wpList_append_word rfl _ _ rfl (w.heap.size + 1) (wz.heap.size + 1) u4 (.slice Ar rn cr) O R ⟨T, ln, cl, false⟩ rfl ((HS.out.alloc _).alloc _) rfl (word_cells wz _ ⟨T, ln, cl, false⟩) (by rw [HRN.out]; omega) (Nat.le_trans hwz (by simp; omega)) _ rfl ?_)
                          rintro u' w' hst2 hb2
                          have hF2 := ((hF.alloc _).alloc _).below hb2 (Nat.lt_succ_self _)
                          have hbl2 := ((hbl.alloc hbl.size _).alloc (hbl.alloc hbl.size _).size _).trans (hb2.mono (Nat.le_succ _))
                          have HS2 := Lib.hid hst2
                          clear hst2 hb2 hF hbl hck hV hcv
                          go_wp2
                          go_roundw
                          case rel => exact ⟨k, ln, fr, O, R ++ [⟨T, ln, cl, false⟩], by omega, by omega, by omega, by omega, by rw [List.length_append, HRN.out, List.length_singleton]; omega, by go_num, rfl, rfl, HJ2, HS2.out, hF2, hbl2⟩
                          case measure => simp [intOf]; omega
              · have HTK := Lib.hid (Ln.tok_sign (r := b.drop (i + 1)) hsg)
                have HSG := Lib.hid hsg
                as_aux_lemma =>
                  have HJ2 : Hid (Ln.J b (i + 1) ln fr O (R ++ [⟨[z], ln, cl, false⟩])) := Lib.hid (by have := hJ.out.word HI.out h2 HZN.out (by rw [HZ.out]; exact HTK.out) HI.out; rwa [HCOL.out] at this)
                  have hs1 := fun o => ((hV.alloc o).head (k := i + 1) (by omega) (by omega)).tail (k := i) (d := c - i) (A' := some ⟨bb, off + i, none⟩) (by omega) (by omega) (fun _ b0 o0 e => by cases e; rfl)
                  have hz1 : List.drop i (List.take (i + 1) b) = [z] := by
                    rw [List.drop_take, show i + 1 - i = 1 from by omega, Ln.drop_cons HI.out, HZ.out]
                    rfl
                  rw [hz1, show i + 1 - i = 1 from by omega] at hs1
                  have hcv := fun o => run_text (hs1 o)
                  have hic : (i : Int) + 1 ≤ (c : Int) := by omega
                  have hi0 : (0 : Int) ≤ (i : Int) := by omega
                  clear hs1 hz1 h10 hbk hk1 hk2 hsg HTK HCEL
                  go_wp2_with fail
                  refine (refsign_any z _).mono ?_
                  rintro e w2 ⟨rfl, rfl⟩
                  rw [HSG.out]
                  go_wp2_with (at_builtin; refine wpList_append_word rfl _ _ rfl (w.heap.size + 1) (wz.heap.size + 1) u4 (.slice Ar rn cr) O R ⟨[z], ln, cl, false⟩ rfl ((HS.out.alloc _).alloc _) rfl (word_cells wz _ ⟨[z], ln, cl, false⟩) (by rw [HRN.out]; omega) (Nat.le_trans hwz (by simp; omega)) _ rfl ?_)
                  rintro u' w' hst2 hb2
                  have hF2 := ((hF.alloc _).alloc _).below hb2 (Nat.lt_succ_self _)
                  have hbl2 := ((hbl.alloc hbl.size _).alloc (hbl.alloc hbl.size _).size _).trans (hb2.mono (Nat.le_succ _))
                  have HS2 := Lib.hid hst2
                  clear hst2 hb2 hF hbl hck hV hcv
                  go_wp2
                  go_roundw
                  case rel => exact ⟨i + 1, ln, fr, O, R ++ [⟨[z], ln, cl, false⟩], by omega, by omega, by omega, by omega, by rw [List.length_append, HRN.out, List.length_singleton]; omega, by go_num, rfl, rfl, HJ2, HS2.out, hF2, hbl2⟩
                  case measure => simp [intOf]; omega
    · obtain rfl : i = n + 1 := by omega
      as_aux_lemma =>
        have HO : Hid (Ln.split b = .ok O) := Lib.hid (by
          rcases hJ.out with h | h
          · have := h.1
            rw [HN.out] at this
            omega
          · exact h.2.1)
        have g0 : wz.cell? ⟨w.heap.size, 0, none⟩ = some (.int .i64 0) := hF.at 0
        have g1 : wz.cell? ⟨w.heap.size, 1, none⟩ = some (.int .i64 0) := hF.at 1
        have g2 : wz.cell? ⟨w.heap.size, 2, none⟩ = some (.int .i64 0) := hF.at 2
        have f0 := hF.free 0
        have f1 := hF.free 1
        have f2 := hF.free 2
        go_wp2
        refine bodyPost_ret (results_tmp_cell rfl _ _ w.heap.size _ _ _ _ rfl (((hF.set 0 _).set 1 _).set 2 _) Tryz.underlying23 rfl (by kernel_rfl)) rfl ?_
        refine ⟨?_, ((hbl.setCell (by simp) _).setCell (by simp) _).setCell (by simp) _⟩
        rw [HO.out]
        exact ⟨u4, rfl, ((((HS.out.setLow (by simp) _).setLow (by simp) _).setLow (by simp) _).more (Nat.le_succ _)).drop⟩
end Go.Proofs.YtgjehlegcmeeoaaGreatDoor
