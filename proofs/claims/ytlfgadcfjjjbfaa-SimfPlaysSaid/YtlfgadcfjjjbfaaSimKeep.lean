/- Files in memory: their calls, for whoever holds other things, too: the blocks K stay as they are. -/
import Derived.Test.YtlfgadcfjjjbfaaSimAwake
namespace Go.Proofs.Ytlfgadcfjjjbfaa
set_option maxRecDepth 100000
open Go.ChangeShapes Go.WideShapes Go.ChangeAt Go.RowKit Go.ChangeMaps
open Sf

def Fk (K : Nat → Prop) (w0 w : World) (p : Nat) (s : S) : Prop := ∃ mb V F, At none w p mb V F s ∧ (∀ k, F k → w0.heap.size ≤ k) ∧ Below w0.heap.size w0 w ∧ ∀ k, K k → k < w.heap.size ∧ ¬ F k
variable {K : Nat → Prop} {w0 w w' w1 : World} {p : Nat} {s s' : S}
theorem Fk.fs (h : Fk K w0 w p s) : Fs w0 w p s := by
  obtain ⟨mb, V, F, h1, h2, h3, _⟩ := h
  exact ⟨mb, V, F, h1, h2, h3⟩
theorem Fs.keep (h : Fs w0 w p s) : Fk (fun _ => False) w0 w p s := by
  obtain ⟨mb, V, F, h1, h2, h3⟩ := h
  exact ⟨mb, V, F, h1, h2, h3, fun _ h => h.elim⟩
/-- More blocks, newly made, are held. -/
theorem Fk.grow (h : Fk K w0 w p s) (hb : Below w.heap.size w w1) (K' : Nat → Prop) (hK : ∀ k, K' k → K k ∨ (w.heap.size ≤ k ∧ k < w1.heap.size)) : Fk K' w0 w1 p s := by
  obtain ⟨mb, V, F, h1, h2, h3, h4⟩ := h
  refine ⟨mb, V, F, h1.under hb, h2, h3.trans (hb.mono h3.size), fun k hk => ?_⟩
  rcases hK k hk with e | ⟨e1, e2⟩
  · exact ⟨Nat.lt_of_lt_of_le (h4 k e).1 hb.size, (h4 k e).2⟩
  · exact ⟨e2, fun e => by have := h1.lt k e; omega⟩
theorem Fk.under (h : Fk K w0 w p s) (hb : Below w.heap.size w w1) : Fk K w0 w1 p s := h.grow hb K fun _ h => .inl h
theorem Fk.alloc (h : Fk K w0 w p s) (o : Obj) : Fk K w0 (w.alloc o) p s := h.under ((Below.refl _ _).alloc (Nat.le_refl _) o)
theorem Fk.lt (h : Fk K w0 w p s) {k : Nat} (hk : K k) : k < w.heap.size := by
  obtain ⟨_, _, _, _, _, _, h4⟩ := h
  exact (h4 k hk).1
theorem Fk.less (h : Fk K w0 w p s) (K' : Nat → Prop) (hK : ∀ k, K' k → K k) : Fk K' w0 w p s := by
  obtain ⟨mb, V, F, h1, h2, h3, h4⟩ := h
  exact ⟨mb, V, F, h1, h2, h3, fun k hk => h4 k (hK k hk)⟩
/-- Blocks of K are turned by others. -/
theorem Fk.turned (h : Fk K w0 w p s) {b : Nat} (hb : K b) (hB : w0.heap.size ≤ b) (hg : w.grownBy w1 (some b)) (hs : ∀ k, k ≠ b → w1.heap[k]? = w.heap[k]?) : Fk K w0 w1 p s := by
  obtain ⟨mb, V, F, h1, h2, h3, h4⟩ := h
  refine ⟨mb, V, F, h1.same hg.size fun k hk => hs k fun e => (h4 b hb).2 (e ▸ hk), h2, h3.grown hg h3.size fun k hk => by injection hk with hk; rw [← hk]; exact hB, fun k hk => ⟨Nat.lt_of_lt_of_le (h4 k hk).1 hg.size, (h4 k hk).2⟩⟩
theorem Fk.grown (h : Fk K w0 w p s) {row : Option Nat} (hr : ∀ b, row = some b → K b ∧ w0.heap.size ≤ b) (hg : w.grownBy w1 row) : Fk K w0 w1 p s := by
  obtain ⟨mb, V, F, h1, h2, h3, h4⟩ := h
  refine ⟨mb, V, F, h1.same hg.size fun k hk => hg.block k (h1.lt k hk) fun e => (h4 k (hr k e.symm).1).2 hk, h2, h3.grown hg h3.size fun k hk => (hr k hk).2, fun k hk => ⟨Nat.lt_of_lt_of_le (h4 k hk).1 hg.size, (h4 k hk).2⟩⟩
def Kept (K : Nat → Prop) (w w' : World) : Prop := w.heap.size ≤ w'.heap.size ∧ ∀ k, K k → w'.heap[k]? = w.heap[k]?
theorem fk_done {F : Nat → Prop} (h2 : ∀ k, F k → w0.heap.size ≤ k) (h3 : Below w0.heap.size w0 w) (h4 : ∀ k, K k → k < w.heap.size ∧ ¬ F k) (hd : Done F p s' w w') : Fk K w0 w' p s' ∧ Kept K w w' := by
  obtain ⟨F', ⟨mb, V, ha⟩, hf⟩ := hd
  exact ⟨⟨mb, V, F', ha, hf.out h2 h3.size, h3.trans (hf.below h2 h3.size), fun k hk => ⟨Nat.lt_of_lt_of_le (h4 k hk).1 hf.size, hf.not (h4 k hk).2 (h4 k hk).1⟩⟩, hf.size, fun k hk => hf.block k (h4 k hk).1 (h4 k hk).2⟩
theorem fk_make (t b : List Nat) (vb : Value) (h : Fk K w0 w p s) (ht : Nice t) (hb : Bytes w vb b) (hnx : s.next ≤ 1073741824) (hu : used s.l + b.length ≤ 274877906944) :
    Calls Try.prog 9 #[.pointer (some ⟨p, 0, none⟩), .string (str t), vb] w fun e w' => e = .returned (.tuple #[.int .i64 (((make s t b).2.1 : Nat) : Int), .int .i64 (((make s t b).2.2 : Nat) : Int)]) ∧ Fk K w0 w' p (make s t b).1 ∧ Kept K w w' := by
  obtain ⟨mb, V, F, h1, h2, h3, h4⟩ := h
  exact (make_any t b vb w p mb V F s h1 ht hb hnx (by omega)).mono fun _ _ ⟨he, hd⟩ => ⟨he, fk_done h2 h3 h4 hd⟩
theorem fk_put (t b : List Nat) (vb : Value) (h : Fk K w0 w p s) (ht : Nice t) (hb : Bytes w vb b) (hnx : s.next ≤ 1073741824) (hu : used s.l + b.length ≤ 274877906944) :
    Calls Try.prog 11 #[.pointer (some ⟨p, 0, none⟩), .string (str t), vb] w fun e w' => e = .returned (.tuple #[.int .i64 (((putS s t b).2.1 : Nat) : Int), .int .i64 (((putS s t b).2.2 : Nat) : Int)]) ∧ Fk K w0 w' p (putS s t b).1 ∧ Kept K w w' := by
  obtain ⟨mb, V, F, h1, h2, h3, h4⟩ := h
  exact (put_any t b vb w p mb V F s h1 ht hb hnx (by omega)).mono fun _ _ ⟨he, hd⟩ => ⟨he, fk_done h2 h3 h4 hd⟩
/-- What is appended lies in blocks of K, or is nothing. -/
theorem fk_appIf (t b : List Nat) (g : List (List Nat × Int)) (vb vg : Value) (h : Fk K w0 w p s) (ht : Nice t) (hb : Bytes w vb b) (hbf : b ≠ [] → ∀ k, vb.ownBlock = some k → K k ∨ k < w0.heap.size) (hg : RdG w vg g) (hg1 : ∀ x ∈ g, Nice x.1) (hnx : s.next ≤ 1073741824) (hu : used s.l + b.length ≤ 274877906944) :
    Calls Try.prog 13 #[.pointer (some ⟨p, 0, none⟩), .string (str t), vb, vg] w fun e w' => e = .returned (.tuple #[.int .i64 (((app s t b g).2.1 : Nat) : Int), .int .i64 (((app s t b g).2.2 : Nat) : Int)]) ∧ Fk K w0 w' p (app s t b g).1 ∧ Kept K w w' := by
  obtain ⟨mb, V, F, h1, h2, h3, h4⟩ := h
  exact (app_any t b g vb vg w p mb V F s h1 ht hb hg hg1 (fun h0 k hk e => by
    rcases hbf h0 k e with e1 | e1
    · exact (h4 k e1).2 hk
    · have := h2 k hk; omega) hnx hu).mono fun _ _ ⟨he, hd⟩ => ⟨he, fk_done h2 h3 h4 hd⟩
theorem fk_app (t b : List Nat) (g : List (List Nat × Int)) (vb vg : Value) (h : Fk K w0 w p s) (ht : Nice t) (hb : Bytes w vb b) (hbf : ∀ k, vb.ownBlock = some k → K k ∨ k < w0.heap.size) (hg : RdG w vg g) (hg1 : ∀ x ∈ g, Nice x.1) (hnx : s.next ≤ 1073741824) (hu : used s.l + b.length ≤ 274877906944) :
    Calls Try.prog 13 #[.pointer (some ⟨p, 0, none⟩), .string (str t), vb, vg] w fun e w' => e = .returned (.tuple #[.int .i64 (((app s t b g).2.1 : Nat) : Int), .int .i64 (((app s t b g).2.2 : Nat) : Int)]) ∧ Fk K w0 w' p (app s t b g).1 ∧ Kept K w w' :=
  fk_appIf t b g vb vg h ht hb (fun _ => hbf) hg hg1 hnx hu
theorem fk_move (a b : List Nat) (g : List (List Nat × Int)) (vg : Value) (h : Fk K w0 w p s) (ha : Nice a) (hb : Nice b) (hg : RdG w vg g) (hg1 : ∀ x ∈ g, Nice x.1) (hnx : s.next ≤ 1073741824) (hu : used s.l ≤ 274877906944) :
    Calls Try.prog 15 #[.pointer (some ⟨p, 0, none⟩), .string (str a), .string (str b), vg] w fun e w' => e = .returned (.tuple #[.int .i64 (((Sf.move s a b g).2.1 : Nat) : Int), .int .i64 (((Sf.move s a b g).2.2 : Nat) : Int)]) ∧ Fk K w0 w' p (Sf.move s a b g).1 ∧ Kept K w w' := by
  obtain ⟨mb, V, F, h1, h2, h3, h4⟩ := h
  exact (move_any a b g vg w p mb V F s h1 ha hb hg hg1 hnx (by omega)).mono fun _ _ ⟨he, hd⟩ => ⟨he, fk_done h2 h3 h4 hd⟩
theorem fk_drop (t : List Nat) (g : List (List Nat × Int)) (vg : Value) (h : Fk K w0 w p s) (ht : Nice t) (hg : RdG w vg g) (hg1 : ∀ x ∈ g, Nice x.1) (hu : used s.l ≤ 274877906944) :
    Calls Try.prog 17 #[.pointer (some ⟨p, 0, none⟩), .string (str t), vg] w fun e w' => e = .returned (.int .i64 (((Sf.drop s t g).2 : Nat) : Int)) ∧ Fk K w0 w' p (Sf.drop s t g).1 ∧ Kept K w w' := by
  obtain ⟨mb, V, F, h1, h2, h3, h4⟩ := h
  exact (drop_any t g vg w p mb V F s h1 ht hg hg1 (by omega)).mono fun _ _ ⟨he, hd⟩ => ⟨he, fk_done h2 h3 h4 hd⟩
theorem fk_room (n : Int) (h : Fk K w0 w p s) :
    Calls Try.prog 19 #[.pointer (some ⟨p, 0, none⟩), .int .i64 n] w fun e w' => e = .returned (.tuple #[]) ∧ Fk K w0 w' p { s with room := held n } ∧ Kept K w w' := by
  obtain ⟨mb, V, F, h1, h2, h3, h4⟩ := h
  exact (froom_any n w p mb V F s h1).mono fun _ _ ⟨he, ha, hg⟩ => ⟨he, fk_done h2 h3 h4 ⟨F, ⟨mb, V, ha⟩, Frm.grown hg h1.fp⟩⟩
theorem fk_cut (n : Int) (h : Fk K w0 w p s) (hn : n ≤ 9223372036854775807) :
    Calls Try.prog 21 #[.pointer (some ⟨p, 0, none⟩), .int .i64 n] w fun e w' => e = .returned (.tuple #[]) ∧ Fk K w0 w' p { s with cut := max n 0 } ∧ Kept K w w' := by
  obtain ⟨mb, V, F, h1, h2, h3, h4⟩ := h
  exact (fcut_any n w p mb V F s h1 hn).mono fun _ _ ⟨he, ha, hg⟩ => ⟨he, fk_done h2 h3 h4 ⟨F, ⟨mb, V, ha⟩, Frm.grown hg h1.fp⟩⟩
/-- What lies in blocks of K is kept. -/
theorem Bytes.kept {v : Value} {l : List Nat} (h : Bytes w v l) (hk : Kept K w w') (hv : ∀ k, v.ownBlock = some k → K k) : Bytes w' v l := h.same fun k _ e => hk.2 k (hv k e)
theorem RdG.kept {v : Value} {R : List (List Nat × Int)} (h : RdG w v R) (hk : Kept K w w') (hv : ∀ k, v.ownBlock = some k → K k) : RdG w' v R := by
  obtain ⟨A, c, rfl, h1, h2, h3⟩ := h
  refine ⟨A, c, rfl, h1, h2, fun h0 => ?_⟩
  obtain ⟨b, off, rfl, hc⟩ := h3 h0
  exact ⟨b, off, rfl, fun k hk' => ⟨(World.cell?_of_block (hk.2 b (hv b rfl))).trans (hc k hk').1, (World.cell?_of_block (hk.2 b (hv b rfl))).trans (hc k hk').2⟩⟩
end Go.Proofs.Ytlfgadcfjjjbfaa
