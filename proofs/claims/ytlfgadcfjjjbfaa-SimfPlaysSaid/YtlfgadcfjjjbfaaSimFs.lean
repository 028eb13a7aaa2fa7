/- Files in memory: a block of its own, a map from names to rows of bytes and stamps. -/
import Derived.Test.YtlfgadcfjjjbfaaSimMath
import Derived.Test.YtlfgadcfjjjbfaaMapRun
import Derived.Test.YtlfgadcfjjjbfaaTexts
namespace Go.Proofs.Ytlfgadcfjjjbfaa
set_option maxRecDepth 100000
open Go.ChangeShapes Go.WideShapes Go.ChangeAt Go.RowKit Go.ChangeMaps

namespace Sf
def elem (v : Value) (n : Nat) : Value := .agg #[v, .int .i64 (n : Int)]
def cells (mb : Nat) (s : S) : Array Value := #[.map (some mb), .int .i64 s.room, .int .i64 ((used s.l : Nat) : Int), .int .i64 (s.next : Int), .int .i64 s.cut]
/-- Files s lie at p, their map at mb, each one's bytes at V; F: the blocks that are theirs. Of the name in X the bytes are not held. -/
structure At (X : Option (List Nat)) (w : World) (p mb : Nat) (V : List Nat → Value) (F : Nat → Prop) (s : S) : Prop where
  blk : Blk w p 52 (cells mb s)
  map : MapIs w mb s.next fun t => (get s.l t).map fun x => elem (V t) x.stamp
  fp : F p
  fm : F mb
  ne : p ≠ mb
  lt : ∀ k, F k → k < w.heap.size
  own : ∀ t x, get s.l t = some x → X ≠ some t → Own w 0 (V t) x.b
  sl : ∀ t x, get s.l t = some x → ∃ A c, V t = .slice A x.b.length c
  mine : ∀ t x k, get s.l t = some x → (V t).ownBlock = some k → F k ∧ k ≠ p ∧ k ≠ mb
  apart : ∀ t u x y, get s.l t = some x → get s.l u = some y → t ≠ u → (V t).ownBlock = none ∨ (V t).ownBlock ≠ (V u).ownBlock
  good : Good s
/-- What calls on files leave: of other blocks nothing has turned. -/
structure Frm (F F' : Nat → Prop) (w w' : World) : Prop where
  os : w'.os = w.os
  tape : w'.tape = w.tape
  output : w'.output = w.output
  size : w.heap.size ≤ w'.heap.size
  block : ∀ k, k < w.heap.size → ¬ F k → w'.heap[k]? = w.heap[k]?
  more : ∀ k, F' k → F k ∨ w.heap.size ≤ k
theorem Frm.trans {F F' F'' : Nat → Prop} {w w' w'' : World} (h : Frm F F' w w') (k : Frm F' F'' w' w'') : Frm F F'' w w'' := by
  refine ⟨k.os.trans h.os, k.tape.trans h.tape, k.output.trans h.output, Nat.le_trans h.size k.size, fun i hi hF => ?_, fun i hi => ?_⟩
  · rw [k.block i (Nat.lt_of_lt_of_le hi h.size) fun e => ?_]
    · exact h.block i hi hF
    · rcases h.more i e with e | e
      · exact hF e
      · omega
  · rcases k.more i hi with e | e
    · exact h.more i e
    · exact .inr (Nat.le_trans h.size e)
theorem Frm.refl (F : Nat → Prop) (w : World) : Frm F F w w := ⟨rfl, rfl, rfl, Nat.le_refl _, fun _ _ _ => rfl, fun _ h => .inl h⟩
theorem Frm.under {F : Nat → Prop} {w w' : World} (h : Below w.heap.size w w') : Frm F F w w' := ⟨h.os, h.tape, h.output, h.size, fun k hk _ => h.block k hk, fun _ h => .inl h⟩
theorem Frm.grown {F : Nat → Prop} {w w' : World} {p : Nat} (h : w.grownBy w' (some p)) (hp : F p) : Frm F F w w' :=
  ⟨h.os, h.tape, h.output, h.size, fun k hk hF => h.block k hk fun e => hF (by injection e with e; rw [e]; exact hp), fun _ h => .inl h⟩
theorem Frm.below {F F' : Nat → Prop} {w w' : World} {B : Nat} (h : Frm F F' w w') (hF : ∀ k, F k → B ≤ k) (hB : B ≤ w.heap.size) : Below B w w' :=
  ⟨h.os, h.tape, h.output, h.size, fun k hk => h.block k (by omega) fun e => by have := hF k e; omega⟩
theorem Frm.out {F F' : Nat → Prop} {w w' : World} {B : Nat} (h : Frm F F' w w') (hF : ∀ k, F k → B ≤ k) (hB : B ≤ w.heap.size) : ∀ k, F' k → B ≤ k := fun k hk => by
  rcases h.more k hk with e | e
  · exact hF k e
  · omega
theorem Frm.not {F F' : Nat → Prop} {w w' : World} {k : Nat} (h : Frm F F' w w') (hF : ¬ F k) (hk : k < w.heap.size) : ¬ F' k := fun e => by
  rcases h.more k e with e | e
  · exact hF e
  · omega

variable {X : Option (List Nat)} {w w' : World} {p mb : Nat} {V : List Nat → Value} {F : Nat → Prop} {s : S}
theorem own_under {w w' : World} {base : Nat} {v : Value} {l : List Nat} (h : Own w base v l) (hk : ∀ k, v.ownBlock = some k → w'.heap[k]? = w.heap[k]?) : Own w' base v l := by
  obtain ⟨⟨h1, h2⟩, h3⟩ := h
  refine ⟨⟨h1, ?_⟩, h3⟩
  rcases h2 with h2 | ⟨g, cap, cur, rfl, hg, hb, rest⟩
  · exact .inl h2
  · exact .inr ⟨g, cap, cur, rfl, hg, (hk g rfl).trans hb, rest⟩
theorem At.same (h : At X w p mb V F s) (hs : w.heap.size ≤ w'.heap.size) (hb : ∀ k, F k → w'.heap[k]? = w.heap[k]?) : At X w' p mb V F s := by
  refine ⟨(hb p h.fp).trans h.blk, h.map.same (hb mb h.fm), h.fp, h.fm, h.ne, fun k hk => Nat.lt_of_lt_of_le (h.lt k hk) hs, fun t x hx hX => ?_, h.sl, h.mine, h.apart, h.good⟩
  have ho := h.own t x hx hX
  rcases hv : (V t).ownBlock with _ | k
  · exact own_under ho fun k e => by rw [hv] at e; cases e
  · exact own_under ho fun j e => hb j (h.mine t x j hx e).1
theorem At.under (h : At X w p mb V F s) (hb : Below w.heap.size w w') : At X w' p mb V F s := h.same hb.size fun k hk => hb.block k (h.lt k hk)
theorem At.alloc (h : At X w p mb V F s) (o : Obj) : At X (w.alloc o) p mb V F s := h.under ((Below.refl _ _).alloc (Nat.le_refl _) o)
theorem At.heap (h : At X w p mb V F s) {W : World} (e : W.heap = w.heap) : At X W p mb V F s := h.same (by rw [e]; exact Nat.le_refl _) fun k _ => by rw [e]
theorem At.weak (h : At none w p mb V F s) (t : List Nat) : At (some t) w p mb V F s := { h with own := fun u x hx _ => h.own u x hx (by simp) }
/-- The bytes under a name, or none. -/
def val (V : List Nat → Value) (l : List Fi) (t : List Nat) : Value := match get l t with | some _ => V t | none => .slice none 0 0
theorem At.ask (h : At X w p mb V F s) {t : List Nat} (ht : ∀ c ∈ t, c < 256) (hl : t.length ≤ 1048576) {T : TypeId} (hT : Try.prog.underlying T = some (.map 9 64)) :
    (Instr.lookup T (.map (some mb)) (.string (str t)) false).run Try.prog w = .ok (elem (val V s.l t) (stamp s.l t)) w := by
  have hz : (zeroValue 64).run Try.prog w = .ok (elem (.slice none 0 0) 0) w := by kernel_rfl
  obtain ⟨D, h1, h2⟩ := h.map
  obtain ⟨v, ps, hrun, hv⟩ := h1.lookup keyed hT hz (zd := .held (elem (.slice none 0 0) 0)) (zp := []) rfl (key_of t (by unfold maxLen; omega))
  rw [hrun]
  obtain ⟨e1, e2⟩ := h2 t ht
  dsimp only at e1 e2
  unfold heldR at hv
  injection hv with hv
  injection hv with hv _
  unfold val stamp
  rcases hf : get s.l t with _ | x
  · rw [hf] at e1
    rw [Maps.atKey_of_not_has e1] at hv
    injection hv with hv
    subst hv
    rfl
  · rw [hf] at e2
    rw [e2 (elem (V t) x.stamp) _ rfl] at hv
    injection hv with hv
    subst hv
    rfl
theorem At.askOk (h : At X w p mb V F s) {t : List Nat} (ht : ∀ c ∈ t, c < 256) (hl : t.length ≤ 1048576) {T : TypeId} (hT : Try.prog.underlying T = some (.map 9 64)) :
    (Instr.lookup T (.map (some mb)) (.string (str t)) true).run Try.prog w = .ok (.tuple #[elem (val V s.l t) (stamp s.l t), .bool (get s.l t).isSome]) w := by
  have hz : (zeroValue 64).run Try.prog w = .ok (elem (.slice none 0 0) 0) w := by kernel_rfl
  rw [h.map.run_look hT hz ht (by omega)]
  unfold val stamp
  rcases hf : get s.l t with _ | x <;> rfl
theorem At.valSl (h : At X w p mb V F s) (t : List Nat) : ∃ A c, val V s.l t = .slice A (bytes s.l t).length c := by
  unfold val bytes
  rcases hf : get s.l t with _ | x
  · exact ⟨none, 0, rfl⟩
  · exact h.sl t x hf
theorem At.valOwn (h : At none w p mb V F s) (t : List Nat) : Own w 0 (val V s.l t) (bytes s.l t) := by
  unfold val bytes
  rcases hf : get s.l t with _ | x
  · exact own_none w 0
  · exact h.own t x hf (by simp)
end Sf
end Go.Proofs.Ytlfgadcfjjjbfaa
