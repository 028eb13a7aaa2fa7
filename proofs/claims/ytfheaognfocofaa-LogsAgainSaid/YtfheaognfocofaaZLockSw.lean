/- Package lock: the row Put, Move, Drop of a lock that is written anew. -/
import Derived.Test.YtfheaognfocofaaZ11
import Derived.Test.YtfheaognfocofaaZReco
import Derived.Test.YtfheaognfocofaaZ12
import Derived.Test.YtfheaognfocofaaZ01
namespace Go.Proofs.Ytfheaognfocofaa
set_option maxRecDepth 100000
open Go.ChangeShapes Go.WideShapes Go.ChangeAt Go.RowKit Go.ChangeMaps
open Sf Lk

abbrev loV (x : Lo) : Value := lockV x.a x.b x.c x.d
/-- The cells of a lock's row, with what stands behind them. -/
def swC (x : Sw) (r : List Value) : List Value :=
  .string (str x.file) :: .int .i64 x.stamp :: .int .i64 x.lock.a :: .int .i64 x.lock.b :: .int .i64 x.lock.c :: .int .i64 x.lock.d :: .string (str x.temp) :: .int .i64 (x.next : Int) :: .int .i64 (x.told : Int) :: r
theorem blk_cell {w : World} {g : Nat} {ty : TypeId} {l : List Value} (h : Blk w g ty l.toArray) (i : Nat) {v : Value} (e : l[i]? = some v) : w.cell? ⟨g, i, none⟩ = some v := by rw [h.at i]; simpa using e
theorem blk_put {w : World} {g : Nat} {ty : TypeId} {l : List Value} (h : Blk w g ty l.toArray) (i : Nat) (v : Value) {l' : List Value} (e : l.set i v = l') : Blk (w.setCell ⟨g, i, none⟩ v) g ty l'.toArray := by
  subst e
  have := h.set i v
  simpa using this
theorem Kept.of_below {K : Nat → Prop} {w0 w w1 : World} {p : Nat} {s : S} (h : Fk K w0 w p s) (hb : Below w.heap.size w w1) : Kept K w w1 := ⟨hb.size, fun _ hk => hb.block _ (h.lt hk)⟩
theorem Kept.trans {K : Nat → Prop} {w w1 w2 : World} (h : Kept K w w1) (h2 : Kept K w1 w2) : Kept K w w2 := ⟨Nat.le_trans h.1 h2.1, fun k hk => (h2.2 k hk).trans (h.2 k hk)⟩
theorem Kept.less {K K' : Nat → Prop} {w w1 : World} (h : Kept K w w1) (hK : ∀ k, K' k → K k) : Kept K' w w1 := ⟨h.1, fun k hk => h.2 k (hK k hk)⟩
theorem Kept.but {K : Nat → Prop} {w w1 : World} {g : Nat} (h : Kept K w w1) : Kept (fun k => K k ∧ k ≠ g) w w1 := h.less fun _ hk => hk.1
theorem Kept.set (K : Nat → Prop) (w : World) (g i : Nat) (v : Value) : Kept (fun k => K k ∧ k ≠ g) w (w.setCell ⟨g, i, none⟩ v) := ⟨Nat.le_of_eq (by simp), fun k hk => Below.heap_setCell w _ v k (fun e => hk.2 e)⟩
theorem Kept.refl (K : Nat → Prop) (w : World) : Kept K w w := ⟨Nat.le_refl _, fun _ _ => rfl⟩
theorem Kept.blk {K : Nat → Prop} {w w1 : World} {g : Nat} {ty : TypeId} {l : Array Value} (h : Kept K w w1) (hg : K g) (hb : Blk w g ty l) : Blk w1 g ty l := (h.2 g hg).trans hb
theorem Fk.set {K : Nat → Prop} {w0 w : World} {p g : Nat} {s : S} (h : Fk K w0 w p s) (hg : K g) (hg0 : w0.heap.size ≤ g) (i : Nat) (v : Value) : Fk K w0 (w.setCell ⟨g, i, none⟩ v) p s :=
  h.turned hg hg0 (grown_setCell w ⟨g, i, none⟩ v) (fun k hk => Below.heap_setCell w _ v k (fun e => hk e))
/-- What a step comes to. -/
def StepIs (K : Nat → Prop) (w0 w : World) (p g : Nat) (ty : TypeId) (r : List Value) (R : S × Sw × Nat) (e : Ending) (w' : World) : Prop :=
  e = .returned (.int .i64 ((R.2.2 : Nat) : Int)) ∧ Fk K w0 w' p R.1 ∧ Blk w' g ty (swC R.2.1 r).toArray ∧ Kept (fun k => K k ∧ k ≠ g) w w'
theorem StepIs.of {K : Nat → Prop} {w0 w w' : World} {p g : Nat} {ty : TypeId} {r : List Value} {R : S × Sw × Nat} {e : Ending} {s : S} {x : Sw} {n : Nat} (hR : R = (s, x, n)) (he : e = .returned (.int .i64 (n : Int))) (hf : Fk K w0 w' p s) (hb : Blk w' g ty (swC x r).toArray) (hk : Kept (fun k => K k ∧ k ≠ g) w w') : StepIs K w0 w p g ty r R e w' := by
  subst hR
  exact ⟨he, hf, hb, hk⟩
theorem bput {w w1 : World} {B g : Nat} (h : Below B w w1) (hB : B ≤ w1.heap.size) (hg : B ≤ g) (i : Nat) (v : Value) : Below B w (w1.setCell ⟨g, i, none⟩ v) := h.grown (grown_setCell w1 ⟨g, i, none⟩ v) hB fun k hk => by injection hk with hk; rw [← hk]; exact hg
theorem natz {n : Nat} (h : n ≠ 0) : ((n : Int) != 0) = true := by simp [h]

theorem heap_alloc_new' (w : World) (o : Obj) {k : Nat} (h : k = w.heap.size) : (w.alloc o).heap[k]? = some o := by subst h; exact heap_alloc_new w o
theorem results_cct {P : Program} {fn : Func} {u p q : Tmp} {ty tz : TypeId} (h : fn.results = #[.cell p ty, .cell q tz, .tmp u]) (tmps : Array Value) (w : World) (g : Nat) (bt : TypeId) (cs : Array Value) (fr : Nat × Nat) (d : TypeDesc) (g2 : Nat) (bt2 : TypeId) (cs2 : Array Value) (fr2 : Nat × Nat) (d2 : TypeDesc)
    (hp : tmps.getD p undef = .pointer (some ⟨g, 0, none⟩)) (hg : w.heap[g]? = some (.cells cs bt fr)) (hq : tmps.getD q undef = .pointer (some ⟨g2, 0, none⟩)) (hg2 : w.heap[g2]? = some (.cells cs2 bt2 fr2))
    (hu : P.underlying ty = some d) (hd : (match d with | .struct _ | .array _ _ => true | _ => false) = true) (hi : (P.info? ty).map (·.size) = some cs.size)
    (hu2 : P.underlying tz = some d2) (hd2 : (match d2 with | .struct _ | .array _ _ => true | _ => false) = true) (hi2 : (P.info? tz).map (·.size) = some cs2.size) :
    (results fn tmps).run P w = .ok (.tuple #[.agg cs, .agg cs2, tmps.getD u undef]) w := by
  have hp' : tmps[p]?.getD undef = .pointer (some ⟨g, 0, none⟩) := by simpa using hp
  have hq' : tmps[q]?.getD undef = .pointer (some ⟨g2, 0, none⟩) := by simpa using hq
  simp [results, h, hp', hq', asAddr, run_loadVar_row w g bt ty cs fr d hg hu hd hi, run_loadVar_row w g2 bt2 tz cs2 fr2 d2 hg2 hu2 hd2 hi2]
abbrev guardV (t : List Nat) (k : Int) : Value := .agg #[.string (str t), .int .i64 k]
/-- What is told as held. -/
def heldV (t : List Nat) : Option (Int × Lo) → Value
  | some (k, l) => .tuple #[guardV t k, loV l, .bool true]
  | none => .tuple #[guardV [] 0, loV lo0, .bool false]
end Go.Proofs.Ytfheaognfocofaa
