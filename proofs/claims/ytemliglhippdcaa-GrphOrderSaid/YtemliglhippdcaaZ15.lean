/- A range over a function whose rounds all go on: what the iterator owes, what the loop's body owes; a region that asks the tape within a round. -/
import Derived.Test.YtemliglhippdcaaBytes
import Derived.RangeFuncNested
import Derived.RangeFuncCalls
import Derived.RangeFuncLeaves
import Derived.Shelf.Abstract
import Derived.OwnWalkIn
import Derived.TacticsInMore
import Derived.LoopNIn
import Derived.LoopIn
import Derived.BigQuiet
import Derived.Deep.QuietTactic
import Derived.StillTailTactics
namespace Go.Proofs.Ytemliglhippdcaa
set_option maxRecDepth 100000
open Go.ChangeShapes Go.WideShapes Go.ChangeAt Go.RowKit Go.Shelf

/-- The blocks from lo to hi lie as they lay. -/
structure Keeps (lo hi : Nat) (A B : World) : Prop where
  size : A.heap.size ≤ B.heap.size
  block : ∀ k, lo ≤ k → k < hi → B.heap[k]? = A.heap[k]?
theorem Keeps.refl (lo hi : Nat) (A : World) : Keeps lo hi A A := ⟨Nat.le_refl _, fun _ _ _ => rfl⟩
theorem Keeps.trans {lo hi : Nat} {A B C : World} (h : Keeps lo hi A B) (k : Keeps lo hi B C) : Keeps lo hi A C := ⟨Nat.le_trans h.size k.size, fun i h1 h2 => (k.block i h1 h2).trans (h.block i h1 h2)⟩
theorem Keeps.under {lo hi : Nat} {A B : World} (h : Below A.heap.size A B) (hh : hi ≤ A.heap.size) : Keeps lo hi A B := ⟨h.size, fun k _ h2 => h.block k (by omega)⟩
theorem Keeps.grown {lo hi : Nat} {A B : World} {row : Option Nat} (h : A.grownBy B row) (hh : hi ≤ A.heap.size) (hr : ∀ r, row = some r → ¬ (lo ≤ r ∧ r < hi)) : Keeps lo hi A B :=
  ⟨h.size, fun k h1 h2 => h.block k (by omega) fun e => hr k e.symm ⟨h1, h2⟩⟩
theorem Keeps.setCell {lo hi : Nat} (A : World) {p : Addr} (u : Value) (h : ¬ (lo ≤ p.block ∧ p.block < hi)) : Keeps lo hi A (A.setCell p u) :=
  ⟨by simp, fun k h1 h2 => Below.heap_setCell A p u k (by intro e; subst e; exact h ⟨h1, h2⟩)⟩
theorem Keeps.heap {lo hi : Nat} {A B C : World} (h : Keeps lo hi A B) (e : C.heap = B.heap) : Keeps lo hi A C := ⟨by rw [e]; exact h.size, fun k h1 h2 => by rw [e]; exact h.block k h1 h2⟩
theorem KeepsFrom.heap {B : Nat} {X Y Z : World} (h : KeepsFrom B X Y) (e : Z.heap = Y.heap) : KeepsFrom B X Z := ⟨by rw [e]; exact h.size, fun k o h1 h2 h3 => by rw [e]; exact h.same k o h1 h2 h3⟩

/-- What an iterator owes that hands over N things, each as Ok says, and asks that the blocks from lo to hi lie as they lay. -/
def Iter (P : Program) (gf : Nat) (lb : Array Value) {α : Type} (encs : α → Array Value) (N : Nat) (Ok : Nat → α → World → Prop) (lo hi : Nat) (w0 : World) : Prop :=
  ∀ (l : Nat) (J : Nat → World → Prop) (W : World), Keeps lo hi w0 W → (∀ k A B, J k A → Below A.heap.size A B → J k B) →
    (∀ k x W1, k < N → J k W1 → Ok k x W1 → YieldAt Fence.wide 0 P l (encs x) W1 fun e W' => e = .returned (.bool true) ∧ J (k + 1) W' ∧ Keeps lo hi W1 W') →
    J 0 W → CallsIn Fence.wide 0 P gf (#[.func (.yield l) #[] #[]] ++ lb) W fun e W' => (∃ v, e = .returned v) ∧ J N W'

/-- What a round owes. -/
def roundEnd (B lo hi : Nat) (J : World → Prop) (W : World) : Exit → Act → World → Prop
  | .normal, _, W' => KeepsFrom B W W' ∧ Keeps lo hi W W' ∧ J W'
  | _, _, _ => False

theorem grownBy_under {A B : World} (h : Below A.heap.size A B) : A.grownBy B none := ⟨h.os, h.tape, h.output, h.size, fun k hk _ => h.block k hk⟩

theorem wp_range {P : Program} {gf : Nat} {lb : Array Value} {g : Operand} {ps : Array Tmp} {assign body : Code} {Q : Exit → Act → World → Prop} {a : Act} {w : World} {α : Type} {encs : α → Array Value} {N lo hi : Nat}
    {Ok : Nat → α → World → Prop} {w0 : World} (hg : a.eval g = .func (.func gf) #[] lb) (eg : ∀ args w, (callFunc gf args).run P w = .ok (.enter gf args) w)
    (hseq : Iter P gf lb encs N Ok lo hi w0) (hk0 : Keeps lo hi w0 w) (hhi : hi ≤ w.heap.size) (hps : ∀ x, (encs x).size = ps.size)
    (hOk : ∀ k x A B r, Ok k x A → A.grownBy B (some r) → (∃ o : Obj, A.heap[r]? = some o ∧ o.isCells = false) → Ok k x B)
    (I : Nat → World → Prop) (hI : OwnFrom w.heap.size I) (h0 : I 0 w) (a₁ : α → Act)
    (hassign : ∀ (l : Nat) (x : α) (W : World) (K : Act → World → Prop), K (a₁ x) W →
      assign.wpIn (Fence.wide.inRound l) 0 P (Exit.then K (fun _ _ _ => False)) { tmps := (ps.zip (encs x)).foldl (fun t (p, v) => t.setIfInBounds p v) a.tmps, defers := [] } W)
    (hbody : ∀ (l k : Nat) (x : α) (W : World), k < N → I k W → Ok k x W → w.heap.size ≤ W.heap.size → body.wpIn (Fence.wide.inRound l) 0 P (roundEnd w.heap.size lo hi (I (k + 1)) W) (a₁ x) W)
    (hdone : ∀ (D : Nat) (W : World), w.heap.size ≤ D → I N W → W.heap[D]? = some (.deferred (some [])) → Q .normal { a with defers := { target := .collected D, args := #[] } :: a.defers } W) :
    (Code.rangeFunc g ps assign body).wp P Q a w := by
  refine (wpIn_wide (n := 0)).1 (wpIn_rangeFunc fun fn hfn => ?_)
  obtain ⟨D, hD⟩ : ∃ D, D = w.heap.size := ⟨_, rfl⟩
  obtain ⟨rd, hrd⟩ : ∃ rd : Loop, rd = { state := .ready, pending := none, fn, tmps := a.tmps, params := ps, assign, body, defers := w.heap.size } := ⟨_, rfl⟩
  obtain ⟨W1, hW1⟩ : ∃ W1, W1 = (w.alloc (.deferred (some []))).alloc (.loop rd) := ⟨_, rfl⟩
  have hb1 : Below w.heap.size w W1 := by subst hW1; exact ((Below.refl _ w).alloc (Nat.le_refl _) _).alloc (by simp) _
  have hL : W1.heap[D + 1]? = some (.loop rd) := by
    subst hW1 hD
    have := World.alloc_heap_new (w.alloc (.deferred (some []))) (.loop rd)
    rwa [World.size_alloc] at this
  have hM : W1.heap[D]? = some (.deferred (some [])) := by
    subst hW1 hD
    exact (Below.heap_alloc _ _ _ (by simp)).trans (World.alloc_heap_new w _)
  refine ⟨D + 1, [{ target := .collected D, args := #[] }], W1, { target := .fn (.func gf) lb, args := #[.func (.yield (D + 1)) #[] #[]] }, W1, gf, #[.func (.yield (D + 1)) #[] #[]] ++ lb, W1, ?_, ?_, fun _ _ => trivial, ?_, ?_, ?_⟩
  · subst hW1 hD hrd
    exact run_enterLoop_outer _ _ _ _ _
  · simp only [resolve, hg]
    simp [go_sem]
  · simp [invoke, go_sem, eg]
  · intro h
    simp [Fence.wide] at h
  · have put : ∀ {k : Nat} {A : World} {r : Loop} (s : Loop), I k A → A.heap[D + 1]? = some (.loop r) → I k (A.putObj (D + 1) (.loop s)) := fun s hi hl => hI.putObj _ hi (by omega) hl rfl
    refine (hseq (D + 1) (fun k W => I k W ∧ w.heap.size ≤ W.heap.size ∧ W.heap[D + 1]? = some (.loop rd) ∧ W.heap[D]? = some (.deferred (some []))) W1 (hk0.trans (Keeps.under hb1 hhi))
      (fun k A B hJ hb => ⟨hI _ _ _ _ hJ.1 (grownBy_under hb) (by simp), Nat.le_trans hJ.2.1 hb.size, (hb.block _ (Array.getElem?_eq_some_iff.1 hJ.2.2.1).1).trans hJ.2.2.1, (hb.block _ (Array.getElem?_eq_some_iff.1 hJ.2.2.2).1).trans hJ.2.2.2⟩)
      ?_ ⟨hI _ _ _ _ h0 (grownBy_under hb1) (by simp), hb1.size, hL, hM⟩).mono ?_
    · rintro k x W hk ⟨hik, hz, hl, hm⟩ ho
      have hlt := (Array.getElem?_eq_some_iff.1 hl).1
      have hy := run_yield (P := P) (args := encs x) hl (by rw [hrd]; exact hps x)
      rw [hrd] at hy
      refine ⟨fn, _, assign, body, hy, roundIn_of_wpIn hfn (hassign _ x W _ ⟨_, run_beginRound hl (by rw [hrd]), ?_⟩)⟩
      have hl2 : (W.putObj (D + 1) (.loop { rd with state := .busy })).heap[D + 1]? = some (.loop { rd with state := .busy }) := World.putObj_heap_same hlt
      have hm2 : (W.putObj (D + 1) (.loop { rd with state := .busy })).heap[D]? = some (.deferred (some [])) := (World.putObj_heap_other (by omega)).trans hm
      have kp : ∀ (A : World) (s : Loop), Keeps lo hi A (A.putObj (D + 1) (.loop s)) := fun A s => ⟨by simp, fun j _ hj => World.putObj_heap_other (by omega)⟩
      refine wpIn_mono (hbody _ k x _ hk (put _ hik hl) (hOk k x _ _ _ ho (grownBy_putObj' W _ _) ⟨_, hl, rfl⟩) (by simpa using hz)) ?_
      rintro e a3 W3 hp
      cases e with
      | normal =>
        obtain ⟨hkf, hkp, hi3⟩ := hp
        have hl3 := hkf.same _ _ (by omega) hl2 rfl
        have hm3 := hkf.same _ _ (by omega) hm2 rfl
        have hz3 : w.heap.size ≤ W3.heap.size := by have := hkf.size; simp at this; omega
        refine ⟨_, _, run_endRound (P := P) none hl3, rfl, ⟨put _ hi3 hl3, by simpa using hz3, ?_, (World.putObj_heap_other (by omega)).trans hm3⟩, ((kp W _).trans hkp).trans (kp W3 _)⟩
        rw [World.putObj_heap_same (Array.getElem?_eq_some_iff.1 hl3).1, hrd]
        rfl
      | ret => exact hp.elim
      | exit id => exact hp.elim
      | goto t => exact hp.elim
      | panic c => exact hp.elim
      | outgrown => exact hp.elim
    · rintro e W2 ⟨⟨v, rfl⟩, hi, _, hl, hm⟩
      refine ⟨none, _, ?_, hdone D _ (by omega) (put { rd with state := .exhausted } hi hl) ((World.putObj_heap_other (by omega)).trans hm)⟩
      have := run_endLoop (P := P) hl (by rw [hrd]; simp)
      rw [this, hrd]

/-- An operation that holds outside of rounds, and is no 'defer', holds within one. -/
theorem wpIn_of_wp_op {P : Program} {o : Oper} {a : Act} {w : World} {K K' : Act → World → Prop} {Q : Exit → Act → World → Prop} {l : Nat} (hd : ∀ c, o.op ≠ .defer c) (hK : ∀ a w, K a w → K' a w) (h : o.wp P a w K Q) :
    o.wpIn (Fence.wide.inRound l) 0 P a w K' Q := by
  refine ⟨fun _ _ => trivial, ?_⟩
  rw [Oper.semAt_eq _ _ _ hd]
  have h' := Oper.wp_mono hK h
  unfold Oper.wp at h'
  generalize (execOp a.eval o).run P w = r at h' ⊢
  have none : (Fence.wide.inRound l).depth.isSome = true → 1 ≤ 0 := fun e => by simp [Fence.wide, Fence.inRound] at e
  cases r with
  | ok x w' =>
    cases x with
    | value v => exact h'
    | skip => exact h'
    | defer d => exact h'
    | enter f args => exact ⟨none, CallsIn.inRound l (callsIn_wide.2 h')⟩
    | row r args =>
      refine ⟨none, fun c cs _ => ?_⟩
      obtain ⟨v, w2, hR, hs⟩ := h' c cs
      exact ⟨v, w2, hR, stepsIn_wide.2 hs⟩
    | _ => exact h'.elim
  | halt x w' => cases x <;> first | exact h' | exact h'.elim

theorem wpAnyIn_of_wpAny {P : Program} {md : Region.Mode} {ops : Array Oper} {Q : Exit → Act → World → Prop} {l : Nat} (hd : ∀ (j : Nat) (o : Oper) (c : Call), ops[j]? = some o → o.op ≠ .defer c) (hq : ¬ LetsOut Q) :
    ∀ (fuel : Nat) (listed : Array Bool) (a : Act) (w : World), wpAny P md ops Q fuel listed a w → wpAnyIn (Fence.wide.inRound l) 0 P md ops Q fuel listed a w
  | 0, _, _, _, h => h
  | fuel + 1, listed, a, w, h => by
    refine ⟨h.1, fun i hi => ?_⟩
    have h2 := h.2 i hi
    unfold wpOp at h2
    unfold wpOpIn
    rcases ho : ops[i]? with _ | o
    · rw [ho] at h2
      exact wpAnyIn_of_wpAny hd hq fuel _ _ _ h2
    · rw [ho] at h2
      simp only at h2 ⊢
      by_cases hw : Region.wanted o (yielded ops a.tmps) = true
      · rw [if_pos hw] at h2 ⊢
        rcases h2 with h2 | h2
        · exact wpIn_of_wp_op (fun c => hd i o c ho) (fun a w h => wpAnyIn_of_wpAny hd hq fuel _ _ _ h) h2
        · exact absurd h2.2 hq
      · rw [if_neg hw] at h2 ⊢
        exact ⟨fun _ _ => trivial, wpAnyIn_of_wpAny hd hq fuel _ _ _ h2⟩

/-- No operation is a 'defer'. -/
def noDefer (ops : Array Oper) : Bool := ops.all fun o => match o.op with | .defer .. => false | _ => true
theorem noDefer_spec {ops : Array Oper} (h : noDefer ops = true) (j : Nat) (o : Oper) (c : Call) (ho : ops[j]? = some o) : o.op ≠ .defer c := by
  intro e
  have hm : o ∈ ops := Array.mem_of_getElem? ho
  have := Array.all_eq_true_iff_forall_mem.1 h o hm
  rw [e] at this
  simp at this

/-- A region that asks the tape and only reads, within a round: one walk of the text's order. -/
theorem wpIn_region_quiet {P : Program} {id : Nat} {Q : Exit → Act → World → Prop} {a : Act} {w : World} {ops : List Oper} {l : Nat} (hm : P.follows .mixedOrders = true) (hB : Region.lexB .any ops.toArray = true) (hd : noDefer ops.toArray = true)
    (hq : ¬ LetsOut Q) (h : wpQuiet P ops.toArray (fun w' => ∃ n, w' = w.drewN n) (fun a' => ∀ w', (∃ n, w' = w.drewN n) → Q .normal a' w') ops a) : (Code.region id ops.toArray true).wpIn (Fence.wide.inRound l) 0 P Q a w := by
  simp only [Region.lexB, Bool.and_eq_true] at hB
  refine wpIn_region_any hm (wpAnyIn_of_wpAny (noDefer_spec hd) hq _ _ _ _ (wpAny_of_quiet (C := fun w' => ∃ n, w' = w.drewN n) (Q := fun a' => ∀ w', (∃ n, w' = w.drewN n) → Q .normal a' w') (fun _ w' hw' h => h w' hw') _ _ _ _ ⟨1, rfl⟩ ?_))
  have := wpAnyQ_lex (C := fun w' => ∃ n, w' = w.drewN n) (md := .any) hB.1 ops 0 (Array.replicate ops.toArray.size false) a (by simp) (by simpa using hB.2) h
  simpa using this

/-- A function value is not nil. -/
theorem run_eql_func_nil {P : Program} (w : World) {t : TypeId} {ps rs : Array TypeId} {v : Bool} (f : Fn) (a b : Array Value) (ht : P.underlying t = some (.func ps rs v)) :
    (binOp .eql t (.func f a b) .nilFunc).run P w = .ok (.bool false) w := by
  have h : ∀ d : Nat, (Op.equalIn (d + 1) t (.func f a b) .nilFunc).run P w = .ok false w := fun d => by
    simp [Op.equalIn, run_underlying ht]
  simp only [binOp]
  simp [Op.equal, Op.maxDepth, h 9999]

/-- What is asked at the end of a call that does not panic: so that a region which asks the tape does not look at the frame's slots at a panic. -/
def Calm (Q : Exit → Act → World → Prop) : Exit → Act → World → Prop
  | .panic _, _, _ => False
  | .outgrown, _, _ => False
  | .normal, a, w => Q .normal a w
  | .ret, a, w => Q .ret a w
  | .exit id, a, w => Q (.exit id) a w
  | .goto l, a, w => Q (.goto l) a w
theorem wp_calm {P : Program} {c : Code} {Q : Exit → Act → World → Prop} {a : Act} {w : World} (h : c.wp P (Calm Q) a w) : c.wp P Q a w :=
  Code.wp_mono (fun e a w q => by cases e <;> first | exact q | exact q.elim) h
end Go.Proofs.Ytemliglhippdcaa

/- A range over a function whose iterator turns memory of its own between two rounds; its rounds all go on. -/
namespace Go.Proofs.Ytemliglhippdcaa
set_option maxRecDepth 100000
open Go.ChangeShapes Go.WideShapes Go.ChangeAt Go.RowKit Go.Shelf

/-- What an iterator owes that hands over N things in turn: Inv k is asked of the world behind the k-th round, T k is what it does to the world ahead of the next one, TE what it does behind the last one. -/
def IterG (P : Program) (gf : Nat) (lb : Array Value) {α : Type} (encs : α → Array Value) (N : Nat) (xs : Nat → α) (Inv : Nat → World → Prop) (T : Nat → World → World → Prop) (TE : World → World → Prop) : Prop :=
  ∀ (l : Nat) (J M : Nat → World → Prop) (E : World → Prop) (W : World),
    (∀ k W, J k W → Inv k W) → (∀ k A B, k < N → J k A → T k A B → M k B) → (∀ A B, J N A → TE A B → E B) →
    (∀ k W1, k < N → M k W1 → YieldAt Fence.wide 0 P l (encs (xs k)) W1 fun e W' => e = .returned (.bool true) ∧ J (k + 1) W') →
    J 0 W → CallsIn Fence.wide 0 P gf (#[.func (.yield l) #[] #[]] ++ lb) W fun e W' => (∃ v, e = .returned v) ∧ E W'

/-- What a round owes. -/
def roundEndG (B : Nat) (J : World → Prop) (W : World) : Exit → Act → World → Prop
  | .normal, _, W' => KeepsFrom B W W' ∧ J W'
  | _, _, _ => False

theorem wp_rangeG {P : Program} {gf : Nat} {lb : Array Value} {g : Operand} {ps : Array Tmp} {assign body : Code} {Q : Exit → Act → World → Prop} {a : Act} {w : World} {α : Type} {encs : α → Array Value} {N : Nat} {xs : Nat → α}
    {Inv : Nat → World → Prop} {T : Nat → World → World → Prop} {TE : World → World → Prop} (hg : a.eval g = .func (.func gf) #[] lb) (eg : ∀ args w, (callFunc gf args).run P w = .ok (.enter gf args) w)
    (hseq : IterG P gf lb encs N xs Inv T TE) (hps : ∀ x, (encs x).size = ps.size)
    (I M : Nat → World → Prop) (E : World → Prop) (hI : OwnFrom w.heap.size I) (hE : OwnFrom w.heap.size (fun (_ : Unit) W => E W))
    (hInv : ∀ k W, I k W → Inv k W) (hT : ∀ k A B, k < N → I k A → T k A B → M k B ∧ KeepsFrom w.heap.size A B) (hTE : ∀ A B, I N A → TE A B → E B ∧ KeepsFrom w.heap.size A B)
    (h0 : I 0 w) (M2 : Nat × Act → World → Prop) (hM2 : OwnFrom w.heap.size M2)
    (hassign : ∀ (l k : Nat) (W : World) (K : Act → World → Prop), k < N → M k W → w.heap.size ≤ W.heap.size → (∀ a' W', KeepsFrom w.heap.size W W' → M2 (k, a') W' → K a' W') →
      assign.wpIn (Fence.wide.inRound l) 0 P (Exit.then K (fun _ _ _ => False)) { tmps := (ps.zip (encs (xs k))).foldl (fun t (p, v) => t.setIfInBounds p v) a.tmps, defers := [] } W)
    (hbody : ∀ (l k : Nat) (a' : Act) (W : World), k < N → M2 (k, a') W → w.heap.size ≤ W.heap.size → body.wpIn (Fence.wide.inRound l) 0 P (roundEndG w.heap.size (I (k + 1)) W) a' W)
    (hdone : ∀ (D : Nat) (W : World), w.heap.size ≤ D → E W → W.heap[D]? = some (.deferred (some [])) → Q .normal { a with defers := { target := .collected D, args := #[] } :: a.defers } W) :
    (Code.rangeFunc g ps assign body).wp P Q a w := by
  refine (wpIn_wide (n := 0)).1 (wpIn_rangeFunc fun fn hfn => ?_)
  obtain ⟨D, hD⟩ : ∃ D, D = w.heap.size := ⟨_, rfl⟩
  obtain ⟨rd, hrd⟩ : ∃ rd : Loop, rd = { state := .ready, pending := none, fn, tmps := a.tmps, params := ps, assign, body, defers := w.heap.size } := ⟨_, rfl⟩
  obtain ⟨W1, hW1⟩ : ∃ W1, W1 = (w.alloc (.deferred (some []))).alloc (.loop rd) := ⟨_, rfl⟩
  have hb1 : Below w.heap.size w W1 := by subst hW1; exact ((Below.refl _ w).alloc (Nat.le_refl _) _).alloc (by simp) _
  have hL : W1.heap[D + 1]? = some (.loop rd) := by
    subst hW1 hD
    have := World.alloc_heap_new (w.alloc (.deferred (some []))) (.loop rd)
    rwa [World.size_alloc] at this
  have hM1 : W1.heap[D]? = some (.deferred (some [])) := by
    subst hW1 hD
    exact (Below.heap_alloc _ _ _ (by simp)).trans (World.alloc_heap_new w _)
  refine ⟨D + 1, [{ target := .collected D, args := #[] }], W1, { target := .fn (.func gf) lb, args := #[.func (.yield (D + 1)) #[] #[]] }, W1, gf, #[.func (.yield (D + 1)) #[] #[]] ++ lb, W1, ?_, ?_, fun _ _ => trivial, ?_, ?_, ?_⟩
  · subst hW1 hD hrd
    exact run_enterLoop_outer _ _ _ _ _
  · simp only [resolve, hg]
    simp [go_sem]
  · simp [invoke, go_sem, eg]
  · intro h
    simp [Fence.wide] at h
  · have put : ∀ {k : Nat} {A : World} {r : Loop} (s : Loop), I k A → A.heap[D + 1]? = some (.loop r) → I k (A.putObj (D + 1) (.loop s)) := fun s hi hl => hI.putObj _ hi (by omega) hl rfl
    have putE : ∀ {A : World} {r : Loop} (s : Loop), E A → A.heap[D + 1]? = some (.loop r) → E (A.putObj (D + 1) (.loop s)) := fun s hi hl => hE.putObj (s := ()) _ hi (by omega) hl rfl
    have keep : ∀ {A B : World}, KeepsFrom w.heap.size A B → w.heap.size ≤ A.heap.size ∧ A.heap[D + 1]? = some (.loop rd) ∧ A.heap[D]? = some (.deferred (some [])) → w.heap.size ≤ B.heap.size ∧ B.heap[D + 1]? = some (.loop rd) ∧ B.heap[D]? = some (.deferred (some [])) := fun hk h =>
      ⟨Nat.le_trans h.1 hk.size, hk.same _ _ (by omega) h.2.1 rfl, hk.same _ _ (by omega) h.2.2 rfl⟩
    refine (hseq (D + 1) (fun k W => I k W ∧ w.heap.size ≤ W.heap.size ∧ W.heap[D + 1]? = some (.loop rd) ∧ W.heap[D]? = some (.deferred (some [])))
      (fun k W => M k W ∧ w.heap.size ≤ W.heap.size ∧ W.heap[D + 1]? = some (.loop rd) ∧ W.heap[D]? = some (.deferred (some [])))
      (fun W => E W ∧ w.heap.size ≤ W.heap.size ∧ W.heap[D + 1]? = some (.loop rd) ∧ W.heap[D]? = some (.deferred (some []))) W1
      (fun k W h => hInv k W h.1) (fun k A B hk h ht => ⟨(hT k A B hk h.1 ht).1, keep (hT k A B hk h.1 ht).2 h.2⟩) (fun A B h ht => ⟨(hTE A B h.1 ht).1, keep (hTE A B h.1 ht).2 h.2⟩)
      ?_ ⟨hI _ _ _ _ h0 (grownBy_under hb1) (by simp), hb1.size, hL, hM1⟩).mono ?_
    · rintro k W hk ⟨hik, hz, hl, hm⟩
      have hlt := (Array.getElem?_eq_some_iff.1 hl).1
      have hy := run_yield (P := P) (args := encs (xs k)) hl (by rw [hrd]; exact hps (xs k))
      rw [hrd] at hy
      refine ⟨fn, _, assign, body, hy, roundIn_of_wpIn hfn (hassign _ k W _ hk hik hz ?_)⟩
      clear hy
      intro a' Wa hkfa hia
      replace hl := hkfa.same _ _ (by omega) hl rfl
      replace hm := hkfa.same _ _ (by omega) hm rfl
      replace hz : w.heap.size ≤ Wa.heap.size := Nat.le_trans hz hkfa.size
      replace hlt := (Array.getElem?_eq_some_iff.1 hl).1
      clear hik hkfa
      revert hia hl hm hz hlt
      generalize Wa = W
      intro hia hl hm hz hlt
      refine ⟨_, run_beginRound hl (by rw [hrd]), ?_⟩
      have hl2 : (W.putObj (D + 1) (.loop { rd with state := .busy })).heap[D + 1]? = some (.loop { rd with state := .busy }) := World.putObj_heap_same hlt
      have hm2 : (W.putObj (D + 1) (.loop { rd with state := .busy })).heap[D]? = some (.deferred (some [])) := (World.putObj_heap_other (by omega)).trans hm
      refine wpIn_mono (hbody _ k a' _ hk (hM2.putObj (s := (k, a')) _ hia (by omega) hl rfl) (by simpa using hz)) ?_
      rintro e a3 W3 hp
      cases e with
      | normal =>
        obtain ⟨hkf, hi3⟩ := hp
        have hl3 := hkf.same _ _ (by omega) hl2 rfl
        have hm3 := hkf.same _ _ (by omega) hm2 rfl
        have hz3 : w.heap.size ≤ W3.heap.size := by have := hkf.size; simp at this; omega
        refine ⟨_, _, run_endRound (P := P) none hl3, rfl, put _ hi3 hl3, by simpa using hz3, ?_, (World.putObj_heap_other (by omega)).trans hm3⟩
        rw [World.putObj_heap_same (Array.getElem?_eq_some_iff.1 hl3).1, hrd]
        rfl
      | ret => exact hp.elim
      | exit id => exact hp.elim
      | goto t => exact hp.elim
      | panic c => exact hp.elim
      | outgrown => exact hp.elim
    · rintro e W2 ⟨⟨v, rfl⟩, hi, _, hl, hm⟩
      refine ⟨none, _, ?_, hdone D _ (by omega) (putE { rd with state := .exhausted } hi hl) ((World.putObj_heap_other (by omega)).trans hm)⟩
      have := run_endLoop (P := P) hl (by rw [hrd]; simp)
      rw [this, hrd]
end Go.Proofs.Ytemliglhippdcaa

/- What a block of another kind that is turned leaves alone. -/
namespace Go.Proofs.Ytemliglhippdcaa
set_option maxRecDepth 100000
open Go.ChangeShapes Go.WideShapes Go.ChangeAt Go.RowKit Go.Shelf

theorem Blk.kept {w w' : World} {g : Nat} {t : TypeId} {cs : Array Value} {row : Option Nat} (h : Blk w g t cs) (hg : w.grownBy w' row) (hr : ∀ r, row = some r → ∃ o : Obj, w.heap[r]? = some o ∧ o.isCells = false) : Blk w' g t cs :=
  h.grown hg fun e => by
    obtain ⟨o, ho, hc⟩ := hr g e.symm
    rw [show w.heap[g]? = some (.cells cs t (0, 0)) from h] at ho
    injection ho with ho
    rw [← ho] at hc
    cases hc
theorem Below.keptFrom {w0 w w' : World} {row : Option Nat} (h : Below w0.heap.size w0 w) (hg : w.grownBy w' row) (hr : ∀ r, row = some r → w0.heap.size ≤ r) : Below w0.heap.size w0 w' :=
  h.grown hg h.size hr

/-- What lies in a row of the call's own is no block of another kind. -/
theorem own_cells {w : World} {base n : Nat} {e : TypeId} {sz : Nat} {v : Value} {xs : List Value} (h : w.ownsRow base e sz v n xs) : ∀ (j : Nat) (o : Obj), v.ownBlock = some j → w.heap[j]? = some o → o.isCells = true := by
  intro j o hj ho
  rcases h.2 with ⟨rfl, _⟩ | ⟨g, cap, cur, rfl, _, hg, _⟩
  · simp [Value.ownBlock] at hj
  · simp [Value.ownBlock] at hj
    subst hj
    rw [hg] at ho
    injection ho with ho
    rw [← ho]
    rfl
end Go.Proofs.Ytemliglhippdcaa

/- Within a round: a region that asks the tape, its head only reading, its tail walked in the text's order. -/
namespace Go.Proofs.Ytemliglhippdcaa
set_option maxRecDepth 100000
open Go.ChangeShapes Go.WideShapes Go.ChangeAt Go.RowKit Go.Shelf

theorem wpIn_region_still_tail {P : Program} {id : Nat} {Q : Exit → Act → World → Prop} {a : Act} {w : World} {l : List Oper} {lp : Nat} (n : Nat) (hm : P.follows .mixedOrders = true) (hB : Region.lexTailB .any l.toArray n = true) (hd : noDefer l.toArray = true)
    (hq : ¬ LetsOut Q) (h : wpStill P l.toArray w.drew (fun a' => wpList P l.toArray Q (l.drop n) a' w.drew) (l.take n) a) : (Code.region id l.toArray true).wpIn (Fence.wide.inRound lp) 0 P Q a w := by
  simp only [Region.lexTailB, Bool.and_eq_true, decide_eq_true_eq] at hB
  obtain ⟨⟨⟨⟨hsel, hn⟩, hs⟩, hc⟩, hlex⟩ := hB
  have hn' : n < l.length := by simpa using hn
  have htl : (l.take n).length = n := by simp; omega
  have hdl : (l.drop n).length = l.toArray.size - n := by simp
  have inv0 : HeadInv .any l.toArray n (Array.replicate l.toArray.size false) :=
    ⟨by simp, fun j oj _ hl => (by rw [getD_replicate_false] at hl; cases hl), fun t _ ht => getD_in (by simpa using ht) (getD_replicate_false _ _)⟩
  have H := wpAnyL_lex (md := .any) (g := l.toArray.size - n) hsel hs hc hn (l.take n) 0 _ a (fun j hj => by
    have hj' : j < n := by rw [htl] at hj; exact hj
    simp [hj']) (by simpa using htl) inv0 (by rw [htl]; exact hlex) h
  refine wpIn_region_any hm (wpAnyIn_of_wpAny (noDefer_spec hd) hq _ _ _ _ ?_)
  have := wpAny_of_head (Q' := Q) (g := l.toArray.size - n) (fun listed a' hL => by
    have := wpAny_of_seq (md := .any) (Q' := Q) (l.drop n) n listed a' { w with drawn := w.drawn + 1 } (fun j => by simp [List.getElem?_drop]) (by rw [hdl]; exact hL.1) hL.2
    rwa [hdl] at this) _ _ _ H
  rw [htl, show n + (l.toArray.size - n) = l.toArray.size by omega] at this
  exact this
theorem wp_region_tail {P : Program} {id : Nat} {Q : Exit → Act → World → Prop} {a : Act} {w : World} {l : List Oper} (n : Nat) (hm : P.follows .mixedOrders = true) (hB : Region.lexTailB .any l.toArray n = true)
    (h : wpStill P l.toArray w.drew (fun a' => wpList P l.toArray Q (l.drop n) a' w.drew) (l.take n) a) : (Code.region id l.toArray true).wp P Q a w := wp_region_still_tail n hm hB h
end Go.Proofs.Ytemliglhippdcaa
