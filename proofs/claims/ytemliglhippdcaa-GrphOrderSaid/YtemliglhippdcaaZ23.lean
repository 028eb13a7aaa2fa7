/- A range over a function whose iterator makes, and turns, blocks of its own between two rounds; its rounds go on, or leave. -/
import Derived.Test.YtemliglhippdcaaZ15
import Derived.Test.YtemliglhippdcaaZ06
import Derived.Test.YtemliglhippdcaaZ12
import Derived.Test.YtemliglhippdcaaZ00
import Derived.Deep.CutBlock
import Derived.Deep.LoopGhost
namespace Go.Proofs.Ytemliglhippdcaa
set_option maxRecDepth 100000
open Go.ChangeShapes Go.WideShapes Go.ChangeAt Go.RowKit Go.Shelf

/-- The iterator's blocks F, and those that are new from A to B. -/
def Fresh (F : Nat → Prop) (A B : World) : Nat → Prop := fun j => F j ∨ (A.heap.size ≤ j ∧ j < B.heap.size)
/-- The blocks of F lie as they lay. -/
def Lie (F : Nat → Prop) (A B : World) : Prop := A.heap.size ≤ B.heap.size ∧ ∀ j, F j → j < A.heap.size → B.heap[j]? = A.heap[j]?
/-- What an iterator owes that hands over N things in turn, reads the blocks F0 as they lay in w0, and turns none but its own, F. A round leaves F and F0 as they are; it goes on, or leaves. -/
def IterF (P : Program) (gf : Nat) (lb : Array Value) {α : Type} (encs : α → Array Value) (N : Nat) (xs : Nat → α) (F0 : Nat → Prop) (w0 : World) : Prop :=
  ∀ (l : Nat) (J : Nat → (Nat → Prop) → World → Prop) (E : World → Prop) (W : World),
    w0.heap.size ≤ W.heap.size → (∀ j, F0 j → W.heap[j]? = w0.heap[j]?) →
    (∀ k F A B, J k F A → Moves F A B → J k (Fresh F A B) B) →
    (∀ k F W1, k < N → J k F W1 → YieldAt Fence.wide 0 P l (encs (xs k)) W1 fun e W' => Lie (fun j => F j ∨ F0 j) W1 W' ∧ ((e = .returned (.bool true) ∧ J (k + 1) F W') ∨ (e = .returned (.bool false) ∧ E W'))) →
    J 0 (fun _ => False) W → CallsIn Fence.wide 0 P gf (#[.func (.yield l) #[] #[]] ++ lb) W fun e W' => (∃ v, e = .returned v) ∧ ((∃ F, J N F W') ∨ E W')

/-- What a round owes. -/
def roundEndH (B : Nat) (F : Nat → Prop) (brk : Nat) (I E : World → Prop) (W : World) : Exit → Act → World → Prop
  | .normal, _, W' => KeepsFrom B W W' ∧ Lie F W W' ∧ I W'
  | .exit id, _, W' => id = brk ∧ KeepsFrom B W W' ∧ Lie F W W' ∧ E W'
  | _, _, _ => False

theorem wp_rangeH {P : Program} {gf : Nat} {lb : Array Value} {g : Operand} {ps : Array Tmp} {assign body : Code} {Q : Exit → Act → World → Prop} {a : Act} {w : World} {α : Type} {encs : α → Array Value} {N : Nat} {xs : Nat → α} {F0 : Nat → Prop} {w0 : World}
    (brk : Nat) (hg : a.eval g = .func (.func gf) #[] lb) (eg : ∀ args w, (callFunc gf args).run P w = .ok (.enter gf args) w)
    (hseq : IterF P gf lb encs N xs F0 w0) (hs0 : w0.heap.size ≤ w.heap.size) (hF0 : ∀ j, F0 j → j < w.heap.size ∧ w.heap[j]? = w0.heap[j]?) (hps : ∀ x, (encs x).size = ps.size)
    (I : Nat → (Nat → Prop) → World → Prop) (E : World → Prop) (hI : ∀ F, OwnFrom w.heap.size (fun k W => I k F W)) (hE : OwnFrom w.heap.size (fun (_ : Unit) W => E W))
    (hmono : ∀ k F A B, (∀ j, F j → w.heap.size ≤ j) → I k F A → Moves F A B → I k (Fresh F A B) B)
    (h0 : I 0 (fun _ => False) w) (a₁ : α → Act)
    (hassign : ∀ (l : Nat) (x : α) (W : World) (K : Act → World → Prop), K (a₁ x) W →
      assign.wpIn (Fence.wide.inRound l) 0 P (Exit.then K (fun _ _ _ => False)) { tmps := (ps.zip (encs x)).foldl (fun t (p, v) => t.setIfInBounds p v) a.tmps, defers := [] } W)
    (hbody : ∀ (l k : Nat) (F : Nat → Prop) (W : World), k < N → (∀ j, F j → w.heap.size ≤ j) → I k F W → w.heap.size ≤ W.heap.size → body.wpIn (Fence.wide.inRound l) 0 P (roundEndH w.heap.size (fun j => F j ∨ F0 j) brk (I (k + 1) F) E W) (a₁ (xs k)) W)
    (hdone : ∀ (D : Nat) (F : Nat → Prop) (W : World), w.heap.size ≤ D → I N F W → W.heap[D]? = some (.deferred (some [])) → Q .normal { a with defers := { target := .collected D, args := #[] } :: a.defers } W)
    (hleft : ∀ (D : Nat) (W : World), w.heap.size ≤ D → E W → W.heap[D]? = some (.deferred (some [])) → Q (.exit brk) { a with defers := { target := .collected D, args := #[] } :: a.defers } W) :
    (Code.rangeFunc g ps assign body).wp P Q a w := by
  refine (wpIn_wide (n := 0)).1 (wpIn_rangeFunc fun fn hfn => ?_)
  obtain ⟨D, hD⟩ : ∃ D, D = w.heap.size := ⟨_, rfl⟩
  obtain ⟨rd, hrd⟩ : ∃ rd : Loop, rd = { state := .ready, pending := none, fn, tmps := a.tmps, params := ps, assign, body, defers := w.heap.size } := ⟨_, rfl⟩
  obtain ⟨W1, hW1⟩ : ∃ W1, W1 = (w.alloc (.deferred (some []))).alloc (.loop rd) := ⟨_, rfl⟩
  have hb1 : Below w.heap.size w W1 := by subst hW1; exact ((Below.refl _ w).alloc (Nat.le_refl _) _).alloc (by simp) _
  have hsz1 : W1.heap.size = D + 2 := by subst hW1 hD; simp
  have hL : W1.heap[D + 1]? = some (.loop rd) := by
    subst hW1 hD
    have := World.alloc_heap_new (w.alloc (.deferred (some []))) (.loop rd)
    rwa [World.size_alloc] at this
  have hM : W1.heap[D]? = some (.deferred (some [])) := by
    subst hW1 hD
    exact (Below.heap_alloc _ _ _ (by simp)).trans (World.alloc_heap_new w _)
  refine ⟨D + 1, [{ target := .collected D, args := #[] }], W1, { target := .fn (.func gf) lb, args := #[.func (.yield (D + 1)) #[] #[]] }, W1, gf, #[.func (.yield (D + 1)) #[] #[]] ++ lb, W1, ?_, ?_, fun _ _ => trivial, ?_, ?_, ?_⟩
  · subst hW1 hD hrd
    exact run_enterLoop_outer _ _ _ _ _
  · simp only [resolve, hg]
    simp [go_sem]
  · simp [invoke, go_sem, eg]
  · intro h
    simp [Fence.wide] at h
  · have put : ∀ {k : Nat} {F : Nat → Prop} {A : World} {r : Loop} (s : Loop), I k F A → A.heap[D + 1]? = some (.loop r) → I k F (A.putObj (D + 1) (.loop s)) := fun s hi hl => (hI _).putObj _ hi (by omega) hl rfl
    have putE : ∀ {A : World} {r : Loop} (s : Loop), E A → A.heap[D + 1]? = some (.loop r) → E (A.putObj (D + 1) (.loop s)) := fun s hi hl => hE.putObj (s := ()) _ hi (by omega) hl rfl
    refine (hseq (D + 1) (fun k F W => I k F W ∧ (∀ j, F j → D + 2 ≤ j) ∧ D + 2 ≤ W.heap.size ∧ W.heap[D + 1]? = some (.loop rd) ∧ W.heap[D]? = some (.deferred (some [])))
      (fun W => E W ∧ W.heap[D + 1]? = some (.loop { rd with state := .done, pending := some (.exit brk) }) ∧ W.heap[D]? = some (.deferred (some []))) W1 (Nat.le_trans hs0 hb1.size) (fun j hj => (hb1.block j (hF0 j hj).1).trans (hF0 j hj).2) ?_ ?_
      ⟨(hI _ _ _ _ none h0 (grownBy_under hb1) (by simp)), fun j hj => hj.elim, by omega, hL, hM⟩).mono ?_
    · rintro k F A B ⟨hik, hF, hz, hl, hm⟩ hmv
      refine ⟨hmono k F A B (fun j hj => by have := hF j hj; omega) hik hmv, fun j hj => ?_, Nat.le_trans hz hmv.size, (hmv.block _ (by omega) fun e => by have := hF _ e; omega).trans hl, (hmv.block _ (by omega) fun e => by have := hF _ e; omega).trans hm⟩
      rcases hj with hj | hj
      · exact hF j hj
      · omega
    · rintro k F W hk ⟨hik, hF, hz, hl, hm⟩
      have hlt := (Array.getElem?_eq_some_iff.1 hl).1
      have hy := run_yield (P := P) (args := encs (xs k)) hl (by rw [hrd]; exact hps (xs k))
      rw [hrd] at hy
      refine ⟨fn, _, assign, body, hy, roundIn_of_wpIn hfn (hassign _ (xs k) W _ ⟨_, run_beginRound hl (by rw [hrd]), ?_⟩)⟩
      have hl2 : (W.putObj (D + 1) (.loop { rd with state := .busy })).heap[D + 1]? = some (.loop { rd with state := .busy }) := World.putObj_heap_same hlt
      have hm2 : (W.putObj (D + 1) (.loop { rd with state := .busy })).heap[D]? = some (.deferred (some [])) := (World.putObj_heap_other (by omega)).trans hm
      have nF : ∀ j, (F j ∨ F0 j) → j ≠ D + 1 := fun j hj => by
        rcases hj with hj | hj
        · have := hF j hj; omega
        · have := (hF0 j hj).1; omega
      have lieP : ∀ (A : World) (s : Loop), Lie (fun j => F j ∨ F0 j) A (A.putObj (D + 1) (.loop s)) := fun A s => ⟨by simp, fun j hj _ => World.putObj_heap_other (nF j hj)⟩
      have lieT : ∀ {A B C : World}, Lie (fun j => F j ∨ F0 j) A B → Lie (fun j => F j ∨ F0 j) B C → Lie (fun j => F j ∨ F0 j) A C := fun h1 h2 => ⟨Nat.le_trans h1.1 h2.1, fun j hj hlt => (h2.2 j hj (Nat.lt_of_lt_of_le hlt h1.1)).trans (h1.2 j hj hlt)⟩
      refine wpIn_mono (hbody _ k F _ hk (fun j hj => by have := hF j hj; omega) (put _ hik hl) (by simp; omega)) ?_
      rintro e a3 W3 hp
      cases e with
      | normal =>
        obtain ⟨hkf, hlie, hi3⟩ := hp
        have hl3 := hkf.same _ _ (by omega) hl2 rfl
        have hm3 := hkf.same _ _ (by omega) hm2 rfl
        have hz3 : D + 2 ≤ W3.heap.size := by have := hkf.size; simp at this; omega
        refine ⟨_, _, run_endRound (P := P) none hl3, lieT (lieT (lieP W _) hlie) (lieP W3 _), .inl ⟨rfl, put _ hi3 hl3, hF, by simpa using hz3, ?_, (World.putObj_heap_other (by omega)).trans hm3⟩⟩
        rw [World.putObj_heap_same (Array.getElem?_eq_some_iff.1 hl3).1, hrd]
        rfl
      | exit id =>
        obtain ⟨rfl, hkf, hlie, he3⟩ := hp
        have hl3 := hkf.same _ _ (by omega) hl2 rfl
        have hm3 := hkf.same _ _ (by omega) hm2 rfl
        refine ⟨_, _, run_endRound (P := P) (some (.exit id)) hl3, lieT (lieT (lieP W _) hlie) (lieP W3 _), .inr ⟨rfl, putE _ he3 hl3, ?_, (World.putObj_heap_other (by omega)).trans hm3⟩⟩
        rw [World.putObj_heap_same (Array.getElem?_eq_some_iff.1 hl3).1, hrd]
        rfl
      | ret => exact hp.elim
      | goto t => exact hp.elim
      | panic c => exact hp.elim
      | outgrown => exact hp.elim
    · rintro e W2 ⟨⟨v, rfl⟩, hc⟩
      rcases hc with ⟨F, hi, _, _, hl, hm⟩ | ⟨he, hl, hm⟩
      · refine ⟨none, _, ?_, hdone D F _ (by omega) (put { rd with state := .exhausted } hi hl) ((World.putObj_heap_other (by omega)).trans hm)⟩
        have := run_endLoop (P := P) hl (by rw [hrd]; simp)
        rw [this, hrd]
      · refine ⟨some (.exit brk), _, run_endLoop (P := P) hl (by simp), ?_⟩
        refine wpIn_wide.2 ?_
        exact wp_exit (hleft D _ (by omega) (putE _ he hl) ((World.putObj_heap_other (by omega)).trans hm))
end Go.Proofs.Ytemliglhippdcaa

/- Package grph: all that is reached, one behind the other: the function value that goes through it. -/
namespace Go.Proofs.Ytemliglhippdcaa
set_option maxRecDepth 100000
open Go.ChangeShapes Go.WideShapes Go.ChangeAt Go.RowKit Go.Shelf

attribute [local go_sem] Oper.semAt_some

/-- An append of a row of ints onto one's own. -/
theorem run_append_ints {w : World} {base : Nat} {T ty : TypeId} (hT : Try.prog.underlying T = some (.slice 3)) {v vx : Value} {l m : List Nat} (hown : OwnI w base v l) (hx : RdN w vx m) (hlen : l.length + m.length ≤ 1099511627776) (hbase : base ≤ w.heap.size) :
    ∃ v' w', (Builtin.append_ #[T, T] ty #[v, vx]).run Try.prog w = .ok v' w' ∧ OwnI w' base v' (l ++ m) ∧ w.grownBy w' v.ownBlock ∧ (v'.ownBlock = v.ownBlock ∨ v'.ownBlock = some w.heap.size) := by
  obtain ⟨i, hi, hz0, hz1, hz2⟩ := info_parts infoInt
  obtain ⟨A, c, rfl, hc, h0⟩ := hx
  rcases A with _ | ad
  · rcases Nat.eq_zero_or_pos m.length with hz | hz
    · have : m = [] := List.eq_nil_of_length_eq_zero hz
      subst this
      refine ⟨v, w, run_append_none hT hi hown, by simpa using hown, World.grownBy.refl w _, .inl rfl⟩
    · obtain ⟨b, off, e, _⟩ := h0 0 hz
      cases e
  · obtain ⟨v', w', hr, ho, hg, _, hat⟩ := run_append_own_at (P := Try.prog) w base T ty 3 i (.int .i64 0) 1 8 hT hi hz0 hz1 hz2 rfl (by decide) v l.length (rowI l) hown ad m.length c (rowI m) (by simp [rowI])
      (fun j u hu => by
        unfold rowI at hu
        rw [List.getElem?_map, Option.map_eq_some_iff] at hu
        obtain ⟨y, hy, rfl⟩ := hu
        obtain ⟨hj, rfl⟩ := List.getElem?_eq_some_iff.1 hy
        obtain ⟨b, off, e, hcell⟩ := h0 j hj
        injection e with e
        subst e
        rw [add_plain, hcell, List.getD_eq_getElem?_getD, List.getElem?_eq_getElem hj]
        rfl) (fun u hu => by
        unfold rowI at hu
        obtain ⟨y, _, rfl⟩ := List.mem_map.1 hu
        rfl) (by unfold maxLen; omega) (by omega) hbase
    exact ⟨v', w', hr, by unfold OwnI; rw [List.length_append, show rowI (l ++ m) = rowI l ++ rowI m from List.map_append]; exact ho, hg, hat⟩
theorem wp_append_ints {w : World} {o : Oper} {a : Act} {K : Act → World → Prop} {Q : Exit → Act → World → Prop} (T : TypeId) (hT : Try.prog.underlying T = some (.slice 3)) (s x : Operand)
    (ho : o.op = .call { callee := .builtin .append, args := #[s, x], argTypes := #[T, T] }) (base : Nat) (v vx : Value) (l m : List Nat) (hs : a.eval s = v) (hown : OwnI w base v l) (hx : a.eval x = vx) (hm : RdN w vx m)
    (hlen : l.length + m.length ≤ 1099511627776) (hbase : base ≤ w.heap.size)
    (h : ∀ v' w', OwnI w' base v' (l ++ m) → w.grownBy w' v.ownBlock → (v'.ownBlock = v.ownBlock ∨ v'.ownBlock = some w.heap.size) → K (a.put o.dst v') w') : o.wp Try.prog a w K Q := by
  obtain ⟨v', w', hr, h2, h3, h4⟩ := run_append_ints (ty := o.type) hT hown hm hlen hbase
  unfold Oper.wp execOp
  simp only [ho, resolve, invoke, builtin, Sem.run_bind, Sem.run_pure, Result.andThen_ok, List.map_toArray, List.map_cons, List.map_nil, hs, hx, hr]
  exact h v' w' h2 h3 h4
theorem wpList_append_ints {w : World} {ops : Array Oper} {rest : List Oper} {o : Oper} {a : Act} {Q : Exit → Act → World → Prop} (T : TypeId) (hT : Try.prog.underlying T = some (.slice 3)) (hgd : o.guard = none) (s x : Operand)
    (ho : o.op = .call { callee := .builtin .append, args := #[s, x], argTypes := #[T, T] }) (base : Nat) (v vx : Value) (l m : List Nat) (hs : a.eval s = v) (hown : OwnI w base v l) (hx : a.eval x = vx) (hm : RdN w vx m)
    (hlen : l.length + m.length ≤ 1099511627776) (hbase : base ≤ w.heap.size)
    (h : ∀ v' w', OwnI w' base v' (l ++ m) → w.grownBy w' v.ownBlock → (v'.ownBlock = v.ownBlock ∨ v'.ownBlock = some w.heap.size) → wpList Try.prog ops Q rest (a.put o.dst v') w') : wpList Try.prog ops Q (o :: rest) a w :=
  wpList_plain hgd fun _ hK => wp_append_ints T hT s x ho base v vx l m hs hown hx hm hlen hbase fun v' w' h1 h2 h3 => hK _ _ (h v' w' h1 h2 h3)
theorem ownI_empty (w : World) (base : Nat) (hb : base ≤ w.heap.size) : OwnI (w.alloc (.cells #[] 3)) base (.slice (some ⟨w.heap.size, 0, none⟩) 0 0) [] := World.ownsRow_made w #[] 0 hb (Nat.zero_le _) rfl
/-- A slice that lies somewhere is not nil; the nil one is. -/
theorem run_eql_slice_nil {P : Program} (w : World) {t e : TypeId} (A : Option Addr) (n c : Nat) (ht : P.underlying t = some (.slice e)) :
    (binOp .eql t (.slice A n c) (.slice none 0 0)).run P w = .ok (.bool A.isNone) w := by
  have h : ∀ d : Nat, (Op.equalIn (d + 1) t (.slice A n c) (.slice none 0 0)).run P w = .ok A.isNone w := fun d => by
    cases A <;> simp [Op.equalIn, run_underlying ht]
  simp only [binOp]
  simp [Op.equal, Op.maxDepth, h 9999]
theorem clone_any {w : World} {v : Value} {l : List Nat} (h : RdN w v l) (hlen : l.length ≤ 1000000) :
    Calls Try.prog 45 #[v] w fun e w' => ∃ v', e = .returned v' ∧ OwnI w' w.heap.size v' l ∧ Below w.heap.size w w' := by
  have H := Lib.hid h
  obtain ⟨A, c, rfl, hc, h0⟩ := h
  obtain ⟨n, hn⟩ : ∃ n, l.length = n := ⟨_, rfl⟩
  rw [hn] at H hlen ⊢
  rcases A with _ | ad
  · have hz : l = [] := by
      rcases l with _ | ⟨y, l⟩
      · rfl
      · obtain ⟨b, off, e, _⟩ := h0 0 (by simp)
        cases e
    subst hz
    subst hn
    have heq := fun w => run_eql_slice_nil (P := Try.prog) w (t := 22) none 0 c Try.underlying22
    clear h0
    go_enter Try.func45, Try.ntmps45
    go_wp2
    go_ret
    exact ⟨_, rfl, ownI_none _ _, Below.refl _ _⟩
  · have HN := Lib.hid hn
    have HL := Lib.hid hlen
    have heq := fun w => run_eql_slice_nil (P := Try.prog) w (t := 22) (some ad) n c Try.underlying22
    clear h0 hn hlen hc
    go_enter Try.func45, Try.ntmps45
    go_wp2_with (first
      | (at_builtin; refine wpList_append_ints 22 Try.underlying22 rfl _ _ rfl w.heap.size (.slice (some ⟨w.heap.size, 0, none⟩) 0 0) (.slice (some ad) n c) [] l rfl (ownI_empty w _ (Nat.le_refl _)) rfl (H.out.under ((Below.refl _ _).alloc (Nat.le_refl _) _)) (by rw [HN.out]; have := HL.out; simp; omega) (by simp) ?_; intro v6 w6 ho6 hg6 hat6)
      | fail)
    go_ret
    refine ⟨v6, rfl, by simpa using ho6, ((Below.refl _ _).alloc (Nat.le_refl _) _).trans ((Below.refl _ _).grown hg6 (by simp) fun k hk => ?_)⟩
    injection hk with hk
    change w.heap.size = k at hk
    omega

/-- A function value that tells what is ahead of a thing: f, for the things of D, wherever the blocks of G lie as in w0. -/
structure AheadG (w0 : World) (G : Nat → Prop) (K : Nat) (cap : Array Value) (f : Nat → List Nat) (D : Nat → Prop) : Prop where
  enter : ∀ args w, (callFunc K args).run Try.prog w = .ok (.enter K args) w
  lt : ∀ j, G j → j < w0.heap.size
  call : ∀ x w, D x → (∀ j, G j → w.heap[j]? = w0.heap[j]?) → w0.heap.size ≤ w.heap.size → Calls Try.prog K (#[.int .i64 (x : Int)] ++ cap) w fun e w' => ∃ v, e = .returned v ∧ (RdN w' v (f x) ∧ (∀ k, v.ownBlock = some k → G k ∨ (w.heap.size ≤ k ∧ k < w'.heap.size)) ∧ Below w.heap.size w w')
theorem AheadG.toN {w0 : World} {G : Nat → Prop} {K : Nat} {cap : Array Value} {f : Nat → List Nat} {D : Nat → Prop} (h : AheadG w0 G K cap f D) : AheadN w0 K cap f D :=
  ⟨h.enter, fun x w hx hb => (h.call x w hx (fun j hj => hb.block j (h.lt j hj)) hb.size).mono fun _ _ ⟨v, e, a, b, c⟩ => ⟨v, e, a, fun k hk => (b k hk).imp (h.lt k) id, c⟩⟩
theorem AheadG.on {w0 w1 : World} {G : Nat → Prop} {K : Nat} {cap : Array Value} {f : Nat → List Nat} {D : Nat → Prop} (h : AheadG w0 G K cap f D) (hb : Below w0.heap.size w0 w1) : AheadG w1 G K cap f D :=
  ⟨h.enter, fun j hj => Nat.lt_of_lt_of_le (h.lt j hj) hb.size, fun x w hx he hs => h.call x w hx (fun j hj => (he j hj).trans (hb.block j (h.lt j hj))) (Nat.le_trans hb.size hs)⟩
/-- What Reach leaves behind the function value: a copy of where it begins, and the function. -/
structure ReachAt (w : World) (p q : Nat) (v : Value) (base : Nat) (l : List Nat) (K : Nat) (cap : Array Value) : Prop where
  from' : Blk w p 22 #[v]
  fn : Blk w q 47 #[.func (.func K) #[] cap]
  row : OwnI w base v l
theorem reach_any {w : World} {v : Value} {l : List Nat} (K : Nat) (cap : Array Value) (h : RdN w v l) (hlen : l.length ≤ 1000000) :
    Calls Try.prog 20 #[v, .func (.func K) #[] cap] w fun e w' => ∃ p q v', e = .returned (.func (.func 46) #[] #[.pointer (some ⟨p, 0, none⟩), .pointer (some ⟨q, 0, none⟩)]) ∧ ReachAt w' p q v' w.heap.size l K cap ∧ w.heap.size ≤ p ∧ w.heap.size ≤ q ∧ Below w.heap.size w w' := by
  have hmf : ∀ (fn : Fn) (first cap : Array Value) (w : World), (Instr.makeFunc fn first cap).run Try.prog w = .ok (.func fn first cap) w := fun _ _ _ _ => rfl
  have H := Lib.hid h
  obtain ⟨A, c, hv, _⟩ := h
  have HL := Lib.hid hlen
  obtain ⟨n, hn⟩ : ∃ n, l.length = n := ⟨_, rfl⟩
  rw [hn] at hv
  subst hv
  clear hn hlen
  go_enter Try.func20, Try.ntmps20
  go_upto_region 1 with fail
  obtain ⟨w1, hw1⟩ : ∃ W, (w.alloc (.cells #[.slice A n c] 22)).alloc (.cells #[.func (.func K) #[] cap] 47) = W := ⟨_, rfl⟩
  have hp : Blk w1 w.heap.size 22 #[.slice A n c] := by rw [← hw1]; exact Blk.alloc (heap_alloc_new w _) _
  have hq : Blk w1 (w.heap.size + 1) 47 #[.func (.func K) #[] cap] := by
    rw [← hw1]
    have h1 := heap_alloc_new (w.alloc (.cells #[.slice A n c] 22)) (.cells #[.func (.func K) #[] cap] 47)
    rw [World.size_alloc] at h1
    exact h1
  have HB1 : Hid (Below w.heap.size w w1) := Lib.hid (by rw [← hw1]; exact ((Below.refl _ _).alloc (Nat.le_refl _) _).alloc (by simp) _)
  rw [hw1]
  clear hw1
  have c0 : w1.cell? ⟨w.heap.size, 0, none⟩ = some (.slice A n c) := hp.at 0
  have HP := Lib.hid hp
  have HQ := Lib.hid hq
  obtain ⟨g, hg⟩ : ∃ g, w.heap.size = g := ⟨_, rfl⟩
  rw [hg] at HP HQ HB1 c0 ⊢
  have H1 : Hid (RdN w1 (.slice A n c) l) := Lib.hid (H.out.under (by rw [hg]; exact HB1.out))
  have HGE := Lib.hid hg
  clear hp hq hg
  go_wp2_with fail
  refine (clone_any H1.out HL.out).mono ?_
  rintro e w2 ⟨v2, rfl, ho2, hb2⟩
  have HP2 := Lib.hid (HP.out.under hb2)
  have HQ2 := Lib.hid (HQ.out.under hb2)
  have HO2 := Lib.hid ho2
  have HB2 := Lib.hid (HB1.out.trans (hb2.mono (by have := HP.out.size; omega)))
  have c2 : w2.cell? ⟨g, 0, none⟩ = some (.slice A n c) := HP2.out.at 0
  have f2 : w2.frozen? ⟨g, 0, none⟩ = false := HP2.out.free 0
  have HGW := Lib.hid HP.out.size
  obtain ⟨A2, c3, hv2, _⟩ := ho2.parts
  obtain ⟨m, hm⟩ : ∃ m, l.length = m := ⟨_, rfl⟩
  rw [hm] at hv2
  subst hv2
  clear ho2 hb2 hm
  go_wp2
  go_ret
  have hMS := Moves.setCell w2 ⟨g, 0, none⟩ (.slice A2 m c3)
  have hge := HGE.out
  have hgw := HGW.out
  refine ⟨g, g + 1, _, rfl, ⟨HP2.out.set 0 _, HQ2.out.moves hMS (fun e => by change g + 1 = g at e; omega), ?_⟩, by omega, by omega, ?_⟩
  · exact World.ownsRow.mono (HO2.out.moves hMS (fun k hk e => by have := (HO2.out.lt k hk).1; change k = g at e; omega)) (by omega)
  · rw [hge]
    exact HB2.out.trans (Below.setCell (Below.refl g w2) (Nat.le_refl _) _)
end Go.Proofs.Ytemliglhippdcaa

/- Package grph: all that is reached, one behind the other: what going through it does. -/
namespace Go.Proofs.Ytemliglhippdcaa
set_option maxRecDepth 100000
open Go.ChangeShapes Go.WideShapes Go.ChangeAt Go.RowKit Go.Shelf

attribute [local go_sem] Oper.semAt_some

theorem RowAt.eq {w w' : World} {base g mb : Nat} {v : Value} {l : List Nat} (h : RowAt w base g mb v l) (hs : ∀ k, Rx g mb v k → k < w.heap.size → w'.heap[k]? = w.heap[k]?) : RowAt w' base g mb v l := by
  have hg := h.box.size
  have hm := h.map.lt
  refine ⟨(hs g (.inl rfl) hg).trans h.box, ?_, h.map.same (hs mb (.inr (.inl rfl)) hm), h.nd, h.hg, h.hm⟩
  obtain ⟨h1, h2⟩ := h.row
  refine ⟨h1, ?_⟩
  rcases h2 with h2 | ⟨r, cap, cur, rfl, hb, hh, h3⟩
  · exact .inl h2
  · exact .inr ⟨r, cap, cur, rfl, hb, (hs r (.inr (.inr rfl)) (Array.getElem?_eq_some_iff.1 hh).1).trans hh, h3⟩
/-- What the function value reads. -/
def ReachReads (p q : Nat) (v : Value) (G : Nat → Prop) : Nat → Prop := fun j => j = p ∨ j = q ∨ v.ownBlock = some j ∨ G j
theorem addTo_eq (l xs : List Nat) : Gr.addTo l xs = addL l xs := rfl
set_option maxHeartbeats 8000000 in
theorem reach_iter {w0 : World} {p q base K : Nat} {v : Value} {l : List Nat} {cap : Array Value} {G : Nat → Prop} {f : Nat → List Nat} {D : Nat → Prop} (M : Nat) (hR : ReachAt w0 p q v base l K cap) (hA : AheadG w0 G K cap f D) (hl : l.length ≤ 1000)
    (hM : (Gr.rs f (addL [] l) M).length ≤ M) (hMB : M ≤ 1000) (hD : ∀ x ∈ Gr.rs f (addL [] l) M, D x) (hf : ∀ x ∈ Gr.rs f (addL [] l) M, (f x).length ≤ 1000) :
    IterF Try.prog 46 #[.pointer (some ⟨p, 0, none⟩), .pointer (some ⟨q, 0, none⟩)] (fun n : Nat => #[Value.int .i64 (n : Int)]) (Gr.rs f (addL [] l) M).length (fun k => (Gr.rs f (addL [] l) M).getD k 0) (ReachReads p q v G) w0 := by
  obtain ⟨T, hT⟩ : ∃ T, addL [] l = T := ⟨_, rfl⟩
  rw [hT] at hM hD hf ⊢
  have HF := Lib.hid (Gr.rs_facts f T M hM)
  obtain ⟨R, hRR⟩ : ∃ R, Gr.rs f T M = R := ⟨_, rfl⟩
  rw [hRR] at hM hD hf HF ⊢
  obtain ⟨N, hN⟩ : ∃ N, R.length = N := ⟨_, rfl⟩
  rw [hN] at hM HF ⊢
  intro lp J E W hsz hF0 hmono hY h0
  have HMO := Lib.hid hmono
  have HY := Lib.hid hY
  have HA := Lib.hid hA
  have HD := Lib.hid hD
  have HFB := Lib.hid hf
  have HT := Lib.hid hT
  have HRN := Lib.hid hN
  have HF0 := Lib.hid hF0
  have HSZ := Lib.hid hsz
  have HRA := Lib.hid hR
  have HLT : Hid (∀ j, ReachReads p q v G j → j < w0.heap.size) := Lib.hid (fun j hj => by
    rcases hj with rfl | rfl | hj | hj
    · exact hR.from'.size
    · exact hR.fn.size
    · exact (hR.row.lt j hj).2
    · exact hA.lt j hj)
  have hNB : N ≤ 1000 := by omega
  have c0 : W.cell? ⟨p, 0, none⟩ = some v := by
    have h1 : Blk W p 22 #[v] := (hF0 p (.inl rfl)).trans hR.from'
    exact h1.at 0
  have hrd : RdN W v l := by
    have h1 : OwnI W base v l := by
      obtain ⟨a1, a2⟩ := hR.row
      refine ⟨a1, ?_⟩
      rcases a2 with a2 | ⟨r, cap', cur, rfl, hb, hh, a3⟩
      · exact .inl a2
      · exact .inr ⟨r, cap', cur, rfl, hb, (hF0 r (.inr (.inr (.inl rfl)))).trans hh, a3⟩
    exact h1.rdN
  have HRO := Lib.hid (rowof_any hrd (fun k hk => Nat.lt_of_lt_of_le (HLT.out k (.inr (.inr (.inl hk)))) hsz) (by omega))
  rw [hT] at HRO
  obtain ⟨Av, cv, hv, _⟩ := hrd
  obtain ⟨nl, hnl⟩ : ∃ n, l.length = n := ⟨_, rfl⟩
  rw [hnl] at hv
  subst hv
  clear hmono hY hA hD hf hT hN hF0 hsz hR hRR hnl hl hM
  refine callsIn_of_wp Try.func46 rfl trivial ?_ rfl
  simp only [Try.ntmps46, List.size_toArray, List.length_cons, List.length_nil, Nat.reduceAdd, Nat.reduceSub, Array.replicate_succ, Array.replicate_zero, List.push_toArray, List.append_toArray, List.nil_append, List.cons_append]
  gi_wp2_with fail
  refine ⟨trivial, rfl, (callsIn_wide.2 HRO.out).mono ?_⟩
  rintro e w1 ⟨g, mb, u, rfl, hr1, hb1⟩
  have HR1 := Lib.hid hr1
  have HB1 := Lib.hid hb1
  have HJ1 : Hid (J 0 (Fresh (fun _ => False) W w1) w1) := Lib.hid (HMO.out 0 _ W w1 h0 (Moves.under hb1))
  have HRE1 : Hid (∀ j, ReachReads p q (.slice Av nl cv) G j → w1.heap[j]? = w0.heap[j]?) := Lib.hid (fun j hj => (HB1.out.block j (Nat.lt_of_lt_of_le (HLT.out j hj) HSZ.out)).trans (HF0.out j hj))
  have HRX1 : Hid (∀ j, Rx g mb u j → Fresh (fun _ => False) W w1 j) := Lib.hid (fun j hj => .inr (by
    rcases hj with rfl | rfl | hj
    · exact ⟨hr1.hg, hr1.box.size⟩
    · exact ⟨hr1.hm, hr1.map.lt⟩
    · exact hr1.row.lt j hj))
  have HFW1 : Hid (∀ j, Fresh (fun _ => False) W w1 j → W.heap.size ≤ j) := Lib.hid (fun j hj => hj.elim (fun h => h.elim) fun h => h.1)
  clear hr1 hb1 h0 c0
  gi_wp2_with fail
  gi_loopw [5] (fun i wr => ∃ (k : Nat) (F : Nat → Prop) (u : Value), i = .int .i64 (k : Int) ∧ k ≤ N ∧ J k F wr ∧ Hid (RowAt wr W.heap.size g mb u (Gr.rs f T k)) ∧ Hid (∀ j, Rx g mb u j → F j) ∧ Hid (∀ j, F j → W.heap.size ≤ j) ∧ Hid (∀ j, ReachReads p q (.slice Av nl cv) G j → wr.heap[j]? = w0.heap[j]?) ∧ Hid (W.heap.size ≤ wr.heap.size)) (fun i _ => N - (intOf i).toNat)
  case atStart => exact ⟨0, _, u, rfl, Nat.zero_le _, HJ1.out, HR1, HRX1, HFW1, HRE1, Lib.hid HB1.out.size⟩
  case round =>
    clear HR1 HRX1 HFW1 HRE1 HJ1
    obtain ⟨k, F, u, rfl, hkN, hj, HR, HRX, HFW, HRE, HSW⟩ := hrel
    have HJ := Lib.hid hj
    have q0 : wr.cell? ⟨g, 0, none⟩ = some u := HR.out.box.at 0
    obtain ⟨S, hS⟩ : ∃ S, Gr.rs f T k = S := ⟨_, rfl⟩
    have hfk := HF.out.2 k hkN
    rw [hS] at hfk HR
    have hSN : Hid (k < N → Gr.rs f T (k + 1) = addL S (f (S.getD k 0))) := Lib.hid (fun hlt => by
      conv => lhs; unfold Gr.rs
      rw [hS, if_pos (hfk.1.2 hlt)]
      rfl)
    obtain ⟨Au, cu, hu, _⟩ := HR.out.row.parts
    obtain ⟨n, hn⟩ : ∃ n, S.length = n := ⟨_, rfl⟩
    rw [hn] at hu hfk
    have HNN : Hid (n ≤ 1000) := Lib.hid (Nat.le_trans hfk.2.2 hNB)
    have HSL := Lib.hid hn
    subst hu
    clear hj hS hn
    by_cases hlt : k < N
    · have hkn : k < n := hfk.1.2 hlt
      have hkI : (k : Int) < (n : Int) := by omega
      have hop := HR.out.row.open (i := k) (by rw [HSL.out]; exact hkn)
      rw [HSL.out] at hop
      obtain ⟨ra, ca, hra, _, _, _, hcell⟩ := hop
      injection hra with hr1 hr2 hr3
      subst hr1
      have p1 := (hcell k hkn).1
      obtain ⟨x, hx⟩ : ∃ x, S.getD k 0 = x := ⟨_, rfl⟩
      have hxR : R.getD k 0 = x := by rw [← hfk.2.1 hlt]; exact hx
      have hxm : x ∈ R := by
        rw [← hxR, List.getD_eq_getElem?_getD, List.getElem?_eq_getElem (by rw [HRN.out]; exact hlt)]
        exact List.getElem_mem _
      rw [hx] at p1
      have HS2 := Lib.hid (hSN.out hlt)
      rw [hx] at HS2
      have HXD := Lib.hid (HD.out x hxm)
      have hxf := HFB.out x hxm
      obtain ⟨fn, tmps, assign, body, hy, hRd⟩ := HY.out k F wr hlt HJ.out
      rw [hxR] at hy
      have HXF := Lib.hid hxf
      clear hcell hx hxR hxm hr2 hr3 hxf hfk
      gi_wp2_with fail
      refine ⟨rfl, hRd.mono ?_⟩
      rintro e w2 ⟨hlie, hcase⟩
      clear hy hRd
      rcases hcase with ⟨rfl, hj2⟩ | ⟨rfl, he2⟩
      · have HR2 := Lib.hid (HR.out.eq fun j hj hjl => hlie.2 j (.inl (HRX.out j hj)) hjl)
        have HRE2 : Hid (∀ j, ReachReads p q (.slice Av nl cv) G j → w2.heap[j]? = w0.heap[j]?) := Lib.hid (fun j hj => (hlie.2 j (.inr hj) (Nat.lt_of_lt_of_le (HLT.out j hj) (Nat.le_trans HSZ.out HSW.out))).trans (HRE.out j hj))
        have HSW2 := Lib.hid (Nat.le_trans HSW.out hlie.1)
        have HJ2 := Lib.hid hj2
        have c2 : w2.cell? ⟨q, 0, none⟩ = some (.func (.func K) #[] cap) := by
          have h1 : Blk w2 q 47 #[.func (.func K) #[] cap] := (HRE2.out q (.inr (.inl rfl))).trans HRA.out.fn
          exact h1.at 0
        have HAX := Lib.hid (ask_any K cap HA.out.enter (x : Int) w2 _ (HA.out.call x w2 HXD.out (fun j hj => HRE2.out j (.inr (.inr (.inr hj)))) (Nat.le_trans HSZ.out HSW2.out)))
        clear hlie hj2
        gi_wp2_with fail
        refine ⟨trivial, rfl, (callsIn_wide.2 HAX.out).mono ?_⟩
        rintro e w3 ⟨xv, rfl, hrd, hbl, hb3⟩
        have HR3 := Lib.hid (HR2.out.under hb3)
        have HB3 := Lib.hid hb3
        have hgw2 : ∀ j, Rx g mb (.slice (some ⟨ra, 0, none⟩) n cu) j → W.heap.size ≤ j ∧ j < w2.heap.size := fun j hj => by
          rcases hj with rfl | rfl | hj
          · exact ⟨HR2.out.hg, HR2.out.box.size⟩
          · exact ⟨HR2.out.hm, HR2.out.map.lt⟩
          · exact HR2.out.row.lt j hj
        have HADD := Lib.hid (rowadd_any HR3.out hrd (fun j hj e => by
            have h1 := hgw2 j e
            rcases hbl j hj with h2 | h2
            · have := HA.out.lt j h2
              have := HSZ.out
              omega
            · omega) (fun j hj => by
            rcases hbl j hj with h2 | h2
            · have := HA.out.lt j h2
              have := HSZ.out
              have := HSW2.out
              have := hb3.size
              omega
            · omega) (by rw [HSL.out]; have h1 := HXF.out; have h2 := HNN.out; omega) (Nat.le_trans HSW2.out hb3.size))
        obtain ⟨Ax, cx, hxv, _⟩ := hrd
        obtain ⟨m, hm⟩ : ∃ m, (f x).length = m := ⟨_, rfl⟩
        rw [hm] at hxv
        subst hxv
        clear hbl hb3 hm
        gi_wp2_with fail
        refine ⟨trivial, rfl, (callsIn_wide.2 HADD.out).mono ?_⟩
        rintro e w4 ⟨rfl, ⟨v4, hr4, hv4⟩, hm4⟩
        have HM24 : Hid (Moves F w2 w4) := Lib.hid ((Moves.under HB3.out).then hm4 fun j _ e => HRX.out j e)
        have HJ4 : Hid (J (k + 1) (Fresh F w2 w4) w4) := Lib.hid (HMO.out _ _ _ _ HJ2.out HM24.out)
        have HR4 : Hid (RowAt w4 W.heap.size g mb v4 (Gr.rs f T (k + 1))) := Lib.hid (by rw [HS2.out]; exact hr4)
        have HRX4 : Hid (∀ j, Rx g mb v4 j → Fresh F w2 w4 j) := Lib.hid (fun j hj => by
          rcases hj with e | e | e
          · exact .inl (HRX.out j (.inl e))
          · exact .inl (HRX.out j (.inr (.inl e)))
          · rcases hv4 j e with h1 | h1
            · exact .inl (HRX.out j (.inr (.inr h1)))
            · exact .inr ⟨Nat.le_trans HB3.out.size h1, (hr4.row.lt j e).2⟩)
        have HFW4 : Hid (∀ j, Fresh F w2 w4 j → W.heap.size ≤ j) := Lib.hid (fun j hj => hj.elim (HFW.out j) fun h => Nat.le_trans HSW2.out h.1)
        have HRE4 : Hid (∀ j, ReachReads p q (.slice Av nl cv) G j → w4.heap[j]? = w0.heap[j]?) := Lib.hid (fun j hj => by
          have h1 := HLT.out j hj
          have h2 := HSZ.out
          have h3 := HSW2.out
          exact (HM24.out.block j (by omega) (fun e => by have := HFW.out j e; omega)).trans (HRE2.out j hj))
        have HSW4 := Lib.hid (Nat.le_trans HSW2.out HM24.out.size)
        clear hr4 hv4 hm4
        gi_wp2
        go_roundw
        case rel => exact ⟨k + 1, _, v4, by go_num, hlt, HJ4.out, HR4, HRX4, HFW4, HRE4, HSW4⟩
        case measure => simp [intOf]; omega
      · have HE2 := Lib.hid he2
        clear hlie he2
        gi_wp2
        refine bodyPost_ret (results_none rfl _ _ _) rfl ?_
        exact ⟨⟨_, rfl⟩, .inr HE2.out⟩
    · have hkn : ¬ k < n := fun h => hlt (hfk.1.1 h)
      have hkI : ¬ (k : Int) < (n : Int) := by omega
      obtain rfl : N = k := by omega
      clear hfk
      gi_wp2
      refine bodyPost_end (results_none rfl _ _ _) rfl ?_
      exact ⟨⟨_, rfl⟩, .inl ⟨F, HJ.out⟩⟩
end Go.Proofs.Ytemliglhippdcaa
