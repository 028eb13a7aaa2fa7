/- For ActsBack: rows of words that grow; the words of an action, one thing behind the other. -/
import Derived.Test.YtfeaolcgjkkadaaDoorActParsed
import Derived.Test.YtfeaolcgjkkadaaDoorActMath
namespace Go.Proofs.YtfeaolcgjkkadaaDoor
set_option maxRecDepth 100000
open Go.ChangeShapes Go.WideShapes Go.ChangeAt Go.RowKit

/-- Words as they lie: behind a row of the call's own. -/
def LieW (w : World) (ad : Addr) (M : List Ln.W) : Prop := ∀ j y, (rowW M)[j]? = some y → w.cell? (ad.add j) = some y
theorem RdW.lie {w : World} {ad : Addr} {n c : Nat} {M : List Ln.W} (h : RdW w (.slice (some ad) n c) M) : LieW w ad M := by
  obtain ⟨A, c', e, h1, h2, h3⟩ := h
  injection e with e1 e2 e3
  subst e2 e3
  intro j y hy
  have hj : j < M.length * 4 := by
    rw [← rowW_len]
    exact (List.getElem?_eq_some_iff.1 hy).1
  obtain ⟨b, off, rfl, hc⟩ := h3 (by omega)
  injection e1 with e1
  subst e1
  have hk : j / 4 < M.length := by omega
  have he := rowW_at M (j / 4) (j % 4) hk (Nat.mod_lt _ (by decide))
  rw [show j / 4 * 4 + j % 4 = j from by omega, hy] at he
  obtain ⟨p0, p1, p2, p3⟩ := hc (j / 4) hk
  rw [add_plain]
  have : j % 4 = 0 ∨ j % 4 = 1 ∨ j % 4 = 2 ∨ j % 4 = 3 := by omega
  rcases this with e | e | e | e
  · rw [e] at he
    rw [show off + j = off + j / 4 * 4 from by omega, p0]
    exact he.symm
  · rw [e] at he
    rw [show off + j = off + j / 4 * 4 + 1 from by omega, p1]
    exact he.symm
  · rw [e] at he
    rw [show off + j = off + j / 4 * 4 + 2 from by omega, p2]
    exact he.symm
  · rw [e] at he
    rw [show off + j = off + j / 4 * 4 + 3 from by omega, p3]
    exact he.symm
def GrewW (base : Nat) (u : Value) (R : List Ln.W) (w : World) (u' : Value) (w' : World) : Prop := OwnW w' base u' R ∧ w.grownBy w' u.ownBlock ∧ Below base w w'
theorem wp_append_ws {w : World} {o : Oper} {a : Act} {K : Act → World → Prop} {Q : Exit → Act → World → Prop} (s x : Operand)
    (ho : o.op = .call { callee := .builtin .append, args := #[s, x], argTypes := #[25, 25] }) (base : Nat) (u : Value) (R M : List Ln.W) (hs : a.eval s = u) (hst : OwnW w base u R) (ad : Addr) (m c : Nat)
    (hx : a.eval x = .slice (some ad) m c) (hm : M.length = m) (hM : LieW w ad M) (hlen : R.length + M.length ≤ 1000000) (hbase : base ≤ w.heap.size) (R' : List Ln.W) (hR : R ++ M = R')
    (h : ∀ u' w', GrewW base u R' w u' w' → K (a.put o.dst u') w') : Oper.wp Tryd.prog o a w K Q := by
  subst hR
  obtain ⟨i, hi, hz0, hz1, hz2⟩ := info_parts infoWord
  obtain ⟨v', w', hr, h2, h3, h4, h5⟩ := run_append_own_at (P := Tryd.prog) w base 25 o.type 30 i (.agg #[.string ⟨#[]⟩, .int .i64 0, .int .i64 0, .bool false]) 4 40 Tryd.underlying25 hi hz0 hz1 hz2 (by kernel_rfl) (by decide) u R.length (rowW R) hst ad m c (rowW M) (by rw [rowW_len, hm]) hM (fun y hy => by
      obtain ⟨d, _, hd⟩ := List.mem_flatMap.1 hy
      exact cellsW_one d y hd) (by unfold maxLen; omega) (by omega) hbase
  unfold Oper.wp execOp
  simp only [ho, resolve, invoke, builtin, Sem.run_bind, Sem.run_pure, Result.andThen_ok, List.map_toArray, List.map_cons, List.map_nil, hs, hx, hr]
  refine h _ _ ⟨?_, h3, (Below.refl _ _).grown h3 hbase fun k hk => (World.ownsRow.lt hst k hk).1⟩
  unfold OwnW
  rw [List.length_append, hm, rowW, List.flatMap_append]
  exact h2
theorem wpList_append_ws {w : World} {ops : Array Oper} {rest : List Oper} {o : Oper} {a : Act} {Q : Exit → Act → World → Prop} (hgd : o.guard = none) (s x : Operand)
    (ho : o.op = .call { callee := .builtin .append, args := #[s, x], argTypes := #[25, 25] }) (base : Nat) (u : Value) (R M : List Ln.W) (hs : a.eval s = u) (hst : OwnW w base u R) (ad : Addr) (m c : Nat)
    (hx : a.eval x = .slice (some ad) m c) (hm : M.length = m) (hM : LieW w ad M) (hlen : R.length + M.length ≤ 1000000) (hbase : base ≤ w.heap.size) (R' : List Ln.W) (hR : R ++ M = R')
    (h : ∀ u' w', GrewW base u R' w u' w' → wpList Tryd.prog ops Q rest (a.put o.dst u') w') : wpList Tryd.prog ops Q (o :: rest) a w :=
  wpList_plain hgd fun _ hK => wp_append_ws s x ho base u R M hs hst ad m c hx hm hM hlen hbase R' hR fun v' w' hg => hK _ _ (h v' w' hg)
theorem step_append_ws {w : World} {ops : Array Oper} {o : Oper} {a : Act} {K : Act → World → Prop} {Q : Exit → Act → World → Prop} {E : Prop} (hgd : o.guard = none) (s x : Operand)
    (ho : o.op = .call { callee := .builtin .append, args := #[s, x], argTypes := #[25, 25] }) (base : Nat) (u : Value) (R M : List Ln.W) (hs : a.eval s = u) (hst : OwnW w base u R) (ad : Addr) (m c : Nat)
    (hx : a.eval x = .slice (some ad) m c) (hm : M.length = m) (hM : LieW w ad M) (hlen : R.length + M.length ≤ 1000000) (hbase : base ≤ w.heap.size) (R' : List Ln.W) (hR : R ++ M = R')
    (h : ∀ u' w', GrewW base u R' w u' w' → K (a.put o.dst u') w') : if Region.wanted o (yielded ops a.tmps) = true then Oper.wp Tryd.prog o a w K Q else E := by
  rw [if_pos (by simp [Region.wanted, hgd])]
  exact wp_append_ws s x ho base u R M hs hst ad m c hx hm hM hlen hbase R' hR h
/-- A row of words beside the thing that is read. -/
structure Wr (base : Nat) (wS w : World) (u : Value) (P : List Ln.W) (g : Nat) (C : Array Value) : Prop where
  own : OwnW w base u P
  box : Blk w g 28 C
  below : Below base wS w
theorem ownW_ne {w : World} {base g : Nat} {u : Value} {L : List Ln.W} {C : Array Value} (h : OwnW w base u L) (hb : Blk w g 28 C) : some g ≠ u.ownBlock := by
  rcases h.2 with ⟨rfl, _⟩ | ⟨g', cap, cur, rfl, _, hg, _⟩
  · simp [Value.ownBlock]
  · intro e
    simp [Value.ownBlock] at e
    subst e
    rw [show w.heap[g]? = some (.cells C 28 (0, 0)) from hb] at hg
    injection hg with e
    injection e with _ e
    exact absurd e (by decide)
theorem Wr.alloc {base : Nat} {wS w : World} {u : Value} {P : List Ln.W} {g : Nat} {C : Array Value} (h : Wr base wS w u P g C) (hb : base ≤ w.heap.size) (o : Obj) : Wr base wS (w.alloc o) u P g C :=
  ⟨h.own.under ((Below.refl _ _).alloc (Nat.le_refl _) o), h.box.alloc o, h.below.alloc hb o⟩
theorem Wr.under {base : Nat} {wS w w' : World} {u : Value} {P : List Ln.W} {g : Nat} {C : Array Value} (h : Wr base wS w u P g C) (hb : base ≤ w.heap.size) (hw : Below w.heap.size w w') : Wr base wS w' u P g C :=
  ⟨h.own.under hw, h.box.under hw, h.below.trans (hw.mono hb)⟩
theorem Wr.grew {base : Nat} {wS w w' : World} {u u' : Value} {P P' : List Ln.W} {g : Nat} {C : Array Value} (h : Wr base wS w u P g C) (hg : GrewW base u P' w u' w') : Wr base wS w' u' P' g C :=
  ⟨hg.1, h.box.grown hg.2.1 (ownW_ne h.own h.box), h.below.trans hg.2.2⟩
/-- One word, newly laid. -/
theorem lie_one (w : World) (z : Ln.W) : LieW (w.alloc (.cells (cellsW z).toArray 30)) ⟨w.heap.size, 0, none⟩ [z] := by
  intro j y hy
  rw [add_plain, Nat.zero_add]
  have h : Blk (w.alloc (.cells (cellsW z).toArray 30)) w.heap.size 30 (cellsW z).toArray := heap_alloc_new _ _
  rw [h.at j, List.getElem?_toArray]
  simpa [rowW] using hy
end Go.Proofs.YtfeaolcgjkkadaaDoor
namespace Go.Proofs.YtfeaolcgjkkadaaDoor.Ac
theorem wordsOf_snoc : ∀ (l : List D) (d : D), wordsOf (l ++ [d]) = (if l = [] then [] else wordsOf l ++ [wd [59] false]) ++ wordsD d
  | [], d => rfl
  | [e], d => by
    show wordsD e ++ wd [59] false :: wordsD d = _
    rw [if_neg (by simp)]
    show _ = (wordsD e ++ [wd [59] false]) ++ wordsD d
    simp
  | e :: f :: r, d => by
    have ih := wordsOf_snoc (f :: r) d
    rw [if_neg (by simp)] at ih
    show wordsD e ++ wd [59] false :: wordsOf ((f :: r) ++ [d]) = _
    rw [ih, if_neg (by simp)]
    show _ = ((wordsD e ++ wd [59] false :: wordsOf (f :: r)) ++ [wd [59] false]) ++ wordsD d
    simp
theorem wordsD_len (d : D) : (wordsD d).length ≤ 2 := by
  unfold wordsD
  split
  · simp
  · split <;> simp
theorem wordsOf_len : ∀ (l : List D), (wordsOf l).length ≤ 3 * l.length
  | [] => by simp [wordsOf]
  | [d] => by
    have := wordsD_len d
    show (wordsD d).length ≤ _
    simp
    omega
  | d :: e :: r => by
    have h1 := wordsD_len d
    have h2 := wordsOf_len (e :: r)
    show (wordsD d ++ wd [59] false :: wordsOf (e :: r)).length ≤ _
    simp only [List.length_append, List.length_cons] at h2 ⊢
    omega
def okW (x : Ln.W) : Prop := (∀ c ∈ x.text, c < 256) ∧ x.text.length ≤ 1099511627776
theorem okW_names : ∀ k, k < 12 → okW (wd (names.getD k []) false) := by
  intro k hk
  have h8 : k = 0 ∨ k = 1 ∨ k = 2 ∨ k = 3 ∨ k = 4 ∨ k = 5 ∨ k = 6 ∨ k = 7 ∨ k = 8 ∨ k = 9 ∨ k = 10 ∨ k = 11 := by omega
  rcases h8 with rfl | rfl | rfl | rfl | rfl | rfl | rfl | rfl | rfl | rfl | rfl | rfl <;> exact ⟨by decide, by decide⟩
theorem okW_dec (n : Nat) (h : n ≤ 999) : okW (wd (Nm.dec n) false) := by
  refine ⟨fun c hc => ?_, ?_⟩
  · have := Nm.dec_byte n c hc
    omega
  · have := Nm.dec_len (k := 3) (n := n) (by omega) (by omega)
    show (Nm.dec n).length ≤ _
    omega
theorem wordsD_ok {d : D} (h1 : d.kind ≤ 11) (h2 : d.n ≤ 999) (h3 : ∀ c ∈ d.text, c < 256) (h4 : d.text.length ≤ 64) : ∀ x ∈ wordsD d, okW x := by
  intro x hx
  unfold wordsD at hx
  rcases List.mem_cons.1 hx with rfl | hx
  · exact okW_names _ (by omega)
  · split at hx
    · rw [List.mem_singleton.1 hx]
      exact ⟨h3, by show d.text.length ≤ _; omega⟩
    · split at hx
      · rw [List.mem_singleton.1 hx]
        exact okW_dec _ h2
      · cases hx
theorem wordsOf_ok : ∀ (l : List D), (∀ d ∈ l, d.kind ≤ 11 ∧ d.n ≤ 999 ∧ (∀ c ∈ d.text, c < 256) ∧ d.text.length ≤ 64) → ∀ x ∈ wordsOf l, okW x
  | [], _, x, hx => by cases hx
  | [d], h, x, hx => by
    obtain ⟨a, b, c, e⟩ := h d (by simp)
    exact wordsD_ok a b c e x hx
  | d :: e :: r, h, x, hx => by
    obtain ⟨a, b, c, f⟩ := h d (by simp)
    have hx' : x ∈ wordsD d ++ wd [59] false :: wordsOf (e :: r) := hx
    rcases List.mem_append.1 hx' with hx | hx
    · exact wordsD_ok a b c f x hx
    · rcases List.mem_cons.1 hx with rfl | hx
      · exact ⟨by decide, by decide⟩
      · exact wordsOf_ok (e :: r) (fun y hy => h y (by simp [hy])) x hx
end Go.Proofs.YtfeaolcgjkkadaaDoor.Ac
