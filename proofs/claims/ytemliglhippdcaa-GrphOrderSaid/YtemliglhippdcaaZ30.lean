/- Package mani's own reader: all lines, and what is told behind them. -/
import Derived.Test.YtemliglhippdcaaZ28
import Derived.Test.YtemliglhippdcaaZ25
import Derived.Test.YtemliglhippdcaaZ29
import Derived.Test.YtemliglhippdcaaZ16
import Derived.Test.YtemliglhippdcaaZ04
import Derived.BigRegion
import Derived.Deep.RegionHeld3
import Derived.Test.YtemliglhippdcaaZ27
import Derived.Test.YtemliglhippdcaaZ05
import Derived.Test.YtemliglhippdcaaManiOut
import Derived.Test.YtemliglhippdcaaLineSplit
namespace Go.Proofs.Ytemliglhippdcaa
set_option maxRecDepth 100000
open Go.ChangeShapes Go.WideShapes Go.ChangeAt Go.RowKit Go.Shelf

/-- Lines of words that lie below a place. -/
def LnB (w : World) (hi : Nat) (v : Value) (LL : List (List Ln.W)) : Prop :=
  ∃ A c, v = .slice A LL.length c ∧ (0 < LL.length → ∃ b off, A = some ⟨b, off, none⟩ ∧ b < hi ∧ ∀ i, i < LL.length → ∃ u, w.cell? ⟨b, off + i, none⟩ = some u ∧ SlW w hi u (LL.getD i []))
theorem LnB.below {w w' : World} {hi : Nat} {v : Value} {LL : List (List Ln.W)} (h : LnB w hi v LL) (hb : Below hi w w') : LnB w' hi v LL := by
  obtain ⟨A, c, rfl, hc⟩ := h
  refine ⟨A, c, rfl, fun h0 => ?_⟩
  obtain ⟨b, off, rfl, hbh, hx⟩ := hc h0
  refine ⟨b, off, rfl, hbh, fun i hi => ?_⟩
  obtain ⟨u, h1, h2⟩ := hx i hi
  exact ⟨u, (World.cell?_of_block (hb.block b hbh)).trans h1, h2.keep (Q := PartTy) (KeepB.same fun k hk => hb.block k hk) (.inr (.inr (.inr rfl)))⟩
theorem Lns.lnB {w : World} {base : Nat} {v : Value} {LL : List (List Ln.W)} (h : Lns w base v LL) : LnB w w.heap.size v LL := by
  obtain ⟨us, h1, h2, h3, h4, _⟩ := h
  have h2' := h2
  rcases h2.2 with ⟨rfl, h0⟩ | ⟨g, cap, cur, rfl, hb, hg, hn, hm, hs, ht⟩
  · exact ⟨none, 0, by rw [h0], fun h => by omega⟩
  · refine ⟨_, cap, rfl, fun _ => ⟨g, 0, rfl, (World.ownsRow.lt h2' g rfl).2, fun i hi => ⟨us.getD i undef, ?_, (h4 i hi).slB (Nat.le_refl _)⟩⟩⟩
    rw [show 0 + i = i from by omega, World.ownsRow.cellAt h2' i (by omega), List.getD_eq_getElem?_getD, List.getElem?_eq_getElem (by omega)]
    rfl
/-- The lines from a reader on, and what is told behind them. -/
def Mo.readOn (s : Mo.S) (L : List (List Ln.W)) : Mo.S :=
  if (Mo.lines s L).e.k ≠ 0 then Mo.lines s L else if Mo.round (Mo.unmade (Mo.lines s L)) then Mo.fail 12 Mo.word0 (Mo.unmade (Mo.lines s L)) else Mo.unmade (Mo.lines s L)
theorem read_is (L : List (List Ln.W)) : Mo.read L = Mo.readOn Mo.start L := rfl
theorem readOn_next {s : Mo.S} {l : List Ln.W} {r : List (List Ln.W)} (h : (Mo.line s l).e.k = 0) : Mo.readOn s (l :: r) = Mo.readOn (Mo.line s l) r := by
  have : Mo.lines s (l :: r) = Mo.lines (Mo.line s l) r := by rw [Mo.lines, if_neg (by omega)]
  unfold Mo.readOn
  rw [this]
theorem readOn_bad {s : Mo.S} {l : List Ln.W} {r : List (List Ln.W)} (h : (Mo.line s l).e.k ≠ 0) : Mo.readOn s (l :: r) = Mo.line s l := by
  have : Mo.lines s (l :: r) = Mo.line s l := by rw [Mo.lines, if_pos h]
  unfold Mo.readOn
  rw [this, if_pos h]
theorem readOn_end {s : Mo.S} (h : s.e.k = 0) : Mo.readOn s [] = if Mo.round (Mo.unmade s) then Mo.fail 12 Mo.word0 (Mo.unmade s) else Mo.unmade s := by
  unfold Mo.readOn
  rw [show Mo.lines s [] = s from rfl, if_neg (by omega)]
/-- One of Default is asked for. -/
def Mo.um (s : Mo.S) (w : Ln.W) : Mo.S := if (Mo.has w.text s.makers).isSome then s else Mo.fail 10 w s
theorem unmade_is (s : Mo.S) : Mo.unmade s = s.chosen.foldl Mo.um s := rfl
theorem sm_um (s : Mo.S) (w : Ln.W) : Sm s (Mo.um s w) := by
  unfold Mo.um
  split
  · exact Sm.refl s
  · exact sm_fail _ _ _
theorem foldl_drop {α β : Type} (f : β → α → β) (l : List α) (d : α) (j : Nat) (h : j < l.length) (b : β) : (l.drop j).foldl f b = (l.drop (j + 1)).foldl f (f b (l.getD j d)) := by
  rw [List.drop_eq_getElem_cons h, List.foldl_cons, List.getD_eq_getElem?_getD, List.getElem?_eq_getElem h]
  rfl
/-- What is read: the fault, or the rules and Default. -/
def MReadIs (w : World) (base g : Nat) (s : Mo.S) (w' : World) : Prop :=
  Below base w w' ∧ GoodS s ∧ w'.cell? ⟨g, 10, none⟩ = some (.int .i64 (s.e.k : Int)) ∧ w'.cell? ⟨g, 11, none⟩ = some (.int .i64 (s.e.line : Int)) ∧ w'.cell? ⟨g, 12, none⟩ = some (.int .i64 (s.e.col : Int)) ∧
    ∃ rv dv, w'.cell? ⟨g, 3, none⟩ = some rv ∧ w'.cell? ⟨g, 4, none⟩ = some dv ∧ g < w'.heap.size ∧ (s.e.k = 0 → RulesB w' base w'.heap.size rv s.rules ∧ SlTB w' w'.heap.size dv (Mo.texts s.chosen))
theorem spares_below {B : Nat} {A A' : World} (h : Below A.heap.size A A') : Spares B A A' := ⟨h.size, fun j _ hj => h.block j hj⟩
theorem spares_refl (B : Nat) (A : World) : Spares B A A := ⟨Nat.le_refl _, fun _ _ _ => rfl⟩
end Go.Proofs.Ytemliglhippdcaa

/- Package mani's own reader: all lines: the walk. -/
namespace Go.Proofs.Ytemliglhippdcaa
set_option maxRecDepth 100000
open Go.ChangeShapes Go.WideShapes Go.ChangeAt Go.RowKit Go.Shelf

end Go.Proofs.Ytemliglhippdcaa

/- Package mani: what Parse tells of any bytes: plain facts. -/
namespace Go.Proofs.Ytemliglhippdcaa
set_option maxRecDepth 100000
open Go.ChangeShapes Go.WideShapes Go.ChangeAt Go.RowKit Go.Shelf

def zeroM : Value := .agg #[.slice none 0 0, .slice none 0 0]
def FaultV (f : Mn.F) : Value := .agg #[.int .i64 (f.k : Int), .int .i64 (f.line : Int), .int .i64 (f.col : Int)]
/-- What Parse tells: a manifest, or a fault. -/
def ParsedM (b : List Nat) (w : World) (e : Ending) (w' : World) : Prop := Below w.heap.size w w' ∧ match Mo.parse b with
  | .bad f => e = .returned (.tuple #[zeroM, FaultV f])
  | .ok m => ∃ v, e = .returned (.tuple #[v, FaultV ⟨0, 0, 0⟩]) ∧ RdM w' v m
theorem RulesB.sl {w : World} {base hi : Nat} {v : Value} {l : List Mn.Rule} (h : RulesB w base hi v l) : SlR w v l := by
  obtain ⟨f, h1, h2, h3⟩ := h
  have h1' := h1
  rcases h1.2 with ⟨rfl, h0⟩ | ⟨g, cap, cur, rfl, hb, hg, hn, hm, hs, ht⟩
  · have : l = [] := List.eq_nil_of_length_eq_zero h0
    subst this
    exact sl_nil _ _ _ _
  · refine ⟨_, cap, rfl, hn, Nat.le_trans hn hm, fun h0 => ⟨g, 0, rfl, ⟨cur, (0, 0), hg⟩, fun k hk => ?_⟩⟩
    have hc : ∀ j, j < 5 → w.cell? ⟨g, k * 5 + j, none⟩ = (cellsR (f k) (l.getD k emptyRule))[j]? := fun j hj => by
      rw [World.ownsRow.cellAt h1' (k * 5 + j) (by omega), rowR_at f l l.length k j hk hj]
    have hp := h3 k hk
    dsimp only
    rw [show 0 + k * 5 = k * 5 from by omega]
    exact ⟨_, _, _, _, hc 0 (by omega), hc 1 (by omega), hc 2 (by omega), hc 3 (by omega), hc 4 (by omega), hp.outs.sl, hp.ins.sl, hp.order.sl, hp.acts.sl⟩
theorem Keep.trans {a b c : World} {Q : TypeId → Prop} (h : Keep a b Q) (k : Keep b c Q) : Keep a c Q := fun x t ht hq => (k x t (h.ty ht hq) hq).trans (h x t ht hq)
/-- The two boxes of what is told are filled. -/
theorem fill5 {W : World} {a b : Nat} {T1 T2 : TypeId} {x0 x1 y0 y1 y2 : Value} (h1 : Blk W a T1 #[x0, x1]) (h2 : Blk W b T2 #[y0, y1, y2]) (hne : a ≠ b) (u0 u1 v0 v1 v2 : Value) :
    Blk (((((W.setCell ⟨a, 0, none⟩ u0).setCell ⟨a, 1, none⟩ u1).setCell ⟨b, 0, none⟩ v0).setCell ⟨b, 1, none⟩ v1).setCell ⟨b, 2, none⟩ v2) a T1 #[u0, u1] ∧
    Blk (((((W.setCell ⟨a, 0, none⟩ u0).setCell ⟨a, 1, none⟩ u1).setCell ⟨b, 0, none⟩ v0).setCell ⟨b, 1, none⟩ v1).setCell ⟨b, 2, none⟩ v2) b T2 #[v0, v1, v2] := by
  have e : ∀ (X : World) (o : Nat) (u : Value) (cs : Array Value), Blk X a T1 cs → Blk (X.setCell ⟨b, o, none⟩ u) a T1 cs := fun X o u cs h => h.grown (grown_setCell X ⟨b, o, none⟩ u) (by intro e; injection e with e; exact hne e)
  have f : ∀ (X : World) (o : Nat) (u : Value) (cs : Array Value), Blk X b T2 cs → Blk (X.setCell ⟨a, o, none⟩ u) b T2 cs := fun X o u cs h => h.grown (grown_setCell X ⟨a, o, none⟩ u) (by intro e; injection e with e; exact hne e.symm)
  exact ⟨e _ _ _ _ (e _ _ _ _ (e _ _ _ _ ((h1.set 0 u0).set 1 u1))), (((f _ _ _ _ (f _ _ _ _ h2)).set 0 v0).set 1 v1).set 2 v2⟩
theorem fill5_keep {W : World} {a b : Nat} {Q : TypeId → Prop} {T1 T2 : TypeId} {x0 x1 y0 y1 y2 : Value} (h1 : Blk W a T1 #[x0, x1]) (h2 : Blk W b T2 #[y0, y1, y2]) (q1 : ¬ Q T1) (q2 : ¬ Q T2) (u0 u1 v0 v1 v2 : Value) :
    Keep W (((((W.setCell ⟨a, 0, none⟩ u0).setCell ⟨a, 1, none⟩ u1).setCell ⟨b, 0, none⟩ v0).setCell ⟨b, 1, none⟩ v1).setCell ⟨b, 2, none⟩ v2) Q := by
  intro c t ht hq
  have n1 : c ≠ a := fun e => by subst e; exact absurd hq (by
    obtain ⟨cs, fr, k⟩ := ht
    unfold Blk at h1
    rw [h1] at k
    injection k with k
    injection k with _ k
    rw [← k]
    exact q1)
  have n2 : c ≠ b := fun e => by subst e; exact absurd hq (by
    obtain ⟨cs, fr, k⟩ := ht
    unfold Blk at h2
    rw [h2] at k
    injection k with k
    injection k with _ k
    rw [← k]
    exact q2)
  have s : ∀ (X : World) (d o : Nat) (u : Value), c ≠ d → (X.setCell ⟨d, o, none⟩ u).heap[c]? = X.heap[c]? := fun X d o u h => Below.heap_setCell _ _ _ _ (by intro e; exact h e)
  rw [s _ _ _ _ n2, s _ _ _ _ n2, s _ _ _ _ n2, s _ _ _ _ n1, s _ _ _ _ n1]
theorem fill5_below {B : Nat} {a W : World} (h : Below B a W) (x y : Nat) (hx : B ≤ x) (hy : B ≤ y) (u0 u1 v0 v1 v2 : Value) :
    Below B a (((((W.setCell ⟨x, 0, none⟩ u0).setCell ⟨x, 1, none⟩ u1).setCell ⟨y, 0, none⟩ v0).setCell ⟨y, 1, none⟩ v1).setCell ⟨y, 2, none⟩ v2) :=
  ((((h.setCell (p := ⟨x, 0, none⟩) hx u0).setCell (p := ⟨x, 1, none⟩) hx u1).setCell (p := ⟨y, 0, none⟩) hy v0).setCell (p := ⟨y, 1, none⟩) hy v1).setCell (p := ⟨y, 2, none⟩) hy v2
theorem below_drew' {B : Nat} {a W : World} (h : Below B a W) : Below B a W.drew := h.trans ⟨rfl, rfl, rfl, Nat.le_refl _, fun _ _ => rfl⟩
theorem notRule_manifest : ¬ RuleTy 26 := by unfold RuleTy; decide
theorem notRule_fault : ¬ RuleTy 28 := by unfold RuleTy; decide
theorem LnB.more {w : World} {hi hi' : Nat} {v : Value} {LL : List (List Ln.W)} (h : LnB w hi v LL) (hh : hi ≤ hi') : LnB w hi' v LL := by
  obtain ⟨A, c, rfl, hc⟩ := h
  refine ⟨A, c, rfl, fun h0 => ?_⟩
  obtain ⟨b, off, rfl, hb, hx⟩ := hc h0
  refine ⟨b, off, rfl, by omega, fun i hi => ?_⟩
  obtain ⟨u, h1, h2⟩ := hx i hi
  exact ⟨u, h1, h2.more hh⟩
theorem SlTB.shape {w : World} {hi : Nat} {v : Value} {l : List (List Nat)} (h : SlTB w hi v l) : ∃ A n c, v = .slice A n c := by
  obtain ⟨A, c, e, _⟩ := h
  exact ⟨_, _, _, e⟩
theorem RulesB.shape {w : World} {base hi : Nat} {v : Value} {l : List Mn.Rule} (h : RulesB w base hi v l) : ∃ A n c, v = .slice A n c := by
  obtain ⟨A, c, e, _⟩ := h.sl
  exact ⟨_, _, _, e⟩
end Go.Proofs.Ytemliglhippdcaa

/- The document's parser: a rule that is right. -/
namespace Go.Proofs.Ytemliglhippdcaa
set_option maxRecDepth 100000
open Go.ChangeShapes Go.WideShapes Go.ChangeAt Go.RowKit Go.Shelf

theorem PRd.same {w w' : World} {base hi g : Nat} {rv dv lv fv : Value} {rules : List Mn.Rule} (h : PRd w base hi g rv dv lv fv rules) (hs : ∀ k, k < hi → w'.heap[k]? = w.heap[k]?) (hz : w.heap.size ≤ w'.heap.size) : PRd w' base hi g rv dv lv fv rules :=
  ⟨(hs g h.g2).trans h.blk, h.rules.keep (KeepB.same hs) (fun k hk => hs k (by obtain ⟨f, _, h2, _⟩ := h.rules; exact h2 k hk)), h.g1, h.g2, Nat.le_trans h.top hz⟩
/-- A rule under way: the parser, the rule's box, the line's words. -/
structure Rp (w X : World) (base g B0 : Nat) (rv dv lv fv : Value) (rules : List Mn.Rule) (v : Value) (L : List Ln.W) (cs : Array Value) : Prop where
  prd : PRd X base B0 g rv dv lv fv rules
  box : Blk X B0 40 cs
  wrd : RdW X v L
  bel : Below base w X
  kp : KeepB w X w.heap.size PartTy
  ne1 : v.ownBlock ≠ some g
  ne2 : v.ownBlock ≠ some B0
theorem Rp.method {w X X' : World} {base g B0 : Nat} {rv dv lv fv v : Value} {rules : List Mn.Rule} {L : List Ln.W} {cs : Array Value} (h : Rp w X base g B0 rv dv lv fv rules v L cs) (hg : X.grownBy X' (some g)) (hB : Pb X' g rv dv lv fv ⟨0, 0, 0⟩) : Rp w X' base g B0 rv dv lv fv rules v L cs :=
  ⟨h.prd.turn hg hB, h.box.grown hg (fun e => by injection e with e; have := h.prd.g2; omega), h.wrd.grown hg (.inr h.ne1), h.bel.grown hg (by have := h.prd.g1; have := h.prd.g2; have := h.prd.top; omega) (fun k e => by cases e; exact h.prd.g1), h.kp.trans (KeepB.grown hg h.prd.blk.ty notPart_parser) h.bel.size, h.ne1, h.ne2⟩
theorem Rp.under {w X X' : World} {base g B0 : Nat} {rv dv lv fv v : Value} {rules : List Mn.Rule} {L : List Ln.W} {cs : Array Value} (h : Rp w X base g B0 rv dv lv fv rules v L cs) (hb : Below X.heap.size X X') : Rp w X' base g B0 rv dv lv fv rules v L cs :=
  ⟨h.prd.under hb, h.box.under hb, h.wrd.under hb, h.bel.trans (hb.mono (by have := h.prd.g1; have := h.prd.g2; have := h.prd.top; omega)), h.kp.trans (KeepB.below hb) h.bel.size, h.ne1, h.ne2⟩
theorem Rp.set {w X : World} {base g B0 : Nat} {rv dv lv fv v : Value} {rules : List Mn.Rule} {L : List Ln.W} {cs : Array Value} (h : Rp w X base g B0 rv dv lv fv rules v L cs) (j : Nat) (u : Value) : Rp w (X.setCell ⟨B0, j, none⟩ u) base g B0 rv dv lv fv rules v L (cs.setIfInBounds j u) :=
  ⟨h.prd.same (fun k hk => Below.heap_setCell _ _ _ _ (by intro e; dsimp only at e; omega)) (by simp), h.box.set j u, h.wrd.grown (grown_setCell X ⟨B0, j, none⟩ u) (.inr h.ne2), h.bel.setCell (p := ⟨B0, j, none⟩) (by have := h.prd.g1; have := h.prd.g2; show base ≤ B0; omega) u, h.kp.trans (KeepB.grown (grown_setCell X ⟨B0, j, none⟩ u) h.box.ty notPart_rule) h.bel.size, h.ne1, h.ne2⟩
theorem Rp.size {w X : World} {base g B0 : Nat} {rv dv lv fv v : Value} {rules : List Mn.Rule} {L : List Ln.W} {cs : Array Value} (h : Rp w X base g B0 rv dv lv fv rules v L cs) : B0 < X.heap.size := h.box.size
theorem OwnT.setB {w : World} {base B0 j : Nat} {u x : Value} {l : List (List Nat)} (h : OwnT w base u l) (hlt : B0 < base) : OwnT (w.setCell ⟨B0, j, none⟩ x) base u l := h.grownG (grown_setCell w ⟨B0, j, none⟩ x) hlt
theorem SlTB.gp {w w' : World} {hi g : Nat} {v : Value} {l : List (List Nat)} (h : SlTB w hi v l) (hg : w.grownBy w' (some g)) (ht : Ty w g 66) : SlTB w' hi v l := h.keep (KeepB.grown hg ht notPart_parser) (.inl rfl)
theorem SlTB.sr {w : World} {hi b : Nat} {v : Value} {l : List (List Nat)} (h : SlTB w hi v l) (ht : Ty w b 40) (i : Nat) (u : Value) : SlTB (w.setCell ⟨b, i, none⟩ u) hi v l := h.keep (KeepB.grown (grown_setCell w ⟨b, i, none⟩ u) ht notPart_rule) (.inl rfl)
theorem ownT_shape {w : World} {base : Nat} {v : Value} {l : List (List Nat)} (h : OwnT w base v l) : ∃ A c, v = .slice A l.length c := by
  obtain ⟨A, c, e, _⟩ := h.sl
  exact ⟨A, c, e⟩
theorem rulesB_start {w : World} {base : Nat} {rv : Value} {rules : List Mn.Rule} (h : RulesB w base w.heap.size rv rules) : ∃ A c, rv = .slice A rules.length c := by
  obtain ⟨A, c, e, _⟩ := h.sl
  exact ⟨A, c, e⟩
set_option maxRecDepth 100000 in
set_option maxHeartbeats 16000000 in
theorem refrule_phony (base g : Nat) (v : Value) (L : List Ln.W) (rv dv lv fv : Value) (rules : List Mn.Rule) (w : World) (h : PRd w base w.heap.size g rv dv lv fv rules) (hv : RdW w v L) (hne : v.ownBlock ≠ some g) (hL : 0 < L.length) (hL2 : L.length ≤ 100000)
    (ht : ∀ x ∈ L, (∀ c ∈ x.text, c < 256) ∧ x.text.length ≤ 1000000 ∧ Mn.isW [] x = false) (ho : ∀ r ∈ rules, r.outs.length ≤ 1000000 ∧ ∀ x ∈ r.outs, ∀ c ∈ x, c < 256) (r : Mn.Rule) (hr : Mn.rule rules true (L.headD ⟨[], 0, 0, false⟩) (L.drop 1) = .ok r) :
    Calls Try.prog 54 #[.pointer (some ⟨g, 0, none⟩), v, .bool true] w fun en w' => en = .returned (.tuple #[]) ∧ ∃ rv', PRd w' base w'.heap.size g rv' dv lv fv (rules ++ [r]) ∧ Below base w w' ∧ KeepB w w' w.heap.size PartTy := by
  obtain ⟨h64, o, r1, i, r2, h1, h2, rfl⟩ := rule_phony hr
  have HT := Lib.hid ht
  have HO := Lib.hid ho
  have H1 := Lib.hid h1
  obtain ⟨A, c, rfl⟩ := rulesB_start h.rules
  have hv' := hv
  obtain ⟨Av, cv, rfl, hlc, hlm, hx⟩ := hv'
  obtain ⟨n, hn⟩ : ∃ n, L.length = n := ⟨_, rfl⟩
  have hne2 : (Value.slice Av L.length cv).ownBlock ≠ some w.heap.size := by
    obtain ⟨b, off, rfl, hc⟩ := hx hL
    intro e
    simp [Value.ownBlock] at e
    have := World.block_lt_of_cell? _ _ (hc 0 hL).1
    dsimp only at this
    omega
  rw [hn] at hv hne hne2 hL hL2 ⊢
  have HN := Lib.hid hn
  obtain ⟨m, hm⟩ : ∃ m, rules.length = m := ⟨_, rfl⟩
  rw [hm] at h h64
  have HM := Lib.hid hm
  have q0 : w.cell? ⟨g, 0, none⟩ = some (.slice A m c) := h.blk.at 0
  have HB0 : Hid (∀ C, Rp w (w.alloc (.cells C 40)) base g w.heap.size (.slice A m c) dv lv fv rules (.slice Av n cv) L C) := Lib.hid (fun C => by
    have hb : Below w.heap.size w (w.alloc (.cells C 40)) := (Below.refl _ _).alloc (Nat.le_refl _) _
    exact ⟨h.under hb, heap_alloc_new w _, hv.under hb, hb.mono (by have := h.g1; have := h.g2; omega), KeepB.below hb, hne, hne2⟩)
  have h64I : ¬ (m : Int) ≥ 64 := by omega
  have HG : Hid (g < w.heap.size) := Lib.hid h.g2
  have HNE1 := Lib.hid hne
  have H2 := Lib.hid h2
  clear hr h1 h2 h hv hx hn hm hne hne2 ht ho
  go_enter Try.func54, Try.ntmps54
  go_wp2_with fail
  refine (refouts_any g 1 _ L rules _ dv lv fv ⟨0, 0, 0⟩ _ (HB0.out _).prd.blk rfl (HB0.out _).wrd HNE1.out (HB0.out _).prd.rules.sl (by rw [HN.out]; exact hL) (by rw [HN.out]; omega) (by omega) (by rw [HM.out]; omega) HO.out (fun x hx => ⟨(HT.out x hx).1, by have := (HT.out x hx).2.1; omega, (HT.out x hx).2.2⟩)).mono ?_
  rw [H1.out]
  rintro en w2 ⟨⟨u, j, rfl, hj, hdr, hou, hpb⟩, hg2⟩
  have HR2 := Lib.hid ((HB0.out _).method hg2 hpb)
  have HDR := Lib.hid hdr
  rw [HN.out] at hj
  obtain ⟨uA, uc, rfl⟩ := ownT_shape hou
  have HU2 := Lib.hid (hou.slB (hi := w2.heap.size) (Nat.le_refl _))
  obtain ⟨no, hno⟩ : ∃ no, o.length = no := ⟨_, rfl⟩
  rw [hno] at HU2 ⊢
  have b0 : w2.cell? ⟨w.heap.size, 0, none⟩ = some (.slice none 0 0) := HR2.out.box.at 0
  have f0 : w2.frozen? ⟨w.heap.size, 0, none⟩ = false := HR2.out.box.free 0
  have HR3 := Lib.hid (HR2.out.set 0 (.slice uA no uc))
  have HU3 := Lib.hid (HU2.out.sr HR2.out.box.ty 0 (.slice uA no uc))
  have H3 : Hid (Mn.names 8 true (fun x => Mn.isW [] x || Mn.isW [] x) (L.drop j) [] = .ok (i, r2)) := Lib.hid (by
    rw [HDR.out, ← H2.out]
    refine names_congr _ _ (fun x hx => ?_)
    rw [(HT.out x (by rw [← HDR.out] at hx; exact List.mem_of_mem_drop hx)).2.2]
    rfl)
  have hjm : min (j : Int) (n : Int) = (j : Int) := by omega
  have HJ := Lib.hid hj
  clear hg2 hpb hou hdr q0 hno hj
  go_wp2_with fail
  refine (refnames_any g j 8 true [] [] _ L _ dv lv fv ⟨0, 0, 0⟩ _ HR3.out.prd.blk rfl HR3.out.wrd HNE1.out (by rw [HN.out]; omega) (by rw [HN.out]; exact HJ.out) (by omega) (fun x hx => ⟨(HT.out x hx).1, by have := (HT.out x hx).2.1; omega⟩) (by simp) (by simp)).mono ?_
  rw [H3.out]
  rintro en w4 ⟨⟨ui, ji, rfl, hj4, hdr4, hou4, hpb4⟩, hg4⟩
  have HR4 := Lib.hid (HR3.out.method hg4 hpb4)
  obtain ⟨iA, ic, rfl⟩ := ownT_shape hou4
  have hz4 : w2.heap.size ≤ w4.heap.size := by have := hg4.size; simpa using this
  have HU4 := Lib.hid ((HU3.out.gp hg4 HR3.out.prd.blk.ty).more hz4)
  have HI4 := Lib.hid (hou4.slB (hi := w4.heap.size) (Nat.le_refl _))
  obtain ⟨ni, hni⟩ : ∃ ni, i.length = ni := ⟨_, rfl⟩
  rw [hni] at HI4 ⊢
  have k1 : w4.cell? ⟨w.heap.size, 1, none⟩ = some (.slice none 0 0) := HR4.out.box.at 1
  have f1 : w4.frozen? ⟨w.heap.size, 1, none⟩ = false := HR4.out.box.free 1
  obtain ⟨w5, hw5⟩ : ∃ w5, w5 = w4.setCell ⟨w.heap.size, 1, none⟩ (.slice iA ni ic) := ⟨_, rfl⟩
  have hz5 : w4.heap.size = w5.heap.size := by rw [hw5]; simp
  have hr5 := HR4.out.set 1 (.slice iA ni ic)
  have hu5 := HU4.out.sr HR4.out.box.ty 1 (.slice iA ni ic)
  have hi5 := HI4.out.sr HR4.out.box.ty 1 (.slice iA ni ic)
  rw [← hw5] at hr5 hu5 hi5
  rw [hz5] at hu5 hi5
  obtain ⟨v', w', hap, ⟨Av', nv, cv', rfl⟩, g3, f3, hrd, hbb⟩ := (hr5.prd.more (Nat.le_of_lt hr5.box.size) (Nat.le_refl _)).addRule (.slice uA no uc, .slice iA ni ic, .slice none 0 0, .slice none 0 0) ⟨o, i, [], [], true⟩ ⟨hu5, hi5, slB_nil _ _ _ _ _, slB_nil _ _ _ _ _⟩ (by rw [HM.out]; omega) 23
  have r3 : w5.cell? ⟨g, 0, none⟩ = some (.slice A m c) := hr5.prd.blk.at 0
  have b0 : w5.cell? ⟨w.heap.size, 0, none⟩ = some (.slice uA no uc) := hr5.box.at 0
  have b1 : w5.cell? ⟨w.heap.size, 1, none⟩ = some (.slice iA ni ic) := hr5.box.at 1
  have b2 : w5.cell? ⟨w.heap.size, 2, none⟩ = some (.slice none 0 0) := hr5.box.at 2
  have b3 : w5.cell? ⟨w.heap.size, 3, none⟩ = some (.slice none 0 0) := hr5.box.at 3
  have b4 : w5.cell? ⟨w.heap.size, 4, none⟩ = some (.bool true) := hr5.box.at 4
  have hg5 : g < w5.heap.size := hr5.prd.blk.size
  have hb5 : w.heap.size < w5.heap.size := hr5.box.size
  rw [show (cellsR (.slice uA no uc, .slice iA ni ic, .slice none 0 0, .slice none 0 0) ⟨o, i, [], [], true⟩).toArray = #[.slice uA no uc, .slice iA ni ic, .slice none 0 0, .slice none 0 0, .bool true] from rfl] at hap
  have HFIN : Hid (∃ rv', PRd (w'.setCell ⟨g, 0, none⟩ (.slice Av' nv cv')) base (w'.setCell ⟨g, 0, none⟩ (.slice Av' nv cv')).heap.size g rv' dv lv fv (rules ++ [⟨o, i, [], [], true⟩]) ∧ Below base w (w'.setCell ⟨g, 0, none⟩ (.slice Av' nv cv')) ∧ KeepB w (w'.setCell ⟨g, 0, none⟩ (.slice Av' nv cv')) w.heap.size PartTy) := Lib.hid ⟨_, by simpa using hrd, hr5.bel.trans hbb.1, hr5.kp.trans hbb.2 hr5.bel.size⟩
  have HAP := Lib.hid hap
  clear hr5 hu5 hi5 hrd hbb hap hg4 hpb4 hou4 hdr4 hj4
  have HW5 := Lib.hid hw5
  clear hw5
  go_wp2_with fail
  rw [← HW5.out]
  clear k1 f1 HW5
  go_region_law (refine step_append_eq rfl (.tmp 97) (.tmp 99) 23 rfl _ _ rfl rfl HAP.out ?_)
  all_goals (go_wp2; go_end0; exact ⟨rfl, HFIN.out⟩)
end Go.Proofs.Ytemliglhippdcaa

/- The document's parser: a rule that is right, with actions. -/
namespace Go.Proofs.Ytemliglhippdcaa
set_option maxRecDepth 100000
open Go.ChangeShapes Go.WideShapes Go.ChangeAt Go.RowKit Go.Shelf

theorem need_ok {s : List Nat} {first : Ln.W} {l r : List Ln.W} (h : Mn.need s first l = .ok r) : ∃ y, l = y :: r ∧ Mn.isW s y = true := by
  cases l with
  | nil => rw [Mn.need] at h; cases h
  | cons y q =>
    rw [Mn.need] at h
    split at h
    · rename_i hy
      cases h
      exact ⟨y, rfl, hy⟩
    · cases h
theorem ordered_ok {first : Ln.W} {r2 r3 r4 : List Ln.W} {d : List (List Nat)} (h3 : Mn.ordered r2 = .ok (d, r3)) (h4 : Mn.need [61] first r3 = .ok r4) : ∃ x r, r2 = x :: r ∧ ((Mn.isW [124] x = true ∧ Mn.names 8 true (Mn.isW [61]) r [] = .ok (d, r3)) ∨ (Mn.isW [124] x = false ∧ d = [] ∧ r3 = x :: r)) := by
  cases r2 with
  | nil =>
    rw [Mn.ordered] at h3
    cases h3
    rw [Mn.need] at h4
    cases h4
  | cons x r =>
    refine ⟨x, r, rfl, ?_⟩
    rw [Mn.ordered] at h3
    split at h3
    · exact .inl ⟨by assumption, h3⟩
    · cases h3
      exact .inr ⟨by simpa using (by assumption : ¬ Mn.isW [124] x = true), rfl, rfl⟩
theorem drop_cons {α : Type} {L : List α} {j : Nat} {x : α} {r : List α} (h : L.drop j = x :: r) : ∃ hj : j < L.length, L[j]'hj = x ∧ L.drop (j + 1) = r := by
  have hj : j < L.length := by
    apply Decidable.byContradiction
    intro hn
    rw [List.drop_eq_nil_of_le (by omega)] at h
    cases h
  rw [List.drop_eq_getElem_cons hj] at h
  injection h with h1 h2
  exact ⟨hj, h1, h2⟩
theorem needF_ok {s : List Nat} {L : List Ln.W} {j : Nat} {e : Mn.F} {y : Ln.W} {r : List Ln.W} (h : L.drop j = y :: r) (hy : Mn.isW s y = true) : needF s L j e = e := by
  obtain ⟨hj, h1, _⟩ := drop_cons h
  unfold needF
  rw [dif_pos hj, h1, if_pos hy]
theorem SlTB.bl {w w' : World} {hi : Nat} {v : Value} {l : List (List Nat)} (h : SlTB w hi v l) (hb : Below w.heap.size w w') : SlTB w' hi v l := h.keep (Q := PartTy) (KeepB.below hb) (.inl rfl)
theorem Parts.gp {w w' : World} {hi g : Nat} {q : Value × Value × Value × Value} {r : Mn.Rule} (h : Parts w hi q r) (hg : w.grownBy w' (some g)) (ht : Ty w g 66) (hh : hi ≤ w'.heap.size) : Parts w' w'.heap.size q r := (h.keep (KeepB.grown hg ht notPart_parser)).more hh
theorem Parts.bl {w w' : World} {hi : Nat} {q : Value × Value × Value × Value} {r : Mn.Rule} (h : Parts w hi q r) (hb : Below w.heap.size w w') (hh : hi ≤ w'.heap.size) : Parts w' w'.heap.size q r := (h.keep (KeepB.below hb)).more hh
theorem Parts.sr {w : World} {hi b : Nat} {q : Value × Value × Value × Value} {r : Mn.Rule} (h : Parts w hi q r) (ht : Ty w b 40) (i : Nat) (u : Value) : Parts (w.setCell ⟨b, i, none⟩ u) hi q r := h.keep (KeepB.grown (grown_setCell w ⟨b, i, none⟩ u) ht notPart_rule)
theorem outs_few {rules : List Mn.Rule} {most : Nat} {first : Ln.W} : ∀ (l : List Ln.W) (out o : List (List Nat)) (r : List Ln.W), Mn.outs rules most first l out = .ok (o, r) → out.length ≤ most → o.length ≤ most
  | [], out, o, r, h, _ => by rw [Mn.outs] at h; cases h
  | w :: l, out, o, r, h, hl => by
    rw [Mn.outs] at h
    split at h
    · split at h
      · cases h
      · cases h; exact hl
    · split at h
      · cases h
      · split at h
        · cases h
        · split at h
          · cases h
          · exact outs_few l _ o r h (by rw [List.length_append, List.length_singleton]; omega)
set_option maxRecDepth 100000 in
set_option maxHeartbeats 16000000 in
theorem refrule_plain (base g : Nat) (v : Value) (L : List Ln.W) (rv dv lv fv : Value) (rules : List Mn.Rule) (w : World) (h : PRd w base w.heap.size g rv dv lv fv rules) (hv : RdW w v L) (hne : v.ownBlock ≠ some g) (hL : 0 < L.length) (hL2 : L.length ≤ 100000)
    (ht : ∀ x ∈ L, (∀ c ∈ x.text, c < 256) ∧ x.text.length ≤ 1000000 ∧ Mn.isW [] x = false) (ho : ∀ r ∈ rules, r.outs.length ≤ 1000000 ∧ ∀ x ∈ r.outs, ∀ c ∈ x, c < 256) (r : Mn.Rule) (hr : Mn.rule rules false (L.headD ⟨[], 0, 0, false⟩) (L.drop 1) = .ok r) :
    Calls Try.prog 54 #[.pointer (some ⟨g, 0, none⟩), v, .bool false] w fun en w' => en = .returned (.tuple #[]) ∧ ∃ rv', PRd w' base w'.heap.size g rv' dv lv fv (rules ++ [r]) ∧ Below base w w' ∧ KeepB w w' w.heap.size PartTy := by
  obtain ⟨h64, o, r1, i, r2, d, r3, r4, acts, h1, h2, h3, h4, h5, rfl⟩ := rule_plain hr
  obtain ⟨x, rx, rfl, hcase⟩ := ordered_ok h3 h4
  obtain ⟨y, rfl, hy⟩ := need_ok h4
  have hfew : o.length ≤ 4 := outs_few _ _ _ _ h1 (by simp)
  have HT := Lib.hid ht
  have HO := Lib.hid ho
  have H1 := Lib.hid h1
  have H5 := Lib.hid h5
  have HC := Lib.hid hcase
  have HY := Lib.hid hy
  obtain ⟨A, c, rfl⟩ := rulesB_start h.rules
  have hv' := hv
  obtain ⟨Av, cv, rfl, hlc, hlm, hx⟩ := hv'
  obtain ⟨n, hn⟩ : ∃ n, L.length = n := ⟨_, rfl⟩
  have hne2 : (Value.slice Av L.length cv).ownBlock ≠ some w.heap.size := by
    obtain ⟨b, off, rfl, hc⟩ := hx hL
    intro e
    simp [Value.ownBlock] at e
    have := World.block_lt_of_cell? _ _ (hc 0 hL).1
    dsimp only at this
    omega
  rw [hn] at hv hne hne2 hL hL2 ⊢
  have HN := Lib.hid hn
  obtain ⟨m, hm⟩ : ∃ m, rules.length = m := ⟨_, rfl⟩
  rw [hm] at h h64
  have HM := Lib.hid hm
  have q0 : w.cell? ⟨g, 0, none⟩ = some (.slice A m c) := h.blk.at 0
  have HB0 : Hid (∀ C, Rp w (w.alloc (.cells C 40)) base g w.heap.size (.slice A m c) dv lv fv rules (.slice Av n cv) L C) := Lib.hid (fun C => by
    have hb : Below w.heap.size w (w.alloc (.cells C 40)) := (Below.refl _ _).alloc (Nat.le_refl _) _
    exact ⟨h.under hb, heap_alloc_new w _, hv.under hb, hb.mono (by have := h.g1; have := h.g2; omega), KeepB.below hb, hne, hne2⟩)
  have h64I : ¬ (m : Int) ≥ 64 := by omega
  have HG : Hid (g < w.heap.size) := Lib.hid h.g2
  have HNE1 := Lib.hid hne
  have HFEW := Lib.hid hfew
  have HL := Lib.hid (And.intro hL hL2)
  have HNE2 := Lib.hid hne2
  have H2 := Lib.hid h2
  clear hfew hr h1 h2 h3 h4 h5 hcase hy h hv hx hn hm hne hne2 ht ho
  go_enter Try.func54, Try.ntmps54
  go_wp2_with fail
  refine (refouts_any g 4 _ L rules _ dv lv fv ⟨0, 0, 0⟩ _ (HB0.out _).prd.blk rfl (HB0.out _).wrd HNE1.out (HB0.out _).prd.rules.sl (by rw [HN.out]; exact hL) (by rw [HN.out]; omega) (by omega) (by rw [HM.out]; omega) HO.out (fun x hx => ⟨(HT.out x hx).1, by have := (HT.out x hx).2.1; omega, (HT.out x hx).2.2⟩)).mono ?_
  rw [H1.out]
  rintro en w2 ⟨⟨u, j, rfl, hj, hdr, hou, hpb⟩, hg2⟩
  have HR2 := Lib.hid ((HB0.out _).method hg2 hpb)
  have HDR := Lib.hid hdr
  rw [HN.out] at hj
  obtain ⟨uA, uc, rfl⟩ := ownT_shape hou
  have HU2 := Lib.hid (hou.slB (hi := w2.heap.size) (Nat.le_refl _))
  obtain ⟨no, hno⟩ : ∃ no, o.length = no := ⟨_, rfl⟩
  rw [hno] at HU2 HFEW ⊢
  have HNO := Lib.hid hno
  have b0 : w2.cell? ⟨w.heap.size, 0, none⟩ = some (.slice none 0 0) := HR2.out.box.at 0
  have f0 : w2.frozen? ⟨w.heap.size, 0, none⟩ = false := HR2.out.box.free 0
  have HR3 := Lib.hid (HR2.out.set 0 (.slice uA no uc))
  have HU3 := Lib.hid (HU2.out.sr HR2.out.box.ty 0 (.slice uA no uc))
  have H3 : Hid (Mn.names 8 true (fun x => Mn.isW [124] x || Mn.isW [61] x) (L.drop j) [] = .ok (i, x :: rx)) := Lib.hid (by rw [HDR.out]; exact H2.out)
  have hjm : min (j : Int) (n : Int) = (j : Int) := by omega
  have HJ := Lib.hid hj
  clear hg2 hpb hou hdr q0 hno hj
  go_wp2_with fail
  refine (refnames_any g j 8 true [124] [61] _ L _ dv lv fv ⟨0, 0, 0⟩ _ HR3.out.prd.blk rfl HR3.out.wrd HNE1.out (by rw [HN.out]; omega) (by rw [HN.out]; exact HJ.out) (by omega) (fun x hx => ⟨(HT.out x hx).1, by have := (HT.out x hx).2.1; omega⟩) (by simp) (by simp)).mono ?_
  rw [H3.out]
  rintro en w4 ⟨⟨ui, ji, rfl, hj4, hdr4, hou4, hpb4⟩, hg4⟩
  have HR4 := Lib.hid (HR3.out.method hg4 hpb4)
  obtain ⟨iA, ic, rfl⟩ := ownT_shape hou4
  have hz4 : w2.heap.size ≤ w4.heap.size := by have := hg4.size; simpa using this
  have HU4 := Lib.hid ((HU3.out.gp hg4 HR3.out.prd.blk.ty).more hz4)
  have HI4 := Lib.hid (hou4.slB (hi := w4.heap.size) (Nat.le_refl _))
  obtain ⟨ni, hni⟩ : ∃ ni, i.length = ni := ⟨_, rfl⟩
  rw [hni] at HI4 ⊢
  have k1 : w4.cell? ⟨w.heap.size, 1, none⟩ = some (.slice none 0 0) := HR4.out.box.at 1
  have f1 : w4.frozen? ⟨w.heap.size, 1, none⟩ = false := HR4.out.box.free 1
  obtain ⟨hjiL, hjix, hjir⟩ := drop_cons hdr4
  have HJR := Lib.hid hjir
  have HX4 := Lib.hid hdr4
  obtain ⟨B, off, rfl, a0, a1, a2, a3⟩ := HR4.out.wrd.at2 ji hjiL
  have hBne : B ≠ w.heap.size := by have := HNE2.out; intro e; apply this; rw [e]; rfl
  rw [hjix] at a0 a1 a2 a3
  have HXT := Lib.hid (HT.out x (by rw [← hjix]; exact List.getElem_mem hjiL))
  have hjn : ji < n := by rw [← HN.out]; exact hjiL
  have hjnI : (ji : Int) < (n : Int) := by omega
  have hnI : (n : Int) ≤ 100000 := by omega
  have HIS := Lib.hid (fun W => refis_w [124] x W HXT.out.1 (by decide))
  have HR5 := Lib.hid (HR4.out.set 1 (.slice iA ni ic))
  have HU5 := Lib.hid (HU4.out.sr HR4.out.box.ty 1 (.slice iA ni ic))
  have HI5 := Lib.hid (HI4.out.sr HR4.out.box.ty 1 (.slice iA ni ic))
  have HX := Lib.hid hjix
  obtain ⟨xt, xl, xc, xq⟩ := x
  change w4.cell? ⟨B, off + ji * 4, none⟩ = some (.string (str xt)) at a0
  change w4.cell? ⟨B, off + ji * 4 + 1, none⟩ = some (.int .i64 (xl : Int)) at a1
  change w4.cell? ⟨B, off + ji * 4 + 2, none⟩ = some (.int .i64 (xc : Int)) at a2
  change w4.cell? ⟨B, off + ji * 4 + 3, none⟩ = some (.bool xq) at a3
  rw [show (cellsW ⟨xt, xl, xc, xq⟩).toArray = #[.string (str xt), .int .i64 (xl : Int), .int .i64 (xc : Int), .bool xq] from rfl] at HIS
  clear hg4 hpb4 hou4 hdr4 hj4 hjir hjix hni hjm
  go_wp2_with fail
  refine (HIS.out _).mono ?_
  rintro en w6 ⟨rfl, hb6⟩
  obtain ⟨q, hq⟩ : ∃ q, Mn.isW [124] ⟨xt, xl, xc, xq⟩ = q := ⟨_, rfl⟩
  rw [hq] at HC ⊢
  have HR6 := Lib.hid (HR5.out.under hb6)
  have HU6 := Lib.hid ((HU5.out.bl hb6).more (hi' := w6.heap.size) (by have := hb6.size; simpa using this))
  have HI6 := Lib.hid ((HI5.out.bl hb6).more (hi' := w6.heap.size) (by have := hb6.size; simpa using this))
  clear hb6 a0 a1 a2 a3 k1 f1 b0 f0 hq
  cases q with
  | true =>
    obtain ⟨-, hnm⟩ : true = true ∧ Mn.names 8 true (Mn.isW [61]) rx [] = .ok (d, y :: r4) := by
      rcases HC.out with h | ⟨h, _⟩
      · exact h
      · cases h
    have HO7 : Hid (Mn.names 8 true (fun x => Mn.isW [61] x || Mn.isW [61] x) (L.drop (ji + 1)) [] = .ok (d, y :: r4)) := Lib.hid (by rw [HJR.out, ← hnm]; exact names_congr _ _ (fun x _ => Bool.or_self _))
    obtain ⟨k0, hk0⟩ : ∃ k, ji + 1 = k := ⟨_, rfl⟩
    rw [hk0] at HO7
    have hk0I : (ji : Int) + 1 = (k0 : Int) := by omega
    have hk0n : k0 ≤ n := by omega
    have HK0 := Lib.hid hk0n
    clear hnm hk0 hk0n
    go_wp2_with fail
    refine (refnames_any g k0 8 true [61] [61] _ L _ dv lv fv ⟨0, 0, 0⟩ _ HR6.out.prd.blk rfl HR6.out.wrd HNE1.out (by rw [HN.out]; have := HL.out.2; omega) (by rw [HN.out]; exact HK0.out) (by omega) (fun x hx => ⟨(HT.out x hx).1, by have := (HT.out x hx).2.1; omega⟩) (by decide) (by decide)).mono ?_
    rw [HO7.out]
    rintro en w7 ⟨⟨ud, jd, rfl, hj7, hdr7, hou7, hpb7⟩, hg7⟩
    have HR7 := Lib.hid (HR6.out.method hg7 hpb7)
    have hz7 : w6.heap.size ≤ w7.heap.size := hg7.size
    have HP7 : Hid (Parts w7 w7.heap.size (.slice uA no uc, .slice iA ni ic, ud, .slice none 0 0) ⟨o, i, d, [], false⟩) := Lib.hid ⟨(HU6.out.gp hg7 HR6.out.prd.blk.ty).more hz7, (HI6.out.gp hg7 HR6.out.prd.blk.ty).more hz7, hou7.slB (Nat.le_refl _), slB_nil _ _ _ _ _⟩
    obtain ⟨dA, dc, rfl⟩ := ownT_shape hou7
    obtain ⟨nd, hnd⟩ : ∃ nd, d.length = nd := ⟨_, rfl⟩
    rw [hnd] at HP7 ⊢
    have k2 : w7.cell? ⟨w.heap.size, 2, none⟩ = some (.slice none 0 0) := HR7.out.box.at 2
    have f2 : w7.frozen? ⟨w.heap.size, 2, none⟩ = false := HR7.out.box.free 2
    have HR8 := Lib.hid (HR7.out.set 2 (.slice dA nd dc))
    have HP8 : Hid (Parts (w7.setCell ⟨w.heap.size, 2, none⟩ (.slice dA nd dc)) (w7.setCell ⟨w.heap.size, 2, none⟩ (.slice dA nd dc)).heap.size (.slice uA no uc, .slice iA ni ic, .slice dA nd dc, .slice none 0 0) ⟨o, i, d, [], false⟩) := Lib.hid (by rw [show (w7.setCell ⟨w.heap.size, 2, none⟩ (.slice dA nd dc)).heap.size = w7.heap.size by simp]; exact HP7.out.sr HR7.out.box.ty 2 _)
    have HDJ := Lib.hid hdr7
    have HJD : Hid (jd ≤ 1000000) := Lib.hid (by rw [HN.out] at hj7; have := HL.out.2; omega)
    clear hg7 hpb7 hou7 hdr7 hj7 hnd hz7 hk0I
    go_wp2_with fail
    refine (refneed_any g jd [61] _ L _ dv lv fv ⟨0, 0, 0⟩ _ HR8.out.prd.blk HR8.out.wrd (by rw [HN.out]; exact HL.out.1) (by have := HJD.out; omega) (fun x hx => ⟨(HT.out x hx).1, by have := (HT.out x hx).2.1; omega⟩) (by decide)).mono ?_
    rintro en w9 ⟨rfl, hpb9, hg9⟩
    rw [needF_ok HDJ.out HY.out] at hpb9
    have HR9 := Lib.hid (HR8.out.method hg9 hpb9)
    have HP9 := Lib.hid (HP8.out.gp hg9 HR8.out.prd.blk.ty hg9.size)
    obtain ⟨hjdL, -, hjdr⟩ := drop_cons HDJ.out
    have HDR9 := Lib.hid hjdr
    have hjdn : jd < n := by rw [← HN.out]; exact hjdL
    obtain ⟨k, hk⟩ : ∃ k, jd + 1 = k := ⟨_, rfl⟩
    rw [hk] at HDR9 ⊢
    have hkm : min (k : Int) (n : Int) = (k : Int) := by omega
    have hkn : k ≤ n := by omega
    have HKN := Lib.hid hkn
    have c0 : w9.cell? ⟨w.heap.size, 0, none⟩ = some (.slice uA no uc) := HR9.out.box.at 0
    clear hg9 hpb9 hk hkn hjdn hjdL hjdr
    go_wp2_with fail
    refine (refacts_good g k no _ L _ dv lv fv ⟨0, 0, 0⟩ _ HR9.out.prd.blk rfl HR9.out.wrd (by rw [HN.out]; exact HL.out.1) (by rw [HN.out]; exact HL.out.2) (by rw [HN.out]; exact HKN.out) (by have := HFEW.out; omega) (fun x hx => ⟨(HT.out x hx).1, (HT.out x hx).2.1⟩) _ acts (by rw [HDR9.out, ← HNO.out]; exact H5.out)).mono ?_
    rintro en w10 ⟨ua, rfl, hoa, hb10⟩
    have HR10 := Lib.hid (HR9.out.under hb10)
    have HP10 := Lib.hid (HP9.out.bl hb10 hb10.size)
    have HA10 := Lib.hid (hoa.slB (hi := w10.heap.size) (Nat.le_refl _))
    obtain ⟨aA, ac, rfl⟩ := hoa.parts
    obtain ⟨na, hna⟩ : ∃ na, acts.length = na := ⟨_, rfl⟩
    rw [hna] at HA10 ⊢
    have k3 : w10.cell? ⟨w.heap.size, 3, none⟩ = some (.slice none 0 0) := HR10.out.box.at 3
    have f3' : w10.frozen? ⟨w.heap.size, 3, none⟩ = false := HR10.out.box.free 3
    obtain ⟨w11, hw11⟩ : ∃ w11, w11 = w10.setCell ⟨w.heap.size, 3, none⟩ (.slice aA na ac) := ⟨_, rfl⟩
    have hz11 : w10.heap.size = w11.heap.size := by rw [hw11]; simp
    have hr11 := HR10.out.set 3 (.slice aA na ac)
    have hp11 := HP10.out.sr HR10.out.box.ty 3 (.slice aA na ac)
    have ha11 := HA10.out.keep (KeepB.grown (grown_setCell w10 ⟨w.heap.size, 3, none⟩ (.slice aA na ac)) HR10.out.box.ty notPart_rule) (.inr (.inr (.inl rfl))) (.inr (.inl rfl))
    rw [← hw11] at hr11 hp11 ha11
    rw [hz11] at hp11 ha11
    obtain ⟨v', w', hap, ⟨Av', nv, cv', rfl⟩, g3, f3, hrd, hbb⟩ := (hr11.prd.more (Nat.le_of_lt hr11.box.size) (Nat.le_refl _)).addRule (.slice uA no uc, .slice iA ni ic, .slice dA nd dc, .slice aA na ac) ⟨o, i, d, acts, false⟩ ⟨hp11.outs, hp11.ins, hp11.order, ha11⟩ (by rw [HM.out]; omega) 23
    have r3 : w11.cell? ⟨g, 0, none⟩ = some (.slice A m c) := hr11.prd.blk.at 0
    have b0 : w11.cell? ⟨w.heap.size, 0, none⟩ = some (.slice uA no uc) := hr11.box.at 0
    have b1 : w11.cell? ⟨w.heap.size, 1, none⟩ = some (.slice iA ni ic) := hr11.box.at 1
    have b2 : w11.cell? ⟨w.heap.size, 2, none⟩ = some (.slice dA nd dc) := hr11.box.at 2
    have b3 : w11.cell? ⟨w.heap.size, 3, none⟩ = some (.slice aA na ac) := hr11.box.at 3
    have b4 : w11.cell? ⟨w.heap.size, 4, none⟩ = some (.bool false) := hr11.box.at 4
    have hg11 : g < w11.heap.size := hr11.prd.blk.size
    have hb11 : w.heap.size < w11.heap.size := hr11.box.size
    rw [show (cellsR (.slice uA no uc, .slice iA ni ic, .slice dA nd dc, .slice aA na ac) ⟨o, i, d, acts, false⟩).toArray = #[.slice uA no uc, .slice iA ni ic, .slice dA nd dc, .slice aA na ac, .bool false] from rfl] at hap
    have HFIN : Hid (∃ rv', PRd (w'.setCell ⟨g, 0, none⟩ (.slice Av' nv cv')) base (w'.setCell ⟨g, 0, none⟩ (.slice Av' nv cv')).heap.size g rv' dv lv fv (rules ++ [⟨o, i, d, acts, false⟩]) ∧ Below base w (w'.setCell ⟨g, 0, none⟩ (.slice Av' nv cv')) ∧ KeepB w (w'.setCell ⟨g, 0, none⟩ (.slice Av' nv cv')) w.heap.size PartTy) := Lib.hid ⟨_, by simpa using hrd, hr11.bel.trans hbb.1, hr11.kp.trans hbb.2 hr11.bel.size⟩
    have HAP := Lib.hid hap
    have HW11 := Lib.hid hw11
    clear hr11 hp11 ha11 hrd hbb hap hoa hb10 hw11 hna
    go_wp2_with fail
    rw [← HW11.out]
    clear k3 f3' HW11
    go_region_law (refine step_append_eq rfl (.tmp 97) (.tmp 99) 23 rfl _ _ rfl rfl HAP.out ?_)
    all_goals (go_wp2; go_end0; exact ⟨rfl, HFIN.out⟩)
  | false =>
    obtain ⟨-, rfl, hyx⟩ : false = false ∧ d = [] ∧ y :: r4 = ⟨xt, xl, xc, xq⟩ :: rx := by
      rcases HC.out with ⟨h, _⟩ | h
      · cases h
      · exact h
    have HR8 := HR6
    have HP8 : Hid (Parts w6 w6.heap.size (.slice uA no uc, .slice iA ni ic, .slice none 0 0, .slice none 0 0) ⟨o, i, [], [], false⟩) := Lib.hid ⟨HU6.out, HI6.out, slB_nil _ _ _ _ _, slB_nil _ _ _ _ _⟩
    obtain ⟨jd, rfl⟩ : ∃ jd, jd = ji := ⟨_, rfl⟩
    have HDJ : Hid (L.drop jd = y :: r4) := Lib.hid (by rw [hyx]; exact HX4.out)
    have HJD : Hid (jd ≤ 1000000) := Lib.hid (by have := HL.out.2; omega)
    clear hyx HR6
    go_wp2_with fail
    refine (refneed_any g jd [61] _ L _ dv lv fv ⟨0, 0, 0⟩ _ HR8.out.prd.blk HR8.out.wrd (by rw [HN.out]; exact HL.out.1) (by have := HJD.out; omega) (fun x hx => ⟨(HT.out x hx).1, by have := (HT.out x hx).2.1; omega⟩) (by decide)).mono ?_
    rintro en w9 ⟨rfl, hpb9, hg9⟩
    rw [needF_ok HDJ.out HY.out] at hpb9
    have HR9 := Lib.hid (HR8.out.method hg9 hpb9)
    have HP9 := Lib.hid (HP8.out.gp hg9 HR8.out.prd.blk.ty hg9.size)
    obtain ⟨hjdL, -, hjdr⟩ := drop_cons HDJ.out
    have HDR9 := Lib.hid hjdr
    have hjdn : jd < n := by rw [← HN.out]; exact hjdL
    obtain ⟨k, hk⟩ : ∃ k, jd + 1 = k := ⟨_, rfl⟩
    rw [hk] at HDR9 ⊢
    have hkm : min (k : Int) (n : Int) = (k : Int) := by omega
    have hkn : k ≤ n := by omega
    have HKN := Lib.hid hkn
    have c0 : w9.cell? ⟨w.heap.size, 0, none⟩ = some (.slice uA no uc) := HR9.out.box.at 0
    clear hg9 hpb9 hk hkn hjdn hjdL hjdr
    go_wp2_with fail
    refine (refacts_good g k no _ L _ dv lv fv ⟨0, 0, 0⟩ _ HR9.out.prd.blk rfl HR9.out.wrd (by rw [HN.out]; exact HL.out.1) (by rw [HN.out]; exact HL.out.2) (by rw [HN.out]; exact HKN.out) (by have := HFEW.out; omega) (fun x hx => ⟨(HT.out x hx).1, (HT.out x hx).2.1⟩) _ acts (by rw [HDR9.out, ← HNO.out]; exact H5.out)).mono ?_
    rintro en w10 ⟨ua, rfl, hoa, hb10⟩
    have HR10 := Lib.hid (HR9.out.under hb10)
    have HP10 := Lib.hid (HP9.out.bl hb10 hb10.size)
    have HA10 := Lib.hid (hoa.slB (hi := w10.heap.size) (Nat.le_refl _))
    obtain ⟨aA, ac, rfl⟩ := hoa.parts
    obtain ⟨na, hna⟩ : ∃ na, acts.length = na := ⟨_, rfl⟩
    rw [hna] at HA10 ⊢
    have k3 : w10.cell? ⟨w.heap.size, 3, none⟩ = some (.slice none 0 0) := HR10.out.box.at 3
    have f3' : w10.frozen? ⟨w.heap.size, 3, none⟩ = false := HR10.out.box.free 3
    obtain ⟨w11, hw11⟩ : ∃ w11, w11 = w10.setCell ⟨w.heap.size, 3, none⟩ (.slice aA na ac) := ⟨_, rfl⟩
    have hz11 : w10.heap.size = w11.heap.size := by rw [hw11]; simp
    have hr11 := HR10.out.set 3 (.slice aA na ac)
    have hp11 := HP10.out.sr HR10.out.box.ty 3 (.slice aA na ac)
    have ha11 := HA10.out.keep (KeepB.grown (grown_setCell w10 ⟨w.heap.size, 3, none⟩ (.slice aA na ac)) HR10.out.box.ty notPart_rule) (.inr (.inr (.inl rfl))) (.inr (.inl rfl))
    rw [← hw11] at hr11 hp11 ha11
    rw [hz11] at hp11 ha11
    obtain ⟨v', w', hap, ⟨Av', nv, cv', rfl⟩, g3, f3, hrd, hbb⟩ := (hr11.prd.more (Nat.le_of_lt hr11.box.size) (Nat.le_refl _)).addRule (.slice uA no uc, .slice iA ni ic, .slice none 0 0, .slice aA na ac) ⟨o, i, [], acts, false⟩ ⟨hp11.outs, hp11.ins, hp11.order, ha11⟩ (by rw [HM.out]; omega) 23
    have r3 : w11.cell? ⟨g, 0, none⟩ = some (.slice A m c) := hr11.prd.blk.at 0
    have b0 : w11.cell? ⟨w.heap.size, 0, none⟩ = some (.slice uA no uc) := hr11.box.at 0
    have b1 : w11.cell? ⟨w.heap.size, 1, none⟩ = some (.slice iA ni ic) := hr11.box.at 1
    have b2 : w11.cell? ⟨w.heap.size, 2, none⟩ = some (.slice none 0 0) := hr11.box.at 2
    have b3 : w11.cell? ⟨w.heap.size, 3, none⟩ = some (.slice aA na ac) := hr11.box.at 3
    have b4 : w11.cell? ⟨w.heap.size, 4, none⟩ = some (.bool false) := hr11.box.at 4
    have hg11 : g < w11.heap.size := hr11.prd.blk.size
    have hb11 : w.heap.size < w11.heap.size := hr11.box.size
    rw [show (cellsR (.slice uA no uc, .slice iA ni ic, .slice none 0 0, .slice aA na ac) ⟨o, i, [], acts, false⟩).toArray = #[.slice uA no uc, .slice iA ni ic, .slice none 0 0, .slice aA na ac, .bool false] from rfl] at hap
    have HFIN : Hid (∃ rv', PRd (w'.setCell ⟨g, 0, none⟩ (.slice Av' nv cv')) base (w'.setCell ⟨g, 0, none⟩ (.slice Av' nv cv')).heap.size g rv' dv lv fv (rules ++ [⟨o, i, [], acts, false⟩]) ∧ Below base w (w'.setCell ⟨g, 0, none⟩ (.slice Av' nv cv')) ∧ KeepB w (w'.setCell ⟨g, 0, none⟩ (.slice Av' nv cv')) w.heap.size PartTy) := Lib.hid ⟨_, by simpa using hrd, hr11.bel.trans hbb.1, hr11.kp.trans hbb.2 hr11.bel.size⟩
    have HAP := Lib.hid hap
    have HW11 := Lib.hid hw11
    clear hr11 hp11 ha11 hrd hbb hap hoa hb10 hw11 hna
    go_wp2_with fail
    rw [← HW11.out]
    clear k3 f3' HW11
    go_region_law (refine step_append_eq rfl (.tmp 97) (.tmp 99) 23 rfl _ _ rfl rfl HAP.out ?_)
    all_goals (go_wp2; go_end0; exact ⟨rfl, HFIN.out⟩)
end Go.Proofs.Ytemliglhippdcaa

/- The document's parser: a line that is right, and is no line of let. -/
namespace Go.Proofs.Ytemliglhippdcaa
set_option maxRecDepth 100000
open Go.ChangeShapes Go.WideShapes Go.ChangeAt Go.RowKit Go.Shelf

theorem PlainW.isW {x : Ln.W} (h : PlainW x) : Mn.isW [] x = false := by
  unfold Mn.isW
  rcases h.own with h | ⟨h, _⟩
  · rw [h]; simp
  · have : x.text ≠ [] := by intro e; rw [e] at h; simp at h
    simp [this]
theorem put_plain (lets : Mn.Lets) : ∀ (l : List Ln.W), (∀ x ∈ l, PlainW x) → Mn.put lets l = .ok l
  | [], _ => rfl
  | x :: r, h => by
    rw [Mn.put, put_plain lets r (fun y hy => h y (by simp [hy]))]
    have : (x.q || decide (x.text.headD 0 ≠ 36)) = true := by
      rcases (h x (by simp)).own with h | ⟨_, h⟩
      · rw [h]; rfl
      · simp only [Bool.or_eq_true, decide_eq_true_eq]; exact .inr h
    rw [if_pos this]
    rfl
theorem line_cases {s s' : Mn.St} {f : Ln.W} {r0 : List Ln.W} (hp : ∀ x ∈ r0, PlainW x) (hl : Mn.isW [108, 101, 116] f = false) (h : Mn.line s (f :: r0) = .ok s') :
    (Mn.isW [114, 117, 108, 101] f = true ∧ ∃ x, Mn.rule s.rules false f r0 = .ok x ∧ s' = { s with rules := s.rules ++ [x] }) ∨
    (Mn.isW [114, 117, 108, 101] f = false ∧ Mn.isW [112, 104, 111, 110, 121] f = true ∧ ∃ x, Mn.rule s.rules true f r0 = .ok x ∧ s' = { s with rules := s.rules ++ [x] }) ∨
    (Mn.isW [114, 117, 108, 101] f = false ∧ Mn.isW [112, 104, 111, 110, 121] f = false ∧ Mn.isW [100, 101, 102, 97, 117, 108, 116] f = true ∧ s.dflt = [] ∧ r0 ≠ [] ∧ ∃ o q, Mn.names 8 false (fun _ => false) r0 [] = .ok (o, q) ∧ s' = { s with dflt := o, dw := r0 }) := by
  rw [Mn.line, put_plain _ _ hp] at h
  change (if Mn.isW [108, 101, 116] f = true then _ else _) = _ at h
  rw [hl, if_neg (by decide)] at h
  by_cases h1 : Mn.isW [114, 117, 108, 101] f = true
  · rw [if_pos h1] at h
    obtain ⟨x, hx, hs⟩ := Mn.bind_ok h
    exact .inl ⟨h1, x, hx, (by injection hs with hs; exact hs.symm)⟩
  · rw [if_neg h1] at h
    have h1' : Mn.isW [114, 117, 108, 101] f = false := by simpa using h1
    by_cases h2 : Mn.isW [112, 104, 111, 110, 121] f = true
    · rw [if_pos h2] at h
      obtain ⟨x, hx, hs⟩ := Mn.bind_ok h
      exact .inr (.inl ⟨h1', h2, x, hx, (by injection hs with hs; exact hs.symm)⟩)
    · rw [if_neg h2] at h
      have h2' : Mn.isW [112, 104, 111, 110, 121] f = false := by simpa using h2
      by_cases h3 : Mn.isW [100, 101, 102, 97, 117, 108, 116] f = true
      · rw [if_pos h3] at h
        by_cases h4 : s.dflt = []
        · rw [if_neg (by simpa using h4)] at h
          obtain ⟨⟨o, q⟩, hx, hs⟩ := Mn.bind_ok h
          dsimp only at hs
          by_cases h5 : r0 = []
          · rw [if_pos h5] at hs; cases hs
          · rw [if_neg h5] at hs
            exact .inr (.inr ⟨h1', h2', h3, h4, h5, o, q, hx, (by injection hs with hs; exact hs.symm)⟩)
        · rw [if_pos h4] at h; cases h
      · rw [if_neg h3] at h; cases h
/-- The parser between two lines, with nothing wrong so far. -/
def LRd (w : World) (base g : Nat) (s : Mn.St) : Prop := ∃ rv dv lv fv, PRd w base w.heap.size g rv dv lv fv s.rules ∧ SlTB w w.heap.size dv s.dflt ∧ SlW w w.heap.size fv s.dw
theorem LRd.under {w w' : World} {base g : Nat} {s : Mn.St} (h : LRd w base g s) (hb : Below w.heap.size w w') : LRd w' base g s := by
  obtain ⟨rv, dv, lv, fv, h1, h2, h3⟩ := h
  exact ⟨rv, dv, lv, fv, (h1.under hb).more hb.size (Nat.le_refl _), (h2.bl hb).more hb.size, (h3.keep (Q := PartTy) (KeepB.below hb) (.inr (.inr (.inr rfl)))).more hb.size⟩
theorem PRd.turn2 {w w' : World} {base hi g : Nat} {rv dv lv fv dv' lv' fv' : Value} {rules : List Mn.Rule} (h : PRd w base hi g rv dv lv fv rules) (hg : w.grownBy w' (some g)) (hB : Pb w' g rv dv' lv' fv' ⟨0, 0, 0⟩) : PRd w' base hi g rv dv' lv' fv' rules := by
  have hty : Ty w g 66 := Blk.ty h.blk
  refine ⟨hB, h.rules.keep (KeepB.grown hg hty notPart_parser) (fun k hk => ?_), h.g1, h.g2, Nat.le_trans h.top hg.size⟩
  have ht := h.rules.ty k hk
  exact hg.block k ht.2.2 (by
    intro e
    injection e with e
    subst e
    exact absurd rfl (ht.1.ne hty (by decide)))
set_option maxRecDepth 100000 in
set_option maxHeartbeats 16000000 in
theorem refline_any (base g : Nat) (v : Value) (f : Ln.W) (r0 : List Ln.W) (s s' : Mn.St) (w : World) (h : LRd w base g s) (hv : RdW w v (f :: r0)) (hL2 : (f :: r0).length ≤ 100000)
    (hP : ∀ x ∈ f :: r0, PlainW x) (hlet : Mn.isW [108, 101, 116] f = false) (ho : ∀ r ∈ s.rules, r.outs.length ≤ 1000000 ∧ ∀ x ∈ r.outs, ∀ c ∈ x, c < 256) (hs : Mn.line s (f :: r0) = .ok s') :
    Calls Try.prog 26 #[.pointer (some ⟨g, 0, none⟩), v] w fun en w' => en = .returned (.tuple #[]) ∧ LRd w' base g s' ∧ Below base w w' := by
  have HC := Lib.hid (line_cases (fun x hx => hP x (by simp [hx])) hlet hs)
  have HT : Hid (∀ x ∈ f :: r0, (∀ c ∈ x.text, c < 256) ∧ x.text.length ≤ 1000000 ∧ Mn.isW [] x = false) := Lib.hid (fun x hx => ⟨(hP x hx).bytes, (hP x hx).len, (hP x hx).isW⟩)
  have HP := Lib.hid hP
  have HO := Lib.hid ho
  have HV := Lib.hid hv
  have HR := Lib.hid h
  have HLET := Lib.hid hlet
  obtain ⟨L, hLe⟩ : ∃ L, f :: r0 = L := ⟨_, rfl⟩
  rw [hLe] at HV HT HP hL2
  have hL : 0 < L.length := by rw [← hLe]; simp
  obtain ⟨n, hn⟩ : ∃ n, L.length = n := ⟨_, rfl⟩
  have HN := Lib.hid hn
  have HLE := Lib.hid hLe
  have HL := Lib.hid (And.intro hL hL2)
  have hf0 : L[0]'hL = f := by subst hLe; rfl
  have HF0 := Lib.hid hf0
  have hnI : ¬ (n : Int) < 1 := by omega
  clear h hv hP hlet ho hs hLe
  go_enter Try.func26, Try.ntmps26
  go_wp2_with fail
  refine (refput_any g v L _ HV.out HL.out.1 HL.out.2 HP.out).mono ?_
  rintro en w1 ⟨u, rfl, hou, hb1⟩
  have HR1 := Lib.hid (HR.out.under hb1)
  have HB01 := Lib.hid (hb1.mono (show base ≤ w.heap.size from by obtain ⟨_, _, _, _, hq, _⟩ := HR.out; have := hq.g1; have := hq.g2; omega))
  have HU1 := Lib.hid hou
  obtain ⟨b, cap, rfl, hbz⟩ : ∃ b cap, u = .slice (some ⟨b, 0, none⟩) L.length cap ∧ w.heap.size ≤ b := by
    rcases hou.2 with ⟨_, h0⟩ | ⟨gg, cap, cur, e, h1, _⟩
    · exact absurd h0 (by have := HL.out.1; omega)
    · exact ⟨gg, cap, e, h1⟩
  rw [HN.out] at HU1 ⊢
  have HNG : Hid ((Value.slice (some ⟨b, 0, none⟩) n cap).ownBlock ≠ some g) := Lib.hid (by
    obtain ⟨_, _, _, _, hq, _⟩ := HR.out
    intro e
    injection e with e
    have := hq.g2
    dsimp only at e
    omega)
  have hrd1 := HU1.out.rd
  obtain ⟨B', off', hA', a0, a1, a2, a3⟩ := hrd1.at2 0 HL.out.1
  cases hA'
  rw [HF0.out] at a0 a1 a2 a3
  have HIS := Lib.hid (fun t (ht : ∀ c ∈ t, c < 256) W => refis_w t f W (HT.out f (by rw [← HLE.out]; simp)).1 ht)
  have HLETF := HLET
  obtain ⟨xt, xl, xc, xq⟩ := f
  change w1.cell? ⟨b, 0 + 0 * 4, none⟩ = some (.string (str xt)) at a0
  change w1.cell? ⟨b, 0 + 0 * 4 + 1, none⟩ = some (.int .i64 (xl : Int)) at a1
  change w1.cell? ⟨b, 0 + 0 * 4 + 2, none⟩ = some (.int .i64 (xc : Int)) at a2
  change w1.cell? ⟨b, 0 + 0 * 4 + 3, none⟩ = some (.bool xq) at a3
  rw [Nat.zero_mul, Nat.add_zero] at a0 a1 a2 a3
  rw [show (cellsW ⟨xt, xl, xc, xq⟩).toArray = #[.string (str xt), .int .i64 (xl : Int), .int .i64 (xc : Int), .bool xq] from rfl] at HIS
  obtain ⟨rv, dv, lv, fv, hprd, hdf, hdw⟩ := HR1.out
  have e4 : w1.cell? ⟨g, 4, none⟩ = some (.int .i64 0) := hprd.blk.at 4
  have HPR := Lib.hid hprd
  have HDF := Lib.hid hdf
  have HDW := Lib.hid hdw
  clear hb1 hou hrd1 hbz HF0 hf0 hn hprd hdf hdw
  go_wp2_with fail
  refine (HIS.out [108, 101, 116] (by decide) _).mono ?_
  rw [HLET.out]
  rintro en w2 ⟨rfl, hb2⟩
  have c0 := cell_later hb2 a0
  have c1 := cell_later hb2 a1
  have c2 := cell_later hb2 a2
  have c3 := cell_later hb2 a3
  have HB2 := Lib.hid hb2
  clear a0 a1 a2 a3 hb2 e4
  go_wp2_with fail
  refine (HIS.out [114, 117, 108, 101] (by decide) _).mono ?_
  rintro en w3 ⟨rfl, hb3⟩
  have HBW1 := Lib.hid (show base ≤ w1.heap.size from by have := HPR.out.g1; have := HPR.out.g2; omega)
  rcases HC.out with ⟨h1, x, hx, rfl⟩ | ⟨h1, h2, x, hx, rfl⟩ | ⟨h1, h2, h3, h4, h5, o, q, h6, rfl⟩
  · rw [h1]
    have HX := Lib.hid hx
    have HB3 := Lib.hid (HB2.out.trans (hb3.mono HB2.out.size))
    have HPR3 := Lib.hid ((HPR.out.under HB3.out).more HB3.out.size (Nat.le_refl _))
    have HDF3 := Lib.hid ((HDF.out.bl HB3.out).more HB3.out.size)
    have HDW3 := Lib.hid ((HDW.out.keep (Q := PartTy) (KeepB.below HB3.out) (.inr (.inr (.inr rfl)))).more HB3.out.size)
    have HU3 := Lib.hid (HU1.out.rd.under HB3.out)
    clear hb3 h1 hx c0 c1 c2 c3
    go_wp2_with fail
    refine (refrule_plain base g _ L rv dv lv fv s.rules _ HPR3.out HU3.out HNG.out HL.out.1 HL.out.2 HT.out HO.out x (by rw [← HLE.out]; exact HX.out)).mono ?_
    rintro en w9 ⟨rfl, rv', hprd, hbb, hkp⟩
    have HFIN : Hid (LRd w9 base g { s with rules := s.rules ++ [x] } ∧ Below base w w9) := Lib.hid ⟨⟨rv', dv, lv, fv, hprd, (HDF3.out.keep hkp (.inl rfl)).more hbb.size, (HDW3.out.keep hkp (.inr (.inr (.inr rfl)))).more hbb.size⟩, (HB01.out.trans (HB3.out.mono HBW1.out)).trans hbb⟩
    clear hprd hbb hkp
    go_wp2
    go_end0
    exact ⟨rfl, HFIN.out⟩
  · rw [h1]
    have HX := Lib.hid hx
    have HW2 := Lib.hid h2
    have HB3 := Lib.hid (HB2.out.trans (hb3.mono HB2.out.size))
    have c30 := cell_later hb3 c0
    have c31 := cell_later hb3 c1
    have c32 := cell_later hb3 c2
    have c33 := cell_later hb3 c3
    clear hb3 h1 h2 hx c0 c1 c2 c3
    go_wp2_with fail
    refine (HIS.out [112, 104, 111, 110, 121] (by decide) _).mono ?_
    rw [HW2.out]
    rintro en w4 ⟨rfl, hb4⟩
    have HB4 := Lib.hid (HB3.out.trans (hb4.mono HB3.out.size))
    have HPR4 := Lib.hid ((HPR.out.under HB4.out).more HB4.out.size (Nat.le_refl _))
    have HDF4 := Lib.hid ((HDF.out.bl HB4.out).more HB4.out.size)
    have HDW4 := Lib.hid ((HDW.out.keep (Q := PartTy) (KeepB.below HB4.out) (.inr (.inr (.inr rfl)))).more HB4.out.size)
    have HU4 := Lib.hid (HU1.out.rd.under HB4.out)
    clear hb4 c30 c31 c32 c33
    go_wp2_with fail
    refine (refrule_phony base g _ L rv dv lv fv s.rules _ HPR4.out HU4.out HNG.out HL.out.1 HL.out.2 HT.out HO.out x (by rw [← HLE.out]; exact HX.out)).mono ?_
    rintro en w9 ⟨rfl, rv', hprd, hbb, hkp⟩
    have HFIN : Hid (LRd w9 base g { s with rules := s.rules ++ [x] } ∧ Below base w w9) := Lib.hid ⟨⟨rv', dv, lv, fv, hprd, (HDF4.out.keep hkp (.inl rfl)).more hbb.size, (HDW4.out.keep hkp (.inr (.inr (.inr rfl)))).more hbb.size⟩, (HB01.out.trans (HB4.out.mono HBW1.out)).trans hbb⟩
    clear hprd hbb hkp
    go_wp2
    go_end0
    exact ⟨rfl, HFIN.out⟩
  · rw [h1]
    have HW2 := Lib.hid h2
    have HW3 := Lib.hid h3
    have HX := Lib.hid h6
    have HB3 := Lib.hid (HB2.out.trans (hb3.mono HB2.out.size))
    have c30 := cell_later hb3 c0
    have c31 := cell_later hb3 c1
    have c32 := cell_later hb3 c2
    have c33 := cell_later hb3 c3
    clear hb3 h1 h2 h3 h6 c0 c1 c2 c3
    go_wp2_with fail
    refine (HIS.out [112, 104, 111, 110, 121] (by decide) _).mono ?_
    rw [HW2.out]
    rintro en w4 ⟨rfl, hb4⟩
    have HB4 := Lib.hid (HB3.out.trans (hb4.mono HB3.out.size))
    have c40 := cell_later hb4 c30
    have c41 := cell_later hb4 c31
    have c42 := cell_later hb4 c32
    have c43 := cell_later hb4 c33
    clear hb4 c30 c31 c32 c33
    go_wp2_with fail
    refine (HIS.out [100, 101, 102, 97, 117, 108, 116] (by decide) _).mono ?_
    rw [HW3.out]
    rintro en w5 ⟨rfl, hb5⟩
    have HB5 := Lib.hid (HB4.out.trans (hb5.mono HB4.out.size))
    have HPR5 := Lib.hid ((HPR.out.under HB5.out).more HB5.out.size (Nat.le_refl _))
    have HDF5 := Lib.hid ((HDF.out.bl HB5.out).more HB5.out.size)
    have HDW5 := Lib.hid ((HDW.out.keep (Q := PartTy) (KeepB.below HB5.out) (.inr (.inr (.inr rfl)))).more HB5.out.size)
    have HU5 := Lib.hid (HU1.out.rd.under HB5.out)
    clear hb5 c40 c41 c42 c43
    obtain ⟨dA, dc, rfl, -⟩ := HDF5.out.parts
    have hn2 : ¬ (n : Int) < 2 := by
      have h1 := HN.out
      rw [← HLE.out, List.length_cons] at h1
      have : 0 < r0.length := by cases r0 with
        | nil => exact absurd rfl h5
        | cons _ _ => simp
      omega
    have hn3 : 2 ≤ n := by omega
    have hn1I : (1 : Int) ≤ (n : Int) := by omega
    have HNN := Lib.hid hn3
    rw [h4] at HDF5 HPR5
    change Hid (PRd w5 base w5.heap.size g rv (.slice dA 0 dc) lv fv s.rules) at HPR5
    have q1 := HPR5.out.blk.at 1
    change w5.cell? ⟨g, 1, none⟩ = some (.slice dA 0 dc) at q1
    have H6 : Hid (Mn.names 8 false (fun x => Mn.isW [] x || Mn.isW [] x) (L.drop 1) [] = .ok (o, q)) := Lib.hid (by
      rw [← HX.out, ← HLE.out]
      refine names_congr _ _ (fun x hx => ?_)
      rw [(HT.out x (by rw [← HLE.out]; exact List.mem_of_mem_drop hx)).2.2]
      rfl)
    clear h4 h5
    go_wp2_with fail
    refine (refnames_any g 1 8 false [] [] _ L _ _ lv fv ⟨0, 0, 0⟩ _ HPR5.out.blk rfl HU5.out HNG.out (by have := HL.out.2; omega) (by have := HN.out; have := HNN.out; omega) (by omega) (fun x hx => ⟨(HT.out x hx).1, by have := (HT.out x hx).2.1; omega⟩) (by simp) (by simp)).mono ?_
    rw [H6.out]
    rintro en w6 ⟨⟨uo, j, rfl, -, -, hou, hpb⟩, hg6⟩
    obtain ⟨oA, oc, rfl⟩ := ownT_shape hou
    have HPR6 := Lib.hid (HPR5.out.turn hg6 hpb)
    have hkp6 : KeepB w5 w6 w5.heap.size PartTy := KeepB.grown hg6 HPR5.out.blk.ty notPart_parser
    have hz6 := hg6.size
    have HO6 := Lib.hid (hou.slB (hi := w6.heap.size) (Nat.le_refl _))
    have HW6 := Lib.hid (show SlW w6 w6.heap.size (.slice (some ⟨b, 0, none⟩) n cap) L from (by
      have h1 : SlW w1 w1.heap.size (.slice (some ⟨b, 0, none⟩) n cap) L := HU1.out.slB (Nat.le_refl _)
      exact ((h1.keep (Q := PartTy) ((KeepB.below HB5.out).trans hkp6 HB5.out.size) (.inr (.inr (.inr rfl)))).more (Nat.le_trans HB5.out.size hz6))))
    have hcn : n ≤ cap := by
      obtain ⟨_, _, he, hc⟩ := HW6.out.parts
      injection he with _ h1 h2
      omega
    have HCN := Lib.hid hcn
    obtain ⟨no, hno⟩ : ∃ no, o.length = no := ⟨_, rfl⟩
    rw [hno] at HO6 ⊢
    have hcap1 : ¬ cap = 1 := by have := HN.out; have := HNN.out; omega
    have k1 := hpb.at 1
    change w6.cell? ⟨g, 1, none⟩ = some (.slice dA 0 dc) at k1
    have k1f := hpb.free 1
    have k3 := hpb.at 3
    change w6.cell? ⟨g, 3, none⟩ = some fv at k3
    have k3f := hpb.free 3
    have HBL := Lib.hid (HB01.out.trans ((HB5.out.mono HBW1.out).trans ((Below.refl base w5).grown hg6 (Nat.le_trans HBW1.out HB5.out.size) (fun k e => by cases e; exact HPR5.out.g1))))
    clear hg6 hkp6 hcn hno
    have HFIN : Hid (LRd ((w6.setCell ⟨g, 1, none⟩ (.slice oA no oc)).setCell ⟨g, 3, none⟩ (.slice (some ⟨b, 4, none⟩) (n - 1) (cap - 1))) base g { s with dflt := o, dw := r0 } ∧ Below base w ((w6.setCell ⟨g, 1, none⟩ (.slice oA no oc)).setCell ⟨g, 3, none⟩ (.slice (some ⟨b, 4, none⟩) (n - 1) (cap - 1)))) := Lib.hid (by
      have hg1 := HPR6.out.g1
      refine ⟨⟨rv, .slice oA no oc, lv, .slice (some ⟨b, 4, none⟩) (n - 1) (cap - 1), ?_, ?_, ?_⟩, (HBL.out.setCell (p := ⟨g, 1, none⟩) hg1 _).setCell (p := ⟨g, 3, none⟩) hg1 _⟩
      · refine ((HPR6.out.more hz6 (Nat.le_refl _)).turn2 (grown_on (grown_setCell w6 ⟨g, 1, none⟩ (.slice oA no oc)) (grown_setCell _ ⟨g, 3, none⟩ _)) (Blk.set (Blk.set hpb 1 (.slice oA no oc)) 3 (.slice (some ⟨b, 4, none⟩) (n - 1) (cap - 1)))).more (by simp) (Nat.le_refl _)
      · have hty : Ty w6 g 66 := Blk.ty hpb
        exact (HO6.out.keep (KeepB.grown (grown_on (grown_setCell w6 ⟨g, 1, none⟩ (.slice oA no oc)) (grown_setCell _ ⟨g, 3, none⟩ _)) hty notPart_parser) (.inl rfl)).more (by simp)
      · have hty : Ty w6 g 66 := Blk.ty hpb
        have ht := SlW.tail (A' := some ⟨b, 4, none⟩) (d := cap - 1) (k := 1) HW6.out (by omega) (by have := HCN.out; omega) (fun _ b' off' e => by cases e; rfl)
        rw [← HLE.out] at ht
        exact (ht.keep (KeepB.grown (grown_on (grown_setCell w6 ⟨g, 1, none⟩ (.slice oA no oc)) (grown_setCell _ ⟨g, 3, none⟩ _)) hty notPart_parser) (.inr (.inr (.inr rfl)))).more (by simp))
    clear hpb
    go_wp2_with fail
    go_end0
    exact ⟨rfl, HFIN.out⟩
end Go.Proofs.Ytemliglhippdcaa

/- The document's parser: a manifest that is right, and holds no let. -/
namespace Go.Proofs.Ytemliglhippdcaa
set_option maxRecDepth 100000
open Go.ChangeShapes Go.WideShapes Go.ChangeAt Go.RowKit Go.Shelf

/-- A line that is no line of let, of words that stand for themselves. -/
structure GoodL (l : List Ln.W) : Prop where
  some : l ≠ []
  len : l.length ≤ 100000
  plain : ∀ x ∈ l, PlainW x
  nolet : Mn.isW [108, 101, 116] (l.headD ⟨[], 0, 0, false⟩) = false
theorem rdL_at {w : World} {A : Option Addr} {n c : Nat} {LL : List (List Ln.W)} (h : RdL w (.slice A n c) LL) (i : Nat) (hi : i < LL.length) : ∃ b off u, A = some ⟨b, off, none⟩ ∧ w.cell? ⟨b, off + i, none⟩ = some u ∧ RdW w u (LL[i]'hi) := by
  obtain ⟨A', c', e, _, _, hx⟩ := h
  injection e with e1 e2 e3
  subst e1
  obtain ⟨b, off, rfl, hc⟩ := hx (by omega)
  obtain ⟨u, h1, h2⟩ := hc i hi
  exact ⟨b, off, u, rfl, h1, h2⟩
theorem names_small {most : Nat} {rule : Bool} {stop : Ln.W → Bool} : ∀ (l : List Ln.W) (out o : List (List Nat)) (r : List Ln.W), Mn.names most rule stop l out = .ok (o, r) → (∀ w ∈ l, ∀ c ∈ w.text, c < 256) → (∀ x ∈ out, ∀ c ∈ x, c < 256) → out.length ≤ most → o.length ≤ most ∧ (∀ x ∈ o, ∀ c ∈ x, c < 256) ∧ (∀ w ∈ r, w ∈ l)
  | [], out, o, r, h, _, hx, hl => by rw [Mn.names] at h; cases h; exact ⟨hl, hx, by simp⟩
  | w :: l, out, o, r, h, hw, hx, hl => by
    rw [Mn.names] at h
    split at h
    · cases h; exact ⟨hl, hx, fun _ h => h⟩
    · split at h
      · cases h
      · split at h
        · cases h
        · obtain ⟨h1, h2, h3⟩ := names_small l _ o r h (fun y hy => hw y (by simp [hy])) (by
            intro x hxx
            rcases List.mem_append.1 hxx with h | h
            · exact hx x h
            · rw [List.mem_singleton.1 h]; exact hw w (by simp)) (by rw [List.length_append, List.length_singleton]; omega)
          exact ⟨h1, h2, fun y hy => by simp [h3 y hy]⟩
theorem outs_small {rules : List Mn.Rule} {most : Nat} {first : Ln.W} : ∀ (l : List Ln.W) (out o : List (List Nat)) (r : List Ln.W), Mn.outs rules most first l out = .ok (o, r) → (∀ w ∈ l, ∀ c ∈ w.text, c < 256) → (∀ x ∈ out, ∀ c ∈ x, c < 256) → (∀ x ∈ o, ∀ c ∈ x, c < 256) ∧ (∀ w ∈ r, w ∈ l)
  | [], out, o, r, h, _, hx => by rw [Mn.outs] at h; cases h
  | w :: l, out, o, r, h, hw, hx => by
    rw [Mn.outs] at h
    split at h
    · split at h
      · cases h
      · cases h; exact ⟨hx, fun y hy => by simp [hy]⟩
    · split at h
      · cases h
      · split at h
        · cases h
        · split at h
          · cases h
          · obtain ⟨h2, h3⟩ := outs_small l _ o r h (fun y hy => hw y (by simp [hy])) (by
              intro x hxx
              rcases List.mem_append.1 hxx with h | h
              · exact hx x h
              · rw [List.mem_singleton.1 h]; exact hw w (by simp))
            exact ⟨h2, fun y hy => by simp [h3 y hy]⟩
theorem rule_small {rules : List Mn.Rule} {ph : Bool} {f : Ln.W} {l : List Ln.W} {r : Mn.Rule} (h : Mn.rule rules ph f l = .ok r) (hw : ∀ w ∈ l, ∀ c ∈ w.text, c < 256) : SmallR r := by
  cases ph with
  | true =>
    obtain ⟨_, o, r1, i, r2, h1, h2, rfl⟩ := rule_phony h
    obtain ⟨a1, a2⟩ := outs_small _ _ _ _ h1 hw (by simp)
    obtain ⟨b1, b2, _⟩ := names_small _ _ _ _ h2 (fun w h => hw w (a2 w h)) (by simp) (by simp)
    exact ⟨⟨by have := outs_few _ _ _ _ h1 (by simp); show o.length ≤ _; omega, a1⟩, ⟨by show i.length ≤ _; omega, b2⟩, ⟨Nat.zero_le _, by simp⟩⟩
  | false =>
    obtain ⟨_, o, r1, i, r2, d, r3, r4, acts, h1, h2, h3, h4, h5, rfl⟩ := rule_plain h
    obtain ⟨a1, a2⟩ := outs_small _ _ _ _ h1 hw (by simp)
    obtain ⟨b1, b2, b3⟩ := names_small _ _ _ _ h2 (fun w h => hw w (a2 w h)) (by simp) (by simp)
    obtain ⟨x, rx, rfl, hc⟩ := ordered_ok h3 h4
    have hd : d.length ≤ 8 ∧ ∀ x ∈ d, ∀ c ∈ x, c < 256 := by
      rcases hc with ⟨_, hn⟩ | ⟨_, rfl, _⟩
      · obtain ⟨c1, c2, _⟩ := names_small _ _ _ _ hn (fun w h => hw w (a2 w (b3 w (by simp [h])))) (by simp) (by simp)
        exact ⟨c1, c2⟩
      · exact ⟨Nat.zero_le _, by simp⟩
    exact ⟨⟨by have := outs_few _ _ _ _ h1 (by simp); show o.length ≤ _; omega, a1⟩, ⟨by show i.length ≤ _; omega, b2⟩, ⟨by show d.length ≤ _; omega, hd.2⟩⟩
theorem line_small {s s' : Mn.St} {l : List Ln.W} (hl : GoodL l) (h : Mn.line s l = .ok s') (hs : ∀ r ∈ s.rules, SmallR r) (hk : s.dw.length ≤ 100000) (hp : ∀ x ∈ s.dw, PlainW x) : (∀ r ∈ s'.rules, SmallR r) ∧ s'.rules.length ≤ s.rules.length + 1 ∧ s'.dw.length ≤ 100000 ∧ ∀ x ∈ s'.dw, PlainW x := by
  cases l with
  | nil => exact absurd rfl hl.some
  | cons f r0 =>
    have hw : ∀ w ∈ r0, ∀ c ∈ w.text, c < 256 := fun w hw => (hl.plain w (by simp [hw])).bytes
    have hadd : ∀ x : Mn.Rule, SmallR x → ∀ r ∈ s.rules ++ [x], SmallR r := fun x hx r hr => by
      rcases List.mem_append.1 hr with h | h
      · exact hs r h
      · rw [List.mem_singleton.1 h]; exact hx
    rcases line_cases (fun x hx => hl.plain x (by simp [hx])) hl.nolet h with ⟨_, x, hx, rfl⟩ | ⟨_, _, x, hx, rfl⟩ | ⟨_, _, _, _, _, o, q, _, rfl⟩
    · exact ⟨hadd x (rule_small hx hw), by simp, hk, hp⟩
    · exact ⟨hadd x (rule_small hx hw), by simp, hk, hp⟩
    · exact ⟨hs, Nat.le_succ _, by have := hl.len; simp at this; show r0.length ≤ _; omega, fun x hx => hl.plain x (by simp [show x ∈ r0 from hx])⟩
set_option maxRecDepth 100000 in
set_option maxHeartbeats 16000000 in
theorem refparse_good (v : Value) (b : List Nat) (LL : List (List Ln.W)) (s : Mn.St) (w : World) (hv : Bytes w v b) (hb : b.length ≤ 1000000) (hsp : Ln.split b = .ok LL) (hLL : LL.length ≤ 100000) (hg : ∀ l ∈ LL, GoodL l) (hl : Mn.lines ⟨[], [], [], []⟩ LL = .ok s) (hd : Mn.dangling s.rules s.dw = none) (ho : (rulesF s.rules s.rules.length s.rules.length []).isSome = true) :
    Calls Try.prog 7 #[v] w fun e w' => (∃ rv dv, e = .returned (.tuple #[.agg #[rv, dv], .agg #[.int .i64 0, .int .i64 0, .int .i64 0]]) ∧ SlR w' rv s.rules ∧ SlT w' dv s.dflt) ∧ Below w.heap.size w w' := by
  have HV := Lib.hid hv
  have H2B := Lib.hid (two_boxes w #[.slice none 0 0, .slice none 0 0] #[.int .i64 0, .int .i64 0, .int .i64 0] 26 28)
  obtain ⟨W2, hW2⟩ : ∃ W2, (w.alloc (.cells #[.slice none 0 0, .slice none 0 0] 26)).alloc (.cells #[.int .i64 0, .int .i64 0, .int .i64 0] 28) = W2 := ⟨_, rfl⟩
  have HBW2 : Hid (Below w.heap.size w W2) := Lib.hid (by rw [← hW2]; exact ((Below.refl _ _).alloc (Nat.le_refl _) _).alloc (by simp) _)
  have HSZ2 : Hid (W2.heap.size = w.heap.size + 2) := Lib.hid (by rw [← hW2]; simp)
  rw [hW2] at H2B
  have HSP : Hid (Calls Try.prog 25 #[v] W2 (SplitIs b W2)) := Lib.hid (refsplit_any v b W2 (hv.under HBW2.out) hb)
  have HG := Lib.hid hg
  have HL := Lib.hid hl
  have HD := Lib.hid hd
  have HO := Lib.hid ho
  have HLL := Lib.hid hLL
  clear hv hb hg hl hd ho hLL
  go_enter Try.func7, Try.ntmps7
  go_wp2_with fail
  refine HSP.out.mono ?_
  rintro e w3 ⟨ht, hb3⟩
  rw [hsp] at ht
  obtain ⟨lv, rfl, hrd⟩ := ht
  have HB3 := Lib.hid hb3
  have HRL := Lib.hid hrd.rd
  clear hb3 hrd hsp hW2
  go_wp2_with fail
  obtain ⟨lA, lc, rfl, -⟩ := HRL.out
  obtain ⟨n, hn⟩ : ∃ n, LL.length = n := ⟨_, rfl⟩
  rw [hn] at HRL HLL ⊢
  have HN := Lib.hid hn
  obtain ⟨W4, hW4⟩ : ∃ W4, W4 = (w3.alloc (.cells #[.int .i64 0, .int .i64 0, .int .i64 0] 28)).alloc (.cells #[.slice none 0 0, .slice none 0 0, .slice none 0 0, .slice none 0 0, .int .i64 0, .int .i64 0, .int .i64 0] 66) := ⟨_, rfl⟩
  have HB4 : Hid (Below w3.heap.size w3 W4) := Lib.hid (by rw [hW4]; exact ((Below.refl _ _).alloc (Nat.le_refl _) _).alloc (by simp) _)
  have HTB := Lib.hid (two_boxes w3 #[.int .i64 0, .int .i64 0, .int .i64 0] #[.slice none 0 0, .slice none 0 0, .slice none 0 0, .slice none 0 0, .int .i64 0, .int .i64 0, .int .i64 0] 28 66)
  have HZ4 : Hid (W4.heap.size = w3.heap.size + 2) := Lib.hid (by rw [hW4]; simp)
  rw [← hW4] at HTB ⊢
  obtain ⟨g, hgg⟩ : ∃ g, w3.heap.size + 1 = g := ⟨_, rfl⟩
  rw [hgg] at HTB ⊢
  have HGG := Lib.hid hgg
  have HL0 : Hid (LRd W4 g g ⟨[], [], [], []⟩) := Lib.hid ⟨.slice none 0 0, .slice none 0 0, .slice none 0 0, .slice none 0 0, ⟨HTB.out.2, rulesB_nil W4 g W4.heap.size, Nat.le_refl _, by have := HZ4.out; have := HGG.out; omega, Nat.le_refl _⟩, slB_nil _ _ _ _ _, slB_nil _ _ _ _ _⟩
  have HBA : Hid (∀ W, Below g W4 W → Below w3.heap.size w3 W) := Lib.hid (fun W h => HB4.out.trans (h.mono (by have := HGG.out; omega)))
  clear hW4 hn hgg
  go_loopg [7] n (fun gk iv wr => ∃ (k : Nat) (sk : Mn.St), Hid (k ≤ n ∧ n - k ≤ gk) ∧ iv = .int .i64 (k : Int) ∧ Hid (Mn.lines sk (LL.drop k) = .ok s) ∧ Hid (LRd wr g g sk) ∧ Hid ((∀ r ∈ sk.rules, SmallR r) ∧ sk.rules.length ≤ k ∧ sk.dw.length ≤ 100000 ∧ ∀ x ∈ sk.dw, PlainW x) ∧ Hid (Below g W4 wr))
  case atStart => exact ⟨0, _, Lib.hid (by omega), rfl, HL, HL0, Lib.hid ⟨by simp, Nat.le_refl _, Nat.zero_le _, by simp⟩, Lib.hid (Below.refl _ _)⟩
  case round =>
    obtain ⟨k, sk, HK, rfl, HLK, HRK, HSK, HBK⟩ := hrel
    have hpe := HRK.out
    obtain ⟨rv, dv, lv, fv, hprd, hdf, hdw⟩ := hpe
    have e4 : wr.cell? ⟨g, 4, none⟩ = some (.int .i64 0) := hprd.blk.at 4
    by_cases hlt : k < n
    · have hltI : (k : Int) < (n : Int) := by omega
      have hkL : k < LL.length := by rw [HN.out]; exact hlt
      obtain ⟨B, off, u, rfl, q0, hru⟩ := rdL_at (HRL.out.under (HBA.out _ HBK.out)) k hkL
      have HRU := Lib.hid hru
      have HGL := Lib.hid (HG.out _ (List.getElem_mem hkL))
      have hdr := List.drop_eq_getElem_cons hkL
      obtain ⟨l, hl⟩ : ∃ l, LL[k]'hkL = l := ⟨_, rfl⟩
      have HLK2 := Lib.hid (by have h := HLK.out; rw [hdr, hl] at h; exact h)
      rw [show LL[k] = l from hl] at HRU HGL
      obtain ⟨s2, hs2, hs3⟩ := Mn.bind_ok HLK2.out
      have HS3 := Lib.hid hs3
      have HSM := Lib.hid (line_small HGL.out hs2 HSK.out.1 HSK.out.2.2.1 HSK.out.2.2.2)
      have HS2 := Lib.hid hs2
      obtain ⟨f, r0, hfr⟩ : ∃ f r0, l = f :: r0 := by
        cases l with
        | nil => exact absurd rfl HGL.out.some
        | cons f r0 => exact ⟨f, r0, rfl⟩
      subst hfr
      have hk8 : k ≤ 1000000 := by have := HLL.out; omega
      clear hprd hdf hdw hru hdr hl hkL hs2 hs3 HLK2
      go_wp2_with fail
      refine (refline_any g g u f r0 sk s2 _ HRK.out HRU.out HGL.out.len HGL.out.plain HGL.out.nolet (fun r hr => (HSK.out.1 r hr).outs) HS2.out).mono ?_
      rintro en w5 ⟨rfl, hr5, hb5⟩
      have HR5 := Lib.hid hr5
      have HB5 := Lib.hid (HBK.out.trans hb5)
      clear hr5 hb5 q0 e4
      go_wp2
      go_roundg (n - (k + 1))
      case measure => have := HK.out; omega
      case rel => exact ⟨k + 1, s2, Lib.hid (by omega), by go_num, HS3, HR5, Lib.hid ⟨HSM.out.1, by have := HSM.out.2.1; have := HSK.out.2.1; omega, HSM.out.2.2⟩, HB5⟩
    · obtain rfl : k = n := by have := HK.out; omega
      have hss : sk = s := by
        have h := HLK.out
        rw [List.drop_eq_nil_of_le (by rw [HN.out]; exact Nat.le_refl _), Mn.lines] at h
        injection h
      subst hss
      have HPR := Lib.hid hprd
      have HDF := Lib.hid hdf
      obtain ⟨fA, fc, rfl, -⟩ := hdw.parts
      have HDW := Lib.hid hdw
      obtain ⟨m, hm⟩ : ∃ m, sk.dw.length = m := ⟨_, rfl⟩
      have f3 : wr.cell? ⟨g, 3, none⟩ = some (.slice fA m fc) := by rw [← hm]; exact hprd.blk.at 3
      rw [hm] at HDW HPR
      have HM := Lib.hid hm
      obtain ⟨w6, rfl⟩ : ∃ wx : World, wx = wr := ⟨_, rfl⟩
      clear hprd hdf hdw hm
      go_wp2_with fail
      go_loopg [8] m (fun gk jv wr => ∃ k : Nat, Hid (k ≤ m ∧ m - k ≤ gk) ∧ jv = .int .i64 (k : Int) ∧ Hid (Mn.dangling sk.rules (sk.dw.drop k) = none) ∧ w6 = wr)
      case atStart => exact ⟨0, Lib.hid (by omega), rfl, HD, rfl⟩
      case round =>
        obtain ⟨j, HJ, rfl, HDG, rfl⟩ := hrel
        by_cases hlt2 : j < m
        · have hltI : (j : Int) < (m : Int) := by omega
          have hjL : j < sk.dw.length := by rw [HM.out]; exact hlt2
          obtain ⟨B, off, rfl, a0, -, -, -⟩ := HDW.out.rd.at2 j hjL
          have HPX := Lib.hid (HSK.out.2.2.2 _ (List.getElem_mem hjL))
          have hdr := List.drop_eq_getElem_cons hjL
          have hdg := HDG.out
          obtain ⟨x, hx⟩ : ∃ x, sk.dw[j]'hjL = x := ⟨_, rfl⟩
          rw [hdr] at hdg
          rw [show sk.dw[j] = x from hx] at hdg HPX a0
          rw [Mn.dangling] at hdg
          have HTK : Hid (Mn.taken sk.rules x.text = true) := Lib.hid (by
            apply Decidable.byContradiction
            intro hn
            rw [if_neg hn] at hdg
            cases hdg)
          rw [if_pos HTK.out] at hdg
          have HDG2 := Lib.hid hdg
          have hj8 : j ≤ 1000000 := by have h1 := HSK.out.2.2.1; rw [HM.out] at h1; omega
          clear hdr hdg hx hjL
          go_wp2_with fail
          refine (refout_any g x.text sk.rules rv dv lv _ ⟨0, 0, 0⟩ _ HPR.out.blk HPR.out.rules.sl (by have := HSK.out.2.1; have := HLL.out; omega) (fun r hr => (HSK.out.1 r hr).outs) HPX.out.bytes).mono ?_
          rw [HTK.out]
          rintro en w7 ⟨rfl, rfl⟩
          go_wp2
          go_roundg (m - (j + 1))
          case measure => have := HJ.out; omega
          case rel => exact ⟨j + 1, Lib.hid (by omega), by go_num, HDG2, rfl⟩
        · obtain rfl : j = m := by have := HJ.out; omega
          obtain ⟨rA, rc, rfl⟩ := rulesB_start HPR.out.rules
          obtain ⟨dA, dc, rfl, -⟩ := HDF.out.parts
          have g0 : w6.cell? ⟨g, 0, none⟩ = some (.slice rA sk.rules.length rc) := HPR.out.blk.at 0
          have g1 : w6.cell? ⟨g, 1, none⟩ = some (.slice dA sk.dflt.length dc) := HPR.out.blk.at 1
          have HRS : Hid (SlR w6 (.slice rA sk.rules.length rc) sk.rules) := Lib.hid HPR.out.rules.sl
          have HDS : Hid (SlT w6 (.slice dA sk.dflt.length dc) sk.dflt) := Lib.hid HDF.out.sl
          clear hlt2
          go_wp2_with fail
          refine (refrules_any _ dA sk.dflt.length dc sk.rules _ HRS.out (by have := HSK.out.2.1; have := HLL.out; omega) HSK.out.1).mono ?_
          rintro en w7 ⟨⟨u, rfl, -⟩, hb7⟩
          rw [HO.out]
          have HPR7 := Lib.hid (HPR.out.under hb7)
          have g0 : w7.cell? ⟨g, 0, none⟩ = some (.slice rA sk.rules.length rc) := HPR7.out.blk.at 0
          have g1 : w7.cell? ⟨g, 1, none⟩ = some (.slice dA sk.dflt.length dc) := HPR7.out.blk.at 1
          have g4 : w7.cell? ⟨g, 4, none⟩ = some (.int .i64 0) := HPR7.out.blk.at 4
          have HRM := Lib.hid (And.intro (HRS.out.under hb7) (HDS.out.keep (Keep.below (Q := RuleTy) hb7) (.inl rfl)))
          have HBW3 : Hid (Below w.heap.size w w3) := Lib.hid (HBW2.out.trans (HB3.out.mono (by have := HSZ2.out; omega)))
          have HZ3 : Hid (w.heap.size + 2 ≤ w3.heap.size) := Lib.hid (by have := HB3.out.size; have := HSZ2.out; omega)
          have HB37 : Hid (Below w3.heap.size w3 w7) := Lib.hid ((HBA.out _ HBK.out).trans (hb7.mono (HBA.out _ HBK.out).size))
          have HBW7 : Hid (Below w.heap.size w w7) := Lib.hid (HBW3.out.trans (HB37.out.mono (by have := HZ3.out; omega)))
          have HFX7 : Hid (Blk w7 w.heap.size 26 #[.slice none 0 0, .slice none 0 0] ∧ Blk w7 (w.heap.size + 1) 28 #[.int .i64 0, .int .i64 0, .int .i64 0]) := Lib.hid ⟨(H2B.out.1.under HB3.out).under HB37.out, (H2B.out.2.under HB3.out).under HB37.out⟩
          have c0 : w7.cell? ⟨w.heap.size, 0, none⟩ = some (.slice none 0 0) := HFX7.out.1.at 0
          have c1 : w7.cell? ⟨w.heap.size, 1, none⟩ = some (.slice none 0 0) := HFX7.out.1.at 1
          have d0 : w7.cell? ⟨w.heap.size + 1, 0, none⟩ = some (.int .i64 0) := HFX7.out.2.at 0
          have d1 : w7.cell? ⟨w.heap.size + 1, 1, none⟩ = some (.int .i64 0) := HFX7.out.2.at 1
          have d2 : w7.cell? ⟨w.heap.size + 1, 2, none⟩ = some (.int .i64 0) := HFX7.out.2.at 2
          have q0 : w7.frozen? ⟨w.heap.size, 0, none⟩ = false := HFX7.out.1.free 0
          have q1 : w7.frozen? ⟨w.heap.size, 1, none⟩ = false := HFX7.out.1.free 1
          have p0 : w7.frozen? ⟨w.heap.size + 1, 0, none⟩ = false := HFX7.out.2.free 0
          have p1 : w7.frozen? ⟨w.heap.size + 1, 1, none⟩ = false := HFX7.out.2.free 1
          have p2 : w7.frozen? ⟨w.heap.size + 1, 2, none⟩ = false := HFX7.out.2.free 2
          have HF := Lib.hid (fill5 HFX7.out.1 HFX7.out.2 (by omega) (.slice rA sk.rules.length rc) (.slice dA sk.dflt.length dc) (.int .i64 0) (.int .i64 0) (.int .i64 0))
          have HK := Lib.hid (fill5_keep (Q := RuleTy) HFX7.out.1 HFX7.out.2 notRule_manifest notRule_fault (.slice rA sk.rules.length rc) (.slice dA sk.dflt.length dc) (.int .i64 0) (.int .i64 0) (.int .i64 0))
          have HFB := Lib.hid (fill5_below HBW7.out w.heap.size (w.heap.size + 1) (Nat.le_refl _) (by omega) (.slice rA sk.rules.length rc) (.slice dA sk.dflt.length dc) (.int .i64 0) (.int .i64 0) (.int .i64 0))
          clear hb7
          go_wp2
          refine bodyPost_ret (results_cell_cell rfl _ _ w.heap.size (w.heap.size + 1) _ _ _ _ _ _ _ _ rfl rfl HF.out.1 HF.out.2 Try.underlying26 rfl (by kernel_rfl) Try.underlying28 rfl (by kernel_rfl)) rfl ?_
          exact ⟨⟨_, _, rfl, HRM.out.1.keep HK.out, HRM.out.2.keep HK.out (.inl rfl)⟩, HFB.out⟩
end Go.Proofs.Ytemliglhippdcaa

/- Stage 8: the text that awake parses, and what the document's parser makes of it. -/
namespace Go.Proofs.Ytemliglhippdcaa
set_option maxRecDepth 100000
open Go.ChangeShapes Go.WideShapes Go.ChangeAt Go.RowKit Go.Shelf

/-- rule a : b = all / rule b : = text "x" -/
def grphText : List Nat := [114, 117, 108, 101, 32, 97, 32, 58, 32, 98, 32, 61, 32, 97, 108, 108, 10, 114, 117, 108, 101, 32, 98, 32, 58, 32, 61, 32, 116, 101, 120, 116, 32, 34, 120, 34, 10]
def grphRows : List (List Ln.W) := match Ln.split grphText with
  | .ok L => L
  | .bad _ _ _ => []
def goodB (l : List Ln.W) : Bool := !decide (l = []) && decide (l.length ≤ 100000) && (l.all fun x => (x.text.all fun c => decide (c < 256)) && decide (x.text.length ≤ 1000000) && (x.q || (decide (0 < x.text.length) && decide (x.text.headD 0 ≠ 36)))) && !Mn.isW [108, 101, 116] (l.headD ⟨[], 0, 0, false⟩)
theorem goodB_is {l : List Ln.W} (h : goodB l = true) : GoodL l := by
  unfold goodB at h
  simp only [Bool.and_eq_true, Bool.not_eq_true', decide_eq_false_iff_not, decide_eq_true_eq, List.all_eq_true, Bool.or_eq_true] at h
  obtain ⟨⟨⟨h1, h2⟩, h3⟩, h4⟩ := h
  exact ⟨h1, h2, fun x hx => ⟨(h3 x hx).1.1, (h3 x hx).1.2, (h3 x hx).2⟩, h4⟩
theorem grph_split : Ln.split grphText = .ok grphRows := by kernel_rfl
theorem grph_good : ∀ l ∈ grphRows, GoodL l := by
  have h : grphRows.all goodB = true := by kernel_rfl
  exact fun l hl => goodB_is (List.all_eq_true.1 h l hl)
def grphSt : Mn.St := match Mn.lines ⟨[], [], [], []⟩ grphRows with
  | .ok s => s
  | .bad _ => ⟨[], [], [], []⟩
theorem grph_lines : Mn.lines ⟨[], [], [], []⟩ grphRows = .ok grphSt := by kernel_rfl
theorem grph_rules : grphSt.rules.length = 2 ∧ rulesF grphSt.rules 2 2 [] = some [1, 0] ∧ Mn.dangling grphSt.rules grphSt.dw = none := ⟨by kernel_rfl, by kernel_rfl, by kernel_rfl⟩
theorem grph_parse (v : Value) (w : World) (hv : Bytes w v grphText) :
    Calls Try.prog 7 #[v] w fun e w' => (∃ rv dv, e = .returned (.tuple #[.agg #[rv, dv], .agg #[.int .i64 0, .int .i64 0, .int .i64 0]]) ∧ SlR w' rv grphSt.rules ∧ SlT w' dv grphSt.dflt) ∧ Below w.heap.size w w' :=
  refparse_good v grphText grphRows grphSt w hv (by decide) grph_split (by decide) grph_good grph_lines grph_rules.2.2 (by rw [grph_rules.1, grph_rules.2.1]; rfl)
end Go.Proofs.Ytemliglhippdcaa
