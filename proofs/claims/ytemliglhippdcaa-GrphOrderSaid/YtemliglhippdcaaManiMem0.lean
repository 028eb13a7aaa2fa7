/- Rules, texts and actions as they lie, with the types of their blocks: what is stored elsewhere leaves them alone. -/
import Derived.Test.YtemliglhippdcaaManiMath
import Derived.Test.YtemliglhippdcaaWords
import Derived.Test.YtemliglhippdcaaTexts
import Derived.Test.YtemliglhippdcaaActRows
namespace Go.Proofs.Ytemliglhippdcaa
set_option maxRecDepth 100000
open Go.ChangeShapes Go.WideShapes Go.ChangeAt Go.RowKit

/-- A block of a type. -/
def Ty (w : World) (b : Nat) (t : TypeId) : Prop := ∃ cs fr, w.heap[b]? = some (.cells cs t fr)
theorem Ty.ne {w : World} {a b : Nat} {s t : TypeId} (h : Ty w a s) (k : Ty w b t) (hne : s ≠ t) : a ≠ b := by
  rintro rfl
  obtain ⟨cs, fr, h⟩ := h
  obtain ⟨cs', fr', k⟩ := k
  rw [h] at k
  injection k with e
  injection e with _ e
  exact hne e
theorem Ty.lt {w : World} {b : Nat} {t : TypeId} (h : Ty w b t) : b < w.heap.size := by
  obtain ⟨cs, fr, h⟩ := h
  exact (Array.getElem?_eq_some_iff.1 h).1
theorem Blk.ty {w : World} {g : Nat} {t : TypeId} {cs : Array Value} (h : Blk w g t cs) : Ty w g t := ⟨cs, (0, 0), h⟩
/-- Blocks of such types are as they were. -/
def Keep (w w' : World) (Q : TypeId → Prop) : Prop := ∀ b t, Ty w b t → Q t → w'.heap[b]? = w.heap[b]?
theorem Keep.below {w w' : World} {Q : TypeId → Prop} (h : Below w.heap.size w w') : Keep w w' Q := fun b _ ht _ => h.block b ht.lt
theorem Keep.grown {w w' : World} {Q : TypeId → Prop} {g : Nat} {t : TypeId} (h : w.grownBy w' (some g)) (hg : Ty w g t) (hq : ¬ Q t) : Keep w w' Q := fun b s hb hs => h.block b hb.lt (fun e => by
  injection e with e
  subst e
  by_cases hst : s = t
  · exact hq (hst ▸ hs)
  · exact (hb.ne hg hst) rfl)
theorem Keep.less {w w' : World} {Q S : TypeId → Prop} (h : Keep w w' Q) (hs : ∀ t, S t → Q t) : Keep w w' S := fun b t ht hq => h b t ht (hs t hq)
theorem Keep.ty {w w' : World} {Q : TypeId → Prop} (h : Keep w w' Q) {b : Nat} {t : TypeId} (ht : Ty w b t) (hq : Q t) : Ty w' b t := by
  have e := h b t ht hq
  obtain ⟨cs, fr, k⟩ := ht
  exact ⟨cs, fr, by rw [e]; exact k⟩
theorem Keep.cell {w w' : World} {Q : TypeId → Prop} (h : Keep w w' Q) {b : Nat} {t : TypeId} (ht : Ty w b t) (hq : Q t) (o : Nat) : w'.cell? ⟨b, o, none⟩ = w.cell? ⟨b, o, none⟩ := World.cell?_of_block (h b t ht hq)
/-- A slice whose parts, of so many cells each, are such. -/
def Sl (w : World) (t : TypeId) (sz : Nat) (v : Value) (n : Nat) (P : Nat → Nat → Nat → Prop) : Prop :=
  ∃ A c, v = .slice A n c ∧ n ≤ c ∧ n ≤ maxLen ∧ (0 < n → ∃ b off, A = some ⟨b, off, none⟩ ∧ Ty w b t ∧ ∀ k, k < n → P k b (off + k * sz))
theorem Sl.keep {w w' : World} {Q : TypeId → Prop} {t : TypeId} {sz n : Nat} {v : Value} {P P' : Nat → Nat → Nat → Prop} (h : Sl w t sz v n P) (hk : Keep w w' Q) (hq : Q t) (hp : ∀ k b o, Ty w b t → P k b o → P' k b o) : Sl w' t sz v n P' := by
  obtain ⟨A, c, rfl, h1, h2, h3⟩ := h
  refine ⟨A, c, rfl, h1, h2, fun h0 => ?_⟩
  obtain ⟨b, off, rfl, ht, hc⟩ := h3 h0
  exact ⟨b, off, rfl, hk.ty ht hq, fun k hk' => hp k b _ ht (hc k hk')⟩
theorem sl_nil (w : World) (t : TypeId) (sz : Nat) (P : Nat → Nat → Nat → Prop) : Sl w t sz (.slice none 0 0) 0 P := ⟨none, 0, rfl, Nat.le_refl _, Nat.zero_le _, fun h => absurd h (by simp)⟩
/-- Texts. -/
def SlT (w : World) (v : Value) (l : List (List Nat)) : Prop := Sl w 9 1 v l.length fun k b o => w.cell? ⟨b, o, none⟩ = some (.string (str (l.getD k [])))
theorem SlT.keep {w w' : World} {Q : TypeId → Prop} {v : Value} {l : List (List Nat)} (h : SlT w v l) (hk : Keep w w' Q) (hq : Q 9) : SlT w' v l :=
  Sl.keep h hk hq fun _ _ o ht hc => (hk.cell ht hq o).trans hc
theorem OwnT.sl {w : World} {base : Nat} {v : Value} {l : List (List Nat)} (h : OwnT w base v l) : SlT w v l := by
  have h' := h
  rcases h.2 with ⟨rfl, h0⟩ | ⟨g, cap, cur, rfl, hb, hg, hn, hm, hs, ht⟩
  · have : l = [] := List.eq_nil_of_length_eq_zero h0
    subst this
    exact sl_nil _ _ _ _
  · refine ⟨_, cap, rfl, hn, Nat.le_trans hn hm, fun h0 => ⟨g, 0, rfl, ⟨cur, (0, 0), hg⟩, fun k hk => ?_⟩⟩
    rw [show 0 + k * 1 = k from by omega]
    exact OwnT.cell h' hk
/-- An action's things. -/
def SlD (w : World) (v : Value) (l : List Ac.D) : Prop := Sl w 145 3 v l.length fun k b o => w.cell? ⟨b, o, none⟩ = some (.int .i64 ((l.getD k ⟨0, 0, []⟩).kind : Int)) ∧ w.cell? ⟨b, o + 1, none⟩ = some (.int .i64 ((l.getD k ⟨0, 0, []⟩).n : Int)) ∧ w.cell? ⟨b, o + 2, none⟩ = some (.string (str (l.getD k ⟨0, 0, []⟩).text))
theorem SlD.keep {w w' : World} {Q : TypeId → Prop} {v : Value} {l : List Ac.D} (h : SlD w v l) (hk : Keep w w' Q) (hq : Q 145) : SlD w' v l :=
  Sl.keep h hk hq fun _ _ o ht hc => ⟨(hk.cell ht hq o).trans hc.1, (hk.cell ht hq (o + 1)).trans hc.2.1, (hk.cell ht hq (o + 2)).trans hc.2.2⟩
theorem OwnD.sl {w : World} {base : Nat} {v : Value} {l : List Ac.D} (h : OwnD w base v l) : SlD w v l := by
  have hr := h.rd
  rcases h.2 with ⟨rfl, h0⟩ | ⟨g, cap, cur, rfl, hb, hg, hn, hm, hs, ht⟩
  · have : l = [] := List.eq_nil_of_length_eq_zero h0
    subst this
    exact sl_nil _ _ _ _
  · refine ⟨_, cap, rfl, hn, Nat.le_trans hn hm, fun h0 => ⟨g, 0, rfl, ⟨cur, (0, 0), hg⟩, fun k hk => ?_⟩⟩
    obtain ⟨b, off, e, p0, p1, p2⟩ := hr.at k hk
    injection e with e
    injection e with e1 e2
    subst e1 e2
    rw [List.getD_eq_getElem?_getD, List.getElem?_eq_getElem hk]
    exact ⟨p0, p1, p2⟩
theorem SlD.rd {w : World} {v : Value} {l : List Ac.D} (h : SlD w v l) : RdD w v l := by
  obtain ⟨A, c, rfl, h1, h2, h3⟩ := h
  refine ⟨A, c, rfl, h1, h2, fun h0 => ?_⟩
  obtain ⟨b, off, rfl, _, hc⟩ := h3 h0
  refine ⟨b, off, rfl, fun k hk => ?_⟩
  have := hc k hk
  dsimp only at this
  rw [List.getD_eq_getElem?_getD, List.getElem?_eq_getElem hk] at this
  exact this
/-- Actions. -/
def SlA (w : World) (v : Value) (l : List (List Ac.D)) : Prop := Sl w 140 1 v l.length fun k b o => ∃ u, w.cell? ⟨b, o, none⟩ = some u ∧ SlD w u (l.getD k [])
theorem SlA.keep {w w' : World} {Q : TypeId → Prop} {v : Value} {l : List (List Ac.D)} (h : SlA w v l) (hk : Keep w w' Q) (hq : Q 140) (hq2 : Q 145) : SlA w' v l :=
  Sl.keep h hk hq fun _ _ o ht hc => by
    obtain ⟨u, hu, hd⟩ := hc
    exact ⟨u, (hk.cell ht hq o).trans hu, hd.keep hk hq2⟩
/-- The types that rules are made of. -/
def RuleTy (t : TypeId) : Prop := t = 9 ∨ t = 145 ∨ t = 140 ∨ t = 40
def emptyRule : Mn.Rule := ⟨[], [], [], [], false⟩
/-- Five cells that are a rule. -/
def RuleAt (w : World) (r : Mn.Rule) (b o : Nat) : Prop := ∃ u1 u2 u3 u4, w.cell? ⟨b, o, none⟩ = some u1 ∧ w.cell? ⟨b, o + 1, none⟩ = some u2 ∧ w.cell? ⟨b, o + 2, none⟩ = some u3 ∧ w.cell? ⟨b, o + 3, none⟩ = some u4 ∧ w.cell? ⟨b, o + 4, none⟩ = some (.bool r.phony) ∧
  SlT w u1 r.outs ∧ SlT w u2 r.ins ∧ SlT w u3 r.order ∧ SlA w u4 r.acts
def SlR (w : World) (v : Value) (l : List Mn.Rule) : Prop := Sl w 40 5 v l.length fun k b o => RuleAt w (l.getD k emptyRule) b o
theorem SlR.keep {w w' : World} {v : Value} {l : List Mn.Rule} (h : SlR w v l) (hk : Keep w w' RuleTy) : SlR w' v l :=
  Sl.keep h hk (.inr (.inr (.inr rfl))) fun _ _ o ht hc => by
    obtain ⟨u1, u2, u3, u4, c1, c2, c3, c4, c5, s1, s2, s3, s4⟩ := hc
    have hq : RuleTy 40 := .inr (.inr (.inr rfl))
    exact ⟨u1, u2, u3, u4, (hk.cell ht hq o).trans c1, (hk.cell ht hq (o + 1)).trans c2, (hk.cell ht hq (o + 2)).trans c3, (hk.cell ht hq (o + 3)).trans c4, (hk.cell ht hq (o + 4)).trans c5, s1.keep hk (.inl rfl), s2.keep hk (.inl rfl), s3.keep hk (.inl rfl), s4.keep hk (.inr (.inr (.inl rfl))) (.inr (.inl rfl))⟩
theorem SlR.under {w w' : World} {v : Value} {l : List Mn.Rule} (h : SlR w v l) (hb : Below w.heap.size w w') : SlR w' v l := h.keep (Keep.below hb)
end Go.Proofs.Ytemliglhippdcaa
