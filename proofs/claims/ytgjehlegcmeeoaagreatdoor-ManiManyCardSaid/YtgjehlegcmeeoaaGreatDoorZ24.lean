/- Package mani's own reader: the actions of so many Outs. -/
import Derived.Test.YtgjehlegcmeeoaaGreatDoorZ23
import Derived.Test.YtgjehlegcmeeoaaGreatDoorZ19
import Derived.Test.YtgjehlegcmeeoaaGreatDoorZ21
import Derived.Deep.RegionLaw
import Derived.Test.YtgjehlegcmeeoaaGreatDoorZ22
namespace Go.Proofs.YtgjehlegcmeeoaaGreatDoor
set_option maxRecDepth 100000
open Go.ChangeShapes Go.WideShapes Go.ChangeAt Go.RowKit Go.Shelf

/-- Actions so far: a row of the call's own. -/
def OwnA (w : World) (base hi : Nat) (v : Value) (l : List (List Ac.D)) : Prop :=
  ∃ us : List Value, us.length = l.length ∧ w.ownsRow base 59 1 v l.length us ∧ (∀ x ∈ us, x.oneCell' = true) ∧ ∀ i, i < l.length → SlDB w hi (us.getD i undef) (l.getD i [])
theorem ownA_none (w : World) (base hi : Nat) : OwnA w base hi (.slice none 0 0) [] := ⟨[], rfl, World.ownsRow_nil w base _ 1, by simp, fun i hi => absurd hi (by simp)⟩
theorem OwnA.parts {w : World} {base hi : Nat} {v : Value} {l : List (List Ac.D)} (h : OwnA w base hi v l) : ∃ A c, v = .slice A l.length c := by
  obtain ⟨us, _, h2, _⟩ := h
  rcases h2.2 with ⟨rfl, h0⟩ | ⟨g, cap, cur, rfl, _⟩
  · exact ⟨none, 0, by rw [h0]⟩
  · exact ⟨_, _, rfl⟩
theorem OwnA.keep {w w' : World} {base hi g : Nat} {v : Value} {l : List (List Ac.D)} (h : OwnA w base hi v l) (hg : w.grownBy w' (some g)) (ht : Ty w g 57) : OwnA w' base hi v l := by
  obtain ⟨us, h1, h2, h3, h4⟩ := h
  have hk : KeepB w w' hi PartTy := fun b t _ hty hq => hg.block b hty.lt (by
    intro e
    injection e with e
    subst e
    rcases hq with rfl | rfl | rfl | rfl <;> exact absurd rfl (hty.ne ht (by decide)))
  refine ⟨us, h1, World.ownsRow.kept h2 hg ?_, h3, fun i hi => (h4 i hi).keep hk (.inr (.inl rfl))⟩
  rcases h2.2 with ⟨rfl, _⟩ | ⟨gg, cap, cur, rfl, _, hgg, _⟩
  · exact .inl rfl
  · refine .inr fun e => ?_
    injection e with e
    subst e
    exact absurd rfl ((show Ty w gg 59 from ⟨cur, (0, 0), hgg⟩).ne ht (by decide))
theorem OwnA.under {w w' : World} {base hi : Nat} {v : Value} {l : List (List Ac.D)} (h : OwnA w base hi v l) (hb : Below w.heap.size w w') : OwnA w' base hi v l := by
  obtain ⟨us, h1, h2, h3, h4⟩ := h
  exact ⟨us, h1, h2.kept (Below.toGrown hb none) (by cases v.ownBlock <;> simp), h3, fun i hi => (h4 i hi).keep (Q := PartTy) (KeepB.below hb) (.inr (.inl rfl))⟩
theorem OwnA.more {w : World} {base hi hi' : Nat} {v : Value} {l : List (List Ac.D)} (h : OwnA w base hi v l) (hh : hi ≤ hi') : OwnA w base hi' v l := by
  obtain ⟨us, h1, h2, h3, h4⟩ := h
  exact ⟨us, h1, h2, h3, fun i hi => (h4 i hi).more hh⟩
theorem OwnA.slB {w : World} {base hi : Nat} {v : Value} {l : List (List Ac.D)} (h : OwnA w base hi v l) (hh : w.heap.size ≤ hi) : SlAB w hi v l := by
  obtain ⟨us, h1, h2, h3, h4⟩ := h
  have h2' := h2
  rcases h2.2 with ⟨rfl, h0⟩ | ⟨g, cap, cur, rfl, hb, hg, hn, hm, hs, ht⟩
  · have : l = [] := List.eq_nil_of_length_eq_zero h0
    subst this
    exact slB_nil _ _ _ _ _
  · refine ⟨_, cap, rfl, hn, Nat.le_trans hn hm, fun h0 => ⟨g, 0, rfl, ?_, ⟨cur, (0, 0), hg⟩, fun k hk => ⟨us.getD k undef, ?_, h4 k hk⟩⟩⟩
    · have := (Array.getElem?_eq_some_iff.1 hg).1
      omega
    · rw [show 0 + k * 1 = k from by omega, World.ownsRow.cellAt h2' k (by omega), List.getD_eq_getElem?_getD, List.getElem?_eq_getElem (by omega)]
      rfl
theorem infoDos : (Tryz.prog.info? 59).map (fun i => (i.zero, i.size, i.bytes)) = some (some (.slice none 0 0), 1, 24) := by kernel_rfl
theorem wpList_append_dos1 {w : World} {ops : Array Oper} {rest : List Oper} {o : Oper} {a : Act} {Q : Exit → Act → World → Prop} (hgd : o.guard = none) (s x : Operand)
    (ho : o.op = .call { callee := .builtin .append, args := #[s, x], argTypes := #[39, 39] }) (base hi B : Nat) (v u : Value) (l : List (List Ac.D)) (d : List Ac.D) (hs : a.eval s = v) (hown : OwnA w base hi v l)
    (hx : a.eval x = .slice (some ⟨B, 0, none⟩) 1 1) (hB : w.cell? ⟨B, 0, none⟩ = some u) (hd : SlDB w hi u d) (hlen : l.length ≤ 1099511627776) (hbase : base ≤ w.heap.size)
    (h : ∀ v' w', OwnA w' base hi v' (l ++ [d]) → Below base w w' → w.grownBy w' v.ownBlock → wpList Tryz.prog ops Q rest (a.put o.dst v') w') : wpList Tryz.prog ops Q (o :: rest) a w := by
  obtain ⟨us, h1, h2, h3, h4⟩ := hown
  obtain ⟨i, hi', hz0, hz1, hz2⟩ := info_parts infoDos
  have hone : u.oneCell' = true := by
    obtain ⟨A, c, rfl, _⟩ := hd.parts
    rfl
  refine wpList_append_own_at w hgd s x 39 ho base 59 i (.slice none 0 0) 1 24 Tryz.underlying39 hi' hz0 hz1 hz2 rfl (by decide) v l.length us hs h2 ⟨B, 0, none⟩ 1 1 [u] hx rfl ?_ (by simpa using hone) (by unfold maxLen; omega) (by omega) hbase ?_
  · intro j y hy
    have hj : j = 0 := by
      rcases j with _ | j
      · rfl
      · simp at hy
    subst hj
    simp at hy
    subst hy
    rw [add_plain]
    exact hB
  · intro v' w' g1 g2 _ _
    have hk : KeepB w w' hi (fun t => t = 101) := fun b t _ hty hq => g2.block b hty.lt (by
      intro e
      subst hq
      rcases h2.2 with ⟨rfl, _⟩ | ⟨gg, cap, cur, rfl, _, hgg, _⟩
      · cases e
      · injection e with e
        subst e
        exact absurd rfl (hty.ne (show Ty w b 59 from ⟨cur, (0, 0), hgg⟩) (by decide)))
    refine h v' w' ⟨us ++ [u], by simp [h1], by simpa using g1, fun y hy => (List.mem_append.1 hy).elim (h3 y) (fun e => by simp at e; subst e; exact hone), fun j hj => ?_⟩ ((Below.refl _ _).grown g2 hbase fun k hk => (World.ownsRow.lt h2 k hk).1) g2
    rcases Nat.lt_or_ge j l.length with hlt | hge
    · rw [getD_snoc_lt (by omega), getD_snoc_lt hlt]
      exact (h4 j hlt).keep hk rfl
    · have : j = l.length := by simp at hj; omega
      rw [getD_snoc_eq (by omega), getD_snoc_eq this]
      exact hd.keep hk rfl
end Go.Proofs.YtgjehlegcmeeoaaGreatDoor

/- Package mani's own reader: a rule is put behind the others. -/
namespace Go.Proofs.YtgjehlegcmeeoaaGreatDoor
set_option maxRecDepth 100000
open Go.ChangeShapes Go.WideShapes Go.ChangeAt Go.RowKit Go.Shelf

theorem KeepB.grown {w w' : World} {hi b : Nat} {t : TypeId} (hg : w.grownBy w' (some b)) (ht : Ty w b t) (hq : ¬ PartTy t) : KeepB w w' hi PartTy := fun c u _ hu hp => hg.block c hu.lt (by
  intro e
  injection e with e
  subst e
  by_cases he : u = t
  · subst he
    exact hq hp
  · exact absurd rfl (hu.ne ht he))
theorem notPart_reader : ¬ PartTy 57 := by unfold PartTy; decide
theorem notPart_rule : ¬ PartTy 41 := by unfold PartTy; decide
theorem texts_good {R : List Ln.W} (h : ∀ x ∈ R, GoodW x) (n : Nat) : ∀ t ∈ Mo.texts (R.take n), (∀ c ∈ t, c < 256) ∧ t.length ≤ 1000000 := by
  intro t ht
  unfold Mo.texts at ht
  obtain ⟨x, hx, rfl⟩ := List.mem_map.1 ht
  exact ⟨(h x (List.mem_of_mem_take hx)).bytes, (h x (List.mem_of_mem_take hx)).len⟩
theorem outs_good {s : Mo.S} (h : GoodS s) (most : Nat) : ∀ t ∈ (Mo.outs most s).1, (∀ c ∈ t, c < 256) ∧ t.length ≤ 1000000 := by
  unfold Mo.outs
  dsimp only
  have hs : (if s.rules.length = 64 then Mo.fail 11 s.first s else s).rest = s.rest := by
    split
    · unfold Mo.fail; split <;> rfl
    · rfl
  rw [hs]
  exact texts_good h.rest _
theorem ins_good {s : Mo.S} (h : GoodS s) : ∀ t ∈ (Mo.ins s).1, (∀ c ∈ t, c < 256) ∧ t.length ≤ 1000000 := texts_good h.rest _
theorem infoRule : (Tryz.prog.info? 41).map (fun i => (i.zero, i.size, i.bytes)) = some (some (.agg #[.slice none 0 0, .slice none 0 0, .slice none 0 0, .slice none 0 0, .bool false]), 5, 104) := by kernel_rfl
theorem rowR_snoc (f : Nat → Value × Value × Value × Value) (l : List Mn.Rule) (q : Value × Value × Value × Value) (r : Mn.Rule) :
    rowR (fun k => if k = l.length then q else f k) (l ++ [r]) (l.length + 1) = rowR f l l.length ++ cellsR q r := by
  rw [rowR, rowR_congr (g := f) (m := l) l.length (fun k hk => ⟨if_neg (by omega), by rw [List.getD_eq_getElem?_getD, List.getElem?_append_left hk, ← List.getD_eq_getElem?_getD]⟩), if_pos rfl, List.getD_eq_getElem?_getD, List.getElem?_append_right (Nat.le_refl _), Nat.sub_self]
  rfl
/-- A rule is put behind the others. -/
theorem MRdIn.addRule {W : World} {base g lb mb : Nat} {cv rv sv : Value} {s : Mo.S} (h : MRdIn W base W.heap.size g lb mb cv rv sv s) (q : Value × Value × Value × Value) (r : Mn.Rule) (hp : Parts W W.heap.size q r) (hgr : GoodR r) (hlen : s.rules.length ≤ 1000000) (ty : TypeId) :
    ∃ v' w', (Builtin.append_ #[26, 26] ty #[rv, .slice (some ⟨W.heap.size, 0, none⟩) 1 1]).run Tryz.prog ((World.drew W).alloc (.cells (cellsR q r).toArray 41)) = .ok v' w' ∧ (∃ A n c, v' = .slice A n c) ∧ w'.cell? ⟨g, 3, none⟩ = some rv ∧ w'.frozen? ⟨g, 3, none⟩ = false ∧
      MRd (w'.setCell ⟨g, 3, none⟩ v') base w'.heap.size g lb mb { s with rules := s.rules ++ [r] } ∧ Below base W (w'.setCell ⟨g, 3, none⟩ v') := by
  obtain ⟨f, h1, h2, h3⟩ := h.rules
  obtain ⟨i, hi, hz0, hz1, hz2⟩ := info_parts infoRule
  obtain ⟨W1, hW1⟩ : ∃ W1, W1 = (World.drew W).alloc (.cells (cellsR q r).toArray 41) := ⟨_, rfl⟩
  have hb1 : Below W.heap.size W W1 := by rw [hW1]; exact ((Below.refl _ W).drew).alloc (Nat.le_refl _) _
  have hz1' : W1.heap.size = W.heap.size + 1 := by rw [hW1, World.size_alloc]; rfl
  have hnew : Blk W1 W.heap.size 41 (cellsR q r).toArray := by rw [hW1]; exact heap_alloc_new (World.drew W) _
  have hone : ∀ u ∈ cellsR q r, u.oneCell' = true := by
    intro u hu
    obtain ⟨⟨A1, c1, e1, _⟩, ⟨A2, c2, e2, _⟩, ⟨A3, c3, e3, _⟩, ⟨A4, c4, e4, _⟩⟩ : (∃ A c, q.1 = .slice A r.outs.length c ∧ _) ∧ (∃ A c, q.2.1 = .slice A r.ins.length c ∧ _) ∧ (∃ A c, q.2.2.1 = .slice A r.order.length c ∧ _) ∧ (∃ A c, q.2.2.2 = .slice A r.acts.length c ∧ _) := ⟨hp.outs.parts, hp.ins.parts, hp.order.parts, hp.acts.parts⟩
    simp only [cellsR, List.mem_cons, List.not_mem_nil, or_false] at hu
    rcases hu with rfl | rfl | rfl | rfl | rfl
    · rw [e1]; rfl
    · rw [e2]; rfl
    · rw [e3]; rfl
    · rw [e4]; rfl
    · rfl
  obtain ⟨v', w', hr, ho, hg, _, hat⟩ := run_append_own_at (P := Tryz.prog) W1 base 26 ty 41 i (.agg #[.slice none 0 0, .slice none 0 0, .slice none 0 0, .slice none 0 0, .bool false]) 5 104 Tryz.underlying26 hi hz0 hz1 hz2 (by kernel_rfl) (by decide) rv s.rules.length (rowR f s.rules s.rules.length)
    (h1.kept (Below.toGrown hb1 none) (by cases rv.ownBlock <;> simp)) ⟨W.heap.size, 0, none⟩ 1 1 (cellsR q r) (cellsR_len q r) (fun j u hu => by
      rw [add_plain, Nat.zero_add, hnew.at j, List.getElem?_toArray]
      exact hu) hone (by unfold maxLen; omega) (by omega) (by have := h.g1; have := h.g2; omega)
  have hne : ∀ (b : Nat) (t : TypeId), Ty W1 b t → t ≠ 41 → w'.heap[b]? = W1.heap[b]? := fun b t hty hq => hg.block b hty.lt (by
    intro e
    rcases h1.2 with ⟨rfl, _⟩ | ⟨gg, cap, cur, rfl, _, hgg, _⟩
    · cases e
    · injection e with e
      subst e
      have hbz := (Array.getElem?_eq_some_iff.1 hgg).1
      exact absurd rfl (hty.ne (show Ty W1 b 41 from ⟨cur, (0, 0), (hb1.block b hbz).trans hgg⟩) hq))
  have hbase : base ≤ W.heap.size := by have := h.g1; have := h.g2; omega
  have hh := h.under hb1
  have hblk : Blk w' g 57 (Fld s lb mb cv rv sv) := (hne g _ hh.blk.ty (by decide)).trans hh.blk
  have hb2 : Below base W1 w' := (Below.refl _ _).grown hg (by omega) (fun k hk => (World.ownsRow.lt h1 k hk).1)
  refine ⟨v', w', by rw [← hW1]; exact hr, (by rcases ho.2 with ⟨rfl, _⟩ | ⟨gg, cap, cur, rfl, _⟩ <;> exact ⟨_, _, _, rfl⟩), hblk.at 3, hblk.free 3, ⟨cv, v', sv, ?_⟩, ?_⟩
  · have hs3 : ∀ (b : Nat) (t : TypeId), Ty W1 b t → t ≠ 41 → t ≠ 57 → (w'.setCell ⟨g, 3, none⟩ v').heap[b]? = W1.heap[b]? := fun b t hty h1 h2 => (Below.heap_setCell _ _ _ _ (hty.ne hh.blk.ty h2)).trans (hne b t hty h1)
    have hk : KeepB W1 (w'.setCell ⟨g, 3, none⟩ v') W.heap.size PartTy := fun b t _ hty hq => hs3 b t hty (by rintro rfl; exact notPart_rule hq) (by rintro rfl; exact notPart_reader hq)
    have km : ∀ (b : Nat) (es : Array MapEntry) (c : Nat), W1.heap[b]? = some (Obj.map es c) → (w'.setCell ⟨g, 3, none⟩ v').heap[b]? = W1.heap[b]? := fun b es c hm => (Below.heap_setCell _ _ _ _ (by
        intro e
        dsimp only at e
        subst e
        have := hh.blk
        unfold Blk at this
        rw [hm] at this
        cases this)).trans (hg.block b (Array.getElem?_eq_some_iff.1 hm).1 (by
        intro e
        rcases h1.2 with ⟨rfl, _⟩ | ⟨gg, cap, cur, rfl, _, hgg, _⟩
        · cases e
        · injection e with e
          subst e
          have hbz := (Array.getElem?_eq_some_iff.1 hgg).1
          rw [hb1.block b hbz, hgg] at hm
          cases hm))
    have hzz : W.heap.size ≤ w'.heap.size := by have := hg.size; omega
    obtain ⟨fl, hl1, _⟩ := hh.lets
    obtain ⟨es, c, hm⟩ := hl1.map
    obtain ⟨es2, c2, hm2⟩ := MapIs.map hh.makers
    refine ⟨hblk.set 3 v', (hh.chosen.keep hk (.inr (.inr (.inr rfl)))).more hzz, ⟨fun k => if k = s.rules.length then q else f k, ?_, ?_, ?_⟩, (hh.rest.keep hk (.inr (.inr (.inr rfl)))).more hzz, (hh.lets.keep hk (km _ _ _ hm)).more hzz, MapIs.same hh.makers (km _ _ _ hm2), h.g1, by have := h.g2; omega, h.l1, by have := h.l2; omega, h.m1, by have := h.m2; omega, h.lm, by simp, ⟨h.good.first, h.good.rest, h.good.chosen, h.good.lets, fun x hx => ?_⟩⟩
    · rw [List.length_append, List.length_singleton, rowR_snoc]
      refine ownsRow_sames ho (fun k hk' => Below.heap_setCell _ _ _ _ ?_)
      rintro rfl
      rcases ho.2 with ⟨rfl, _⟩ | ⟨gg, cap, cur, rfl, _, hgg, _⟩
      · cases hk'
      · cases hk'
        have := hblk
        unfold Blk at this
        rw [hgg] at this
        injection this with this
        injection this with _ this
        exact absurd this (by decide)
    · intro k hk'
      have := World.ownsRow.lt ho k hk'
      exact this.2
    · intro k hk'
      rw [List.length_append, List.length_singleton] at hk'
      rcases Nat.lt_or_ge k s.rules.length with hlt | hge
      · dsimp only
        rw [if_neg (by omega), List.getD_eq_getElem?_getD, List.getElem?_append_left hlt, ← List.getD_eq_getElem?_getD]
        exact (((h3 k hlt).keep (KeepB.below hb1)).keep hk).more hzz
      · have hkn : k = s.rules.length := by omega
        subst hkn
        dsimp only
        rw [if_pos rfl, List.getD_eq_getElem?_getD, List.getElem?_append_right (Nat.le_refl _), Nat.sub_self]
        exact ((hp.keep (KeepB.below hb1)).keep hk).more hzz
    · rcases List.mem_append.1 hx with hx | hx
      · exact h.good.rules x hx
      · rw [List.mem_singleton.1 hx]
        exact hgr
  · exact ((hb1.mono hbase).trans hb2).setCell (p := ⟨g, 3, none⟩) h.g1 _
/-- An append whose run is known, in a region that draws. -/
theorem step_append_eq {P : Program} {w : World} {ops : Array Oper} {o : Oper} {a : Act} {K : Act → World → Prop} {Q : Exit → Act → World → Prop} {E : Prop} (hgd : o.guard = none) (s x : Operand) (T : TypeId)
    (ho : o.op = .call { callee := .builtin .append, args := #[s, x], argTypes := #[T, T] }) (vs vx : Value) (hs : a.eval s = vs) (hx : a.eval x = vx) {v' : Value} {w' : World} (hr : (Builtin.append_ #[T, T] o.type #[vs, vx]).run P w = .ok v' w')
    (h : K (a.put o.dst v') w') : if Region.wanted o (yielded ops a.tmps) = true then Oper.wp P o a w K Q else E := by
  rw [if_pos (by simp [Region.wanted, hgd])]
  unfold Oper.wp execOp
  simp only [ho, resolve, invoke, builtin, Sem.run_bind, Sem.run_pure, Result.andThen_ok, List.map_toArray, List.map_cons, List.map_nil, hs, hx, hr]
  exact h
end Go.Proofs.YtgjehlegcmeeoaaGreatDoor

/- Package mani's own reader: a line: plain facts. -/
namespace Go.Proofs.YtgjehlegcmeeoaaGreatDoor
set_option maxRecDepth 100000
open Go.ChangeShapes Go.WideShapes Go.ChangeAt Go.RowKit Go.Shelf

theorem find_mem {t : List Nat} {l : List Ln.W} : ∀ {L : Mn.Lets}, Mn.find t L = some l → ∃ p ∈ L, p.2 = l := by
  intro L
  induction L with
  | nil => intro h; cases h
  | cons p r ih =>
    intro h
    obtain ⟨k, v⟩ := p
    unfold Mn.find at h
    split at h
    · next z hz =>
      obtain ⟨p, hp, e⟩ := ih (by rw [hz]; exact h)
      exact ⟨p, List.mem_cons_of_mem _ hp, e⟩
    · split at h
      · injection h with h
        exact ⟨(k, v), by simp, h⟩
      · cases h
theorem stands_good {L : Mn.Lets} {x : Ln.W} {l : List Ln.W} (hx : GoodW x) (hL : ∀ p ∈ L, ∀ x ∈ p.2, GoodW x) (h : Mo.stands L x = some l) : ∀ y ∈ l, GoodW y := by
  unfold Mo.stands at h
  split at h
  · injection h with h
    subst h
    intro y hy
    rw [List.mem_singleton] at hy
    rw [hy]
    exact hx
  · obtain ⟨p, hp, rfl⟩ := find_mem h
    exact hL p hp
theorem put_good {lets : Mn.Lets} (hl : ∀ p ∈ lets, ∀ x ∈ p.2, GoodW x) : ∀ (L out l : List Ln.W), (∀ x ∈ L, GoodW x) → (∀ x ∈ out, GoodW x) → Mo.put lets L out = .ok l → ∀ x ∈ l, GoodW x
  | [], out, l, _, ho, h => by
    rw [put_nil] at h
    injection h with h
    subst h
    exact ho
  | x :: r, out, l, hL, ho, h => by
    rcases hs : Mo.stands lets x with _ | y
    · rw [put_none hs] at h
      cases h
    · rw [put_some hs] at h
      refine put_good hl r _ l (fun z hz => hL z (List.mem_cons_of_mem _ hz)) (fun z hz => ?_) h
      have hz' := List.mem_of_mem_take hz
      rw [List.mem_append] at hz'
      rcases hz' with h1 | h1
      · exact ho z h1
      · unfold Mo.placed at h1
        rw [List.mem_map] at h1
        obtain ⟨q, hq, rfl⟩ := h1
        have := stands_good (hL x (by simp)) hl hs q hq
        exact ⟨this.bytes, this.len⟩
theorem put_err {lets : Mn.Lets} : ∀ (L out : List Ln.W) (z : Ln.W), Mo.put lets L out = .error z → z ∈ L
  | [], out, z, h => by rw [put_nil] at h; cases h
  | x :: r, out, z, h => by
    rcases hs : Mo.stands lets x with _ | y
    · rw [put_none hs] at h
      injection h with h
      subst h
      simp
    · rw [put_some hs] at h
      exact List.mem_cons_of_mem _ (put_err r _ z h)
/-- A line's words are there: the reader's first word and what is behind it. -/
def Stood (s : Mo.S) (L : List Ln.W) : Mo.S := match Mo.put s.lets L.tail [] with
  | .ok l => { s with first := L.headD Mo.word0, rest := l }
  | .error w => { Mo.fail 6 w s with first := L.headD Mo.word0, rest := [] }
theorem line_is (s : Mo.S) (L : List Ln.W) : Mo.line s L = if Mn.isW [108, 101, 116] (L.headD Mo.word0) then Mo.lett (Stood s L) else if Mn.isW [114, 117, 108, 101] (L.headD Mo.word0) then Mo.rule (Stood s L) else if Mn.isW [112, 104, 111, 110, 121] (L.headD Mo.word0) then Mo.phony (Stood s L) else if Mn.isW [100, 101, 102, 97, 117, 108, 116] (L.headD Mo.word0) then Mo.choose (Stood s L) else Mo.fail 4 (L.headD Mo.word0) (Stood s L) := rfl
end Go.Proofs.YtgjehlegcmeeoaaGreatDoor

/- Package mani's own reader: the actions of so many Outs: the walk. -/
namespace Go.Proofs.YtgjehlegcmeeoaaGreatDoor
set_option maxRecDepth 100000
open Go.ChangeShapes Go.WideShapes Go.ChangeAt Go.RowKit Go.Shelf

section
variable {f n : Nat} {l : List (List Ac.D)} {s s2 : Mo.S} {at0 : Ln.W} {T : Option (List Ac.D)}
theorem acts_fail (hs2 : s2 = if l.length = n then Mo.fail 7 at0 { s with rest := (Mo.cut s.rest).2.2 } else if T.isNone then Mo.fail 9 at0 { s with rest := (Mo.cut s.rest).2.2 } else { s with rest := (Mo.cut s.rest).2.2 }) (ha : at0 = (Mo.cut s.rest).1.headD s.first) (hT : T = Ac.parse (Mo.cut s.rest).1) (hk : s2.e.k ≠ 0) : Mo.acts (f + 1) n l s = ([], s2) := by
  subst hs2 ha hT
  unfold Mo.acts
  rw [if_pos hk]
theorem acts_next (hs2 : s2 = if l.length = n then Mo.fail 7 at0 { s with rest := (Mo.cut s.rest).2.2 } else if T.isNone then Mo.fail 9 at0 { s with rest := (Mo.cut s.rest).2.2 } else { s with rest := (Mo.cut s.rest).2.2 }) (ha : at0 = (Mo.cut s.rest).1.headD s.first) (hT : T = Ac.parse (Mo.cut s.rest).1) (hk : s2.e.k = 0) (hq : (Mo.cut s.rest).2.1 = true) : Mo.acts (f + 1) n l s = Mo.acts f n (l ++ [T.getD []]) s2 := by
  subst hs2 ha hT
  conv => lhs; unfold Mo.acts
  rw [if_neg (fun h => h hk), if_pos hq]
theorem acts_last (hs2 : s2 = if l.length = n then Mo.fail 7 at0 { s with rest := (Mo.cut s.rest).2.2 } else if T.isNone then Mo.fail 9 at0 { s with rest := (Mo.cut s.rest).2.2 } else { s with rest := (Mo.cut s.rest).2.2 }) (ha : at0 = (Mo.cut s.rest).1.headD s.first) (hT : T = Ac.parse (Mo.cut s.rest).1) (hk : s2.e.k = 0) (hq : (Mo.cut s.rest).2.1 = false) : Mo.acts (f + 1) n l s = (l ++ [T.getD []], if (l ++ [T.getD []]).length < n then Mo.wrong s2 else s2) := by
  subst hs2 ha hT
  conv => lhs; unfold Mo.acts
  rw [if_neg (fun h => h hk), if_neg (by rw [hq]; decide)]
end
theorem fail_k (K : Nat) (hK : K ≠ 0) (x : Ln.W) (s : Mo.S) : (Mo.fail K x s).e.k ≠ 0 := by
  unfold Mo.fail
  split
  · exact hK
  · assumption
theorem cut_shorter {R : List Ln.W} (h : (Mo.cut R).2.1 = true) : (Mo.cut R).2.2.length < R.length := by
  rw [Mo.cut_is] at h ⊢
  have := of_decide_eq_true h
  dsimp only
  rw [List.length_drop]
  omega
theorem cut_short (R : List Ln.W) : (Mo.cut R).2.2.length ≤ R.length ∧ (Mo.cut R).1.length ≤ R.length ∧ ∀ x ∈ (Mo.cut R).1, x ∈ R := by
  rw [Mo.cut_is]
  dsimp only
  refine ⟨by rw [List.length_drop]; omega, by rw [List.length_take]; omega, fun x hx => List.mem_of_mem_take hx⟩
/-- What is told of actions. -/
def ActsIs (w : World) (base hi g lb mb : Nat) (e : Ending) (w' : World) (r : List (List Ac.D) × Mo.S) : Prop := ∃ u, e = .returned u ∧ OwnA w' w.heap.size w'.heap.size u r.1 ∧ Left w base hi g lb mb r.2 w'
/-- The row of actions has grown: the reader stands. -/
theorem left_append {w w2 w3 w4 : World} {base hi g lb mb : Nat} {s : Mo.S} {v : Value} (h : Left w base hi g lb mb s w2) (hhi : hi ≤ w.heap.size) (hw : Below w2.heap.size w2 w3) (hg : w3.grownBy w4 v.ownBlock) (hb : Below w.heap.size w3 w4) : Left w base hi g lb mb s w4 := by
  have h3 := h.under hw
  refine ⟨?_, ?_⟩
  · obtain ⟨cv, rv, sv, hin⟩ := h3.1
    exact ⟨cv, rv, sv, hin.same (fun k hk => hb.block k (by omega)) (Nat.le_trans (Nat.le_refl _) hg.size)⟩
  · exact ⟨hb.os.trans h3.2.os, hb.tape.trans h3.2.tape, hb.output.trans h3.2.output, Nat.le_trans h3.2.size hb.size, fun k hk hn => (hb.block k hk).trans (h3.2.block k hk hn)⟩
set_option maxHeartbeats 16000000 in
theorem macts_any (base hi g lb mb n F : Nat) (s : Mo.S) (w : World) (h : MRd w base hi g lb mb s) (hTab : ∀ W, Below base w W → Tabs W) (hrl : s.rest.length ≤ 1000000) (hn : n ≤ 1000) (hF : s.rest.length < F) (r : List (List Ac.D) × Mo.S) (hr : r = Mo.acts F n [] s) :
    Calls Tryz.prog 101 #[.pointer (some ⟨g, 0, none⟩), .int .i64 (n : Int)] w fun e w' => ActsIs w base hi g lb mb e w' r := by
  have HTAB := Lib.hid hTab
  have HTP := Lib.hid h.top
  have HR0 := Lib.hid h
  have HRR := Lib.hid hr
  have HRL := Lib.hid hrl
  have HFF := Lib.hid hF
  have HNN := Lib.hid hn
  clear hTab h hr hrl hF
  go_enter Tryz.func101, Tryz.ntmps101
  go_wp2_with fail
  go_loopg [5, 6] (F + 1) (fun gh lv mv wr => ∃ (l : List (List Ac.D)) (s1 : Mo.S) (f : Nat) (q : Bool), mv = .bool q ∧ Hid (OwnA wr w.heap.size wr.heap.size lv l) ∧ Hid (Left w base hi g lb mb s1 wr) ∧ Hid (l.length ≤ n) ∧ Hid (s1.rest.length ≤ 1000000) ∧ Hid (q = true → r = Mo.acts f n l s1 ∧ s1.rest.length < f ∧ f < gh) ∧ Hid (q = false → r = (l, if l.length < n then Mo.wrong s1 else s1)))
  case atStart => exact ⟨[], s, F, true, rfl, Lib.hid (ownA_none _ _ _), Lib.hid ⟨HR0.out, mgrown_same _ _⟩, Lib.hid (Nat.zero_le _), HRL, Lib.hid (fun _ => ⟨HRR.out, HFF.out, by omega⟩), Lib.hid (fun h => by cases h)⟩
  case round =>
    obtain ⟨l, s1, f, q, rfl, hA, hL, hln, hsl, hqt, hqf⟩ := hrel
    obtain ⟨wz, rfl⟩ : ∃ wx : World, wx = wr := ⟨_, rfl⟩
    obtain ⟨Al, cl, hAe⟩ := hA.out.parts
    subst hAe
    obtain ⟨ln, hlen⟩ : ∃ ln, l.length = ln := ⟨_, rfl⟩
    rw [hlen] at hA ⊢
    have HLEN := Lib.hid hlen
    have hln2 : ln ≤ n := by rw [← hlen]; exact hln.out
    clear hlen
    have HTYG := Lib.hid (show Ty wz g 57 by obtain ⟨_, _, _, hin⟩ := hL.out.1; exact hin.blk.ty)
    rcases q with _ | _
    · as_aux_lemma =>
        have hfin := hqf.out rfl
        have HFIN := Lib.hid hfin
        clear hfin
        by_cases hlt : ln < n
        · have hltI : (ln : Int) < (n : Int) := by omega
          have HFN := Lib.hid (HFIN.out.trans (by rw [if_pos (by rw [HLEN.out]; exact hlt)]))
          go_wp2_with fail
          refine (mwrong_any base hi g lb mb s1 _ hL.out.1).mono ?_
          rintro e w2 ⟨rfl, hl2⟩
          have HL2 := Lib.hid hl2
          clear hl2
          go_wp2
          go_ret
          rw [HFN.out]
          exact ⟨_, rfl, (hA.out.keep HL2.out.2 HTYG.out).more HL2.out.2.size, hL.out.on HL2.out⟩
        · have hltI : ¬ (ln : Int) < (n : Int) := by omega
          have HFN := Lib.hid (HFIN.out.trans (by rw [if_neg (by rw [HLEN.out]; exact hlt)]))
          go_wp2
          go_ret
          rw [HFN.out]
          exact ⟨_, rfl, hA.out, hL.out⟩
    · obtain ⟨f', rfl⟩ : ∃ f', f = f' + 1 := by
        have := (hqt.out rfl).2.1
        exact ⟨f - 1, by omega⟩
      have HQT := Lib.hid (hqt.out rfl)
      obtain ⟨q2, hq2⟩ : ∃ q2, q2 = (Mo.cut s1.rest).2.1 := ⟨_, rfl⟩
      have HQ2 := Lib.hid hq2
      have hact := action_any base hi g lb mb s1 wz hL.out.1 hsl.out q2 hq2
      have HACT := Lib.hid hact
      clear hact hq2 hqt hqf
      go_wp2_with fail
      refine HACT.out.mono ?_
      rintro e w1 ⟨v, rfl, hv1, hl1⟩
      have HL1 := Lib.hid hl1
      have HA1 := Lib.hid ((hA.out.keep hl1.2 HTYG.out).more hl1.2.size)
      obtain ⟨cv1, rv1, sv1, hin1⟩ := hl1.1
      obtain ⟨c5, c6, c7, c8⟩ := hin1.fst
      have HIN1 := Lib.hid hin1
      have HV1 := Lib.hid hv1
      have hfst : ({ s1 with rest := (Mo.cut s1.rest).2.2 } : Mo.S).first = s1.first := rfl
      rw [hfst] at c5 c6 c7 c8
      obtain ⟨x0, hx0⟩ : ∃ x0, s1.first = x0 := ⟨_, rfl⟩
      rw [hx0] at c5 c6 c7 c8
      have HX0 := Lib.hid hx0
      have HGX0 : Hid (∀ y ∈ (Mo.cut s1.rest).1, GoodW y) := Lib.hid (fun y hy => hL.out.1.good.rest y ((cut_short s1.rest).2.2 y hy))
      have HCS := Lib.hid (cut_short s1.rest)
      have HSL1 : Hid ((Mo.cut s1.rest).2.2.length ≤ 1000000) := Lib.hid (Nat.le_trans HCS.out.1 hsl.out)
      obtain ⟨T, hT⟩ : ∃ T, T = Ac.parse (Mo.cut s1.rest).1 := ⟨_, rfl⟩
      have HT := Lib.hid hT
      obtain ⟨Av, cvv, hve, _⟩ := hv1.parts
      subst hve
      have hg1 : g < w1.heap.size := hin1.blk.size
      have HBO : Hid (∀ o, Below w1.heap.size w1 (w1.alloc o)) := Lib.hid (fun o => (Below.refl _ _).alloc (Nat.le_refl _) o)
      obtain ⟨s2, hs2⟩ : ∃ s2 : Mo.S, s2 = { s1 with rest := (Mo.cut s1.rest).2.2 } := ⟨_, rfl⟩
      rw [← hs2] at HL1
      have HS2 := Lib.hid hs2
      have HPRS : Hid (∀ W, Below w1.heap.size w1 W → Calls Tryz.prog 120 #[.slice Av (Mo.cut s1.rest).1.length cvv] W fun e w' => ParsedIs W e w' T) := Lib.hid (fun W hb => parse_any _ (Mo.cut s1.rest).1 W (HV1.out.rd.under hb) (by have := HCS.out.2.1; have := hsl.out; omega) (fun y hy => ⟨(HGX0.out y hy).bytes, by have := (HGX0.out y hy).len; omega⟩)
        (HTAB.out W ((Below.ofGrown (hL.out.on HL1.out).2 (by have := HTP.out; omega) (by have := HTP.out; omega)).trans (hb.mono (by have := HL1.out.1.top; omega)))) T HT.out)
      clear hin1 hv1 hl1 hx0 hT hfst hs2
      rcases hcw : (Mo.cut s1.rest).1 with _ | ⟨x, r1⟩
      · rw [hcw] at HPRS HV1
        have HAT : Hid (x0 = (Mo.cut s1.rest).1.headD s1.first) := Lib.hid (by rw [hcw, HX0.out]; rfl)
        clear hcw
        change Hid (∀ W, Below w1.heap.size w1 W → Calls Tryz.prog 120 #[.slice Av 0 cvv] W fun e w' => ParsedIs W e w' T) at HPRS
        go_wp2_with fail
        have HBB : Hid (Below w1.heap.size w1 (w1.alloc (.cells #[.string (str x0.text), .int .i64 x0.line, .int .i64 x0.col, .bool x0.q] 55))) := HBO.out _ |> Lib.hid
        have HBK : Hid (Blk (w1.alloc (.cells #[.string (str x0.text), .int .i64 x0.line, .int .i64 x0.col, .bool x0.q] 55)) w1.heap.size 55 (cellsW x0).toArray) := Lib.hid (heap_alloc_new w1 _)
        refine (HPRS.out _ HBB.out).mono ?_
        intro e w2 hp
        clear c5 c6 c7 c8
        by_cases hlnn : ln = n
        · as_aux_lemma =>
            have hT7 : ∃ u q, e = .returned (.tuple #[u, .bool q]) ∧ Below (w1.alloc (.cells #[.string (str x0.text), .int .i64 x0.line, .int .i64 x0.col, .bool x0.q] 55)).heap.size (w1.alloc (.cells #[.string (str x0.text), .int .i64 x0.line, .int .i64 x0.col, .bool x0.q] 55)) w2 := by
              rcases T with _ | L
              · exact ⟨_, _, hp.1, hp.2⟩
              · obtain ⟨⟨u, he, _⟩, hb⟩ := hp
                exact ⟨_, _, he, hb⟩
            obtain ⟨u, qq, rfl, hb2⟩ := hT7
            have HB2 := Lib.hid (HBB.out.trans (hb2.mono HBB.out.size))
            have hbk2 := HBK.out.under hb2
            have p0 : w2.cell? ⟨w1.heap.size, 0, none⟩ = some (.string (str x0.text)) := hbk2.at 0
            have p1 : w2.cell? ⟨w1.heap.size, 1, none⟩ = some (.int .i64 (x0.line : Int)) := hbk2.at 1
            have p2 : w2.cell? ⟨w1.heap.size, 2, none⟩ = some (.int .i64 (x0.col : Int)) := hbk2.at 2
            have p3 : w2.cell? ⟨w1.heap.size, 3, none⟩ = some (.bool x0.q) := hbk2.at 3
            have hlt : ((ln : Int) == (n : Int)) = true := by simp [hlnn]
            have HEQ : Hid (r = ([], Mo.fail 7 x0 s2)) := Lib.hid (HQT.out.1.trans (acts_fail (T := T) (by rw [if_pos (HLEN.out.trans hlnn), ← HS2.out]) HAT.out HT.out (fail_k 7 (by decide) x0 s2)))
            clear hp hb2 hbk2 hlnn
            go_wp2_with fail
            refine (mfail_any 7 x0 base hi g lb mb s2 _ (HL1.out.under HB2.out).1).mono ?_
            rintro e w3 ⟨rfl, hl3⟩
            have HL3 := Lib.hid (hL.out.on ((HL1.out.under HB2.out).on hl3))
            have hk3 := fail_k 7 (by decide) x0 s2
            obtain ⟨kk, hkk⟩ : ∃ kk, (Mo.fail 7 x0 s2).e.k = kk := ⟨_, rfl⟩
            rw [hkk] at hk3
            have q10 : w3.cell? ⟨g, 10, none⟩ = some (.int .i64 (kk : Int)) := by
              obtain ⟨_, _, _, hin3⟩ := hl3.1
              rw [← hkk]
              exact hin3.blk.at 10
            have hkI : ((kk : Int) != 0) = true := by simp; omega
            clear hl3 hkk p0 p1 p2 p3
            go_wp2
            go_ret
            rw [HEQ.out]
            exact ⟨_, rfl, ownA_none _ _ _, HL3.out⟩
        · have hlt : ((ln : Int) == (n : Int)) = false := by simp; omega
          have HLNN := Lib.hid hlnn
          clear hlnn
          rcases T with _ | L
          · as_aux_lemma =>
              obtain ⟨rfl, hb2⟩ := hp
              have HB2 := Lib.hid (HBB.out.trans (hb2.mono HBB.out.size))
              have hbk2 := HBK.out.under hb2
              have p0 : w2.cell? ⟨w1.heap.size, 0, none⟩ = some (.string (str x0.text)) := hbk2.at 0
              have p1 : w2.cell? ⟨w1.heap.size, 1, none⟩ = some (.int .i64 (x0.line : Int)) := hbk2.at 1
              have p2 : w2.cell? ⟨w1.heap.size, 2, none⟩ = some (.int .i64 (x0.col : Int)) := hbk2.at 2
              have p3 : w2.cell? ⟨w1.heap.size, 3, none⟩ = some (.bool x0.q) := hbk2.at 3
              have HEQ : Hid (r = ([], Mo.fail 9 x0 s2)) := Lib.hid (HQT.out.1.trans (acts_fail (T := none) (by rw [if_neg (by rw [HLEN.out]; exact HLNN.out), ← HS2.out]; rfl) HAT.out HT.out (fail_k 9 (by decide) x0 s2)))
              clear hb2 hbk2
              go_wp2_with fail
              refine (mfail_any 9 x0 base hi g lb mb s2 _ (HL1.out.under HB2.out).1).mono ?_
              rintro e w3 ⟨rfl, hl3⟩
              have HL3 := Lib.hid (hL.out.on ((HL1.out.under HB2.out).on hl3))
              have hk3 := fail_k 9 (by decide) x0 s2
              obtain ⟨kk, hkk⟩ : ∃ kk, (Mo.fail 9 x0 s2).e.k = kk := ⟨_, rfl⟩
              rw [hkk] at hk3
              have q10 : w3.cell? ⟨g, 10, none⟩ = some (.int .i64 (kk : Int)) := by
                obtain ⟨_, _, _, hin3⟩ := hl3.1
                rw [← hkk]
                exact hin3.blk.at 10
              have hkI : ((kk : Int) != 0) = true := by simp; omega
              clear hl3 hkk p0 p1 p2 p3
              go_wp2
              go_ret
              rw [HEQ.out]
              exact ⟨_, rfl, ownA_none _ _ _, HL3.out⟩
          · obtain ⟨⟨u, rfl, hu⟩, hb2⟩ := hp
            have HB2 := Lib.hid (HBB.out.trans (hb2.mono HBB.out.size))
            have HL2 := Lib.hid (HL1.out.under HB2.out)
            have HU := Lib.hid hu
            have HS3 : Hid (s2 = if l.length = n then Mo.fail 7 x0 { s1 with rest := (Mo.cut s1.rest).2.2 } else if (some L).isNone then Mo.fail 9 x0 { s1 with rest := (Mo.cut s1.rest).2.2 } else { s1 with rest := (Mo.cut s1.rest).2.2 }) := Lib.hid (by rw [if_neg (by rw [HLEN.out]; exact HLNN.out)]; exact HS2.out)
            obtain ⟨kk, hkk⟩ : ∃ kk, s2.e.k = kk := ⟨_, rfl⟩
            have q10 : w2.cell? ⟨g, 10, none⟩ = some (.int .i64 (kk : Int)) := by
              obtain ⟨_, _, _, hin3⟩ := HL2.out.1
              rw [← hkk]
              exact hin3.blk.at 10
            have HKK := Lib.hid hkk
            clear hu hb2 hkk
            by_cases hk0 : kk = 0
            · have hkI : ((kk : Int) != 0) = false := by simp [hk0]
              have HK0 : Hid (s2.e.k = 0) := Lib.hid (HKK.out.trans hk0)
              have HA2 := Lib.hid ((HA1.out.under HB2.out).more HB2.out.size)
              have HSD := Lib.hid (HU.out.slB (hi := w2.heap.size) (Nat.le_refl _))
              obtain ⟨Au, cu, hue⟩ : ∃ A c, u = .slice A L.length c := by
                obtain ⟨A, c, e, _⟩ := HU.out.parts
                exact ⟨A, c, e⟩
              subst hue
              have HW2 : Hid (Below w2.heap.size w2 (w2.alloc (.cells #[.slice Au L.length cu] 59))) := Lib.hid ((Below.refl _ _).alloc (Nat.le_refl _) _)
              have HBS : Hid (w.heap.size ≤ w2.heap.size) := Lib.hid (hL.out.on HL2.out).2.size
              clear hk0
              rcases q2 with _ | _
              · as_aux_lemma =>
                  have HEQ := Lib.hid (HQT.out.1.trans (acts_last HS3.out HAT.out HT.out HK0.out HQ2.out.symm))
                  go_wp2_with (at_builtin; refine wpList_append_dos1 rfl _ _ rfl w.heap.size w2.heap.size w2.heap.size (.slice Al ln cl) (.slice Au L.length cu) l L rfl ?_ rfl ?_ ?_ ?_ ?_ ?_)
                  case refine_1 => exact HA2.out.under HW2.out
                  case refine_2 => exact (show Blk _ w2.heap.size 59 #[.slice Au L.length cu] from heap_alloc_new w2 _).at 0
                  case refine_3 => exact HSD.out.keep (Q := PartTy) (KeepB.below HW2.out) (.inr (.inl rfl))
                  case refine_4 => rw [HLEN.out]; have := HNN.out; omega
                  case refine_5 => have := HBS.out; simp; omega
                  case refine_6 =>
                    intro v' w4 ho4 hb4 hg4
                    have HO4 := Lib.hid ho4
                    have HL4 : Hid (Left w base hi g lb mb s2 w4) := Lib.hid (left_append (hL.out.on HL2.out) (by have := HTP.out; omega) HW2.out hg4 hb4)
                    have HZ4 : Hid (w2.heap.size ≤ w4.heap.size) := Lib.hid (Nat.le_trans HW2.out.size hb4.size)
                    clear ho4 hb4 hg4
                    go_wp2
                    go_roundg 0
                    case measure => have := HQT.out.2.2; omega
                    case rel => exact ⟨l ++ [L], s2, 0, false, rfl, Lib.hid (HO4.out.more HZ4.out), HL4, Lib.hid (by rw [List.length_append, HLEN.out, List.length_singleton]; have := HLNN.out; omega), Lib.hid (by rw [HS2.out]; exact HSL1.out), Lib.hid (fun h => by cases h), Lib.hid (fun _ => HEQ.out)⟩
              · as_aux_lemma =>
                  have HEQ := Lib.hid (HQT.out.1.trans (acts_next HS3.out HAT.out HT.out HK0.out HQ2.out.symm))
                  have HSH := Lib.hid (cut_shorter HQ2.out.symm)
                  go_wp2_with (at_builtin; refine wpList_append_dos1 rfl _ _ rfl w.heap.size w2.heap.size w2.heap.size (.slice Al ln cl) (.slice Au L.length cu) l L rfl ?_ rfl ?_ ?_ ?_ ?_ ?_)
                  case refine_1 => exact HA2.out.under HW2.out
                  case refine_2 => exact (show Blk _ w2.heap.size 59 #[.slice Au L.length cu] from heap_alloc_new w2 _).at 0
                  case refine_3 => exact HSD.out.keep (Q := PartTy) (KeepB.below HW2.out) (.inr (.inl rfl))
                  case refine_4 => rw [HLEN.out]; have := HNN.out; omega
                  case refine_5 => have := HBS.out; simp; omega
                  case refine_6 =>
                    intro v' w4 ho4 hb4 hg4
                    have HO4 := Lib.hid ho4
                    have HL4 : Hid (Left w base hi g lb mb s2 w4) := Lib.hid (left_append (hL.out.on HL2.out) (by have := HTP.out; omega) HW2.out hg4 hb4)
                    have HZ4 : Hid (w2.heap.size ≤ w4.heap.size) := Lib.hid (Nat.le_trans HW2.out.size hb4.size)
                    clear ho4 hb4 hg4
                    go_wp2
                    go_roundg (f' + 1)
                    case measure => have := HQT.out.2.2; omega
                    case rel => exact ⟨l ++ [L], s2, f', true, rfl, Lib.hid (HO4.out.more HZ4.out), HL4, Lib.hid (by rw [List.length_append, HLEN.out, List.length_singleton]; have := HLNN.out; omega), Lib.hid (by rw [HS2.out]; exact HSL1.out), Lib.hid (fun _ => ⟨HEQ.out, by rw [HS2.out]; have := HSH.out; have := HQT.out.2.1; dsimp only; omega, Nat.lt_succ_self _⟩), Lib.hid (fun h => by cases h)⟩
            · as_aux_lemma =>
                have hkI : ((kk : Int) != 0) = true := by simp; omega
                have HEQ := Lib.hid (HQT.out.1.trans (acts_fail HS3.out HAT.out HT.out (by rw [HKK.out]; exact hk0)))
                go_wp2
                go_ret
                rw [HEQ.out]
                exact ⟨_, rfl, ownA_none _ _ _, hL.out.on HL2.out⟩
      · rw [hcw] at HPRS HV1
        have HAT : Hid (x = (Mo.cut s1.rest).1.headD s1.first) := Lib.hid (by rw [hcw]; rfl)
        obtain ⟨b, off, rfl, hbh, hty, hxx⟩ := HV1.out.first
        have hbz := hty.lt
        have ex := fun o => hxx.under (HBO.out o)
        have e0 := fun o => (ex o).text
        have e1 := fun o => (ex o).line
        have e2 := fun o => (ex o).col
        have e3 := fun o => (ex o).q
        obtain ⟨nn, hnn⟩ : ∃ n, (x :: r1).length = n := ⟨_, rfl⟩
        have hnn0 : (0 : Int) < (nn : Int) := by rw [← hnn]; simp
        have hnnN : 0 < nn := by omega
        rw [hnn] at HPRS
        rw [hnn]
        clear hcw hnn ex hxx hty
        go_wp2_with fail
        have HBB : Hid (Below w1.heap.size w1 (w1.alloc (.cells #[.string (str x.text), .int .i64 x.line, .int .i64 x.col, .bool x.q] 55))) := HBO.out _ |> Lib.hid
        have HBK : Hid (Blk (w1.alloc (.cells #[.string (str x.text), .int .i64 x.line, .int .i64 x.col, .bool x.q] 55)) w1.heap.size 55 (cellsW x).toArray) := Lib.hid (heap_alloc_new w1 _)
        refine (HPRS.out _ HBB.out).mono ?_
        intro e w2 hp
        clear c5 c6 c7 c8 e0 e1 e2 e3
        by_cases hlnn : ln = n
        · as_aux_lemma =>
            have hT7 : ∃ u q, e = .returned (.tuple #[u, .bool q]) ∧ Below (w1.alloc (.cells #[.string (str x.text), .int .i64 x.line, .int .i64 x.col, .bool x.q] 55)).heap.size (w1.alloc (.cells #[.string (str x.text), .int .i64 x.line, .int .i64 x.col, .bool x.q] 55)) w2 := by
              rcases T with _ | L
              · exact ⟨_, _, hp.1, hp.2⟩
              · obtain ⟨⟨u, he, _⟩, hb⟩ := hp
                exact ⟨_, _, he, hb⟩
            obtain ⟨u, qq, rfl, hb2⟩ := hT7
            have HB2 := Lib.hid (HBB.out.trans (hb2.mono HBB.out.size))
            have hbk2 := HBK.out.under hb2
            have p0 : w2.cell? ⟨w1.heap.size, 0, none⟩ = some (.string (str x.text)) := hbk2.at 0
            have p1 : w2.cell? ⟨w1.heap.size, 1, none⟩ = some (.int .i64 (x.line : Int)) := hbk2.at 1
            have p2 : w2.cell? ⟨w1.heap.size, 2, none⟩ = some (.int .i64 (x.col : Int)) := hbk2.at 2
            have p3 : w2.cell? ⟨w1.heap.size, 3, none⟩ = some (.bool x.q) := hbk2.at 3
            have hlt : ((ln : Int) == (n : Int)) = true := by simp [hlnn]
            have HEQ : Hid (r = ([], Mo.fail 7 x s2)) := Lib.hid (HQT.out.1.trans (acts_fail (T := T) (by rw [if_pos (HLEN.out.trans hlnn), ← HS2.out]) HAT.out HT.out (fail_k 7 (by decide) x s2)))
            clear hp hb2 hbk2 hlnn
            go_wp2_with fail
            refine (mfail_any 7 x base hi g lb mb s2 _ (HL1.out.under HB2.out).1).mono ?_
            rintro e w3 ⟨rfl, hl3⟩
            have HL3 := Lib.hid (hL.out.on ((HL1.out.under HB2.out).on hl3))
            have hk3 := fail_k 7 (by decide) x s2
            obtain ⟨kk, hkk⟩ : ∃ kk, (Mo.fail 7 x s2).e.k = kk := ⟨_, rfl⟩
            rw [hkk] at hk3
            have q10 : w3.cell? ⟨g, 10, none⟩ = some (.int .i64 (kk : Int)) := by
              obtain ⟨_, _, _, hin3⟩ := hl3.1
              rw [← hkk]
              exact hin3.blk.at 10
            have hkI : ((kk : Int) != 0) = true := by simp; omega
            clear hl3 hkk p0 p1 p2 p3
            go_wp2
            go_ret
            rw [HEQ.out]
            exact ⟨_, rfl, ownA_none _ _ _, HL3.out⟩
        · have hlt : ((ln : Int) == (n : Int)) = false := by simp; omega
          have HLNN := Lib.hid hlnn
          clear hlnn
          rcases T with _ | L
          · as_aux_lemma =>
              obtain ⟨rfl, hb2⟩ := hp
              have HB2 := Lib.hid (HBB.out.trans (hb2.mono HBB.out.size))
              have hbk2 := HBK.out.under hb2
              have p0 : w2.cell? ⟨w1.heap.size, 0, none⟩ = some (.string (str x.text)) := hbk2.at 0
              have p1 : w2.cell? ⟨w1.heap.size, 1, none⟩ = some (.int .i64 (x.line : Int)) := hbk2.at 1
              have p2 : w2.cell? ⟨w1.heap.size, 2, none⟩ = some (.int .i64 (x.col : Int)) := hbk2.at 2
              have p3 : w2.cell? ⟨w1.heap.size, 3, none⟩ = some (.bool x.q) := hbk2.at 3
              have HEQ : Hid (r = ([], Mo.fail 9 x s2)) := Lib.hid (HQT.out.1.trans (acts_fail (T := none) (by rw [if_neg (by rw [HLEN.out]; exact HLNN.out), ← HS2.out]; rfl) HAT.out HT.out (fail_k 9 (by decide) x s2)))
              clear hb2 hbk2
              go_wp2_with fail
              refine (mfail_any 9 x base hi g lb mb s2 _ (HL1.out.under HB2.out).1).mono ?_
              rintro e w3 ⟨rfl, hl3⟩
              have HL3 := Lib.hid (hL.out.on ((HL1.out.under HB2.out).on hl3))
              have hk3 := fail_k 9 (by decide) x s2
              obtain ⟨kk, hkk⟩ : ∃ kk, (Mo.fail 9 x s2).e.k = kk := ⟨_, rfl⟩
              rw [hkk] at hk3
              have q10 : w3.cell? ⟨g, 10, none⟩ = some (.int .i64 (kk : Int)) := by
                obtain ⟨_, _, _, hin3⟩ := hl3.1
                rw [← hkk]
                exact hin3.blk.at 10
              have hkI : ((kk : Int) != 0) = true := by simp; omega
              clear hl3 hkk p0 p1 p2 p3
              go_wp2
              go_ret
              rw [HEQ.out]
              exact ⟨_, rfl, ownA_none _ _ _, HL3.out⟩
          · obtain ⟨⟨u, rfl, hu⟩, hb2⟩ := hp
            have HB2 := Lib.hid (HBB.out.trans (hb2.mono HBB.out.size))
            have HL2 := Lib.hid (HL1.out.under HB2.out)
            have HU := Lib.hid hu
            have HS3 : Hid (s2 = if l.length = n then Mo.fail 7 x { s1 with rest := (Mo.cut s1.rest).2.2 } else if (some L).isNone then Mo.fail 9 x { s1 with rest := (Mo.cut s1.rest).2.2 } else { s1 with rest := (Mo.cut s1.rest).2.2 }) := Lib.hid (by rw [if_neg (by rw [HLEN.out]; exact HLNN.out)]; exact HS2.out)
            obtain ⟨kk, hkk⟩ : ∃ kk, s2.e.k = kk := ⟨_, rfl⟩
            have q10 : w2.cell? ⟨g, 10, none⟩ = some (.int .i64 (kk : Int)) := by
              obtain ⟨_, _, _, hin3⟩ := HL2.out.1
              rw [← hkk]
              exact hin3.blk.at 10
            have HKK := Lib.hid hkk
            clear hu hb2 hkk
            by_cases hk0 : kk = 0
            · have hkI : ((kk : Int) != 0) = false := by simp [hk0]
              have HK0 : Hid (s2.e.k = 0) := Lib.hid (HKK.out.trans hk0)
              have HA2 := Lib.hid ((HA1.out.under HB2.out).more HB2.out.size)
              have HSD := Lib.hid (HU.out.slB (hi := w2.heap.size) (Nat.le_refl _))
              obtain ⟨Au, cu, hue⟩ : ∃ A c, u = .slice A L.length c := by
                obtain ⟨A, c, e, _⟩ := HU.out.parts
                exact ⟨A, c, e⟩
              subst hue
              have HW2 : Hid (Below w2.heap.size w2 (w2.alloc (.cells #[.slice Au L.length cu] 59))) := Lib.hid ((Below.refl _ _).alloc (Nat.le_refl _) _)
              have HBS : Hid (w.heap.size ≤ w2.heap.size) := Lib.hid (hL.out.on HL2.out).2.size
              clear hk0
              rcases q2 with _ | _
              · as_aux_lemma =>
                  have HEQ := Lib.hid (HQT.out.1.trans (acts_last HS3.out HAT.out HT.out HK0.out HQ2.out.symm))
                  go_wp2_with (at_builtin; refine wpList_append_dos1 rfl _ _ rfl w.heap.size w2.heap.size w2.heap.size (.slice Al ln cl) (.slice Au L.length cu) l L rfl ?_ rfl ?_ ?_ ?_ ?_ ?_)
                  case refine_1 => exact HA2.out.under HW2.out
                  case refine_2 => exact (show Blk _ w2.heap.size 59 #[.slice Au L.length cu] from heap_alloc_new w2 _).at 0
                  case refine_3 => exact HSD.out.keep (Q := PartTy) (KeepB.below HW2.out) (.inr (.inl rfl))
                  case refine_4 => rw [HLEN.out]; have := HNN.out; omega
                  case refine_5 => have := HBS.out; simp; omega
                  case refine_6 =>
                    intro v' w4 ho4 hb4 hg4
                    have HO4 := Lib.hid ho4
                    have HL4 : Hid (Left w base hi g lb mb s2 w4) := Lib.hid (left_append (hL.out.on HL2.out) (by have := HTP.out; omega) HW2.out hg4 hb4)
                    have HZ4 : Hid (w2.heap.size ≤ w4.heap.size) := Lib.hid (Nat.le_trans HW2.out.size hb4.size)
                    clear ho4 hb4 hg4
                    go_wp2
                    go_roundg 0
                    case measure => have := HQT.out.2.2; omega
                    case rel => exact ⟨l ++ [L], s2, 0, false, rfl, Lib.hid (HO4.out.more HZ4.out), HL4, Lib.hid (by rw [List.length_append, HLEN.out, List.length_singleton]; have := HLNN.out; omega), Lib.hid (by rw [HS2.out]; exact HSL1.out), Lib.hid (fun h => by cases h), Lib.hid (fun _ => HEQ.out)⟩
              · as_aux_lemma =>
                  have HEQ := Lib.hid (HQT.out.1.trans (acts_next HS3.out HAT.out HT.out HK0.out HQ2.out.symm))
                  have HSH := Lib.hid (cut_shorter HQ2.out.symm)
                  go_wp2_with (at_builtin; refine wpList_append_dos1 rfl _ _ rfl w.heap.size w2.heap.size w2.heap.size (.slice Al ln cl) (.slice Au L.length cu) l L rfl ?_ rfl ?_ ?_ ?_ ?_ ?_)
                  case refine_1 => exact HA2.out.under HW2.out
                  case refine_2 => exact (show Blk _ w2.heap.size 59 #[.slice Au L.length cu] from heap_alloc_new w2 _).at 0
                  case refine_3 => exact HSD.out.keep (Q := PartTy) (KeepB.below HW2.out) (.inr (.inl rfl))
                  case refine_4 => rw [HLEN.out]; have := HNN.out; omega
                  case refine_5 => have := HBS.out; simp; omega
                  case refine_6 =>
                    intro v' w4 ho4 hb4 hg4
                    have HO4 := Lib.hid ho4
                    have HL4 : Hid (Left w base hi g lb mb s2 w4) := Lib.hid (left_append (hL.out.on HL2.out) (by have := HTP.out; omega) HW2.out hg4 hb4)
                    have HZ4 : Hid (w2.heap.size ≤ w4.heap.size) := Lib.hid (Nat.le_trans HW2.out.size hb4.size)
                    clear ho4 hb4 hg4
                    go_wp2
                    go_roundg (f' + 1)
                    case measure => have := HQT.out.2.2; omega
                    case rel => exact ⟨l ++ [L], s2, f', true, rfl, Lib.hid (HO4.out.more HZ4.out), HL4, Lib.hid (by rw [List.length_append, HLEN.out, List.length_singleton]; have := HLNN.out; omega), Lib.hid (by rw [HS2.out]; exact HSL1.out), Lib.hid (fun _ => ⟨HEQ.out, by rw [HS2.out]; have := HSH.out; have := HQT.out.2.1; dsimp only; omega, Nat.lt_succ_self _⟩), Lib.hid (fun h => by cases h)⟩
            · as_aux_lemma =>
                have hkI : ((kk : Int) != 0) = true := by simp; omega
                have HEQ := Lib.hid (HQT.out.1.trans (acts_fail HS3.out HAT.out HT.out (by rw [HKK.out]; exact hk0)))
                go_wp2
                go_ret
                rw [HEQ.out]
                exact ⟨_, rfl, ownA_none _ _ _, hL.out.on HL2.out⟩
end Go.Proofs.YtgjehlegcmeeoaaGreatDoor

/- Package mani's own reader: a rule's line, with actions, or without. -/
namespace Go.Proofs.YtgjehlegcmeeoaaGreatDoor
set_option maxRecDepth 100000
open Go.ChangeShapes Go.WideShapes Go.ChangeAt Go.RowKit Go.Shelf

theorem SlTB.left {w w' : World} {hi g : Nat} {v : Value} {l : List (List Nat)} (h : SlTB w hi v l) (hg : w.grownBy w' (some g)) (ht : Ty w g 57) : SlTB w' hi v l := h.keep (KeepB.grown hg ht notPart_reader) (.inl rfl)
theorem SlTB.under {w w' : World} {hi : Nat} {v : Value} {l : List (List Nat)} (h : SlTB w hi v l) (hb : Below w.heap.size w w') : SlTB w' hi v l := h.keep (Q := PartTy) (KeepB.below hb) (.inl rfl)
theorem SlTB.setRule {w : World} {hi b : Nat} {v : Value} {l : List (List Nat)} (h : SlTB w hi v l) (ht : Ty w b 41) (i : Nat) (u : Value) : SlTB (w.setCell ⟨b, i, none⟩ u) hi v l := h.keep (KeepB.grown (grown_setCell w ⟨b, i, none⟩ u) ht notPart_rule) (.inl rfl)
theorem slTB_nil (w : World) (hi : Nat) : SlTB w hi (.slice none 0 0) [] := slB_nil _ _ _ _ _
theorem slAB_nil (w : World) (hi : Nat) : SlAB w hi (.slice none 0 0) [] := slB_nil _ _ _ _ _
theorem OwnT.shape {w : World} {base : Nat} {v : Value} {l : List (List Nat)} (h : OwnT w base v l) : ∃ A c, v = .slice A l.length c := by
  rcases h.2 with ⟨rfl, h0⟩ | ⟨gg, cap, cur, rfl, _⟩
  · exact ⟨none, 0, by rw [h0]⟩
  · exact ⟨_, _, rfl⟩
theorem MRd.tyg {w : World} {base hi g lb mb : Nat} {s : Mo.S} (h : MRd w base hi g lb mb s) : Ty w g 57 := by
  obtain ⟨_, _, _, hin⟩ := h
  exact hin.blk.ty
theorem Left.set {w w' : World} {base hi g lb mb : Nat} {s : Mo.S} (h : Left w base hi g lb mb s w') {p : Addr} (hp : w.heap.size ≤ p.block) (hh : hi ≤ p.block) (u : Value) : Left w base hi g lb mb s (w'.setCell p u) :=
  ⟨h.1.setHigh hh u, grown_new h.2 hp u⟩
/-- What lies of a rule that is being read: its box; below its own place the world is another one's. -/
def RBox (W : World) (b : Nat) (u1 u2 u3 u4 : Value) (q : Bool) : Prop := Blk W b 41 #[u1, u2, u3, u4, .bool q]
theorem RBox.left {w w' : World} {b g : Nat} {u1 u2 u3 u4 : Value} {q : Bool} (h : RBox w b u1 u2 u3 u4 q) (hg : w.grownBy w' (some g)) (hne : b ≠ g) : RBox w' b u1 u2 u3 u4 q := Blk.grown h hg (by intro e; injection e with e; exact hne e)
theorem wrong_rules (s : Mo.S) : (Mo.wrong s).rules = s.rules := fail_rules _ _ _
theorem take_rules (sg : Nat) (s : Mo.S) : (Mo.take sg s).rules = s.rules := by
  unfold Mo.take
  split
  · rfl
  · exact wrong_rules s
theorem ends_rules (s : Mo.S) : (Mo.ends s).rules = s.rules := by
  unfold Mo.ends
  split
  · rfl
  · exact wrong_rules s
theorem run_still_rules (most : Nat) (may : List Nat → Bool) : ∀ (l : List Ln.W) (n : Nat) (s : Mo.S), (Mo.run Mo.still most may l n s).2.rules = s.rules
  | [], n, s => rfl
  | w :: r, n, s => by
    unfold Mo.run
    split
    · rfl
    · split
      · exact fail_rules _ _ _
      · split
        · exact fail_rules _ _ _
        · exact run_still_rules most may r (n + 1) _
theorem ins_rules (s : Mo.S) : (Mo.ins s).2.rules = s.rules := run_still_rules _ _ _ _ _
theorem run_note_rules (most : Nat) (may : List Nat → Bool) : ∀ (l : List Ln.W) (n : Nat) (s : Mo.S), (Mo.run Mo.note most may l n s).2.rules = s.rules
  | [], n, s => rfl
  | w :: r, n, s => by
    unfold Mo.run
    split
    · rfl
    · split
      · exact fail_rules _ _ _
      · split
        · exact fail_rules _ _ _
        · rw [run_note_rules most may r (n + 1), note_rules]
theorem outs_rules (most : Nat) (s : Mo.S) : (Mo.outs most s).2.rules = s.rules := by
  unfold Mo.outs
  dsimp only
  have h : (if s.rules.length = 64 then Mo.fail 11 s.first s else s).rules = s.rules := by
    split
    · exact fail_rules _ _ _
    · rfl
  generalize (if s.rules.length = 64 then Mo.fail 11 s.first s else s) = s0 at h ⊢
  split
  · rw [wrong_rules, run_note_rules, h]
  · rw [run_note_rules, h]
set_option maxHeartbeats 8000000 in
theorem phony_any (base hi0 g lb mb : Nat) (s : Mo.S) (w : World) (h : MRd w base hi0 g lb mb s) (hrules : s.rules.length ≤ 100000) (hmk : s.makers.length ≤ 1000000) :
    Calls Tryz.prog 66 #[.pointer (some ⟨g, 0, none⟩)] w fun e w' => e = .returned (.tuple #[]) ∧ Lined w base g lb mb (Mo.phony s) w' := by
  have HR := Lib.hid (h.more h.top.2.2.1 (Nat.le_refl _))
  have HTP := Lib.hid HR.out.top
  have HRU := Lib.hid hrules
  have HMK := Lib.hid hmk
  clear h hrules hmk
  go_enter Tryz.func66, Tryz.ntmps66
  go_wp2_with fail
  refine (outs_own base w.heap.size g lb mb 1 s w HR.out (by omega) (by have := HRU.out; omega) HMK.out).mono ?_
  rintro e w1 ⟨u1, rfl, ho1, hr1, ht1⟩
  obtain ⟨A1, c1, rfl⟩ := ho1.shape
  obtain ⟨n1, hn1⟩ : ∃ n, (Mo.outs 1 s).1.length = n := ⟨_, rfl⟩
  have HO1 := Lib.hid (ho1.slB (hi := w1.heap.size) (Nat.le_refl _))
  rw [hn1] at HO1 ⊢
  have HR1 := Lib.hid hr1
  have HT1 := Lib.hid ht1
  have HN1 := Lib.hid hn1
  have HTP1 := Lib.hid hr1.top
  have HGO := Lib.hid (outs_good HR.out.good 1)
  obtain ⟨s1, hs1⟩ : ∃ s1, (Mo.outs 1 s).2 = s1 := ⟨_, rfl⟩
  rw [hs1] at HR1
  have HS1 := Lib.hid hs1
  have HB1 : Hid (RBox (w1.alloc (.cells #[.slice A1 n1 c1, .slice none 0 0, .slice none 0 0, .slice none 0 0, .bool true] 41)) w1.heap.size (.slice A1 n1 c1) (.slice none 0 0) (.slice none 0 0) (.slice none 0 0) true) := Lib.hid (heap_alloc_new w1 _)
  have HW1 : Hid (Below w1.heap.size w1 (w1.alloc (.cells #[.slice A1 n1 c1, .slice none 0 0, .slice none 0 0, .slice none 0 0, .bool true] 41))) := Lib.hid ((Below.refl _ _).alloc (Nat.le_refl _) _)
  clear ho1 hr1 ht1 hn1 hs1
  go_wp2_with fail
  refine (mtake_any 58 (by decide) base w.heap.size g lb mb s1 _ (HR1.out.under HW1.out)).mono ?_
  rintro e w2 ⟨rfl, hl2⟩
  have HL2 := Lib.hid ((Left.same HR1.out HW1.out).on hl2)
  have HB2 := Lib.hid (HB1.out.left hl2.2 (by have := HTP1.out; omega))
  clear hl2
  go_wp2_with fail
  refine (mins_any base w.heap.size g lb mb _ _ HL2.out.1).mono ?_
  rintro e w3 ⟨u3, rfl, ho3, hl3⟩
  have HL3 := Lib.hid (HL2.out.on hl3)
  have hb3 := HB2.out.left hl3.2 (by have := HTP1.out; omega)
  obtain ⟨A3, c3, rfl⟩ := ho3.shape
  have HO3 := Lib.hid (ho3.slB (hi := w3.heap.size) (Nat.le_refl _))
  have HGI := Lib.hid (ins_good HL2.out.1.good)
  have k1 : w3.cell? ⟨w1.heap.size, 1, none⟩ = some (.slice none 0 0) := hb3.at 1
  have f1 : w3.frozen? ⟨w1.heap.size, 1, none⟩ = false := hb3.free 1
  have HB3 := Lib.hid (show RBox (w3.setCell ⟨w1.heap.size, 1, none⟩ (.slice A3 (Mo.ins (Mo.take 58 s1)).1.length c3)) w1.heap.size (.slice A1 n1 c1) (.slice A3 (Mo.ins (Mo.take 58 s1)).1.length c3) (.slice none 0 0) (.slice none 0 0) true from hb3.set 1 _)
  have HL3' := Lib.hid (HL3.out.set (p := ⟨w1.heap.size, 1, none⟩) (Nat.le_refl _) (show w.heap.size ≤ w1.heap.size from HT1.out.size) (.slice A3 (Mo.ins (Mo.take 58 s1)).1.length c3))
  have HO1' := Lib.hid ((((HO1.out.left HL3.out.2 HR1.out.tyg)).setRule (show Ty w3 w1.heap.size 41 from hb3.ty) 1 (.slice A3 (Mo.ins (Mo.take 58 s1)).1.length c3)))
  have HO3' := Lib.hid (HO3.out.setRule (show Ty w3 w1.heap.size 41 from hb3.ty) 1 (.slice A3 (Mo.ins (Mo.take 58 s1)).1.length c3))
  obtain ⟨n3, hn3⟩ : ∃ n, (Mo.ins (Mo.take 58 s1)).1.length = n := ⟨_, rfl⟩
  rw [hn3] at HB3 HL3' HO1' HO3' ⊢
  have HN3 := Lib.hid hn3
  clear ho3 hl3 hb3 hn3
  go_wp2_with fail
  refine (mend_any base w.heap.size g lb mb _ _ HL3'.out.1).mono ?_
  rintro e w4 ⟨rfl, hl4⟩
  have HL4 := Lib.hid (HL3'.out.on hl4)
  have hb4 := HB3.out.left hl4.2 (by have := HTP1.out; omega)
  have hz4 : w3.heap.size ≤ w4.heap.size := by have := hl4.2.size; simpa using this
  have HO14 := Lib.hid ((HO1'.out.left hl4.2 HL3'.out.1.tyg).more (hi' := w4.heap.size) (by have := HL4.out.2.size; omega))
  have HO34 := Lib.hid ((HO3'.out.left hl4.2 HL3'.out.1.tyg).more (hi' := w4.heap.size) hz4)
  obtain ⟨cv, rv, sv, hin⟩ := HL4.out.1
  have HPH : Hid (Mo.phony s = { Mo.ends (Mo.ins (Mo.take 58 s1)).2 with rules := (Mo.ends (Mo.ins (Mo.take 58 s1)).2).rules ++ [⟨(Mo.outs 1 s).1, (Mo.ins (Mo.take 58 s1)).1, [], [], true⟩] }) := Lib.hid (by rw [← HS1.out]; rfl)
  obtain ⟨v', w', hap, ⟨Av, nv, cv9, rfl⟩, g3, f3, hrd, hbb⟩ := (hin.more hin.top (Nat.le_refl _)).addRule (.slice A1 n1 c1, .slice A3 n3 c3, .slice none 0 0, .slice none 0 0) ⟨(Mo.outs 1 s).1, (Mo.ins (Mo.take 58 s1)).1, [], [], true⟩ ⟨HO14.out, HO34.out, slTB_nil _ _, slAB_nil _ _⟩ ⟨HGO.out, HGI.out, by simp⟩ (by rw [ends_rules, ins_rules, take_rules, ← HS1.out, outs_rules]; have := HRU.out; omega) 26
  have r3 : w4.cell? ⟨g, 3, none⟩ = some rv := hin.blk.at 3
  have b0 : w4.cell? ⟨w1.heap.size, 0, none⟩ = some (.slice A1 n1 c1) := hb4.at 0
  have b1 : w4.cell? ⟨w1.heap.size, 1, none⟩ = some (.slice A3 n3 c3) := hb4.at 1
  have b2 : w4.cell? ⟨w1.heap.size, 2, none⟩ = some (.slice none 0 0) := hb4.at 2
  have b3 : w4.cell? ⟨w1.heap.size, 3, none⟩ = some (.slice none 0 0) := hb4.at 3
  have b4 : w4.cell? ⟨w1.heap.size, 4, none⟩ = some (.bool true) := hb4.at 4
  have hg4 : g < w4.heap.size := hin.blk.size
  have hrb4 : w1.heap.size < w4.heap.size := hb4.size
  rw [show (cellsR (.slice A1 n1 c1, .slice A3 n3 c3, .slice none 0 0, .slice none 0 0) ⟨(Mo.outs 1 s).1, (Mo.ins (Mo.take 58 s1)).1, [], [], true⟩).toArray = #[.slice A1 n1 c1, .slice A3 n3 c3, .slice none 0 0, .slice none 0 0, .bool true] from rfl] at hap
  have HFIN : Hid (Lined w base g lb mb (Mo.phony s) (w'.setCell ⟨g, 3, none⟩ (.slice Av nv cv9))) := Lib.hid (by
    rw [HPH.out]
    refine ⟨by simpa using hrd, ?_⟩
    have h1 : Below base w w1 := HT1.out.toBelow (by have := HTP.out; omega) (by have := HTP.out; omega) (by have := HTP.out; omega)
    have h2 : Below base w1 w4 := Below.ofGrown HL4.out.2 (by have := HTP.out; omega) (by have := HTP1.out; omega)
    exact (h1.trans h2).trans hbb)
  have HAP := Lib.hid hap
  clear hin hrd hbb hb4 hl4 k1 f1 hap
  go_upto_region 4 with fail
  go_region_law (refine step_append_eq rfl (.tmp 18) (.tmp 20) 26 rfl _ _ rfl rfl HAP.out ?_)
  all_goals (go_wp2; go_end0; exact ⟨rfl, HFIN.out⟩)



theorem run_rest {stp : Ln.W → Mo.S → Mo.S} (hs : Mo.Step stp) (most : Nat) (may : List Nat → Bool) : ∀ (l : List Ln.W) (n : Nat) (s : Mo.S), s.rest = l → (Mo.run stp most may l n s).2.rest.length ≤ l.length
  | [], n, s, h => by unfold Mo.run; rw [h]; exact Nat.le_refl _
  | w :: r, n, s, h => by
    have hf : ∀ k, (Mo.fail k w s).rest = w :: r := fun k => by unfold Mo.fail; split <;> exact h
    unfold Mo.run
    split
    · rw [h]; exact Nat.le_refl _
    · split
      · dsimp only; rw [hf]; exact Nat.le_refl _
      · split
        · dsimp only; rw [hf]; exact Nat.le_refl _
        · have := run_rest hs most may r (n + 1) (stp w { s with rest := r }) (by rw [hs])
          simp
          omega
theorem fail_rest (k : Nat) (x : Ln.W) (s : Mo.S) : (Mo.fail k x s).rest = s.rest := by unfold Mo.fail; split <;> rfl
theorem take_rest (sg : Nat) (s : Mo.S) : (Mo.take sg s).rest.length ≤ s.rest.length := by
  unfold Mo.take
  split
  · dsimp only
    rw [List.length_tail]
    omega
  · unfold Mo.wrong
    rw [fail_rest]
    exact Nat.le_refl _
theorem ins_rest (s : Mo.S) : (Mo.ins s).2.rest.length ≤ s.rest.length := run_rest still_step _ _ _ _ _ rfl
theorem outs_rest (most : Nat) (s : Mo.S) : (Mo.outs most s).2.rest.length ≤ s.rest.length := by
  unfold Mo.outs
  dsimp only
  have h : (if s.rules.length = 64 then Mo.fail 11 s.first s else s).rest = s.rest := by
    split
    · exact fail_rest _ _ _
    · rfl
  generalize (if s.rules.length = 64 then Mo.fail 11 s.first s else s) = s0 at h ⊢
  have h2 := run_rest note_step most Mo.file s0.rest 0 s0 rfl
  rw [← h]
  split
  · unfold Mo.wrong
    rw [fail_rest]
    exact h2
  · exact h2
theorem outs_count (most : Nat) (s : Mo.S) : (Mo.outs most s).1.length ≤ most := by
  unfold Mo.outs
  dsimp only
  generalize (if s.rules.length = 64 then Mo.fail 11 s.first s else s) = s0
  have := Mo.run_le Mo.note most Mo.file s0.rest 0 s0 (Nat.zero_le _)
  unfold Mo.texts
  rw [List.length_map, List.length_take]
  omega
theorem acts_rules : ∀ (f n : Nat) (l : List (List Ac.D)) (s : Mo.S), (Mo.acts f n l s).2.rules = s.rules
  | 0, n, l, s => rfl
  | f + 1, n, l, s => by
    unfold Mo.acts
    dsimp only
    have hr : (if l.length = n then Mo.fail 7 ((Mo.cut s.rest).1.headD s.first) { s with rest := (Mo.cut s.rest).2.2 } else if (Ac.parse (Mo.cut s.rest).1).isNone then Mo.fail 9 ((Mo.cut s.rest).1.headD s.first) { s with rest := (Mo.cut s.rest).2.2 } else { s with rest := (Mo.cut s.rest).2.2 }).rules = s.rules := by
      split
      · exact fail_rules _ _ _
      · split
        · exact fail_rules _ _ _
        · rfl
    generalize (if l.length = n then Mo.fail 7 ((Mo.cut s.rest).1.headD s.first) { s with rest := (Mo.cut s.rest).2.2 } else if (Ac.parse (Mo.cut s.rest).1).isNone then Mo.fail 9 ((Mo.cut s.rest).1.headD s.first) { s with rest := (Mo.cut s.rest).2.2 } else { s with rest := (Mo.cut s.rest).2.2 }) = s2 at hr ⊢
    split
    · exact hr
    · split
      · rw [acts_rules f, hr]
      · dsimp only
        split
        · rw [wrong_rules, hr]
        · exact hr
theorem SlAB.setRule {w : World} {hi b : Nat} {v : Value} {l : List (List Ac.D)} (h : SlAB w hi v l) (ht : Ty w b 41) (i : Nat) (u : Value) : SlAB (w.setCell ⟨b, i, none⟩ u) hi v l := h.keep (KeepB.grown (grown_setCell w ⟨b, i, none⟩ u) ht notPart_rule) (.inr (.inr (.inl rfl))) (.inr (.inl rfl))
theorem rule_no {s s1 si : Mo.S} (h1 : (Mo.outs 4 s).2 = s1) (h2 : (Mo.ins (Mo.take 58 s1)).2 = si) (h3 : Mo.at_ 124 si = false) : Mo.rule s = { (Mo.acts ((Mo.take 61 si).rest.length + 1) (Mo.outs 4 s).1.length [] (Mo.take 61 si)).2 with rules := (Mo.acts ((Mo.take 61 si).rest.length + 1) (Mo.outs 4 s).1.length [] (Mo.take 61 si)).2.rules ++ [⟨(Mo.outs 4 s).1, (Mo.ins (Mo.take 58 s1)).1, [], (Mo.acts ((Mo.take 61 si).rest.length + 1) (Mo.outs 4 s).1.length [] (Mo.take 61 si)).1, false⟩] } := by
  subst h1 h2
  unfold Mo.rule
  dsimp only
  rw [if_neg (by rw [h3]; decide)]
theorem rule_yes {s s1 si sd : Mo.S} (h1 : (Mo.outs 4 s).2 = s1) (h2 : (Mo.ins (Mo.take 58 s1)).2 = si) (h3 : Mo.at_ 124 si = true) (h4 : (Mo.ins (Mo.take 124 si)).2 = sd) : Mo.rule s = { (Mo.acts ((Mo.take 61 sd).rest.length + 1) (Mo.outs 4 s).1.length [] (Mo.take 61 sd)).2 with rules := (Mo.acts ((Mo.take 61 sd).rest.length + 1) (Mo.outs 4 s).1.length [] (Mo.take 61 sd)).2.rules ++ [⟨(Mo.outs 4 s).1, (Mo.ins (Mo.take 58 s1)).1, (Mo.ins (Mo.take 124 si)).1, (Mo.acts ((Mo.take 61 sd).rest.length + 1) (Mo.outs 4 s).1.length [] (Mo.take 61 sd)).1, false⟩] } := by
  subst h1 h2 h4
  unfold Mo.rule
  dsimp only
  rw [if_pos h3]
set_option maxHeartbeats 16000000 in
theorem rule_any (base hi0 g lb mb : Nat) (s : Mo.S) (w : World) (h : MRd w base hi0 g lb mb s) (hrules : s.rules.length ≤ 100000) (hmk : s.makers.length ≤ 1000000) (hrest : s.rest.length ≤ 1000000) (hTab : ∀ W, Below base w W → Tabs W) :
    Calls Tryz.prog 65 #[.pointer (some ⟨g, 0, none⟩)] w fun e w' => e = .returned (.tuple #[]) ∧ Lined w base g lb mb (Mo.rule s) w' := by
  have HR := Lib.hid (h.more h.top.2.2.1 (Nat.le_refl _))
  have HTP := Lib.hid HR.out.top
  have HRU := Lib.hid hrules
  have HMK := Lib.hid hmk
  have HRS := Lib.hid hrest
  have HTAB := Lib.hid hTab
  clear h hrules hmk hrest hTab
  go_enter Tryz.func65, Tryz.ntmps65
  go_wp2_with fail
  refine (outs_own base w.heap.size g lb mb 4 s w HR.out (by omega) (by have := HRU.out; omega) HMK.out).mono ?_
  rintro e w1 ⟨u1, rfl, ho1, hr1, ht1⟩
  obtain ⟨A1, c1, rfl⟩ := ho1.shape
  obtain ⟨n1, hn1⟩ : ∃ n, (Mo.outs 4 s).1.length = n := ⟨_, rfl⟩
  have HO1 := Lib.hid (ho1.slB (hi := w1.heap.size) (Nat.le_refl _))
  rw [hn1] at HO1 ⊢
  have HR1 := Lib.hid hr1
  have HT1 := Lib.hid ht1
  have HN1 := Lib.hid hn1
  have HTP1 := Lib.hid hr1.top
  have HGO := Lib.hid (outs_good HR.out.good 4)
  obtain ⟨s1, hs1⟩ : ∃ s1, (Mo.outs 4 s).2 = s1 := ⟨_, rfl⟩
  rw [hs1] at HR1
  have HS1 := Lib.hid hs1
  have HB1 : Hid (RBox (w1.alloc (.cells #[.slice A1 n1 c1, .slice none 0 0, .slice none 0 0, .slice none 0 0, .bool false] 41)) w1.heap.size (.slice A1 n1 c1) (.slice none 0 0) (.slice none 0 0) (.slice none 0 0) false) := Lib.hid (heap_alloc_new w1 _)
  have HW1 : Hid (Below w1.heap.size w1 (w1.alloc (.cells #[.slice A1 n1 c1, .slice none 0 0, .slice none 0 0, .slice none 0 0, .bool false] 41))) := Lib.hid ((Below.refl _ _).alloc (Nat.le_refl _) _)
  clear ho1 hr1 ht1 hn1 hs1
  go_wp2_with fail
  refine (mtake_any 58 (by decide) base w.heap.size g lb mb s1 _ (HR1.out.under HW1.out)).mono ?_
  rintro e w2 ⟨rfl, hl2⟩
  have HL2 := Lib.hid ((Left.same HR1.out HW1.out).on hl2)
  have HB2 := Lib.hid (HB1.out.left hl2.2 (by have := HTP1.out; omega))
  clear hl2
  go_wp2_with fail
  refine (mins_any base w.heap.size g lb mb _ _ HL2.out.1).mono ?_
  rintro e w3 ⟨u3, rfl, ho3, hl3⟩
  have HL3 := Lib.hid (HL2.out.on hl3)
  have hb3 := HB2.out.left hl3.2 (by have := HTP1.out; omega)
  obtain ⟨A3, c3, rfl⟩ := ho3.shape
  have HO3 := Lib.hid (ho3.slB (hi := w3.heap.size) (Nat.le_refl _))
  have HGI := Lib.hid (ins_good HL2.out.1.good)
  have k1 : w3.cell? ⟨w1.heap.size, 1, none⟩ = some (.slice none 0 0) := hb3.at 1
  have f1 : w3.frozen? ⟨w1.heap.size, 1, none⟩ = false := hb3.free 1
  have HB3 := Lib.hid (show RBox (w3.setCell ⟨w1.heap.size, 1, none⟩ (.slice A3 (Mo.ins (Mo.take 58 s1)).1.length c3)) w1.heap.size (.slice A1 n1 c1) (.slice A3 (Mo.ins (Mo.take 58 s1)).1.length c3) (.slice none 0 0) (.slice none 0 0) false from hb3.set 1 _)
  have HL3' := Lib.hid (HL3.out.set (p := ⟨w1.heap.size, 1, none⟩) (Nat.le_refl _) (show w.heap.size ≤ w1.heap.size from HT1.out.size) (.slice A3 (Mo.ins (Mo.take 58 s1)).1.length c3))
  have HO1' := Lib.hid ((((HO1.out.left HL3.out.2 HR1.out.tyg)).setRule (show Ty w3 w1.heap.size 41 from hb3.ty) 1 (.slice A3 (Mo.ins (Mo.take 58 s1)).1.length c3)))
  have HO3' := Lib.hid (HO3.out.setRule (show Ty w3 w1.heap.size 41 from hb3.ty) 1 (.slice A3 (Mo.ins (Mo.take 58 s1)).1.length c3))
  obtain ⟨n3, hn3⟩ : ∃ n, (Mo.ins (Mo.take 58 s1)).1.length = n := ⟨_, rfl⟩
  rw [hn3] at HB3 HL3' HO1' HO3' ⊢
  have HN3 := Lib.hid hn3
  clear ho3 hl3 hb3 hn3
  go_wp2_with fail
  refine (mat_any 124 (by decide) base w.heap.size g lb mb _ _ HL3'.out.1).mono ?_
  rintro e w4 ⟨rfl, hb4⟩
  obtain ⟨si, hsi⟩ : ∃ si, (Mo.ins (Mo.take 58 s1)).2 = si := ⟨_, rfl⟩
  rw [hsi] at HL3' ⊢
  have HSI := Lib.hid hsi
  have HL4 := Lib.hid (HL3'.out.under hb4)
  have hbk4 := Blk.under HB3.out hb4
  have HB4 := Lib.hid (show RBox w4 w1.heap.size (.slice A1 n1 c1) (.slice A3 n3 c3) (.slice none 0 0) (.slice none 0 0) false from hbk4)
  have hz4 : w3.heap.size ≤ w4.heap.size := by have := hb4.size; simpa using this
  have HO14 := Lib.hid (((HO1'.out.under hb4).more (hi' := w4.heap.size) (by have := HL4.out.2.size; omega)))
  have HO34 := Lib.hid (((HO3'.out.under hb4).more (hi' := w4.heap.size) hz4))
  clear hb4 hsi
  rcases hat : Mo.at_ 124 si with _ | _
  ·
    have HAT := Lib.hid hat
    clear hat hbk4 hz4
    have HRU2 : Hid (Mo.rule s = { (Mo.acts ((Mo.take 61 si).rest.length + 1) (Mo.outs 4 s).1.length [] (Mo.take 61 si)).2 with rules := (Mo.acts ((Mo.take 61 si).rest.length + 1) (Mo.outs 4 s).1.length [] (Mo.take 61 si)).2.rules ++ [⟨(Mo.outs 4 s).1, (Mo.ins (Mo.take 58 s1)).1, [], (Mo.acts ((Mo.take 61 si).rest.length + 1) (Mo.outs 4 s).1.length [] (Mo.take 61 si)).1, false⟩] }) := Lib.hid (rule_no HS1.out HSI.out HAT.out)
    have HRL : Hid (si.rest.length ≤ 1000000 ∧ si.rules = s.rules) := Lib.hid ⟨by rw [← HSI.out]; have := ins_rest (Mo.take 58 s1); have := take_rest 58 s1; have := outs_rest 4 s; rw [HS1.out] at this; have := HRS.out; omega, by rw [← HSI.out, ins_rules, take_rules, ← HS1.out, outs_rules]⟩
    have HO54 : Hid (SlTB w4 w4.heap.size (.slice none 0 0) []) := Lib.hid (slTB_nil _ _)
    have HGD : Hid (∀ t ∈ ([] : List (List Nat)), (∀ c ∈ t, c < 256) ∧ t.length ≤ 1000000) := Lib.hid (by simp)
    go_wp2_with fail
    refine (mtake_any 61 (by decide) base w.heap.size g lb mb si _ HL4.out.1).mono ?_
    rintro e w7 ⟨rfl, hl7⟩
    have HL7 := Lib.hid (HL4.out.on hl7)
    have hb7 := HB4.out.left hl7.2 (by have := HTP1.out; omega)
    have HB7 := Lib.hid hb7
    have HO17 := Lib.hid ((HO14.out.left hl7.2 HL4.out.1.tyg).more (hi' := w7.heap.size) hl7.2.size)
    have HO37 := Lib.hid ((HO34.out.left hl7.2 HL4.out.1.tyg).more (hi' := w7.heap.size) hl7.2.size)
    have HO57 := Lib.hid ((HO54.out.left hl7.2 HL4.out.1.tyg).more (hi' := w7.heap.size) hl7.2.size)
    have c0 : w7.cell? ⟨w1.heap.size, 0, none⟩ = some (.slice A1 n1 c1) := hb7.at 0
    obtain ⟨s5, hs5⟩ : ∃ s5, Mo.take 61 si = s5 := ⟨_, rfl⟩
    rw [hs5] at HL7 HRU2
    have HS5 : Hid (s5.rest.length ≤ 1000000 ∧ s5.rules = s.rules) := Lib.hid ⟨by rw [← hs5]; have := take_rest 61 si; have := HRL.out.1; omega, by rw [← hs5, take_rules]; exact HRL.out.2⟩
    have HB17 : Hid (Below base w w7) := Lib.hid ((HT1.out.toBelow (by have := HTP.out; omega) (by have := HTP.out; omega) (by have := HTP.out; omega)).trans (Below.ofGrown HL7.out.2 (by have := HTP.out; omega) (by have := HTP1.out; omega)))
    rw [HN1.out] at HRU2
    have HCNT : Hid (n1 ≤ 4) := Lib.hid (by rw [← HN1.out]; exact outs_count 4 s)
    clear hl7 hb7 hs5
    go_wp2_with fail
    refine (macts_any base w.heap.size g lb mb n1 (s5.rest.length + 1) s5 _ HL7.out.1 (fun W hb => HTAB.out W (HB17.out.trans hb)) HS5.out.1 (by have := HCNT.out; omega) (Nat.lt_succ_self _) (Mo.acts (s5.rest.length + 1) n1 [] s5) rfl).mono ?_
    rintro e w8 ⟨u8, rfl, ho8, hl8⟩
    obtain ⟨ra, hra⟩ : ∃ ra, Mo.acts (s5.rest.length + 1) n1 [] s5 = ra := ⟨_, rfl⟩
    have HRA : Hid (ra.2.rules = s.rules) := Lib.hid (by rw [← hra, acts_rules]; exact HS5.out.2)
    rw [hra] at HRU2 ho8 hl8
    obtain ⟨A8, c8, rfl⟩ := ho8.parts
    have HL8 := Lib.hid (HL7.out.on hl8)
    have hb8 := HB7.out.left hl8.2 (by have := HTP1.out; omega)
    have hty8 : Ty w8 w1.heap.size 41 := Blk.ty hb8
    have k3 : w8.cell? ⟨w1.heap.size, 3, none⟩ = some (.slice none 0 0) := hb8.at 3
    have f3x : w8.frozen? ⟨w1.heap.size, 3, none⟩ = false := hb8.free 3
    have ho8s := ho8.slB (hi := w8.heap.size) (Nat.le_refl _)
    obtain ⟨n8, hn8⟩ : ∃ n, ra.1.length = n := ⟨_, rfl⟩
    rw [hn8] at ho8s ⊢
    obtain ⟨w9, hw9⟩ : ∃ w9, w9 = w8.setCell ⟨w1.heap.size, 3, none⟩ (.slice A8 n8 c8) := ⟨_, rfl⟩
    have hz9 : w9.heap.size = w8.heap.size := by rw [hw9]; simp
    have HO19 : Hid (SlTB w9 w9.heap.size (.slice A1 n1 c1) (Mo.outs 4 s).1) := Lib.hid (by rw [hz9, hw9]; exact (((HO17.out.left hl8.2 HL7.out.1.tyg).more (hi' := w8.heap.size) hl8.2.size).setRule hty8 3 _))
    have HO39 : Hid (SlTB w9 w9.heap.size (.slice A3 n3 c3) (Mo.ins (Mo.take 58 s1)).1) := Lib.hid (by rw [hz9, hw9]; exact (((HO37.out.left hl8.2 HL7.out.1.tyg).more (hi' := w8.heap.size) hl8.2.size).setRule hty8 3 _))
    have HO59 : Hid (SlTB w9 w9.heap.size (.slice none 0 0) []) := Lib.hid (by rw [hz9, hw9]; exact (((HO57.out.left hl8.2 HL7.out.1.tyg).more (hi' := w8.heap.size) hl8.2.size).setRule hty8 3 _))
    have HO89 : Hid (SlAB w9 w9.heap.size (.slice A8 n8 c8) ra.1) := Lib.hid (by rw [hz9, hw9]; exact ho8s.setRule hty8 3 _)
    have HL9 : Hid (Left w1 base w.heap.size g lb mb ra.2 w9) := Lib.hid (by rw [hw9]; exact HL8.out.set (p := ⟨w1.heap.size, 3, none⟩) (Nat.le_refl _) (show w.heap.size ≤ w1.heap.size from HT1.out.size) _)
    have hb9 : RBox w9 w1.heap.size (.slice A1 n1 c1) (.slice A3 n3 c3) (.slice none 0 0) (.slice A8 n8 c8) false := by rw [hw9]; exact Blk.set hb8 3 _
    obtain ⟨cv, rv, sv, hin⟩ := HL9.out.1
    obtain ⟨v', w', hap, ⟨Av, nv, cv9, rfl⟩, g3, f3, hrd, hbb⟩ := (hin.more hin.top (Nat.le_refl _)).addRule (.slice A1 n1 c1, .slice A3 n3 c3, (.slice none 0 0), .slice A8 n8 c8) ⟨(Mo.outs 4 s).1, (Mo.ins (Mo.take 58 s1)).1, [], ra.1, false⟩ ⟨HO19.out, HO39.out, HO59.out, HO89.out⟩ ⟨HGO.out, HGI.out, HGD.out⟩ (by rw [HRA.out]; have := HRU.out; omega) 26
    have r3 : w9.cell? ⟨g, 3, none⟩ = some rv := hin.blk.at 3
    have b0 : w9.cell? ⟨w1.heap.size, 0, none⟩ = some (.slice A1 n1 c1) := hb9.at 0
    have b1 : w9.cell? ⟨w1.heap.size, 1, none⟩ = some (.slice A3 n3 c3) := hb9.at 1
    have b2 : w9.cell? ⟨w1.heap.size, 2, none⟩ = some (.slice none 0 0) := hb9.at 2
    have b3 : w9.cell? ⟨w1.heap.size, 3, none⟩ = some (.slice A8 n8 c8) := hb9.at 3
    have b4 : w9.cell? ⟨w1.heap.size, 4, none⟩ = some (.bool false) := hb9.at 4
    have hg9 : g < w9.heap.size := hin.blk.size
    have hrb9 : w1.heap.size < w9.heap.size := Blk.size hb9
    rw [show (cellsR (.slice A1 n1 c1, .slice A3 n3 c3, (.slice none 0 0), .slice A8 n8 c8) ⟨(Mo.outs 4 s).1, (Mo.ins (Mo.take 58 s1)).1, [], ra.1, false⟩).toArray = #[.slice A1 n1 c1, .slice A3 n3 c3, (.slice none 0 0), .slice A8 n8 c8, .bool false] from rfl] at hap
    have HFIN : Hid (Lined w base g lb mb (Mo.rule s) (w'.setCell ⟨g, 3, none⟩ (.slice Av nv cv9))) := Lib.hid (by
      rw [HRU2.out]
      refine ⟨by simpa using hrd, ?_⟩
      have h1 : Below base w w1 := HT1.out.toBelow (by have := HTP.out; omega) (by have := HTP.out; omega) (by have := HTP.out; omega)
      have h2 : Below base w1 w9 := Below.ofGrown HL9.out.2 (by have := HTP.out; omega) (by have := HTP1.out; omega)
      exact (h1.trans h2).trans hbb)
    have HAP := Lib.hid hap
    clear hin hrd hbb hb9 hb8 hl8 hap ho8 ho8s hra hn8 hty8 c0
    go_upto_region 8 with fail
    rw [← hw9]
    clear k3 f3x hw9 hz9
    go_region_law (refine step_append_eq rfl (.tmp 31) (.tmp 33) 26 rfl _ _ rfl rfl HAP.out ?_)
    all_goals (go_wp2; go_end0; exact ⟨rfl, HFIN.out⟩)
  ·
    have HAT := Lib.hid hat
    clear hat hbk4 hz4
    go_wp2_with fail
    refine (mtake_any 124 (by decide) base w.heap.size g lb mb si _ HL4.out.1).mono ?_
    rintro e w5 ⟨rfl, hl5⟩
    have HL5 := Lib.hid (HL4.out.on hl5)
    have HB5 := Lib.hid (HB4.out.left hl5.2 (by have := HTP1.out; omega))
    have HO15 := Lib.hid (HO14.out.left hl5.2 HL4.out.1.tyg)
    have HO35 := Lib.hid (HO34.out.left hl5.2 HL4.out.1.tyg)
    have HZ5 := Lib.hid hl5.2.size
    clear hl5
    go_wp2_with fail
    refine (mins_any base w.heap.size g lb mb _ _ HL5.out.1).mono ?_
    rintro e w6 ⟨u6, rfl, ho6, hl6⟩
    have HL6 := Lib.hid (HL5.out.on hl6)
    have hb6 := HB5.out.left hl6.2 (by have := HTP1.out; omega)
    obtain ⟨A6, c6, rfl⟩ := ho6.shape
    have HO6 := Lib.hid (ho6.slB (hi := w6.heap.size) (Nat.le_refl _))
    have HGD := Lib.hid (ins_good HL5.out.1.good)
    have k2 : w6.cell? ⟨w1.heap.size, 2, none⟩ = some (.slice none 0 0) := hb6.at 2
    have f2 : w6.frozen? ⟨w1.heap.size, 2, none⟩ = false := hb6.free 2
    obtain ⟨n6, hn6⟩ : ∃ n, (Mo.ins (Mo.take 124 si)).1.length = n := ⟨_, rfl⟩
    rw [hn6] at HO6 ⊢
    have HB6 := Lib.hid (show RBox (w6.setCell ⟨w1.heap.size, 2, none⟩ (.slice A6 n6 c6)) w1.heap.size (.slice A1 n1 c1) (.slice A3 n3 c3) (.slice A6 n6 c6) (.slice none 0 0) false from hb6.set 2 _)
    have HL6' := Lib.hid (HL6.out.set (p := ⟨w1.heap.size, 2, none⟩) (Nat.le_refl _) (show w.heap.size ≤ w1.heap.size from HT1.out.size) (.slice A6 n6 c6))
    have hty6 : Ty w6 w1.heap.size 41 := Blk.ty hb6
    have HO16 := Lib.hid (((HO15.out.left hl6.2 HL5.out.1.tyg).more (hi' := w6.heap.size) (by have := HZ5.out; have := hl6.2.size; omega)).setRule hty6 2 (.slice A6 n6 c6))
    have HO36 := Lib.hid (((HO35.out.left hl6.2 HL5.out.1.tyg).more (hi' := w6.heap.size) (by have := HZ5.out; have := hl6.2.size; omega)).setRule hty6 2 (.slice A6 n6 c6))
    have HO66 := Lib.hid (HO6.out.setRule hty6 2 (.slice A6 n6 c6))
    obtain ⟨sd, hsd⟩ : ∃ sd, (Mo.ins (Mo.take 124 si)).2 = sd := ⟨_, rfl⟩
    rw [hsd] at HL6'
    have HRU2 : Hid (Mo.rule s = { (Mo.acts ((Mo.take 61 sd).rest.length + 1) (Mo.outs 4 s).1.length [] (Mo.take 61 sd)).2 with rules := (Mo.acts ((Mo.take 61 sd).rest.length + 1) (Mo.outs 4 s).1.length [] (Mo.take 61 sd)).2.rules ++ [⟨(Mo.outs 4 s).1, (Mo.ins (Mo.take 58 s1)).1, (Mo.ins (Mo.take 124 si)).1, (Mo.acts ((Mo.take 61 sd).rest.length + 1) (Mo.outs 4 s).1.length [] (Mo.take 61 sd)).1, false⟩] }) := Lib.hid (rule_yes HS1.out HSI.out HAT.out hsd)
    have HRL : Hid (sd.rest.length ≤ 1000000 ∧ sd.rules = s.rules) := Lib.hid ⟨by rw [← hsd]; have := ins_rest (Mo.take 124 si); have := take_rest 124 si; have h9 : si.rest.length ≤ s.rest.length := (by rw [← HSI.out]; have := ins_rest (Mo.take 58 s1); have := take_rest 58 s1; have := outs_rest 4 s; rw [HS1.out] at this; omega); have := HRS.out; omega, by rw [← hsd, ins_rules, take_rules, ← HSI.out, ins_rules, take_rules, ← HS1.out, outs_rules]⟩
    have HZ6 : Hid (w6.heap.size = (w6.setCell ⟨w1.heap.size, 2, none⟩ (.slice A6 n6 c6)).heap.size) := Lib.hid (by simp)
    rw [HZ6.out] at HO16 HO36 HO66
    clear ho6 hl6 hb6 hn6 hsd hty6
    go_wp2_with fail
    refine (mtake_any 61 (by decide) base w.heap.size g lb mb sd _ HL6'.out.1).mono ?_
    rintro e w7 ⟨rfl, hl7⟩
    have HL7 := Lib.hid (HL6'.out.on hl7)
    have hb7 := HB6.out.left hl7.2 (by have := HTP1.out; omega)
    have HB7 := Lib.hid hb7
    have HO17 := Lib.hid ((HO16.out.left hl7.2 HL6'.out.1.tyg).more (hi' := w7.heap.size) hl7.2.size)
    have HO37 := Lib.hid ((HO36.out.left hl7.2 HL6'.out.1.tyg).more (hi' := w7.heap.size) hl7.2.size)
    have HO57 := Lib.hid ((HO66.out.left hl7.2 HL6'.out.1.tyg).more (hi' := w7.heap.size) hl7.2.size)
    have c0 : w7.cell? ⟨w1.heap.size, 0, none⟩ = some (.slice A1 n1 c1) := hb7.at 0
    obtain ⟨s5, hs5⟩ : ∃ s5, Mo.take 61 sd = s5 := ⟨_, rfl⟩
    rw [hs5] at HL7 HRU2
    have HS5 : Hid (s5.rest.length ≤ 1000000 ∧ s5.rules = s.rules) := Lib.hid ⟨by rw [← hs5]; have := take_rest 61 sd; have := HRL.out.1; omega, by rw [← hs5, take_rules]; exact HRL.out.2⟩
    have HB17 : Hid (Below base w w7) := Lib.hid ((HT1.out.toBelow (by have := HTP.out; omega) (by have := HTP.out; omega) (by have := HTP.out; omega)).trans (Below.ofGrown HL7.out.2 (by have := HTP.out; omega) (by have := HTP1.out; omega)))
    rw [HN1.out] at HRU2
    have HCNT : Hid (n1 ≤ 4) := Lib.hid (by rw [← HN1.out]; exact outs_count 4 s)
    clear hl7 hb7 hs5
    go_wp2_with fail
    refine (macts_any base w.heap.size g lb mb n1 (s5.rest.length + 1) s5 _ HL7.out.1 (fun W hb => HTAB.out W (HB17.out.trans hb)) HS5.out.1 (by have := HCNT.out; omega) (Nat.lt_succ_self _) (Mo.acts (s5.rest.length + 1) n1 [] s5) rfl).mono ?_
    rintro e w8 ⟨u8, rfl, ho8, hl8⟩
    obtain ⟨ra, hra⟩ : ∃ ra, Mo.acts (s5.rest.length + 1) n1 [] s5 = ra := ⟨_, rfl⟩
    have HRA : Hid (ra.2.rules = s.rules) := Lib.hid (by rw [← hra, acts_rules]; exact HS5.out.2)
    rw [hra] at HRU2 ho8 hl8
    obtain ⟨A8, c8, rfl⟩ := ho8.parts
    have HL8 := Lib.hid (HL7.out.on hl8)
    have hb8 := HB7.out.left hl8.2 (by have := HTP1.out; omega)
    have hty8 : Ty w8 w1.heap.size 41 := Blk.ty hb8
    have k3 : w8.cell? ⟨w1.heap.size, 3, none⟩ = some (.slice none 0 0) := hb8.at 3
    have f3x : w8.frozen? ⟨w1.heap.size, 3, none⟩ = false := hb8.free 3
    have ho8s := ho8.slB (hi := w8.heap.size) (Nat.le_refl _)
    obtain ⟨n8, hn8⟩ : ∃ n, ra.1.length = n := ⟨_, rfl⟩
    rw [hn8] at ho8s ⊢
    obtain ⟨w9, hw9⟩ : ∃ w9, w9 = w8.setCell ⟨w1.heap.size, 3, none⟩ (.slice A8 n8 c8) := ⟨_, rfl⟩
    have hz9 : w9.heap.size = w8.heap.size := by rw [hw9]; simp
    have HO19 : Hid (SlTB w9 w9.heap.size (.slice A1 n1 c1) (Mo.outs 4 s).1) := Lib.hid (by rw [hz9, hw9]; exact (((HO17.out.left hl8.2 HL7.out.1.tyg).more (hi' := w8.heap.size) hl8.2.size).setRule hty8 3 _))
    have HO39 : Hid (SlTB w9 w9.heap.size (.slice A3 n3 c3) (Mo.ins (Mo.take 58 s1)).1) := Lib.hid (by rw [hz9, hw9]; exact (((HO37.out.left hl8.2 HL7.out.1.tyg).more (hi' := w8.heap.size) hl8.2.size).setRule hty8 3 _))
    have HO59 : Hid (SlTB w9 w9.heap.size (.slice A6 n6 c6) (Mo.ins (Mo.take 124 si)).1) := Lib.hid (by rw [hz9, hw9]; exact (((HO57.out.left hl8.2 HL7.out.1.tyg).more (hi' := w8.heap.size) hl8.2.size).setRule hty8 3 _))
    have HO89 : Hid (SlAB w9 w9.heap.size (.slice A8 n8 c8) ra.1) := Lib.hid (by rw [hz9, hw9]; exact ho8s.setRule hty8 3 _)
    have HL9 : Hid (Left w1 base w.heap.size g lb mb ra.2 w9) := Lib.hid (by rw [hw9]; exact HL8.out.set (p := ⟨w1.heap.size, 3, none⟩) (Nat.le_refl _) (show w.heap.size ≤ w1.heap.size from HT1.out.size) _)
    have hb9 : RBox w9 w1.heap.size (.slice A1 n1 c1) (.slice A3 n3 c3) (.slice A6 n6 c6) (.slice A8 n8 c8) false := by rw [hw9]; exact Blk.set hb8 3 _
    obtain ⟨cv, rv, sv, hin⟩ := HL9.out.1
    obtain ⟨v', w', hap, ⟨Av, nv, cv9, rfl⟩, g3, f3, hrd, hbb⟩ := (hin.more hin.top (Nat.le_refl _)).addRule (.slice A1 n1 c1, .slice A3 n3 c3, (.slice A6 n6 c6), .slice A8 n8 c8) ⟨(Mo.outs 4 s).1, (Mo.ins (Mo.take 58 s1)).1, (Mo.ins (Mo.take 124 si)).1, ra.1, false⟩ ⟨HO19.out, HO39.out, HO59.out, HO89.out⟩ ⟨HGO.out, HGI.out, HGD.out⟩ (by rw [HRA.out]; have := HRU.out; omega) 26
    have r3 : w9.cell? ⟨g, 3, none⟩ = some rv := hin.blk.at 3
    have b0 : w9.cell? ⟨w1.heap.size, 0, none⟩ = some (.slice A1 n1 c1) := hb9.at 0
    have b1 : w9.cell? ⟨w1.heap.size, 1, none⟩ = some (.slice A3 n3 c3) := hb9.at 1
    have b2 : w9.cell? ⟨w1.heap.size, 2, none⟩ = some (.slice A6 n6 c6) := hb9.at 2
    have b3 : w9.cell? ⟨w1.heap.size, 3, none⟩ = some (.slice A8 n8 c8) := hb9.at 3
    have b4 : w9.cell? ⟨w1.heap.size, 4, none⟩ = some (.bool false) := hb9.at 4
    have hg9 : g < w9.heap.size := hin.blk.size
    have hrb9 : w1.heap.size < w9.heap.size := Blk.size hb9
    rw [show (cellsR (.slice A1 n1 c1, .slice A3 n3 c3, (.slice A6 n6 c6), .slice A8 n8 c8) ⟨(Mo.outs 4 s).1, (Mo.ins (Mo.take 58 s1)).1, (Mo.ins (Mo.take 124 si)).1, ra.1, false⟩).toArray = #[.slice A1 n1 c1, .slice A3 n3 c3, (.slice A6 n6 c6), .slice A8 n8 c8, .bool false] from rfl] at hap
    have HFIN : Hid (Lined w base g lb mb (Mo.rule s) (w'.setCell ⟨g, 3, none⟩ (.slice Av nv cv9))) := Lib.hid (by
      rw [HRU2.out]
      refine ⟨by simpa using hrd, ?_⟩
      have h1 : Below base w w1 := HT1.out.toBelow (by have := HTP.out; omega) (by have := HTP.out; omega) (by have := HTP.out; omega)
      have h2 : Below base w1 w9 := Below.ofGrown HL9.out.2 (by have := HTP.out; omega) (by have := HTP1.out; omega)
      exact (h1.trans h2).trans hbb)
    have HAP := Lib.hid hap
    clear hin hrd hbb hb9 hb8 hl8 hap ho8 ho8s hra hn8 hty8 c0
    go_upto_region 8 with fail
    rw [← hw9]
    clear k3 f3x hw9 hz9
    go_region_law (refine step_append_eq rfl (.tmp 31) (.tmp 33) 26 rfl _ _ rfl rfl HAP.out ?_)
    all_goals (go_wp2; go_end0; exact ⟨rfl, HFIN.out⟩)
end Go.Proofs.YtgjehlegcmeeoaaGreatDoor

/- Package mani's own reader: what stays within its bounds from line to line, in plain facts. -/
namespace Go.Proofs.YtgjehlegcmeeoaaGreatDoor
set_option maxRecDepth 100000
open Go.ChangeShapes Go.WideShapes Go.ChangeAt Go.RowKit Go.Shelf

/-- What is kept but for words and faults; a fault stays. -/
structure Sm (s s' : Mo.S) : Prop where
  rules : s'.rules = s.rules
  makers : s'.makers = s.makers
  lets : s'.lets = s.lets
  chosen : s'.chosen = s.chosen
  bad : s.e.k ≠ 0 → s'.e.k ≠ 0
theorem Sm.refl (s : Mo.S) : Sm s s := ⟨rfl, rfl, rfl, rfl, id⟩
theorem Sm.trans {s t u : Mo.S} (h : Sm s t) (k : Sm t u) : Sm s u := ⟨k.rules.trans h.rules, k.makers.trans h.makers, k.lets.trans h.lets, k.chosen.trans h.chosen, fun x => k.bad (h.bad x)⟩
theorem sm_fail (k : Nat) (x : Ln.W) (s : Mo.S) : Sm s (Mo.fail k x s) := by
  unfold Mo.fail
  split
  · next h => exact ⟨rfl, rfl, rfl, rfl, fun h2 => absurd h h2⟩
  · exact Sm.refl s
theorem sm_rest (s : Mo.S) (R : List Ln.W) : Sm s { s with rest := R } := ⟨rfl, rfl, rfl, rfl, id⟩
theorem sm_wrong (s : Mo.S) : Sm s (Mo.wrong s) := sm_fail _ _ _
theorem sm_take (sg : Nat) (s : Mo.S) : Sm s (Mo.take sg s) := by
  unfold Mo.take
  split
  · exact sm_rest _ _
  · exact sm_wrong _
theorem sm_ends (s : Mo.S) : Sm s (Mo.ends s) := by
  unfold Mo.ends
  split
  · exact Sm.refl s
  · exact sm_wrong _
theorem sm_run (most : Nat) (may : List Nat → Bool) : ∀ (l : List Ln.W) (n : Nat) (s : Mo.S), Sm s (Mo.run Mo.still most may l n s).2
  | [], n, s => Sm.refl s
  | w :: r, n, s => by
    rw [Mo.run]
    split
    · exact Sm.refl s
    split
    · exact sm_fail _ _ _
    split
    · exact sm_fail _ _ _
    exact (sm_rest s r).trans (sm_run most may r (n + 1) _)
theorem sm_ins (s : Mo.S) : Sm s (Mo.ins s).2 := sm_run _ _ _ _ _
theorem sm_acts : ∀ (f n : Nat) (l : List (List Ac.D)) (s : Mo.S), Sm s (Mo.acts f n l s).2
  | 0, _, _, s => Sm.refl s
  | f + 1, n, l, s => by
    rw [Mo.acts]
    dsimp only
    generalize h2 : (if l.length = n then Mo.fail 7 ((Mo.cut s.rest).1.headD s.first) { s with rest := (Mo.cut s.rest).2.2 } else if (Ac.parse (Mo.cut s.rest).1).isNone = true then Mo.fail 9 ((Mo.cut s.rest).1.headD s.first) { s with rest := (Mo.cut s.rest).2.2 } else { s with rest := (Mo.cut s.rest).2.2 }) = s2
    have h : Sm s s2 := by
      rw [← h2]
      split
      · exact (sm_rest s _).trans (sm_fail _ _ _)
      split
      · exact (sm_rest s _).trans (sm_fail _ _ _)
      · exact sm_rest s _
    clear h2
    split
    · exact h
    split
    · exact h.trans (sm_acts f n _ s2)
    · dsimp only
      split
      · exact h.trans (sm_wrong _)
      · exact h
/-- What an Out's note adds. -/
structure Nt (s s' : Mo.S) (n : Nat) : Prop where
  rules : s'.rules = s.rules
  lets : s'.lets = s.lets
  chosen : s'.chosen = s.chosen
  bad : s.e.k ≠ 0 → s'.e.k ≠ 0
  makers : ∃ x, s'.makers = s.makers ++ x ∧ x.length ≤ n ∧ ∀ p ∈ x, p.2 = s.rules.length
theorem Nt.of {s s' : Mo.S} (h : Sm s s') (n : Nat) : Nt s s' n := ⟨h.rules, h.lets, h.chosen, h.bad, [], by rw [h.makers, List.append_nil], by simp, by simp⟩
theorem Nt.trans {s t u : Mo.S} {n m : Nat} (h : Nt s t n) (k : Nt t u m) : Nt s u (n + m) := by
  obtain ⟨x, hx, hx1, hx2⟩ := h.makers
  obtain ⟨y, hy, hy1, hy2⟩ := k.makers
  refine ⟨k.rules.trans h.rules, k.lets.trans h.lets, k.chosen.trans h.chosen, fun z => k.bad (h.bad z), x ++ y, by rw [hy, hx, List.append_assoc], by rw [List.length_append]; omega, fun p hp => ?_⟩
  rcases List.mem_append.1 hp with h1 | h1
  · exact hx2 p h1
  · rw [hy2 p h1, h.rules]
theorem nt_note (w : Ln.W) (s : Mo.S) : Nt s (Mo.note w s) 1 := by
  unfold Mo.note
  dsimp only
  generalize h1 : (if (Mo.has w.text s.makers).isSome = true then Mo.fail 8 w s else s) = s1
  have h : Sm s s1 := by
    rw [← h1]
    split
    · exact sm_fail _ _ _
    · exact Sm.refl s
  exact ⟨h.rules, h.lets, h.chosen, h.bad, [(w.text, s1.rules.length)], by rw [← h.makers], by simp, fun p hp => by rw [List.mem_singleton] at hp; rw [hp, ← h.rules]⟩
theorem nt_run (most : Nat) (may : List Nat → Bool) : ∀ (l : List Ln.W) (n : Nat) (s : Mo.S), ∃ d, (Mo.run Mo.note most may l n s).1 = n + d ∧ Nt s (Mo.run Mo.note most may l n s).2 d
  | [], n, s => ⟨0, rfl, Nt.of (Sm.refl s) 0⟩
  | w :: r, n, s => by
    rw [Mo.run]
    split
    · exact ⟨0, rfl, Nt.of (Sm.refl s) 0⟩
    split
    · exact ⟨0, rfl, Nt.of (sm_fail _ _ _) 0⟩
    split
    · exact ⟨0, rfl, Nt.of (sm_fail _ _ _) 0⟩
    obtain ⟨d, e, hd⟩ := nt_run most may r (n + 1) (Mo.note w { s with rest := r })
    have h1 : Nt s (Mo.note w { s with rest := r }) 1 := by
      have := (Nt.of (sm_rest s r) 0).trans (nt_note w { s with rest := r })
      rwa [Nat.zero_add] at this
    exact ⟨1 + d, by rw [e]; omega, h1.trans hd⟩
theorem nt_outs (most : Nat) (s : Mo.S) : Nt s (Mo.outs most s).2 most ∧ (s.rules.length = 64 → (Mo.outs most s).2.e.k ≠ 0) := by
  unfold Mo.outs
  dsimp only
  generalize h1 : (if s.rules.length = 64 then Mo.fail 11 s.first s else s) = s1
  have h : Sm s s1 := by
    rw [← h1]
    split
    · exact sm_fail _ _ _
    · exact Sm.refl s
  have h64 : s.rules.length = 64 → s1.e.k ≠ 0 := fun e => by
    rw [← h1, if_pos e]
    exact fail_k 11 (by decide) _ _
  obtain ⟨d, e, hd⟩ := nt_run most Mo.file s1.rest 0 s1
  have hle := Mo.run_le Mo.note most Mo.file s1.rest 0 s1 (Nat.zero_le _)
  rw [e, Nat.zero_add] at hle
  have h2 : Nt s1 (if (Mo.run Mo.note most Mo.file s1.rest 0 s1).1 = 0 then Mo.wrong (Mo.run Mo.note most Mo.file s1.rest 0 s1).2 else (Mo.run Mo.note most Mo.file s1.rest 0 s1).2) d := by
    split
    · exact hd.trans (Nt.of (sm_wrong _) 0)
    · exact hd
  have h3 := (Nt.of h 0).trans h2
  rw [Nat.zero_add] at h3
  refine ⟨⟨h3.rules, h3.lets, h3.chosen, h3.bad, ?_⟩, fun e64 => h2.bad (h64 e64)⟩
  obtain ⟨x, hx, hx1, hx2⟩ := h3.makers
  exact ⟨x, hx, by omega, hx2⟩
/-- What stays within its bounds. -/
structure Fine (s : Mo.S) : Prop where
  rules : s.rules.length ≤ 64
  makers : s.makers.length ≤ 4 * s.rules.length
  num : ∀ p ∈ s.makers, p.2 < s.rules.length
  ro : ∀ r ∈ s.rules, r.ins.length ≤ 8 ∧ r.order.length ≤ 8
  lets : ∀ p ∈ s.lets, p.2.length ≤ 16
  chosen : s.chosen.length ≤ 8
theorem fine_start : Fine Mo.start := ⟨by decide, by decide, by simp [Mo.start], by simp [Mo.start], by simp [Mo.start], by decide⟩
theorem Fine.of {s s' : Mo.S} (h : Fine s) (k : Sm s s') : Fine s' := ⟨by rw [k.rules]; exact h.rules, by rw [k.rules, k.makers]; exact h.makers, by rw [k.rules, k.makers]; exact h.num, by rw [k.rules]; exact h.ro, by rw [k.lets]; exact h.lets, by rw [k.chosen]; exact h.chosen⟩
theorem has_mem {t : List Nat} {i : Nat} : ∀ {L : List (List Nat × Nat)}, Mo.has t L = some i → ∃ p ∈ L, p.2 = i
  | [], h => by cases h
  | (u, j) :: r, h => by
    unfold Mo.has at h
    split at h
    · next x hx =>
      injection h with h
      subst h
      obtain ⟨p, hp, e⟩ := has_mem hx
      exact ⟨p, List.mem_cons_of_mem _ hp, e⟩
    · split at h
      · injection h with h
        exact ⟨(u, j), by simp, h⟩
      · cases h
theorem Fine.has {s : Mo.S} (h : Fine s) {t : List Nat} {i : Nat} (k : Mo.has t s.makers = some i) : i < s.rules.length := by
  obtain ⟨p, hp, rfl⟩ := has_mem k
  exact h.num p hp
theorem ins_few (s : Mo.S) : (Mo.ins s).1.length ≤ 8 := by
  unfold Mo.ins
  dsimp only
  unfold Mo.texts
  rw [List.length_map, List.length_take]
  have := Mo.run_le Mo.still 8 Mo.file s.rest 0 s (Nat.zero_le _)
  omega
/-- A rule put behind the others. -/
theorem Fine.add {s t : Mo.S} (h : Fine s) {most : Nat} (hm : most ≤ 4) (k : Nt s t most) (h64 : s.rules.length = 64 → t.e.k ≠ 0) (h0 : t.e.k = 0) (r : Mn.Rule) (h1 : r.ins.length ≤ 8) (h2 : r.order.length ≤ 8) (u : Mo.S) (hu : u.rules = t.rules ++ [r]) (hu1 : u.makers = t.makers) (hu2 : u.lets = t.lets) (hu3 : u.chosen = t.chosen) : Fine u := by
  have hlen : u.rules.length = s.rules.length + 1 := by rw [hu, k.rules]; simp
  have h63 : s.rules.length ≤ 63 := by
    have := h.rules
    rcases Nat.lt_or_ge s.rules.length 64 with h4 | h4
    · omega
    · exact absurd h0 (h64 (by omega))
  obtain ⟨x, hx, hx1, hx2⟩ := k.makers
  refine ⟨by omega, ?_, ?_, ?_, ?_, ?_⟩
  · rw [hu1, hx, List.length_append]
    have := h.makers
    omega
  · rw [hu1, hx]
    intro p hp
    rcases List.mem_append.1 hp with h4 | h4
    · have := h.num p h4
      omega
    · rw [hx2 p h4]
      omega
  · rw [hu, k.rules]
    intro q hq
    rcases List.mem_append.1 hq with h4 | h4
    · exact h.ro q h4
    · rw [List.mem_singleton] at h4
      rw [h4]
      exact ⟨h1, h2⟩
  · rw [hu2, k.lets]
    exact h.lets
  · rw [hu3, k.chosen]
    exact h.chosen
theorem zero_of {s t : Mo.S} (h : s.e.k ≠ 0 → t.e.k ≠ 0) (k : t.e.k = 0) : s.e.k = 0 := by
  rcases Nat.eq_zero_or_pos s.e.k with h0 | h0
  · exact h0
  · exact absurd k (h (by omega))
theorem fine_rule {s : Mo.S} (h : Fine s) (h0 : (Mo.rule s).e.k = 0) : Fine (Mo.rule s) := by
  unfold Mo.rule at h0 ⊢
  dsimp only at h0 ⊢
  obtain ⟨k1, k64⟩ := nt_outs 4 s
  generalize (Mo.outs 4 s) = o at h0 k1 k64 ⊢
  have hi := (sm_take 58 o.2).trans (sm_ins (Mo.take 58 o.2))
  have hf := ins_few (Mo.take 58 o.2)
  generalize Mo.ins (Mo.take 58 o.2) = i at h0 hi hf ⊢
  generalize hd : (if Mo.at_ 124 i.2 = true then Mo.ins (Mo.take 124 i.2) else ([], i.2)) = d at h0 ⊢
  have hd1 : Sm i.2 d.2 ∧ d.1.length ≤ 8 := by
    rw [← hd]
    split
    · exact ⟨(sm_take 124 i.2).trans (sm_ins _), ins_few _⟩
    · exact ⟨Sm.refl _, by simp⟩
  have ha := sm_acts ((Mo.take 61 d.2).rest.length + 1) o.1.length [] (Mo.take 61 d.2)
  generalize Mo.acts ((Mo.take 61 d.2).rest.length + 1) o.1.length [] (Mo.take 61 d.2) = a at h0 ha ⊢
  have hz : Sm o.2 a.2 := (hi.trans hd1.1).trans ((sm_take 61 d.2).trans ha)
  exact h.add (Nat.le_refl 4) k1 k64 (zero_of hz.bad h0) ⟨o.1, i.1, d.1, a.1, false⟩ hf hd1.2 _ (by rw [← hz.rules]) hz.makers hz.lets hz.chosen
theorem fine_phony {s : Mo.S} (h : Fine s) (h0 : (Mo.phony s).e.k = 0) : Fine (Mo.phony s) := by
  unfold Mo.phony at h0 ⊢
  dsimp only at h0 ⊢
  obtain ⟨k1, k64⟩ := nt_outs 1 s
  generalize (Mo.outs 1 s) = o at h0 k1 k64 ⊢
  have hi := (sm_take 58 o.2).trans (sm_ins (Mo.take 58 o.2))
  have hf := ins_few (Mo.take 58 o.2)
  generalize Mo.ins (Mo.take 58 o.2) = i at h0 hi hf ⊢
  have hz : Sm o.2 (Mo.ends i.2) := hi.trans (sm_ends _)
  exact h.add (by decide) k1 k64 (zero_of hz.bad h0) ⟨o.1, i.1, [], [], true⟩ hf (by simp) _ (by rw [← hz.rules]) hz.makers hz.lets hz.chosen
theorem fine_choose {s : Mo.S} (h : Fine s) : Fine (Mo.choose s) := by
  unfold Mo.choose
  dsimp only
  generalize h1 : (if s.chosen = [] then s else Mo.fail 7 s.first s) = s1
  have k1 : Sm s s1 := by
    rw [← h1]
    split
    · exact Sm.refl s
    · exact sm_fail _ _ _
  have k2 := sm_run 8 Nm.ok s1.rest 0 s1
  have hle := Mo.run_le Mo.still 8 Nm.ok s1.rest 0 s1 (Nat.zero_le _)
  generalize Mo.run Mo.still 8 Nm.ok s1.rest 0 s1 = x at k2 hle ⊢
  have k3 := k1.trans k2
  have f3 : Fine { x.2 with chosen := s1.rest.take x.1 } := by
    have := h.of k3
    exact ⟨this.rules, this.makers, this.num, this.ro, this.lets, by dsimp only; rw [List.length_take]; omega⟩
  split
  · exact f3.of ((sm_wrong _).trans (sm_ends _))
  · exact f3.of (sm_ends _)
theorem fine_lett {s : Mo.S} (h : Fine s) (h0 : (Mo.lett s).e.k = 0) : Fine (Mo.lett s) ∧ (Mo.lett s).lets.length = s.lets.length + 1 := by
  unfold Mo.lett at h0 ⊢
  dsimp only at h0 ⊢
  have k1 := sm_run 1 Nm.ok s.rest 0 s
  generalize Mo.run Mo.still 1 Nm.ok s.rest 0 s = x at h0 k1 ⊢
  generalize h2 : (if x.1 = 0 then Mo.wrong x.2 else x.2) = s2 at h0 ⊢
  have k2 : Sm s s2 := by
    rw [← h2]
    split
    · exact k1.trans (sm_wrong _)
    · exact k1
  have k3 := k2.trans (sm_take 61 s2)
  generalize Mo.take 61 s2 = s3 at h0 k3 ⊢
  generalize h4 : (if 16 < s3.rest.length then Mo.fail 7 (s3.rest.getD 16 Mo.word0) s3 else s3) = s4 at h0 ⊢
  have k4 : Sm s s4 ∧ s4.rest.length ≤ 16 := by
    rw [← h4]
    split
    · next h16 =>
      rw [if_pos h16] at h4
      rw [← h4] at h0
      exact absurd h0 (fail_k 7 (by decide) _ _)
    · next h16 => exact ⟨k3, by omega⟩
  have f4 := h.of k4.1
  refine ⟨⟨f4.rules, f4.makers, f4.num, f4.ro, ?_, f4.chosen⟩, by simp [k4.1.lets]⟩
  intro p hp
  rcases List.mem_append.1 hp with h5 | h5
  · exact f4.lets p h5
  · rw [List.mem_singleton] at h5
    rw [h5]
    exact k4.2
theorem rule_lets (s : Mo.S) : (Mo.rule s).lets = s.lets := by
  unfold Mo.rule
  dsimp only
  obtain ⟨k1, _⟩ := nt_outs 4 s
  generalize (Mo.outs 4 s) = o at k1 ⊢
  have hi := (sm_take 58 o.2).trans (sm_ins (Mo.take 58 o.2))
  generalize Mo.ins (Mo.take 58 o.2) = i at hi ⊢
  generalize hd : (if Mo.at_ 124 i.2 = true then Mo.ins (Mo.take 124 i.2) else ([], i.2)) = d
  have hd1 : Sm i.2 d.2 := by
    rw [← hd]
    split
    · exact (sm_take 124 i.2).trans (sm_ins _)
    · exact Sm.refl _
  rw [(sm_acts _ _ _ _).lets, (sm_take 61 d.2).lets, hd1.lets, hi.lets, k1.lets]
theorem phony_lets (s : Mo.S) : (Mo.phony s).lets = s.lets := by
  unfold Mo.phony
  dsimp only
  obtain ⟨k1, _⟩ := nt_outs 1 s
  rw [(sm_ends _).lets, (sm_ins _).lets, (sm_take 58 _).lets, k1.lets]
theorem choose_lets (s : Mo.S) : (Mo.choose s).lets = s.lets := by
  unfold Mo.choose
  dsimp only
  generalize h1 : (if s.chosen = [] then s else Mo.fail 7 s.first s) = s1
  have k1 : Sm s s1 := by
    rw [← h1]
    split
    · exact Sm.refl s
    · exact sm_fail _ _ _
  have k2 := sm_run 8 Nm.ok s1.rest 0 s1
  rw [(sm_ends _).lets]
  split
  · rw [(sm_wrong _).lets]
    exact k2.lets.trans k1.lets
  · exact k2.lets.trans k1.lets
theorem fine_line {s : Mo.S} {L : List Ln.W} (h : Fine s) (h0 : (Mo.line s L).e.k = 0) : Fine (Mo.line s L) ∧ (Mo.line s L).lets.length ≤ s.lets.length + 1 := by
  rw [line_is] at h0 ⊢
  have hS : Fine (Stood s L) ∧ (Stood s L).lets = s.lets := by
    unfold Stood
    split
    · exact ⟨⟨h.rules, h.makers, h.num, h.ro, h.lets, h.chosen⟩, rfl⟩
    · have := h.of (sm_fail 6 ‹_› s)
      exact ⟨⟨this.rules, this.makers, this.num, this.ro, this.lets, this.chosen⟩, (sm_fail 6 _ s).lets⟩
  obtain ⟨hf, hl⟩ := hS
  generalize Stood s L = t at h0 hf hl ⊢
  split at h0
  · next h1 =>
    rw [if_pos h1]
    have := fine_lett hf h0
    exact ⟨this.1, by rw [this.2, hl]; exact Nat.le_refl _⟩
  · next h1 =>
    rw [if_neg h1]
    split at h0
    · next h2 =>
      rw [if_pos h2]
      exact ⟨fine_rule hf h0, by rw [rule_lets, hl]; omega⟩
    · next h2 =>
      rw [if_neg h2]
      split at h0
      · next h3 =>
        rw [if_pos h3]
        exact ⟨fine_phony hf h0, by rw [phony_lets, hl]; omega⟩
      · next h3 =>
        rw [if_neg h3]
        split at h0
        · next h4 =>
          rw [if_pos h4]
          exact ⟨fine_choose hf, by rw [choose_lets, hl]; omega⟩
        · next h4 =>
          rw [if_neg h4]
          exact ⟨hf.of (sm_fail _ _ _), by rw [(sm_fail _ _ _).lets, hl]; omega⟩
theorem find_few {t : List Nat} {L : Mn.Lets} {l : List Ln.W} (hL : ∀ p ∈ L, p.2.length ≤ 16) (h : Mn.find t L = some l) : l.length ≤ 16 := by
  obtain ⟨p, hp, rfl⟩ := find_mem h
  exact hL p hp
theorem Fine.stands {s : Mo.S} (h : Fine s) : ∀ x l, Mo.stands s.lets x = some l → l.length ≤ 1000000 := by
  intro x l hx
  unfold Mo.stands at hx
  split at hx
  · injection hx with hx
    subst hx
    simp
  · have := find_few h.lets hx
    omega
end Go.Proofs.YtgjehlegcmeeoaaGreatDoor

/- Package mani's own reader: a line. -/
namespace Go.Proofs.YtgjehlegcmeeoaaGreatDoor
set_option maxRecDepth 100000
open Go.ChangeShapes Go.WideShapes Go.ChangeAt Go.RowKit Go.Shelf

theorem SlW.hd {w : World} {hi b off n c : Nat} {L : List Ln.W} (h : SlW w hi (.slice (some ⟨b, off, none⟩) n c) L) (h0 : 0 < L.length) : w.cell? ⟨b, off, none⟩ = some (.string (str (L.headD Mo.word0).text)) ∧ w.cell? ⟨b, off + 1, none⟩ = some (.int .i64 (L.headD Mo.word0).line) ∧ w.cell? ⟨b, off + 2, none⟩ = some (.int .i64 (L.headD Mo.word0).col) ∧ w.cell? ⟨b, off + 3, none⟩ = some (.bool (L.headD Mo.word0).q) := by
  obtain ⟨b', off', e, _, _, h1, h2, h3, h4⟩ := h.at 0 h0 (L.headD Mo.word0) (by cases L <;> rfl)
  injection e with e
  injection e with e1 e2
  subst e1 e2
  simp only [Nat.zero_mul, Nat.add_zero] at h1 h2 h3 h4
  exact ⟨h1, h2, h3, h4⟩
theorem SlW.left {w w' : World} {hi g : Nat} {v : Value} {l : List Ln.W} (h : SlW w hi v l) (hg : w.grownBy w' (some g)) (ht : Ty w g 57) : SlW w' hi v l := h.keep (KeepB.grown hg ht notPart_reader) (.inr (.inr (.inr rfl)))
theorem hd_good {L : List Ln.W} (h0 : 0 < L.length) (h : ∀ x ∈ L, GoodW x) : GoodW (L.headD Mo.word0) := by
  rcases L with _ | ⟨x, r⟩
  · simp at h0
  · exact h x (by simp)
theorem stood_keeps (s : Mo.S) (L : List Ln.W) : (Stood s L).rules = s.rules ∧ (Stood s L).makers = s.makers ∧ (Stood s L).lets = s.lets ∧ (Stood s L).first = L.headD Mo.word0 := by
  unfold Stood
  split
  · exact ⟨rfl, rfl, rfl, rfl⟩
  · exact ⟨fail_rules _ _ _, fail_makers _ _ _, fail_lets _ _ _, rfl⟩
theorem put_len {lets : Mn.Lets} : ∀ (L out l : List Ln.W), out.length ≤ 200 → Mo.put lets L out = .ok l → l.length ≤ 200
  | [], out, l, ho, h => by
    rw [put_nil] at h
    injection h with h
    subst h
    exact ho
  | x :: r, out, l, ho, h => by
    rcases hs : Mo.stands lets x with _ | y
    · rw [put_none hs] at h
      cases h
    · rw [put_some hs] at h
      exact put_len r _ l (by rw [List.length_take]; omega) h
theorem stood_rest (s : Mo.S) (L : List Ln.W) (_ : L.length ≤ 1000000) : (Stood s L).rest.length ≤ 1000000 := by
  unfold Stood
  split
  · next l hl =>
    have := put_len _ _ _ (by simp) hl
    dsimp only
    omega
  · simp
/-- What a line's first statement reads and turns, in the world behind the call. -/
structure AtLine (W : World) (g b off : Nat) (f : Ln.W) : Prop where
  k5 : ∃ u, W.cell? ⟨g, 5, none⟩ = some u
  k6 : ∃ u, W.cell? ⟨g, 6, none⟩ = some u
  k7 : ∃ u, W.cell? ⟨g, 7, none⟩ = some u
  k8 : ∃ u, W.cell? ⟨g, 8, none⟩ = some u
  k9 : ∃ u, W.cell? ⟨g, 9, none⟩ = some u
  f5 : W.frozen? ⟨g, 5, none⟩ = false
  f6 : W.frozen? ⟨g, 6, none⟩ = false
  f7 : W.frozen? ⟨g, 7, none⟩ = false
  f8 : W.frozen? ⟨g, 8, none⟩ = false
  f9 : W.frozen? ⟨g, 9, none⟩ = false
  p0 : W.cell? ⟨b, off, none⟩ = some (.string (str f.text))
  p1 : W.cell? ⟨b, off + 1, none⟩ = some (.int .i64 f.line)
  p2 : W.cell? ⟨b, off + 2, none⟩ = some (.int .i64 f.col)
  p3 : W.cell? ⟨b, off + 3, none⟩ = some (.bool f.q)
theorem atLine {W : World} {base hi g lb mb b off n c : Nat} {s : Mo.S} {L : List Ln.W} (h : MRd W base hi g lb mb s) (hv : SlW W hi (.slice (some ⟨b, off, none⟩) n c) L) (h0 : 0 < L.length) : AtLine W g b off (L.headD Mo.word0) := by
  obtain ⟨cv, rv, sv, hin⟩ := h
  obtain ⟨p0, p1, p2, p3⟩ := hv.hd h0
  exact ⟨⟨_, hin.fst.1⟩, ⟨_, hin.fst.2.1⟩, ⟨_, hin.fst.2.2.1⟩, ⟨_, hin.fst.2.2.2⟩, ⟨_, hin.blk.at 9⟩, hin.blk.free 5, hin.blk.free 6, hin.blk.free 7, hin.blk.free 8, hin.blk.free 9, p0, p1, p2, p3⟩
theorem MRd.setLine {w W : World} {base hi g lb mb : Nat} {sv' : Value} {s s' : Mo.S} {R : List Ln.W} {f : Ln.W} (h : MRd w base hi g lb mb s) (hs : SlW w w.heap.size sv' R) (hR : ∀ x ∈ R, GoodW x) (hf : GoodW f) (hs' : s' = { s with first := f, rest := R })
    (hW : W = (((((w.setCell ⟨g, 5, none⟩ (.string (str f.text))).setCell ⟨g, 6, none⟩ (.int .i64 f.line)).setCell ⟨g, 7, none⟩ (.int .i64 f.col)).setCell ⟨g, 8, none⟩ (.bool f.q)).setCell ⟨g, 9, none⟩ sv')) :
    MRd W base W.heap.size g lb mb s' ∧ Below base w W := by
  subst hs'
  have hz : W.heap.size = w.heap.size := by rw [hW]; simp
  rw [hz, hW]
  obtain ⟨cv, rv, sv, hin⟩ := h.more h.top.2.2.1 (Nat.le_refl _)
  have hg1 : base ≤ g := hin.g1
  refine ⟨⟨cv, rv, sv', hin.turn ?_ ((((hin.blk.set 5 _).set 6 _).set 7 _).set 8 _ |>.set 9 sv') hs rfl rfl rfl rfl ⟨hf, hR, hin.good.chosen, hin.good.lets, hin.good.rules⟩⟩, ?_⟩
  · exact mgrown_on (mgrown_on (mgrown_on (mgrown_on (grown_setCell _ ⟨g, 5, none⟩ _) (grown_setCell _ ⟨g, 6, none⟩ _)) (grown_setCell _ ⟨g, 7, none⟩ _)) (grown_setCell _ ⟨g, 8, none⟩ _)) (grown_setCell _ ⟨g, 9, none⟩ _)
  · exact (((((Below.refl _ _).setCell hg1 _).setCell hg1 _).setCell hg1 _).setCell hg1 _).setCell hg1 _
set_option maxHeartbeats 16000000 in
theorem line_any (base hi g lb mb : Nat) (s : Mo.S) (v : Value) (L : List Ln.W) (w : World) (h : MRd w base hi g lb mb s) (hv : SlW w hi v L) (hL : ∀ x ∈ L, GoodW x) (h0 : 0 < L.length) (hlen : L.length ≤ 1000000) (hst : ∀ x l, Mo.stands s.lets x = some l → l.length ≤ 1000000) (hrules : s.rules.length ≤ 100000) (hmk : s.makers.length ≤ 1000000) (hlets : s.lets.length ≤ 1000000) (hTab : ∀ W, Below base w W → Tabs W) :
    Calls Tryz.prog 39 #[.pointer (some ⟨g, 0, none⟩), v] w fun e w' => e = .returned (.tuple #[]) ∧ Lined w base g lb mb (Mo.line s L) w' := by
  have HR := Lib.hid h
  have HTP := Lib.hid h.top
  have HV := Lib.hid hv
  have HG := Lib.hid hL
  have HH0 := Lib.hid h0
  have HLEN := Lib.hid hlen
  have HRU := Lib.hid hrules
  have HMK := Lib.hid hmk
  have HLE := Lib.hid hlets
  have HTAB := Lib.hid hTab
  have HPUT : Hid (∀ W v', Below w.heap.size w W → SlW W hi v' L.tail → Calls Tryz.prog 62 #[.pointer (some ⟨g, 0, none⟩), v'] W fun e w' => PutIs W base hi g lb mb s e w' (Mo.put s.lets L.tail [])) := Lib.hid (fun W v' hb hs => put_any base hi g lb mb s v' L.tail W (HR.out.under hb) hs (fun x hx => HG.out x (List.mem_of_mem_tail hx)) (by rw [List.length_tail]; have := HLEN.out; omega) hst)
  obtain ⟨A, c, rfl, hlc⟩ := hv.parts
  obtain ⟨b, off, rfl, -⟩ := hv.at 0 h0 (L.headD Mo.word0) (by cases L <;> rfl)
  obtain ⟨p0, p1, p2, p3⟩ := hv.hd h0
  obtain ⟨n, hn⟩ : ∃ n, L.length = n := ⟨_, rfl⟩
  have HN := Lib.hid hn
  rw [hn] at h0 hlen hlc HV ⊢
  have hn1 : (1 : Int) ≤ (n : Int) := by omega
  have hc1 : (n : Int) ≤ (c : Int) := by omega
  obtain ⟨f, hf⟩ : ∃ f, L.headD Mo.word0 = f := ⟨_, rfl⟩
  rw [hf] at p0 p1 p2 p3
  have HF := Lib.hid hf
  clear h hv hL hrules hmk hlets hTab hst hn hf
  go_enter Tryz.func39, Tryz.ntmps39
  go_upto_region 0 with fail
  go_cut [] (fun wx => Hid (MRd wx base wx.heap.size g lb mb (Stood s L)) ∧ Hid (Below base w wx))
  case first =>
    have HBS : Hid (base ≤ w.heap.size) := Lib.hid (by have := HTP.out; omega)
    have HTY : Hid (Ty w.drew g 57) := Lib.hid (HR.out.under (Below.refl _ _).drew).tyg
    have HGF : Hid (GoodW f) := Lib.hid (by rw [← HF.out]; exact hd_good HH0.out HG.out)
    have HT1 : c ≠ 1 → SlW w.drew hi (.slice (some ⟨b, off + 4, none⟩) (n - 1) (c - 1)) L.tail := fun _ => by
      rw [← List.drop_one]
      exact (HV.out.under (Below.refl _ _).drew).tail (A' := some ⟨b, off + 4, none⟩) (d := c - 1) (k := 1) h0 (by omega) (fun _ b' off' e => by injection e with e; injection e with e1 e2; subst e1 e2; rfl)
    have HT0 : c = 1 → SlW w.drew hi (.slice (some ⟨b, off, none⟩) 0 0) L.tail := fun hc => by
      rw [show L.tail = [] from by rw [← List.drop_one]; exact List.drop_of_length_le (by rw [HN.out]; omega)]
      exact (HV.out.under (Below.refl _ _).drew).head (k := 0) (Nat.zero_le _) (Nat.le_refl _)
    rcases hput : Mo.put s.lets L.tail [] with z | l
    · have HSTD : Hid (Stood s L = { Mo.fail 6 z s with first := f, rest := [] }) := Lib.hid (by unfold Stood; rw [hput, HF.out])
      rw [hput] at HPUT
      clear hput
      by_cases hcn : c = 1
      · have HT := Lib.hid (HT0 hcn)
        clear HT0 HT1
        subst hcn
        obtain rfl : n = 1 := by omega
        go_region_with (go_at_call 62; refine (HPUT.out _ _ (Below.refl _ _).drew HT.out).mono ?_; rintro e w2 ⟨rfl, hl2⟩; have HB2 := Lib.hid hl2; have hat := atLine hl2.1 ((HV.out.under (Below.refl _ _).drew).left hl2.2 HTY.out) HH0.out; rw [HF.out] at hat; obtain ⟨⟨_, k5⟩, ⟨_, k6⟩, ⟨_, k7⟩, ⟨_, k8⟩, ⟨_, k9⟩, f5, f6, f7, f8, f9, r0, r1, r2, r3⟩ := hat)
        all_goals (go_wp2_with fail; go_meet; have hfin := HB2.out.1.setLine (slW_nil _ _) (by simp) HGF.out HSTD.out rfl; exact ⟨Lib.hid hfin.1, Lib.hid (((Below.refl base w).drew.trans (Below.ofGrown HB2.out.2 HTP.out.1 HBS.out)).trans hfin.2)⟩)
      · have hcI : ¬ (c : Int) - 1 = 0 := by omega
        have HT := Lib.hid (HT1 hcn)
        clear HT0 HT1
        go_region_with (go_at_call 62; refine (HPUT.out _ _ (Below.refl _ _).drew HT.out).mono ?_; rintro e w2 ⟨rfl, hl2⟩; have HB2 := Lib.hid hl2; have hat := atLine hl2.1 ((HV.out.under (Below.refl _ _).drew).left hl2.2 HTY.out) HH0.out; rw [HF.out] at hat; obtain ⟨⟨_, k5⟩, ⟨_, k6⟩, ⟨_, k7⟩, ⟨_, k8⟩, ⟨_, k9⟩, f5, f6, f7, f8, f9, r0, r1, r2, r3⟩ := hat)
        all_goals (go_wp2_with fail; go_meet; have hfin := HB2.out.1.setLine (slW_nil _ _) (by simp) HGF.out HSTD.out rfl; exact ⟨Lib.hid hfin.1, Lib.hid (((Below.refl base w).drew.trans (Below.ofGrown HB2.out.2 HTP.out.1 HBS.out)).trans hfin.2)⟩)
    · have HSTD : Hid (Stood s L = { s with first := f, rest := l }) := Lib.hid (by unfold Stood; rw [hput, HF.out])
      have HGL : Hid (∀ x ∈ l, GoodW x) := Lib.hid (put_good HR.out.good.lets L.tail [] l (fun x hx => HG.out x (List.mem_of_mem_tail hx)) (by simp) hput)
      rw [hput] at HPUT
      clear hput
      by_cases hcn : c = 1
      · have HT := Lib.hid (HT0 hcn)
        clear HT0 HT1
        subst hcn
        obtain rfl : n = 1 := by omega
        go_region_with (go_at_call 62; refine (HPUT.out _ _ (Below.refl _ _).drew HT.out).mono ?_; rintro e w2 ⟨⟨v2, rfl, hsl⟩, hll, hb2⟩; obtain ⟨A2, c2, rfl, _⟩ := hsl.parts; have HB2 := Lib.hid ((Below.refl w.heap.size w).drew.trans hb2); have hat := atLine (HR.out.under HB2.out) (HV.out.under HB2.out) HH0.out; rw [HF.out] at hat; obtain ⟨⟨_, k5⟩, ⟨_, k6⟩, ⟨_, k7⟩, ⟨_, k8⟩, ⟨_, k9⟩, f5, f6, f7, f8, f9, r0, r1, r2, r3⟩ := hat)
        all_goals (go_wp2_with fail; go_meet; have hfin := (HR.out.under HB2.out).setLine hsl HGL.out HGF.out HSTD.out rfl; exact ⟨Lib.hid hfin.1, Lib.hid ((HB2.out.mono HBS.out).trans hfin.2)⟩)
      · have hcI : ¬ (c : Int) - 1 = 0 := by omega
        have HT := Lib.hid (HT1 hcn)
        clear HT0 HT1
        go_region_with (go_at_call 62; refine (HPUT.out _ _ (Below.refl _ _).drew HT.out).mono ?_; rintro e w2 ⟨⟨v2, rfl, hsl⟩, hll, hb2⟩; obtain ⟨A2, c2, rfl, _⟩ := hsl.parts; have HB2 := Lib.hid ((Below.refl w.heap.size w).drew.trans hb2); have hat := atLine (HR.out.under HB2.out) (HV.out.under HB2.out) HH0.out; rw [HF.out] at hat; obtain ⟨⟨_, k5⟩, ⟨_, k6⟩, ⟨_, k7⟩, ⟨_, k8⟩, ⟨_, k9⟩, f5, f6, f7, f8, f9, r0, r1, r2, r3⟩ := hat)
        all_goals (go_wp2_with fail; go_meet; have hfin := (HR.out.under HB2.out).setLine hsl HGL.out HGF.out HSTD.out rfl; exact ⟨Lib.hid hfin.1, Lib.hid ((HB2.out.mono HBS.out).trans hfin.2)⟩)
  case rest =>
    obtain ⟨hm, hb⟩ := hcut
    obtain ⟨w1, rfl⟩ : ∃ wx : World, wx = wc := ⟨_, rfl⟩
    have HLI := Lib.hid (line_is s L)
    rw [HF.out] at HLI
    have hsk := stood_keeps s L
    rw [HF.out] at hsk
    have HRL : Hid ((Stood s L).rest.length ≤ 1000000) := Lib.hid (stood_rest s L (by have := HLEN.out; omega))
    obtain ⟨s1, hs1⟩ : ∃ s1, Stood s L = s1 := ⟨_, rfl⟩
    rw [hs1] at hm hsk HLI HRL
    have HK := Lib.hid hsk
    have HMK1 : Hid (s1.makers.length ≤ 1000000) := Lib.hid (by rw [HK.out.2.1]; exact HMK.out)
    have HRU1 : Hid (s1.rules.length ≤ 100000) := Lib.hid (by rw [HK.out.1]; exact HRU.out)
    have HLE1 : Hid (s1.lets.length ≤ 1000000) := Lib.hid (by rw [HK.out.2.2.1]; exact HLE.out)
    have HGF : Hid (GoodW f) := Lib.hid (by rw [← HF.out]; exact hd_good HH0.out HG.out)
    have HM := Lib.hid hm
    have HB := Lib.hid hb
    have HCF : Hid (∀ W, MRd W base w1.heap.size g lb mb s1 → W.cell? ⟨g, 5, none⟩ = some (.string (str f.text)) ∧ W.cell? ⟨g, 6, none⟩ = some (.int .i64 f.line) ∧ W.cell? ⟨g, 7, none⟩ = some (.int .i64 f.col) ∧ W.cell? ⟨g, 8, none⟩ = some (.bool f.q)) := Lib.hid (fun W h => by
      obtain ⟨cv, rv, sv, hin⟩ := h
      have := hin.fst
      rw [HK.out.2.2.2] at this
      exact this)
    have HIS : Hid (∀ (t : List Nat) W, (∀ c ∈ t, c < 256) → Calls Tryz.prog 63 #[.agg #[.string (str f.text), .int .i64 f.line, .int .i64 f.col, .bool f.q], .string (str t)] W fun e w' => e = .returned (.bool (Mn.isW t f)) ∧ Below W.heap.size W w') := Lib.hid (fun t W ht => mis_any f t W HGF.out.bytes ht)
    have HFA : Hid (∀ W, MRd W base w1.heap.size g lb mb s1 → Calls Tryz.prog 40 #[.pointer (some ⟨g, 0, none⟩), .int .i64 4, .agg #[.string (str f.text), .int .i64 f.line, .int .i64 f.col, .bool f.q]] W fun e w' => e = .returned (.tuple #[]) ∧ Left W base w1.heap.size g lb mb (Mo.fail 4 f s1) w') := Lib.hid (fun W h => mfail_any 4 f base w1.heap.size g lb mb s1 W h)
    obtain ⟨k5, k6, k7, k8⟩ := HCF.out _ hm
    have HBX : Hid (base ≤ w1.heap.size) := Lib.hid (by have := HM.out.top; omega)
    clear hm hb hsk hs1 p0 p1 p2 p3
    rcases hq0 : Mn.isW [108, 101, 116] f with _ | _
    · rw [hq0] at HLI
      have HQ : Hid (∀ W, Calls Tryz.prog 63 #[.agg #[.string (str f.text), .int .i64 f.line, .int .i64 f.col, .bool f.q], .string ⟨#[108, 101, 116]⟩] W fun e w' => e = .returned (.bool false) ∧ Below W.heap.size W w') := Lib.hid (fun W => by have := HIS.out [108, 101, 116] W (by decide); rw [hq0] at this; exact this)
      clear hq0
      go_wp2_with fail
      refine (HQ.out _).mono ?_
      rintro e w2 ⟨rfl, hb2⟩
      have HM2 := Lib.hid (HM.out.under hb2)
      have HB2 := Lib.hid (HB.out.trans (hb2.mono HBX.out))
      have HZ2 : Hid (w1.heap.size ≤ w2.heap.size) := Lib.hid hb2.size
      obtain ⟨k5, k6, k7, k8⟩ := HCF.out _ HM2.out
      clear hb2 HQ
      rcases hq1 : Mn.isW [114, 117, 108, 101] f with _ | _
      · rw [hq1] at HLI
        have HQ : Hid (∀ W, Calls Tryz.prog 63 #[.agg #[.string (str f.text), .int .i64 f.line, .int .i64 f.col, .bool f.q], .string ⟨#[114, 117, 108, 101]⟩] W fun e w' => e = .returned (.bool false) ∧ Below W.heap.size W w') := Lib.hid (fun W => by have := HIS.out [114, 117, 108, 101] W (by decide); rw [hq1] at this; exact this)
        clear hq1
        go_wp2_with fail
        refine (HQ.out _).mono ?_
        rintro e w3 ⟨rfl, hb3⟩
        have HM3 := Lib.hid (HM2.out.under hb3)
        have HB3 := Lib.hid (HB2.out.trans (hb3.mono (Nat.le_trans HBX.out HZ2.out)))
        have HZ3 : Hid (w1.heap.size ≤ w3.heap.size) := Lib.hid (Nat.le_trans HZ2.out hb3.size)
        obtain ⟨k5, k6, k7, k8⟩ := HCF.out _ HM3.out
        clear hb3 HQ
        rcases hq2 : Mn.isW [112, 104, 111, 110, 121] f with _ | _
        · rw [hq2] at HLI
          have HQ : Hid (∀ W, Calls Tryz.prog 63 #[.agg #[.string (str f.text), .int .i64 f.line, .int .i64 f.col, .bool f.q], .string ⟨#[112, 104, 111, 110, 121]⟩] W fun e w' => e = .returned (.bool false) ∧ Below W.heap.size W w') := Lib.hid (fun W => by have := HIS.out [112, 104, 111, 110, 121] W (by decide); rw [hq2] at this; exact this)
          clear hq2
          go_wp2_with fail
          refine (HQ.out _).mono ?_
          rintro e w4 ⟨rfl, hb4⟩
          have HM4 := Lib.hid (HM3.out.under hb4)
          have HB4 := Lib.hid (HB3.out.trans (hb4.mono (Nat.le_trans HBX.out HZ3.out)))
          have HZ4 : Hid (w1.heap.size ≤ w4.heap.size) := Lib.hid (Nat.le_trans HZ3.out hb4.size)
          obtain ⟨k5, k6, k7, k8⟩ := HCF.out _ HM4.out
          clear hb4 HQ
          rcases hq3 : Mn.isW [100, 101, 102, 97, 117, 108, 116] f with _ | _
          · rw [hq3] at HLI
            have HQ : Hid (∀ W, Calls Tryz.prog 63 #[.agg #[.string (str f.text), .int .i64 f.line, .int .i64 f.col, .bool f.q], .string ⟨#[100, 101, 102, 97, 117, 108, 116]⟩] W fun e w' => e = .returned (.bool false) ∧ Below W.heap.size W w') := Lib.hid (fun W => by have := HIS.out [100, 101, 102, 97, 117, 108, 116] W (by decide); rw [hq3] at this; exact this)
            clear hq3
            go_wp2_with fail
            refine (HQ.out _).mono ?_
            rintro e w5 ⟨rfl, hb5⟩
            have HM5 := Lib.hid (HM4.out.under hb5)
            have HB5 := Lib.hid (HB4.out.trans (hb5.mono (Nat.le_trans HBX.out HZ4.out)))
            have HZ5 : Hid (w1.heap.size ≤ w5.heap.size) := Lib.hid (Nat.le_trans HZ4.out hb5.size)
            obtain ⟨k5, k6, k7, k8⟩ := HCF.out _ HM5.out
            clear hb5 HQ
            go_wp2_with fail
            refine (HFA.out _ HM5.out).mono ?_
            rintro e w9 ⟨rfl, hl9⟩
            have HL9 := Lib.hid (left_lined hl9 (Nat.le_trans HBX.out HZ5.out))
            clear hl9
            go_wp2
            go_end0
            refine ⟨rfl, ?_⟩
            rw [HLI.out]
            exact ⟨HL9.out.1, HB5.out.trans HL9.out.2⟩
          · rw [hq3] at HLI
            have HQ : Hid (∀ W, Calls Tryz.prog 63 #[.agg #[.string (str f.text), .int .i64 f.line, .int .i64 f.col, .bool f.q], .string ⟨#[100, 101, 102, 97, 117, 108, 116]⟩] W fun e w' => e = .returned (.bool true) ∧ Below W.heap.size W w') := Lib.hid (fun W => by have := HIS.out [100, 101, 102, 97, 117, 108, 116] W (by decide); rw [hq3] at this; exact this)
            clear hq3
            go_wp2_with fail
            refine (HQ.out _).mono ?_
            rintro e w5 ⟨rfl, hb5⟩
            have HM5 := Lib.hid (HM4.out.under hb5)
            have HB5 := Lib.hid (HB4.out.trans (hb5.mono (Nat.le_trans HBX.out HZ4.out)))
            have HZ5 : Hid (w1.heap.size ≤ w5.heap.size) := Lib.hid (Nat.le_trans HZ4.out hb5.size)
            go_wp2_with fail
            refine (choose_any base _ g lb mb s1 _ HM5.out).mono ?_
            rintro e w9 ⟨rfl, hl9⟩
            have HL9 := Lib.hid hl9
            clear hl9
            go_wp2
            go_end0
            refine ⟨rfl, ?_⟩
            rw [HLI.out]
            exact ⟨HL9.out.1, HB5.out.trans HL9.out.2⟩
        · rw [hq2] at HLI
          have HQ : Hid (∀ W, Calls Tryz.prog 63 #[.agg #[.string (str f.text), .int .i64 f.line, .int .i64 f.col, .bool f.q], .string ⟨#[112, 104, 111, 110, 121]⟩] W fun e w' => e = .returned (.bool true) ∧ Below W.heap.size W w') := Lib.hid (fun W => by have := HIS.out [112, 104, 111, 110, 121] W (by decide); rw [hq2] at this; exact this)
          clear hq2
          go_wp2_with fail
          refine (HQ.out _).mono ?_
          rintro e w4 ⟨rfl, hb4⟩
          have HM4 := Lib.hid (HM3.out.under hb4)
          have HB4 := Lib.hid (HB3.out.trans (hb4.mono (Nat.le_trans HBX.out HZ3.out)))
          have HZ4 : Hid (w1.heap.size ≤ w4.heap.size) := Lib.hid (Nat.le_trans HZ3.out hb4.size)
          go_wp2_with fail
          refine (phony_any base _ g lb mb s1 _ HM4.out HRU1.out HMK1.out).mono ?_
          rintro e w9 ⟨rfl, hl9⟩
          have HL9 := Lib.hid hl9
          clear hl9
          go_wp2
          go_end0
          refine ⟨rfl, ?_⟩
          rw [HLI.out]
          exact ⟨HL9.out.1, HB4.out.trans HL9.out.2⟩
      · rw [hq1] at HLI
        have HQ : Hid (∀ W, Calls Tryz.prog 63 #[.agg #[.string (str f.text), .int .i64 f.line, .int .i64 f.col, .bool f.q], .string ⟨#[114, 117, 108, 101]⟩] W fun e w' => e = .returned (.bool true) ∧ Below W.heap.size W w') := Lib.hid (fun W => by have := HIS.out [114, 117, 108, 101] W (by decide); rw [hq1] at this; exact this)
        clear hq1
        go_wp2_with fail
        refine (HQ.out _).mono ?_
        rintro e w3 ⟨rfl, hb3⟩
        have HM3 := Lib.hid (HM2.out.under hb3)
        have HB3 := Lib.hid (HB2.out.trans (hb3.mono (Nat.le_trans HBX.out HZ2.out)))
        have HZ3 : Hid (w1.heap.size ≤ w3.heap.size) := Lib.hid (Nat.le_trans HZ2.out hb3.size)
        go_wp2_with fail
        refine (rule_any base _ g lb mb s1 _ HM3.out HRU1.out HMK1.out HRL.out (fun W hb => HTAB.out W (HB3.out.trans hb))).mono ?_
        rintro e w9 ⟨rfl, hl9⟩
        have HL9 := Lib.hid hl9
        clear hl9
        go_wp2
        go_end0
        refine ⟨rfl, ?_⟩
        rw [HLI.out]
        exact ⟨HL9.out.1, HB3.out.trans HL9.out.2⟩
    · rw [hq0] at HLI
      have HQ : Hid (∀ W, Calls Tryz.prog 63 #[.agg #[.string (str f.text), .int .i64 f.line, .int .i64 f.col, .bool f.q], .string ⟨#[108, 101, 116]⟩] W fun e w' => e = .returned (.bool true) ∧ Below W.heap.size W w') := Lib.hid (fun W => by have := HIS.out [108, 101, 116] W (by decide); rw [hq0] at this; exact this)
      clear hq0
      go_wp2_with fail
      refine (HQ.out _).mono ?_
      rintro e w2 ⟨rfl, hb2⟩
      have HM2 := Lib.hid (HM.out.under hb2)
      have HB2 := Lib.hid (HB.out.trans (hb2.mono HBX.out))
      have HZ2 : Hid (w1.heap.size ≤ w2.heap.size) := Lib.hid hb2.size
      go_wp2_with fail
      refine (mlet_any base _ g lb mb s1 _ HM2.out HLE1.out).mono ?_
      rintro e w9 ⟨rfl, hl9⟩
      have HL9 := Lib.hid hl9
      clear hl9
      go_wp2
      go_end0
      refine ⟨rfl, ?_⟩
      rw [HLI.out]
      exact ⟨HL9.out.1, HB2.out.trans HL9.out.2⟩
end Go.Proofs.YtgjehlegcmeeoaaGreatDoor
