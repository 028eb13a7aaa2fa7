/- Rows of words put behind each other. -/
import Derived.Test.YtemliglhippdcaaWords
import Derived.Test.YtemliglhippdcaaSame
import Derived.Test.YtemliglhippdcaaZ00
import Derived.Test.YtemliglhippdcaaManiMem0
import Derived.Test.YtemliglhippdcaaZ03
import Derived.BigRegion
import Derived.Deep.RegionHeld3
import Derived.Deep.RegionWith
namespace Go.Proofs.Ytemliglhippdcaa
set_option maxRecDepth 100000
open Go.ChangeShapes Go.WideShapes Go.ChangeAt Go.RowKit

/-- Words as they lie: behind a row of the call's own. -/
def LieWs (w : World) (ad : Addr) (M : List Ln.W) : Prop := ∀ j y, (rowW M)[j]? = some y → w.cell? (ad.add j) = some y
theorem RdW.lies {w : World} {ad : Addr} {n c : Nat} {M : List Ln.W} (h : RdW w (.slice (some ad) n c) M) : LieWs w ad M := by
  obtain ⟨A, c', e, h1, h2, h3⟩ := h
  injection e with e1 e2 e3
  subst e2 e3
  intro j y hy
  have hj : j < M.length * 4 := by
    rw [← rowW_len]
    exact (List.getElem?_eq_some_iff.1 hy).1
  obtain ⟨b, off, rfl, hc⟩ := h3 (by omega)
  injection e1 with e1
  subst e1
  have hk : j / 4 < M.length := by omega
  have he := rowW_at M (j / 4) (j % 4) hk (Nat.mod_lt _ (by decide))
  rw [show j / 4 * 4 + j % 4 = j from by omega, hy] at he
  obtain ⟨p0, p1, p2, p3⟩ := hc (j / 4) hk
  rw [add_plain]
  have : j % 4 = 0 ∨ j % 4 = 1 ∨ j % 4 = 2 ∨ j % 4 = 3 := by omega
  rcases this with e | e | e | e
  · rw [e] at he
    rw [show off + j = off + j / 4 * 4 from by omega, p0]
    exact he.symm
  · rw [e] at he
    rw [show off + j = off + j / 4 * 4 + 1 from by omega, p1]
    exact he.symm
  · rw [e] at he
    rw [show off + j = off + j / 4 * 4 + 2 from by omega, p2]
    exact he.symm
  · rw [e] at he
    rw [show off + j = off + j / 4 * 4 + 3 from by omega, p3]
    exact he.symm
def GrewWs (base : Nat) (u : Value) (R : List Ln.W) (w : World) (u' : Value) (w' : World) : Prop := OwnW w' base u' R ∧ w.grownBy w' u.ownBlock ∧ Below base w w'
theorem wp_append_wsr {w : World} {o : Oper} {a : Act} {K : Act → World → Prop} {Q : Exit → Act → World → Prop} (s x : Operand)
    (ho : o.op = .call { callee := .builtin .append, args := #[s, x], argTypes := #[64, 64] }) (base : Nat) (u : Value) (R M : List Ln.W) (hs : a.eval s = u) (hst : OwnW w base u R) (ad : Addr) (m c : Nat)
    (hx : a.eval x = .slice (some ad) m c) (hm : M.length = m) (hM : LieWs w ad M) (hlen : R.length + M.length ≤ 1000000) (hbase : base ≤ w.heap.size) (R' : List Ln.W) (hR : R ++ M = R')
    (h : ∀ u' w', GrewWs base u R' w u' w' → K (a.put o.dst u') w') : Oper.wp Try.prog o a w K Q := by
  subst hR
  obtain ⟨i, hi, hz0, hz1, hz2⟩ := info_parts infoWord
  obtain ⟨v', w', hr, h2, h3, h4, h5⟩ := run_append_own_at (P := Try.prog) w base 64 o.type 70 i (.agg #[.string ⟨#[]⟩, .int .i64 0, .int .i64 0, .bool false]) 4 40 Try.underlying64 hi hz0 hz1 hz2 (by kernel_rfl) (by decide) u R.length (rowW R) hst ad m c (rowW M) (by rw [rowW_len, hm]) hM (fun y hy => by
      obtain ⟨d, _, hd⟩ := List.mem_flatMap.1 hy
      exact cellsW_one d y hd) (by unfold maxLen; omega) (by omega) hbase
  unfold Oper.wp execOp
  simp only [ho, resolve, invoke, builtin, Sem.run_bind, Sem.run_pure, Result.andThen_ok, List.map_toArray, List.map_cons, List.map_nil, hs, hx, hr]
  refine h _ _ ⟨?_, h3, (Below.refl _ _).grown h3 hbase fun k hk => (World.ownsRow.lt hst k hk).1⟩
  unfold OwnW
  rw [List.length_append, hm, rowW, List.flatMap_append]
  exact h2
theorem wpList_append_wsr {w : World} {ops : Array Oper} {rest : List Oper} {o : Oper} {a : Act} {Q : Exit → Act → World → Prop} (hgd : o.guard = none) (s x : Operand)
    (ho : o.op = .call { callee := .builtin .append, args := #[s, x], argTypes := #[64, 64] }) (base : Nat) (u : Value) (R M : List Ln.W) (hs : a.eval s = u) (hst : OwnW w base u R) (ad : Addr) (m c : Nat)
    (hx : a.eval x = .slice (some ad) m c) (hm : M.length = m) (hM : LieWs w ad M) (hlen : R.length + M.length ≤ 1000000) (hbase : base ≤ w.heap.size) (R' : List Ln.W) (hR : R ++ M = R')
    (h : ∀ u' w', GrewWs base u R' w u' w' → wpList Try.prog ops Q rest (a.put o.dst u') w') : wpList Try.prog ops Q (o :: rest) a w :=
  wpList_plain hgd fun _ hK => wp_append_wsr s x ho base u R M hs hst ad m c hx hm hM hlen hbase R' hR fun v' w' hg => hK _ _ (h v' w' hg)
theorem ownWs_empty (w : World) (base : Nat) (hb : base ≤ w.heap.size) : OwnW (w.alloc (.cells #[] 70)) base (.slice (some ⟨w.heap.size, 0, none⟩) 0 0) [] :=
  ⟨rfl, .inr ⟨w.heap.size, 0, #[], rfl, hb, heap_alloc_new w _, Nat.le_refl _, Nat.zero_le _, rfl, rfl⟩⟩
theorem OwnW.allocs {w : World} {base : Nat} {v : Value} {L : List Ln.W} (h : OwnW w base v L) (o : Obj) : OwnW (w.alloc o) base v L := h.under ((Below.refl _ _).alloc (Nat.le_refl _) _)
theorem RdW.headws {w : World} {n c k d : Nat} {A : Option Addr} {R : List Ln.W} (h : RdW w (.slice A n c) R) (hk : k ≤ n) (hd : k ≤ d) : RdW w (.slice A k d) (R.take k) := by
  obtain ⟨B, c', e, h1, h2, h3⟩ := h
  injection e with e1 e2 e3
  subst e1 e2 e3
  have hl : (R.take k).length = k := by rw [List.length_take]; omega
  refine ⟨A, d, by rw [hl], by rw [hl]; exact hd, by rw [hl]; clear h3; unfold maxLen at *; omega, fun h0 => ?_⟩
  rw [hl] at h0
  obtain ⟨b, off, rfl, hc⟩ := h3 (by clear h3; omega)
  refine ⟨b, off, rfl, fun j hj => ?_⟩
  have hj' : j < k := by rw [hl] at hj; exact hj
  have := hc j (by clear h3; omega)
  rw [List.getElem_take]
  exact this
end Go.Proofs.Ytemliglhippdcaa

/- Package mani's own reader as it lies in memory. -/
namespace Go.Proofs.Ytemliglhippdcaa
set_option maxRecDepth 100000
open Go.ChangeShapes Go.WideShapes Go.ChangeAt Go.RowKit

/-- Blocks below a place, of such types, are as they were. -/
def KeepB (w w' : World) (hi : Nat) (Q : TypeId → Prop) : Prop := ∀ b t, b < hi → Ty w b t → Q t → w'.heap[b]? = w.heap[b]?
theorem KeepB.below {w w' : World} {hi : Nat} {Q : TypeId → Prop} (h : Below w.heap.size w w') : KeepB w w' hi Q := fun b _ _ ht _ => h.block b ht.lt
theorem KeepB.ty {w w' : World} {hi : Nat} {Q : TypeId → Prop} (h : KeepB w w' hi Q) {b : Nat} {t : TypeId} (hb : b < hi) (ht : Ty w b t) (hq : Q t) : Ty w' b t := by
  have e := h b t hb ht hq
  obtain ⟨cs, fr, k⟩ := ht
  exact ⟨cs, fr, by rw [e]; exact k⟩
theorem KeepB.cell {w w' : World} {hi : Nat} {Q : TypeId → Prop} (h : KeepB w w' hi Q) {b : Nat} {t : TypeId} (hb : b < hi) (ht : Ty w b t) (hq : Q t) (o : Nat) : w'.cell? ⟨b, o, none⟩ = w.cell? ⟨b, o, none⟩ := World.cell?_of_block (h b t hb ht hq)
/-- A slice whose parts, of so many cells each, are such, and lie below a place. -/
def SlB (w : World) (hi : Nat) (t : TypeId) (sz : Nat) (v : Value) (n : Nat) (P : Nat → Nat → Nat → Prop) : Prop :=
  ∃ A c, v = .slice A n c ∧ n ≤ c ∧ n ≤ maxLen ∧ (0 < n → ∃ b off, A = some ⟨b, off, none⟩ ∧ b < hi ∧ Ty w b t ∧ ∀ k, k < n → P k b (off + k * sz))
theorem SlB.keep {w w' : World} {hi : Nat} {Q : TypeId → Prop} {t : TypeId} {sz n : Nat} {v : Value} {P P' : Nat → Nat → Nat → Prop} (h : SlB w hi t sz v n P) (hk : KeepB w w' hi Q) (hq : Q t) (hp : ∀ k b o, b < hi → Ty w b t → P k b o → P' k b o) : SlB w' hi t sz v n P' := by
  obtain ⟨A, c, rfl, h1, h2, h3⟩ := h
  refine ⟨A, c, rfl, h1, h2, fun h0 => ?_⟩
  obtain ⟨b, off, rfl, hb, ht, hc⟩ := h3 h0
  exact ⟨b, off, rfl, hb, hk.ty hb ht hq, fun k hk' => hp k b _ hb ht (hc k hk')⟩
theorem SlB.more {w : World} {hi hi' : Nat} {t : TypeId} {sz n : Nat} {v : Value} {P P' : Nat → Nat → Nat → Prop} (h : SlB w hi t sz v n P) (hh : hi ≤ hi') (hp : ∀ k b o, P k b o → P' k b o) : SlB w hi' t sz v n P' := by
  obtain ⟨A, c, rfl, h1, h2, h3⟩ := h
  refine ⟨A, c, rfl, h1, h2, fun h0 => ?_⟩
  obtain ⟨b, off, rfl, hb, ht, hc⟩ := h3 h0
  exact ⟨b, off, rfl, by omega, ht, fun k hk => hp _ _ _ (hc k hk)⟩
theorem slB_nil (w : World) (hi : Nat) (t : TypeId) (sz : Nat) (P : Nat → Nat → Nat → Prop) : SlB w hi t sz (.slice none 0 0) 0 P := ⟨none, 0, rfl, Nat.le_refl _, Nat.zero_le _, fun h => absurd h (by simp)⟩
theorem SlB.parts {w : World} {hi : Nat} {t : TypeId} {sz n : Nat} {v : Value} {P : Nat → Nat → Nat → Prop} (h : SlB w hi t sz v n P) : ∃ A c, v = .slice A n c ∧ n ≤ c := by
  obtain ⟨A, c, e, h, _⟩ := h
  exact ⟨A, c, e, h⟩
/-- Words. -/
def SlW (w : World) (hi : Nat) (v : Value) (R : List Ln.W) : Prop := SlB w hi 70 4 v R.length fun k b o =>
  w.cell? ⟨b, o, none⟩ = some (.string (str (R.getD k Mo.word0).text)) ∧ w.cell? ⟨b, o + 1, none⟩ = some (.int .i64 (R.getD k Mo.word0).line) ∧ w.cell? ⟨b, o + 2, none⟩ = some (.int .i64 (R.getD k Mo.word0).col) ∧ w.cell? ⟨b, o + 3, none⟩ = some (.bool (R.getD k Mo.word0).q)
theorem SlW.keep {w w' : World} {hi : Nat} {Q : TypeId → Prop} {v : Value} {R : List Ln.W} (h : SlW w hi v R) (hk : KeepB w w' hi Q) (hq : Q 70) : SlW w' hi v R :=
  SlB.keep h hk hq fun _ _ o hb ht hc => ⟨(hk.cell hb ht hq o).trans hc.1, (hk.cell hb ht hq (o + 1)).trans hc.2.1, (hk.cell hb ht hq (o + 2)).trans hc.2.2.1, (hk.cell hb ht hq (o + 3)).trans hc.2.2.2⟩
theorem SlW.more {w : World} {hi hi' : Nat} {v : Value} {R : List Ln.W} (h : SlW w hi v R) (hh : hi ≤ hi') : SlW w hi' v R := SlB.more h hh fun _ _ _ h => h
theorem slW_nil (w : World) (hi : Nat) : SlW w hi (.slice none 0 0) [] := slB_nil _ _ _ _ _
theorem SlW.parts {w : World} {hi : Nat} {v : Value} {R : List Ln.W} (h : SlW w hi v R) : ∃ A c, v = .slice A R.length c ∧ R.length ≤ c := SlB.parts h
theorem SlW.rd {w : World} {hi : Nat} {v : Value} {R : List Ln.W} (h : SlW w hi v R) : RdW w v R := by
  obtain ⟨A, c, rfl, h1, h2, h3⟩ := h
  refine ⟨A, c, rfl, h1, h2, fun h0 => ?_⟩
  obtain ⟨b, off, rfl, _, _, hc⟩ := h3 h0
  refine ⟨b, off, rfl, fun k hk => ?_⟩
  have := hc k hk
  dsimp only at this
  rw [List.getD_eq_getElem?_getD, List.getElem?_eq_getElem hk] at this
  exact this
theorem OwnW.slB {w : World} {base hi : Nat} {v : Value} {R : List Ln.W} (h : OwnW w base v R) (hh : w.heap.size ≤ hi) : SlW w hi v R := by
  have hl := h.lt
  have hr := h.rd
  have h' := h
  rcases h.2 with ⟨rfl, h0⟩ | ⟨g, cap, cur, rfl, hb, hg, hn, hm, hs, ht⟩
  · have : R = [] := List.eq_nil_of_length_eq_zero h0
    subst this
    exact slW_nil _ _
  · refine ⟨_, cap, rfl, hn, Nat.le_trans hn hm, fun h0 => ⟨g, 0, rfl, ?_, ⟨cur, (0, 0), hg⟩, fun k hk => ?_⟩⟩
    · have := (hl g rfl).2
      omega
    · obtain ⟨A, c, e, _, _, hx⟩ := hr
      obtain ⟨b, off, e2, hc⟩ := hx h0
      injection e with e1 _ _
      rw [e2] at e1
      injection e1 with e1
      injection e1 with e1 e3
      subst e1 e3
      have := hc k hk
      rw [List.getD_eq_getElem?_getD, List.getElem?_eq_getElem hk]
      exact this
/-- The words behind the first. -/
theorem SlW.tail {w : World} {hi : Nat} {A A' : Option Addr} {n c d k : Nat} {R : List Ln.W} (h : SlW w hi (.slice A n c) R) (hk : k ≤ n) (hd : n - k ≤ d) (hA : k < n → ∀ b off, A = some ⟨b, off, none⟩ → A' = some ⟨b, off + k * 4, none⟩) : SlW w hi (.slice A' (n - k) d) (R.drop k) := by
  obtain ⟨B, c', e, h1, h2, h3⟩ := h
  injection e with e1 e2 e3
  subst e1 e2 e3
  refine ⟨A', d, by rw [List.length_drop], by rw [List.length_drop]; exact hd, by rw [List.length_drop]; clear h3; omega, fun h0 => ?_⟩
  rw [List.length_drop] at h0
  obtain ⟨b, off, rfl, hb, ht, hc⟩ := h3 (by clear h3; omega)
  refine ⟨b, off + k * 4, hA (by clear h3; omega) b off rfl, hb, ht, fun j hj => ?_⟩
  rw [List.length_drop] at hj
  have := hc (k + j) (by clear h3; omega)
  dsimp only at this ⊢
  rw [show off + (k + j) * 4 = off + k * 4 + j * 4 from by omega] at this
  rw [List.getD_eq_getElem?_getD, List.getElem?_drop, ← List.getD_eq_getElem?_getD]
  exact this
theorem SlW.head {w : World} {hi : Nat} {A : Option Addr} {n c k d : Nat} {R : List Ln.W} (h : SlW w hi (.slice A n c) R) (hk : k ≤ n) (hd : k ≤ d) : SlW w hi (.slice A k d) (R.take k) := by
  obtain ⟨B, c', e, h1, h2, h3⟩ := h
  injection e with e1 e2 e3
  subst e1 e2 e3
  have hl : (R.take k).length = k := by rw [List.length_take]; omega
  refine ⟨A, d, by rw [hl], by rw [hl]; exact hd, by rw [hl]; clear h3; omega, fun h0 => ?_⟩
  rw [hl] at h0
  obtain ⟨b, off, rfl, hb, ht, hc⟩ := h3 (by clear h3; omega)
  refine ⟨b, off, rfl, hb, ht, fun j hj => ?_⟩
  rw [hl] at hj
  have := hc j (by clear h3; omega)
  dsimp only at this ⊢
  rw [List.getD_eq_getElem?_getD, List.getElem?_take, if_pos hj, ← List.getD_eq_getElem?_getD]
  exact this
theorem SlW.at {w : World} {hi : Nat} {A : Option Addr} {n c : Nat} {R : List Ln.W} (h : SlW w hi (.slice A n c) R) (k : Nat) (hk : k < R.length) (x : Ln.W) (hx : R.getD k Mo.word0 = x) : ∃ b off, A = some ⟨b, off, none⟩ ∧ b < hi ∧ Ty w b 70 ∧ w.cell? ⟨b, off + k * 4, none⟩ = some (.string (str x.text)) ∧ w.cell? ⟨b, off + k * 4 + 1, none⟩ = some (.int .i64 x.line) ∧ w.cell? ⟨b, off + k * 4 + 2, none⟩ = some (.int .i64 x.col) ∧ w.cell? ⟨b, off + k * 4 + 3, none⟩ = some (.bool x.q) := by
  subst hx
  obtain ⟨A', c', e, _, _, hx⟩ := h
  injection e with e1 e2 e3
  subst e1
  obtain ⟨b, off, rfl, hb, ht, hc⟩ := hx (by omega)
  exact ⟨b, off, rfl, hb, ht, hc k hk⟩
/-- Texts. -/
def SlTB (w : World) (hi : Nat) (v : Value) (l : List (List Nat)) : Prop := SlB w hi 9 1 v l.length fun k b o => w.cell? ⟨b, o, none⟩ = some (.string (str (l.getD k [])))
theorem SlTB.keep {w w' : World} {hi : Nat} {Q : TypeId → Prop} {v : Value} {l : List (List Nat)} (h : SlTB w hi v l) (hk : KeepB w w' hi Q) (hq : Q 9) : SlTB w' hi v l :=
  SlB.keep h hk hq fun _ _ o hb ht hc => (hk.cell hb ht hq o).trans hc
theorem SlTB.more {w : World} {hi hi' : Nat} {v : Value} {l : List (List Nat)} (h : SlTB w hi v l) (hh : hi ≤ hi') : SlTB w hi' v l := SlB.more h hh fun _ _ _ h => h
theorem SlTB.sl {w : World} {hi : Nat} {v : Value} {l : List (List Nat)} (h : SlTB w hi v l) : SlT w v l := by
  obtain ⟨A, c, rfl, h1, h2, h3⟩ := h
  refine ⟨A, c, rfl, h1, h2, fun h0 => ?_⟩
  obtain ⟨b, off, rfl, _, ht, hc⟩ := h3 h0
  exact ⟨b, off, rfl, ht, hc⟩
theorem OwnT.slB {w : World} {base hi : Nat} {v : Value} {l : List (List Nat)} (h : OwnT w base v l) (hh : w.heap.size ≤ hi) : SlTB w hi v l := by
  have hl := h.lt
  have hs := h.sl
  obtain ⟨A, c, rfl, h1, h2, h3⟩ := hs
  refine ⟨A, c, rfl, h1, h2, fun h0 => ?_⟩
  obtain ⟨b, off, rfl, ht, hc⟩ := h3 h0
  have := (hl b rfl).2
  exact ⟨b, off, rfl, by omega, ht, hc⟩
/-- An action's things, and actions. -/
def SlDB (w : World) (hi : Nat) (v : Value) (l : List Ac.D) : Prop := SlB w hi 145 3 v l.length fun k b o => w.cell? ⟨b, o, none⟩ = some (.int .i64 ((l.getD k ⟨0, 0, []⟩).kind : Int)) ∧ w.cell? ⟨b, o + 1, none⟩ = some (.int .i64 ((l.getD k ⟨0, 0, []⟩).n : Int)) ∧ w.cell? ⟨b, o + 2, none⟩ = some (.string (str (l.getD k ⟨0, 0, []⟩).text))
theorem SlDB.keep {w w' : World} {hi : Nat} {Q : TypeId → Prop} {v : Value} {l : List Ac.D} (h : SlDB w hi v l) (hk : KeepB w w' hi Q) (hq : Q 145) : SlDB w' hi v l :=
  SlB.keep h hk hq fun _ _ o hb ht hc => ⟨(hk.cell hb ht hq o).trans hc.1, (hk.cell hb ht hq (o + 1)).trans hc.2.1, (hk.cell hb ht hq (o + 2)).trans hc.2.2⟩
theorem SlDB.more {w : World} {hi hi' : Nat} {v : Value} {l : List Ac.D} (h : SlDB w hi v l) (hh : hi ≤ hi') : SlDB w hi' v l := SlB.more h hh fun _ _ _ h => h
theorem SlDB.sl {w : World} {hi : Nat} {v : Value} {l : List Ac.D} (h : SlDB w hi v l) : SlD w v l := by
  obtain ⟨A, c, rfl, h1, h2, h3⟩ := h
  refine ⟨A, c, rfl, h1, h2, fun h0 => ?_⟩
  obtain ⟨b, off, rfl, _, ht, hc⟩ := h3 h0
  exact ⟨b, off, rfl, ht, hc⟩
theorem OwnD.slB {w : World} {base hi : Nat} {v : Value} {l : List Ac.D} (h : OwnD w base v l) (hh : w.heap.size ≤ hi) : SlDB w hi v l := by
  have hl := h.lt
  have hs := h.sl
  obtain ⟨A, c, rfl, h1, h2, h3⟩ := hs
  refine ⟨A, c, rfl, h1, h2, fun h0 => ?_⟩
  obtain ⟨b, off, rfl, ht, hc⟩ := h3 h0
  have := (hl b rfl).2
  exact ⟨b, off, rfl, by omega, ht, hc⟩
def SlAB (w : World) (hi : Nat) (v : Value) (l : List (List Ac.D)) : Prop := SlB w hi 140 1 v l.length fun k b o => ∃ u, w.cell? ⟨b, o, none⟩ = some u ∧ SlDB w hi u (l.getD k [])
theorem SlAB.keep {w w' : World} {hi : Nat} {Q : TypeId → Prop} {v : Value} {l : List (List Ac.D)} (h : SlAB w hi v l) (hk : KeepB w w' hi Q) (hq : Q 140) (hq2 : Q 145) : SlAB w' hi v l :=
  SlB.keep h hk hq fun _ _ o hb ht hc => by
    obtain ⟨u, hu, hd⟩ := hc
    exact ⟨u, (hk.cell hb ht hq o).trans hu, hd.keep hk hq2⟩
theorem SlAB.more {w : World} {hi hi' : Nat} {v : Value} {l : List (List Ac.D)} (h : SlAB w hi v l) (hh : hi ≤ hi') : SlAB w hi' v l := SlB.more h hh fun _ _ _ ⟨u, h1, h2⟩ => ⟨u, h1, h2.more hh⟩
theorem SlAB.sl {w : World} {hi : Nat} {v : Value} {l : List (List Ac.D)} (h : SlAB w hi v l) : SlA w v l := by
  obtain ⟨A, c, rfl, h1, h2, h3⟩ := h
  refine ⟨A, c, rfl, h1, h2, fun h0 => ?_⟩
  obtain ⟨b, off, rfl, _, ht, hc⟩ := h3 h0
  refine ⟨b, off, rfl, ht, fun k hk => ?_⟩
  obtain ⟨u, hu, hd⟩ := hc k hk
  exact ⟨u, hu, hd.sl⟩
/-- What four cells of a rule are. -/
structure Parts (w : World) (hi : Nat) (q : Value × Value × Value × Value) (r : Mn.Rule) : Prop where
  outs : SlTB w hi q.1 r.outs
  ins : SlTB w hi q.2.1 r.ins
  order : SlTB w hi q.2.2.1 r.order
  acts : SlAB w hi q.2.2.2 r.acts
/-- The types that a rule's parts are made of. -/
def PartTy (t : TypeId) : Prop := t = 9 ∨ t = 145 ∨ t = 140 ∨ t = 70
theorem Parts.keep {w w' : World} {hi : Nat} {q : Value × Value × Value × Value} {r : Mn.Rule} (h : Parts w hi q r) (hk : KeepB w w' hi PartTy) : Parts w' hi q r :=
  ⟨h.outs.keep hk (.inl rfl), h.ins.keep hk (.inl rfl), h.order.keep hk (.inl rfl), h.acts.keep hk (.inr (.inr (.inl rfl))) (.inr (.inl rfl))⟩
theorem Parts.more {w : World} {hi hi' : Nat} {q : Value × Value × Value × Value} {r : Mn.Rule} (h : Parts w hi q r) (hh : hi ≤ hi') : Parts w hi' q r :=
  ⟨h.outs.more hh, h.ins.more hh, h.order.more hh, h.acts.more hh⟩
def cellsR (q : Value × Value × Value × Value) (r : Mn.Rule) : List Value := [q.1, q.2.1, q.2.2.1, q.2.2.2, .bool r.phony]
theorem cellsR_len (q : Value × Value × Value × Value) (r : Mn.Rule) : (cellsR q r).length = 5 := rfl
def rowR (f : Nat → Value × Value × Value × Value) (l : List Mn.Rule) : Nat → List Value
  | 0 => []
  | n + 1 => rowR f l n ++ cellsR (f n) (l.getD n emptyRule)
theorem rowR_len (f : Nat → Value × Value × Value × Value) (l : List Mn.Rule) (n : Nat) : (rowR f l n).length = n * 5 := by
  induction n with
  | zero => rfl
  | succ n ih => rw [rowR, List.length_append, ih, cellsR_len]; omega
theorem rowR_at (f : Nat → Value × Value × Value × Value) (l : List Mn.Rule) : ∀ (n k j : Nat), k < n → j < 5 → (rowR f l n)[k * 5 + j]? = (cellsR (f k) (l.getD k emptyRule))[j]?
  | n + 1, k, j, h, hj => by
    have hl := rowR_len f l n
    by_cases hk : k < n
    · rw [rowR, List.getElem?_append_left (by omega)]
      exact rowR_at f l n k j hk hj
    · obtain rfl : k = n := by omega
      rw [rowR, List.getElem?_append_right (by omega), hl, show k * 5 + j - k * 5 = j from by omega]
theorem rowR_congr {f g : Nat → Value × Value × Value × Value} {l m : List Mn.Rule} : ∀ (n : Nat), (∀ k, k < n → f k = g k ∧ l.getD k emptyRule = m.getD k emptyRule) → rowR f l n = rowR g m n
  | 0, _ => rfl
  | n + 1, h => by rw [rowR, rowR, rowR_congr n (fun k hk => h k (by omega)), (h n (by omega)).1, (h n (by omega)).2]
/-- The reader's rules: a row of its own. -/
def RulesB (w : World) (base hi : Nat) (v : Value) (l : List Mn.Rule) : Prop := ∃ f : Nat → Value × Value × Value × Value,
  w.ownsRow base 40 5 v l.length (rowR f l l.length) ∧ (∀ k, v.ownBlock = some k → k < hi) ∧ ∀ k, k < l.length → Parts w hi (f k) (l.getD k emptyRule)
theorem rulesB_nil (w : World) (base hi : Nat) : RulesB w base hi (.slice none 0 0) [] := ⟨fun _ => (undef, undef, undef, undef), World.ownsRow_nil w base _ 5, fun k h => (by cases h), fun k hk => absurd hk (Nat.not_lt_zero k)⟩
theorem ownsRow_sames {w w' : World} {base n sz : Nat} {e : TypeId} {v : Value} {xs : List Value} (h : w.ownsRow base e sz v n xs) (hs : ∀ k, v.ownBlock = some k → w'.heap[k]? = w.heap[k]?) : w'.ownsRow base e sz v n xs := by
  refine ⟨h.1, ?_⟩
  rcases h.2 with h2 | ⟨g, cap, cur, rfl, hb, hg, rest⟩
  · exact .inl h2
  · exact .inr ⟨g, cap, cur, rfl, hb, (hs g rfl).trans hg, rest⟩
theorem RulesB.keep {w w' : World} {base hi : Nat} {v : Value} {l : List Mn.Rule} (h : RulesB w base hi v l) (hk : KeepB w w' hi PartTy) (hr : ∀ k, v.ownBlock = some k → w'.heap[k]? = w.heap[k]?) : RulesB w' base hi v l := by
  obtain ⟨f, h1, h2, h3⟩ := h
  exact ⟨f, ownsRow_sames h1 hr, h2, fun k hk' => (h3 k hk').keep hk⟩
theorem RulesB.more {w : World} {base hi hi' : Nat} {v : Value} {l : List Mn.Rule} (h : RulesB w base hi v l) (hh : hi ≤ hi') : RulesB w base hi' v l := by
  obtain ⟨f, h1, h2, h3⟩ := h
  exact ⟨f, h1, fun k hk => by have := h2 k hk; omega, fun k hk => (h3 k hk).more hh⟩
theorem RulesB.ty {w : World} {base hi : Nat} {v : Value} {l : List Mn.Rule} (h : RulesB w base hi v l) : ∀ k, v.ownBlock = some k → Ty w k 40 ∧ base ≤ k ∧ k < w.heap.size := by
  obtain ⟨f, h1, h2, _⟩ := h
  intro k hk
  refine ⟨?_, World.ownsRow.lt h1 k hk⟩
  rcases h1.2 with ⟨rfl, _⟩ | ⟨g, cap, cur, rfl, hb, hg, _⟩
  · cases hk
  · cases hk
    exact ⟨cur, (0, 0), hg⟩
end Go.Proofs.Ytemliglhippdcaa

/- Package mani's own reader: all of it, and how it is kept. -/
namespace Go.Proofs.Ytemliglhippdcaa
set_option maxRecDepth 100000
open Go.ChangeShapes Go.WideShapes Go.ChangeAt Go.RowKit

/-- A word whose text is bytes. -/
structure GoodW (x : Ln.W) : Prop where
  bytes : ∀ c ∈ x.text, c < 256
  len : x.text.length ≤ 1000000
structure GoodR (r : Mn.Rule) : Prop where
  outs : ∀ t ∈ r.outs, (∀ c ∈ t, c < 256) ∧ t.length ≤ 1000000
  ins : ∀ t ∈ r.ins, (∀ c ∈ t, c < 256) ∧ t.length ≤ 1000000
  order : ∀ t ∈ r.order, (∀ c ∈ t, c < 256) ∧ t.length ≤ 1000000
structure GoodS (s : Mo.S) : Prop where
  first : GoodW s.first
  rest : ∀ x ∈ s.rest, GoodW x
  chosen : ∀ x ∈ s.chosen, GoodW x
  lets : ∀ p ∈ s.lets, ∀ x ∈ p.2, GoodW x
  rules : ∀ r ∈ s.rules, GoodR r
def Fld (s : Mo.S) (lb mb : Nat) (cv rv sv : Value) : Array Value := #[.map (some lb), .map (some mb), cv, rv, .slice none 0 0, .string (str s.first.text), .int .i64 (s.first.line : Int), .int .i64 (s.first.col : Int), .bool s.first.q, sv, .int .i64 (s.e.k : Int), .int .i64 (s.e.line : Int), .int .i64 (s.e.col : Int)]
/-- What is let. -/
def LetsB (w : World) (hi b : Nat) (L : Mn.Lets) : Prop := ∃ f, MapIs w b L.length f ∧ ∀ t, (∀ c ∈ t, c < 256) → match Mn.find t L with
  | none => f t = none
  | some l => ∃ v, f t = some v ∧ SlW w hi v l
def MakersB (w : World) (b : Nat) (M : List (List Nat × Nat)) : Prop := MapIs w b M.length fun t => (Mo.has t M).map fun (i : Nat) => Value.int .i64 (i : Int)
theorem LetsB.keep {w w' : World} {hi b : Nat} {L : Mn.Lets} (h : LetsB w hi b L) (hk : KeepB w w' hi PartTy) (hb : w'.heap[b]? = w.heap[b]?) : LetsB w' hi b L := by
  obtain ⟨f, h1, h2⟩ := h
  refine ⟨f, h1.same hb, fun t ht => ?_⟩
  have := h2 t ht
  revert this
  cases Mn.find t L with
  | none => exact id
  | some l => exact fun ⟨v, hv, hs⟩ => ⟨v, hv, hs.keep hk (.inr (.inr (.inr rfl)))⟩
theorem LetsB.more {w : World} {hi hi' b : Nat} {L : Mn.Lets} (h : LetsB w hi b L) (hh : hi ≤ hi') : LetsB w hi' b L := by
  obtain ⟨f, h1, h2⟩ := h
  refine ⟨f, h1, fun t ht => ?_⟩
  have := h2 t ht
  revert this
  cases Mn.find t L with
  | none => exact id
  | some l => exact fun ⟨v, hv, hs⟩ => ⟨v, hv, hs.more hh⟩
theorem KeepB.same {w w' : World} {hi : Nat} {Q : TypeId → Prop} (h : ∀ k, k < hi → w'.heap[k]? = w.heap[k]?) : KeepB w w' hi Q := fun b _ hb _ _ => h b hb
end Go.Proofs.Ytemliglhippdcaa

/- Package mani's own reader: its leaves: what is wrong, whether a sign comes next, taking it. -/
namespace Go.Proofs.Ytemliglhippdcaa
set_option maxRecDepth 100000
open Go.ChangeShapes Go.WideShapes Go.ChangeAt Go.RowKit

theorem mgrown_on {w w' w'' : World} {row : Option Nat} (h : w.grownBy w' row) (k : w'.grownBy w'' row) : w.grownBy w'' row := ⟨k.os.trans h.os, k.tape.trans h.tape, k.output.trans h.output, Nat.le_trans h.size k.size, fun j hj hr => (k.block j (Nat.lt_of_lt_of_le hj h.size) hr).trans (h.block j hj hr)⟩
theorem mgrown_same (w : World) (row : Option Nat) : w.grownBy w row := ⟨rfl, rfl, rfl, Nat.le_refl _, fun _ _ _ => rfl⟩
theorem GoodS.fail {s : Mo.S} (h : GoodS s) (k : Nat) (x : Ln.W) : GoodS (Mo.fail k x s) := by
  unfold Mo.fail
  split
  · exact ⟨h.first, h.rest, h.chosen, h.lets, h.rules⟩
  · exact h
theorem GoodS.cut {s : Mo.S} (h : GoodS s) (n : Nat) : GoodS { s with rest := s.rest.drop n } := ⟨h.first, fun x hx => h.rest x (List.mem_of_mem_drop hx), h.chosen, h.lets, h.rules⟩
/-- The four cells of a word at a place. -/
structure WordAt (w : World) (b o : Nat) (x : Ln.W) : Prop where
  text : w.cell? ⟨b, o, none⟩ = some (.string (str x.text))
  line : w.cell? ⟨b, o + 1, none⟩ = some (.int .i64 (x.line : Int))
  col : w.cell? ⟨b, o + 2, none⟩ = some (.int .i64 (x.col : Int))
  q : w.cell? ⟨b, o + 3, none⟩ = some (.bool x.q)
theorem WordAt.under {w w' : World} {b o : Nat} {x : Ln.W} (h : WordAt w b o x) (hb : Below w.heap.size w w') : WordAt w' b o x := ⟨cell_later hb h.text, cell_later hb h.line, cell_later hb h.col, cell_later hb h.q⟩
theorem WordAt.same {w w' : World} {b o : Nat} {x : Ln.W} (h : WordAt w b o x) (hb : w'.heap[b]? = w.heap[b]?) : WordAt w' b o x :=
  ⟨(World.cell?_of_block hb).trans h.text, (World.cell?_of_block hb).trans h.line, (World.cell?_of_block hb).trans h.col, (World.cell?_of_block hb).trans h.q⟩
theorem SlW.first {w : World} {hi n c : Nat} {A : Option Addr} {x : Ln.W} {r : List Ln.W} (h : SlW w hi (.slice A n c) (x :: r)) : ∃ b off, A = some ⟨b, off, none⟩ ∧ b < hi ∧ Ty w b 70 ∧ WordAt w b off x := by
  obtain ⟨b, off, rfl, h1, h2, e0, e1, e2, e3⟩ := h.at 0 (by simp) x rfl
  exact ⟨b, off, rfl, h1, h2, by simpa using e0, by simpa using e1, by simpa using e2, by simpa using e3⟩
theorem wrong_nil {s : Mo.S} (h : s.rest = []) : Mo.wrong s = Mo.fail 4 s.first s := by unfold Mo.wrong; rw [h]; rfl
theorem wrong_cons {s : Mo.S} {x : Ln.W} {r : List Ln.W} (h : s.rest = x :: r) : Mo.wrong s = Mo.fail 4 x s := by unfold Mo.wrong; rw [h]; rfl
theorem at_nil {s : Mo.S} (h : s.rest = []) (sg : Nat) : Mo.at_ sg s = false := by unfold Mo.at_; rw [h]
theorem at_cons {s : Mo.S} {x : Ln.W} {r : List Ln.W} (h : s.rest = x :: r) (sg : Nat) : Mo.at_ sg s = Mn.isW [sg] x := by unfold Mo.at_; rw [h]
theorem take_no {s : Mo.S} {sg : Nat} (h : Mo.at_ sg s = false) : Mo.take sg s = Mo.wrong s := by unfold Mo.take; rw [if_neg (by rw [h]; decide)]
theorem take_yes {s : Mo.S} {sg : Nat} (h : Mo.at_ sg s = true) : Mo.take sg s = { s with rest := s.rest.drop 1 } := by unfold Mo.take; rw [if_pos h]; simp
theorem ends_nil {s : Mo.S} (h : s.rest = []) : Mo.ends s = s := by unfold Mo.ends; rw [if_pos h]
theorem ends_cons {s : Mo.S} {x : Ln.W} {r : List Ln.W} (h : s.rest = x :: r) : Mo.ends s = Mo.wrong s := by unfold Mo.ends; rw [if_neg (by rw [h]; simp)]
end Go.Proofs.Ytemliglhippdcaa

/- Lines and words, how great they are: plain facts for package mani. -/
namespace Go.Proofs.Ytemliglhippdcaa
set_option maxRecDepth 100000
open Go.ChangeShapes Go.WideShapes Go.ChangeAt Go.RowKit

theorem lsp_bad_pos : ∀ (n : Nat) (l : List Nat) (ln col : Nat) (row : List Ln.W) (k a b : Nat), l.length ≤ n → Ln.sp l ln col row = .bad k a b → 1 ≤ k ∧ a ≤ ln + l.length := by
  intro n
  induction n with
  | zero =>
    intro l ln col row k a b h hb
    obtain rfl := List.length_eq_zero_iff.1 (Nat.le_zero.1 h)
    rw [Ln.sp_nil] at hb
    cases hb
  | succ n ih =>
    intro l ln col row k a b h hb
    cases l with
    | nil =>
      rw [Ln.sp_nil] at hb
      cases hb
    | cons c r =>
      rw [List.length_cons] at h ⊢
      by_cases hc : c = 10
      · subst hc
        rw [Ln.sp_nl] at hb
        rcases hs : Ln.sp r (ln + 1) 1 [] with LL | ⟨k', a', b'⟩
        · rw [hs] at hb; cases hb
        · rw [hs] at hb
          injection hb with h1 h2 h3
          subst h1 h2 h3
          have := ih r (ln + 1) 1 [] _ _ _ (by omega) hs
          omega
      · rcases ht : Ln.tok c r with m | ⟨t, m, q⟩ | ⟨kd, o⟩
        · obtain ⟨h1, h2⟩ := Ln.tok_skip_le ht
          rw [Ln.sp_skip hc ht] at hb
          have := ih _ _ _ _ _ _ _ (by rw [List.length_drop, List.length_cons]; omega) hb
          rw [List.length_drop, List.length_cons] at this
          omega
        · obtain ⟨h1, h2⟩ := Ln.tok_word_le ht
          rw [Ln.sp_word hc ht] at hb
          have := ih _ _ _ _ _ _ _ (by rw [List.length_drop, List.length_cons]; omega) hb
          rw [List.length_drop, List.length_cons] at this
          omega
        · rw [Ln.sp_bad hc ht] at hb
          injection hb with h1 h2 h3
          have := Ln.tok_bad ht
          omega
theorem lbad_pos {l : List Nat} {k a b : Nat} (h : Ln.split l = .bad k a b) : 1 ≤ k := (lsp_bad_pos l.length l 1 1 [] k a b (Nat.le_refl _) h).1
theorem own_mem {t : List Nat} {q : Bool} {c : Nat} (h : c ∈ t) : c ∈ Ln.own t q := by
  unfold Ln.own
  split
  · simp [h]
  · exact h
theorem own_len (t : List Nat) (q : Bool) : t.length ≤ (Ln.own t q).length := by
  rw [Ln.own_len]
  omega
theorem pl_good {b : List Nat} (hb : ∀ c ∈ b, c < 256) (hn : b.length ≤ 1000000) : ∀ {xs : List Ln.W} {lo hi : Nat}, Ln.Pl b lo xs hi → (∀ x ∈ xs, GoodW x) ∧ lo + xs.length ≤ hi
  | [], _, _, h => ⟨by simp, h⟩
  | y :: xs, _, _, ⟨fr, _, _, h3, h4, h5, h6, h⟩ => by
    obtain ⟨h7, h8⟩ := pl_good hb hn h
    refine ⟨fun x hx => ?_, by rw [List.length_cons]; omega⟩
    rcases List.mem_cons.1 hx with rfl | hx
    · refine ⟨fun c hc => ?_, by have := own_len x.text x.q; omega⟩
      have := own_mem (q := x.q) hc
      rw [← h6] at this
      exact hb c (List.mem_of_mem_drop (List.mem_of_mem_take this))
    · exact h7 x hx
theorem flat_len : ∀ {LL : List (List Ln.W)}, (∀ R ∈ LL, Ln.Row R) → LL.length ≤ LL.flatten.length ∧ ∀ R ∈ LL, R.length ≤ LL.flatten.length
  | [], _ => ⟨Nat.zero_le _, by simp⟩
  | R :: LL, h => by
    obtain ⟨h1, h3⟩ := flat_len (LL := LL) fun R hR => h R (by simp [hR])
    have h2 : 0 < R.length := by
      have := (h R (by simp)).1
      cases R with
      | nil => exact absurd rfl this
      | cons => simp
    rw [List.length_cons, List.flatten_cons, List.length_append]
    refine ⟨by omega, fun S hS => ?_⟩
    rcases List.mem_cons.1 hS with rfl | hS
    · omega
    · have := h3 S hS
      omega
/-- The lines of a text that is not too long. -/
theorem lwords {b : List Nat} (hb : ∀ c ∈ b, c < 256) (hn : b.length ≤ 1000000) {LL : List (List Ln.W)} (h : Ln.split b = .ok LL) : LL.length ≤ 1000000 ∧ ∀ L ∈ LL, (∀ x ∈ L, GoodW x) ∧ 0 < L.length ∧ L.length ≤ 1000000 := by
  obtain ⟨⟨hi, hp, hh⟩, hr⟩ := Ln.places_is h
  obtain ⟨h1, h2⟩ := pl_good hb hn hp
  obtain ⟨h3, h4⟩ := flat_len hr
  refine ⟨by omega, fun L hL => ⟨fun x hx => h1 x (List.mem_flatten.2 ⟨L, hL, hx⟩), ?_, by have := h4 L hL; omega⟩⟩
  have := (hr L hL).1
  cases L with
  | nil => exact absurd rfl this
  | cons => simp
end Go.Proofs.Ytemliglhippdcaa
