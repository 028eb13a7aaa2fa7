/- The texts of words that are gone through one by one. -/
import Derived.Test.YtemliglhippdcaaZ24
import Derived.Test.YtemliglhippdcaaZ15
import Derived.Maps.OwnIn
import Derived.Test.YtemliglhippdcaaZ03
import Derived.Test.YtemliglhippdcaaZ04
namespace Go.Proofs.Ytemliglhippdcaa
set_option maxRecDepth 100000
open Go.ChangeShapes Go.WideShapes Go.ChangeAt Go.RowKit Go.Shelf

attribute [local go_sem] Oper.semAt_some

theorem wpListIn_append_text {F : Fence} {n : Nat} {w : World} {ops : Array Oper} {rest : List Oper} {o : Oper} {a : Act} {Q : Exit → Act → World → Prop} (hgd : o.guard = none) (s x : Operand)
    (ho : o.op = .call { callee := .builtin .append, args := #[s, x], argTypes := #[24, 24] }) (base B : Nat) (v : Value) (L : List (List Nat)) (l : List Nat) (hs : a.eval s = v) (hown : OwnT w base v L)
    (hx : a.eval x = .slice (some ⟨B, 0, none⟩) 1 1) (hB : w.cell? ⟨B, 0, none⟩ = some (.string (str l))) (hlen : L.length ≤ 1099511627776) (hbase : base ≤ w.heap.size) (r : List (List Nat)) (hr : L ++ [l] = r)
    (h : ∀ v' w', OwnT w' base v' r → w.grownBy w' v.ownBlock → Below base w w' → wpListIn F n Try.prog ops Q rest (a.put o.dst v') w') : wpListIn F n Try.prog ops Q (o :: rest) a w := by
  subst hr
  obtain ⟨i, hi, hz0, hz1, hz2⟩ := info_parts infoText
  refine wpListIn_append_own_at (w := w) hgd s x 24 ho base 9 i (.string ⟨#[]⟩) 1 16 Try.underlying24 hi hz0 hz1 hz2 rfl (by decide) v L.length (rowT L) hs hown ⟨B, 0, none⟩ 1 1 [.string (str l)] hx rfl ?_ ?_ (by unfold maxLen; omega) (by omega) hbase ?_
  · intro j u hu
    have hj : j = 0 := by
      rcases j with _ | j
      · rfl
      · simp at hu
    subst hj
    simp at hu
    subst hu
    rw [add_plain]
    exact hB
  · intro u hu
    simp at hu
    subst hu
    rfl
  · intro v' w' h1 h2 _ _
    refine h v' w' ?_ h2 ((Below.refl _ _).grown h2 hbase fun k hk => (World.ownsRow.lt hown k hk).1)
    unfold OwnT
    rw [List.length_append, show rowT (L ++ [l]) = rowT L ++ [.string (str l)] from List.map_append]
    exact h1
/-- The texts of the first k of a row. -/
def txts (xs : Nat → Ln.W) (k : Nat) : List (List Nat) := (List.range k).map fun i => (xs i).text
theorem txts_succ (xs : Nat → Ln.W) (k : Nat) : txts xs k ++ [(xs k).text] = txts xs (k + 1) := by unfold txts; rw [List.range_succ, List.map_append]; rfl
theorem txts_length (xs : Nat → Ln.W) (k : Nat) : (txts xs k).length = k := by unfold txts; simp
/-- What a consumer carries through the rounds stands whatever is turned from a place on. -/
def Stays (B : Nat) (D : Nat → World → Prop) : Prop := ∀ k A A', D k A → Below B A A' → D k A'
/-- What an iterator does leaves the blocks from a place on. -/
def Spares (B : Nat) (A A' : World) : Prop := A.heap.size ≤ A'.heap.size ∧ ∀ j, B ≤ j → j < A.heap.size → A'.heap[j]? = A.heap[j]?
theorem Spares.from {B : Nat} {A A' : World} (h : Spares B A A') : KeepsFrom B A A' := ⟨h.1, fun k _ hk ho _ => (h.2 k hk (Array.getElem?_eq_some_iff.1 ho).1).trans ho⟩
theorem Blk.spares {B g : Nat} {A A' : World} {t : TypeId} {cs : Array Value} (h : Blk A g t cs) (hs : Spares B A A') (hg : B ≤ g) : Blk A' g t cs := (hs.2 g hg h.size).trans h
theorem OwnT.spares {B base : Nat} {A A' : World} {v : Value} {L : List (List Nat)} (h : OwnT A base v L) (hs : Spares B A A') (hb : B ≤ base) : OwnT A' base v L := by
  have hl := h.lt
  refine ⟨h.1, ?_⟩
  rcases h.2 with h2 | ⟨g, cap, cur, rfl, hbg, hg, rest⟩
  · exact .inl h2
  · exact .inr ⟨g, cap, cur, rfl, hbg, (hs.2 g (by omega) (hl g rfl).2).trans hg, rest⟩
theorem keepsFrom_more {B B' : Nat} {A A' : World} (h : KeepsFrom B A A') (hB : B ≤ B') : KeepsFrom B' A A' := ⟨h.size, fun k o hk ho hc => h.same k o (by omega) ho hc⟩
theorem OwnT.more {w : World} {base base' : Nat} {v : Value} {L : List (List Nat)} (h : OwnT w base v L) (hb : base' ≤ base) : OwnT w base' v L := by
  refine ⟨h.1, ?_⟩
  rcases h.2 with h2 | ⟨g, cap, cur, e, hg, rest⟩
  · exact .inl h2
  · exact .inr ⟨g, cap, cur, e, Nat.le_trans hb hg, rest⟩
theorem OwnT.kept {w w' : World} {base : Nat} {v : Value} {L : List (List Nat)} {row : Option Nat} (h : OwnT w base v L) (hg : w.grownBy w' row) (hr : ∀ r, row = some r → ∃ o : Obj, w.heap[r]? = some o ∧ o.isCells = false) : OwnT w' base v L := by
  refine World.ownsRow.kept h hg ?_
  rcases hv : v.ownBlock with _ | g
  · exact .inl rfl
  · refine .inr fun e => ?_
    obtain ⟨o, ho, hc⟩ := hr g e.symm
    rw [own_cells h g o hv ho] at hc
    cases hc
end Go.Proofs.Ytemliglhippdcaa

/- Package mani's own reader: Ins, and an Order. -/
namespace Go.Proofs.Ytemliglhippdcaa
set_option maxRecDepth 100000
open Go.ChangeShapes Go.WideShapes Go.ChangeAt Go.RowKit Go.Shelf

theorem Mo.run_le (stp : Ln.W → Mo.S → Mo.S) (most : Nat) (may : List Nat → Bool) : ∀ (l : List Ln.W) (n : Nat) (s : Mo.S), n ≤ most → (Mo.run stp most may l n s).1 ≤ most
  | [], n, s, h => h
  | w :: r, n, s, h => by
    unfold Mo.run
    split
    · exact h
    · split
      · exact h
      · split
        · exact h
        · exact Mo.run_le stp most may r (n + 1) _ (by omega)
theorem Mo.run_len (stp : Ln.W → Mo.S → Mo.S) (most : Nat) (may : List Nat → Bool) : ∀ (l : List Ln.W) (n : Nat) (s : Mo.S), (Mo.run stp most may l n s).1 ≤ n + l.length
  | [], n, s => Nat.le_refl _
  | w :: r, n, s => by
    unfold Mo.run
    split
    · simp
    · split
      · simp
      · split
        · simp
        · have := Mo.run_len stp most may r (n + 1) (stp w { s with rest := r })
          simp
          omega
theorem txts_take {ws : List Ln.W} {N : Nat} (h : N ≤ ws.length) : txts (fun k => ws.getD k Mo.word0) N = Mo.texts (ws.take N) := by
  unfold txts Mo.texts
  apply List.ext_getElem
  · simp; omega
  · intro i h1 h2
    simp at h1 h2 ⊢
    rw [List.getElem?_eq_getElem (by omega)]
    rfl
theorem still_step : Mo.Step Mo.still := fun _ _ => rfl
theorem grownBy_below {w A B : World} {g lo : Nat} (h : w.grownBy A (some g)) (hb : Below lo A B) (hlo : w.heap.size ≤ lo) : w.grownBy B (some g) :=
  ⟨hb.os.trans h.os, hb.tape.trans h.tape, hb.output.trans h.output, Nat.le_trans h.size hb.size, fun k hk hne => (hb.block k (by omega)).trans (h.block k hk hne)⟩
end Go.Proofs.Ytemliglhippdcaa

/- The words that are gone through one by one. -/
namespace Go.Proofs.Ytemliglhippdcaa
set_option maxRecDepth 100000
open Go.ChangeShapes Go.WideShapes Go.ChangeAt Go.RowKit Go.Shelf

attribute [local go_sem] Oper.semAt_some

theorem wpListIn_append_wrd {F : Fence} {n : Nat} {w : World} {ops : Array Oper} {rest : List Oper} {o : Oper} {a : Act} {Q : Exit → Act → World → Prop} (hgd : o.guard = none) (s x : Operand)
    (ho : o.op = .call { callee := .builtin .append, args := #[s, x], argTypes := #[64, 64] }) (base B : Nat) (v : Value) (L : List Ln.W) (z : Ln.W) (hs : a.eval s = v) (hown : OwnW w base v L)
    (hx : a.eval x = .slice (some ⟨B, 0, none⟩) 1 1) (hB : Blk w B 70 (cellsW z).toArray) (hlen : L.length ≤ 1099511627776) (hbase : base ≤ w.heap.size) (r : List Ln.W) (hr : L ++ [z] = r)
    (h : ∀ v' w', OwnW w' base v' r → w.grownBy w' v.ownBlock → Below base w w' → wpListIn F n Try.prog ops Q rest (a.put o.dst v') w') : wpListIn F n Try.prog ops Q (o :: rest) a w := by
  subst hr
  obtain ⟨i, hi, hz0, hz1, hz2⟩ := info_parts infoWord
  refine wpListIn_append_own_at (w := w) hgd s x 64 ho base 70 i (.agg #[.string ⟨#[]⟩, .int .i64 0, .int .i64 0, .bool false]) 4 40 Try.underlying64 hi hz0 hz1 hz2 (by kernel_rfl) (by decide) v L.length (rowW L) hs hown ⟨B, 0, none⟩ 1 1 (cellsW z) hx rfl ?_ (cellsW_one z) (by unfold maxLen; omega) (by omega) hbase ?_
  · intro j u hu
    rw [add_plain, Nat.zero_add, hB.at j, List.getElem?_toArray]
    exact hu
  · intro v' w' h1 h2 _ _
    refine h v' w' ?_ h2 ((Below.refl _ _).grown h2 hbase fun k hk => (World.ownsRow.lt hown k hk).1)
    unfold OwnW
    rw [List.length_append, rowW_snoc]
    exact h1
/-- The first k of a row of words. -/
def wds (xs : Nat → Ln.W) (k : Nat) : List Ln.W := (List.range k).map xs
theorem wds_succ (xs : Nat → Ln.W) (k : Nat) : wds xs k ++ [xs k] = wds xs (k + 1) := by unfold wds; rw [List.range_succ, List.map_append]; rfl
theorem wds_length (xs : Nat → Ln.W) (k : Nat) : (wds xs k).length = k := by unfold wds; simp
theorem wds_take {ws : List Ln.W} {N : Nat} (h : N ≤ ws.length) : wds (fun k => ws.getD k Mo.word0) N = ws.take N := by
  unfold wds
  apply List.ext_getElem
  · simp; omega
  · intro i h1 h2
    simp at h1 h2 ⊢
    rw [List.getElem?_eq_getElem (by omega)]
    rfl
theorem OwnW.spares {B base : Nat} {A A' : World} {v : Value} {L : List Ln.W} (h : OwnW A base v L) (hs : Spares B A A') (hb : B ≤ base) : OwnW A' base v L := by
  have hl := h.lt
  refine ⟨h.1, ?_⟩
  rcases h.2 with h2 | ⟨g, cap, cur, rfl, hbg, hg, rest⟩
  · exact .inl h2
  · exact .inr ⟨g, cap, cur, rfl, hbg, (hs.2 g (by omega) (hl g rfl).2).trans hg, rest⟩
theorem OwnW.kept {w w' : World} {base : Nat} {v : Value} {L : List Ln.W} {row : Option Nat} (h : OwnW w base v L) (hg : w.grownBy w' row) (hr : ∀ r, row = some r → ∃ o : Obj, w.heap[r]? = some o ∧ o.isCells = false) : OwnW w' base v L := by
  refine World.ownsRow.kept h hg ?_
  rcases hv : v.ownBlock with _ | g
  · exact .inl rfl
  · refine .inr fun e => ?_
    obtain ⟨o, ho, hc⟩ := hr g e.symm
    rw [own_cells h g o hv ho] at hc
    cases hc
end Go.Proofs.Ytemliglhippdcaa

/- Package mani's own reader: the names of Default. -/
namespace Go.Proofs.Ytemliglhippdcaa
set_option maxRecDepth 100000
open Go.ChangeShapes Go.WideShapes Go.ChangeAt Go.RowKit Go.Shelf

theorem choose_is {s s1 s2 : Mo.S} {N : Nat} (h1 : s1 = if s.chosen = [] then s else Mo.fail 7 s.first s) (hN : (Mo.run Mo.still 8 Nm.ok s1.rest 0 s1).1 = N) (h2 : s2 = { (Mo.run Mo.still 8 Nm.ok s1.rest 0 s1).2 with chosen := s1.rest.take N }) :
    Mo.choose s = Mo.ends (if N = 0 then Mo.wrong s2 else s2) := by
  subst h2 hN
  unfold Mo.choose
  rw [← h1]
end Go.Proofs.Ytemliglhippdcaa

/- Package mani's own reader: what a name stands for from here on. -/
namespace Go.Proofs.Ytemliglhippdcaa
set_option maxRecDepth 100000
open Go.ChangeShapes Go.WideShapes Go.ChangeAt Go.RowKit Go.Shelf

attribute [local go_sem] Oper.semAt_some

/-- The name so far. -/
def keyAt (ws : List Ln.W) : Nat → List Nat
  | 0 => []
  | k + 1 => (ws.getD k Mo.word0).text
theorem lett_is {s s2 s3 : Mo.S} {N : Nat} (hN : (Mo.run Mo.still 1 Nm.ok s.rest 0 s).1 = N) (hN1 : N ≤ 1) (h2 : s2 = if N = 0 then Mo.wrong (Mo.run Mo.still 1 Nm.ok s.rest 0 s).2 else (Mo.run Mo.still 1 Nm.ok s.rest 0 s).2) (h3 : s3 = Mo.take 61 s2) :
    Mo.lett s = { (if 16 < s3.rest.length then Mo.fail 7 (s3.rest.getD 16 Mo.word0) s3 else s3) with lets := (if 16 < s3.rest.length then Mo.fail 7 (s3.rest.getD 16 Mo.word0) s3 else s3).lets ++ [(keyAt s.rest N, (if 16 < s3.rest.length then Mo.fail 7 (s3.rest.getD 16 Mo.word0) s3 else s3).rest)] } := by
  subst hN h3 h2
  unfold Mo.lett
  have hk : keyAt s.rest (Mo.run Mo.still 1 Nm.ok s.rest 0 s).1 = if (Mo.run Mo.still 1 Nm.ok s.rest 0 s).1 = 0 then [] else (s.rest.headD Mo.word0).text := by
    rcases Nat.eq_zero_or_pos (Mo.run Mo.still 1 Nm.ok s.rest 0 s).1 with h | h
    · rw [if_pos h, h]
      rfl
    · have h1 : (Mo.run Mo.still 1 Nm.ok s.rest 0 s).1 = 1 := by omega
      rw [if_neg (by omega), h1]
      unfold keyAt
      cases s.rest <;> rfl
  rw [hk]
theorem run_first {stp : Ln.W → Mo.S → Mo.S} {most : Nat} {may : List Nat → Bool} {s : Mo.S} (h : 0 < (Mo.run stp most may s.rest 0 s).1) : may (s.rest.getD 0 Mo.word0).text = true := by
  rcases hr : s.rest with _ | ⟨x, r⟩
  · rw [hr] at h
    exact absurd h (by unfold Mo.run; simp)
  · rw [hr] at h
    unfold Mo.run at h
    split at h
    · exact absurd h (by simp)
    · split at h
      · exact absurd h (by simp)
      · rename_i h2
        simp at h2
        exact h2.2
theorem ok_nil : Nm.ok [] = false := by decide
theorem grown_new {w A : World} {g : Nat} (h : w.grownBy A (some g)) {p : Addr} (hp : w.heap.size ≤ p.block) (u : Value) : w.grownBy (A.setCell p u) (some g) :=
  ⟨h.os, h.tape, h.output, by simpa using h.size, fun k hk hne => (Below.heap_setCell A p u k (by intro e; omega)).trans (h.block k hk hne)⟩
theorem find_snoc (t k : List Nat) (l : List Ln.W) : ∀ (L : Mn.Lets), Mn.find t (L ++ [(k, l)]) = if k = t then some l else Mn.find t L
  | [] => by
    rw [List.nil_append]
    unfold Mn.find Mn.find
    rfl
  | (u, m) :: r => by
    rw [List.cons_append]
    conv => lhs; unfold Mn.find
    rw [find_snoc t k l r]
    by_cases h : k = t
    · rw [if_pos h, if_pos h]
    · rw [if_neg h, if_neg h]
      conv => rhs; unfold Mn.find
theorem fail_lets (k : Nat) (x : Ln.W) (s : Mo.S) : (Mo.fail k x s).lets = s.lets := by unfold Mo.fail; split <;> rfl
theorem wrong_lets (s : Mo.S) : (Mo.wrong s).lets = s.lets := fail_lets _ _ _
theorem take_lets (sg : Nat) (s : Mo.S) : (Mo.take sg s).lets = s.lets := by
  unfold Mo.take
  split
  · rfl
  · exact wrong_lets s
theorem run_still_lets (most : Nat) (may : List Nat → Bool) : ∀ (l : List Ln.W) (n : Nat) (s : Mo.S), (Mo.run Mo.still most may l n s).2.lets = s.lets
  | [], n, s => rfl
  | w :: r, n, s => by
    unfold Mo.run
    split
    · rfl
    · split
      · exact fail_lets _ _ _
      · split
        · exact fail_lets _ _ _
        · exact run_still_lets most may r (n + 1) _
end Go.Proofs.Ytemliglhippdcaa

/- The words of a row, one by one: what is made of a row. -/
namespace Go.Proofs.Ytemliglhippdcaa
set_option maxRecDepth 100000
open Go.ChangeShapes Go.WideShapes Go.ChangeAt Go.RowKit Go.Shelf

end Go.Proofs.Ytemliglhippdcaa

/- The words of a row, one by one: what the function that goes through them owes. -/
namespace Go.Proofs.Ytemliglhippdcaa
set_option maxRecDepth 100000
open Go.ChangeShapes Go.WideShapes Go.ChangeAt Go.RowKit Go.Shelf

attribute [local go_sem] Oper.semAt_some

/-- A row of words, and the variable that holds it. -/
def ValsAt (W : World) (z hi : Nat) (v : Value) (R : List Ln.W) : Prop := Blk W z 64 #[v] ∧ SlW W hi v R
end Go.Proofs.Ytemliglhippdcaa
