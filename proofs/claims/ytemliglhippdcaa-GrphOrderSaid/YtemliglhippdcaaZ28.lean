/- Package mani's own reader: a rule's line, with actions, or without. -/
import Derived.Test.YtemliglhippdcaaZ27
import Derived.Deep.RegionLaw
import Derived.Test.YtemliglhippdcaaZ25
namespace Go.Proofs.Ytemliglhippdcaa
set_option maxRecDepth 100000
open Go.ChangeShapes Go.WideShapes Go.ChangeAt Go.RowKit Go.Shelf

theorem SlTB.under {w w' : World} {hi : Nat} {v : Value} {l : List (List Nat)} (h : SlTB w hi v l) (hb : Below w.heap.size w w') : SlTB w' hi v l := h.keep (Q := PartTy) (KeepB.below hb) (.inl rfl)
theorem SlTB.setRule {w : World} {hi b : Nat} {v : Value} {l : List (List Nat)} (h : SlTB w hi v l) (ht : Ty w b 40) (i : Nat) (u : Value) : SlTB (w.setCell ⟨b, i, none⟩ u) hi v l := h.keep (KeepB.grown (grown_setCell w ⟨b, i, none⟩ u) ht notPart_rule) (.inl rfl)
theorem slTB_nil (w : World) (hi : Nat) : SlTB w hi (.slice none 0 0) [] := slB_nil _ _ _ _ _
theorem slAB_nil (w : World) (hi : Nat) : SlAB w hi (.slice none 0 0) [] := slB_nil _ _ _ _ _
theorem OwnT.shape {w : World} {base : Nat} {v : Value} {l : List (List Nat)} (h : OwnT w base v l) : ∃ A c, v = .slice A l.length c := by
  rcases h.2 with ⟨rfl, h0⟩ | ⟨gg, cap, cur, rfl, _⟩
  · exact ⟨none, 0, by rw [h0]⟩
  · exact ⟨_, _, rfl⟩
/-- What lies of a rule that is being read: its box; below its own place the world is another one's. -/
def RBox (W : World) (b : Nat) (u1 u2 u3 u4 : Value) (q : Bool) : Prop := Blk W b 40 #[u1, u2, u3, u4, .bool q]
theorem RBox.left {w w' : World} {b g : Nat} {u1 u2 u3 u4 : Value} {q : Bool} (h : RBox w b u1 u2 u3 u4 q) (hg : w.grownBy w' (some g)) (hne : b ≠ g) : RBox w' b u1 u2 u3 u4 q := Blk.grown h hg (by intro e; injection e with e; exact hne e)
theorem wrong_rules (s : Mo.S) : (Mo.wrong s).rules = s.rules := fail_rules _ _ _
theorem take_rules (sg : Nat) (s : Mo.S) : (Mo.take sg s).rules = s.rules := by
  unfold Mo.take
  split
  · rfl
  · exact wrong_rules s
theorem ends_rules (s : Mo.S) : (Mo.ends s).rules = s.rules := by
  unfold Mo.ends
  split
  · rfl
  · exact wrong_rules s
theorem run_still_rules (most : Nat) (may : List Nat → Bool) : ∀ (l : List Ln.W) (n : Nat) (s : Mo.S), (Mo.run Mo.still most may l n s).2.rules = s.rules
  | [], n, s => rfl
  | w :: r, n, s => by
    unfold Mo.run
    split
    · rfl
    · split
      · exact fail_rules _ _ _
      · split
        · exact fail_rules _ _ _
        · exact run_still_rules most may r (n + 1) _
theorem ins_rules (s : Mo.S) : (Mo.ins s).2.rules = s.rules := run_still_rules _ _ _ _ _
theorem run_note_rules (most : Nat) (may : List Nat → Bool) : ∀ (l : List Ln.W) (n : Nat) (s : Mo.S), (Mo.run Mo.note most may l n s).2.rules = s.rules
  | [], n, s => rfl
  | w :: r, n, s => by
    unfold Mo.run
    split
    · rfl
    · split
      · exact fail_rules _ _ _
      · split
        · exact fail_rules _ _ _
        · rw [run_note_rules most may r (n + 1), note_rules]
theorem outs_rules (most : Nat) (s : Mo.S) : (Mo.outs most s).2.rules = s.rules := by
  unfold Mo.outs
  dsimp only
  have h : (if s.rules.length = 64 then Mo.fail 11 s.first s else s).rules = s.rules := by
    split
    · exact fail_rules _ _ _
    · rfl
  generalize (if s.rules.length = 64 then Mo.fail 11 s.first s else s) = s0 at h ⊢
  split
  · rw [wrong_rules, run_note_rules, h]
  · rw [run_note_rules, h]
theorem run_rest {stp : Ln.W → Mo.S → Mo.S} (hs : Mo.Step stp) (most : Nat) (may : List Nat → Bool) : ∀ (l : List Ln.W) (n : Nat) (s : Mo.S), s.rest = l → (Mo.run stp most may l n s).2.rest.length ≤ l.length
  | [], n, s, h => by unfold Mo.run; rw [h]; exact Nat.le_refl _
  | w :: r, n, s, h => by
    have hf : ∀ k, (Mo.fail k w s).rest = w :: r := fun k => by unfold Mo.fail; split <;> exact h
    unfold Mo.run
    split
    · rw [h]; exact Nat.le_refl _
    · split
      · dsimp only; rw [hf]; exact Nat.le_refl _
      · split
        · dsimp only; rw [hf]; exact Nat.le_refl _
        · have := run_rest hs most may r (n + 1) (stp w { s with rest := r }) (by rw [hs])
          simp
          omega
theorem fail_rest (k : Nat) (x : Ln.W) (s : Mo.S) : (Mo.fail k x s).rest = s.rest := by unfold Mo.fail; split <;> rfl
theorem take_rest (sg : Nat) (s : Mo.S) : (Mo.take sg s).rest.length ≤ s.rest.length := by
  unfold Mo.take
  split
  · dsimp only
    rw [List.length_tail]
    omega
  · unfold Mo.wrong
    rw [fail_rest]
    exact Nat.le_refl _
theorem ins_rest (s : Mo.S) : (Mo.ins s).2.rest.length ≤ s.rest.length := run_rest still_step _ _ _ _ _ rfl
theorem outs_rest (most : Nat) (s : Mo.S) : (Mo.outs most s).2.rest.length ≤ s.rest.length := by
  unfold Mo.outs
  dsimp only
  have h : (if s.rules.length = 64 then Mo.fail 11 s.first s else s).rest = s.rest := by
    split
    · exact fail_rest _ _ _
    · rfl
  generalize (if s.rules.length = 64 then Mo.fail 11 s.first s else s) = s0 at h ⊢
  have h2 := run_rest note_step most Mo.file s0.rest 0 s0 rfl
  rw [← h]
  split
  · unfold Mo.wrong
    rw [fail_rest]
    exact h2
  · exact h2
theorem outs_count (most : Nat) (s : Mo.S) : (Mo.outs most s).1.length ≤ most := by
  unfold Mo.outs
  dsimp only
  generalize (if s.rules.length = 64 then Mo.fail 11 s.first s else s) = s0
  have := Mo.run_le Mo.note most Mo.file s0.rest 0 s0 (Nat.zero_le _)
  unfold Mo.texts
  rw [List.length_map, List.length_take]
  omega
theorem acts_rules : ∀ (f n : Nat) (l : List (List Ac.D)) (s : Mo.S), (Mo.acts f n l s).2.rules = s.rules
  | 0, n, l, s => rfl
  | f + 1, n, l, s => by
    unfold Mo.acts
    dsimp only
    have hr : (if l.length = n then Mo.fail 7 ((Mo.cut s.rest).1.headD s.first) { s with rest := (Mo.cut s.rest).2.2 } else if (Ac.parse (Mo.cut s.rest).1).isNone then Mo.fail 9 ((Mo.cut s.rest).1.headD s.first) { s with rest := (Mo.cut s.rest).2.2 } else { s with rest := (Mo.cut s.rest).2.2 }).rules = s.rules := by
      split
      · exact fail_rules _ _ _
      · split
        · exact fail_rules _ _ _
        · rfl
    generalize (if l.length = n then Mo.fail 7 ((Mo.cut s.rest).1.headD s.first) { s with rest := (Mo.cut s.rest).2.2 } else if (Ac.parse (Mo.cut s.rest).1).isNone then Mo.fail 9 ((Mo.cut s.rest).1.headD s.first) { s with rest := (Mo.cut s.rest).2.2 } else { s with rest := (Mo.cut s.rest).2.2 }) = s2 at hr ⊢
    split
    · exact hr
    · split
      · rw [acts_rules f, hr]
      · dsimp only
        split
        · rw [wrong_rules, hr]
        · exact hr
theorem SlAB.setRule {w : World} {hi b : Nat} {v : Value} {l : List (List Ac.D)} (h : SlAB w hi v l) (ht : Ty w b 40) (i : Nat) (u : Value) : SlAB (w.setCell ⟨b, i, none⟩ u) hi v l := h.keep (KeepB.grown (grown_setCell w ⟨b, i, none⟩ u) ht notPart_rule) (.inr (.inr (.inl rfl))) (.inr (.inl rfl))
theorem rule_no {s s1 si : Mo.S} (h1 : (Mo.outs 4 s).2 = s1) (h2 : (Mo.ins (Mo.take 58 s1)).2 = si) (h3 : Mo.at_ 124 si = false) : Mo.rule s = { (Mo.acts ((Mo.take 61 si).rest.length + 1) (Mo.outs 4 s).1.length [] (Mo.take 61 si)).2 with rules := (Mo.acts ((Mo.take 61 si).rest.length + 1) (Mo.outs 4 s).1.length [] (Mo.take 61 si)).2.rules ++ [⟨(Mo.outs 4 s).1, (Mo.ins (Mo.take 58 s1)).1, [], (Mo.acts ((Mo.take 61 si).rest.length + 1) (Mo.outs 4 s).1.length [] (Mo.take 61 si)).1, false⟩] } := by
  subst h1 h2
  unfold Mo.rule
  dsimp only
  rw [if_neg (by rw [h3]; decide)]
theorem rule_yes {s s1 si sd : Mo.S} (h1 : (Mo.outs 4 s).2 = s1) (h2 : (Mo.ins (Mo.take 58 s1)).2 = si) (h3 : Mo.at_ 124 si = true) (h4 : (Mo.ins (Mo.take 124 si)).2 = sd) : Mo.rule s = { (Mo.acts ((Mo.take 61 sd).rest.length + 1) (Mo.outs 4 s).1.length [] (Mo.take 61 sd)).2 with rules := (Mo.acts ((Mo.take 61 sd).rest.length + 1) (Mo.outs 4 s).1.length [] (Mo.take 61 sd)).2.rules ++ [⟨(Mo.outs 4 s).1, (Mo.ins (Mo.take 58 s1)).1, (Mo.ins (Mo.take 124 si)).1, (Mo.acts ((Mo.take 61 sd).rest.length + 1) (Mo.outs 4 s).1.length [] (Mo.take 61 sd)).1, false⟩] } := by
  subst h1 h2 h4
  unfold Mo.rule
  dsimp only
  rw [if_pos h3]
end Go.Proofs.Ytemliglhippdcaa

/- Package mani's own reader: what stays within its bounds from line to line, in plain facts. -/
namespace Go.Proofs.Ytemliglhippdcaa
set_option maxRecDepth 100000
open Go.ChangeShapes Go.WideShapes Go.ChangeAt Go.RowKit Go.Shelf

/-- What is kept but for words and faults; a fault stays. -/
structure Sm (s s' : Mo.S) : Prop where
  rules : s'.rules = s.rules
  makers : s'.makers = s.makers
  lets : s'.lets = s.lets
  chosen : s'.chosen = s.chosen
  bad : s.e.k ≠ 0 → s'.e.k ≠ 0
theorem Sm.refl (s : Mo.S) : Sm s s := ⟨rfl, rfl, rfl, rfl, id⟩
theorem Sm.trans {s t u : Mo.S} (h : Sm s t) (k : Sm t u) : Sm s u := ⟨k.rules.trans h.rules, k.makers.trans h.makers, k.lets.trans h.lets, k.chosen.trans h.chosen, fun x => k.bad (h.bad x)⟩
theorem sm_fail (k : Nat) (x : Ln.W) (s : Mo.S) : Sm s (Mo.fail k x s) := by
  unfold Mo.fail
  split
  · next h => exact ⟨rfl, rfl, rfl, rfl, fun h2 => absurd h h2⟩
  · exact Sm.refl s
theorem sm_rest (s : Mo.S) (R : List Ln.W) : Sm s { s with rest := R } := ⟨rfl, rfl, rfl, rfl, id⟩
theorem sm_wrong (s : Mo.S) : Sm s (Mo.wrong s) := sm_fail _ _ _
theorem sm_take (sg : Nat) (s : Mo.S) : Sm s (Mo.take sg s) := by
  unfold Mo.take
  split
  · exact sm_rest _ _
  · exact sm_wrong _
theorem sm_ends (s : Mo.S) : Sm s (Mo.ends s) := by
  unfold Mo.ends
  split
  · exact Sm.refl s
  · exact sm_wrong _
theorem sm_run (most : Nat) (may : List Nat → Bool) : ∀ (l : List Ln.W) (n : Nat) (s : Mo.S), Sm s (Mo.run Mo.still most may l n s).2
  | [], n, s => Sm.refl s
  | w :: r, n, s => by
    rw [Mo.run]
    split
    · exact Sm.refl s
    split
    · exact sm_fail _ _ _
    split
    · exact sm_fail _ _ _
    exact (sm_rest s r).trans (sm_run most may r (n + 1) _)
theorem sm_ins (s : Mo.S) : Sm s (Mo.ins s).2 := sm_run _ _ _ _ _
theorem sm_acts : ∀ (f n : Nat) (l : List (List Ac.D)) (s : Mo.S), Sm s (Mo.acts f n l s).2
  | 0, _, _, s => Sm.refl s
  | f + 1, n, l, s => by
    rw [Mo.acts]
    dsimp only
    generalize h2 : (if l.length = n then Mo.fail 7 ((Mo.cut s.rest).1.headD s.first) { s with rest := (Mo.cut s.rest).2.2 } else if (Ac.parse (Mo.cut s.rest).1).isNone = true then Mo.fail 9 ((Mo.cut s.rest).1.headD s.first) { s with rest := (Mo.cut s.rest).2.2 } else { s with rest := (Mo.cut s.rest).2.2 }) = s2
    have h : Sm s s2 := by
      rw [← h2]
      split
      · exact (sm_rest s _).trans (sm_fail _ _ _)
      split
      · exact (sm_rest s _).trans (sm_fail _ _ _)
      · exact sm_rest s _
    clear h2
    split
    · exact h
    split
    · exact h.trans (sm_acts f n _ s2)
    · dsimp only
      split
      · exact h.trans (sm_wrong _)
      · exact h
/-- What an Out's note adds. -/
structure Nt (s s' : Mo.S) (n : Nat) : Prop where
  rules : s'.rules = s.rules
  lets : s'.lets = s.lets
  chosen : s'.chosen = s.chosen
  bad : s.e.k ≠ 0 → s'.e.k ≠ 0
  makers : ∃ x, s'.makers = s.makers ++ x ∧ x.length ≤ n ∧ ∀ p ∈ x, p.2 = s.rules.length
theorem Nt.of {s s' : Mo.S} (h : Sm s s') (n : Nat) : Nt s s' n := ⟨h.rules, h.lets, h.chosen, h.bad, [], by rw [h.makers, List.append_nil], by simp, by simp⟩
theorem Nt.trans {s t u : Mo.S} {n m : Nat} (h : Nt s t n) (k : Nt t u m) : Nt s u (n + m) := by
  obtain ⟨x, hx, hx1, hx2⟩ := h.makers
  obtain ⟨y, hy, hy1, hy2⟩ := k.makers
  refine ⟨k.rules.trans h.rules, k.lets.trans h.lets, k.chosen.trans h.chosen, fun z => k.bad (h.bad z), x ++ y, by rw [hy, hx, List.append_assoc], by rw [List.length_append]; omega, fun p hp => ?_⟩
  rcases List.mem_append.1 hp with h1 | h1
  · exact hx2 p h1
  · rw [hy2 p h1, h.rules]
theorem nt_note (w : Ln.W) (s : Mo.S) : Nt s (Mo.note w s) 1 := by
  unfold Mo.note
  dsimp only
  generalize h1 : (if (Mo.has w.text s.makers).isSome = true then Mo.fail 8 w s else s) = s1
  have h : Sm s s1 := by
    rw [← h1]
    split
    · exact sm_fail _ _ _
    · exact Sm.refl s
  exact ⟨h.rules, h.lets, h.chosen, h.bad, [(w.text, s1.rules.length)], by rw [← h.makers], by simp, fun p hp => by rw [List.mem_singleton] at hp; rw [hp, ← h.rules]⟩
theorem nt_run (most : Nat) (may : List Nat → Bool) : ∀ (l : List Ln.W) (n : Nat) (s : Mo.S), ∃ d, (Mo.run Mo.note most may l n s).1 = n + d ∧ Nt s (Mo.run Mo.note most may l n s).2 d
  | [], n, s => ⟨0, rfl, Nt.of (Sm.refl s) 0⟩
  | w :: r, n, s => by
    rw [Mo.run]
    split
    · exact ⟨0, rfl, Nt.of (Sm.refl s) 0⟩
    split
    · exact ⟨0, rfl, Nt.of (sm_fail _ _ _) 0⟩
    split
    · exact ⟨0, rfl, Nt.of (sm_fail _ _ _) 0⟩
    obtain ⟨d, e, hd⟩ := nt_run most may r (n + 1) (Mo.note w { s with rest := r })
    have h1 : Nt s (Mo.note w { s with rest := r }) 1 := by
      have := (Nt.of (sm_rest s r) 0).trans (nt_note w { s with rest := r })
      rwa [Nat.zero_add] at this
    exact ⟨1 + d, by rw [e]; omega, h1.trans hd⟩
theorem nt_outs (most : Nat) (s : Mo.S) : Nt s (Mo.outs most s).2 most ∧ (s.rules.length = 64 → (Mo.outs most s).2.e.k ≠ 0) := by
  unfold Mo.outs
  dsimp only
  generalize h1 : (if s.rules.length = 64 then Mo.fail 11 s.first s else s) = s1
  have h : Sm s s1 := by
    rw [← h1]
    split
    · exact sm_fail _ _ _
    · exact Sm.refl s
  have h64 : s.rules.length = 64 → s1.e.k ≠ 0 := fun e => by
    rw [← h1, if_pos e]
    exact fail_k 11 (by decide) _ _
  obtain ⟨d, e, hd⟩ := nt_run most Mo.file s1.rest 0 s1
  have hle := Mo.run_le Mo.note most Mo.file s1.rest 0 s1 (Nat.zero_le _)
  rw [e, Nat.zero_add] at hle
  have h2 : Nt s1 (if (Mo.run Mo.note most Mo.file s1.rest 0 s1).1 = 0 then Mo.wrong (Mo.run Mo.note most Mo.file s1.rest 0 s1).2 else (Mo.run Mo.note most Mo.file s1.rest 0 s1).2) d := by
    split
    · exact hd.trans (Nt.of (sm_wrong _) 0)
    · exact hd
  have h3 := (Nt.of h 0).trans h2
  rw [Nat.zero_add] at h3
  refine ⟨⟨h3.rules, h3.lets, h3.chosen, h3.bad, ?_⟩, fun e64 => h2.bad (h64 e64)⟩
  obtain ⟨x, hx, hx1, hx2⟩ := h3.makers
  exact ⟨x, hx, by omega, hx2⟩
/-- What stays within its bounds. -/
structure Fine (s : Mo.S) : Prop where
  rules : s.rules.length ≤ 64
  makers : s.makers.length ≤ 4 * s.rules.length
  num : ∀ p ∈ s.makers, p.2 < s.rules.length
  ro : ∀ r ∈ s.rules, r.ins.length ≤ 8 ∧ r.order.length ≤ 8
  lets : ∀ p ∈ s.lets, p.2.length ≤ 16
  chosen : s.chosen.length ≤ 8
theorem fine_start : Fine Mo.start := ⟨by decide, by decide, by simp [Mo.start], by simp [Mo.start], by simp [Mo.start], by decide⟩
theorem Fine.of {s s' : Mo.S} (h : Fine s) (k : Sm s s') : Fine s' := ⟨by rw [k.rules]; exact h.rules, by rw [k.rules, k.makers]; exact h.makers, by rw [k.rules, k.makers]; exact h.num, by rw [k.rules]; exact h.ro, by rw [k.lets]; exact h.lets, by rw [k.chosen]; exact h.chosen⟩
theorem has_mem {t : List Nat} {i : Nat} : ∀ {L : List (List Nat × Nat)}, Mo.has t L = some i → ∃ p ∈ L, p.2 = i
  | [], h => by cases h
  | (u, j) :: r, h => by
    unfold Mo.has at h
    split at h
    · next x hx =>
      injection h with h
      subst h
      obtain ⟨p, hp, e⟩ := has_mem hx
      exact ⟨p, List.mem_cons_of_mem _ hp, e⟩
    · split at h
      · injection h with h
        exact ⟨(u, j), by simp, h⟩
      · cases h
theorem Fine.has {s : Mo.S} (h : Fine s) {t : List Nat} {i : Nat} (k : Mo.has t s.makers = some i) : i < s.rules.length := by
  obtain ⟨p, hp, rfl⟩ := has_mem k
  exact h.num p hp
theorem ins_few (s : Mo.S) : (Mo.ins s).1.length ≤ 8 := by
  unfold Mo.ins
  dsimp only
  unfold Mo.texts
  rw [List.length_map, List.length_take]
  have := Mo.run_le Mo.still 8 Mo.file s.rest 0 s (Nat.zero_le _)
  omega
/-- A rule put behind the others. -/
theorem Fine.add {s t : Mo.S} (h : Fine s) {most : Nat} (hm : most ≤ 4) (k : Nt s t most) (h64 : s.rules.length = 64 → t.e.k ≠ 0) (h0 : t.e.k = 0) (r : Mn.Rule) (h1 : r.ins.length ≤ 8) (h2 : r.order.length ≤ 8) (u : Mo.S) (hu : u.rules = t.rules ++ [r]) (hu1 : u.makers = t.makers) (hu2 : u.lets = t.lets) (hu3 : u.chosen = t.chosen) : Fine u := by
  have hlen : u.rules.length = s.rules.length + 1 := by rw [hu, k.rules]; simp
  have h63 : s.rules.length ≤ 63 := by
    have := h.rules
    rcases Nat.lt_or_ge s.rules.length 64 with h4 | h4
    · omega
    · exact absurd h0 (h64 (by omega))
  obtain ⟨x, hx, hx1, hx2⟩ := k.makers
  refine ⟨by omega, ?_, ?_, ?_, ?_, ?_⟩
  · rw [hu1, hx, List.length_append]
    have := h.makers
    omega
  · rw [hu1, hx]
    intro p hp
    rcases List.mem_append.1 hp with h4 | h4
    · have := h.num p h4
      omega
    · rw [hx2 p h4]
      omega
  · rw [hu, k.rules]
    intro q hq
    rcases List.mem_append.1 hq with h4 | h4
    · exact h.ro q h4
    · rw [List.mem_singleton] at h4
      rw [h4]
      exact ⟨h1, h2⟩
  · rw [hu2, k.lets]
    exact h.lets
  · rw [hu3, k.chosen]
    exact h.chosen
theorem zero_of {s t : Mo.S} (h : s.e.k ≠ 0 → t.e.k ≠ 0) (k : t.e.k = 0) : s.e.k = 0 := by
  rcases Nat.eq_zero_or_pos s.e.k with h0 | h0
  · exact h0
  · exact absurd k (h (by omega))
theorem fine_rule {s : Mo.S} (h : Fine s) (h0 : (Mo.rule s).e.k = 0) : Fine (Mo.rule s) := by
  unfold Mo.rule at h0 ⊢
  dsimp only at h0 ⊢
  obtain ⟨k1, k64⟩ := nt_outs 4 s
  generalize (Mo.outs 4 s) = o at h0 k1 k64 ⊢
  have hi := (sm_take 58 o.2).trans (sm_ins (Mo.take 58 o.2))
  have hf := ins_few (Mo.take 58 o.2)
  generalize Mo.ins (Mo.take 58 o.2) = i at h0 hi hf ⊢
  generalize hd : (if Mo.at_ 124 i.2 = true then Mo.ins (Mo.take 124 i.2) else ([], i.2)) = d at h0 ⊢
  have hd1 : Sm i.2 d.2 ∧ d.1.length ≤ 8 := by
    rw [← hd]
    split
    · exact ⟨(sm_take 124 i.2).trans (sm_ins _), ins_few _⟩
    · exact ⟨Sm.refl _, by simp⟩
  have ha := sm_acts ((Mo.take 61 d.2).rest.length + 1) o.1.length [] (Mo.take 61 d.2)
  generalize Mo.acts ((Mo.take 61 d.2).rest.length + 1) o.1.length [] (Mo.take 61 d.2) = a at h0 ha ⊢
  have hz : Sm o.2 a.2 := (hi.trans hd1.1).trans ((sm_take 61 d.2).trans ha)
  exact h.add (Nat.le_refl 4) k1 k64 (zero_of hz.bad h0) ⟨o.1, i.1, d.1, a.1, false⟩ hf hd1.2 _ (by rw [← hz.rules]) hz.makers hz.lets hz.chosen
theorem fine_phony {s : Mo.S} (h : Fine s) (h0 : (Mo.phony s).e.k = 0) : Fine (Mo.phony s) := by
  unfold Mo.phony at h0 ⊢
  dsimp only at h0 ⊢
  obtain ⟨k1, k64⟩ := nt_outs 1 s
  generalize (Mo.outs 1 s) = o at h0 k1 k64 ⊢
  have hi := (sm_take 58 o.2).trans (sm_ins (Mo.take 58 o.2))
  have hf := ins_few (Mo.take 58 o.2)
  generalize Mo.ins (Mo.take 58 o.2) = i at h0 hi hf ⊢
  have hz : Sm o.2 (Mo.ends i.2) := hi.trans (sm_ends _)
  exact h.add (by decide) k1 k64 (zero_of hz.bad h0) ⟨o.1, i.1, [], [], true⟩ hf (by simp) _ (by rw [← hz.rules]) hz.makers hz.lets hz.chosen
theorem fine_choose {s : Mo.S} (h : Fine s) : Fine (Mo.choose s) := by
  unfold Mo.choose
  dsimp only
  generalize h1 : (if s.chosen = [] then s else Mo.fail 7 s.first s) = s1
  have k1 : Sm s s1 := by
    rw [← h1]
    split
    · exact Sm.refl s
    · exact sm_fail _ _ _
  have k2 := sm_run 8 Nm.ok s1.rest 0 s1
  have hle := Mo.run_le Mo.still 8 Nm.ok s1.rest 0 s1 (Nat.zero_le _)
  generalize Mo.run Mo.still 8 Nm.ok s1.rest 0 s1 = x at k2 hle ⊢
  have k3 := k1.trans k2
  have f3 : Fine { x.2 with chosen := s1.rest.take x.1 } := by
    have := h.of k3
    exact ⟨this.rules, this.makers, this.num, this.ro, this.lets, by dsimp only; rw [List.length_take]; omega⟩
  split
  · exact f3.of ((sm_wrong _).trans (sm_ends _))
  · exact f3.of (sm_ends _)
theorem fine_lett {s : Mo.S} (h : Fine s) (h0 : (Mo.lett s).e.k = 0) : Fine (Mo.lett s) ∧ (Mo.lett s).lets.length = s.lets.length + 1 := by
  unfold Mo.lett at h0 ⊢
  dsimp only at h0 ⊢
  have k1 := sm_run 1 Nm.ok s.rest 0 s
  generalize Mo.run Mo.still 1 Nm.ok s.rest 0 s = x at h0 k1 ⊢
  generalize h2 : (if x.1 = 0 then Mo.wrong x.2 else x.2) = s2 at h0 ⊢
  have k2 : Sm s s2 := by
    rw [← h2]
    split
    · exact k1.trans (sm_wrong _)
    · exact k1
  have k3 := k2.trans (sm_take 61 s2)
  generalize Mo.take 61 s2 = s3 at h0 k3 ⊢
  generalize h4 : (if 16 < s3.rest.length then Mo.fail 7 (s3.rest.getD 16 Mo.word0) s3 else s3) = s4 at h0 ⊢
  have k4 : Sm s s4 ∧ s4.rest.length ≤ 16 := by
    rw [← h4]
    split
    · next h16 =>
      rw [if_pos h16] at h4
      rw [← h4] at h0
      exact absurd h0 (fail_k 7 (by decide) _ _)
    · next h16 => exact ⟨k3, by omega⟩
  have f4 := h.of k4.1
  refine ⟨⟨f4.rules, f4.makers, f4.num, f4.ro, ?_, f4.chosen⟩, by simp [k4.1.lets]⟩
  intro p hp
  rcases List.mem_append.1 hp with h5 | h5
  · exact f4.lets p h5
  · rw [List.mem_singleton] at h5
    rw [h5]
    exact k4.2
theorem rule_lets (s : Mo.S) : (Mo.rule s).lets = s.lets := by
  unfold Mo.rule
  dsimp only
  obtain ⟨k1, _⟩ := nt_outs 4 s
  generalize (Mo.outs 4 s) = o at k1 ⊢
  have hi := (sm_take 58 o.2).trans (sm_ins (Mo.take 58 o.2))
  generalize Mo.ins (Mo.take 58 o.2) = i at hi ⊢
  generalize hd : (if Mo.at_ 124 i.2 = true then Mo.ins (Mo.take 124 i.2) else ([], i.2)) = d
  have hd1 : Sm i.2 d.2 := by
    rw [← hd]
    split
    · exact (sm_take 124 i.2).trans (sm_ins _)
    · exact Sm.refl _
  rw [(sm_acts _ _ _ _).lets, (sm_take 61 d.2).lets, hd1.lets, hi.lets, k1.lets]
theorem phony_lets (s : Mo.S) : (Mo.phony s).lets = s.lets := by
  unfold Mo.phony
  dsimp only
  obtain ⟨k1, _⟩ := nt_outs 1 s
  rw [(sm_ends _).lets, (sm_ins _).lets, (sm_take 58 _).lets, k1.lets]
theorem choose_lets (s : Mo.S) : (Mo.choose s).lets = s.lets := by
  unfold Mo.choose
  dsimp only
  generalize h1 : (if s.chosen = [] then s else Mo.fail 7 s.first s) = s1
  have k1 : Sm s s1 := by
    rw [← h1]
    split
    · exact Sm.refl s
    · exact sm_fail _ _ _
  have k2 := sm_run 8 Nm.ok s1.rest 0 s1
  rw [(sm_ends _).lets]
  split
  · rw [(sm_wrong _).lets]
    exact k2.lets.trans k1.lets
  · exact k2.lets.trans k1.lets
theorem fine_line {s : Mo.S} {L : List Ln.W} (h : Fine s) (h0 : (Mo.line s L).e.k = 0) : Fine (Mo.line s L) ∧ (Mo.line s L).lets.length ≤ s.lets.length + 1 := by
  rw [line_is] at h0 ⊢
  have hS : Fine (Stood s L) ∧ (Stood s L).lets = s.lets := by
    unfold Stood
    split
    · exact ⟨⟨h.rules, h.makers, h.num, h.ro, h.lets, h.chosen⟩, rfl⟩
    · have := h.of (sm_fail 6 ‹_› s)
      exact ⟨⟨this.rules, this.makers, this.num, this.ro, this.lets, this.chosen⟩, (sm_fail 6 _ s).lets⟩
  obtain ⟨hf, hl⟩ := hS
  generalize Stood s L = t at h0 hf hl ⊢
  split at h0
  · next h1 =>
    rw [if_pos h1]
    have := fine_lett hf h0
    exact ⟨this.1, by rw [this.2, hl]; exact Nat.le_refl _⟩
  · next h1 =>
    rw [if_neg h1]
    split at h0
    · next h2 =>
      rw [if_pos h2]
      exact ⟨fine_rule hf h0, by rw [rule_lets, hl]; omega⟩
    · next h2 =>
      rw [if_neg h2]
      split at h0
      · next h3 =>
        rw [if_pos h3]
        exact ⟨fine_phony hf h0, by rw [phony_lets, hl]; omega⟩
      · next h3 =>
        rw [if_neg h3]
        split at h0
        · next h4 =>
          rw [if_pos h4]
          exact ⟨fine_choose hf, by rw [choose_lets, hl]; omega⟩
        · next h4 =>
          rw [if_neg h4]
          exact ⟨hf.of (sm_fail _ _ _), by rw [(sm_fail _ _ _).lets, hl]; omega⟩
theorem find_few {t : List Nat} {L : Mn.Lets} {l : List Ln.W} (hL : ∀ p ∈ L, p.2.length ≤ 16) (h : Mn.find t L = some l) : l.length ≤ 16 := by
  obtain ⟨p, hp, rfl⟩ := find_mem h
  exact hL p hp
theorem Fine.stands {s : Mo.S} (h : Fine s) : ∀ x l, Mo.stands s.lets x = some l → l.length ≤ 1000000 := by
  intro x l hx
  unfold Mo.stands at hx
  split at hx
  · injection hx with hx
    subst hx
    simp
  · have := find_few h.lets hx
    omega
end Go.Proofs.Ytemliglhippdcaa

/- Package mani's own reader: a line. -/
namespace Go.Proofs.Ytemliglhippdcaa
set_option maxRecDepth 100000
open Go.ChangeShapes Go.WideShapes Go.ChangeAt Go.RowKit Go.Shelf

theorem SlW.hd {w : World} {hi b off n c : Nat} {L : List Ln.W} (h : SlW w hi (.slice (some ⟨b, off, none⟩) n c) L) (h0 : 0 < L.length) : w.cell? ⟨b, off, none⟩ = some (.string (str (L.headD Mo.word0).text)) ∧ w.cell? ⟨b, off + 1, none⟩ = some (.int .i64 (L.headD Mo.word0).line) ∧ w.cell? ⟨b, off + 2, none⟩ = some (.int .i64 (L.headD Mo.word0).col) ∧ w.cell? ⟨b, off + 3, none⟩ = some (.bool (L.headD Mo.word0).q) := by
  obtain ⟨b', off', e, _, _, h1, h2, h3, h4⟩ := h.at 0 h0 (L.headD Mo.word0) (by cases L <;> rfl)
  injection e with e
  injection e with e1 e2
  subst e1 e2
  simp only [Nat.zero_mul, Nat.add_zero] at h1 h2 h3 h4
  exact ⟨h1, h2, h3, h4⟩
theorem hd_good {L : List Ln.W} (h0 : 0 < L.length) (h : ∀ x ∈ L, GoodW x) : GoodW (L.headD Mo.word0) := by
  rcases L with _ | ⟨x, r⟩
  · simp at h0
  · exact h x (by simp)
theorem stood_keeps (s : Mo.S) (L : List Ln.W) : (Stood s L).rules = s.rules ∧ (Stood s L).makers = s.makers ∧ (Stood s L).lets = s.lets ∧ (Stood s L).first = L.headD Mo.word0 := by
  unfold Stood
  split
  · exact ⟨rfl, rfl, rfl, rfl⟩
  · exact ⟨fail_rules _ _ _, fail_makers _ _ _, fail_lets _ _ _, rfl⟩
theorem put_len {lets : Mn.Lets} : ∀ (L out l : List Ln.W), out.length ≤ 200 → Mo.put lets L out = .ok l → l.length ≤ 200
  | [], out, l, ho, h => by
    rw [put_nil] at h
    injection h with h
    subst h
    exact ho
  | x :: r, out, l, ho, h => by
    rcases hs : Mo.stands lets x with _ | y
    · rw [put_none hs] at h
      cases h
    · rw [put_some hs] at h
      exact put_len r _ l (by rw [List.length_take]; omega) h
theorem stood_rest (s : Mo.S) (L : List Ln.W) (_ : L.length ≤ 1000000) : (Stood s L).rest.length ≤ 1000000 := by
  unfold Stood
  split
  · next l hl =>
    have := put_len _ _ _ (by simp) hl
    dsimp only
    omega
  · simp
/-- What a line's first statement reads and turns, in the world behind the call. -/
structure AtLine (W : World) (g b off : Nat) (f : Ln.W) : Prop where
  k5 : ∃ u, W.cell? ⟨g, 5, none⟩ = some u
  k6 : ∃ u, W.cell? ⟨g, 6, none⟩ = some u
  k7 : ∃ u, W.cell? ⟨g, 7, none⟩ = some u
  k8 : ∃ u, W.cell? ⟨g, 8, none⟩ = some u
  k9 : ∃ u, W.cell? ⟨g, 9, none⟩ = some u
  f5 : W.frozen? ⟨g, 5, none⟩ = false
  f6 : W.frozen? ⟨g, 6, none⟩ = false
  f7 : W.frozen? ⟨g, 7, none⟩ = false
  f8 : W.frozen? ⟨g, 8, none⟩ = false
  f9 : W.frozen? ⟨g, 9, none⟩ = false
  p0 : W.cell? ⟨b, off, none⟩ = some (.string (str f.text))
  p1 : W.cell? ⟨b, off + 1, none⟩ = some (.int .i64 f.line)
  p2 : W.cell? ⟨b, off + 2, none⟩ = some (.int .i64 f.col)
  p3 : W.cell? ⟨b, off + 3, none⟩ = some (.bool f.q)
end Go.Proofs.Ytemliglhippdcaa
