/- Plain facts on two texts, one behind the other. -/
import Derived.Test.YtpebkdmoloiecaaLineMath
namespace Go.Proofs.Ytpebkdmoloiecaa.Ln

def up (k : Nat) (x : W) : W := { x with line := x.line + k }
def upAll (k : Nat) (LL : List (List W)) : List (List W) := LL.map fun R => R.map (up k)
def Res.up (k : Nat) : Res → Res
  | .ok LL => .ok (upAll k LL)
  | .bad kd ln col => .bad kd (ln + k) col
theorem up_pre (k : Nat) (o : List (List W)) (R : Res) : (R.pre o).up k = (R.up k).pre (upAll k o) := by
  cases R with
  | ok L => simp [Res.pre, Res.up, upAll]
  | bad => rfl
theorem up_close (k : Nat) (row : List W) : close (row.map (up k)) = upAll k (close row) := by cases row <;> rfl
/-- Further down, all is told further down. -/
theorem sp_up (k : Nat) : ∀ (n : Nat) (l : List Nat) (ln col : Nat) (row : List W), l.length ≤ n → sp l (ln + k) col (row.map (up k)) = (sp l ln col row).up k := by
  intro n
  induction n with
  | zero =>
    intro l ln col row h
    obtain rfl := List.length_eq_zero_iff.1 (Nat.le_zero.1 h)
    rw [sp_nil, sp_nil, up_close]
    rfl
  | succ n ih =>
    intro l ln col row h
    cases l with
    | nil =>
      rw [sp_nil, sp_nil, up_close]
      rfl
    | cons c r =>
      rw [List.length_cons] at h
      by_cases hc : c = 10
      · subst hc
        rw [sp_nl, sp_nl, up_pre, up_close, show ln + k + 1 = ln + 1 + k from by omega]
        have := ih r (ln + 1) 1 [] (by omega)
        rw [List.map_nil] at this
        rw [this]
      · have hp := @tok_pos c r
        rcases ht : tok c r with m | ⟨t, m, q⟩ | ⟨kd, o⟩
        · have := hp.1 m ht
          rw [sp_skip hc ht, sp_skip hc ht]
          exact ih _ _ _ _ (by rw [List.length_drop, List.length_cons]; omega)
        · have := hp.2 t m q ht
          rw [sp_word hc ht, sp_word hc ht]
          have h2 := ih ((c :: r).drop m) ln (col + m) (row ++ [⟨t, ln, col, q⟩]) (by rw [List.length_drop, List.length_cons]; omega)
          rw [List.map_append] at h2
          exact h2
        · rw [sp_bad hc ht, sp_bad hc ht]
          rfl
theorem takeWhile_stop {p : Nat → Bool} {x : Nat} (h : p x = false) : ∀ (r b : List Nat), (r ++ x :: b).takeWhile p = r.takeWhile p
  | [], b => by rw [List.nil_append, List.takeWhile_cons_of_neg (by rw [h]; simp)]; rfl
  | c :: r, b => by
    rw [List.cons_append]
    by_cases hc : p c = true
    · rw [List.takeWhile_cons_of_pos hc, List.takeWhile_cons_of_pos hc, takeWhile_stop h r b]
    · rw [List.takeWhile_cons_of_neg hc, List.takeWhile_cons_of_neg hc]
theorem tokq_local (r b : List Nat) : tokq (r ++ 10 :: b) = tokq (r ++ [10]) := by
  have hl := (List.takeWhile_sublist inq (l := r)).length_le
  have hg : ∀ s : List Nat, (r ++ 10 :: s).getD (r.takeWhile inq).length 0 = if (r.takeWhile inq).length < r.length then r.getD (r.takeWhile inq).length 0 else 10 := fun s => by
    by_cases h : (r.takeWhile inq).length < r.length
    · rw [if_pos h, List.getD_eq_getElem?_getD, List.getElem?_append_left h, List.getD_eq_getElem?_getD]
    · rw [if_neg h, List.getD_eq_getElem?_getD, List.getElem?_append_right (by omega), show (r.takeWhile inq).length - r.length = 0 from by omega]
      rfl
  have hn : ∀ s : List Nat, ((r ++ 10 :: s).length = (r.takeWhile inq).length) = False := fun s => by
    rw [List.length_append, List.length_cons]
    exact propext ⟨fun h => by omega, fun h => h.elim⟩
  unfold tokq
  rw [takeWhile_stop (by rfl) r b, show (r ++ [10] : List Nat) = r ++ 10 :: [] from rfl, takeWhile_stop (by rfl) r []]
  simp only [hg, hn]
theorem tok_local (c : Nat) (r b : List Nat) : tok c (r ++ 10 :: b) = tok c (r ++ [10]) := by
  unfold tok
  rw [tokq_local r b, show (r ++ [10] : List Nat) = r ++ 10 :: [] from rfl, takeWhile_stop (p := noNl) (by rfl) r b, takeWhile_stop (p := noNl) (by rfl) r [], takeWhile_stop (p := plain) (by rfl) r b, takeWhile_stop (p := plain) (by rfl) r []]
def Tok.size : Tok → Nat
  | .skip n => n
  | .word _ n _ => n
  | .bad _ _ => 0
theorem tok_size (c : Nat) (r : List Nat) : (tok c (r ++ [10])).size ≤ r.length + 1 := by
  have h1 := (List.takeWhile_sublist noNl (l := r)).length_le
  have h2 := (List.takeWhile_sublist plain (l := r)).length_le
  have h3 := (List.takeWhile_sublist inq (l := r)).length_le
  have e1 := takeWhile_stop (p := noNl) (x := 10) (by rfl) r []
  have e2 := takeWhile_stop (p := plain) (x := 10) (by rfl) r []
  have e3 := takeWhile_stop (p := inq) (x := 10) (by rfl) r []
  have hq : (tokq (r ++ [10])).size ≤ r.length + 1 := by
    rcases ht : tokq (r ++ [10]) with m | ⟨t, m, q⟩ | ⟨k, o⟩
    · exact (tokq_skip ht).elim
    · obtain ⟨_, _, _, hm⟩ := tokq_word ht
      show m ≤ r.length + 1
      unfold tokq at ht
      rw [e3] at ht
      split at ht
      · cases ht
      · rename_i hne
        split at ht
        · cases ht
        · split at ht
          · injection ht with ht1 ht2 ht3
            have : (r.takeWhile inq).length ≠ r.length := fun e => hne (.inr (by rw [e, List.getD_eq_getElem?_getD, List.getElem?_append_right (Nat.le_refl _), Nat.sub_self]; rfl))
            omega
          · cases ht
    · exact Nat.zero_le _
  unfold tok
  rw [e1, e2]
  split
  · show 1 ≤ _; omega
  split
  · show 1 + _ ≤ _; omega
  split
  · show 1 ≤ _; omega
  split
  · exact hq
  split
  · exact Nat.zero_le _
  split
  · exact Nat.zero_le _
  · show _ + 1 ≤ _; omega
theorem takeWhile_getD {p : Nat → Bool} : ∀ (r : List Nat) (y : Nat), y < (r.takeWhile p).length → p (r.getD y 0) = true
  | [], y, h => by simp at h
  | c :: r, y, h => by
    by_cases hc : p c = true
    · rw [List.takeWhile_cons_of_pos hc, List.length_cons] at h
      cases y with
      | zero => simpa using hc
      | succ y => rw [List.getD_cons_succ]; exact takeWhile_getD r y (by omega)
    · rw [List.takeWhile_cons_of_neg hc] at h
      simp at h
theorem clean_of {r : List Nat} {k : Nat} (hk : k ≤ r.length) (h : ∀ y, y < k → r.getD y 0 ≠ 10) : (r.take k).count 10 = 0 := by
  rw [List.count_eq_zero]
  intro hm
  obtain ⟨y, hy, e⟩ := List.getElem_of_mem hm
  rw [List.length_take] at hy
  have := h y (by omega)
  rw [List.getD_eq_getElem?_getD, List.getElem?_eq_getElem (by omega)] at this
  rw [List.getElem_take] at e
  exact this e
/-- What a token takes holds no end of a line. -/
theorem tok_clean (c : Nat) (r : List Nat) : ∀ m, tok c (r ++ [10]) = .skip m ∨ (∃ t q, tok c (r ++ [10]) = .word t m q) → m ≤ r.length + 1 ∧ (r.take (m - 1)).count 10 = 0 := by
  intro m h
  have hs := tok_size c r
  have hm : m ≤ r.length + 1 := by
    rcases h with h | ⟨t, q, h⟩ <;> (rw [h] at hs; exact hs)
  refine ⟨hm, clean_of (by omega) ?_⟩
  have e1 := takeWhile_stop (p := noNl) (x := 10) (by rfl) r []
  have e2 := takeWhile_stop (p := plain) (x := 10) (by rfl) r []
  have e3 := takeWhile_stop (p := inq) (x := 10) (by rfl) r []
  have hl3 := (List.takeWhile_sublist inq (l := r)).length_le
  have none : ∀ y, y < m - 1 → m = 1 → r.getD y 0 ≠ 10 := fun y hy e => by omega
  unfold tok tokq at h
  rw [e1, e2, e3] at h
  intro y hy
  split at h
  · rcases h with h | ⟨t, q, h⟩
    · injection h with h; omega
    · cases h
  split at h
  · rcases h with h | ⟨t, q, h⟩
    · injection h with h
      have := takeWhile_getD (p := noNl) r y (by omega)
      simpa [noNl] using this
    · cases h
  split at h
  · rcases h with h | ⟨t, q, h⟩
    · cases h
    · injection h with _ h _; omega
  split at h
  · split at h
    · rcases h with h | ⟨t, q, h⟩ <;> cases h
    · rename_i hne
      split at h
      · rcases h with h | ⟨t, q, h⟩ <;> cases h
      · split at h
        · rcases h with h | ⟨t, q, h⟩
          · cases h
          · injection h with _ h _
            by_cases hy2 : y < (r.takeWhile inq).length
            · have := takeWhile_getD (p := inq) r y hy2
              simp [inq] at this
              exact this.2
            · have hy3 : y = (r.takeWhile inq).length := by omega
              have hlt : (r.takeWhile inq).length < r.length := by omega
              intro e
              refine hne (.inr ?_)
              rw [List.getD_eq_getElem?_getD, List.getElem?_append_left hlt, ← List.getD_eq_getElem?_getD, ← hy3, e]
        · rcases h with h | ⟨t, q, h⟩ <;> cases h
  split at h
  · rcases h with h | ⟨t, q, h⟩ <;> cases h
  split at h
  · rcases h with h | ⟨t, q, h⟩ <;> cases h
  · rcases h with h | ⟨t, q, h⟩
    · cases h
    · injection h with _ h _
      have := takeWhile_getD (p := plain) r y (by omega)
      intro e
      rw [e] at this
      exact absurd this (by decide)
/-- A text that ends with its line, and another one behind it. -/
def Res.then (R : Res) (f : Nat → Res) (n : Nat) : Res :=
  match R with
  | .ok LL => (f n).pre LL
  | .bad k ln col => .bad k ln col
theorem then_pre (o : List (List W)) (R : Res) (f : Nat → Res) (n : Nat) : (R.pre o).then f n = (R.then f n).pre o := by
  cases R with
  | ok L =>
    show (f n).pre (o ++ L) = ((f n).pre L).pre o
    rw [Res.pre_pre]
  | bad => rfl
theorem sp_join (b : List Nat) : ∀ (n : Nat) (a : List Nat) (ln col : Nat) (row : List W), a.length ≤ n → sp (a ++ 10 :: b) ln col row = (sp (a ++ [10]) ln col row).then (fun m => sp b m 1 []) (ln + (a.count 10 + 1)) := by
  intro n
  induction n with
  | zero =>
    intro a ln col row h
    obtain rfl := List.length_eq_zero_iff.1 (Nat.le_zero.1 h)
    rw [List.nil_append, List.nil_append, sp_nl, sp_nl, then_pre, sp_nil]
    simp [Res.then, close, Res.pre_nil]
  | succ n ih =>
    intro a ln col row h
    cases a with
    | nil =>
      rw [List.nil_append, List.nil_append, sp_nl, sp_nl, then_pre, sp_nil]
      simp [Res.then, close, Res.pre_nil]
    | cons c r =>
      rw [List.length_cons] at h
      rw [List.cons_append, List.cons_append]
      by_cases hc : c = 10
      · subst hc
        rw [sp_nl, sp_nl, then_pre, ih r (ln + 1) 1 [] (by omega), List.count_cons_self, show ln + 1 + (r.count 10 + 1) = ln + (r.count 10 + 1 + 1) from by omega]
      · have hp := @tok_pos c (r ++ [10])
        have hl := tok_local c r b
        have hcount : (c :: r).count 10 = r.count 10 := List.count_cons_of_ne hc
        rcases ht : tok c (r ++ [10]) with m | ⟨t, m, q⟩ | ⟨kd, o⟩
        · have h1 := hp.1 m ht
          obtain ⟨h2, h3⟩ := tok_clean c r m (.inl ht)
          rw [ht] at hl
          obtain ⟨k, rfl⟩ : ∃ k, m = k + 1 := ⟨m - 1, by omega⟩
          rw [Nat.add_sub_cancel] at h3
          have hc2 : r.count 10 = (r.drop k).count 10 := by
            conv => lhs; rw [← List.take_append_drop k r, List.count_append, h3]
            omega
          rw [sp_skip hc hl, sp_skip hc ht, List.drop_succ_cons, List.drop_succ_cons, List.drop_append_of_le_length (by omega), List.drop_append_of_le_length (by omega), ih (r.drop k) ln (col + (k + 1)) row (by rw [List.length_drop]; omega), hcount, hc2]
        · have h1 := hp.2 t m q ht
          obtain ⟨h2, h3⟩ := tok_clean c r m (.inr ⟨t, q, ht⟩)
          rw [ht] at hl
          obtain ⟨k, rfl⟩ : ∃ k, m = k + 1 := ⟨m - 1, by omega⟩
          rw [Nat.add_sub_cancel] at h3
          have hc2 : r.count 10 = (r.drop k).count 10 := by
            conv => lhs; rw [← List.take_append_drop k r, List.count_append, h3]
            omega
          rw [sp_word hc hl, sp_word hc ht, List.drop_succ_cons, List.drop_succ_cons, List.drop_append_of_le_length (by omega), List.drop_append_of_le_length (by omega), ih (r.drop k) ln (col + (k + 1)) _ (by rw [List.length_drop]; omega), hcount, hc2]
        · rw [ht] at hl
          rw [sp_bad hc hl, sp_bad hc ht]
          rfl
/-- The lines of two texts, one behind the other. -/
theorem join_is (a b : List Nat) : split (a ++ 10 :: b) = (split (a ++ [10])).then (fun m => (split b).up m) (a.count 10 + 1) := by
  have h := sp_join b a.length a 1 1 [] (Nat.le_refl _)
  have hu : ∀ m, sp b (1 + m) 1 [] = (split b).up m := fun m => sp_up m b.length b 1 1 [] (Nat.le_refl _)
  unfold split at *
  rw [h]
  cases hR : sp (a ++ [10]) 1 1 [] with
  | ok LL =>
    show (sp b (1 + (a.count 10 + 1)) 1 []).pre LL = ((sp b 1 1 []).up (a.count 10 + 1)).pre LL
    rw [hu]
  | bad => rfl
end Go.Proofs.Ytpebkdmoloiecaa.Ln
