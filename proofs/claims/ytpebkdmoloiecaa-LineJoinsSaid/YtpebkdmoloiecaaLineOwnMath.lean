/- Plain facts on one line, and on a text line by line. -/
import Derived.Test.YtpebkdmoloiecaaLineJoinMath
namespace Go.Proofs.Ytpebkdmoloiecaa.Ln

theorem takeWhile_all {p : Nat → Bool} : ∀ (r : List Nat), (∀ x ∈ r, p x = true) → r.takeWhile p = r
  | [], _ => rfl
  | c :: r, h => by rw [List.takeWhile_cons_of_pos (h c (by simp)), takeWhile_all r fun x hx => h x (by simp [hx])]
theorem tokq_end {r : List Nat} (h : ∀ x ∈ r, x ≠ 10) : tokq (r ++ [10]) = tokq r := by
  have e3 := takeWhile_stop (p := inq) (x := 10) (by rfl) r []
  have hl := takeWhile_le inq r
  unfold tokq
  rw [e3]
  have hc : ((r ++ [10]).length = (r.takeWhile inq).length ∨ (r ++ [10]).getD (r.takeWhile inq).length 0 = 10) = (r.length = (r.takeWhile inq).length ∨ r.getD (r.takeWhile inq).length 0 = 10) := by
    refine propext ?_
    rcases Nat.lt_or_ge (r.takeWhile inq).length r.length with hlt | hge
    · have hg : (r ++ [10]).getD (r.takeWhile inq).length 0 = r.getD (r.takeWhile inq).length 0 := by
        rw [List.getD_eq_getElem?_getD, List.getElem?_append_left hlt, List.getD_eq_getElem?_getD]
      have hne : r.getD (r.takeWhile inq).length 0 ≠ 10 := by
        rw [List.getD_eq_getElem?_getD, List.getElem?_eq_getElem hlt]
        exact h _ (List.getElem_mem hlt)
      rw [hg, List.length_append, List.length_singleton]
      constructor
      · rintro (h | h)
        · omega
        · exact absurd h hne
      · rintro (h | h)
        · omega
        · exact absurd h hne
    · constructor
      · intro _; left; omega
      · intro _
        right
        rw [List.getD_eq_getElem?_getD, List.getElem?_append_right (by omega), show (r.takeWhile inq).length - r.length = 0 from by omega]
        rfl
  simp only [hc]
theorem tok_end (c : Nat) {r : List Nat} (h : ∀ x ∈ r, x ≠ 10) : tok c (r ++ [10]) = tok c r := by
  unfold tok
  rw [tokq_end h, takeWhile_stop (p := noNl) (x := 10) (by rfl) r [], takeWhile_stop (p := plain) (x := 10) (by rfl) r []]
theorem tok_word_le {c m : Nat} {r t : List Nat} {q : Bool} (h : tok c r = .word t m q) : 1 ≤ m ∧ m ≤ r.length + 1 := by
  refine ⟨(tok_pos).2 t m q h, ?_⟩
  have h2 := takeWhile_le plain r
  unfold tok at h
  split at h
  · cases h
  split at h
  · cases h
  split at h
  · injection h with _ h _; omega
  split at h
  · exact (tokq_word h).2.2.1
  split at h
  · cases h
  split at h
  · cases h
  · injection h with _ h _; omega
theorem tok_skip_le {c m : Nat} {r : List Nat} (h : tok c r = .skip m) : 1 ≤ m ∧ m ≤ r.length + 1 := by
  refine ⟨(tok_pos).1 m h, ?_⟩
  have h2 := takeWhile_le noNl r
  unfold tok at h
  split at h
  · injection h with h; omega
  split at h
  · injection h with h; omega
  split at h
  · cases h
  split at h
  · exact (tokq_skip h).elim
  split at h
  · cases h
  split at h <;> cases h
/-- The end of a line changes nothing of what stands in it. -/
theorem sp_end : ∀ (n : Nat) (a : List Nat) (ln col : Nat) (row : List W), a.length ≤ n → (∀ x ∈ a, x ≠ 10) → sp (a ++ [10]) ln col row = sp a ln col row := by
  intro n
  induction n with
  | zero =>
    intro a ln col row h _
    obtain rfl := List.length_eq_zero_iff.1 (Nat.le_zero.1 h)
    rw [List.nil_append, sp_nl, sp_nil, sp_nil]
    simp [Res.pre, close]
  | succ n ih =>
    intro a ln col row h h10
    cases a with
    | nil =>
      rw [List.nil_append, sp_nl, sp_nil, sp_nil]
      simp [Res.pre, close]
    | cons c r =>
      rw [List.length_cons] at h
      have hc : c ≠ 10 := h10 c (by simp)
      have hr : ∀ x ∈ r, x ≠ 10 := fun x hx => h10 x (by simp [hx])
      have hdrop : ∀ k, ∀ x ∈ r.drop k, x ≠ 10 := fun k x hx => hr x (List.mem_of_mem_drop hx)
      have he := tok_end c hr
      rw [List.cons_append]
      rcases ht : tok c r with m | ⟨t, m, q⟩ | ⟨kd, o⟩
      · obtain ⟨h1, h2⟩ := tok_skip_le ht
        obtain ⟨k, rfl⟩ : ∃ k, m = k + 1 := ⟨m - 1, by omega⟩
        rw [sp_skip hc (he.trans ht), sp_skip hc ht, List.drop_succ_cons, List.drop_succ_cons, List.drop_append_of_le_length (by omega)]
        exact ih _ _ _ _ (by rw [List.length_drop]; omega) (hdrop k)
      · obtain ⟨h1, h2⟩ := tok_word_le ht
        obtain ⟨k, rfl⟩ : ∃ k, m = k + 1 := ⟨m - 1, by omega⟩
        rw [sp_word hc (he.trans ht), sp_word hc ht, List.drop_succ_cons, List.drop_succ_cons, List.drop_append_of_le_length (by omega)]
        exact ih _ _ _ _ (by rw [List.length_drop]; omega) (hdrop k)
      · rw [sp_bad hc (he.trans ht), sp_bad hc ht]
/-- A text's first line, and what comes behind it. -/
theorem sp_first {a : List Nat} (b : List Nat) (ln : Nat) (h : ∀ x ∈ a, x ≠ 10) : sp (a ++ 10 :: b) ln 1 [] = (sp a ln 1 []).then (fun m => sp b m 1 []) (ln + 1) := by
  have hc : a.count 10 = 0 := List.count_eq_zero.2 fun hm => h 10 hm rfl
  rw [sp_join b a.length a ln 1 [] (Nat.le_refl _), sp_end a.length a ln 1 [] (Nat.le_refl _) h, hc]
/-- How far a line is read. -/
def K (t : List Nat) (ln i : Nat) (R : List W) : Prop := i ≤ t.length ∧ sp t ln 1 [] = sp (t.drop i) ln (i + 1) R
theorem K.start (t : List Nat) (ln : Nat) : K t ln 0 [] := ⟨Nat.zero_le _, rfl⟩
theorem K.skip {t : List Nat} {ln i n : Nat} {R : List W} (h : K t ln i R) (hi : i < t.length) (hc : t.getD i 0 ≠ 10) (ht : tok (t.getD i 0) (t.drop (i + 1)) = .skip n) : K t ln (i + n) R := by
  have hn := (tok_skip_le ht).2
  rw [List.length_drop] at hn
  refine ⟨by omega, ?_⟩
  rw [h.2, drop_cons hi, sp_skip hc ht, ← drop_cons hi, List.drop_drop, show i + 1 + n = i + n + 1 from by omega]
theorem K.word {t s : List Nat} {ln i n : Nat} {q : Bool} {R : List W} (h : K t ln i R) (hi : i < t.length) (hc : t.getD i 0 ≠ 10) (ht : tok (t.getD i 0) (t.drop (i + 1)) = .word s n q) : K t ln (i + n) (R ++ [⟨s, ln, i + 1, q⟩]) := by
  have hn := (tok_word_le ht).2
  rw [List.length_drop] at hn
  refine ⟨by omega, ?_⟩
  rw [h.2, drop_cons hi, sp_word hc ht, ← drop_cons hi, List.drop_drop, show i + 1 + n = i + n + 1 from by omega]
theorem K.bad {t : List Nat} {ln i k o : Nat} {R : List W} (h : K t ln i R) (hi : i < t.length) (hc : t.getD i 0 ≠ 10) (ht : tok (t.getD i 0) (t.drop (i + 1)) = .bad k o) : sp t ln 1 [] = .bad k ln (i + 1 + o) := by
  rw [h.2, drop_cons hi, sp_bad hc ht]
theorem K.done {t : List Nat} {ln i : Nat} {R : List W} (h : K t ln i R) (hi : i = t.length) : sp t ln 1 [] = .ok (close R) := by
  rw [h.2, hi, List.drop_of_length_le (Nat.le_refl _), sp_nil]
/-- From a # on the line holds nothing. -/
theorem K.rest {t : List Nat} {ln i : Nat} {R : List W} (h : K t ln i R) (hi : i < t.length) (h10 : ∀ x ∈ t, x ≠ 10) (hc : t.getD i 0 = 35) : sp t ln 1 [] = .ok (close R) := by
  have hall : ((t.drop (i + 1)).takeWhile noNl).length = t.length - (i + 1) := by
    rw [takeWhile_all _ (fun x hx => by simp [noNl, h10 x (List.mem_of_mem_drop hx)]), List.length_drop]
  have ht : tok (t.getD i 0) (t.drop (i + 1)) = .skip (1 + (t.length - (i + 1))) := by rw [hc, tok_rest, hall]
  exact (h.skip hi (by omega) ht).done (by omega)
theorem K.blanks {t : List Nat} {ln i : Nat} {R : List W} : ∀ (d : Nat), K t ln i R → i + d ≤ t.length → (∀ y, i ≤ y → y < i + d → t.getD y 0 = 32 ∨ t.getD y 0 = 9) → K t ln (i + d) R
  | 0, h, _, _ => h
  | d + 1, h, hd, hb => by
    have h1 := K.blanks d h (by omega) fun y h2 h3 => hb y h2 (by omega)
    have hy := hb (i + d) (by omega) (by omega)
    exact h1.skip (n := 1) (by omega) (by omega) (tok_blank hy)
theorem tok_bad {c k o : Nat} {r : List Nat} (h : tok c r = .bad k o) : 1 ≤ k ∧ k ≤ 3 ∧ o ≤ r.length + 1 := by
  unfold tok at h
  split at h
  · cases h
  split at h
  · cases h
  split at h
  · cases h
  split at h
  · exact tokq_bad h
  split at h
  · injection h with h1 h2; omega
  split at h
  · injection h with h1 h2; omega
  · cases h
theorem takeWhile_where (p : Nat → Bool) : ∀ (r : List Nat) (k : Nat), k ≤ r.length → ((r.take k).takeWhile p).length = k ∨ p (r.getD ((r.take k).takeWhile p).length 0) = false
  | r, 0, _ => .inl rfl
  | [], k + 1, h => by simp at h
  | c :: r, k + 1, h => by
    rw [List.take_succ_cons]
    by_cases hc : p c = true
    · rw [List.takeWhile_cons_of_pos hc, List.length_cons, List.getD_cons_succ]
      rcases takeWhile_where p r k (by simpa using h) with h1 | h1
      · exact .inl (by omega)
      · exact .inr h1
    · rw [List.takeWhile_cons_of_neg hc]
      exact .inr (by simpa using hc)
/-- A text in quotes, by where the next quote is. -/
theorem tokq_open {r : List Nat} (h10 : ∀ x ∈ r, x ≠ 10) (h : ∀ y, y < r.length → r.getD y 0 ≠ 34) : tokq r = .bad 2 0 := by
  have hall : r.takeWhile inq = r := takeWhile_all _ fun x hx => by
    obtain ⟨y, hy, rfl⟩ := List.getElem_of_mem hx
    have h2 := h y hy
    rw [List.getD_eq_getElem?_getD, List.getElem?_eq_getElem hy] at h2
    have h3 := h10 _ (List.getElem_mem hy)
    simp only [Option.getD_some] at h2
    simp [inq, h2, h3]
  unfold tokq
  rw [hall, if_pos (.inl rfl)]
theorem tokq_shut {r : List Nat} {k m : Nat} (h10 : ∀ x ∈ r, x ≠ 10) (hk : k < r.length) (hq : r.getD k 0 = 34) (h : ∀ y, y < k → r.getD y 0 ≠ 34) (hmk : m ≤ k) (h3 : ∀ y, y < m → okq (r.getD y 0) = true) (h4 : m = k ∨ okq (r.getD m 0) = false) :
    tokq r = if 64 < k then .bad 3 0 else if m = k then .word (r.take k) (k + 2) true else .bad 1 (m + 1) := by
  have hs := quote_shut (b := 0 :: r) (i := 0) (k := k + 1) (m := m + 1) (by omega) (by rw [List.length_cons]; omega) (fun y h1 h2 => by
      obtain ⟨z, rfl⟩ : ∃ z, y = z + 1 := ⟨y - 1, by omega⟩
      rw [List.getD_cons_succ]
      have ha := h z (by omega)
      have hb : r.getD z 0 ≠ 10 := by
        rw [List.getD_eq_getElem?_getD, List.getElem?_eq_getElem (by omega)]
        exact h10 _ (List.getElem_mem _)
      simp only [inq, ne_eq, ha, hb, not_false_eq_true, decide_true, Bool.and_self]) (by rw [List.getD_cons_succ]; exact hq) (by omega) (by omega) (fun y h1 h2 => by
      obtain ⟨z, rfl⟩ : ∃ z, y = z + 1 := ⟨y - 1, by omega⟩
      rw [List.getD_cons_succ]
      exact h3 z (by omega)) (h4.elim (fun e => .inl (by omega)) (fun e => .inr (by rw [List.getD_cons_succ]; exact e)))
  rw [show List.drop (0 + 1) (0 :: r) = r from rfl, show k + 1 - (0 + 1) = k from by omega, show m + 1 - 0 = m + 1 from by omega] at hs
  rw [hs]
  simp only [Nat.add_right_cancel_iff]
end Go.Proofs.Ytpebkdmoloiecaa.Ln
