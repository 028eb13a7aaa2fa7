/- Plain facts on where words stand. -/
import Derived.Test.YtpebkdmoloiecaaLineMath
namespace Go.Proofs.Ytpebkdmoloiecaa.Ln

theorem take_run (p : Nat → Bool) (r : List Nat) : r.take (r.takeWhile p).length = r.takeWhile p :=
  (List.prefix_iff_eq_take.1 (List.takeWhile_prefix p)).symm
theorem run_stop {p : Nat → Bool} : ∀ (r : List Nat), (r.takeWhile p).length < r.length → p (r.getD (r.takeWhile p).length 0) = false
  | [], h => by simp at h
  | c :: r, h => by
    by_cases hc : p c = true
    · rw [List.takeWhile_cons_of_pos hc, List.length_cons, List.length_cons] at h
      rw [List.takeWhile_cons_of_pos hc, List.length_cons, List.getD_cons_succ]
      exact run_stop r (by omega)
    · rw [List.takeWhile_cons_of_neg hc]
      simpa using hc
/-- A word's own bytes. -/
def own (t : List Nat) (q : Bool) : List Nat := if q then 34 :: (t ++ [34]) else t
theorem own_len (t : List Nat) (q : Bool) : (own t q).length = t.length + (if q then 2 else 0) := by
  cases q <;> simp [own]
theorem tok_text {c n : Nat} {r t : List Nat} {q : Bool} (h : tok c r = .word t n q) : (c :: r).take n = own t q ∧ n = (own t q).length ∧ 1 ≤ n ∧ n ≤ r.length + 1 := by
  unfold tok at h
  split at h
  · cases h
  split at h
  · cases h
  split at h
  · injection h with h1 h2 h3
    subst h1 h2 h3
    exact ⟨rfl, rfl, Nat.le_refl _, by omega⟩
  split at h
  · rename_i _ _ _ h34
    subst h34
    unfold tokq at h
    split at h
    · cases h
    · rename_i hne
      split at h
      · cases h
      · split at h
        · injection h with h1 h2 h3
          have hl := takeWhile_le inq r
          have hlt : (r.takeWhile inq).length < r.length := by
            rcases Nat.lt_or_ge (r.takeWhile inq).length r.length with h | h
            · exact h
            · exact absurd (.inl (by omega)) hne
          have hs := run_stop r hlt
          have h34 : r.getD (r.takeWhile inq).length 0 = 34 := by
            have h10 : r.getD (r.takeWhile inq).length 0 ≠ 10 := fun e => hne (.inr e)
            simp only [inq, Bool.and_eq_false_iff, decide_eq_false_iff_not, ne_eq, Classical.not_not] at hs
            rcases hs with hs | hs
            · exact hs
            · exact absurd hs h10
          subst h1 h2 h3
          refine ⟨?_, by rw [own_len]; rfl, by omega, by omega⟩
          rw [show (r.takeWhile inq).length + 2 = (r.takeWhile inq).length + 1 + 1 from rfl, List.take_succ_cons, List.take_add_one, take_run, List.getElem?_eq_getElem hlt]
          rw [List.getD_eq_getElem?_getD, List.getElem?_eq_getElem hlt] at h34
          rw [show r[(r.takeWhile inq).length] = 34 from h34]
          rfl
        · cases h
  split at h
  · cases h
  split at h
  · cases h
  · injection h with h1 h2 h3
    have hl := takeWhile_le plain r
    subst h1 h2 h3
    refine ⟨?_, by rw [own_len]; simp, by omega, by omega⟩
    rw [List.take_succ_cons, take_run]
    rfl
theorem tok_skip_le2 {c n : Nat} {r : List Nat} (h : tok c r = .skip n) : 1 ≤ n ∧ n ≤ r.length + 1 := by
  have hp := (@tok_pos c r).1 n h
  refine ⟨hp, ?_⟩
  have hl := takeWhile_le noNl r
  unfold tok at h
  split at h
  · injection h with h; omega
  split at h
  · injection h with h; omega
  split at h
  · cases h
  split at h
  · exact (tokq_skip h).elim
  split at h
  · cases h
  split at h <;> cases h
theorem run_getD {p : Nat → Bool} : ∀ (r : List Nat) (y : Nat), y < (r.takeWhile p).length → p (r.getD y 0) = true
  | [], y, h => by simp at h
  | c :: r, y, h => by
    by_cases hc : p c = true
    · rw [List.takeWhile_cons_of_pos hc, List.length_cons] at h
      cases y with
      | zero => simpa using hc
      | succ y => rw [List.getD_cons_succ]; exact run_getD r y (by omega)
    · rw [List.takeWhile_cons_of_neg hc] at h
      simp at h
/-- What a token takes holds no end of a line. -/
theorem tok_nl {c : Nat} {r : List Nat} {m : Nat} (h : tok c r = .skip m ∨ ∃ t q, tok c r = .word t m q) (y : Nat) (hy : y < m - 1) : r.getD y 0 ≠ 10 := by
  unfold tok tokq at h
  split at h
  · rcases h with h | ⟨t, q, h⟩
    · injection h with h; omega
    · cases h
  split at h
  · rcases h with h | ⟨t, q, h⟩
    · injection h with h
      have := run_getD (p := noNl) r y (by omega)
      simpa [noNl] using this
    · cases h
  split at h
  · rcases h with h | ⟨t, q, h⟩
    · cases h
    · injection h with _ h _; omega
  split at h
  · split at h
    · rcases h with h | ⟨t, q, h⟩ <;> cases h
    · rename_i hne
      split at h
      · rcases h with h | ⟨t, q, h⟩ <;> cases h
      · split at h
        · rcases h with h | ⟨t, q, h⟩
          · cases h
          · injection h with _ h _
            by_cases hy2 : y < (r.takeWhile inq).length
            · have := run_getD (p := inq) r y hy2
              simp [inq] at this
              exact this.2
            · have hy3 : y = (r.takeWhile inq).length := by omega
              intro e
              refine hne (.inr ?_)
              rw [← hy3, e]
        · rcases h with h | ⟨t, q, h⟩ <;> cases h
  split at h
  · rcases h with h | ⟨t, q, h⟩ <;> cases h
  split at h
  · rcases h with h | ⟨t, q, h⟩ <;> cases h
  · rcases h with h | ⟨t, q, h⟩
    · cases h
    · injection h with _ h _
      have := run_getD (p := plain) r y (by omega)
      intro e
      rw [e] at this
      exact absurd this (by decide)
theorem count_on {b : List Nat} {i m : Nat} (hi : i + m ≤ b.length) (h : ∀ y, i ≤ y → y < i + m → b.getD y 0 ≠ 10) : (b.take (i + m)).count 10 = (b.take i).count 10 := by
  rw [List.take_add, List.count_append]
  have : ((b.drop i).take m).count 10 = 0 := by
    rw [List.count_eq_zero]
    intro hm
    obtain ⟨y, hy, e⟩ := List.getElem_of_mem hm
    rw [List.length_take, List.length_drop] at hy
    rw [List.getElem_take, List.getElem_drop] at e
    refine h (i + y) (by omega) (by omega) ?_
    rw [List.getD_eq_getElem?_getD, List.getElem?_eq_getElem (by omega)]
    exact e
  omega
/-- Where a line begins. -/
def Start (b : List Nat) (ln fr : Nat) : Prop := fr ≤ b.length ∧ (b.take fr).count 10 + 1 = ln ∧ (fr = 0 ∨ b.getD (fr - 1) 0 = 10)
theorem start_one (b : List Nat) : Start b 1 0 := ⟨Nat.zero_le _, by simp, .inl rfl⟩
/-- Words that stand one behind the other, each where it is said. -/
def Pl (b : List Nat) : Nat → List W → Nat → Prop
  | lo, [], hi => lo ≤ hi
  | lo, x :: xs, hi => ∃ fr, Start b x.line fr ∧ 1 ≤ x.col ∧ lo ≤ fr + x.col - 1 ∧ fr + x.col - 1 + (own x.text x.q).length ≤ b.length ∧ 1 ≤ (own x.text x.q).length ∧ (b.drop (fr + x.col - 1)).take (own x.text x.q).length = own x.text x.q ∧ Pl b (fr + x.col - 1 + (own x.text x.q).length) xs hi
theorem Pl.more {b : List Nat} : ∀ {xs : List W} {lo hi hi' : Nat}, Pl b lo xs hi → hi ≤ hi' → Pl b lo xs hi'
  | [], _, _, _, h, h' => Nat.le_trans h h'
  | _ :: _, _, _, _, ⟨fr, a1, a2, a3, a4, a5, a6, h⟩, h' => ⟨fr, a1, a2, a3, a4, a5, a6, h.more h'⟩
theorem Pl.append {b : List Nat} : ∀ {xs ys : List W} {lo mid hi : Nat}, Pl b lo xs mid → Pl b mid ys hi → Pl b lo (xs ++ ys) hi
  | [], [], _, _, _, h, h' => Nat.le_trans h h'
  | [], _ :: _, _, _, _, h, ⟨fr, a1, a2, a3, a4, a5, a6, h'⟩ => ⟨fr, a1, a2, Nat.le_trans h a3, a4, a5, a6, h'⟩
  | _ :: _, _, _, _, _, ⟨fr, a1, a2, a3, a4, a5, a6, h⟩, h' => ⟨fr, a1, a2, a3, a4, a5, a6, h.append h'⟩
/-- A line that has words, all of one line. -/
def Row (R : List W) : Prop := R ≠ [] ∧ ∃ ln, ∀ x ∈ R, x.line = ln
theorem flat_close (row : List W) : (close row).flatten = row := by cases row <;> simp [close]
theorem row_close {row : List W} {ln : Nat} (h : ∀ x ∈ row, x.line = ln) : ∀ R ∈ close row, Row R := by
  intro R hR
  cases row with
  | nil => simp [close] at hR
  | cons x r =>
    simp only [close, List.mem_cons, List.not_mem_nil, or_false] at hR
    subst hR
    exact ⟨by simp, ln, h⟩
theorem sp_places (b : List Nat) : ∀ (n i ln fr : Nat) (row : List W) (lo mid : Nat) (LL : List (List W)), b.length - i ≤ n → i ≤ b.length → Start b ln fr → fr ≤ i → (b.take i).count 10 = (b.take fr).count 10 → Pl b lo row mid → mid ≤ i → (∀ x ∈ row, x.line = ln) →
    sp (b.drop i) ln (i - fr + 1) row = .ok LL → (∃ hi, Pl b lo LL.flatten hi ∧ hi ≤ b.length) ∧ ∀ R ∈ LL, Row R := by
  intro n
  induction n with
  | zero =>
    intro i ln fr row lo mid LL hn hi _ _ _ hp hm hl h
    rw [List.drop_of_length_le (by omega), sp_nil] at h
    injection h with h
    subst h
    rw [flat_close]
    exact ⟨⟨mid, hp, by omega⟩, row_close hl⟩
  | succ n ih =>
    intro i ln fr row lo mid LL hn hi hst hfr hc hp hm hl h
    rcases Nat.lt_or_ge i b.length with hib | hib
    · have hd := drop_cons hib
      obtain ⟨c, hcc⟩ : ∃ c, b.getD i 0 = c := ⟨_, rfl⟩
      rw [hd, hcc] at h
      have hrl : (b.drop (i + 1)).length = b.length - (i + 1) := List.length_drop
      by_cases h10 : c = 10
      · subst h10
        rw [sp_nl] at h
        cases hR : sp (b.drop (i + 1)) (ln + 1) 1 [] with
        | bad k l2 c2 => rw [hR] at h; cases h
        | ok L2 =>
          rw [hR] at h
          injection h with h
          subst h
          have hcnt : (b.take (i + 1)).count 10 = (b.take fr).count 10 + 1 := by
            rw [List.take_add_one, List.count_append, hc, List.getElem?_eq_getElem hib]
            rw [List.getD_eq_getElem?_getD, List.getElem?_eq_getElem hib] at hcc
            rw [show b[i] = 10 from hcc]
            rfl
          have hst2 : Start b (ln + 1) (i + 1) := ⟨hib, by rw [hcnt]; have := hst.2.1; omega, .inr (by rw [Nat.add_sub_cancel]; exact hcc)⟩
          have := ih (i + 1) (ln + 1) (i + 1) [] mid mid L2 (by omega) hib hst2 (Nat.le_refl _) rfl (Nat.le_refl mid) (by omega) (by simp) (by rw [Nat.sub_self]; exact hR)
          obtain ⟨⟨hi2, hp2, hb2⟩, hr2⟩ := this
          refine ⟨⟨hi2, ?_, hb2⟩, fun R hR => ?_⟩
          · rw [List.flatten_append, flat_close]
            exact hp.append hp2
          · rcases List.mem_append.1 hR with hR | hR
            · exact row_close hl R hR
            · exact hr2 R hR
      · have hcl : ∀ m, tok c (b.drop (i + 1)) = .skip m ∨ (∃ t q, tok c (b.drop (i + 1)) = .word t m q) → 1 ≤ m → ∀ y, i ≤ y → y < i + m → b.getD y 0 ≠ 10 := fun m hm h1 y hy hy2 => by
          rcases Nat.lt_or_ge i y with h3 | h3
          · have := tok_nl hm (y - (i + 1)) (by omega)
            rwa [drop_getD, show i + 1 + (y - (i + 1)) = y from by omega] at this
          · rw [show y = i from by omega, hcc]
            exact h10
        rcases ht : tok c (b.drop (i + 1)) with m | ⟨t, m, q⟩ | ⟨k, o⟩
        · obtain ⟨hm1, hm2⟩ := tok_skip_le2 ht
          rw [hrl] at hm2
          rw [sp_skip h10 ht, ← hcc, ← hd, List.drop_drop, show i - fr + 1 + m = i + m - fr + 1 from by omega] at h
          exact ih (i + m) ln fr row lo mid LL (by omega) (by omega) hst (by omega) (by rw [count_on (by omega) (hcl m (.inl ht) hm1), hc]) hp (by omega) hl h
        · obtain ⟨ht1, ht2, hm1, hm2⟩ := tok_text ht
          rw [hrl] at hm2
          rw [sp_word h10 ht] at h
          rw [← hcc, ← hd, List.drop_drop, show i - fr + 1 + m = i + m - fr + 1 from by omega] at h
          rw [← hcc, ← hd, ht2] at ht1
          have hpos : fr + (i - fr + 1) - 1 = i := by omega
          refine ih (i + m) ln fr (row ++ [⟨t, ln, i - fr + 1, q⟩]) lo (i + m) LL (by omega) (by omega) hst (by omega) (by rw [count_on (by omega) (hcl m (.inr ⟨t, q, ht⟩) hm1), hc]) (hp.append ?_) (Nat.le_refl _) ?_ h
          · refine ⟨fr, hst, Nat.succ_le_succ (Nat.zero_le _), ?_, ?_, ?_, ?_, ?_⟩
            · show mid ≤ fr + (i - fr + 1) - 1
              omega
            · show fr + (i - fr + 1) - 1 + (own t q).length ≤ b.length
              omega
            · show 1 ≤ (own t q).length
              omega
            · show (b.drop (fr + (i - fr + 1) - 1)).take (own t q).length = own t q
              rw [hpos]
              exact ht1
            · show fr + (i - fr + 1) - 1 + (own t q).length ≤ i + m
              omega
          · intro x hx
            rcases List.mem_append.1 hx with hx | hx
            · exact hl x hx
            · simp at hx
              rw [hx]
        · rw [sp_bad h10 ht] at h
          cases h
    · rw [List.drop_of_length_le (by omega), sp_nil] at h
      injection h with h
      subst h
      rw [flat_close]
      exact ⟨⟨mid, hp, by omega⟩, row_close hl⟩
/-- Each word of a text stands where it is said, one behind the other; each line has words, all of one line. -/
theorem places_is {b : List Nat} {LL : List (List W)} (h : split b = .ok LL) : (∃ hi, Pl b 0 LL.flatten hi ∧ hi ≤ b.length) ∧ ∀ R ∈ LL, Row R :=
  sp_places b b.length 0 1 0 [] 0 0 LL (by omega) (Nat.zero_le _) (start_one b) (Nat.le_refl _) rfl (Nat.le_refl 0) (Nat.le_refl _) (by simp) h
end Go.Proofs.Ytpebkdmoloiecaa.Ln
