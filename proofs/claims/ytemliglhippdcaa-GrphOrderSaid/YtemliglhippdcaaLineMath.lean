/- Plain facts on lines and words: what a text is, word by word. -/
namespace Go.Proofs.Ytemliglhippdcaa.Ln
set_option maxRecDepth 100000

structure W where
  text : List Nat
  line : Nat
  col : Nat
  q : Bool
def sign (c : Nat) : Bool := decide (c = 58) || decide (c = 124) || decide (c = 61) || decide (c = 59) || decide (c = 44)
def plain (c : Nat) : Bool := decide (32 < c) && decide (c < 127) && decide (c ≠ 34) && !sign c
def inq (c : Nat) : Bool := decide (c ≠ 34) && decide (c ≠ 10)
def okq (c : Nat) : Bool := decide (32 ≤ c) && decide (c ≤ 126)
def noNl (c : Nat) : Bool := decide (c ≠ 10)
/-- What stands at a place: so many bytes that are no word; a word of so many bytes; a fault, so far on. -/
inductive Tok where
  | skip (n : Nat)
  | word (t : List Nat) (n : Nat) (q : Bool)
  | bad (k o : Nat)
def tokq (r : List Nat) : Tok :=
  if r.length = (r.takeWhile inq).length ∨ r.getD (r.takeWhile inq).length 0 = 10 then .bad 2 0
  else if 64 < (r.takeWhile inq).length then .bad 3 0
  else if (r.takeWhile inq).all okq then .word (r.takeWhile inq) ((r.takeWhile inq).length + 2) true
  else .bad 1 (1 + ((r.takeWhile inq).takeWhile okq).length)
def tok (c : Nat) (r : List Nat) : Tok :=
  if c = 32 ∨ c = 9 then .skip 1
  else if c = 35 then .skip (1 + (r.takeWhile noNl).length)
  else if sign c then .word [c] 1 false
  else if c = 34 then tokq r
  else if c < 33 ∨ 126 < c then .bad 1 0
  else if 64 < (r.takeWhile plain).length + 1 then .bad 3 0
  else .word (c :: r.takeWhile plain) ((r.takeWhile plain).length + 1) false
inductive Res where
  | ok (L : List (List W))
  | bad (k ln col : Nat)
def Res.pre (o : List (List W)) : Res → Res
  | .ok L => .ok (o ++ L)
  | .bad k ln col => .bad k ln col
def close : List W → List (List W)
  | [] => []
  | x :: r => [x :: r]
def go : Nat → List Nat → Nat → Nat → List W → Res
  | 0, _, _, _, row => .ok (close row)
  | _ + 1, [], _, _, row => .ok (close row)
  | f + 1, c :: r, ln, col, row =>
    if c = 10 then (go f r (ln + 1) 1 []).pre (close row)
    else match tok c r with
      | .skip n => go f ((c :: r).drop n) ln (col + n) row
      | .word t n q => go f ((c :: r).drop n) ln (col + n) (row ++ [⟨t, ln, col, q⟩])
      | .bad k o => .bad k ln (col + o)
/-- What a text is from a place on, behind the words of its line so far. -/
def sp (l : List Nat) (ln col : Nat) (row : List W) : Res := go (l.length + 1) l ln col row
def split (l : List Nat) : Res := sp l 1 1 []

theorem Res.pre_nil (R : Res) : R.pre [] = R := by cases R <;> rfl
theorem Res.pre_pre (a b : List (List W)) (R : Res) : (R.pre b).pre a = R.pre (a ++ b) := by
  cases R with
  | ok L => simp [Res.pre]
  | bad => rfl
def Tok.some : Tok → Prop
  | .skip n => 1 ≤ n
  | .word _ n _ => 1 ≤ n
  | .bad _ _ => True
theorem tokq_some (r : List Nat) : (tokq r).some := by
  unfold tokq
  split
  · trivial
  split
  · trivial
  split
  · show 1 ≤ _ + 2; omega
  · trivial
theorem tok_some (c : Nat) (r : List Nat) : (tok c r).some := by
  unfold tok
  split
  · exact Nat.le_refl 1
  split
  · show 1 ≤ 1 + _; omega
  split
  · exact Nat.le_refl 1
  split
  · exact tokq_some r
  split
  · trivial
  split
  · trivial
  · show 1 ≤ _ + 1; omega
theorem tok_pos {c : Nat} {r : List Nat} : (∀ n, tok c r = .skip n → 1 ≤ n) ∧ ∀ t n q, tok c r = .word t n q → 1 ≤ n := by
  have h := tok_some c r
  exact ⟨fun n e => by rw [e] at h; exact h, fun t n q e => by rw [e] at h; exact h⟩
theorem go_fuel : ∀ (f g : Nat) (l : List Nat) (ln col : Nat) (row : List W), l.length < f → l.length < g → go f l ln col row = go g l ln col row
  | 0, _, _, _, _, _, h, _ => by omega
  | _, 0, _, _, _, _, _, h => by omega
  | f + 1, g + 1, [], ln, col, row, _, _ => rfl
  | f + 1, g + 1, c :: r, ln, col, row, hf, hg => by
    simp only [List.length_cons] at hf hg
    unfold go
    split
    · rw [go_fuel f g r _ _ _ (by omega) (by omega)]
    · have hp := @tok_pos c r
      split
      · rename_i n h
        have := hp.1 n h
        exact go_fuel f g _ _ _ _ (by rw [List.length_drop, List.length_cons]; omega) (by rw [List.length_drop, List.length_cons]; omega)
      · rename_i t n q h
        have := hp.2 t n q h
        exact go_fuel f g _ _ _ _ (by rw [List.length_drop, List.length_cons]; omega) (by rw [List.length_drop, List.length_cons]; omega)
      · rfl
theorem sp_nil (ln col : Nat) (row : List W) : sp [] ln col row = .ok (close row) := rfl
theorem sp_nl (r : List Nat) (ln col : Nat) (row : List W) : sp (10 :: r) ln col row = (sp r (ln + 1) 1 []).pre (close row) := by
  unfold sp
  rw [List.length_cons, go, if_pos rfl]
theorem sp_tok {c : Nat} (r : List Nat) (ln col : Nat) (row : List W) (h : c ≠ 10) : sp (c :: r) ln col row = match tok c r with
    | .skip n => sp ((c :: r).drop n) ln (col + n) row
    | .word t n q => sp ((c :: r).drop n) ln (col + n) (row ++ [⟨t, ln, col, q⟩])
    | .bad k o => .bad k ln (col + o) := by
  have hp := @tok_pos c r
  unfold sp
  rw [List.length_cons, go, if_neg h]
  split
  · rename_i n h
    have := hp.1 n h
    exact go_fuel _ _ _ _ _ _ (by rw [List.length_drop, List.length_cons]; omega) (by omega)
  · rename_i t n q h
    have := hp.2 t n q h
    exact go_fuel _ _ _ _ _ _ (by rw [List.length_drop, List.length_cons]; omega) (by omega)
  · rfl
theorem sp_skip {c n : Nat} {r : List Nat} {ln col : Nat} {row : List W} (h : c ≠ 10) (ht : tok c r = .skip n) : sp (c :: r) ln col row = sp ((c :: r).drop n) ln (col + n) row := by
  rw [sp_tok r ln col row h, ht]
theorem sp_word {c n : Nat} {t : List Nat} {q : Bool} {r : List Nat} {ln col : Nat} {row : List W} (h : c ≠ 10) (ht : tok c r = .word t n q) : sp (c :: r) ln col row = sp ((c :: r).drop n) ln (col + n) (row ++ [⟨t, ln, col, q⟩]) := by
  rw [sp_tok r ln col row h, ht]
theorem sp_bad {c k o : Nat} {r : List Nat} {ln col : Nat} {row : List W} (h : c ≠ 10) (ht : tok c r = .bad k o) : sp (c :: r) ln col row = .bad k ln (col + o) := by
  rw [sp_tok r ln col row h, ht]
theorem takeWhile_at (p : Nat → Bool) : ∀ (r : List Nat) (j : Nat), j ≤ r.length → (∀ x, x < j → p (r.getD x 0) = true) → (j < r.length → p (r.getD j 0) = false) → r.takeWhile p = r.take j
  | [], j, _, _, _ => by simp
  | c :: r, 0, _, _, h2 => by
    have := h2 (by simp)
    rw [List.getD_cons_zero] at this
    rw [List.takeWhile_cons_of_neg (by rw [this]; simp)]
    rfl
  | c :: r, j + 1, hj, h1, h2 => by
    have h0 := h1 0 (by omega)
    rw [List.getD_cons_zero] at h0
    rw [List.takeWhile_cons_of_pos h0, List.take_succ_cons, takeWhile_at p r j (by simpa using hj) (fun x hx => by have := h1 (x + 1) (by omega); rwa [List.getD_cons_succ] at this) (fun hlt => by have := h2 (by simpa using hlt); rwa [List.getD_cons_succ] at this)]
theorem sign_split (x : Nat) : (sign x = true ∧ (x = 58 ∨ x = 124 ∨ x = 61 ∨ x = 59 ∨ x = 44)) ∨ (sign x = false ∧ x ≠ 58 ∧ x ≠ 124 ∧ x ≠ 61 ∧ x ≠ 59 ∧ x ≠ 44) := by
  by_cases h : sign x = true
  · refine .inl ⟨h, ?_⟩
    simp [sign] at h
    omega
  · refine .inr ⟨by simpa using h, ?_⟩
    simp [sign] at h
    omega
theorem drop_getD (b : List Nat) (i y : Nat) : (b.drop i).getD y 0 = b.getD (i + y) 0 := by rw [List.getD_eq_getElem?_getD, List.getElem?_drop, ← List.getD_eq_getElem?_getD]
/-- So many bytes from a place on, and no more. -/
theorem takeWhile_from (p : Nat → Bool) (b : List Nat) (i k : Nat) (hi : i ≤ k) (hk : k ≤ b.length) (h1 : ∀ y, i ≤ y → y < k → p (b.getD y 0) = true) (h2 : k < b.length → p (b.getD k 0) = false) :
    (b.drop i).takeWhile p = (b.drop i).take (k - i) ∧ ((b.drop i).takeWhile p).length = k - i := by
  have h := takeWhile_at p (b.drop i) (k - i) (by rw [List.length_drop]; omega) (fun x hx => by rw [drop_getD]; exact h1 _ (by omega) (by omega)) (fun hlt => by
    rw [List.length_drop] at hlt
    rw [drop_getD, show i + (k - i) = k from by omega]
    exact h2 (by omega))
  refine ⟨h, ?_⟩
  rw [h, List.length_take, List.length_drop]
  omega
theorem quote_run {b : List Nat} {i k : Nat} (hi : i + 1 ≤ k) (hk : k ≤ b.length) (h1 : ∀ y, i + 1 ≤ y → y < k → inq (b.getD y 0) = true) (h2 : k < b.length → inq (b.getD k 0) = false) :
    (b.drop (i + 1)).takeWhile inq = (b.drop (i + 1)).take (k - (i + 1)) ∧ ((b.drop (i + 1)).takeWhile inq).length = k - (i + 1) := takeWhile_from inq b (i + 1) k hi hk h1 h2
theorem quote_open {b : List Nat} {i k : Nat} (hi : i + 1 ≤ k) (hk : k ≤ b.length) (h1 : ∀ y, i + 1 ≤ y → y < k → inq (b.getD y 0) = true) (h2 : k = b.length ∨ b.getD k 0 = 10) : tokq (b.drop (i + 1)) = .bad 2 0 := by
  have hr := (quote_run hi hk h1 (fun hlt => by
    rcases h2 with h2 | h2
    · omega
    · rw [h2]; rfl)).2
  unfold tokq
  rw [hr, if_pos]
  rcases h2 with h2 | h2
  · left; rw [List.length_drop]; omega
  · right; rw [drop_getD, show i + 1 + (k - (i + 1)) = k from by omega]; exact h2
theorem quote_shut {b : List Nat} {i k m : Nat} (hi : i + 1 ≤ k) (hk : k < b.length) (h1 : ∀ y, i + 1 ≤ y → y < k → inq (b.getD y 0) = true) (h2 : b.getD k 0 = 34) (hm : i + 1 ≤ m) (hmk : m ≤ k)
    (h3 : ∀ y, i + 1 ≤ y → y < m → okq (b.getD y 0) = true) (h4 : m = k ∨ okq (b.getD m 0) = false) :
    tokq (b.drop (i + 1)) = if 64 < k - (i + 1) then .bad 3 0 else if m = k then .word ((b.drop (i + 1)).take (k - (i + 1))) (k - (i + 1) + 2) true else .bad 1 (m - i) := by
  obtain ⟨e1, e2⟩ := quote_run hi (Nat.le_of_lt hk) h1 (fun _ => by rw [h2]; rfl)
  have hne : ¬ ((b.drop (i + 1)).length = k - (i + 1) ∨ (b.drop (i + 1)).getD (k - (i + 1)) 0 = 10) := by
    rintro (h | h)
    · rw [List.length_drop] at h; omega
    · rw [drop_getD, show i + 1 + (k - (i + 1)) = k from by omega, h2] at h; omega
  unfold tokq
  rw [e2, if_neg hne]
  split
  · rfl
  · rw [e1]
    by_cases hmk' : m = k
    · subst hmk'
      rw [if_pos rfl, if_pos]
      rw [List.all_eq_true]
      intro c hc
      obtain ⟨j, hj, rfl⟩ := List.getElem_of_mem hc
      rw [List.length_take, List.length_drop] at hj
      have := h3 (i + 1 + j) (by omega) (by omega)
      rw [List.getElem_take, List.getElem_drop]
      rwa [List.getD_eq_getElem?_getD, List.getElem?_eq_getElem (by omega)] at this
    · have h5 := h4.resolve_left hmk'
      rw [if_neg hmk', if_neg]
      · have e3 : List.takeWhile okq (List.take (k - (i + 1)) (List.drop (i + 1) b)) = (List.take (k - (i + 1)) (List.drop (i + 1) b)).take (m - (i + 1)) := by
          have hgd : ∀ y, y < k - (i + 1) → (List.take (k - (i + 1)) (List.drop (i + 1) b)).getD y 0 = b.getD (i + 1 + y) 0 := fun y hy => by
            rw [List.getD_eq_getElem?_getD, List.getElem?_take, if_pos hy, List.getElem?_drop, ← List.getD_eq_getElem?_getD]
          exact takeWhile_at okq _ _ (by rw [List.length_take, List.length_drop]; omega) (fun y hy => by rw [hgd y (by omega)]; exact h3 _ (by omega) (by omega)) (fun _ => by rw [hgd _ (by omega), show i + 1 + (m - (i + 1)) = m from by omega]; exact h5)
        rw [e3, List.length_take, List.length_take, List.length_drop]
        congr 1
        omega
      · intro h
        rw [List.all_eq_true] at h
        have := h (b.getD m 0) (by
          rw [List.getD_eq_getElem?_getD, List.getElem?_eq_getElem (by omega), Option.getD_some]
          rw [List.mem_iff_getElem]
          refine ⟨m - (i + 1), by rw [List.length_take, List.length_drop]; omega, ?_⟩
          rw [List.getElem_take, List.getElem_drop]
          congr 1
          omega)
        rw [h5] at this
        cases this
/-- How far a text is read: what is left is what the rest is behind that; or all is done. -/
def J (b : List Nat) (i ln fr : Nat) (O : List (List W)) (R : List W) : Prop :=
  (i ≤ b.length ∧ split b = (sp (b.drop i) ln (i - fr + 1) R).pre O) ∨ (i = b.length + 1 ∧ split b = .ok O ∧ R = [])
theorem J.start (b : List Nat) : J b 0 1 0 [] [] := .inl ⟨Nat.zero_le _, by rw [Res.pre_nil]; rfl⟩
theorem J.at {b : List Nat} {i ln fr : Nat} {O : List (List W)} {R : List W} (h : J b i ln fr O R) (hi : i ≤ b.length) : split b = (sp (b.drop i) ln (i - fr + 1) R).pre O := by
  rcases h with h | h
  · exact h.2
  · omega
theorem drop_cons {b : List Nat} {i : Nat} (hi : i < b.length) : b.drop i = b.getD i 0 :: b.drop (i + 1) := by
  rw [List.drop_eq_getElem_cons hi, List.getD_eq_getElem?_getD, List.getElem?_eq_getElem hi]
  rfl
theorem J.done {b : List Nat} {i ln fr : Nat} {O : List (List W)} {R : List W} (h : J b i ln fr O R) (hi : i = b.length) : J b (i + 1) (ln + 1) (i + 1) (O ++ close R) [] := by
  refine .inr ⟨by omega, ?_, rfl⟩
  rw [h.at (by omega), List.drop_of_length_le (by omega), sp_nil]
  rfl
theorem J.nl {b : List Nat} {i ln fr : Nat} {O : List (List W)} {R : List W} (h : J b i ln fr O R) (hi : i < b.length) (hc : b.getD i 0 = 10) : J b (i + 1) (ln + 1) (i + 1) (O ++ close R) [] := by
  refine .inl ⟨hi, ?_⟩
  rw [h.at (by omega), drop_cons hi, hc, sp_nl, Res.pre_pre, Nat.sub_self]
theorem J.skip {b : List Nat} {i ln fr n : Nat} {O : List (List W)} {R : List W} (h : J b i ln fr O R) (hi : i < b.length) (hfr : fr ≤ i) (hc : b.getD i 0 ≠ 10) (ht : tok (b.getD i 0) (b.drop (i + 1)) = .skip n) (hn : i + n ≤ b.length) : J b (i + n) ln fr O R := by
  refine .inl ⟨hn, ?_⟩
  rw [h.at (by omega), drop_cons hi, sp_skip hc ht, ← drop_cons hi, List.drop_drop, show i - fr + 1 + n = i + n - fr + 1 from by omega]
theorem J.word {b t : List Nat} {i ln fr n : Nat} {q : Bool} {O : List (List W)} {R : List W} (h : J b i ln fr O R) (hi : i < b.length) (hfr : fr ≤ i) (hc : b.getD i 0 ≠ 10) (ht : tok (b.getD i 0) (b.drop (i + 1)) = .word t n q) (hn : i + n ≤ b.length) :
    J b (i + n) ln fr O (R ++ [⟨t, ln, i - fr + 1, q⟩]) := by
  refine .inl ⟨hn, ?_⟩
  rw [h.at (by omega), drop_cons hi, sp_word hc ht, ← drop_cons hi, List.drop_drop, show i - fr + 1 + n = i + n - fr + 1 from by omega]
theorem J.bad {b : List Nat} {i ln fr k o : Nat} {O : List (List W)} {R : List W} (h : J b i ln fr O R) (hi : i < b.length) (hc : b.getD i 0 ≠ 10) (ht : tok (b.getD i 0) (b.drop (i + 1)) = .bad k o) : split b = .bad k ln (i - fr + 1 + o) := by
  rw [h.at (by omega), drop_cons hi, sp_bad hc ht]
  rfl
theorem tok_blank {c : Nat} {r : List Nat} (h : c = 32 ∨ c = 9) : tok c r = .skip 1 := by rw [tok, if_pos h]
theorem tok_rest {r : List Nat} : tok 35 r = .skip (1 + (r.takeWhile noNl).length) := by rw [tok, if_neg (by omega), if_pos rfl]
theorem sign_ne {c : Nat} (h : sign c = true) : ¬ (c = 32 ∨ c = 9) ∧ c ≠ 35 ∧ c ≠ 10 ∧ c ≠ 34 := by
  rcases sign_split c with ⟨_, h⟩ | ⟨h', _⟩
  · omega
  · rw [h] at h'; cases h'
theorem tok_sign {c : Nat} {r : List Nat} (h : sign c = true) : tok c r = .word [c] 1 false := by
  have := sign_ne h
  rw [tok, if_neg this.1, if_neg this.2.1, if_pos h]
theorem tok_quote {r : List Nat} : tok 34 r = tokq r := by
  rw [tok, if_neg (by omega), if_neg (by omega), if_neg (by decide), if_pos rfl]
theorem tok_byte {c : Nat} {r : List Nat} (h0 : ¬ (c = 32 ∨ c = 9)) (h : c < 33 ∨ 126 < c) (hs : sign c = false) : tok c r = .bad 1 0 := by
  rw [tok, if_neg h0, if_neg (by omega), if_neg (by rw [hs]; simp), if_neg (by omega), if_pos h]
theorem tok_plain {c : Nat} {r : List Nat} (h : 33 ≤ c ∧ c ≤ 126) (h1 : c ≠ 35) (h2 : c ≠ 34) (hs : sign c = false) : tok c r = if 64 < (r.takeWhile plain).length + 1 then .bad 3 0 else .word (c :: r.takeWhile plain) ((r.takeWhile plain).length + 1) false := by
  rw [tok, if_neg (by omega), if_neg h1, if_neg (by rw [hs]; simp), if_neg h2, if_neg (by omega)]
theorem takeWhile_le (p : Nat → Bool) (r : List Nat) : (r.takeWhile p).length ≤ r.length := (List.takeWhile_sublist p).length_le
theorem tokq_word {r t : List Nat} {m : Nat} {q : Bool} (h : tokq r = .word t m q) : q = true ∧ 1 ≤ m ∧ m ≤ r.length + 1 ∧ m = t.length + 2 := by
  unfold tokq at h
  have hl := takeWhile_le inq r
  split at h
  · cases h
  · rename_i hne
    split at h
    · cases h
    · split at h
      · injection h with h1 h2 h3
        subst h1 h2 h3
        refine ⟨rfl, by omega, ?_, rfl⟩
        have : (r.takeWhile inq).length ≠ r.length := fun e => hne (.inl e.symm)
        omega
      · cases h
theorem tokq_bad {r : List Nat} {k o : Nat} (h : tokq r = .bad k o) : 1 ≤ k ∧ k ≤ 3 ∧ o ≤ r.length + 1 := by
  unfold tokq at h
  have hl := takeWhile_le inq r
  have hl2 := takeWhile_le okq (r.takeWhile inq)
  split at h
  · injection h with h1 h2; omega
  · split at h
    · injection h with h1 h2; omega
    · split at h
      · cases h
      · injection h with h1 h2; omega
theorem tokq_skip {r : List Nat} {m : Nat} (h : tokq r = .skip m) : False := by
  unfold tokq at h
  split at h
  · cases h
  · split at h
    · cases h
    · split at h <;> cases h
/-- What makes the words of a text small. -/
def Fits (n : Nat) (L : List (List W)) : Prop := ∀ row ∈ L, ∀ x ∈ row, x.line ≤ n + 1 ∧ x.col ≤ n + 1
end Go.Proofs.Ytemliglhippdcaa.Ln
