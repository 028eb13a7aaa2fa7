/- Plain facts on a text of one long word. -/
import Derived.Test.YtpebkdmoloiecaaLineMath
namespace Go.Proofs.Ytpebkdmoloiecaa.Ln

theorem sp_blanks : ∀ (k : Nat) (R : List Nat) (ln col : Nat) (row : List W), sp (List.replicate k 32 ++ R) ln col row = sp R ln (col + k) row
  | 0, R, ln, col, row => rfl
  | k + 1, R, ln, col, row => by
    rw [List.replicate_succ, List.cons_append, sp_skip (n := 1) (by decide) (tok_blank (.inl rfl)), List.drop_succ_cons, List.drop_zero, sp_blanks k R ln (col + 1) row, show col + 1 + k = col + (k + 1) from by omega]
theorem takeWhile_rep {p : Nat → Bool} {c : Nat} (h : p c = true) : ∀ (k : Nat) (R : List Nat), (List.replicate k c ++ R).takeWhile p = List.replicate k c ++ R.takeWhile p
  | 0, R => rfl
  | k + 1, R => by rw [List.replicate_succ, List.cons_append, List.takeWhile_cons_of_pos h, takeWhile_rep h k R]; rfl
/-- The text: a short line, blanks, a word of so many letters, and another one. -/
def longText (n ah : Nat) (q : Bool) : List Nat := [120, 10] ++ (List.replicate ah 32 ++ ((if q then [34] else []) ++ (List.replicate n 97 ++ ((if q then [34] else []) ++ [32, 98]))))
theorem long_is (n ah : Nat) (q : Bool) (hn : 1 ≤ n) : split (longText n ah q) = if 64 < n then .bad 3 2 (ah + 1) else
    .ok [[⟨[120], 1, 1, false⟩], [⟨List.replicate n 97, 2, ah + 1, q⟩, ⟨[98], 2, ah + 1 + (n + (if q then 2 else 0)) + 1, false⟩]] := by
  obtain ⟨m, rfl⟩ : ∃ m, n = m + 1 := ⟨n - 1, by omega⟩
  have hx : ∀ R, sp ([120, 10] ++ R) 1 1 [] = (sp R 2 1 []).pre [[⟨[120], 1, 1, false⟩]] := fun R => by
    have ht : tok 120 (10 :: R) = .word [120] 1 false := by
      rw [tok_plain (by omega) (by omega) (by omega) (by decide)]
      rw [List.takeWhile_cons_of_neg (by decide)]
      rfl
    rw [show ([120, 10] ++ R : List Nat) = 120 :: 10 :: R from rfl, sp_word (by decide) ht, List.drop_succ_cons, List.drop_zero, sp_nl]
    rfl
  have hb : ∀ (col : Nat) (row : List W), sp [32, 98] 2 col row = .ok [row ++ [⟨[98], 2, col + 1, false⟩]] := fun col row => by
    rw [sp_skip (n := 1) (by decide) (tok_blank (.inl rfl)), List.drop_succ_cons, List.drop_zero, sp_word (t := [98]) (n := 1) (q := false) (by decide) (by rfl), List.drop_succ_cons, List.drop_zero, sp_nil]
    cases row <;> rfl
  unfold split longText
  rw [hx, sp_blanks]
  cases q
  · simp only [Bool.false_eq_true, if_false, List.nil_append, Nat.add_zero]
    have htk : tok 97 (List.replicate m 97 ++ [32, 98]) = if 64 < m + 1 then .bad 3 0 else .word (97 :: List.replicate m 97) (m + 1) false := by
      rw [tok_plain (by omega) (by omega) (by omega) (by decide), takeWhile_rep (by decide), List.takeWhile_cons_of_neg (by decide), List.append_nil, List.length_replicate]
    rw [List.replicate_succ, List.cons_append]
    by_cases h : 64 < m + 1
    · rw [if_pos h] at htk ⊢
      rw [sp_bad (by decide) htk]
      show Res.bad 3 2 (1 + ah + 0) = _
      rw [show 1 + ah + 0 = ah + 1 from by omega]
    · rw [if_neg h] at htk ⊢
      rw [sp_word (by decide) htk, show (97 :: (List.replicate m 97 ++ [32, 98])).drop (m + 1) = [32, 98] from by rw [List.drop_succ_cons, List.drop_left' (by simp)], hb]
      simp only [Res.pre, List.nil_append, List.cons_append]
      rw [show 1 + ah + (m + 1) + 1 = ah + 1 + (m + 1) + 1 from by omega, show 1 + ah = ah + 1 from by omega]
  · simp only [if_true]
    have hr : (List.replicate (m + 1) 97 ++ ([34] ++ [32, 98])).takeWhile inq = List.replicate (m + 1) 97 := by
      rw [takeWhile_rep (by decide), show ([34] ++ [32, 98] : List Nat) = 34 :: [32, 98] from rfl, List.takeWhile_cons_of_neg (by decide), List.append_nil]
    have htk : tok 34 (List.replicate (m + 1) 97 ++ ([34] ++ [32, 98])) = if 64 < m + 1 then .bad 3 0 else .word (List.replicate (m + 1) 97) (m + 1 + 2) true := by
      rw [tok_quote]
      unfold tokq
      rw [hr, List.length_replicate, if_neg]
      · split
        · rfl
        · rw [if_pos]
          rw [List.all_eq_true]
          intro c hc
          rw [List.eq_of_mem_replicate hc]
          decide
      · rintro (h | h)
        · simp at h
        · rw [List.getD_eq_getElem?_getD, List.getElem?_append_right (by simp)] at h
          simp at h
    rw [show ([34] ++ (List.replicate (m + 1) 97 ++ ([34] ++ [32, 98])) : List Nat) = 34 :: (List.replicate (m + 1) 97 ++ ([34] ++ [32, 98])) from rfl]
    by_cases h : 64 < m + 1
    · rw [if_pos h] at htk ⊢
      rw [sp_bad (by decide) htk]
      show Res.bad 3 2 (1 + ah + 0) = _
      rw [show 1 + ah + 0 = ah + 1 from by omega]
    · rw [if_neg h] at htk ⊢
      rw [sp_word (by decide) htk, show (34 :: (List.replicate (m + 1) 97 ++ ([34] ++ [32, 98]))).drop (m + 1 + 2) = [32, 98] from by
        rw [List.drop_succ_cons, List.drop_append, List.length_replicate, List.drop_of_length_le (by simp), show m + 1 + 1 - (m + 1) = 1 from by omega]
        rfl, hb]
      simp only [Res.pre, List.nil_append, List.cons_append]
      rw [show 1 + ah + (m + 1 + 2) + 1 = ah + 1 + (m + 1 + 2) + 1 from by omega, show 1 + ah = ah + 1 from by omega]
end Go.Proofs.Ytpebkdmoloiecaa.Ln
