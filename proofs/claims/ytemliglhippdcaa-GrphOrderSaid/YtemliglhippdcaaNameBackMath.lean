/- Plain facts on temps: what is told of one is what it was made of; two are alike just if all of theirs are. -/
import Derived.Test.YtemliglhippdcaaNameMath
namespace Go.Proofs.Ytemliglhippdcaa.Nm
set_option maxRecDepth 100000

theorem foldl_plain : ∀ (p : List Nat) (L : List (List Nat)) (q : List Nat), 46 ∉ p → p.foldl addTo (L ++ [q]) = L ++ [q ++ p]
  | [], L, q, _ => by simp
  | c :: p, L, q, h => by
    have hc : c ≠ 46 := fun e => h (by simp [e])
    have h2 : 46 ∉ p := fun e => h (List.mem_cons_of_mem _ e)
    have e1 : addTo (L ++ [q]) c = L ++ [q ++ [c]] := by
      rw [addTo, if_neg hc]
      simp
    rw [List.foldl_cons, e1, foldl_plain p L (q ++ [c]) h2]
    simp
theorem parts_three {a b c : List Nat} (ha : 46 ∉ a) (hb : 46 ∉ b) (hc : 46 ∉ c) : parts (a ++ [46] ++ b ++ [46] ++ c) = [a, b, c] := by
  have dot : ∀ L : List (List Nat), addTo L 46 = L ++ [[]] := fun L => by simp [addTo]
  unfold parts
  simp only [List.foldl_append, List.foldl_cons, List.foldl_nil, dot]
  have h1 : List.foldl addTo [[]] a = [a] := by
    have := foldl_plain a [] [] ha
    simpa using this
  rw [h1, foldl_plain b _ [] hb, foldl_plain c _ [] hc]
  simp
theorem dec_dot (n : Nat) : 46 ∉ dec n := fun h => by have := dec_byte n 46 h; omega
theorem dec_slash (n : Nat) : 47 ∉ dec n := fun h => by have := dec_byte n 47 h; omega
theorem val_digs : ∀ n : Nat, val (digs n) = n := by
  intro n
  induction n using Nat.strongRecOn with
  | _ n ih =>
    by_cases h : n = 0
    · subst h; rw [digs_zero]; rfl
    · rw [digs_pos h, val_snoc, ih (n / 10) (by omega)]
      omega
theorem val_dec (n : Nat) : val (dec n) = n := by
  unfold dec
  split
  · rename_i h; subst h; rfl
  · exact val_digs n
theorem dec_inj {m n : Nat} (h : dec m = dec n) : m = n := by rw [← val_dec m, h, val_dec]
theorem digs_head : ∀ n : Nat, n ≠ 0 → (digs n).getD 0 0 ≠ 48 := by
  intro n
  induction n using Nat.strongRecOn with
  | _ n ih =>
    intro h
    rw [digs_pos h]
    by_cases h0 : n / 10 = 0
    · rw [h0, digs_zero]
      simp
      omega
    · have h1 := ih (n / 10) (by omega) h0
      have h2 : 0 < (digs (n / 10)).length := List.length_pos_iff.2 (digs_ne h0)
      rw [List.getD_eq_getElem?_getD] at h1 ⊢
      rwa [List.getElem?_append_left h2]
theorem isNum_dec {n d : Nat} (h : n < 10 ^ d) (hd : 1 ≤ d) : isNum (dec n) d = true := by
  refine isNum_yes rfl (dec_len h hd) (List.length_pos_iff.2 (dec_ne n)) (fun j hj => ?_) ?_
  · rw [List.getD_eq_getElem?_getD, List.getElem?_eq_getElem hj]
    have := dec_byte n _ (List.getElem_mem hj)
    simp [dig]
    exact this
  · by_cases h0 : n = 0
    · exact .inl (by simp [dec, h0])
    · refine .inr ?_
      rw [dec, if_neg h0]
      exact digs_head n h0
theorem num_dec {n d : Nat} (h : n < 10 ^ d) (hd : 1 ≤ d) : num (dec n) d = n := by rw [num, if_pos (isNum_dec h hd), val_dec]
theorem temp_tail (a b c : Nat) : temp a b c = [116, 109, 112, 47] ++ (dec a ++ [46] ++ dec b ++ [46] ++ dec c) := by simp [temp]
theorem temp_parts (a b c : Nat) : parts ((temp a b c).drop 4) = [dec a, dec b, dec c] := by
  rw [temp_tail]
  exact parts_three (dec_dot a) (dec_dot b) (dec_dot c)
theorem temp_of {a b c : Nat} (ha : a ≤ 999) (hb : b ≤ 99999) (hc : c ≤ 99999) : isOf (temp a b c) = true ∧ ofWho (temp a b c) = a ∧ ofInc (temp a b c) = b := by
  have h0 : isOf (temp a b c) = true := by
    rw [isOf_eq (by rw [temp_tail]; rfl) (by rw [temp_parts]; rfl), temp_parts]
    show (isNum (dec a) 3 && isNum (dec b) 5 && isNum (dec c) 5) = true
    rw [isNum_dec (by omega) (by omega), isNum_dec (by omega) (by omega), isNum_dec (by omega) (by omega)]
    rfl
  refine ⟨h0, ?_, ?_⟩
  · rw [ofWho, if_pos h0, temp_parts]
    exact num_dec (d := 3) (by omega) (by omega)
  · rw [ofInc, if_pos h0, temp_parts]
    exact num_dec (d := 5) (by omega) (by omega)
theorem temp_inj {a b c x y z : Nat} : temp a b c = temp x y z ↔ a = x ∧ b = y ∧ c = z := by
  constructor
  · intro h
    have := congrArg (fun l => parts (l.drop 4)) h
    simp only [temp_parts] at this
    injection this with h1 this
    injection this with h2 this
    injection this with h3 _
    exact ⟨dec_inj h1, dec_inj h2, dec_inj h3⟩
  · rintro ⟨rfl, rfl, rfl⟩
    rfl
theorem okc_dec (n : Nat) : (dec n).all okc = true := by
  rw [List.all_eq_true]
  intro c hc
  have := dec_byte n c hc
  simp [okc]
  omega
theorem temp_byte (a b c : Nat) : ∀ x ∈ temp a b c, x < 256 := by
  intro x hx
  simp only [temp, List.mem_append, List.mem_cons, List.not_mem_nil, or_false] at hx
  rcases hx with ((((hx | hx) | hx) | hx) | hx) | hx
  · omega
  · have := dec_byte a x hx
    omega
  · omega
  · have := dec_byte b x hx
    omega
  · omega
  · have := dec_byte c x hx
    omega
theorem temp_len {a b c : Nat} (ha : a ≤ 999) (hb : b ≤ 99999) (hc : c ≤ 99999) : (temp a b c).length ≤ 19 := by
  have h1 := dec_len (n := a) (k := 3) (by omega) (by omega)
  have h2 := dec_len (n := b) (k := 5) (by omega) (by omega)
  have h3 := dec_len (n := c) (k := 5) (by omega) (by omega)
  simp only [temp, List.length_append, List.length_cons, List.length_nil]
  omega
theorem temp_file {a b c : Nat} (ha : a ≤ 999) (hb : b ≤ 99999) (hc : c ≤ 99999) : file (temp a b c) = true := by
  have h1 := dec_len (n := a) (k := 3) (by omega) (by omega)
  have h2 := dec_len (n := b) (k := 5) (by omega) (by omega)
  have h3 := dec_len (n := c) (k := 5) (by omega) (by omega)
  have h4 : 0 < (dec a).length := List.length_pos_iff.2 (dec_ne a)
  rw [file_at (l := temp a b c) (k := 3) (by rw [temp_tail, List.length_append]; simp; omega) (by rw [temp_tail]; rfl) (fun j hj => by
    rw [temp_tail]
    have : j = 0 ∨ j = 1 ∨ j = 2 := by omega
    rcases this with rfl | rfl | rfl <;> simp)]
  rw [show (temp a b c).take 3 = [116, 109, 112] from by rw [temp_tail]; rfl, show (temp a b c).drop (3 + 1) = dec a ++ [46] ++ dec b ++ [46] ++ dec c from by rw [temp_tail]; rfl]
  rw [ok_of (l := dec a ++ [46] ++ dec b ++ [46] ++ dec c) (by simp only [List.all_append, okc_dec]; rfl), decide_eq_true (by simp only [List.length_append]; omega), decide_eq_true (by simp only [List.length_append, List.length_cons, List.length_nil]; omega)]
  rfl
theorem temp_not_ok (a b c : Nat) : ok (temp a b c) = false := ok_not (k := 3) (by rw [temp_tail, List.length_append]; simp; omega) (by rw [temp_tail]; rfl)
end Go.Proofs.Ytemliglhippdcaa.Nm
