/- Plain facts: numbers and bytes that were written one behind the other, and cut, are read as far as they are there. -/
import Derived.Test.YtgfhfmpcdmcplaaCodeMath
namespace Go.Proofs.Ytgfhfmpcdmcplaa.Cd

def piece (raw : List Nat) (n : Nat) : List Nat := enc n ++ enc raw.length ++ raw
def pieces (raw ws : List Nat) : List Nat := (ws.map (piece raw)).flatten
theorem pieces_snoc (raw ws : List Nat) (n : Nat) : pieces raw (ws ++ [n]) = pieces raw ws ++ enc n ++ enc raw.length ++ raw := by simp [pieces, piece, List.append_assoc]
theorem pieces_cons (raw ws : List Nat) (n : Nat) : pieces raw (n :: ws) = enc n ++ (enc raw.length ++ (raw ++ pieces raw ws)) := by simp [pieces, piece, List.append_assoc]
theorem pieces_length (raw ws : List Nat) : (pieces raw ws).length = ws.length * (12 + raw.length) := by
  induction ws with
  | nil => simp [pieces]
  | cons n ws ih =>
    rw [pieces_cons, List.length_append, List.length_append, List.length_append, ih, enc_length, enc_length, List.length_cons, Nat.add_mul]
    omega
theorem drop_cons {ws : List Nat} {j : Nat} (h : j < ws.length) : ws.drop j = ws.getD j 0 :: ws.drop (j + 1) := by
  rw [List.drop_eq_getElem_cons h, List.getD_eq_getElem?_getD, List.getElem?_eq_getElem h]
  rfl

/-- A reader of the first m bytes of S, or one that has come to a fault because they are not all there. -/
def RS (S : List Nat) (m : Nat) (s : St) : Prop := s = some (S.take m) ∨ (m < S.length ∧ s = none)
theorem fits_take {n m : Nat} {t : List Nat} {most : Int} (hn : n < 281474976710656) (hm : (n : Int) ≤ most) : fits (some ((enc n ++ t).take m)) most = decide (6 ≤ m) := by
  by_cases h : 6 ≤ m
  · have e : ((enc n ++ t).take m).take 6 = enc n := by
      rw [List.take_take, Nat.min_eq_left h, List.take_append_of_le_length (by rw [enc_length]; omega), List.take_of_length_le (by rw [enc_length]; omega)]
    have hl : 6 ≤ ((enc n ++ t).take m).length := by simp [enc_length]; omega
    have : fits (some ((enc n ++ t).take m)) most = true := fits_some.2 ⟨hl, by rw [e, dec_enc n hn]; exact hm⟩
    rw [this]
    simp [h]
  · rw [fits_short (by simp; omega)]
    simp [h]
theorem dec_take6 {n m : Nat} {t : List Nat} (hn : n < 281474976710656) (h : 6 ≤ m) : dec (((enc n ++ t).take m).take 6) = n := by
  rw [List.take_take, Nat.min_eq_left h, List.take_append_of_le_length (by rw [enc_length]; omega), List.take_of_length_le (by rw [enc_length]; omega), dec_enc n hn]
theorem drop_take6 {n m : Nat} {t : List Nat} (_h : 6 ≤ m) : ((enc n ++ t).take m).drop 6 = t.take (m - 6) := by
  rw [List.drop_take, List.drop_append_of_le_length (by rw [enc_length]; omega), List.drop_of_length_le (by rw [enc_length]; omega), List.nil_append]
theorem rs_num {n m : Nat} {t : List Nat} {most : Int} {s : St} (h : RS (enc n ++ t) m s) (hn : n < 281474976710656) (hm : (n : Int) ≤ most) (ht : t ≠ []) :
    RS t (m - 6) (numS s most) ∧ ((numS s most).isSome = true → numN s most = n) := by
  have htl : 0 < t.length := List.length_pos_iff.2 ht
  rcases h with rfl | ⟨h, rfl⟩
  · have hf := fits_take (n := n) (m := m) (t := t) hn hm
    by_cases h6 : 6 ≤ m
    · rw [decide_eq_true h6] at hf
      have e1 : numS (some ((enc n ++ t).take m)) most = some (t.take (m - 6)) := by
        simp only [numS, hf, if_true, rest, Option.getD_some]
        rw [drop_take6 h6]
      have e2 : numN (some ((enc n ++ t).take m)) most = n := by
        simp only [numN, hf, if_true, rest, Option.getD_some]
        exact dec_take6 hn h6
      exact ⟨.inl e1, fun _ => e2⟩
    · rw [decide_eq_false h6] at hf
      have e1 : numS (some ((enc n ++ t).take m)) most = none := by simp [numS, hf]
      rw [e1]
      exact ⟨.inr ⟨by omega, rfl⟩, fun h => by cases h⟩
  · have e1 : numS none most = none := rfl
    rw [e1]
    exact ⟨.inr ⟨by simp [enc_length] at h; omega, rfl⟩, fun h => by cases h⟩
theorem rs_bytes {m : Nat} {x t : List Nat} {most : Int} {s : St} (h : RS (enc x.length ++ (x ++ t)) m s) (hn : x.length < 281474976710656) (hm : (x.length : Int) ≤ most) (ht : t ≠ []) :
    RS t (m - 6 - x.length) (bytesS s most) ∧ ((bytesS s most).isSome = true → bytesL s most = x) := by
  have htl : 0 < t.length := List.length_pos_iff.2 ht
  rcases h with rfl | ⟨h, rfl⟩
  · have hf := fits_take (n := x.length) (m := m) (t := x ++ t) hn hm
    by_cases h6 : 6 ≤ m
    · rw [decide_eq_true h6] at hf
      have hd := dec_take6 (n := x.length) (m := m) (t := x ++ t) hn h6
      have hdr := drop_take6 (n := x.length) (m := m) (t := x ++ t) h6
      have hl : ((enc x.length ++ (x ++ t)).take m).length - 6 = ((x ++ t).take (m - 6)).length := by rw [← hdr, List.length_drop]
      have hlt : ((x ++ t).take (m - 6)).length = min (m - 6) (x.length + t.length) := by simp
      by_cases hx : x.length ≤ m - 6
      · have hb : fitsB (some ((enc x.length ++ (x ++ t)).take m)) most = true := by
          simp only [fitsB, hf, rest, Option.getD_some, hd, hl, hlt, Bool.true_and, decide_eq_true_eq]
          omega
        have e1 : bytesS (some ((enc x.length ++ (x ++ t)).take m)) most = some (t.take (m - 6 - x.length)) := by
          simp only [bytesS, hb, if_true, rest, Option.getD_some, hd]
          rw [← List.drop_drop, hdr, List.drop_take, List.drop_append_of_le_length (Nat.le_refl _), List.drop_of_length_le (Nat.le_refl _), List.nil_append]
        have e2 : bytesL (some ((enc x.length ++ (x ++ t)).take m)) most = x := by
          simp only [bytesL, hb, if_true, rest, Option.getD_some, hd]
          rw [hdr, List.take_take, Nat.min_eq_left hx, List.take_append_of_le_length (Nat.le_refl _), List.take_of_length_le (Nat.le_refl _)]
        exact ⟨.inl e1, fun _ => e2⟩
      · have hb : fitsB (some ((enc x.length ++ (x ++ t)).take m)) most = false := by
          simp only [fitsB, hf, rest, Option.getD_some, hd, hl, hlt, Bool.true_and, decide_eq_false_iff_not]
          omega
        have e1 : bytesS (some ((enc x.length ++ (x ++ t)).take m)) most = none := by simp [bytesS, hb]
        rw [e1]
        exact ⟨.inr ⟨by omega, rfl⟩, fun h => by cases h⟩
    · rw [decide_eq_false h6] at hf
      have e1 : bytesS (some ((enc x.length ++ (x ++ t)).take m)) most = none := by simp [bytesS, fitsB, hf]
      rw [e1]
      exact ⟨.inr ⟨by omega, rfl⟩, fun h => by cases h⟩
  · have e1 : bytesS none most = none := rfl
    rw [e1]
    exact ⟨.inr ⟨by simp [enc_length] at h; omega, rfl⟩, fun h => by cases h⟩
theorem rs_last {m : Nat} {s : St} (h : RS (enc 7) m s) : (6 ≤ m → numS s 7 = some [] ∧ numN s 7 = 7) ∧ (m < 6 → numS s 7 = none ∧ numN s 7 = 0) := by
  rcases h with rfl | ⟨h, rfl⟩
  · have hf := fits_take (n := 7) (m := m) (t := []) (most := 7) (by omega) (by omega)
    have hd := fun h6 => dec_take6 (n := 7) (m := m) (t := []) (by omega) h6
    have hdr := fun h6 => drop_take6 (n := 7) (m := m) (t := []) h6
    rw [List.append_nil] at hf hd hdr
    refine ⟨fun h6 => ?_, fun h6 => ?_⟩
    · rw [decide_eq_true h6] at hf
      exact ⟨by simp [numS, hf, rest, hdr h6], by simp only [numN, hf, if_true, rest, Option.getD_some]; exact hd h6⟩
    · rw [decide_eq_false (by omega)] at hf
      exact ⟨by simp [numS, hf], by simp [numN, hf]⟩
  · rw [enc_length] at h
    exact ⟨fun h6 => by omega, fun _ => ⟨rfl, rfl⟩⟩
end Go.Proofs.Ytgfhfmpcdmcplaa.Cd
