/- Plain facts on frames: what one is, where a row of them ends, what they hold. -/
import Derived.Test.YtkfmjkoghfcciaaCrcMath
import Derived.Test.YtkfmjkoghfcciaaCodeMath
namespace Go.Proofs.Ytkfmjkoghfcciaa.Fr
set_option maxRecDepth 100000

/-- A sum in four bytes, the highest first. -/
def four (c : Nat) : List Nat := [c / 16777216 % 256, c / 65536 % 256, c / 256 % 256, c % 256]
def sum4 (l : List Nat) : List Nat := four (Crc.sum l)
/-- The frame that holds x. -/
def frm (x : List Nat) : List Nat := (Cd.enc x.length ++ x) ++ sum4 (Cd.enc x.length ++ x)
theorem four_lt (c : Nat) : ∀ x ∈ four c, x < 256 := by
  intro x hx
  simp [four] at hx
  omega
theorem sum4_length (l : List Nat) : (sum4 l).length = 4 := rfl
theorem frm_length (x : List Nat) : (frm x).length = x.length + 10 := by
  simp [frm, sum4_length, Cd.enc_length]
  omega

/-- The length that six bytes tell. -/
def told (b : List Nat) : Nat := Cd.dec (b.take 6)
/-- Does a whole, right frame stand first? -/
def whole (b : List Nat) : Bool := decide (6 ≤ b.length) && decide (told b ≤ 10000) && decide (6 + told b + 4 ≤ b.length) && decide ((b.drop (6 + told b)).take 4 = sum4 (b.take (6 + told b)))
def held (b : List Nat) : List Nat := (b.drop 6).take (told b)
theorem whole_iff {b : List Nat} : whole b = true ↔ 6 ≤ b.length ∧ told b ≤ 10000 ∧ 6 + told b + 4 ≤ b.length ∧ (b.drop (6 + told b)).take 4 = sum4 (b.take (6 + told b)) := by
  simp [whole, and_assoc]
theorem held_length {b : List Nat} (h : whole b = true) : (held b).length = told b := by
  have := whole_iff.1 h
  simp [held]
  omega

/-- Where the k-th frame begins. -/
def pos (b : List Nat) : Nat → Nat
  | 0 => 0
  | k + 1 => pos b k + (10 + told (b.drop (pos b k)))
/-- N frames stand there, and behind them none. -/
def Scn (b : List Nat) (N : Nat) : Prop := (∀ k, k < N → whole (b.drop (pos b k)) = true) ∧ whole (b.drop (pos b N)) = false
def rows (b : List Nat) (N : Nat) : List (List Nat) := (List.range N).map fun k => held (b.drop (pos b k))
theorem rows_length (b : List Nat) (N : Nat) : (rows b N).length = N := by simp [rows]
theorem rows_succ (b : List Nat) (N : Nat) : rows b (N + 1) = rows b N ++ [held (b.drop (pos b N))] := by simp [rows, List.range_succ]
theorem rows_at (b : List Nat) (N k : Nat) (h : k < N) : (rows b N).getD k [] = held (b.drop (pos b k)) := by
  simp [rows, List.getD_eq_getElem?_getD, List.getElem?_map, List.getElem?_range h]
theorem pos_next {b : List Nat} {k : Nat} (h : whole (b.drop (pos b k)) = true) : pos b k + 10 + told (b.drop (pos b k)) ≤ b.length := by
  have := (whole_iff.1 h).2.2.1
  rw [List.length_drop] at this
  omega
theorem pos_le {b : List Nat} : ∀ {N : Nat}, (∀ k, k < N → whole (b.drop (pos b k)) = true) → pos b N ≤ b.length ∧ 10 * N ≤ pos b N
  | 0, _ => ⟨Nat.zero_le _, Nat.zero_le _⟩
  | N + 1, h => by
    have h1 := pos_le (N := N) fun k hk => h k (by omega)
    have h2 := pos_next (h N (by omega))
    simp only [pos]
    omega
theorem Scn.le {b : List Nat} {N k : Nat} (h : Scn b N) (hk : k ≤ N) : pos b k ≤ b.length ∧ 10 * k ≤ pos b k := pos_le fun j hj => h.1 j (by omega)
theorem ex_from (b : List Nat) : ∀ (m k : Nat), b.length - pos b k ≤ m → (∀ j, j < k → whole (b.drop (pos b j)) = true) → ∃ N, Scn b N := by
  intro m
  induction m with
  | zero =>
    intro k hm hk
    refine ⟨k, hk, ?_⟩
    rcases hw : whole (b.drop (pos b k)) with _ | _
    · rfl
    · have := pos_next hw
      omega
  | succ m ih =>
    intro k hm hk
    rcases hw : whole (b.drop (pos b k)) with _ | _
    · exact ⟨k, hk, hw⟩
    · have := pos_next hw
      refine ih (k + 1) (by simp only [pos]; omega) fun j hj => ?_
      rcases Nat.lt_or_ge j k with h | h
      · exact hk j h
      · obtain rfl : j = k := by omega
        exact hw
theorem ex_scan (b : List Nat) : ∃ N, Scn b N := ex_from b b.length 0 (by simp) (by omega)
end Go.Proofs.Ytkfmjkoghfcciaa.Fr
