/- Plain facts on numbers in six bytes, and on what a reader of bytes is. -/
namespace Go.Proofs.Ytemliglhippdcaa.Cd
set_option maxRecDepth 100000

/-- A number in six bytes, the highest first. -/
def enc (n : Nat) : List Nat := [n / 1099511627776 % 256, n / 4294967296 % 256, n / 16777216 % 256, n / 65536 % 256, n / 256 % 256, n % 256]
def dec (l : List Nat) : Nat := l.foldl (fun a c => a * 256 + c) 0
/-- What is written: a number, held to its bounds. -/
def held (n : Int) : Nat := (min (max n 0) 1099511627776).toNat
theorem held_le (n : Int) : held n ≤ 1099511627776 := by unfold held; omega
theorem held_eq (n : Int) : min (max n 0) 1099511627776 = ((held n : Nat) : Int) := by unfold held; omega
theorem held_of (n : Int) (h0 : 0 ≤ n) (h1 : n ≤ 1099511627776) : ((held n : Nat) : Int) = n := by unfold held; omega
theorem enc_length (n : Nat) : (enc n).length = 6 := rfl
theorem enc_lt (n : Nat) : ∀ c ∈ enc n, c < 256 := by
  intro c hc
  simp [enc] at hc
  omega
theorem dec_enc (n : Nat) (h : n < 281474976710656) : dec (enc n) = n := by
  simp [enc, dec]
  omega
theorem dec_snoc (l : List Nat) (c : Nat) : dec (l ++ [c]) = dec l * 256 + c := by simp [dec]
theorem dec_lt : ∀ (k : Nat) (l : List Nat), l.length ≤ k → (∀ c ∈ l, c < 256) → dec l < 256 ^ k := by
  intro k
  induction k with
  | zero =>
    intro l h _
    have : l = [] := List.eq_nil_of_length_eq_zero (by omega)
    subst this
    decide
  | succ k ih =>
    intro l h hl
    rcases List.eq_nil_or_concat l with rfl | ⟨m, c, rfl⟩
    · exact Nat.pow_pos (by decide)
    · rw [List.concat_eq_append] at h hl ⊢
      have h1 := ih m (by simp at h; omega) fun x hx => hl x (by simp [hx])
      have h2 := hl c (by simp)
      rw [dec_snoc, Nat.pow_succ]
      omega
theorem dec_take_lt (l : List Nat) (k : Nat) (hk : k ≤ 6) (hl : ∀ c ∈ l, c < 256) : dec (l.take k) < 281474976710656 := by
  have h1 := dec_lt k (l.take k) (List.length_take_le _ _) fun c hc => hl c (List.mem_of_mem_take hc)
  have h2 : 256 ^ k ≤ 256 ^ 6 := Nat.pow_le_pow_right (by decide) hk
  have h3 : 256 ^ 6 = 281474976710656 := by decide
  omega
/-- What is behind k of the six bytes. -/
theorem enc_next (n j : Nat) (h : j < 6) : (enc n).take (6 - (j + 1)) ++ [n / 2 ^ (8 * j) % 256] = (enc n).take (6 - j) := by
  have : j = 0 ∨ j = 1 ∨ j = 2 ∨ j = 3 ∨ j = 4 ∨ j = 5 := by omega
  rcases this with rfl | rfl | rfl | rfl | rfl | rfl <;> simp [enc]

/-- A reader: what is left, or none behind a fault. -/
abbrev St := Option (List Nat)
/-- Can the next six bytes be read? -/
def fits (s : St) (most : Int) : Bool := match s with
  | none => false
  | some l => decide (6 ≤ l.length) && decide ((dec (l.take 6) : Int) ≤ most)
def rest (s : St) : List Nat := s.getD []
def numN (s : St) (most : Int) : Nat := if fits s most then dec ((rest s).take 6) else 0
def numS (s : St) (most : Int) : St := if fits s most then some ((rest s).drop 6) else none
/-- Are as many bytes there as the number says? -/
def fitsB (s : St) (most : Int) : Bool := fits s most && decide (dec ((rest s).take 6) ≤ (rest s).length - 6)
def bytesL (s : St) (most : Int) : List Nat := if fitsB s most then ((rest s).drop 6).take (dec ((rest s).take 6)) else []
def bytesS (s : St) (most : Int) : St := if fitsB s most then some ((rest s).drop (6 + dec ((rest s).take 6))) else none
def okB (s : St) : Bool := s.isSome
def endB (s : St) : Bool := s == some []

theorem fits_none (most : Int) : fits none most = false := rfl
theorem fits_some {l : List Nat} {most : Int} : fits (some l) most = true ↔ 6 ≤ l.length ∧ (dec (l.take 6) : Int) ≤ most := by simp [fits]
theorem fits_short {l : List Nat} {most : Int} (h : l.length < 6) : fits (some l) most = false := by simp [fits]; omega
theorem fits_great {l : List Nat} {most : Int} (h : most < (dec (l.take 6) : Int)) : fits (some l) most = false := by simp [fits]; omega
end Go.Proofs.Ytemliglhippdcaa.Cd
