/- Plain facts on the sum of bytes (CRC-32): it is linear, and bytes that differ within four in a row have sums that differ. -/
namespace Go.Proofs.Ytkfmjkoghfcciaa.Crc
set_option maxRecDepth 100000

/-- The polynomial's bits, turned round. -/
def poly : Nat := 0xEDB88320
def half (s : Nat) : Nat := if s % 2 = 1 then (s / 2) ^^^ poly else s / 2
def times : Nat → Nat → Nat
  | 0, s => s
  | k + 1, s => times k (half s)
def step (s c : Nat) : Nat := times 8 (s ^^^ c)
def run (s : Nat) (l : List Nat) : Nat := l.foldl step s
def sum (l : List Nat) : Nat := run 0xFFFFFFFF l ^^^ 0xFFFFFFFF

theorem xor_lt {a b : Nat} (ha : a < 4294967296) (hb : b < 4294967296) : a ^^^ b < 4294967296 :=
  Nat.xor_lt_two_pow (n := 32) ha hb
theorem poly_lt : poly < 4294967296 := by decide
theorem half_lt {s : Nat} (h : s < 4294967296) : half s < 4294967296 := by
  unfold half
  split
  · exact xor_lt (by omega) poly_lt
  · omega
theorem times_lt (k : Nat) {s : Nat} (h : s < 4294967296) : times k s < 4294967296 := by
  induction k generalizing s with
  | zero => exact h
  | succ k ih => exact ih (half_lt h)
theorem step_lt {s c : Nat} (h : s < 4294967296) (hc : c < 256) : step s c < 4294967296 :=
  times_lt 8 (xor_lt h (by omega))
theorem run_lt (l : List Nat) {s : Nat} (h : s < 4294967296) (hl : ∀ c ∈ l, c < 256) : run s l < 4294967296 := by
  induction l generalizing s with
  | nil => exact h
  | cons c l ih => exact ih (step_lt h (hl c (by simp))) fun d hd => hl d (by simp [hd])
theorem sum_lt (l : List Nat) (hl : ∀ c ∈ l, c < 256) : sum l < 4294967296 := xor_lt (run_lt l (by decide) hl) (by decide)

theorem xor_mod (a b : Nat) : (a ^^^ b) % 2 = (a % 2 + b % 2) % 2 := by
  have := @Nat.xor_mod_two_eq_one a b
  omega
theorem xor_half (a b : Nat) : (a ^^^ b) / 2 = (a / 2) ^^^ (b / 2) := Nat.xor_div_two
theorem mix (a b c d : Nat) : (a ^^^ b) ^^^ (c ^^^ d) = (a ^^^ c) ^^^ (b ^^^ d) := by ac_rfl
theorem times_succ' (k s : Nat) : times (k + 1) s = half (times k s) := by
  induction k generalizing s with
  | zero => rfl
  | succ k ih => exact ih (half s)
theorem half_xor (a b : Nat) : half (a ^^^ b) = half a ^^^ half b := by
  unfold half
  rw [xor_mod, xor_half]
  rcases Nat.mod_two_eq_zero_or_one a with ha | ha <;> rcases Nat.mod_two_eq_zero_or_one b with hb | hb <;> simp only [ha, hb]
  · simp
  · simp [Nat.xor_assoc]
  · simp; ac_rfl
  · simp; rw [mix]; simp
theorem half_zero : half 0 = 0 := by decide
theorem times_zero (k : Nat) : times k 0 = 0 := by induction k with
  | zero => rfl
  | succ k ih => exact ih
theorem times_xor (k a b : Nat) : times k (a ^^^ b) = times k a ^^^ times k b := by
  induction k generalizing a b with
  | zero => rfl
  | succ k ih => show times k (half (a ^^^ b)) = _; rw [half_xor, ih]; rfl
theorem step_xor (s t c d : Nat) : step (s ^^^ t) (c ^^^ d) = step s c ^^^ step t d := by
  unfold step; rw [mix, times_xor]
theorem run_xor (l m : List Nat) (h : l.length = m.length) (s t : Nat) : run s l ^^^ run t m = run (s ^^^ t) (List.zipWith (· ^^^ ·) l m) := by
  induction l generalizing m s t with
  | nil => cases m with
    | nil => rfl
    | cons => simp at h
  | cons c l ih => cases m with
    | nil => simp at h
    | cons d m => exact (ih m (by simpa using h) _ _).trans (by rw [← step_xor]; rfl)

theorem half_ne {s : Nat} (h : s < 4294967296) (hs : s ≠ 0) : half s ≠ 0 := by
  unfold half
  split
  · intro h0
    have : s / 2 = poly := by
      have := congrArg (· ^^^ poly) h0
      simpa [Nat.xor_assoc] using this
    unfold poly at this
    omega
  · omega
theorem times_ne (k : Nat) {s : Nat} (h : s < 4294967296) (hs : s ≠ 0) : times k s ≠ 0 := by
  induction k generalizing s with
  | zero => exact hs
  | succ k ih => exact ih (half_lt h) (half_ne h hs)
theorem times_times (j k s : Nat) : times j (times k s) = times (k + j) s := by
  induction k generalizing s with
  | zero => simp [times]
  | succ k ih => rw [Nat.succ_add]; exact ih _
theorem half_two (s : Nat) : half (2 * s) = s := by
  unfold half
  rw [if_neg (by omega)]; omega
theorem times_up (k s : Nat) : times k (2 ^ k * s) = s := by
  induction k generalizing s with
  | zero => simp [times]
  | succ k ih =>
    show times k (half _) = s
    rw [Nat.pow_succ', Nat.mul_assoc, half_two, ih]

/-- Zeros do not turn what was nothing; and keep what was something. -/
theorem run_zeros (n : Nat) : run 0 (List.replicate n 0) = 0 := by
  induction n with
  | zero => rfl
  | succ n ih => exact ih
theorem run_keeps (n : Nat) {s : Nat} (h : s < 4294967296) (hs : s ≠ 0) : run s (List.replicate n 0) ≠ 0 := by
  induction n generalizing s with
  | zero => exact hs
  | succ n ih =>
    refine ih (s := step s 0) (step_lt h (by omega)) ?_
    unfold step; simp only [Nat.xor_zero]; exact times_ne 8 h hs

/-- Bytes laid into one number, the first lowest. -/
def pack : List Nat → Nat
  | [] => 0
  | c :: l => c ^^^ (256 * pack l)
theorem pack_lt (l : List Nat) (hl : ∀ c ∈ l, c < 256) : pack l < 256 ^ l.length := by
  induction l with
  | nil => simp [pack]
  | cons c l ih =>
    have hi := ih fun d hd => hl d (by simp [hd])
    have hc : c < 256 := hl c (by simp)
    show c ^^^ (256 * pack l) < 256 ^ (l.length + 1)
    have e : (256 : Nat) ^ (l.length + 1) = 2 ^ (8 * (l.length + 1)) := by rw [Nat.pow_mul]
    rw [e]
    refine Nat.xor_lt_two_pow (Nat.lt_of_lt_of_le hc ?_) ?_
    · exact Nat.pow_le_pow_right (n := 2) (i := 8) (by omega) (by omega)
    · rw [← e, Nat.pow_succ]; omega
theorem pack_zero (l : List Nat) (hl : ∀ c ∈ l, c < 256) (h : pack l = 0) : ∀ c ∈ l, c = 0 := by
  induction l with
  | nil => intro c hc; simp at hc
  | cons c l ih =>
    have hc : c < 256 := hl c (by simp)
    have e : c = 256 * pack l := by
      have := congrArg (· ^^^ (256 * pack l)) (show c ^^^ (256 * pack l) = 0 from h)
      simpa [Nat.xor_assoc] using this
    have hp : pack l = 0 := by omega
    intro d hd
    rcases List.mem_cons.1 hd with rfl | hd
    · omega
    · exact ih (fun d hd => hl d (by simp [hd])) hp d hd
/-- A row of bytes from nothing on is its number, shifted out. -/
theorem run_pack (l : List Nat) (s : Nat) : run s l = times (8 * l.length) (s ^^^ pack l) := by
  induction l generalizing s with
  | nil => simp [run, pack, times]
  | cons c l ih =>
    show run (step s c) l = _
    rw [ih]
    have : step s c ^^^ pack l = times 8 (s ^^^ (c ^^^ (256 * pack l))) := by
      unfold step
      rw [← Nat.xor_assoc, times_xor 8 (s ^^^ c)]
      congr 1
      exact (times_up 8 _).symm
    rw [this, times_times]
    simp only [List.length_cons, pack]
    rw [show 8 + 8 * l.length = 8 * (l.length + 1) from by omega]

/-- Bytes that differ within four in a row have sums that differ. -/
theorem run_burst (m n : Nat) (es : List Nat) (h4 : es.length ≤ 4) (hb : ∀ c ∈ es, c < 256) (hne : ∃ c ∈ es, c ≠ 0) :
    run 0 (List.replicate m 0 ++ es ++ List.replicate n 0) ≠ 0 := by
  have hp : pack es ≠ 0 := fun h => by
    obtain ⟨c, hc, hc0⟩ := hne
    exact hc0 (pack_zero es hb h c hc)
  have hl : pack es < 4294967296 := Nat.lt_of_lt_of_le (pack_lt es hb) (by
    show 256 ^ es.length ≤ 256 ^ 4
    exact Nat.pow_le_pow_right (by omega) h4)
  have e : run 0 (List.replicate m 0 ++ es ++ List.replicate n 0) = run (times (8 * es.length) (pack es)) (List.replicate n 0) := by
    unfold run
    rw [List.foldl_append, List.foldl_append]
    have h1 : List.foldl step 0 (List.replicate m 0) = 0 := run_zeros m
    rw [h1]
    have h2 : List.foldl step 0 es = times (8 * es.length) (pack es) := by
      have := run_pack es 0
      simpa [run] using this
    rw [h2]
  rw [e]
  exact run_keeps n (times_lt _ hl) (times_ne _ hl hp)

theorem xor_self_eq {a b : Nat} (h : a ^^^ b = 0) : a = b := by
  have := congrArg (· ^^^ b) h
  simpa [Nat.xor_assoc] using this
theorem sum_ne_of (x y : List Nat) (h : x.length = y.length) (hd : run 0 (List.zipWith (· ^^^ ·) x y) ≠ 0) : sum x ≠ sum y := by
  intro e
  apply hd
  have e1 : run 0xFFFFFFFF x = run 0xFFFFFFFF y := by
    have := congrArg (· ^^^ 0xFFFFFFFF) e
    unfold sum at this
    simpa [Nat.xor_assoc] using this
  have := run_xor x y h 0xFFFFFFFF 0xFFFFFFFF
  rw [e1] at this
  simpa using this.symm

theorem zip3 (a b c : List Nat) (hab : a.length = b.length) (hbc : b.length = c.length) :
    sum (List.zipWith (· ^^^ ·) (List.zipWith (· ^^^ ·) a b) c) = sum a ^^^ sum b ^^^ sum c := by
  unfold sum
  have h1 := run_xor a b hab 0xFFFFFFFF 0xFFFFFFFF
  have h2 := run_xor (List.zipWith (· ^^^ ·) a b) c (by simp [hab, hbc]) (0xFFFFFFFF ^^^ 0xFFFFFFFF) 0xFFFFFFFF
  rw [← h1] at h2
  have : (0xFFFFFFFF ^^^ 0xFFFFFFFF ^^^ 0xFFFFFFFF : Nat) = 0xFFFFFFFF := by decide
  rw [this] at h2
  rw [← h2]
  generalize run _ a = A
  generalize run _ b = B
  generalize run _ c = C
  generalize hF : (4294967295 : Nat) = F
  have : A ^^^ F ^^^ (B ^^^ F) ^^^ (C ^^^ F) = A ^^^ B ^^^ C ^^^ F ^^^ (F ^^^ F) := by ac_rfl
  rw [this]; simp
theorem known : sum [49,50,51,52,53,54,55,56,57] = 0xCBF43926 := by decide +kernel
end Go.Proofs.Ytkfmjkoghfcciaa.Crc
