/- Plain facts on names: which bytes, how many; decimals; temps. -/
namespace Go.Proofs.Ytemliglhippdcaa.Nm
set_option maxRecDepth 100000

def okc (c : Nat) : Bool := decide (97 ≤ c ∧ c ≤ 122) || decide (48 ≤ c ∧ c ≤ 57) || decide (c = 46) || decide (c = 45) || decide (c = 95)
def ok (l : List Nat) : Bool := l.all okc && decide (1 ≤ l.length) && decide (l.length ≤ 16)
def file (l : List Nat) : Bool := if 47 ∈ l then ok (l.takeWhile (· ≠ 47)) && ok ((l.dropWhile (· ≠ 47)).drop 1) else ok l
theorem ok_of {l : List Nat} (h : l.all okc = true) : ok l = (decide (1 ≤ l.length) && decide (l.length ≤ 16)) := by simp [ok, h]
theorem ok_not {l : List Nat} {k : Nat} (hk : k < l.length) (h : okc (l.getD k 0) = false) : ok l = false := by
  have : l.all okc = false := by
    rw [List.all_eq_false]
    rw [List.getD_eq_getElem?_getD, List.getElem?_eq_getElem hk] at h
    exact ⟨_, List.getElem_mem hk, by simpa using h⟩
  simp [ok, this]
theorem okc_split (x : Nat) : (okc x = true ∧ ((97 ≤ x ∧ x ≤ 122) ∨ (x < 97 ∧ 48 ≤ x ∧ x ≤ 57) ∨ x = 46 ∨ x = 45 ∨ x = 95)) ∨ (okc x = false ∧ (x < 45 ∨ x = 47 ∨ (57 < x ∧ x < 95) ∨ x = 96 ∨ 122 < x)) := by
  by_cases h : okc x = true
  · refine .inl ⟨h, ?_⟩
    simp [okc] at h
    omega
  · refine .inr ⟨by simpa using h, ?_⟩
    simp [okc] at h
    omega
theorem all_of {l : List Nat} (h : ∀ j, j < l.length → okc (l.getD j 0) = true) : l.all okc = true := by
  rw [List.all_eq_true]
  intro c hc
  obtain ⟨j, hj, rfl⟩ := List.getElem_of_mem hc
  have := h j hj
  rwa [List.getD_eq_getElem?_getD, List.getElem?_eq_getElem hj] at this
theorem file_at {l : List Nat} {k : Nat} (hk : k < l.length) (hx : l.getD k 0 = 47) (hall : ∀ j, j < k → l.getD j 0 ≠ 47) : file l = (ok (l.take k) && ok (l.drop (k + 1))) := by
  have e : l = l.take k ++ 47 :: l.drop (k + 1) := by
    conv => lhs; rw [← List.take_append_drop k l, List.drop_eq_getElem_cons hk]
    rw [List.getD_eq_getElem?_getD, List.getElem?_eq_getElem hk] at hx
    rw [show l[k] = 47 from hx]
  have ha : ∀ c ∈ l.take k, (decide (c ≠ 47)) = true := fun c hc => by
    obtain ⟨j, hj, rfl⟩ := List.getElem_of_mem hc
    rw [List.length_take] at hj
    have := hall j (by omega)
    rw [List.getD_eq_getElem?_getD, List.getElem?_eq_getElem (by omega)] at this
    rw [List.getElem_take]
    simpa using this
  have h1 : l.takeWhile (· ≠ 47) = l.take k := by
    conv => lhs; rw [e]
    rw [List.takeWhile_append_of_pos ha]
    simp
  have h2 : l.dropWhile (· ≠ 47) = 47 :: l.drop (k + 1) := by
    conv => lhs; rw [e]
    rw [List.dropWhile_append_of_pos ha]
    simp
  have h3 : 47 ∈ l := by rw [e]; simp
  unfold file
  rw [if_pos h3, h1, h2]
  rfl
def digs : Nat → List Nat
  | 0 => []
  | n + 1 => digs ((n + 1) / 10) ++ [48 + (n + 1) % 10]
decreasing_by omega
def dec (n : Nat) : List Nat := if n = 0 then [48] else digs n
theorem digs_pos {n : Nat} (h : n ≠ 0) : digs n = digs (n / 10) ++ [48 + n % 10] := by
  obtain ⟨m, rfl⟩ : ∃ m, n = m + 1 := ⟨n - 1, by omega⟩
  rw [digs]
theorem digs_zero : digs 0 = [] := by rw [digs]
theorem digs_byte : ∀ (n : Nat), ∀ c ∈ digs n, 48 ≤ c ∧ c ≤ 57 := by
  intro n
  induction n using Nat.strongRecOn with
  | _ n ih =>
    intro c hc
    by_cases h : n = 0
    · subst h; rw [digs_zero] at hc; exact absurd hc (by simp)
    · rw [digs_pos h, List.mem_append] at hc
      rcases hc with hc | hc
      · exact ih (n / 10) (by omega) c hc
      · simp at hc; omega
theorem dec_byte (n : Nat) : ∀ c ∈ dec n, 48 ≤ c ∧ c ≤ 57 := by
  intro c hc
  unfold dec at hc
  split at hc
  · simp at hc; omega
  · exact digs_byte n c hc
theorem digs_len : ∀ (k n : Nat), n < 10 ^ k → (digs n).length ≤ k := by
  intro k
  induction k with
  | zero => intro n h; obtain rfl : n = 0 := by simpa using h
            rw [digs_zero]; simp
  | succ k ih =>
    intro n h
    by_cases h0 : n = 0
    · subst h0; rw [digs_zero]; simp
    · rw [digs_pos h0, List.length_append]
      have := ih (n / 10) (by rw [Nat.pow_succ] at h; omega)
      simp; omega
theorem dec_len {k n : Nat} (h : n < 10 ^ k) (hk : 1 ≤ k) : (dec n).length ≤ k := by
  unfold dec
  split
  · simpa using hk
  · exact digs_len k n h
theorem digs_ne {n : Nat} (h : n ≠ 0) : digs n ≠ [] := by rw [digs_pos h]; simp
theorem dec_ne (n : Nat) : dec n ≠ [] := by
  unfold dec; split
  · simp
  · exact digs_ne ‹_›
/-- How far the decimal is written: the digits above stand yet to come. -/
def Dt (n m : Nat) (l : List Nat) : Prop := (l = [] ∧ m = n) ∨ (l ≠ [] ∧ digs m ++ l = dec n)
theorem Dt.start (n : Nat) : Dt n n [] := .inl ⟨rfl, rfl⟩
theorem Dt.next {n m : Nat} {l : List Nat} (h : Dt n m l) (hm : m ≠ 0 ∨ l = []) : Dt n (m / 10) ((48 + m % 10) :: l) := by
  refine .inr ⟨by simp, ?_⟩
  by_cases h0 : m = 0
  · subst h0
    obtain rfl := hm.resolve_left (by simp)
    rcases h with ⟨-, rfl⟩ | ⟨h, -⟩
    · rw [show 0 / 10 = 0 from rfl, digs_zero]; rfl
    · exact absurd rfl h
  · rcases h with ⟨rfl, rfl⟩ | ⟨-, h⟩
    · rw [dec, if_neg h0, digs_pos h0]
    · rw [← h, digs_pos h0, List.append_assoc]; rfl
theorem Dt.done {n : Nat} {l : List Nat} (h : Dt n 0 l) (hl : l ≠ []) : l = dec n := by
  rcases h with ⟨h, -⟩ | ⟨-, h⟩
  · exact absurd h hl
  · rw [digs_zero] at h; exact h
theorem Dt.byte {n m : Nat} {l : List Nat} (h : Dt n m l) : ∀ c ∈ l, c < 256 := by
  rcases h with ⟨rfl, -⟩ | ⟨-, h⟩
  · simp
  · intro c hc
    have := dec_byte n c (by rw [← h]; exact List.mem_append_right _ hc)
    omega
theorem Dt.len {n m : Nat} {l : List Nat} (h : Dt n m l) : l.length ≤ (dec n).length := by
  rcases h with ⟨rfl, -⟩ | ⟨-, h⟩
  · simp
  · rw [← h, List.length_append]; omega
theorem Dt.len18 {n m : Nat} {l : List Nat} (h : Dt n m l) (hn : n < 1000000000000000000) : l.length ≤ 18 := Nat.le_trans h.len (dec_len (k := 18) hn (by omega))
/-- A number held to its bounds. -/
def held (x : Int) (m : Nat) : Nat := min (max x 0).toNat m
def temp (a b c : Nat) : List Nat := [116, 109, 112, 47] ++ dec a ++ [46] ++ dec b ++ [46] ++ dec c
theorem held_le (x : Int) (m : Nat) : held x m ≤ m := Nat.min_le_right _ _
theorem held_eq (x : Int) (m : Nat) : min (max x 0) (m : Int) = (held x m : Int) := by unfold held; omega
/-- The number of a row of digits. -/
def val (l : List Nat) : Nat := l.foldl (fun n c => 10 * n + (c - 48)) 0
def dig (c : Nat) : Bool := decide (48 ≤ c ∧ c ≤ 57)
def isNum (l : List Nat) (d : Nat) : Bool := l.all dig && decide (l.length ≤ d) && decide (l ≠ []) && (decide (l = [48]) || decide (l.getD 0 0 ≠ 48))
def num (l : List Nat) (d : Nat) : Nat := if isNum l d then val l else 0
theorem val_snoc (l : List Nat) (c : Nat) : val (l ++ [c]) = 10 * val l + (c - 48) := by simp [val]
theorem val_take {l : List Nat} {k : Nat} (h : k < l.length) : val (l.take (k + 1)) = 10 * val (l.take k) + (l.getD k 0 - 48) := by
  rw [List.take_add_one, List.getElem?_eq_getElem h, Option.toList_some, val_snoc, List.getD_eq_getElem?_getD, List.getElem?_eq_getElem h]
  rfl
theorem val_lt {l : List Nat} : ∀ (k : Nat), k ≤ l.length → (∀ j, j < k → l.getD j 0 ≤ 57) → val (l.take k) < 10 ^ k := by
  intro k
  induction k with
  | zero => intro _ _; simp [val]
  | succ k ih =>
    intro hk h
    rw [val_take (by omega), Nat.pow_succ]
    have h1 := ih (by omega) fun j hj => h j (by omega)
    have h2 := h k (by omega)
    omega
theorem isNum_bad {l : List Nat} {k : Nat} (d : Nat) (hk : k < l.length) (h : dig (l.getD k 0) = false) : isNum l d = false := by
  have : l.all dig = false := by
    rw [List.all_eq_false]
    rw [List.getD_eq_getElem?_getD, List.getElem?_eq_getElem hk] at h
    exact ⟨_, List.getElem_mem hk, by simpa using h⟩
  simp [isNum, this]
theorem isNum_long {l : List Nat} {d : Nat} (h : d < l.length) : isNum l d = false := by
  simp [isNum, show ¬ l.length ≤ d by omega]
theorem dig_all {l : List Nat} (h : ∀ j, j < l.length → dig (l.getD j 0) = true) : l.all dig = true := by
  rw [List.all_eq_true]
  intro c hc
  obtain ⟨j, hj, rfl⟩ := List.getElem_of_mem hc
  have := h j hj
  rwa [List.getD_eq_getElem?_getD, List.getElem?_eq_getElem hj] at this
theorem isNum_nil {l : List Nat} (d : Nat) (h : l.length = 0) : isNum l d = false := by
  obtain rfl := List.length_eq_zero_iff.1 h
  simp [isNum]
theorem isNum_lead {l : List Nat} (d : Nat) (h : 2 ≤ l.length) (h0 : l.getD 0 0 = 48) : isNum l d = false := by
  have : l ≠ [48] := fun e => by subst e; simp at h
  have h2 : ¬ l.getD 0 0 ≠ 48 := fun e => e h0
  rw [isNum, decide_eq_false this, decide_eq_false h2]
  simp
theorem isNum_yes {l : List Nat} {d n : Nat} (hn : l.length = n) (hd : n ≤ d) (h1 : 1 ≤ n) (ha : ∀ j, j < n → dig (l.getD j 0) = true) (h : l = [48] ∨ l.getD 0 0 ≠ 48) : isNum l d = true := by
  subst hn
  have h2 : l ≠ [] := fun e => by subst e; simp at h1
  rw [isNum, dig_all ha, decide_eq_true hd, decide_eq_true h2]
  rcases h with h | h
  · rw [decide_eq_true h]; rfl
  · rw [decide_eq_true h]; simp
theorem dig_le {c : Nat} (h : dig c = true) : c ≤ 57 := by
  simp [dig] at h
  omega
/-- A text's parts between its dots: one byte more. -/
def addTo (L : List (List Nat)) (c : Nat) : List (List Nat) := if c = 46 then L ++ [[]] else L.set (L.length - 1) (L.getD (L.length - 1) [] ++ [c])
def parts (l : List Nat) : List (List Nat) := l.foldl addTo [[]]
theorem parts_snoc (l : List Nat) (c : Nat) : parts (l ++ [c]) = addTo (parts l) c := by simp [parts]
theorem addTo_len (L : List (List Nat)) (c : Nat) : L.length ≤ (addTo L c).length ∧ (addTo L c).length ≤ L.length + 1 := by
  unfold addTo
  split <;> simp
theorem foldl_len : ∀ (l : List Nat) (L : List (List Nat)), L.length ≤ (l.foldl addTo L).length ∧ (l.foldl addTo L).length ≤ L.length + l.length
  | [], L => by simp
  | c :: l, L => by
    have h1 := foldl_len l (addTo L c)
    have h2 := addTo_len L c
    simp only [List.foldl_cons, List.length_cons]
    omega
theorem parts_len (l : List Nat) : 1 ≤ (parts l).length ∧ (parts l).length ≤ l.length + 1 := by
  have := foldl_len l [[]]
  simp only [List.length_singleton] at this
  unfold parts
  omega
def Fit (m : Nat) (L : List (List Nat)) : Prop := ∀ p ∈ L, p.length ≤ m ∧ ∀ c ∈ p, c < 256
theorem Fit.getD {m : Nat} {L : List (List Nat)} (h : Fit m L) (k : Nat) : (L.getD k []).length ≤ m ∧ ∀ c ∈ L.getD k [], c < 256 := by
  rw [List.getD_eq_getElem?_getD]
  by_cases hk : k < L.length
  · rw [List.getElem?_eq_getElem hk]
    exact h _ (List.getElem_mem hk)
  · rw [List.getElem?_eq_none (by omega)]
    exact ⟨Nat.zero_le _, by simp⟩
theorem Fit.add {m : Nat} {L : List (List Nat)} (h : Fit m L) {c : Nat} (hc : c < 256) : Fit (m + 1) (addTo L c) := by
  unfold addTo
  split
  · intro p hp
    rcases List.mem_append.1 hp with hp | hp
    · exact ⟨by have := (h p hp).1; omega, (h p hp).2⟩
    · simp at hp
      subst hp
      exact ⟨Nat.zero_le _, by simp⟩
  · intro p hp
    rcases List.mem_or_eq_of_mem_set hp with hp | rfl
    · exact ⟨by have := (h p hp).1; omega, (h p hp).2⟩
    · have := h.getD (L.length - 1)
      refine ⟨by simp; exact this.1, fun x hx => ?_⟩
      rcases List.mem_append.1 hx with hx | hx
      · exact this.2 x hx
      · simp at hx
        omega
theorem foldl_fit : ∀ (l : List Nat) (L : List (List Nat)) (m : Nat), (∀ c ∈ l, c < 256) → Fit m L → Fit (m + l.length) (l.foldl addTo L)
  | [], L, m, _, h => h
  | c :: l, L, m, hc, h => by
    have := foldl_fit l (addTo L c) (m + 1) (fun x hx => hc x (List.mem_cons_of_mem _ hx)) (h.add (hc c (by simp)))
    simp only [List.foldl_cons, List.length_cons]
    rwa [show m + (l.length + 1) = m + 1 + l.length from by omega]
theorem parts_fit {l : List Nat} (h : ∀ c ∈ l, c < 256) : Fit l.length (parts l) := by
  have := foldl_fit l [[]] 0 h (by intro p hp; simp at hp; subst hp; exact ⟨Nat.le_refl _, by simp⟩)
  rwa [Nat.zero_add] at this
/-- What a temp's text tells. -/
def isOf (l : List Nat) : Bool := decide (l.take 4 = [116, 109, 112, 47]) && decide ((parts (l.drop 4)).length = 3) && isNum ((parts (l.drop 4)).getD 0 []) 3 && isNum ((parts (l.drop 4)).getD 1 []) 5 && isNum ((parts (l.drop 4)).getD 2 []) 5
def ofWho (l : List Nat) : Nat := if isOf l then num ((parts (l.drop 4)).getD 0 []) 3 else 0
def ofInc (l : List Nat) : Nat := if isOf l then num ((parts (l.drop 4)).getD 1 []) 5 else 0
theorem isOf_head {l : List Nat} (h : l.take 4 ≠ [116, 109, 112, 47]) : isOf l = false := by simp [isOf, h]
theorem isOf_short {l : List Nat} (h : l.length < 4) : isOf l = false := isOf_head fun e => by
  have := congrArg List.length e
  rw [List.length_take] at this
  simp at this
  omega
theorem isOf_parts {l : List Nat} (h : (parts (l.drop 4)).length ≠ 3) : isOf l = false := by simp [isOf, h]
theorem isOf_eq {l : List Nat} (h1 : l.take 4 = [116, 109, 112, 47]) (h2 : (parts (l.drop 4)).length = 3) : isOf l = (isNum ((parts (l.drop 4)).getD 0 []) 3 && isNum ((parts (l.drop 4)).getD 1 []) 5 && isNum ((parts (l.drop 4)).getD 2 []) 5) := by
  rw [isOf, decide_eq_true h1, decide_eq_true h2]
  simp
theorem parts_take {l : List Nat} {k : Nat} (h : k + 4 < l.length) : parts ((l.drop 4).take (k + 1)) = addTo (parts ((l.drop 4).take k)) (l.getD (k + 4) 0) := by
  rw [List.take_add_one, List.getElem?_drop, List.getElem?_eq_getElem (by omega), Option.toList_some, parts_snoc, List.getD_eq_getElem?_getD, show k + 4 = 4 + k from by omega, List.getElem?_eq_getElem (by omega)]
  rfl
end Go.Proofs.Ytemliglhippdcaa.Nm
