/- Plain facts on names: which bytes, how many; decimals; temps. -/
namespace Go.Proofs.Ytoloidfkpfdboaa.Nm
set_option maxRecDepth 100000

def okc (c : Nat) : Bool := decide (97 ≤ c ∧ c ≤ 122) || decide (48 ≤ c ∧ c ≤ 57) || decide (c = 46) || decide (c = 45) || decide (c = 95)
def ok (l : List Nat) : Bool := l.all okc && decide (1 ≤ l.length) && decide (l.length ≤ 16)
def file (l : List Nat) : Bool := if 47 ∈ l then ok (l.takeWhile (· ≠ 47)) && ok ((l.dropWhile (· ≠ 47)).drop 1) else ok l
theorem ok_of {l : List Nat} (h : l.all okc = true) : ok l = (decide (1 ≤ l.length) && decide (l.length ≤ 16)) := by simp [ok, h]
theorem ok_not {l : List Nat} {k : Nat} (hk : k < l.length) (h : okc (l.getD k 0) = false) : ok l = false := by
  have : l.all okc = false := by
    rw [List.all_eq_false]
    rw [List.getD_eq_getElem?_getD, List.getElem?_eq_getElem hk] at h
    exact ⟨_, List.getElem_mem hk, by simpa using h⟩
  simp [ok, this]
theorem okc_split (x : Nat) : (okc x = true ∧ ((97 ≤ x ∧ x ≤ 122) ∨ (x < 97 ∧ 48 ≤ x ∧ x ≤ 57) ∨ x = 46 ∨ x = 45 ∨ x = 95)) ∨ (okc x = false ∧ (x < 45 ∨ x = 47 ∨ (57 < x ∧ x < 95) ∨ x = 96 ∨ 122 < x)) := by
  by_cases h : okc x = true
  · refine .inl ⟨h, ?_⟩
    simp [okc] at h
    omega
  · refine .inr ⟨by simpa using h, ?_⟩
    simp [okc] at h
    omega
theorem all_of {l : List Nat} (h : ∀ j, j < l.length → okc (l.getD j 0) = true) : l.all okc = true := by
  rw [List.all_eq_true]
  intro c hc
  obtain ⟨j, hj, rfl⟩ := List.getElem_of_mem hc
  have := h j hj
  rwa [List.getD_eq_getElem?_getD, List.getElem?_eq_getElem hj] at this
theorem file_at {l : List Nat} {k : Nat} (hk : k < l.length) (hx : l.getD k 0 = 47) (hall : ∀ j, j < k → l.getD j 0 ≠ 47) : file l = (ok (l.take k) && ok (l.drop (k + 1))) := by
  have e : l = l.take k ++ 47 :: l.drop (k + 1) := by
    conv => lhs; rw [← List.take_append_drop k l, List.drop_eq_getElem_cons hk]
    rw [List.getD_eq_getElem?_getD, List.getElem?_eq_getElem hk] at hx
    rw [show l[k] = 47 from hx]
  have ha : ∀ c ∈ l.take k, (decide (c ≠ 47)) = true := fun c hc => by
    obtain ⟨j, hj, rfl⟩ := List.getElem_of_mem hc
    rw [List.length_take] at hj
    have := hall j (by omega)
    rw [List.getD_eq_getElem?_getD, List.getElem?_eq_getElem (by omega)] at this
    rw [List.getElem_take]
    simpa using this
  have h1 : l.takeWhile (· ≠ 47) = l.take k := by
    conv => lhs; rw [e]
    rw [List.takeWhile_append_of_pos ha]
    simp
  have h2 : l.dropWhile (· ≠ 47) = 47 :: l.drop (k + 1) := by
    conv => lhs; rw [e]
    rw [List.dropWhile_append_of_pos ha]
    simp
  have h3 : 47 ∈ l := by rw [e]; simp
  unfold file
  rw [if_pos h3, h1, h2]
  rfl
def digs : Nat → List Nat
  | 0 => []
  | n + 1 => digs ((n + 1) / 10) ++ [48 + (n + 1) % 10]
decreasing_by omega
def dec (n : Nat) : List Nat := if n = 0 then [48] else digs n
theorem digs_pos {n : Nat} (h : n ≠ 0) : digs n = digs (n / 10) ++ [48 + n % 10] := by
  obtain ⟨m, rfl⟩ : ∃ m, n = m + 1 := ⟨n - 1, by omega⟩
  rw [digs]
theorem digs_zero : digs 0 = [] := by rw [digs]
theorem digs_byte : ∀ (n : Nat), ∀ c ∈ digs n, 48 ≤ c ∧ c ≤ 57 := by
  intro n
  induction n using Nat.strongRecOn with
  | _ n ih =>
    intro c hc
    by_cases h : n = 0
    · subst h; rw [digs_zero] at hc; exact absurd hc (by simp)
    · rw [digs_pos h, List.mem_append] at hc
      rcases hc with hc | hc
      · exact ih (n / 10) (by omega) c hc
      · simp at hc; omega
theorem dec_byte (n : Nat) : ∀ c ∈ dec n, 48 ≤ c ∧ c ≤ 57 := by
  intro c hc
  unfold dec at hc
  split at hc
  · simp at hc; omega
  · exact digs_byte n c hc
theorem digs_len : ∀ (k n : Nat), n < 10 ^ k → (digs n).length ≤ k := by
  intro k
  induction k with
  | zero => intro n h; obtain rfl : n = 0 := by simpa using h
            rw [digs_zero]; simp
  | succ k ih =>
    intro n h
    by_cases h0 : n = 0
    · subst h0; rw [digs_zero]; simp
    · rw [digs_pos h0, List.length_append]
      have := ih (n / 10) (by rw [Nat.pow_succ] at h; omega)
      simp; omega
theorem dec_len {k n : Nat} (h : n < 10 ^ k) (hk : 1 ≤ k) : (dec n).length ≤ k := by
  unfold dec
  split
  · simpa using hk
  · exact digs_len k n h
theorem digs_ne {n : Nat} (h : n ≠ 0) : digs n ≠ [] := by rw [digs_pos h]; simp
theorem dec_ne (n : Nat) : dec n ≠ [] := by
  unfold dec; split
  · simp
  · exact digs_ne ‹_›
/-- How far the decimal is written: the digits above stand yet to come. -/
def Dt (n m : Nat) (l : List Nat) : Prop := (l = [] ∧ m = n) ∨ (l ≠ [] ∧ digs m ++ l = dec n)
theorem Dt.start (n : Nat) : Dt n n [] := .inl ⟨rfl, rfl⟩
theorem Dt.next {n m : Nat} {l : List Nat} (h : Dt n m l) (hm : m ≠ 0 ∨ l = []) : Dt n (m / 10) ((48 + m % 10) :: l) := by
  refine .inr ⟨by simp, ?_⟩
  by_cases h0 : m = 0
  · subst h0
    obtain rfl := hm.resolve_left (by simp)
    rcases h with ⟨-, rfl⟩ | ⟨h, -⟩
    · rw [show 0 / 10 = 0 from rfl, digs_zero]; rfl
    · exact absurd rfl h
  · rcases h with ⟨rfl, rfl⟩ | ⟨-, h⟩
    · rw [dec, if_neg h0, digs_pos h0]
    · rw [← h, digs_pos h0, List.append_assoc]; rfl
theorem Dt.done {n : Nat} {l : List Nat} (h : Dt n 0 l) (hl : l ≠ []) : l = dec n := by
  rcases h with ⟨h, -⟩ | ⟨-, h⟩
  · exact absurd h hl
  · rw [digs_zero] at h; exact h
theorem Dt.byte {n m : Nat} {l : List Nat} (h : Dt n m l) : ∀ c ∈ l, c < 256 := by
  rcases h with ⟨rfl, -⟩ | ⟨-, h⟩
  · simp
  · intro c hc
    have := dec_byte n c (by rw [← h]; exact List.mem_append_right _ hc)
    omega
theorem Dt.len {n m : Nat} {l : List Nat} (h : Dt n m l) : l.length ≤ (dec n).length := by
  rcases h with ⟨rfl, -⟩ | ⟨-, h⟩
  · simp
  · rw [← h, List.length_append]; omega
theorem Dt.len18 {n m : Nat} {l : List Nat} (h : Dt n m l) (hn : n < 1000000000000000000) : l.length ≤ 18 := Nat.le_trans h.len (dec_len (k := 18) hn (by omega))
/-- A number held to its bounds. -/
def held (x : Int) (m : Nat) : Nat := min (max x 0).toNat m
def temp (a b c : Nat) : List Nat := [116, 109, 112, 47] ++ dec a ++ [46] ++ dec b ++ [46] ++ dec c
theorem held_le (x : Int) (m : Nat) : held x m ≤ m := Nat.min_le_right _ _
theorem held_eq (x : Int) (m : Nat) : min (max x 0) (m : Int) = (held x m : Int) := by unfold held; omega
/-- The number of a row of digits. -/
def val (l : List Nat) : Nat := l.foldl (fun n c => 10 * n + (c - 48)) 0
def dig (c : Nat) : Bool := decide (48 ≤ c ∧ c ≤ 57)
def isNum (l : List Nat) (d : Nat) : Bool := l.all dig && decide (l.length ≤ d) && decide (l ≠ []) && (decide (l = [48]) || decide (l.getD 0 0 ≠ 48))
def num (l : List Nat) (d : Nat) : Nat := if isNum l d then val l else 0
theorem val_snoc (l : List Nat) (c : Nat) : val (l ++ [c]) = 10 * val l + (c - 48) := by simp [val]
theorem val_take {l : List Nat} {k : Nat} (h : k < l.length) : val (l.take (k + 1)) = 10 * val (l.take k) + (l.getD k 0 - 48) := by
  rw [List.take_add_one, List.getElem?_eq_getElem h, Option.toList_some, val_snoc, List.getD_eq_getElem?_getD, List.getElem?_eq_getElem h]
  rfl
theorem val_lt {l : List Nat} : ∀ (k : Nat), k ≤ l.length → (∀ j, j < k → l.getD j 0 ≤ 57) → val (l.take k) < 10 ^ k := by
  intro k
  induction k with
  | zero => intro _ _; simp [val]
  | succ k ih =>
    intro hk h
    rw [val_take (by omega), Nat.pow_succ]
    have h1 := ih (by omega) fun j hj => h j (by omega)
    have h2 := h k (by omega)
    omega
theorem isNum_bad {l : List Nat} {k : Nat} (d : Nat) (hk : k < l.length) (h : dig (l.getD k 0) = false) : isNum l d = false := by
  have : l.all dig = false := by
    rw [List.all_eq_false]
    rw [List.getD_eq_getElem?_getD, List.getElem?_eq_getElem hk] at h
    exact ⟨_, List.getElem_mem hk, by simpa using h⟩
  simp [isNum, this]
theorem isNum_long {l : List Nat} {d : Nat} (h : d < l.length) : isNum l d = false := by
  simp [isNum, show ¬ l.length ≤ d by omega]
theorem dig_all {l : List Nat} (h : ∀ j, j < l.length → dig (l.getD j 0) = true) : l.all dig = true := by
  rw [List.all_eq_true]
  intro c hc
  obtain ⟨j, hj, rfl⟩ := List.getElem_of_mem hc
  have := h j hj
  rwa [List.getD_eq_getElem?_getD, List.getElem?_eq_getElem hj] at this
theorem isNum_nil {l : List Nat} (d : Nat) (h : l.length = 0) : isNum l d = false := by
  obtain rfl := List.length_eq_zero_iff.1 h
  simp [isNum]
theorem isNum_lead {l : List Nat} (d : Nat) (h : 2 ≤ l.length) (h0 : l.getD 0 0 = 48) : isNum l d = false := by
  have : l ≠ [48] := fun e => by subst e; simp at h
  have h2 : ¬ l.getD 0 0 ≠ 48 := fun e => e h0
  rw [isNum, decide_eq_false this, decide_eq_false h2]
  simp
theorem isNum_yes {l : List Nat} {d n : Nat} (hn : l.length = n) (hd : n ≤ d) (h1 : 1 ≤ n) (ha : ∀ j, j < n → dig (l.getD j 0) = true) (h : l = [48] ∨ l.getD 0 0 ≠ 48) : isNum l d = true := by
  subst hn
  have h2 : l ≠ [] := fun e => by subst e; simp at h1
  rw [isNum, dig_all ha, decide_eq_true hd, decide_eq_true h2]
  rcases h with h | h
  · rw [decide_eq_true h]; rfl
  · rw [decide_eq_true h]; simp
theorem dig_le {c : Nat} (h : dig c = true) : c ≤ 57 := by
  simp [dig] at h
  omega
/-- A text's parts between its dots: one byte more. -/
def addTo (L : List (List Nat)) (c : Nat) : List (List Nat) := if c = 46 then L ++ [[]] else L.set (L.length - 1) (L.getD (L.length - 1) [] ++ [c])
def parts (l : List Nat) : List (List Nat) := l.foldl addTo [[]]
theorem parts_snoc (l : List Nat) (c : Nat) : parts (l ++ [c]) = addTo (parts l) c := by simp [parts]
theorem addTo_len (L : List (List Nat)) (c : Nat) : L.length ≤ (addTo L c).length ∧ (addTo L c).length ≤ L.length + 1 := by
  unfold addTo
  split <;> simp
theorem foldl_len : ∀ (l : List Nat) (L : List (List Nat)), L.length ≤ (l.foldl addTo L).length ∧ (l.foldl addTo L).length ≤ L.length + l.length
  | [], L => by simp
  | c :: l, L => by
    have h1 := foldl_len l (addTo L c)
    have h2 := addTo_len L c
    simp only [List.foldl_cons, List.length_cons]
    omega
theorem parts_len (l : List Nat) : 1 ≤ (parts l).length ∧ (parts l).length ≤ l.length + 1 := by
  have := foldl_len l [[]]
  simp only [List.length_singleton] at this
  unfold parts
  omega
def Fit (m : Nat) (L : List (List Nat)) : Prop := ∀ p ∈ L, p.length ≤ m ∧ ∀ c ∈ p, c < 256
theorem Fit.getD {m : Nat} {L : List (List Nat)} (h : Fit m L) (k : Nat) : (L.getD k []).length ≤ m ∧ ∀ c ∈ L.getD k [], c < 256 := by
  rw [List.getD_eq_getElem?_getD]
  by_cases hk : k < L.length
  · rw [List.getElem?_eq_getElem hk]
    exact h _ (List.getElem_mem hk)
  · rw [List.getElem?_eq_none (by omega)]
    exact ⟨Nat.zero_le _, by simp⟩
theorem Fit.add {m : Nat} {L : List (List Nat)} (h : Fit m L) {c : Nat} (hc : c < 256) : Fit (m + 1) (addTo L c) := by
  unfold addTo
  split
  · intro p hp
    rcases List.mem_append.1 hp with hp | hp
    · exact ⟨by have := (h p hp).1; omega, (h p hp).2⟩
    · simp at hp
      subst hp
      exact ⟨Nat.zero_le _, by simp⟩
  · intro p hp
    rcases List.mem_or_eq_of_mem_set hp with hp | rfl
    · exact ⟨by have := (h p hp).1; omega, (h p hp).2⟩
    · have := h.getD (L.length - 1)
      refine ⟨by simp; exact this.1, fun x hx => ?_⟩
      rcases List.mem_append.1 hx with hx | hx
      · exact this.2 x hx
      · simp at hx
        omega
theorem foldl_fit : ∀ (l : List Nat) (L : List (List Nat)) (m : Nat), (∀ c ∈ l, c < 256) → Fit m L → Fit (m + l.length) (l.foldl addTo L)
  | [], L, m, _, h => h
  | c :: l, L, m, hc, h => by
    have := foldl_fit l (addTo L c) (m + 1) (fun x hx => hc x (List.mem_cons_of_mem _ hx)) (h.add (hc c (by simp)))
    simp only [List.foldl_cons, List.length_cons]
    rwa [show m + (l.length + 1) = m + 1 + l.length from by omega]
theorem parts_fit {l : List Nat} (h : ∀ c ∈ l, c < 256) : Fit l.length (parts l) := by
  have := foldl_fit l [[]] 0 h (by intro p hp; simp at hp; subst hp; exact ⟨Nat.le_refl _, by simp⟩)
  rwa [Nat.zero_add] at this
/-- What a temp's text tells. -/
def isOf (l : List Nat) : Bool := decide (l.take 4 = [116, 109, 112, 47]) && decide ((parts (l.drop 4)).length = 3) && isNum ((parts (l.drop 4)).getD 0 []) 3 && isNum ((parts (l.drop 4)).getD 1 []) 5 && isNum ((parts (l.drop 4)).getD 2 []) 5
def ofWho (l : List Nat) : Nat := if isOf l then num ((parts (l.drop 4)).getD 0 []) 3 else 0
def ofInc (l : List Nat) : Nat := if isOf l then num ((parts (l.drop 4)).getD 1 []) 5 else 0
theorem isOf_head {l : List Nat} (h : l.take 4 ≠ [116, 109, 112, 47]) : isOf l = false := by simp [isOf, h]
theorem isOf_short {l : List Nat} (h : l.length < 4) : isOf l = false := isOf_head fun e => by
  have := congrArg List.length e
  rw [List.length_take] at this
  simp at this
  omega
theorem isOf_parts {l : List Nat} (h : (parts (l.drop 4)).length ≠ 3) : isOf l = false := by simp [isOf, h]
theorem isOf_eq {l : List Nat} (h1 : l.take 4 = [116, 109, 112, 47]) (h2 : (parts (l.drop 4)).length = 3) : isOf l = (isNum ((parts (l.drop 4)).getD 0 []) 3 && isNum ((parts (l.drop 4)).getD 1 []) 5 && isNum ((parts (l.drop 4)).getD 2 []) 5) := by
  rw [isOf, decide_eq_true h1, decide_eq_true h2]
  simp
theorem parts_take {l : List Nat} {k : Nat} (h : k + 4 < l.length) : parts ((l.drop 4).take (k + 1)) = addTo (parts ((l.drop 4).take k)) (l.getD (k + 4) 0) := by
  rw [List.take_add_one, List.getElem?_drop, List.getElem?_eq_getElem (by omega), Option.toList_some, parts_snoc, List.getD_eq_getElem?_getD, show k + 4 = 4 + k from by omega, List.getElem?_eq_getElem (by omega)]
  rfl
end Go.Proofs.Ytoloidfkpfdboaa.Nm

/- Files as the document has them: in the order of their names. -/
namespace Go.Proofs.Ytoloidfkpfdboaa
set_option maxRecDepth 100000
namespace Sf
structure Fi where
  name : List Nat
  b : List Nat
  stamp : Nat
structure S where
  l : List Fi
  room : Int
  next : Nat
  cut : Int
def get (l : List Fi) (t : List Nat) : Option Fi := l.find? fun x => decide (x.name = t)
def gone (l : List Fi) (t : List Nat) : List Fi := l.filter fun x => decide (x.name ≠ t)
def put (l : List Fi) (x : Fi) : List Fi := ((gone l x.name).takeWhile fun y => decide (y.name < x.name)) ++ x :: ((gone l x.name).dropWhile fun y => decide (y.name < x.name))
def used (l : List Fi) : Nat := (l.map fun x => x.b.length).sum
def bytes (l : List Fi) (t : List Nat) : List Nat := ((get l t).map (·.b)).getD []
def stamp (l : List Fi) (t : List Nat) : Nat := ((get l t).map (·.stamp)).getD 0
def wr (s : S) (t b : List Nat) : S := { s with l := put s.l ⟨t, b, s.next + 1⟩, next := s.next + 1 }
def rm (s : S) (t : List Nat) : S := { s with l := gone s.l t }
def guard (l : List Fi) (g : List Nat × Int) : Bool := (get l g.1).isSome && decide ((stamp l g.1 : Int) = g.2)
def guards (l : List Fi) (g : List (List Nat × Int)) : Bool := g.all (guard l)
def refuse (l : List Fi) (g : List (List Nat × Int)) (names : List (List Nat)) : Nat := if names.all Nm.file then if guards l g then 0 else 5 else 1
def fits (s : S) (t : List Nat) (n : Nat) : Bool := decide (n ≤ (bytes s.l t).length) || decide ((used s.l : Int) + ((n : Int) - (bytes s.l t).length) ≤ s.room)
def putS (s : S) (t b : List Nat) : S × Nat × Nat := if Nm.file t then if fits s t b.length then (wr s t b, s.next + 1, 0) else (s, 0, 2) else (s, 0, 1)
def make (s : S) (t b : List Nat) : S × Nat × Nat := if Nm.file t then if (get s.l t).isSome then (s, 0, 3) else putS s t b else (s, 0, 1)
def part (s : S) (n : Nat) : S × Nat × Nat :=
  if s.cut = -1 then if (n : Int) ≤ max (s.room - used s.l) 0 then (s, n, 0) else (s, (max (s.room - used s.l) 0).toNat, 2) else ({ s with cut := -1 }, (min (n : Int) s.cut).toNat, 7)
def app (s : S) (t b : List Nat) (g : List (List Nat × Int)) : S × Nat × Nat :=
  if refuse s.l g [t] = 0 then
    if (part s b.length).2.2 = 0 then (wr (part s b.length).1 t (bytes s.l t ++ b), s.next + 1, 0)
    else if 0 < (part s b.length).2.1 then (wr (part s b.length).1 t (bytes s.l t ++ b.take (part s b.length).2.1), 0, (part s b.length).2.2)
    else ((part s b.length).1, 0, (part s b.length).2.2)
  else (s, 0, refuse s.l g [t])
def move (s : S) (a b : List Nat) (g : List (List Nat × Int)) : S × Nat × Nat :=
  if a = b then (s, 0, 1) else if refuse s.l g [a, b] = 0 then if (get s.l a).isSome then (wr (rm s a) b (bytes s.l a), s.next + 1, 0) else (s, 0, 4) else (s, 0, refuse s.l g [a, b])
def drop (s : S) (t : List Nat) (g : List (List Nat × Int)) : S × Nat :=
  if refuse s.l g [t] = 0 then if (get s.l t).isSome then (rm s t, 0) else (s, 4) else (s, refuse s.l g [t])
def held (n : Int) : Int := min (max n 0) 1073741824
def new (n : Int) : S := ⟨[], held n, 0, -1⟩
def folder (t : List Nat) : List Nat := if 47 ∈ t then t.takeWhile (· ≠ 47) else []
def list (l : List Fi) (d : List Nat) : List (List Nat) := (l.map (·.name)).filter fun t => decide (folder t = d)

def Ord (l : List Fi) : Prop := l.Pairwise fun x y => x.name < y.name
theorem lt_ne {a b : List Nat} (h : a < b) : a ≠ b := fun e => by subst e; exact (List.lt_irrefl a) h
theorem get_some {l : List Fi} {t : List Nat} {x : Fi} (h : get l t = some x) : x ∈ l ∧ x.name = t := by
  refine ⟨List.mem_of_find?_eq_some h, ?_⟩
  have := List.find?_some h
  simpa using this
theorem get_none {l : List Fi} {t : List Nat} (h : get l t = none) : ∀ x ∈ l, x.name ≠ t := by
  have := List.find?_eq_none.1 h
  intro x hx
  simpa using this x hx
theorem get_gone (l : List Fi) (t u : List Nat) : get (gone l t) u = if u = t then none else get l u := by
  unfold get gone
  rw [List.find?_filter]
  by_cases h : u = t
  · subst h
    rw [if_pos rfl, List.find?_eq_none]
    intro x _
    by_cases e : x.name = u <;> simp [e]
  · rw [if_neg h]
    refine congrArg (fun p => List.find? p l) (funext fun x => ?_)
    by_cases e : x.name = u
    · subst e
      simp [h]
    · simp [e]
theorem get_app (A B : List Fi) (u : List Nat) : get (A ++ B) u = (get A u).or (get B u) := by
  unfold get
  rw [List.find?_append]
theorem get_put (l : List Fi) (x : Fi) (u : List Nat) : get (put l x) u = if u = x.name then some x else get l u := by
  unfold put
  have hs : ∀ p : Fi → Bool, get (gone l x.name) u = (get ((gone l x.name).takeWhile p) u).or (get ((gone l x.name).dropWhile p) u) := fun p => by
    rw [← get_app, List.takeWhile_append_dropWhile]
  have hg := get_gone l x.name u
  rw [get_app]
  by_cases h : u = x.name
  · subst h
    rw [if_pos rfl] at hg ⊢
    have hn : get ((gone l x.name).takeWhile fun y => decide (y.name < x.name)) x.name = none := by
      rw [hs fun y => decide (y.name < x.name)] at hg
      exact (Option.or_eq_none_iff.1 hg).1
    rw [hn]
    simp [get]
  · rw [if_neg h] at hg ⊢
    rw [← hg, hs fun y => decide (y.name < x.name)]
    refine congrArg _ ?_
    unfold get
    rw [List.find?_cons_of_neg (by simpa using fun e => h e.symm)]
theorem used_cons (x : Fi) (l : List Fi) : used (x :: l) = x.b.length + used l := by simp [used]
theorem used_app (A B : List Fi) : used (A ++ B) = used A + used B := by simp [used]
theorem used_put (l : List Fi) (x : Fi) : used (put l x) = used (gone l x.name) + x.b.length := by
  have : used (gone l x.name) = used ((gone l x.name).takeWhile fun y => decide (y.name < x.name)) + used ((gone l x.name).dropWhile fun y => decide (y.name < x.name)) := by
    rw [← used_app, List.takeWhile_append_dropWhile]
  rw [this]
  unfold put
  rw [used_app, used_cons]
  omega
theorem gone_all {l : List Fi} {t : List Nat} (h : ∀ x ∈ l, x.name ≠ t) : gone l t = l := by
  unfold gone
  rw [List.filter_eq_self]
  intro x hx
  simpa using h x hx
theorem used_gone {l : List Fi} (ho : Ord l) (t : List Nat) : used l = used (gone l t) + (bytes l t).length := by
  induction l with
  | nil => rfl
  | cons x r ih =>
    obtain ⟨h1, h2⟩ := List.pairwise_cons.1 ho
    by_cases e : x.name = t
    · subst e
      have e1 : gone (x :: r) x.name = r := by
        unfold gone
        rw [List.filter_cons_of_neg (by simp)]
        exact gone_all fun y hy => (lt_ne (h1 y hy)).symm
      have e2 : bytes (x :: r) x.name = x.b := by simp [bytes, get]
      rw [e1, e2, used_cons]
      omega
    · have e1 : gone (x :: r) t = x :: gone r t := by
        unfold gone
        rw [List.filter_cons_of_pos (by simpa using e)]
      have e2 : bytes (x :: r) t = bytes r t := by
        unfold bytes get
        rw [List.find?_cons_of_neg (by simpa using e)]
      rw [e1, e2, used_cons, used_cons, ih h2]
      omega
theorem bytes_le {l : List Fi} (ho : Ord l) (t : List Nat) : (bytes l t).length ≤ used l := by
  have := used_gone ho t
  omega
theorem mem_put {l : List Fi} {x y : Fi} (h : y ∈ put l x) : y = x ∨ y ∈ l := by
  unfold put at h
  rcases List.mem_append.1 h with h | h
  · exact .inr (List.mem_filter.1 ((List.takeWhile_prefix _).subset h)).1
  · rcases List.mem_cons.1 h with h | h
    · exact .inl h
    · exact .inr (List.mem_filter.1 ((List.dropWhile_suffix _).subset h)).1
theorem ord_gone {l : List Fi} (ho : Ord l) (t : List Nat) : Ord (gone l t) := List.Pairwise.filter _ ho
theorem lt_total {a b : List Nat} (h : ¬ a < b) (hn : a ≠ b) : b < a := by
  rcases Nat.lt_or_ge 0 1 with _ | _
  · have := List.not_lt.1 h
    rcases List.le_iff_lt_or_eq.1 this with h1 | h1
    · exact h1
    · exact absurd h1.symm hn
  · omega
theorem ord_put {l : List Fi} (ho : Ord l) (x : Fi) : Ord (put l x) := by
  have hg := ord_gone ho x.name
  have hne : ∀ y ∈ gone l x.name, y.name ≠ x.name := fun y hy => by
    have := (List.mem_filter.1 hy).2
    simpa using this
  unfold put
  generalize gone l x.name = G at hg hne
  induction G with
  | nil => simp [Ord]
  | cons y r ih =>
    obtain ⟨h1, h2⟩ := List.pairwise_cons.1 hg
    by_cases e : y.name < x.name
    · rw [List.takeWhile_cons_of_pos (by simpa using e), List.dropWhile_cons_of_pos (by simpa using e)]
      refine List.pairwise_cons.2 ⟨fun z hz => ?_, ih h2 fun z hz => hne z (List.mem_cons_of_mem _ hz)⟩
      rcases List.mem_append.1 hz with h | h
      · exact h1 z ((List.takeWhile_prefix _).subset h)
      · rcases List.mem_cons.1 h with rfl | h
        · exact e
        · exact h1 z ((List.dropWhile_suffix _).subset h)
    · rw [List.takeWhile_cons_of_neg (by simpa using e), List.dropWhile_cons_of_neg (by simpa using e)]
      refine List.pairwise_cons.2 ⟨fun z hz => ?_, hg⟩
      have hy := lt_total e (hne y (by simp))
      rcases List.mem_cons.1 hz with rfl | h
      · exact hy
      · exact List.lt_trans hy (h1 z h)
/-- What holds of all files. -/
def Good (s : S) : Prop :=
  Ord s.l ∧ (∀ x ∈ s.l, (∀ c ∈ x.name, c < 256) ∧ x.name.length ≤ 1048576 ∧ 1 ≤ x.stamp ∧ x.stamp ≤ s.next) ∧ 0 ≤ s.room ∧ s.room ≤ 1073741824 ∧ -1 ≤ s.cut ∧ s.cut ≤ 9223372036854775807
theorem good_new (n : Int) : Good (new n) := by
  refine ⟨List.Pairwise.nil, by simp [new], ?_, ?_, by simp [new], by simp [new]⟩ <;> simp only [new, held] <;> omega
theorem good_wr {s : S} (h : Good s) {t b : List Nat} (ht : ∀ c ∈ t, c < 256) (hl : t.length ≤ 1048576) : Good (wr s t b) := by
  obtain ⟨h1, h2, h3⟩ := h
  refine ⟨ord_put h1 _, fun x hx => ?_, h3⟩
  rcases mem_put hx with rfl | hx
  · exact ⟨ht, hl, by simp, Nat.le_refl _⟩
  · obtain ⟨a, b, c, d⟩ := h2 x hx
    exact ⟨a, b, c, Nat.le_trans d (Nat.le_succ _)⟩
theorem good_rm {s : S} (h : Good s) (t : List Nat) : Good (rm s t) := by
  obtain ⟨h1, h2, h3⟩ := h
  exact ⟨ord_gone h1 _, fun x hx => h2 x (List.mem_filter.1 hx).1, h3⟩
theorem file_small {t : List Nat} (h : Nm.file t = true) : t.length ≤ 1048576 := by
  have ok_small : ∀ {u : List Nat}, Nm.ok u = true → u.length ≤ 16 := fun {u} hu => by
    unfold Nm.ok at hu
    simp only [Bool.and_eq_true, decide_eq_true_eq] at hu
    exact hu.2
  unfold Nm.file at h
  split at h
  · rename_i hm
    simp only [Bool.and_eq_true] at h
    have e : t.length = (t.takeWhile (· ≠ 47)).length + (t.dropWhile (· ≠ 47)).length := by
      rw [← List.length_append, List.takeWhile_append_dropWhile]
    have h1 := ok_small h.1
    have h2 := ok_small h.2
    rw [List.length_drop] at h2
    omega
  · have := ok_small h
    omega
end Sf
end Go.Proofs.Ytoloidfkpfdboaa

/- Plain facts on the sum of bytes (CRC-32): it is linear, and bytes that differ within four in a row have sums that differ. -/
namespace Go.Proofs.Ytoloidfkpfdboaa.Crc
set_option maxRecDepth 100000

/-- The polynomial's bits, turned round. -/
def poly : Nat := 0xEDB88320
def half (s : Nat) : Nat := if s % 2 = 1 then (s / 2) ^^^ poly else s / 2
def times : Nat → Nat → Nat
  | 0, s => s
  | k + 1, s => times k (half s)
def step (s c : Nat) : Nat := times 8 (s ^^^ c)
def run (s : Nat) (l : List Nat) : Nat := l.foldl step s
def sum (l : List Nat) : Nat := run 0xFFFFFFFF l ^^^ 0xFFFFFFFF

theorem xor_lt {a b : Nat} (ha : a < 4294967296) (hb : b < 4294967296) : a ^^^ b < 4294967296 :=
  Nat.xor_lt_two_pow (n := 32) ha hb
theorem poly_lt : poly < 4294967296 := by decide
theorem half_lt {s : Nat} (h : s < 4294967296) : half s < 4294967296 := by
  unfold half
  split
  · exact xor_lt (by omega) poly_lt
  · omega
theorem times_lt (k : Nat) {s : Nat} (h : s < 4294967296) : times k s < 4294967296 := by
  induction k generalizing s with
  | zero => exact h
  | succ k ih => exact ih (half_lt h)
theorem step_lt {s c : Nat} (h : s < 4294967296) (hc : c < 256) : step s c < 4294967296 :=
  times_lt 8 (xor_lt h (by omega))
theorem run_lt (l : List Nat) {s : Nat} (h : s < 4294967296) (hl : ∀ c ∈ l, c < 256) : run s l < 4294967296 := by
  induction l generalizing s with
  | nil => exact h
  | cons c l ih => exact ih (step_lt h (hl c (by simp))) fun d hd => hl d (by simp [hd])
theorem sum_lt (l : List Nat) (hl : ∀ c ∈ l, c < 256) : sum l < 4294967296 := xor_lt (run_lt l (by decide) hl) (by decide)

theorem xor_mod (a b : Nat) : (a ^^^ b) % 2 = (a % 2 + b % 2) % 2 := by
  have := @Nat.xor_mod_two_eq_one a b
  omega
theorem xor_half (a b : Nat) : (a ^^^ b) / 2 = (a / 2) ^^^ (b / 2) := Nat.xor_div_two
theorem mix (a b c d : Nat) : (a ^^^ b) ^^^ (c ^^^ d) = (a ^^^ c) ^^^ (b ^^^ d) := by ac_rfl
theorem times_succ' (k s : Nat) : times (k + 1) s = half (times k s) := by
  induction k generalizing s with
  | zero => rfl
  | succ k ih => exact ih (half s)
theorem half_xor (a b : Nat) : half (a ^^^ b) = half a ^^^ half b := by
  unfold half
  rw [xor_mod, xor_half]
  rcases Nat.mod_two_eq_zero_or_one a with ha | ha <;> rcases Nat.mod_two_eq_zero_or_one b with hb | hb <;> simp only [ha, hb]
  · simp
  · simp [Nat.xor_assoc]
  · simp; ac_rfl
  · simp; rw [mix]; simp
theorem half_zero : half 0 = 0 := by decide
theorem times_zero (k : Nat) : times k 0 = 0 := by induction k with
  | zero => rfl
  | succ k ih => exact ih
theorem times_xor (k a b : Nat) : times k (a ^^^ b) = times k a ^^^ times k b := by
  induction k generalizing a b with
  | zero => rfl
  | succ k ih => show times k (half (a ^^^ b)) = _; rw [half_xor, ih]; rfl
theorem step_xor (s t c d : Nat) : step (s ^^^ t) (c ^^^ d) = step s c ^^^ step t d := by
  unfold step; rw [mix, times_xor]
theorem run_xor (l m : List Nat) (h : l.length = m.length) (s t : Nat) : run s l ^^^ run t m = run (s ^^^ t) (List.zipWith (· ^^^ ·) l m) := by
  induction l generalizing m s t with
  | nil => cases m with
    | nil => rfl
    | cons => simp at h
  | cons c l ih => cases m with
    | nil => simp at h
    | cons d m => exact (ih m (by simpa using h) _ _).trans (by rw [← step_xor]; rfl)

theorem half_ne {s : Nat} (h : s < 4294967296) (hs : s ≠ 0) : half s ≠ 0 := by
  unfold half
  split
  · intro h0
    have : s / 2 = poly := by
      have := congrArg (· ^^^ poly) h0
      simpa [Nat.xor_assoc] using this
    unfold poly at this
    omega
  · omega
theorem times_ne (k : Nat) {s : Nat} (h : s < 4294967296) (hs : s ≠ 0) : times k s ≠ 0 := by
  induction k generalizing s with
  | zero => exact hs
  | succ k ih => exact ih (half_lt h) (half_ne h hs)
theorem times_times (j k s : Nat) : times j (times k s) = times (k + j) s := by
  induction k generalizing s with
  | zero => simp [times]
  | succ k ih => rw [Nat.succ_add]; exact ih _
theorem half_two (s : Nat) : half (2 * s) = s := by
  unfold half
  rw [if_neg (by omega)]; omega
theorem times_up (k s : Nat) : times k (2 ^ k * s) = s := by
  induction k generalizing s with
  | zero => simp [times]
  | succ k ih =>
    show times k (half _) = s
    rw [Nat.pow_succ', Nat.mul_assoc, half_two, ih]

/-- Zeros do not turn what was nothing; and keep what was something. -/
theorem run_zeros (n : Nat) : run 0 (List.replicate n 0) = 0 := by
  induction n with
  | zero => rfl
  | succ n ih => exact ih
theorem run_keeps (n : Nat) {s : Nat} (h : s < 4294967296) (hs : s ≠ 0) : run s (List.replicate n 0) ≠ 0 := by
  induction n generalizing s with
  | zero => exact hs
  | succ n ih =>
    refine ih (s := step s 0) (step_lt h (by omega)) ?_
    unfold step; simp only [Nat.xor_zero]; exact times_ne 8 h hs

/-- Bytes laid into one number, the first lowest. -/
def pack : List Nat → Nat
  | [] => 0
  | c :: l => c ^^^ (256 * pack l)
theorem pack_lt (l : List Nat) (hl : ∀ c ∈ l, c < 256) : pack l < 256 ^ l.length := by
  induction l with
  | nil => simp [pack]
  | cons c l ih =>
    have hi := ih fun d hd => hl d (by simp [hd])
    have hc : c < 256 := hl c (by simp)
    show c ^^^ (256 * pack l) < 256 ^ (l.length + 1)
    have e : (256 : Nat) ^ (l.length + 1) = 2 ^ (8 * (l.length + 1)) := by rw [Nat.pow_mul]
    rw [e]
    refine Nat.xor_lt_two_pow (Nat.lt_of_lt_of_le hc ?_) ?_
    · exact Nat.pow_le_pow_right (n := 2) (i := 8) (by omega) (by omega)
    · rw [← e, Nat.pow_succ]; omega
theorem pack_zero (l : List Nat) (hl : ∀ c ∈ l, c < 256) (h : pack l = 0) : ∀ c ∈ l, c = 0 := by
  induction l with
  | nil => intro c hc; simp at hc
  | cons c l ih =>
    have hc : c < 256 := hl c (by simp)
    have e : c = 256 * pack l := by
      have := congrArg (· ^^^ (256 * pack l)) (show c ^^^ (256 * pack l) = 0 from h)
      simpa [Nat.xor_assoc] using this
    have hp : pack l = 0 := by omega
    intro d hd
    rcases List.mem_cons.1 hd with rfl | hd
    · omega
    · exact ih (fun d hd => hl d (by simp [hd])) hp d hd
/-- A row of bytes from nothing on is its number, shifted out. -/
theorem run_pack (l : List Nat) (s : Nat) : run s l = times (8 * l.length) (s ^^^ pack l) := by
  induction l generalizing s with
  | nil => simp [run, pack, times]
  | cons c l ih =>
    show run (step s c) l = _
    rw [ih]
    have : step s c ^^^ pack l = times 8 (s ^^^ (c ^^^ (256 * pack l))) := by
      unfold step
      rw [← Nat.xor_assoc, times_xor 8 (s ^^^ c)]
      congr 1
      exact (times_up 8 _).symm
    rw [this, times_times]
    simp only [List.length_cons, pack]
    rw [show 8 + 8 * l.length = 8 * (l.length + 1) from by omega]

/-- Bytes that differ within four in a row have sums that differ. -/
theorem run_burst (m n : Nat) (es : List Nat) (h4 : es.length ≤ 4) (hb : ∀ c ∈ es, c < 256) (hne : ∃ c ∈ es, c ≠ 0) :
    run 0 (List.replicate m 0 ++ es ++ List.replicate n 0) ≠ 0 := by
  have hp : pack es ≠ 0 := fun h => by
    obtain ⟨c, hc, hc0⟩ := hne
    exact hc0 (pack_zero es hb h c hc)
  have hl : pack es < 4294967296 := Nat.lt_of_lt_of_le (pack_lt es hb) (by
    show 256 ^ es.length ≤ 256 ^ 4
    exact Nat.pow_le_pow_right (by omega) h4)
  have e : run 0 (List.replicate m 0 ++ es ++ List.replicate n 0) = run (times (8 * es.length) (pack es)) (List.replicate n 0) := by
    unfold run
    rw [List.foldl_append, List.foldl_append]
    have h1 : List.foldl step 0 (List.replicate m 0) = 0 := run_zeros m
    rw [h1]
    have h2 : List.foldl step 0 es = times (8 * es.length) (pack es) := by
      have := run_pack es 0
      simpa [run] using this
    rw [h2]
  rw [e]
  exact run_keeps n (times_lt _ hl) (times_ne _ hl hp)

theorem xor_self_eq {a b : Nat} (h : a ^^^ b = 0) : a = b := by
  have := congrArg (· ^^^ b) h
  simpa [Nat.xor_assoc] using this
theorem sum_ne_of (x y : List Nat) (h : x.length = y.length) (hd : run 0 (List.zipWith (· ^^^ ·) x y) ≠ 0) : sum x ≠ sum y := by
  intro e
  apply hd
  have e1 : run 0xFFFFFFFF x = run 0xFFFFFFFF y := by
    have := congrArg (· ^^^ 0xFFFFFFFF) e
    unfold sum at this
    simpa [Nat.xor_assoc] using this
  have := run_xor x y h 0xFFFFFFFF 0xFFFFFFFF
  rw [e1] at this
  simpa using this.symm

theorem zip3 (a b c : List Nat) (hab : a.length = b.length) (hbc : b.length = c.length) :
    sum (List.zipWith (· ^^^ ·) (List.zipWith (· ^^^ ·) a b) c) = sum a ^^^ sum b ^^^ sum c := by
  unfold sum
  have h1 := run_xor a b hab 0xFFFFFFFF 0xFFFFFFFF
  have h2 := run_xor (List.zipWith (· ^^^ ·) a b) c (by simp [hab, hbc]) (0xFFFFFFFF ^^^ 0xFFFFFFFF) 0xFFFFFFFF
  rw [← h1] at h2
  have : (0xFFFFFFFF ^^^ 0xFFFFFFFF ^^^ 0xFFFFFFFF : Nat) = 0xFFFFFFFF := by decide
  rw [this] at h2
  rw [← h2]
  generalize run _ a = A
  generalize run _ b = B
  generalize run _ c = C
  generalize hF : (4294967295 : Nat) = F
  have : A ^^^ F ^^^ (B ^^^ F) ^^^ (C ^^^ F) = A ^^^ B ^^^ C ^^^ F ^^^ (F ^^^ F) := by ac_rfl
  rw [this]; simp
theorem known : sum [49,50,51,52,53,54,55,56,57] = 0xCBF43926 := by decide +kernel
end Go.Proofs.Ytoloidfkpfdboaa.Crc

/- Plain facts on numbers in six bytes, and on what a reader of bytes is. -/
namespace Go.Proofs.Ytoloidfkpfdboaa.Cd
set_option maxRecDepth 100000

/-- A number in six bytes, the highest first. -/
def enc (n : Nat) : List Nat := [n / 1099511627776 % 256, n / 4294967296 % 256, n / 16777216 % 256, n / 65536 % 256, n / 256 % 256, n % 256]
def dec (l : List Nat) : Nat := l.foldl (fun a c => a * 256 + c) 0
/-- What is written: a number, held to its bounds. -/
def held (n : Int) : Nat := (min (max n 0) 1099511627776).toNat
theorem held_le (n : Int) : held n ≤ 1099511627776 := by unfold held; omega
theorem held_eq (n : Int) : min (max n 0) 1099511627776 = ((held n : Nat) : Int) := by unfold held; omega
theorem held_of (n : Int) (h0 : 0 ≤ n) (h1 : n ≤ 1099511627776) : ((held n : Nat) : Int) = n := by unfold held; omega
theorem enc_length (n : Nat) : (enc n).length = 6 := rfl
theorem enc_lt (n : Nat) : ∀ c ∈ enc n, c < 256 := by
  intro c hc
  simp [enc] at hc
  omega
theorem dec_enc (n : Nat) (h : n < 281474976710656) : dec (enc n) = n := by
  simp [enc, dec]
  omega
theorem dec_snoc (l : List Nat) (c : Nat) : dec (l ++ [c]) = dec l * 256 + c := by simp [dec]
theorem dec_lt : ∀ (k : Nat) (l : List Nat), l.length ≤ k → (∀ c ∈ l, c < 256) → dec l < 256 ^ k := by
  intro k
  induction k with
  | zero =>
    intro l h _
    have : l = [] := List.eq_nil_of_length_eq_zero (by omega)
    subst this
    decide
  | succ k ih =>
    intro l h hl
    rcases List.eq_nil_or_concat l with rfl | ⟨m, c, rfl⟩
    · exact Nat.pow_pos (by decide)
    · rw [List.concat_eq_append] at h hl ⊢
      have h1 := ih m (by simp at h; omega) fun x hx => hl x (by simp [hx])
      have h2 := hl c (by simp)
      rw [dec_snoc, Nat.pow_succ]
      omega
theorem dec_take_lt (l : List Nat) (k : Nat) (hk : k ≤ 6) (hl : ∀ c ∈ l, c < 256) : dec (l.take k) < 281474976710656 := by
  have h1 := dec_lt k (l.take k) (List.length_take_le _ _) fun c hc => hl c (List.mem_of_mem_take hc)
  have h2 : 256 ^ k ≤ 256 ^ 6 := Nat.pow_le_pow_right (by decide) hk
  have h3 : 256 ^ 6 = 281474976710656 := by decide
  omega
/-- What is behind k of the six bytes. -/
theorem enc_next (n j : Nat) (h : j < 6) : (enc n).take (6 - (j + 1)) ++ [n / 2 ^ (8 * j) % 256] = (enc n).take (6 - j) := by
  have : j = 0 ∨ j = 1 ∨ j = 2 ∨ j = 3 ∨ j = 4 ∨ j = 5 := by omega
  rcases this with rfl | rfl | rfl | rfl | rfl | rfl <;> simp [enc]

/-- A reader: what is left, or none behind a fault. -/
abbrev St := Option (List Nat)
/-- Can the next six bytes be read? -/
def fits (s : St) (most : Int) : Bool := match s with
  | none => false
  | some l => decide (6 ≤ l.length) && decide ((dec (l.take 6) : Int) ≤ most)
def rest (s : St) : List Nat := s.getD []
def numN (s : St) (most : Int) : Nat := if fits s most then dec ((rest s).take 6) else 0
def numS (s : St) (most : Int) : St := if fits s most then some ((rest s).drop 6) else none
/-- Are as many bytes there as the number says? -/
def fitsB (s : St) (most : Int) : Bool := fits s most && decide (dec ((rest s).take 6) ≤ (rest s).length - 6)
def bytesL (s : St) (most : Int) : List Nat := if fitsB s most then ((rest s).drop 6).take (dec ((rest s).take 6)) else []
def bytesS (s : St) (most : Int) : St := if fitsB s most then some ((rest s).drop (6 + dec ((rest s).take 6))) else none
def okB (s : St) : Bool := s.isSome
def endB (s : St) : Bool := s == some []

theorem fits_none (most : Int) : fits none most = false := rfl
theorem fits_some {l : List Nat} {most : Int} : fits (some l) most = true ↔ 6 ≤ l.length ∧ (dec (l.take 6) : Int) ≤ most := by simp [fits]
theorem fits_short {l : List Nat} {most : Int} (h : l.length < 6) : fits (some l) most = false := by simp [fits]; omega
theorem fits_great {l : List Nat} {most : Int} (h : most < (dec (l.take 6) : Int)) : fits (some l) most = false := by simp [fits]; omega
end Go.Proofs.Ytoloidfkpfdboaa.Cd

/- Plain facts on frames: what one is, where a row of them ends, what they hold. -/
namespace Go.Proofs.Ytoloidfkpfdboaa.Fr
set_option maxRecDepth 100000

/-- A sum in four bytes, the highest first. -/
def four (c : Nat) : List Nat := [c / 16777216 % 256, c / 65536 % 256, c / 256 % 256, c % 256]
def sum4 (l : List Nat) : List Nat := four (Crc.sum l)
/-- The frame that holds x. -/
def frm (x : List Nat) : List Nat := (Cd.enc x.length ++ x) ++ sum4 (Cd.enc x.length ++ x)
theorem four_lt (c : Nat) : ∀ x ∈ four c, x < 256 := by
  intro x hx
  simp [four] at hx
  omega
theorem sum4_length (l : List Nat) : (sum4 l).length = 4 := rfl
theorem frm_length (x : List Nat) : (frm x).length = x.length + 10 := by
  simp [frm, sum4_length, Cd.enc_length]
  omega

/-- The length that six bytes tell. -/
def told (b : List Nat) : Nat := Cd.dec (b.take 6)
/-- Does a whole, right frame stand first? -/
def whole (b : List Nat) : Bool := decide (6 ≤ b.length) && decide (told b ≤ 10000) && decide (6 + told b + 4 ≤ b.length) && decide ((b.drop (6 + told b)).take 4 = sum4 (b.take (6 + told b)))
def held (b : List Nat) : List Nat := (b.drop 6).take (told b)
theorem whole_iff {b : List Nat} : whole b = true ↔ 6 ≤ b.length ∧ told b ≤ 10000 ∧ 6 + told b + 4 ≤ b.length ∧ (b.drop (6 + told b)).take 4 = sum4 (b.take (6 + told b)) := by
  simp [whole, and_assoc]
theorem held_length {b : List Nat} (h : whole b = true) : (held b).length = told b := by
  have := whole_iff.1 h
  simp [held]
  omega

/-- Where the k-th frame begins. -/
def pos (b : List Nat) : Nat → Nat
  | 0 => 0
  | k + 1 => pos b k + (10 + told (b.drop (pos b k)))
/-- N frames stand there, and behind them none. -/
def Scn (b : List Nat) (N : Nat) : Prop := (∀ k, k < N → whole (b.drop (pos b k)) = true) ∧ whole (b.drop (pos b N)) = false
def rows (b : List Nat) (N : Nat) : List (List Nat) := (List.range N).map fun k => held (b.drop (pos b k))
theorem rows_length (b : List Nat) (N : Nat) : (rows b N).length = N := by simp [rows]
theorem rows_succ (b : List Nat) (N : Nat) : rows b (N + 1) = rows b N ++ [held (b.drop (pos b N))] := by simp [rows, List.range_succ]
theorem rows_at (b : List Nat) (N k : Nat) (h : k < N) : (rows b N).getD k [] = held (b.drop (pos b k)) := by
  simp [rows, List.getD_eq_getElem?_getD, List.getElem?_map, List.getElem?_range h]
theorem pos_next {b : List Nat} {k : Nat} (h : whole (b.drop (pos b k)) = true) : pos b k + 10 + told (b.drop (pos b k)) ≤ b.length := by
  have := (whole_iff.1 h).2.2.1
  rw [List.length_drop] at this
  omega
theorem pos_le {b : List Nat} : ∀ {N : Nat}, (∀ k, k < N → whole (b.drop (pos b k)) = true) → pos b N ≤ b.length ∧ 10 * N ≤ pos b N
  | 0, _ => ⟨Nat.zero_le _, Nat.zero_le _⟩
  | N + 1, h => by
    have h1 := pos_le (N := N) fun k hk => h k (by omega)
    have h2 := pos_next (h N (by omega))
    simp only [pos]
    omega
theorem Scn.le {b : List Nat} {N k : Nat} (h : Scn b N) (hk : k ≤ N) : pos b k ≤ b.length ∧ 10 * k ≤ pos b k := pos_le fun j hj => h.1 j (by omega)
theorem ex_from (b : List Nat) : ∀ (m k : Nat), b.length - pos b k ≤ m → (∀ j, j < k → whole (b.drop (pos b j)) = true) → ∃ N, Scn b N := by
  intro m
  induction m with
  | zero =>
    intro k hm hk
    refine ⟨k, hk, ?_⟩
    rcases hw : whole (b.drop (pos b k)) with _ | _
    · rfl
    · have := pos_next hw
      omega
  | succ m ih =>
    intro k hm hk
    rcases hw : whole (b.drop (pos b k)) with _ | _
    · exact ⟨k, hk, hw⟩
    · have := pos_next hw
      refine ih (k + 1) (by simp only [pos]; omega) fun j hj => ?_
      rcases Nat.lt_or_ge j k with h | h
      · exact hk j h
      · obtain rfl : j = k := by omega
        exact hw
theorem ex_scan (b : List Nat) : ∃ N, Scn b N := ex_from b b.length 0 (by simp) (by omega)
end Go.Proofs.Ytoloidfkpfdboaa.Fr
