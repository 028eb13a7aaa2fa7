/- Plain facts on actions: which are one, their bytes, what comes of them, and of which words they are. -/
import Derived.Test.YtemliglhippdcaaLineMath
import Derived.Test.YtemliglhippdcaaNameMath
import Derived.Test.YtemliglhippdcaaNameBackMath
import Derived.Test.YtemliglhippdcaaCodeMath
namespace Go.Proofs.Ytemliglhippdcaa.Ac
set_option maxRecDepth 100000

structure D where
  kind : Nat
  n : Nat
  text : List Nat
deriving DecidableEq
def plainT (t : List Nat) : Bool := t.all (fun c => decide (32 ≤ c) && decide (c ≤ 126) && decide (c ≠ 34)) && decide (t.length ≤ 64)
def most (k : Nat) : Nat := if k = 2 then 15 else if k = 7 ∨ k = 8 then 999 else 0
def isText (k : Nat) : Bool := decide (k = 1) || decide (k = 10)
def isFirst (k : Nat) : Bool := decide (k = 1) || decide (k = 2) || decide (k = 3)
def okD (first : Bool) (d : D) : Bool := decide (1 ≤ d.kind) && decide (d.kind ≤ 11) && (isFirst d.kind == first) && decide (d.n ≤ most d.kind) && plainT d.text && (isText d.kind || decide (d.text = []))
def ok : List D → Bool
  | [] => false
  | d :: r => okD true d && r.all (okD false) && decide (r.length + 1 ≤ 8)
/-- An action's bytes. -/
def bytesD (d : D) : List Nat := Cd.enc d.kind ++ (Cd.enc d.n ++ (Cd.enc d.text.length ++ d.text))
def bytes (l : List D) : List Nat := Cd.enc l.length ++ l.flatMap bytesD
def upper (c : Nat) : Nat := if 97 ≤ c ∧ c ≤ 122 then c - 32 else c
def lower (c : Nat) : Nat := if 65 ≤ c ∧ c ≤ 90 then c + 32 else c
/-- Texts between the bytes. -/
def joined (t : List Nat) : List Nat → List Nat
  | [] => []
  | [c] => [c]
  | c :: d :: r => c :: (t ++ joined t (d :: r))
/-- What comes of bytes by one thing. -/
def changed (d : D) (b : List Nat) (ins : List (List Nat)) : Option (List Nat) :=
  match d.kind with
  | 1 => some d.text
  | 2 => if d.n < ins.length then some (ins.getD d.n []) else none
  | 3 => some ins.flatten
  | 4 => some (b.map upper)
  | 5 => some (b.map lower)
  | 6 => some b.reverse
  | 7 => some (b.take d.n)
  | 8 => some (b.drop d.n)
  | 9 => some (b ++ b)
  | 10 => some (joined d.text b)
  | 11 => none
  | _ => some []
def go (ins : List (List Nat)) : List D → List Nat → Option (List Nat)
  | [], b => some b
  | d :: r, b => match changed d b ins with
    | none => none
    | some x => if x.length ≤ 256 then go ins r x else none
def run (l : List D) (ins : List (List Nat)) : Option (List Nat) := if ok l then go ins l [] else none
def names : List (List Nat) := [[], [116, 101, 120, 116], [105, 110], [97, 108, 108], [117, 112, 112, 101, 114], [108, 111, 119, 101, 114], [114, 101, 118], [116, 97, 107, 101], [100, 114, 111, 112], [116, 119, 105, 99, 101], [106, 111, 105, 110], [102, 97, 105, 108]]
/-- Which thing a word names, or none. -/
def kindOf (t : List Nat) : Nat := if t = [] then 0 else if names.idxOf t < 12 then names.idxOf t else 0
def one : List Ln.W → Option D
  | [] => none
  | x :: r => if x.q then none else if kindOf x.text = 0 then none
    else if isText (kindOf x.text) then match r with
      | [y] => if y.q then some ⟨kindOf x.text, 0, y.text⟩ else none
      | _ => none
    else if most (kindOf x.text) ≠ 0 then match r with
      | [y] => if y.q then none else if Nm.isNum y.text 9 then some ⟨kindOf x.text, Nm.num y.text 9, []⟩ else none
      | _ => none
    else match r with
      | [] => some ⟨kindOf x.text, 0, []⟩
      | _ => none
def sep (x : Ln.W) : Bool := decide (x.text = [59]) && !x.q
def parts (cur : List Ln.W) (out : List D) : List Ln.W → Option (List D)
  | [] => match one cur with
    | none => none
    | some d => some (out ++ [d])
  | x :: r => if sep x then match one cur with
      | none => none
      | some d => parts [] (out ++ [d]) r
    else parts (cur ++ [x]) out r
def parse (l : List Ln.W) : Option (List D) := match parts [] [] l with
  | none => none
  | some L => if ok L then some L else none

theorem ok_small {l : List D} (h : ok l = true) : 1 ≤ l.length ∧ l.length ≤ 8 ∧ ∀ d ∈ l, 1 ≤ d.kind ∧ d.kind ≤ 11 ∧ d.n ≤ 999 ∧ d.text.length ≤ 64 ∧ ∀ c ∈ d.text, c < 256 := by
  cases l with
  | nil => cases h
  | cons d r =>
    unfold ok at h
    simp only [Bool.and_eq_true, decide_eq_true_eq, List.all_eq_true] at h
    obtain ⟨⟨h1, h2⟩, h3⟩ := h
    have hd : ∀ (b : Bool) (d : D), okD b d = true → 1 ≤ d.kind ∧ d.kind ≤ 11 ∧ d.n ≤ 999 ∧ d.text.length ≤ 64 ∧ ∀ c ∈ d.text, c < 256 := fun b d h => by
      unfold okD plainT at h
      simp only [Bool.and_eq_true, decide_eq_true_eq, List.all_eq_true] at h
      obtain ⟨⟨⟨⟨⟨a1, a2⟩, _⟩, a4⟩, a5, a6⟩, _⟩ := h
      refine ⟨a1, a2, ?_, a6, fun c hc => ?_⟩
      · unfold most at a4
        split at a4
        · omega
        · split at a4 <;> omega
      · have := (a5 c hc).1.2
        omega
    refine ⟨by simp, by simpa using h3, fun x hx => ?_⟩
    rcases List.mem_cons.1 hx with rfl | hx
    · exact hd _ _ h1
    · exact hd _ _ (h2 x hx)
theorem enc_inj {a b : Nat} (ha : a < 281474976710656) (hb : b < 281474976710656) (h : Cd.enc a = Cd.enc b) : a = b := by
  rw [← Cd.dec_enc a ha, ← Cd.dec_enc b hb, h]
def SmallD (d : D) : Prop := d.kind < 281474976710656 ∧ d.n < 281474976710656 ∧ d.text.length < 281474976710656
theorem flat_inj : ∀ (l m : List D) (s t : List Nat), l.length = m.length → (∀ d ∈ l, SmallD d) → (∀ d ∈ m, SmallD d) → l.flatMap bytesD ++ s = m.flatMap bytesD ++ t → l = m ∧ s = t
  | [], [], s, t, _, _, _, h => ⟨rfl, by simpa using h⟩
  | [], _ :: _, _, _, h, _, _, _ => by simp at h
  | _ :: _, [], _, _, h, _, _, _ => by simp at h
  | d :: l, e :: m, s, t, hl, h1, h2, h => by
    obtain ⟨d1, d2, d3⟩ := h1 d (by simp)
    obtain ⟨e1, e2, e3⟩ := h2 e (by simp)
    simp only [List.flatMap_cons, bytesD, List.append_assoc] at h
    obtain ⟨k1, h⟩ := List.append_inj h rfl
    obtain ⟨k2, h⟩ := List.append_inj h rfl
    obtain ⟨k3, h⟩ := List.append_inj h rfl
    have q1 := enc_inj d1 e1 k1
    have q2 := enc_inj d2 e2 k2
    have q3 := enc_inj d3 e3 k3
    obtain ⟨k4, h⟩ := List.append_inj h q3
    obtain ⟨r1, r2⟩ := flat_inj l m s t (by simpa using hl) (fun x hx => h1 x (by simp [hx])) (fun x hx => h2 x (by simp [hx])) h
    refine ⟨?_, r2⟩
    rw [r1]
    congr 1
    cases d; cases e
    simp at q1 q2 k4
    simp [q1, q2, k4]
/-- Actions that differ have bytes that differ. -/
theorem bytes_inj {l m : List D} (hl : l.length < 281474976710656) (hm : m.length < 281474976710656) (h1 : ∀ d ∈ l, SmallD d) (h2 : ∀ d ∈ m, SmallD d) (h : bytes l = bytes m) : l = m := by
  unfold bytes at h
  obtain ⟨k, h⟩ := List.append_inj h rfl
  exact (flat_inj l m [] [] (enc_inj hl hm k) h1 h2 (by rw [List.append_nil, List.append_nil]; exact h)).1
theorem go_twice (ins : List (List Nat)) : ∀ (t n : Nat), n ≤ 256 → go ins (List.replicate t ⟨9, 0, []⟩) (List.replicate n 120) = if n * 2 ^ t ≤ 256 then some (List.replicate (n * 2 ^ t) 120) else none
  | 0, n, h => by
    rw [List.replicate_zero, Nat.pow_zero, Nat.mul_one, if_pos h]
    rfl
  | t + 1, n, h => by
    rw [List.replicate_succ]
    show (if (List.replicate n 120 ++ List.replicate n 120).length ≤ 256 then go ins (List.replicate t ⟨9, 0, []⟩) (List.replicate n 120 ++ List.replicate n 120) else none) = _
    rw [List.replicate_append_replicate, List.length_replicate, Nat.pow_succ, show n * (2 ^ t * 2) = (n + n) * 2 ^ t from by rw [Nat.mul_comm (2 ^ t) 2, ← Nat.mul_assoc, Nat.mul_two]]
    by_cases h2 : n + n ≤ 256
    · rw [if_pos h2, go_twice ins t (n + n) h2]
    · rw [if_neg h2, if_neg]
      have := Nat.le_mul_of_pos_right (n + n) (Nat.pow_pos (n := t) (show 0 < 2 from by decide))
      omega
/-- What grows stops where no more may be. -/
theorem grow_is (n t : Nat) (hn : n ≤ 63) (ht : t ≤ 7) : run (⟨1, 0, List.replicate n 120⟩ :: List.replicate t ⟨9, 0, []⟩) [] = if n * 2 ^ t ≤ 256 then some (List.replicate (n * 2 ^ t) 120) else none := by
  have hok : ok (⟨1, 0, List.replicate n 120⟩ :: List.replicate t ⟨9, 0, []⟩) = true := by
    unfold ok
    simp only [Bool.and_eq_true, decide_eq_true_eq, List.all_eq_true, List.length_replicate]
    refine ⟨⟨?_, fun d hd => ?_⟩, by omega⟩
    · unfold okD plainT
      simp only [Bool.and_eq_true, decide_eq_true_eq, List.all_eq_true, List.length_replicate]
      refine ⟨⟨⟨⟨⟨by decide, by decide⟩, by decide⟩, Nat.zero_le _⟩, fun c hc => ?_, by omega⟩, by simp [isText]⟩
      rw [List.eq_of_mem_replicate hc]
      decide
    · rw [List.eq_of_mem_replicate hd]
      rfl
  unfold run
  rw [if_pos hok]
  show (if (List.replicate n 120).length ≤ 256 then go [] (List.replicate t ⟨9, 0, []⟩) (List.replicate n 120) else none) = _
  rw [List.length_replicate, if_pos (by omega), go_twice [] t n (by omega)]
/-- The words of an action. -/
def wd (t : List Nat) (q : Bool) : Ln.W := ⟨t, 0, 0, q⟩
def wordsD (d : D) : List Ln.W := wd (names.getD d.kind []) false :: (if isText d.kind then [wd d.text true] else if most d.kind ≠ 0 then [wd (Nm.dec d.n) false] else [])
def wordsOf : List D → List Ln.W
  | [] => []
  | [d] => wordsD d
  | d :: e :: r => wordsD d ++ wd [59] false :: wordsOf (e :: r)
theorem parts_run : ∀ (s rest cur : List Ln.W) (out : List D), (∀ x ∈ s, sep x = false) → parts cur out (s ++ rest) = parts (cur ++ s) out rest
  | [], rest, cur, out, _ => by rw [List.nil_append, List.append_nil]
  | x :: s, rest, cur, out, h => by
    rw [List.cons_append, parts, h x (by simp), if_neg (by simp), parts_run s rest (cur ++ [x]) out fun y hy => h y (by simp [hy]), List.append_assoc]
    rfl
theorem kind_cases {k : Nat} (h1 : 1 ≤ k) (h2 : k ≤ 11) : k = 1 ∨ k = 2 ∨ k = 3 ∨ k = 4 ∨ k = 5 ∨ k = 6 ∨ k = 7 ∨ k = 8 ∨ k = 9 ∨ k = 10 ∨ k = 11 := by omega
theorem words_sep {d : D} (h1 : 1 ≤ d.kind) (h2 : d.kind ≤ 11) : ∀ x ∈ wordsD d, sep x = false := by
  intro x hx
  have hdec : ∀ n, sep (wd (Nm.dec n) false) = false := fun n => by
    unfold sep wd
    have : Nm.dec n ≠ [59] := fun e => by
      have := Nm.dec_byte n 59 (by rw [e]; simp)
      omega
    simp [this]
  unfold wordsD at hx
  rcases List.mem_cons.1 hx with rfl | hx
  · rcases kind_cases h1 h2 with e | e | e | e | e | e | e | e | e | e | e <;> rw [e] <;> rfl
  · split at hx
    · rw [List.mem_singleton.1 hx]
      simp [sep, wd]
    · split at hx
      · rw [List.mem_singleton.1 hx]
        exact hdec _
      · cases hx
theorem one_words {d : D} {b : Bool} (h : okD b d = true) : one (wordsD d) = some d := by
  unfold okD at h
  simp only [Bool.and_eq_true, decide_eq_true_eq, Bool.or_eq_true] at h
  obtain ⟨⟨⟨⟨⟨h1, h2⟩, _⟩, h4⟩, _⟩, h6⟩ := h
  obtain ⟨k, n, t⟩ := d
  have num : ∀ m, m ≤ 999 → Nm.isNum (Nm.dec m) 9 = true ∧ Nm.num (Nm.dec m) 9 = m := fun m hm => ⟨Nm.isNum_dec (by omega) (by omega), Nm.num_dec (by omega) (by omega)⟩
  rcases kind_cases h1 h2 with e | e | e | e | e | e | e | e | e | e | e <;> (change k = _ at e; subst e)
  all_goals first
    | (have hn : n = 0 := Nat.le_zero.1 h4
       subst hn
       first
         | rfl
         | (have ht : t = [] := by simpa [isText] using h6
            subst ht
            rfl))
    | (have ht : t = [] := by simpa [isText] using h6
       subst ht
       have hn : n ≤ 999 := Nat.le_trans h4 (by simp [most])
       show (if Nm.isNum (Nm.dec n) 9 then some (D.mk _ (Nm.num (Nm.dec n) 9) []) else none) = _
       rw [(num n hn).1, (num n hn).2]
       rfl)
theorem parts_words : ∀ (l : List D) (out : List D), l ≠ [] → (∀ d ∈ l, ∃ b, okD b d = true) → parts [] out (wordsOf l) = some (out ++ l)
  | [], _, h, _ => absurd rfl h
  | [d], out, _, h => by
    obtain ⟨b, hb⟩ := h d (by simp)
    have hk : 1 ≤ d.kind ∧ d.kind ≤ 11 := by
      unfold okD at hb
      simp only [Bool.and_eq_true, decide_eq_true_eq] at hb
      exact hb.1.1.1.1
    have := parts_run (wordsD d) [] [] out (words_sep hk.1 hk.2)
    rw [List.append_nil, List.nil_append] at this
    show parts [] out (wordsD d) = _
    rw [this, parts, one_words hb]
  | d :: e :: r, out, _, h => by
    obtain ⟨b, hb⟩ := h d (by simp)
    have hk : 1 ≤ d.kind ∧ d.kind ≤ 11 := by
      unfold okD at hb
      simp only [Bool.and_eq_true, decide_eq_true_eq] at hb
      exact hb.1.1.1.1
    have hs : sep (wd [59] false) = true := rfl
    show parts [] out (wordsD d ++ wd [59] false :: wordsOf (e :: r)) = _
    rw [parts_run _ _ _ _ (words_sep hk.1 hk.2), List.nil_append, parts, hs, if_pos rfl, one_words hb]
    show parts [] (out ++ [d]) (wordsOf (e :: r)) = _
    rw [parts_words (e :: r) (out ++ [d]) (by simp) fun x hx => h x (by simp [hx]), List.append_assoc]
    rfl
/-- An action's words are read as it. -/
theorem back_is {l : List D} (h : ok l = true) : parse (wordsOf l) = some l := by
  have h0 : l ≠ [] := fun e => by rw [e] at h; cases h
  have ha : ∀ d ∈ l, ∃ b, okD b d = true := by
    cases l with
    | nil => exact absurd rfl h0
    | cons d r =>
      unfold ok at h
      simp only [Bool.and_eq_true, List.all_eq_true] at h
      intro x hx
      rcases List.mem_cons.1 hx with rfl | hx
      · exact ⟨true, h.1.1⟩
      · exact ⟨false, h.1.2 x hx⟩
  unfold parse
  rw [parts_words l [] h0 ha, List.nil_append]
  show (if ok l then some l else none) = _
  rw [if_pos h]
end Go.Proofs.Ytemliglhippdcaa.Ac
