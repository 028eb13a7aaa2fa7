/- Files as the document has them: in the order of their names. -/
import Derived.Test.YtlfgadcfjjjbfaaNameMath
namespace Go.Proofs.Ytlfgadcfjjjbfaa
set_option maxRecDepth 100000
namespace Sf
structure Fi where
  name : List Nat
  b : List Nat
  stamp : Nat
structure S where
  l : List Fi
  room : Int
  next : Nat
  cut : Int
def get (l : List Fi) (t : List Nat) : Option Fi := l.find? fun x => decide (x.name = t)
def gone (l : List Fi) (t : List Nat) : List Fi := l.filter fun x => decide (x.name ≠ t)
def put (l : List Fi) (x : Fi) : List Fi := ((gone l x.name).takeWhile fun y => decide (y.name < x.name)) ++ x :: ((gone l x.name).dropWhile fun y => decide (y.name < x.name))
def used (l : List Fi) : Nat := (l.map fun x => x.b.length).sum
def bytes (l : List Fi) (t : List Nat) : List Nat := ((get l t).map (·.b)).getD []
def stamp (l : List Fi) (t : List Nat) : Nat := ((get l t).map (·.stamp)).getD 0
def wr (s : S) (t b : List Nat) : S := { s with l := put s.l ⟨t, b, s.next + 1⟩, next := s.next + 1 }
def rm (s : S) (t : List Nat) : S := { s with l := gone s.l t }
def guard (l : List Fi) (g : List Nat × Int) : Bool := (get l g.1).isSome && decide ((stamp l g.1 : Int) = g.2)
def guards (l : List Fi) (g : List (List Nat × Int)) : Bool := g.all (guard l)
def refuse (l : List Fi) (g : List (List Nat × Int)) (names : List (List Nat)) : Nat := if names.all Nm.file then if guards l g then 0 else 5 else 1
def fits (s : S) (t : List Nat) (n : Nat) : Bool := decide (n ≤ (bytes s.l t).length) || decide ((used s.l : Int) + ((n : Int) - (bytes s.l t).length) ≤ s.room)
def putS (s : S) (t b : List Nat) : S × Nat × Nat := if Nm.file t then if fits s t b.length then (wr s t b, s.next + 1, 0) else (s, 0, 2) else (s, 0, 1)
def make (s : S) (t b : List Nat) : S × Nat × Nat := if Nm.file t then if (get s.l t).isSome then (s, 0, 3) else putS s t b else (s, 0, 1)
def part (s : S) (n : Nat) : S × Nat × Nat :=
  if s.cut = -1 then if (n : Int) ≤ max (s.room - used s.l) 0 then (s, n, 0) else (s, (max (s.room - used s.l) 0).toNat, 2) else ({ s with cut := -1 }, (min (n : Int) s.cut).toNat, 7)
def app (s : S) (t b : List Nat) (g : List (List Nat × Int)) : S × Nat × Nat :=
  if refuse s.l g [t] = 0 then
    if (part s b.length).2.2 = 0 then (wr (part s b.length).1 t (bytes s.l t ++ b), s.next + 1, 0)
    else if 0 < (part s b.length).2.1 then (wr (part s b.length).1 t (bytes s.l t ++ b.take (part s b.length).2.1), 0, (part s b.length).2.2)
    else ((part s b.length).1, 0, (part s b.length).2.2)
  else (s, 0, refuse s.l g [t])
def move (s : S) (a b : List Nat) (g : List (List Nat × Int)) : S × Nat × Nat :=
  if a = b then (s, 0, 1) else if refuse s.l g [a, b] = 0 then if (get s.l a).isSome then (wr (rm s a) b (bytes s.l a), s.next + 1, 0) else (s, 0, 4) else (s, 0, refuse s.l g [a, b])
def drop (s : S) (t : List Nat) (g : List (List Nat × Int)) : S × Nat :=
  if refuse s.l g [t] = 0 then if (get s.l t).isSome then (rm s t, 0) else (s, 4) else (s, refuse s.l g [t])
def held (n : Int) : Int := min (max n 0) 1073741824
def new (n : Int) : S := ⟨[], held n, 0, -1⟩
def folder (t : List Nat) : List Nat := if 47 ∈ t then t.takeWhile (· ≠ 47) else []
def list (l : List Fi) (d : List Nat) : List (List Nat) := (l.map (·.name)).filter fun t => decide (folder t = d)

def Ord (l : List Fi) : Prop := l.Pairwise fun x y => x.name < y.name
theorem lt_ne {a b : List Nat} (h : a < b) : a ≠ b := fun e => by subst e; exact (List.lt_irrefl a) h
theorem get_some {l : List Fi} {t : List Nat} {x : Fi} (h : get l t = some x) : x ∈ l ∧ x.name = t := by
  refine ⟨List.mem_of_find?_eq_some h, ?_⟩
  have := List.find?_some h
  simpa using this
theorem get_none {l : List Fi} {t : List Nat} (h : get l t = none) : ∀ x ∈ l, x.name ≠ t := by
  have := List.find?_eq_none.1 h
  intro x hx
  simpa using this x hx
theorem get_gone (l : List Fi) (t u : List Nat) : get (gone l t) u = if u = t then none else get l u := by
  unfold get gone
  rw [List.find?_filter]
  by_cases h : u = t
  · subst h
    rw [if_pos rfl, List.find?_eq_none]
    intro x _
    by_cases e : x.name = u <;> simp [e]
  · rw [if_neg h]
    refine congrArg (fun p => List.find? p l) (funext fun x => ?_)
    by_cases e : x.name = u
    · subst e
      simp [h]
    · simp [e]
theorem get_app (A B : List Fi) (u : List Nat) : get (A ++ B) u = (get A u).or (get B u) := by
  unfold get
  rw [List.find?_append]
theorem get_put (l : List Fi) (x : Fi) (u : List Nat) : get (put l x) u = if u = x.name then some x else get l u := by
  unfold put
  have hs : ∀ p : Fi → Bool, get (gone l x.name) u = (get ((gone l x.name).takeWhile p) u).or (get ((gone l x.name).dropWhile p) u) := fun p => by
    rw [← get_app, List.takeWhile_append_dropWhile]
  have hg := get_gone l x.name u
  rw [get_app]
  by_cases h : u = x.name
  · subst h
    rw [if_pos rfl] at hg ⊢
    have hn : get ((gone l x.name).takeWhile fun y => decide (y.name < x.name)) x.name = none := by
      rw [hs fun y => decide (y.name < x.name)] at hg
      exact (Option.or_eq_none_iff.1 hg).1
    rw [hn]
    simp [get]
  · rw [if_neg h] at hg ⊢
    rw [← hg, hs fun y => decide (y.name < x.name)]
    refine congrArg _ ?_
    unfold get
    rw [List.find?_cons_of_neg (by simpa using fun e => h e.symm)]
theorem used_cons (x : Fi) (l : List Fi) : used (x :: l) = x.b.length + used l := by simp [used]
theorem used_app (A B : List Fi) : used (A ++ B) = used A + used B := by simp [used]
theorem used_put (l : List Fi) (x : Fi) : used (put l x) = used (gone l x.name) + x.b.length := by
  have : used (gone l x.name) = used ((gone l x.name).takeWhile fun y => decide (y.name < x.name)) + used ((gone l x.name).dropWhile fun y => decide (y.name < x.name)) := by
    rw [← used_app, List.takeWhile_append_dropWhile]
  rw [this]
  unfold put
  rw [used_app, used_cons]
  omega
theorem gone_all {l : List Fi} {t : List Nat} (h : ∀ x ∈ l, x.name ≠ t) : gone l t = l := by
  unfold gone
  rw [List.filter_eq_self]
  intro x hx
  simpa using h x hx
theorem used_gone {l : List Fi} (ho : Ord l) (t : List Nat) : used l = used (gone l t) + (bytes l t).length := by
  induction l with
  | nil => rfl
  | cons x r ih =>
    obtain ⟨h1, h2⟩ := List.pairwise_cons.1 ho
    by_cases e : x.name = t
    · subst e
      have e1 : gone (x :: r) x.name = r := by
        unfold gone
        rw [List.filter_cons_of_neg (by simp)]
        exact gone_all fun y hy => (lt_ne (h1 y hy)).symm
      have e2 : bytes (x :: r) x.name = x.b := by simp [bytes, get]
      rw [e1, e2, used_cons]
      omega
    · have e1 : gone (x :: r) t = x :: gone r t := by
        unfold gone
        rw [List.filter_cons_of_pos (by simpa using e)]
      have e2 : bytes (x :: r) t = bytes r t := by
        unfold bytes get
        rw [List.find?_cons_of_neg (by simpa using e)]
      rw [e1, e2, used_cons, used_cons, ih h2]
      omega
theorem bytes_le {l : List Fi} (ho : Ord l) (t : List Nat) : (bytes l t).length ≤ used l := by
  have := used_gone ho t
  omega
theorem mem_put {l : List Fi} {x y : Fi} (h : y ∈ put l x) : y = x ∨ y ∈ l := by
  unfold put at h
  rcases List.mem_append.1 h with h | h
  · exact .inr (List.mem_filter.1 ((List.takeWhile_prefix _).subset h)).1
  · rcases List.mem_cons.1 h with h | h
    · exact .inl h
    · exact .inr (List.mem_filter.1 ((List.dropWhile_suffix _).subset h)).1
theorem ord_gone {l : List Fi} (ho : Ord l) (t : List Nat) : Ord (gone l t) := List.Pairwise.filter _ ho
theorem lt_total {a b : List Nat} (h : ¬ a < b) (hn : a ≠ b) : b < a := by
  rcases Nat.lt_or_ge 0 1 with _ | _
  · have := List.not_lt.1 h
    rcases List.le_iff_lt_or_eq.1 this with h1 | h1
    · exact h1
    · exact absurd h1.symm hn
  · omega
theorem ord_put {l : List Fi} (ho : Ord l) (x : Fi) : Ord (put l x) := by
  have hg := ord_gone ho x.name
  have hne : ∀ y ∈ gone l x.name, y.name ≠ x.name := fun y hy => by
    have := (List.mem_filter.1 hy).2
    simpa using this
  unfold put
  generalize gone l x.name = G at hg hne
  induction G with
  | nil => simp [Ord]
  | cons y r ih =>
    obtain ⟨h1, h2⟩ := List.pairwise_cons.1 hg
    by_cases e : y.name < x.name
    · rw [List.takeWhile_cons_of_pos (by simpa using e), List.dropWhile_cons_of_pos (by simpa using e)]
      refine List.pairwise_cons.2 ⟨fun z hz => ?_, ih h2 fun z hz => hne z (List.mem_cons_of_mem _ hz)⟩
      rcases List.mem_append.1 hz with h | h
      · exact h1 z ((List.takeWhile_prefix _).subset h)
      · rcases List.mem_cons.1 h with rfl | h
        · exact e
        · exact h1 z ((List.dropWhile_suffix _).subset h)
    · rw [List.takeWhile_cons_of_neg (by simpa using e), List.dropWhile_cons_of_neg (by simpa using e)]
      refine List.pairwise_cons.2 ⟨fun z hz => ?_, hg⟩
      have hy := lt_total e (hne y (by simp))
      rcases List.mem_cons.1 hz with rfl | h
      · exact hy
      · exact List.lt_trans hy (h1 z h)
/-- What holds of all files. -/
def Good (s : S) : Prop :=
  Ord s.l ∧ (∀ x ∈ s.l, (∀ c ∈ x.name, c < 256) ∧ x.name.length ≤ 1048576 ∧ 1 ≤ x.stamp ∧ x.stamp ≤ s.next) ∧ 0 ≤ s.room ∧ s.room ≤ 1073741824 ∧ -1 ≤ s.cut ∧ s.cut ≤ 9223372036854775807
theorem good_new (n : Int) : Good (new n) := by
  refine ⟨List.Pairwise.nil, by simp [new], ?_, ?_, by simp [new], by simp [new]⟩ <;> simp only [new, held] <;> omega
theorem good_wr {s : S} (h : Good s) {t b : List Nat} (ht : ∀ c ∈ t, c < 256) (hl : t.length ≤ 1048576) : Good (wr s t b) := by
  obtain ⟨h1, h2, h3⟩ := h
  refine ⟨ord_put h1 _, fun x hx => ?_, h3⟩
  rcases mem_put hx with rfl | hx
  · exact ⟨ht, hl, by simp, Nat.le_refl _⟩
  · obtain ⟨a, b, c, d⟩ := h2 x hx
    exact ⟨a, b, c, Nat.le_trans d (Nat.le_succ _)⟩
theorem good_rm {s : S} (h : Good s) (t : List Nat) : Good (rm s t) := by
  obtain ⟨h1, h2, h3⟩ := h
  exact ⟨ord_gone h1 _, fun x hx => h2 x (List.mem_filter.1 hx).1, h3⟩
theorem file_small {t : List Nat} (h : Nm.file t = true) : t.length ≤ 1048576 := by
  have ok_small : ∀ {u : List Nat}, Nm.ok u = true → u.length ≤ 16 := fun {u} hu => by
    unfold Nm.ok at hu
    simp only [Bool.and_eq_true, decide_eq_true_eq] at hu
    exact hu.2
  unfold Nm.file at h
  split at h
  · rename_i hm
    simp only [Bool.and_eq_true] at h
    have e : t.length = (t.takeWhile (· ≠ 47)).length + (t.dropWhile (· ≠ 47)).length := by
      rw [← List.length_append, List.takeWhile_append_dropWhile]
    have h1 := ok_small h.1
    have h2 := ok_small h.2
    rw [List.length_drop] at h2
    omega
  · have := ok_small h
    omega
end Sf
end Go.Proofs.Ytlfgadcfjjjbfaa
