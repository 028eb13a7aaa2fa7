/- Heaps of numbers: what lets a place rise and sink. -/
import Derived.Test.YtemliglhippdcaaManiMath
import Derived.Test.YtemliglhippdcaaActMath
import Derived.Test.YtemliglhippdcaaLineMath
namespace Go.Proofs.Ytemliglhippdcaa.Hp
set_option maxRecDepth 100000

def swap (l : List Nat) (i j : Nat) : List Nat := (l.set i (l.getD j 0)).set j (l.getD i 0)
/-- No place of the first n is less than the one above it. -/
def Heap (l : List Nat) (n : Nat) : Prop := ∀ k, 0 < k → k < n → l.getD ((k - 1) / 2) 0 ≤ l.getD k 0
def UpOk (l : List Nat) (n j : Nat) : Prop :=
  (∀ k, 0 < k → k < n → k ≠ j → l.getD ((k - 1) / 2) 0 ≤ l.getD k 0) ∧ (∀ k, 0 < k → k < n → (k - 1) / 2 = j → 0 < j → l.getD ((j - 1) / 2) 0 ≤ l.getD k 0)
def DownOk (l : List Nat) (n i : Nat) : Prop :=
  (∀ k, 0 < k → k < n → (k - 1) / 2 ≠ i → l.getD ((k - 1) / 2) 0 ≤ l.getD k 0) ∧ (∀ k, 0 < k → k < n → (k - 1) / 2 = i → 0 < i → l.getD ((i - 1) / 2) 0 ≤ l.getD k 0)

theorem swap_length (l : List Nat) (i j : Nat) : (swap l i j).length = l.length := by simp [swap]
theorem swap_get (l : List Nat) (i j : Nat) (hi : i < l.length) (hj : j < l.length) (k : Nat) :
    (swap l i j).getD k 0 = if k = j then l.getD i 0 else if k = i then l.getD j 0 else l.getD k 0 := by
  unfold swap
  simp only [List.getD_eq_getElem?_getD, List.getElem?_set, List.length_set]
  by_cases h1 : k = j
  · subst h1; simp [hj]
  · have h1' : ¬ j = k := fun e => h1 e.symm
    by_cases h2 : k = i
    · subst h2; simp [h1, h1', hi]
    · have h2' : ¬ i = k := fun e => h2 e.symm
      simp [h1, h2, h1', h2']
theorem swap_perm (l : List Nat) (i j : Nat) (hi : i < l.length) (hj : j < l.length) : (swap l i j).Perm l := by
  have h := Array.swap_perm (xs := l.toArray) (i := i) (j := j) (by simpa using hi) (by simpa using hj)
  have e : (l.toArray.swap i j (by simpa using hi) (by simpa using hj)).toList = swap l i j := by
    unfold swap
    simp [Array.swap, List.getD_eq_getElem?_getD, List.getElem?_eq_getElem hi, List.getElem?_eq_getElem hj]
  have h2 := Array.Perm.toList h
  rw [e] at h2
  exact h2
theorem up_done_zero {l : List Nat} {n : Nat} (h : UpOk l n 0) : Heap l n := fun k h1 h2 => h.1 k h1 h2 (by omega)
theorem up_done {l : List Nat} {n j : Nat} (h : UpOk l n j) (hj : ¬ l.getD j 0 < l.getD ((j - 1) / 2) 0) : Heap l n := fun k h1 h2 => by
  by_cases e : k = j
  · subst e; omega
  · exact h.1 k h1 h2 e
theorem up_step {l : List Nat} {n j : Nat} (h : UpOk l n j) (hn : n ≤ l.length) (hj : j < n) (h0 : 0 < j) (hl : l.getD j 0 < l.getD ((j - 1) / 2) 0) : UpOk (swap l ((j - 1) / 2) j) n ((j - 1) / 2) := by
  have g := swap_get l ((j - 1) / 2) j (by omega) (by omega)
  refine ⟨fun k h1 h2 h3 => ?_, fun k h1 h2 h3 h4 => ?_⟩
  · rw [g, g]
    by_cases e : k = j
    · subst e
      rw [if_neg (by omega : ¬ (k - 1) / 2 = k), if_pos rfl, if_pos rfl]; omega
    · have q := h.1 k h1 h2 e
      rw [if_neg e, if_neg h3]
      by_cases e1 : (k - 1) / 2 = j
      · rw [if_pos e1]; exact h.2 k h1 h2 e1 h0
      · rw [if_neg e1]
        by_cases e2 : (k - 1) / 2 = (j - 1) / 2
        · rw [if_pos e2]; rw [e2] at q; omega
        · rw [if_neg e2]; exact q
  · rw [g, g]
    rw [if_neg (by omega : ¬ ((j - 1) / 2 - 1) / 2 = j), if_neg (by omega : ¬ ((j - 1) / 2 - 1) / 2 = (j - 1) / 2)]
    have q0 := h.1 ((j - 1) / 2) h4 (by omega) (by omega)
    by_cases e : k = j
    · subst e; rw [if_pos rfl]; exact q0
    · rw [if_neg e, if_neg (by omega)]
      have q := h.1 k h1 h2 e
      rw [h3] at q
      omega
theorem down_done_end {l : List Nat} {n i : Nat} (h : DownOk l n i) (hi : n ≤ 2 * i + 1) : Heap l n := fun k h1 h2 => h.1 k h1 h2 (by omega)
theorem down_done {l : List Nat} {n i j : Nat} (h : DownOk l n i) (hj1 : l.getD j 0 ≤ l.getD (2 * i + 1) 0) (hj2 : 2 * i + 2 < n → l.getD j 0 ≤ l.getD (2 * i + 2) 0) (hl : ¬ l.getD j 0 < l.getD i 0) : Heap l n := fun k h1 h2 => by
  by_cases e : (k - 1) / 2 = i
  · rw [e]
    rcases (by omega : k = 2 * i + 1 ∨ k = 2 * i + 2) with rfl | rfl
    · omega
    · have := hj2 h2; omega
  · exact h.1 k h1 h2 e
theorem down_step {l : List Nat} {n i j : Nat} (h : DownOk l n i) (hn : n ≤ l.length) (hj : j < n) (hji : j = 2 * i + 1 ∨ j = 2 * i + 2) (hj1 : l.getD j 0 ≤ l.getD (2 * i + 1) 0) (hj2 : 2 * i + 2 < n → l.getD j 0 ≤ l.getD (2 * i + 2) 0)
    (hl : l.getD j 0 < l.getD i 0) : DownOk (swap l i j) n j := by
  have g := swap_get l i j (by omega) (by omega)
  have hp : (j - 1) / 2 = i := by omega
  refine ⟨fun k h1 h2 h3 => ?_, fun k h1 h2 h3 h4 => ?_⟩
  · rw [g, g, if_neg h3]
    by_cases e : (k - 1) / 2 = i
    · rw [if_pos e]
      by_cases e1 : k = j
      · rw [if_pos e1]; omega
      · rw [if_neg e1, if_neg (by omega)]
        rcases (by omega : k = 2 * i + 1 ∨ k = 2 * i + 2) with rfl | rfl
        · exact hj1
        · exact hj2 h2
    · rw [if_neg e]
      have e1 : k ≠ j := fun e1 => e (by rw [e1]; exact hp)
      rw [if_neg e1]
      by_cases e2 : k = i
      · rw [if_pos e2, e2]
        exact h.2 j (by omega) hj hp (by omega)
      · rw [if_neg e2]; exact h.1 k h1 h2 e
  · rw [g, g, hp, if_neg (by omega : ¬ i = j), if_pos rfl, if_neg (by omega : ¬ k = j), if_neg (by omega : ¬ k = i)]
    have := h.1 k h1 h2 (by omega)
    rw [h3] at this
    exact this
/-- The first is the least. -/
theorem heap_least {l : List Nat} {n : Nat} (h : Heap l n) : ∀ k, k < n → l.getD 0 0 ≤ l.getD k 0 := by
  intro k
  induction k using Nat.strongRecOn with
  | _ k ih =>
    intro hk
    rcases Nat.eq_zero_or_pos k with rfl | h0
    · exact Nat.le_refl _
    · exact Nat.le_trans (ih ((k - 1) / 2) (by omega) (by omega)) (h k h0 hk)
/-- What is put behind a heap may rise. -/
theorem push_up {l : List Nat} (h : Heap l l.length) (x : Nat) : UpOk (l ++ [x]) (l.length + 1) l.length := by
  have g : ∀ k, k < l.length → (l ++ [x]).getD k 0 = l.getD k 0 := fun k hk => by
    rw [List.getD_eq_getElem?_getD, List.getD_eq_getElem?_getD, List.getElem?_append_left hk]
  refine ⟨fun k h1 h2 h3 => ?_, fun k h1 h2 h3 h4 => by omega⟩
  rw [g _ (by omega), g _ (by omega)]
  exact h k h1 (by omega)
/-- The last one in the first one's place may sink. -/
theorem pop_down {l : List Nat} {n : Nat} (h : Heap l (n + 1)) (hn : l.length = n + 1) : DownOk (swap l 0 n) n 0 := by
  have g := swap_get l 0 n (by omega) (by omega)
  refine ⟨fun k h1 h2 h3 => ?_, fun k h1 h2 h3 h4 => by omega⟩
  rw [g, g, if_neg (by omega), if_neg h3, if_neg (by omega), if_neg (by omega)]
  exact h k h1 (by omega)
end Go.Proofs.Ytemliglhippdcaa.Hp

/- What comes first: the places that wait for none, told one by one, the least first. -/
namespace Go.Proofs.Ytemliglhippdcaa.Gr
set_option maxRecDepth 100000

/-- How often i stands in the rows of those that are not told yet. -/
def cnt (Ls : List (List Nat)) (T : List Nat) (i : Nat) : Nat → Nat
  | 0 => 0
  | k + 1 => cnt Ls T i k + if k ∈ T then 0 else (Ls.getD k []).count i
/-- Told one by one, each time the first that may be; no more than f. -/
def run (fr : List Nat → Nat → Bool) (N : Nat) : Nat → List Nat → List Nat
  | 0, T => T
  | f + 1, T => match (List.range N).find? (fr T) with
    | none => T
    | some x => run fr N f (T ++ [x])
/-- Whether i may be told next. -/
def free (Ls : List (List Nat)) (N : Nat) (T : List Nat) (i : Nat) : Bool := decide (i ∉ T) && (List.range N).all fun k => decide (i ∉ Ls.getD k []) || decide (k ∈ T)

theorem run_congr {fr fr' : List Nat → Nat → Bool} {N : Nat} (h : ∀ T i, i < N → fr T i = fr' T i) : ∀ f T, run fr N f T = run fr' N f T := by
  intro f
  induction f with
  | zero => intro T; rfl
  | succ f ih =>
    intro T
    unfold run
    have e : (List.range N).find? (fr T) = (List.range N).find? (fr' T) := by
      have : ∀ l : List Nat, (∀ x ∈ l, x < N) → l.find? (fr T) = l.find? (fr' T) := by
        intro l
        induction l with
        | nil => intro _; rfl
        | cons a l ihl =>
          intro hl
          rw [List.find?_cons, List.find?_cons, h T a (hl a (by simp)), ihl (fun x hx => hl x (by simp [hx]))]
      exact this _ fun x hx => List.mem_range.1 hx
    rw [e]
    split
    · rfl
    · exact ih _
theorem cnt_snoc (Ls : List (List Nat)) (T : List Nat) (i x : Nat) (hx : x ∉ T) : ∀ k, cnt Ls T i k = cnt Ls (T ++ [x]) i k + if x < k then (Ls.getD x []).count i else 0
  | 0 => by simp [cnt]
  | k + 1 => by
    unfold cnt
    rw [cnt_snoc Ls T i x hx k]
    by_cases hk : k = x
    · subst hk
      simp [hx]
    · by_cases h1 : k ∈ T
      · have h2 : k ∈ T ++ [x] := by simp [h1]
        rw [if_pos h1, if_pos h2]
        by_cases h3 : x < k
        · rw [if_pos h3, if_pos (by omega)]; omega
        · rw [if_neg h3, if_neg (by omega)]
      · have h2 : k ∉ T ++ [x] := by simp [h1, hk]
        rw [if_neg h1, if_neg h2]
        by_cases h3 : x < k
        · rw [if_pos h3, if_pos (by omega)]; omega
        · rw [if_neg h3, if_neg (by omega)]; omega
theorem cnt_zero (Ls : List (List Nat)) (T : List Nat) (i : Nat) : ∀ k, cnt Ls T i k = 0 ↔ ∀ j, j < k → i ∈ Ls.getD j [] → j ∈ T
  | 0 => by simp [cnt]
  | k + 1 => by
    unfold cnt
    have ih := cnt_zero Ls T i k
    constructor
    · intro h j hj hi
      by_cases e : j = k
      · subst e
        by_cases h1 : j ∈ T
        · exact h1
        · rw [if_neg h1] at h
          have := List.count_pos_iff.2 hi
          omega
      · exact ih.1 (by omega) j (by omega) hi
    · intro h
      rw [ih.2 fun j hj hi => h j (by omega) hi]
      by_cases h1 : k ∈ T
      · rw [if_pos h1]
      · rw [if_neg h1, List.count_eq_zero.2 fun hi => h1 (h k (by omega) hi)]
theorem free_iff (Ls : List (List Nat)) (N : Nat) (T : List Nat) (i : Nat) : free Ls N T i = true ↔ i ∉ T ∧ cnt Ls T i N = 0 := by
  unfold free
  rw [Bool.and_eq_true, decide_eq_true_iff, List.all_eq_true, cnt_zero]
  constructor
  · rintro ⟨h1, h2⟩
    refine ⟨h1, fun j hj hi => ?_⟩
    have h3 := h2 j (List.mem_range.2 hj)
    rw [Bool.or_eq_true, decide_eq_true_iff, decide_eq_true_iff] at h3
    rcases h3 with h3 | h3
    · exact absurd hi h3
    · exact h3
  · rintro ⟨h1, h2⟩
    refine ⟨h1, fun j hj => ?_⟩
    rw [Bool.or_eq_true, decide_eq_true_iff, decide_eq_true_iff]
    by_cases hi : i ∈ Ls.getD j []
    · exact .inr (h2 j (List.mem_range.1 hj) hi)
    · exact .inl hi

/-- How far it has come: T is told, 'rest' of the last one's row is still to be counted off; W tells for how many each one waits, H those that may be told. -/
structure FF (Ls : List (List Nat)) (N : Nat) (T rest W H : List Nat) : Prop where
  wl : W.length = N
  w : ∀ i, i < N → W.getD i 0 = cnt Ls T i N + rest.count i
  hn : H.Nodup
  h : ∀ i, i ∈ H ↔ i < N ∧ i ∉ T ∧ W.getD i 0 = 0
  tn : T.Nodup
  t : ∀ t ∈ T, t < N ∧ cnt Ls T t N = 0 ∧ t ∉ rest
  r : ∀ i ∈ rest, i < N
theorem FF.find {Ls : List (List Nat)} {N x : Nat} {T W H : List Nat} (h : FF Ls N T [] W H) (hx : x ∈ H) (hl : ∀ y ∈ H, x ≤ y) : (List.range N).find? (free Ls N T) = some x := by
  have hfr : ∀ i, i < N → (free Ls N T i = true ↔ i ∈ H) := fun i hi => by
    rw [free_iff, h.h, h.w i hi]
    simp [hi]
  have hxN := ((h.h x).1 hx).1
  rw [List.find?_eq_some_iff_getElem]
  refine ⟨(hfr x hxN).2 hx, x, by simpa using hxN, by simp, fun j hj => ?_⟩
  simp only [List.getElem_range]
  rcases hf : free Ls N T j with _ | _
  · rfl
  · exact absurd (hl j ((hfr j (by omega)).1 hf)) (by omega)
theorem FF.none {Ls : List (List Nat)} {N : Nat} {T W : List Nat} (h : FF Ls N T [] W []) : (List.range N).find? (free Ls N T) = none := by
  rw [List.find?_eq_none]
  intro i hi
  have hi := List.mem_range.1 hi
  intro hf
  have h1 := (free_iff Ls N T i).1 hf
  have h2 := (h.h i).2 ⟨hi, h1.1, by rw [h.w i hi, h1.2]; rfl⟩
  simp at h2
theorem FF.pop {Ls : List (List Nat)} {N x : Nat} {T W H H' : List Nat} (h : FF Ls N T [] W H) (hp : (x :: H').Perm H) (hL : ∀ i ∈ Ls.getD x [], i < N) : FF Ls N (T ++ [x]) (Ls.getD x []) W H' := by
  have hxH : x ∈ H := hp.mem_iff.1 (by simp)
  obtain ⟨hxN, hxT, hx0⟩ := (h.h x).1 hxH
  have hnd : (x :: H').Nodup := (hp.nodup_iff).2 h.hn
  have hc : ∀ i, cnt Ls T i N = cnt Ls (T ++ [x]) i N + (Ls.getD x []).count i := fun i => by rw [cnt_snoc Ls T i x hxT N, if_pos hxN]
  refine ⟨h.wl, fun i hi => by rw [h.w i hi, hc i]; simp, (List.nodup_cons.1 hnd).2, fun i => ?_, ?_, fun t ht => ?_, hL⟩
  · have h1 : i ∈ H ↔ i ∈ x :: H' := hp.mem_iff.symm
    constructor
    · intro hi
      obtain ⟨a, b, c⟩ := (h.h i).1 (h1.2 (by simp [hi]))
      refine ⟨a, ?_, c⟩
      simp only [List.mem_append, List.mem_singleton, not_or]
      exact ⟨b, fun e => (List.nodup_cons.1 hnd).1 (e ▸ hi)⟩
    · rintro ⟨a, b, c⟩
      simp only [List.mem_append, List.mem_singleton, not_or] at b
      have h2 := h1.1 ((h.h i).2 ⟨a, b.1, c⟩)
      simp only [List.mem_cons] at h2
      rcases h2 with h2 | h2
      · exact absurd h2 b.2
      · exact h2
  · rw [List.nodup_append]
    refine ⟨h.tn, by simp, fun a ha b hb e => ?_⟩
    simp at hb
    subst hb
    subst e
    exact hxT ha
  · have h1 : t < N ∧ cnt Ls T t N = 0 := by
      rcases List.mem_append.1 ht with ht | ht
      · exact ⟨(h.t t ht).1, (h.t t ht).2.1⟩
      · simp at ht
        subst ht
        have := h.w t hxN
        rw [hx0, List.count_nil] at this
        exact ⟨hxN, by omega⟩
    have h2 := hc t
    refine ⟨h1.1, by omega, fun hm => ?_⟩
    have := List.count_pos_iff.2 hm
    omega
theorem FF.pos {Ls : List (List Nat)} {N i : Nat} {T rest W H : List Nat} (h : FF Ls N T (i :: rest) W H) : i < N ∧ 1 ≤ W.getD i 0 := by
  have hi := h.r i (by simp)
  refine ⟨hi, ?_⟩
  rw [h.w i hi, List.count_cons_self]
  omega
theorem set_get (W : List Nat) (i v j : Nat) (hi : i < W.length) : (W.set i v).getD j 0 = if j = i then v else W.getD j 0 := by
  simp only [List.getD_eq_getElem?_getD, List.getElem?_set]
  by_cases h : j = i
  · subst h; simp [hi]
  · have h' : ¬ i = j := fun e => h e.symm
    simp [h, h']
theorem FF.step {Ls : List (List Nat)} {N i : Nat} {T rest W H : List Nat} (h : FF Ls N T (i :: rest) W H) (hne : W.getD i 0 - 1 ≠ 0) : FF Ls N T rest (W.set i (W.getD i 0 - 1)) H := by
  obtain ⟨hi, h1⟩ := h.pos
  have g := fun j => set_get W i (W.getD i 0 - 1) j (by rw [h.wl]; exact hi)
  refine ⟨by rw [List.length_set]; exact h.wl, fun j hj => ?_, h.hn, fun j => ?_, h.tn, fun t ht => ⟨(h.t t ht).1, (h.t t ht).2.1, fun hm => (h.t t ht).2.2 (by simp [hm])⟩, fun j hj => h.r j (by simp [hj])⟩
  · rw [g]
    by_cases e : j = i
    · subst e
      rw [if_pos rfl, h.w j hj, List.count_cons_self]; omega
    · rw [if_neg e, h.w j hj, List.count_cons_of_ne (fun x => e x.symm)]
  · rw [g, h.h]
    by_cases e : j = i
    · subst e
      rw [if_pos rfl]
      constructor
      · rintro ⟨a, b, c⟩; omega
      · rintro ⟨a, b, c⟩; exact absurd c hne
    · rw [if_neg e]
theorem FF.push {Ls : List (List Nat)} {N i : Nat} {T rest W H H' : List Nat} (h : FF Ls N T (i :: rest) W H) (he : W.getD i 0 - 1 = 0) (hp : H'.Perm (H ++ [i])) : FF Ls N T rest (W.set i (W.getD i 0 - 1)) H' := by
  obtain ⟨hi, h1⟩ := h.pos
  have g := fun j => set_get W i (W.getD i 0 - 1) j (by rw [h.wl]; exact hi)
  have hiH : i ∉ H := fun hm => by have := ((h.h i).1 hm).2.2; omega
  have hiT : i ∉ T := fun hm => (h.t i hm).2.2 (by simp)
  refine ⟨by rw [List.length_set]; exact h.wl, fun j hj => ?_, ?_, fun j => ?_, h.tn, fun t ht => ⟨(h.t t ht).1, (h.t t ht).2.1, fun hm => (h.t t ht).2.2 (by simp [hm])⟩, fun j hj => h.r j (by simp [hj])⟩
  · rw [g]
    by_cases e : j = i
    · subst e
      rw [if_pos rfl, h.w j hj, List.count_cons_self]; omega
    · rw [if_neg e, h.w j hj, List.count_cons_of_ne (fun x => e x.symm)]
  · rw [hp.nodup_iff, List.nodup_append]
    refine ⟨h.hn, by simp, fun a ha b hb e => ?_⟩
    simp at hb
    subst hb
    subst e
    exact hiH ha
  · rw [hp.mem_iff, List.mem_append, List.mem_singleton, g, h.h]
    by_cases e : j = i
    · subst e
      rw [if_pos rfl]
      exact ⟨fun _ => ⟨hi, hiT, he⟩, fun _ => .inr rfl⟩
    · rw [if_neg e]
      exact ⟨fun x => x.elim id fun y => absurd y e, .inl⟩
/-- At the start: those that wait for none. -/
theorem FF.start {Ls : List (List Nat)} {N : Nat} {W H : List Nat} (hl : W.length = N) (hw : ∀ i, i < N → W.getD i 0 = cnt Ls [] i N) (hn : H.Nodup) (hh : ∀ i, i ∈ H ↔ i < N ∧ W.getD i 0 = 0) : FF Ls N [] [] W H :=
  ⟨hl, fun i hi => by rw [hw i hi]; rfl, hn, fun i => by rw [hh]; simp, by simp, by simp, by simp⟩
theorem nodup_len {T : List Nat} {N : Nat} (h : T.Nodup) (hN : ∀ t ∈ T, t < N) : T.length ≤ N := by
  have := List.Nodup.length_le_of_subset (l₁ := T) (l₂ := List.range N) h (fun t ht => List.mem_range.2 (hN t ht))
  simpa using this
theorem FF.len {Ls : List (List Nat)} {N : Nat} {T rest W H : List Nat} (h : FF Ls N T rest W H) : T.length ≤ N := nodup_len h.tn fun t ht => (h.t t ht).1
theorem FF.hlen {Ls : List (List Nat)} {N : Nat} {T rest W H : List Nat} (h : FF Ls N T rest W H) : H.length ≤ N := nodup_len h.hn fun t ht => ((h.h t).1 ht).1
/-- With the least that may be told. -/
theorem FF.next {Ls : List (List Nat)} {N x : Nat} {T W H H' : List Nat} (h : FF Ls N T [] W H) (hp : (x :: H').Perm H) (hl : ∀ y ∈ H', x ≤ y) :
    T.length + 1 ≤ N ∧ run (free Ls N) N (N - T.length) T = run (free Ls N) N (N - (T ++ [x]).length) (T ++ [x]) := by
  have hxH : x ∈ H := hp.mem_iff.1 (by simp)
  have hf := h.find hxH (fun y hy => by
    have := hp.mem_iff.2 hy
    simp only [List.mem_cons] at this
    rcases this with rfl | h1
    · exact Nat.le_refl _
    · exact hl y h1)
  obtain ⟨a, b, _⟩ := (h.h x).1 hxH
  have hlen : (T ++ [x]).length ≤ N := nodup_len (by
    rw [List.nodup_append]
    refine ⟨h.tn, by simp, fun c hc d hd e => ?_⟩
    simp at hd
    subst hd
    subst e
    exact b hc) fun t ht => by
      rcases List.mem_append.1 ht with ht | ht
      · exact (h.t t ht).1
      · simp at ht; omega
  simp at hlen
  refine ⟨hlen, ?_⟩
  rw [show N - T.length = (N - (T ++ [x]).length) + 1 by simp; omega]
  conv => lhs; unfold run
  rw [hf]
theorem FF.over {Ls : List (List Nat)} {N : Nat} {T W : List Nat} (h : FF Ls N T [] W []) : run (free Ls N) N (N - T.length) T = T := by
  rcases hN : N - T.length with _ | f
  · rfl
  · unfold run
    rw [h.none]
end Go.Proofs.Ytemliglhippdcaa.Gr

/- What comes first: the rows of those that wait for each place, made of what is ahead of each. -/
namespace Go.Proofs.Ytemliglhippdcaa.Gr
set_option maxRecDepth 100000

def add1 (i : Nat) (Ls : List (List Nat)) (a : Nat) : List (List Nat) := Ls.set a (Ls.getD a [] ++ [i])
def addRow (i : Nat) (ps : List Nat) (Ls : List (List Nat)) : List (List Nat) := ps.foldl (add1 i) Ls
/-- P i: the places that are ahead of place i. -/
def bins (P : Nat → List Nat) (N : Nat) : Nat → List (List Nat)
  | 0 => List.replicate N []
  | k + 1 => addRow k (P k) (bins P N k)
/-- Whether i may be told next. -/
def freeP (P : Nat → List Nat) (R : List Nat) (i : Nat) : Bool := decide (i ∉ R) && (P i).all fun a => decide (a ∈ R)
/-- All that can be told, in their order. -/
def ord (P : Nat → List Nat) (N : Nat) : List Nat := run (freeP P) N N []

theorem add1_len (i a : Nat) (Ls : List (List Nat)) : (add1 i Ls a).length = Ls.length := by simp [add1]
theorem addRow_snoc (i a : Nat) (ps : List Nat) (Ls : List (List Nat)) : addRow i (ps ++ [a]) Ls = add1 i (addRow i ps Ls) a := by
  unfold addRow
  rw [List.foldl_append]
  rfl
theorem addRow_len (i : Nat) : ∀ (ps : List Nat) (Ls : List (List Nat)), (addRow i ps Ls).length = Ls.length
  | [], Ls => rfl
  | a :: ps, Ls => by
    unfold addRow
    rw [List.foldl_cons]
    have := addRow_len i ps (add1 i Ls a)
    unfold addRow at this
    rw [this, add1_len]
theorem bins_len (P : Nat → List Nat) (N : Nat) : ∀ k, (bins P N k).length = N
  | 0 => by simp [bins]
  | k + 1 => by unfold bins; rw [addRow_len, bins_len P N k]
theorem setL_get (Ls : List (List Nat)) (i j : Nat) (v : List Nat) (hi : i < Ls.length) : (Ls.set i v).getD j [] = if j = i then v else Ls.getD j [] := by
  simp only [List.getD_eq_getElem?_getD, List.getElem?_set]
  by_cases h : j = i
  · subst h; simp [hi]
  · have h' : ¬ i = j := fun e => h e.symm
    simp [h, h']
theorem add1_count (i a b x : Nat) (Ls : List (List Nat)) (ha : a < Ls.length) : ((add1 i Ls a).getD b []).count x = (Ls.getD b []).count x + if b = a ∧ x = i then 1 else 0 := by
  unfold add1
  rw [setL_get Ls a b _ ha]
  by_cases h : b = a
  · subst h
    rw [if_pos rfl, List.count_append]
    by_cases e : x = i
    · subst e; simp
    · have e' : ¬ i = x := fun q => e q.symm
      simp [e, e']
  · simp [h]
theorem addRow_count (i b x : Nat) : ∀ (ps : List Nat) (Ls : List (List Nat)), (∀ a ∈ ps, a < Ls.length) → ((addRow i ps Ls).getD b []).count x = (Ls.getD b []).count x + if x = i then ps.count b else 0
  | [], Ls, _ => by simp [addRow]
  | a :: ps, Ls, h => by
    have h1 := addRow_count i b x ps (add1 i Ls a) (fun c hc => by rw [add1_len]; exact h c (by simp [hc]))
    have e : addRow i (a :: ps) Ls = addRow i ps (add1 i Ls a) := rfl
    rw [e, h1, add1_count i a b x Ls (h a (by simp)), List.count_cons]
    by_cases e : x = i
    · subst e
      by_cases q : b = a
      · subst q; simp; omega
      · have q' : ¬ a = b := fun z => q z.symm
        simp [q, q']
    · simp [e]
theorem bins_count (P : Nat → List Nat) (N b x : Nat) (hP : ∀ i, ∀ a ∈ P i, a < N) : ∀ k, ((bins P N k).getD b []).count x = if x < k then (P x).count b else 0
  | 0 => by
    unfold bins
    rw [List.getD_eq_getElem?_getD, List.getElem?_replicate]
    split <;> simp
  | k + 1 => by
    unfold bins
    rw [addRow_count k b x (P k) _ (fun a ha => by rw [bins_len]; exact hP k a ha), bins_count P N b x hP k]
    by_cases e : x = k
    · subst e; simp
    · by_cases h : x < k
      · rw [if_pos h, if_neg e, if_pos (by omega)]; omega
      · rw [if_neg h, if_neg e, if_neg (by omega)]
def sums (l : List Nat) : Nat → Nat
  | 0 => 0
  | k + 1 => sums l k + l.count k
theorem sums_cons (a : Nat) (l : List Nat) : ∀ k, sums (a :: l) k = sums l k + if a < k then 1 else 0
  | 0 => rfl
  | k + 1 => by
    unfold sums
    rw [sums_cons a l k, List.count_cons]
    by_cases e : a = k
    · subst e; simp; omega
    · have e' : ¬ (a == k) = true := by simpa using e
      rw [if_neg e']
      by_cases h : a < k
      · rw [if_pos h, if_pos (by omega)]; omega
      · rw [if_neg h, if_neg (by omega)]; omega
theorem sums_all : ∀ (l : List Nat) (N : Nat), (∀ a ∈ l, a < N) → sums l N = l.length
  | [], N, _ => by
    induction N with
    | zero => rfl
    | succ k ih => unfold sums; rw [ih (by simp)]; simp
  | a :: l, N, h => by
    rw [sums_cons, sums_all l N (fun b hb => h b (by simp [hb])), if_pos (h a (by simp))]
    rfl
theorem cnt_bins (P : Nat → List Nat) (N x K : Nat) (hP : ∀ i, ∀ a ∈ P i, a < N) : ∀ k, cnt (bins P N K) [] x k = if x < K then sums (P x) k else 0
  | 0 => by unfold cnt sums; split <;> rfl
  | k + 1 => by
    unfold cnt sums
    have hn : ¬ k ∈ ([] : List Nat) := by simp
    rw [cnt_bins P N x K hP k, if_neg hn, bins_count P N k x hP K]
    by_cases h : x < K
    · rw [if_pos h, if_pos h, if_pos h]
    · rw [if_neg h, if_neg h, if_neg h]
theorem bins_mem (P : Nat → List Nat) (N b x : Nat) (hP : ∀ i, ∀ a ∈ P i, a < N) (hx : x < N) : x ∈ (bins P N N).getD b [] ↔ b ∈ P x := by
  have h := bins_count P N b x hP N
  rw [if_pos hx] at h
  rw [← List.count_pos_iff, h, List.count_pos_iff]
theorem bins_small (P : Nat → List Nat) (N : Nat) (hP : ∀ i, ∀ a ∈ P i, a < N) (k : Nat) (b x : Nat) (h : x ∈ (bins P N k).getD b []) : x < k := by
  have h1 := List.count_pos_iff.2 h
  rw [bins_count P N b x hP k] at h1
  by_cases e : x < k
  · exact e
  · rw [if_neg e] at h1; omega
theorem add1_lenrow (i a b : Nat) (Ls : List (List Nat)) : ((add1 i Ls a).getD b []).length ≤ (Ls.getD b []).length + 1 := by
  unfold add1
  by_cases ha : a < Ls.length
  · rw [setL_get Ls a b _ ha]
    split
    · rename_i e; subst e; simp
    · omega
  · rw [List.set_eq_of_length_le (by omega)]; omega
theorem addRow_lenrow (i b : Nat) : ∀ (ps : List Nat) (Ls : List (List Nat)), ((addRow i ps Ls).getD b []).length ≤ (Ls.getD b []).length + ps.length
  | [], Ls => by simp [addRow]
  | a :: ps, Ls => by
    have h1 := addRow_lenrow i b ps (add1 i Ls a)
    have h2 := add1_lenrow i a b Ls
    have e : addRow i (a :: ps) Ls = addRow i ps (add1 i Ls a) := rfl
    rw [e, List.length_cons]
    omega
theorem bins_lenrow (P : Nat → List Nat) (N B : Nat) (hB : ∀ i, (P i).length ≤ B) (b : Nat) : ∀ k, ((bins P N k).getD b []).length ≤ k * B
  | 0 => by
    unfold bins
    rw [List.getD_eq_getElem?_getD, List.getElem?_replicate]
    split <;> simp
  | k + 1 => by
    unfold bins
    have h1 := addRow_lenrow k b (P k) (bins P N k)
    have h2 := bins_lenrow P N B hB b k
    have h3 := hB k
    rw [Nat.add_mul, Nat.one_mul]
    omega
theorem run_bins (P : Nat → List Nat) (N : Nat) (hP : ∀ i, ∀ a ∈ P i, a < N) : run (free (bins P N N) N) N N [] = ord P N := by
  refine run_congr (fun R i hi => ?_) N []
  unfold free freeP
  congr 1
  rw [Bool.eq_iff_iff, List.all_eq_true, List.all_eq_true]
  constructor
  · intro h a ha
    have h1 := h a (List.mem_range.2 (hP i a ha))
    rw [Bool.or_eq_true, decide_eq_true_iff, decide_eq_true_iff] at h1
    rw [decide_eq_true_iff]
    rcases h1 with h1 | h1
    · exact absurd ((bins_mem P N a i hP hi).2 ha) h1
    · exact h1
  · intro h k _
    rw [Bool.or_eq_true, decide_eq_true_iff, decide_eq_true_iff]
    by_cases e : i ∈ (bins P N N).getD k []
    · have := h k ((bins_mem P N k i hP hi).1 e)
      rw [decide_eq_true_iff] at this
      exact .inr this
    · exact .inl e
theorem run_small (fr : List Nat → Nat → Bool) (N : Nat) : ∀ f T, (∀ t ∈ T, t < N) → ∀ t ∈ run fr N f T, t < N
  | 0, T, h, t, ht => h t ht
  | f + 1, T, h, t, ht => by
    unfold run at ht
    split at ht
    · exact h t ht
    · rename_i x hx
      refine run_small fr N f (T ++ [x]) (fun s hs => ?_) t ht
      rcases List.mem_append.1 hs with hs | hs
      · exact h s hs
      · simp at hs
        subst hs
        have := List.mem_of_find?_eq_some hx
        simpa using this
theorem run_len (fr : List Nat → Nat → Bool) (N : Nat) : ∀ f T, (run fr N f T).length ≤ T.length + f
  | 0, T => by unfold run; omega
  | f + 1, T => by
    unfold run
    split
    · omega
    · rename_i x _
      have := run_len fr N f (T ++ [x])
      simp at this
      omega
theorem ord_small (P : Nat → List Nat) (N : Nat) : ∀ t ∈ ord P N, t < N := run_small _ N N [] (by simp)
theorem ord_len (P : Nat → List Nat) (N : Nat) : (ord P N).length ≤ N := by have := run_len (freeP P) N N []; simpa [ord] using this
end Go.Proofs.Ytemliglhippdcaa.Gr

/- What is reached, one behind the other. -/
namespace Go.Proofs.Ytemliglhippdcaa.Gr
set_option maxRecDepth 100000

def addTo (l xs : List Nat) : List Nat := xs.foldl (fun acc x => if x ∈ acc then acc else acc ++ [x]) l
/-- The row when k of it have been gone through. -/
def rs (f : Nat → List Nat) (T : List Nat) : Nat → List Nat
  | 0 => T
  | k + 1 => if k < (rs f T k).length then addTo (rs f T k) (f ((rs f T k).getD k 0)) else rs f T k
theorem addTo_pre : ∀ (xs l : List Nat), l <+: addTo l xs
  | [], l => List.prefix_refl _
  | x :: xs, l => by
    unfold addTo
    rw [List.foldl_cons]
    split
    · exact addTo_pre xs l
    · exact List.IsPrefix.trans (List.prefix_append l [x]) (addTo_pre xs (l ++ [x]))
theorem rs_pre1 (f : Nat → List Nat) (T : List Nat) (k : Nat) : rs f T k <+: rs f T (k + 1) := by
  conv => rhs; unfold rs
  split
  · exact addTo_pre _ _
  · exact List.prefix_refl _
theorem rs_pre (f : Nat → List Nat) (T : List Nat) (k : Nat) : ∀ d, rs f T k <+: rs f T (k + d)
  | 0 => List.prefix_refl _
  | d + 1 => List.IsPrefix.trans (rs_pre f T k d) (rs_pre1 f T (k + d))
theorem rs_stop (f : Nat → List Nat) (T : List Nat) (k : Nat) (h : (rs f T k).length ≤ k) : ∀ d, rs f T (k + d) = rs f T k
  | 0 => rfl
  | d + 1 => by
    have ih := rs_stop f T k h d
    rw [show k + (d + 1) = (k + d) + 1 by omega]
    conv => lhs; unfold rs
    simp only [ih]
    rw [if_neg (by omega)]
/-- All of it, when no more than M are reached. -/
theorem rs_facts (f : Nat → List Nat) (T : List Nat) (M : Nat) (hM : (rs f T M).length ≤ M) :
    rs f T (rs f T M).length = rs f T M ∧ ∀ k, k ≤ (rs f T M).length → (k < (rs f T k).length ↔ k < (rs f T M).length) ∧ (k < (rs f T M).length → (rs f T k).getD k 0 = (rs f T M).getD k 0) ∧ (rs f T k).length ≤ (rs f T M).length := by
  have hlt : ∀ k, k < (rs f T M).length → k < (rs f T k).length := fun k hk => by
    rcases Nat.lt_or_ge k (rs f T k).length with h | h
    · exact h
    · have h1 := rs_stop f T k h (M - k)
      rw [show k + (M - k) = M by omega] at h1
      rw [h1] at hk
      omega
  have hle : ∀ k, k ≤ M → (rs f T k).length ≤ (rs f T M).length := fun k hk => by
    have h1 := rs_pre f T k (M - k)
    rw [show k + (M - k) = M by omega] at h1
    exact h1.length_le
  refine ⟨?_, fun k hk => ⟨⟨fun h => ?_, hlt k⟩, fun h => ?_, hle k (by omega)⟩⟩
  · have h1 := hle _ hM
    have h2 := rs_stop f T (rs f T M).length h1 (M - (rs f T M).length)
    rw [show (rs f T M).length + (M - (rs f T M).length) = M by omega] at h2
    exact h2.symm
  · have := hle k (by omega)
    omega
  · have h1 := rs_pre f T k (M - k)
    rw [show k + (M - k) = M by omega] at h1
    obtain ⟨t, ht⟩ := h1
    rw [← ht, List.getD_eq_getElem?_getD, List.getD_eq_getElem?_getD, List.getElem?_append_left (hlt k h)]
end Go.Proofs.Ytemliglhippdcaa.Gr

/- Package mani's own reader: what each of its calls makes of it, in plain words. -/
namespace Go.Proofs.Ytemliglhippdcaa.Mo
set_option maxRecDepth 100000
open Mn (F fw isW aSign)

/-- What the reader has: what is let, whose an Out is, Default's words, the rules, a line's first word and the words that are left of it, what is wrong. -/
structure S where
  lets : Mn.Lets
  makers : List (List Nat × Nat)
  chosen : List Ln.W
  rules : List Mn.Rule
  first : Ln.W
  rest : List Ln.W
  e : F
def word0 : Ln.W := ⟨[], 0, 0, false⟩
def start : S := ⟨[], [], [], [], word0, [], ⟨0, 0, 0⟩⟩
def fail (k : Nat) (w : Ln.W) (s : S) : S := if s.e.k = 0 then { s with e := fw k w } else s
def wrong (s : S) : S := fail 4 (s.rest.headD s.first) s
def has (t : List Nat) : List (List Nat × Nat) → Option Nat
  | [] => none
  | (u, i) :: r => match has t r with
    | some x => some x
    | none => if u = t then some i else none
def file (t : List Nat) : Bool := Nm.ok t && decide (t ≠ Mn.manifest) && decide (t ≠ Mn.trace)
/-- Names are gone through: how many, and what is left of the reader; each is handed to a step. -/
def run (stp : Ln.W → S → S) (most : Nat) (may : List Nat → Bool) : List Ln.W → Nat → S → Nat × S
  | [], n, s => (n, s)
  | w :: r, n, s => if aSign w then (n, s)
    else if w.q || !may w.text then (n, fail 5 w s)
    else if n = most then (n, fail 7 w s)
    else run stp most may r (n + 1) (stp w { s with rest := r })
def still (_ : Ln.W) (s : S) : S := s
def at_ (sign : Nat) (s : S) : Bool := match s.rest with
  | [] => false
  | w :: _ => isW [sign] w
def take (sign : Nat) (s : S) : S := if at_ sign s then { s with rest := s.rest.tail } else wrong s
def ends (s : S) : S := if s.rest = [] then s else wrong s
def texts (l : List Ln.W) : List (List Nat) := l.map (·.text)
def ins (s : S) : List (List Nat) × S :=
  let x := run still 8 file s.rest 0 s
  (texts (s.rest.take x.1), x.2)
/-- An Out is noted. -/
def note (w : Ln.W) (s : S) : S :=
  let s1 := if (has w.text s.makers).isSome then fail 8 w s else s
  { s1 with makers := s1.makers ++ [(w.text, s1.rules.length)] }
def outs (most : Nat) (s : S) : List (List Nat) × S :=
  let s1 := if s.rules.length = 64 then fail 11 s.first s else s
  let x := run note most file s1.rest 0 s1
  (texts (s1.rest.take x.1), if x.1 = 0 then wrong x.2 else x.2)
/-- The words up to a comma, whether there is one, and what is behind it. -/
def cut : List Ln.W → List Ln.W × Bool × List Ln.W
  | [] => ([], false, [])
  | w :: r => if isW [44] w then ([], true, r) else ((w :: (cut r).1), (cut r).2)
def acts : Nat → Nat → List (List Ac.D) → S → List (List Ac.D) × S
  | 0, _, l, s => (l, s)
  | f + 1, n, l, s =>
    let c := cut s.rest
    let at0 := c.1.headD s.first
    let p := Ac.parse c.1
    let s1 := { s with rest := c.2.2 }
    let s2 := if l.length = n then fail 7 at0 s1 else if p.isNone then fail 9 at0 s1 else s1
    if s2.e.k ≠ 0 then ([], s2)
    else
      let l1 := l ++ [p.getD []]
      if c.2.1 then acts f n l1 s2 else (l1, if l1.length < n then wrong s2 else s2)
def rule (s : S) : S :=
  let o := outs 4 s
  let i := ins (take 58 o.2)
  let d := if at_ 124 i.2 then ins (take 124 i.2) else ([], i.2)
  let s5 := take 61 d.2
  let a := acts (s5.rest.length + 1) o.1.length [] s5
  { a.2 with rules := a.2.rules ++ [⟨o.1, i.1, d.1, a.1, false⟩] }
def phony (s : S) : S :=
  let o := outs 1 s
  let i := ins (take 58 o.2)
  let s4 := ends i.2
  { s4 with rules := s4.rules ++ [⟨o.1, i.1, [], [], true⟩] }
def choose (s : S) : S :=
  let s1 := if s.chosen = [] then s else fail 7 s.first s
  let x := run still 8 Nm.ok s1.rest 0 s1
  let s2 := { x.2 with chosen := s1.rest.take x.1 }
  ends (if x.1 = 0 then wrong s2 else s2)
def lett (s : S) : S :=
  let x := run still 1 Nm.ok s.rest 0 s
  let key := if x.1 = 0 then [] else (s.rest.headD word0).text
  let s2 := if x.1 = 0 then wrong x.2 else x.2
  let s3 := take 61 s2
  let s4 := if 16 < s3.rest.length then fail 7 (s3.rest.getD 16 word0) s3 else s3
  { s4 with lets := s4.lets ++ [(key, s4.rest)] }
/-- What a word stands for. -/
def stands (lets : Mn.Lets) (w : Ln.W) : Option (List Ln.W) :=
  if w.q || decide (w.text.headD 0 ≠ 36) then some [w] else Mn.find w.text.tail lets
def placed (w : Ln.W) (l : List Ln.W) : List Ln.W := l.map fun x => { x with line := w.line, col := w.col }
def put (lets : Mn.Lets) : List Ln.W → List Ln.W → Except Ln.W (List Ln.W)
  | [], out => .ok out
  | w :: r, out => match stands lets w with
    | none => .error w
    | some l => put lets r ((out ++ placed w l).take 200)
def line (s : S) (L : List Ln.W) : S :=
  let f := L.headD word0
  let s1 := match put s.lets L.tail [] with
    | .ok l => { s with first := f, rest := l }
    | .error w => { fail 6 w s with first := f, rest := [] }
  if isW [108, 101, 116] f then lett s1
  else if isW [114, 117, 108, 101] f then rule s1
  else if isW [112, 104, 111, 110, 121] f then phony s1
  else if isW [100, 101, 102, 97, 117, 108, 116] f then choose s1
  else fail 4 f s1
/-- All lines, up to the first that is wrong. -/
def lines : S → List (List Ln.W) → S
  | s, [] => s
  | s, l :: r => if (line s l).e.k ≠ 0 then line s l else lines (line s l) r
def unmade (s : S) : S := s.chosen.foldl (fun s w => if (has w.text s.makers).isSome then s else fail 10 w s) s
/-- What is free behind a way through. -/
def waits (s : S) (free : List Bool) (t : List Nat) : Bool := match has t s.makers with
  | none => false
  | some i => !free.getD i false
def way (s : S) : List Mn.Rule → Nat → List Bool → List Bool
  | [], _, free => free
  | r :: l, i, free => way s l (i + 1) (free.set i (!(r.ins.any (waits s free)) && !(r.order.any (waits s free))))
def ways (s : S) : Nat → List Bool → List Bool
  | 0, free => free
  | n + 1, free => ways s n (way s s.rules 0 free)
def round (s : S) : Bool := (ways s s.rules.length (List.replicate s.rules.length false)).contains false
def read (L : List (List Ln.W)) : S :=
  let s := lines start L
  if s.e.k ≠ 0 then s else
    let s1 := unmade s
    if round s1 then fail 12 word0 s1 else s1
def parse (b : List Nat) : Mn.R Mn.M := match Ln.split b with
  | .bad k ln col => .bad ⟨k, ln, col⟩
  | .ok L => if (read L).e.k ≠ 0 then .bad (read L).e else .ok ⟨(read L).rules, texts (read L).chosen⟩
end Go.Proofs.Ytemliglhippdcaa.Mo

/- An action's things with numbers of any size, held to what may be. -/
namespace Go.Proofs.Ytemliglhippdcaa.Ac
set_option maxRecDepth 100000

structure E where
  kind : Nat
  n : Int
  text : List Nat
deriving DecidableEq
def D.e (d : D) : E := ⟨d.kind, d.n, d.text⟩
def right (x : E) : Bool := decide (1 ≤ x.kind) && decide (x.kind ≤ 11) && decide (0 ≤ x.n) && decide (x.n ≤ most x.kind) && plainT x.text && (isText x.kind || decide (x.text = []))
def okX (first : Bool) (x : E) : Bool := (isFirst x.kind == first) && right x
def okL : List E → Bool
  | [] => false
  | d :: r => okX true d && r.all (okX false) && decide (r.length + 1 ≤ 8)
theorem okX_e (b : Bool) (d : D) : okX b d.e = okD b d := by
  unfold okX okD right D.e
  have h1 : decide (0 ≤ (d.n : Int)) = true := decide_eq_true (by omega)
  have h2 : decide ((d.n : Int) ≤ (most d.kind : Int)) = decide (d.n ≤ most d.kind) := by simp
  simp only [h1, h2, Bool.and_true]
  rcases (isFirst d.kind == b) <;> rcases decide (1 ≤ d.kind) <;> rcases decide (d.kind ≤ 11) <;> rcases decide (d.n ≤ most d.kind) <;> rcases plainT d.text <;> rfl
theorem okL_map (L : List D) : okL (L.map D.e) = ok L := by
  cases L with
  | nil => rfl
  | cons d r =>
    show (okX true d.e && (r.map D.e).all (okX false) && decide ((r.map D.e).length + 1 ≤ 8)) = (okD true d && r.all (okD false) && decide (r.length + 1 ≤ 8))
    rw [okX_e, List.length_map, List.all_map]
    congr 3
    funext x
    exact okX_e false x
theorem okX_back {b : Bool} {x : E} (h : okX b x = true) : ∃ d : D, x = d.e := by
  unfold okX right at h
  simp only [Bool.and_eq_true, decide_eq_true_eq] at h
  obtain ⟨_, ⟨⟨⟨⟨_, h3⟩, _⟩, _⟩, _⟩⟩ := h
  refine ⟨⟨x.kind, x.n.toNat, x.text⟩, ?_⟩
  unfold D.e
  obtain ⟨k, n, t⟩ := x
  simp only [E.mk.injEq, true_and, and_true]
  simp at h3
  omega
theorem all_back : ∀ {r : List E}, r.all (okX false) = true → ∃ L : List D, r = L.map D.e
  | [], _ => ⟨[], rfl⟩
  | x :: r, h => by
    rw [List.all_cons, Bool.and_eq_true] at h
    obtain ⟨d, rfl⟩ := okX_back h.1
    obtain ⟨L, rfl⟩ := all_back h.2
    exact ⟨d :: L, rfl⟩
theorem okL_back {M : List E} (h : okL M = true) : ∃ L : List D, M = L.map D.e ∧ ok L = true := by
  cases M with
  | nil => cases h
  | cons x r =>
    have h' := h
    unfold okL at h
    simp only [Bool.and_eq_true] at h
    obtain ⟨⟨h1, h2⟩, _⟩ := h
    obtain ⟨d, rfl⟩ := okX_back h1
    obtain ⟨L, rfl⟩ := all_back h2
    exact ⟨d :: L, rfl, by rw [← okL_map]; exact h'⟩
theorem okL_bad {M : List E} {x : E} (hx : x ∈ M) (h : right x = false) : okL M = false := by
  have hX : ∀ b, okX b x = false := fun b => by unfold okX; rw [h, Bool.and_false]
  cases M with
  | nil => cases hx
  | cons d r =>
    show (okX true d && r.all (okX false) && decide (r.length + 1 ≤ 8)) = false
    rcases List.mem_cons.1 hx with rfl | hx
    · rw [hX]; rfl
    · rw [show r.all (okX false) = false from List.all_eq_false.2 ⟨x, hx, by rw [hX]; simp⟩, Bool.and_false]; rfl
end Go.Proofs.Ytemliglhippdcaa.Ac

/- Print in plain words: the words of each line. -/
namespace Go.Proofs.Ytemliglhippdcaa.Pn
set_option maxRecDepth 100000
open Mn (row wordB)

def doW (d : Ac.D) : List (List Nat) := (Ac.wordsD d).map wordB
def actW (l : List Ac.D) : List (List Nat) := (Ac.wordsOf l).map wordB
def actsW : List (List Ac.D) → List (List Nat)
  | [] => []
  | [a] => actW a
  | a :: b :: r => actW a ++ [44] :: actsW (b :: r)
def headW (r : Mn.Rule) : List Nat := if r.phony then [112, 104, 111, 110, 121] else [114, 117, 108, 101]
def firstW (r : Mn.Rule) : List (List Nat) := [headW r] ++ r.outs ++ [[58]] ++ r.ins
def orderW (r : Mn.Rule) : List (List Nat) := if r.order = [] then [] else [124] :: r.order
def ruleW (r : Mn.Rule) : List (List Nat) := if r.phony then firstW r else firstW r ++ orderW r ++ [[61]] ++ actsW r.acts
/-- Words with a blank between. -/
def join : List (List Nat) → List Nat
  | [] => []
  | x :: l => x ++ row l
def write (b : List Nat) (l : List (List Nat)) : List Nat := b ++ join l ++ [10]
def dfltW (m : Mn.M) : List (List Nat) := [[100, 101, 102, 97, 117, 108, 116]] ++ m.dflt

theorem row_append (l m : List (List Nat)) : row (l ++ m) = row l ++ row m := by unfold row; rw [List.flatMap_append]
theorem row_cons (x : List Nat) (m : List (List Nat)) : row (x :: m) = 32 :: x ++ row m := rfl
theorem wordsOf_snoc (d : Ac.D) : ∀ (l : List Ac.D), Ac.wordsOf (l ++ [d]) = Ac.wordsOf l ++ (if l = [] then [] else [Ac.wd [59] false]) ++ Ac.wordsD d
  | [] => rfl
  | [e] => by simp [Ac.wordsOf]
  | e :: g :: r => by
    rw [List.cons_append, List.cons_append, Ac.wordsOf, ← List.cons_append, wordsOf_snoc d (g :: r), Ac.wordsOf]
    simp
theorem actW_take (l : List Ac.D) (k : Nat) (h : k < l.length) : actW (l.take (k + 1)) = actW (l.take k) ++ (if k = 0 then [] else [[59]]) ++ doW (l.getD k ⟨0, 0, []⟩) := by
  unfold actW doW
  rw [List.take_succ_eq_append_getElem h, wordsOf_snoc, List.getD_eq_getElem?_getD, List.getElem?_eq_getElem h, List.map_append, List.map_append]
  congr 2
  by_cases hk : k = 0
  · subst hk; rfl
  · rw [if_neg hk, if_neg (by
      intro e
      have := congrArg List.length e
      rw [List.length_take, List.length_nil] at this
      omega)]
    rfl
theorem actsW_snoc (a : List Ac.D) : ∀ (l : List (List Ac.D)), actsW (l ++ [a]) = actsW l ++ (if l = [] then [] else [[44]]) ++ actW a
  | [] => rfl
  | [e] => by simp [actsW]
  | e :: g :: r => by
    rw [List.cons_append, List.cons_append, actsW, ← List.cons_append, actsW_snoc a (g :: r), actsW]
    simp
theorem actsW_take (l : List (List Ac.D)) (k : Nat) (h : k < l.length) : actsW (l.take (k + 1)) = actsW (l.take k) ++ (if k = 0 then [] else [[44]]) ++ actW (l.getD k []) := by
  rw [List.take_succ_eq_append_getElem h, actsW_snoc, List.getD_eq_getElem?_getD, List.getElem?_eq_getElem h]
  congr 2
  by_cases hk : k = 0
  · subst hk; rfl
  · rw [if_neg hk, if_neg (by
      intro e
      have := congrArg List.length e
      rw [List.length_take, List.length_nil] at this
      omega)]
theorem row_actW (a : List Ac.D) : row (actW a) = Mn.action a := by
  unfold row actW Mn.action
  rw [List.flatMap_map]
theorem row_actsW : ∀ l : List (List Ac.D), row (actsW l) = Mn.actions l
  | [] => rfl
  | [a] => row_actW a
  | a :: b :: r => by
    rw [actsW, row_append, row_cons, row_actW, row_actsW (b :: r), Mn.actions]
    simp
theorem write_rule (b : List Nat) (r : Mn.Rule) : write b (ruleW r) = b ++ Mn.printR r := by
  unfold write ruleW Mn.printR
  cases hp : r.phony
  · simp only [Bool.false_eq_true, if_false]
    unfold firstW headW
    rw [hp]
    simp only [Bool.false_eq_true, if_false, List.cons_append, List.nil_append, join, List.append_assoc, row_append, row_cons, row_actsW]
    unfold orderW
    split <;> simp [row]
  · simp only [if_true]
    unfold firstW headW
    rw [hp]
    simp [join, row_append, row_cons]
theorem write_dflt (b : List Nat) (m : Mn.M) : write b (dfltW m) = b ++ ([100, 101, 102, 97, 117, 108, 116] ++ row m.dflt ++ [10]) := by
  unfold write dfltW
  simp [join]
/-- What is written of the first rules. -/
theorem print_take (l : List Mn.Rule) (k : Nat) (h : k < l.length) (d : Mn.Rule) : (l.take (k + 1)).flatMap Mn.printR = write ((l.take k).flatMap Mn.printR) (ruleW (l.getD k d)) := by
  rw [write_rule, List.take_succ_eq_append_getElem h, List.flatMap_append, List.getD_eq_getElem?_getD, List.getElem?_eq_getElem h]
  simp
end Go.Proofs.Ytemliglhippdcaa.Pn

/- Plain facts on two texts, one behind the other. -/
namespace Go.Proofs.Ytemliglhippdcaa.Ln
set_option maxRecDepth 100000

def up (k : Nat) (x : W) : W := { x with line := x.line + k }
def upAll (k : Nat) (LL : List (List W)) : List (List W) := LL.map fun R => R.map (up k)
def Res.up (k : Nat) : Res → Res
  | .ok LL => .ok (upAll k LL)
  | .bad kd ln col => .bad kd (ln + k) col
theorem up_pre (k : Nat) (o : List (List W)) (R : Res) : (R.pre o).up k = (R.up k).pre (upAll k o) := by
  cases R with
  | ok L => simp [Res.pre, Res.up, upAll]
  | bad => rfl
theorem up_close (k : Nat) (row : List W) : close (row.map (up k)) = upAll k (close row) := by cases row <;> rfl
/-- Further down, all is told further down. -/
theorem sp_up (k : Nat) : ∀ (n : Nat) (l : List Nat) (ln col : Nat) (row : List W), l.length ≤ n → sp l (ln + k) col (row.map (up k)) = (sp l ln col row).up k := by
  intro n
  induction n with
  | zero =>
    intro l ln col row h
    obtain rfl := List.length_eq_zero_iff.1 (Nat.le_zero.1 h)
    rw [sp_nil, sp_nil, up_close]
    rfl
  | succ n ih =>
    intro l ln col row h
    cases l with
    | nil =>
      rw [sp_nil, sp_nil, up_close]
      rfl
    | cons c r =>
      rw [List.length_cons] at h
      by_cases hc : c = 10
      · subst hc
        rw [sp_nl, sp_nl, up_pre, up_close, show ln + k + 1 = ln + 1 + k from by omega]
        have := ih r (ln + 1) 1 [] (by omega)
        rw [List.map_nil] at this
        rw [this]
      · have hp := @tok_pos c r
        rcases ht : tok c r with m | ⟨t, m, q⟩ | ⟨kd, o⟩
        · have := hp.1 m ht
          rw [sp_skip hc ht, sp_skip hc ht]
          exact ih _ _ _ _ (by rw [List.length_drop, List.length_cons]; omega)
        · have := hp.2 t m q ht
          rw [sp_word hc ht, sp_word hc ht]
          have h2 := ih ((c :: r).drop m) ln (col + m) (row ++ [⟨t, ln, col, q⟩]) (by rw [List.length_drop, List.length_cons]; omega)
          rw [List.map_append] at h2
          exact h2
        · rw [sp_bad hc ht, sp_bad hc ht]
          rfl
theorem takeWhile_stop {p : Nat → Bool} {x : Nat} (h : p x = false) : ∀ (r b : List Nat), (r ++ x :: b).takeWhile p = r.takeWhile p
  | [], b => by rw [List.nil_append, List.takeWhile_cons_of_neg (by rw [h]; simp)]; rfl
  | c :: r, b => by
    rw [List.cons_append]
    by_cases hc : p c = true
    · rw [List.takeWhile_cons_of_pos hc, List.takeWhile_cons_of_pos hc, takeWhile_stop h r b]
    · rw [List.takeWhile_cons_of_neg hc, List.takeWhile_cons_of_neg hc]
theorem tokq_local (r b : List Nat) : tokq (r ++ 10 :: b) = tokq (r ++ [10]) := by
  have hl := (List.takeWhile_sublist inq (l := r)).length_le
  have hg : ∀ s : List Nat, (r ++ 10 :: s).getD (r.takeWhile inq).length 0 = if (r.takeWhile inq).length < r.length then r.getD (r.takeWhile inq).length 0 else 10 := fun s => by
    by_cases h : (r.takeWhile inq).length < r.length
    · rw [if_pos h, List.getD_eq_getElem?_getD, List.getElem?_append_left h, List.getD_eq_getElem?_getD]
    · rw [if_neg h, List.getD_eq_getElem?_getD, List.getElem?_append_right (by omega), show (r.takeWhile inq).length - r.length = 0 from by omega]
      rfl
  have hn : ∀ s : List Nat, ((r ++ 10 :: s).length = (r.takeWhile inq).length) = False := fun s => by
    rw [List.length_append, List.length_cons]
    exact propext ⟨fun h => by omega, fun h => h.elim⟩
  unfold tokq
  rw [takeWhile_stop (by rfl) r b, show (r ++ [10] : List Nat) = r ++ 10 :: [] from rfl, takeWhile_stop (by rfl) r []]
  simp only [hg, hn]
theorem tok_local (c : Nat) (r b : List Nat) : tok c (r ++ 10 :: b) = tok c (r ++ [10]) := by
  unfold tok
  rw [tokq_local r b, show (r ++ [10] : List Nat) = r ++ 10 :: [] from rfl, takeWhile_stop (p := noNl) (by rfl) r b, takeWhile_stop (p := noNl) (by rfl) r [], takeWhile_stop (p := plain) (by rfl) r b, takeWhile_stop (p := plain) (by rfl) r []]
def Tok.size : Tok → Nat
  | .skip n => n
  | .word _ n _ => n
  | .bad _ _ => 0
theorem tok_size (c : Nat) (r : List Nat) : (tok c (r ++ [10])).size ≤ r.length + 1 := by
  have h1 := (List.takeWhile_sublist noNl (l := r)).length_le
  have h2 := (List.takeWhile_sublist plain (l := r)).length_le
  have h3 := (List.takeWhile_sublist inq (l := r)).length_le
  have e1 := takeWhile_stop (p := noNl) (x := 10) (by rfl) r []
  have e2 := takeWhile_stop (p := plain) (x := 10) (by rfl) r []
  have e3 := takeWhile_stop (p := inq) (x := 10) (by rfl) r []
  have hq : (tokq (r ++ [10])).size ≤ r.length + 1 := by
    rcases ht : tokq (r ++ [10]) with m | ⟨t, m, q⟩ | ⟨k, o⟩
    · exact (tokq_skip ht).elim
    · obtain ⟨_, _, _, hm⟩ := tokq_word ht
      show m ≤ r.length + 1
      unfold tokq at ht
      rw [e3] at ht
      split at ht
      · cases ht
      · rename_i hne
        split at ht
        · cases ht
        · split at ht
          · injection ht with ht1 ht2 ht3
            have : (r.takeWhile inq).length ≠ r.length := fun e => hne (.inr (by rw [e, List.getD_eq_getElem?_getD, List.getElem?_append_right (Nat.le_refl _), Nat.sub_self]; rfl))
            omega
          · cases ht
    · exact Nat.zero_le _
  unfold tok
  rw [e1, e2]
  split
  · show 1 ≤ _; omega
  split
  · show 1 + _ ≤ _; omega
  split
  · show 1 ≤ _; omega
  split
  · exact hq
  split
  · exact Nat.zero_le _
  split
  · exact Nat.zero_le _
  · show _ + 1 ≤ _; omega
theorem takeWhile_getD {p : Nat → Bool} : ∀ (r : List Nat) (y : Nat), y < (r.takeWhile p).length → p (r.getD y 0) = true
  | [], y, h => by simp at h
  | c :: r, y, h => by
    by_cases hc : p c = true
    · rw [List.takeWhile_cons_of_pos hc, List.length_cons] at h
      cases y with
      | zero => simpa using hc
      | succ y => rw [List.getD_cons_succ]; exact takeWhile_getD r y (by omega)
    · rw [List.takeWhile_cons_of_neg hc] at h
      simp at h
theorem clean_of {r : List Nat} {k : Nat} (hk : k ≤ r.length) (h : ∀ y, y < k → r.getD y 0 ≠ 10) : (r.take k).count 10 = 0 := by
  rw [List.count_eq_zero]
  intro hm
  obtain ⟨y, hy, e⟩ := List.getElem_of_mem hm
  rw [List.length_take] at hy
  have := h y (by omega)
  rw [List.getD_eq_getElem?_getD, List.getElem?_eq_getElem (by omega)] at this
  rw [List.getElem_take] at e
  exact this e
/-- What a token takes holds no end of a line. -/
theorem tok_clean (c : Nat) (r : List Nat) : ∀ m, tok c (r ++ [10]) = .skip m ∨ (∃ t q, tok c (r ++ [10]) = .word t m q) → m ≤ r.length + 1 ∧ (r.take (m - 1)).count 10 = 0 := by
  intro m h
  have hs := tok_size c r
  have hm : m ≤ r.length + 1 := by
    rcases h with h | ⟨t, q, h⟩ <;> (rw [h] at hs; exact hs)
  refine ⟨hm, clean_of (by omega) ?_⟩
  have e1 := takeWhile_stop (p := noNl) (x := 10) (by rfl) r []
  have e2 := takeWhile_stop (p := plain) (x := 10) (by rfl) r []
  have e3 := takeWhile_stop (p := inq) (x := 10) (by rfl) r []
  have hl3 := (List.takeWhile_sublist inq (l := r)).length_le
  have none : ∀ y, y < m - 1 → m = 1 → r.getD y 0 ≠ 10 := fun y hy e => by omega
  unfold tok tokq at h
  rw [e1, e2, e3] at h
  intro y hy
  split at h
  · rcases h with h | ⟨t, q, h⟩
    · injection h with h; omega
    · cases h
  split at h
  · rcases h with h | ⟨t, q, h⟩
    · injection h with h
      have := takeWhile_getD (p := noNl) r y (by omega)
      simpa [noNl] using this
    · cases h
  split at h
  · rcases h with h | ⟨t, q, h⟩
    · cases h
    · injection h with _ h _; omega
  split at h
  · split at h
    · rcases h with h | ⟨t, q, h⟩ <;> cases h
    · rename_i hne
      split at h
      · rcases h with h | ⟨t, q, h⟩ <;> cases h
      · split at h
        · rcases h with h | ⟨t, q, h⟩
          · cases h
          · injection h with _ h _
            by_cases hy2 : y < (r.takeWhile inq).length
            · have := takeWhile_getD (p := inq) r y hy2
              simp [inq] at this
              exact this.2
            · have hy3 : y = (r.takeWhile inq).length := by omega
              have hlt : (r.takeWhile inq).length < r.length := by omega
              intro e
              refine hne (.inr ?_)
              rw [List.getD_eq_getElem?_getD, List.getElem?_append_left hlt, ← List.getD_eq_getElem?_getD, ← hy3, e]
        · rcases h with h | ⟨t, q, h⟩ <;> cases h
  split at h
  · rcases h with h | ⟨t, q, h⟩ <;> cases h
  split at h
  · rcases h with h | ⟨t, q, h⟩ <;> cases h
  · rcases h with h | ⟨t, q, h⟩
    · cases h
    · injection h with _ h _
      have := takeWhile_getD (p := plain) r y (by omega)
      intro e
      rw [e] at this
      exact absurd this (by decide)
/-- A text that ends with its line, and another one behind it. -/
def Res.then (R : Res) (f : Nat → Res) (n : Nat) : Res :=
  match R with
  | .ok LL => (f n).pre LL
  | .bad k ln col => .bad k ln col
theorem then_pre (o : List (List W)) (R : Res) (f : Nat → Res) (n : Nat) : (R.pre o).then f n = (R.then f n).pre o := by
  cases R with
  | ok L =>
    show (f n).pre (o ++ L) = ((f n).pre L).pre o
    rw [Res.pre_pre]
  | bad => rfl
theorem sp_join (b : List Nat) : ∀ (n : Nat) (a : List Nat) (ln col : Nat) (row : List W), a.length ≤ n → sp (a ++ 10 :: b) ln col row = (sp (a ++ [10]) ln col row).then (fun m => sp b m 1 []) (ln + (a.count 10 + 1)) := by
  intro n
  induction n with
  | zero =>
    intro a ln col row h
    obtain rfl := List.length_eq_zero_iff.1 (Nat.le_zero.1 h)
    rw [List.nil_append, List.nil_append, sp_nl, sp_nl, then_pre, sp_nil]
    simp [Res.then, close, Res.pre_nil]
  | succ n ih =>
    intro a ln col row h
    cases a with
    | nil =>
      rw [List.nil_append, List.nil_append, sp_nl, sp_nl, then_pre, sp_nil]
      simp [Res.then, close, Res.pre_nil]
    | cons c r =>
      rw [List.length_cons] at h
      rw [List.cons_append, List.cons_append]
      by_cases hc : c = 10
      · subst hc
        rw [sp_nl, sp_nl, then_pre, ih r (ln + 1) 1 [] (by omega), List.count_cons_self, show ln + 1 + (r.count 10 + 1) = ln + (r.count 10 + 1 + 1) from by omega]
      · have hp := @tok_pos c (r ++ [10])
        have hl := tok_local c r b
        have hcount : (c :: r).count 10 = r.count 10 := List.count_cons_of_ne hc
        rcases ht : tok c (r ++ [10]) with m | ⟨t, m, q⟩ | ⟨kd, o⟩
        · have h1 := hp.1 m ht
          obtain ⟨h2, h3⟩ := tok_clean c r m (.inl ht)
          rw [ht] at hl
          obtain ⟨k, rfl⟩ : ∃ k, m = k + 1 := ⟨m - 1, by omega⟩
          rw [Nat.add_sub_cancel] at h3
          have hc2 : r.count 10 = (r.drop k).count 10 := by
            conv => lhs; rw [← List.take_append_drop k r, List.count_append, h3]
            omega
          rw [sp_skip hc hl, sp_skip hc ht, List.drop_succ_cons, List.drop_succ_cons, List.drop_append_of_le_length (by omega), List.drop_append_of_le_length (by omega), ih (r.drop k) ln (col + (k + 1)) row (by rw [List.length_drop]; omega), hcount, hc2]
        · have h1 := hp.2 t m q ht
          obtain ⟨h2, h3⟩ := tok_clean c r m (.inr ⟨t, q, ht⟩)
          rw [ht] at hl
          obtain ⟨k, rfl⟩ : ∃ k, m = k + 1 := ⟨m - 1, by omega⟩
          rw [Nat.add_sub_cancel] at h3
          have hc2 : r.count 10 = (r.drop k).count 10 := by
            conv => lhs; rw [← List.take_append_drop k r, List.count_append, h3]
            omega
          rw [sp_word hc hl, sp_word hc ht, List.drop_succ_cons, List.drop_succ_cons, List.drop_append_of_le_length (by omega), List.drop_append_of_le_length (by omega), ih (r.drop k) ln (col + (k + 1)) _ (by rw [List.length_drop]; omega), hcount, hc2]
        · rw [ht] at hl
          rw [sp_bad hc hl, sp_bad hc ht]
          rfl
/-- The lines of two texts, one behind the other. -/
theorem join_is (a b : List Nat) : split (a ++ 10 :: b) = (split (a ++ [10])).then (fun m => (split b).up m) (a.count 10 + 1) := by
  have h := sp_join b a.length a 1 1 [] (Nat.le_refl _)
  have hu : ∀ m, sp b (1 + m) 1 [] = (split b).up m := fun m => sp_up m b.length b 1 1 [] (Nat.le_refl _)
  unfold split at *
  rw [h]
  cases hR : sp (a ++ [10]) 1 1 [] with
  | ok LL =>
    show (sp b (1 + (a.count 10 + 1)) 1 []).pre LL = ((sp b 1 1 []).up (a.count 10 + 1)).pre LL
    rw [hu]
  | bad => rfl
end Go.Proofs.Ytemliglhippdcaa.Ln

/- Plain facts on one line, and on a text line by line. -/
namespace Go.Proofs.Ytemliglhippdcaa.Ln
set_option maxRecDepth 100000

theorem takeWhile_all {p : Nat → Bool} : ∀ (r : List Nat), (∀ x ∈ r, p x = true) → r.takeWhile p = r
  | [], _ => rfl
  | c :: r, h => by rw [List.takeWhile_cons_of_pos (h c (by simp)), takeWhile_all r fun x hx => h x (by simp [hx])]
theorem tokq_end {r : List Nat} (h : ∀ x ∈ r, x ≠ 10) : tokq (r ++ [10]) = tokq r := by
  have e3 := takeWhile_stop (p := inq) (x := 10) (by rfl) r []
  have hl := takeWhile_le inq r
  unfold tokq
  rw [e3]
  have hc : ((r ++ [10]).length = (r.takeWhile inq).length ∨ (r ++ [10]).getD (r.takeWhile inq).length 0 = 10) = (r.length = (r.takeWhile inq).length ∨ r.getD (r.takeWhile inq).length 0 = 10) := by
    refine propext ?_
    rcases Nat.lt_or_ge (r.takeWhile inq).length r.length with hlt | hge
    · have hg : (r ++ [10]).getD (r.takeWhile inq).length 0 = r.getD (r.takeWhile inq).length 0 := by
        rw [List.getD_eq_getElem?_getD, List.getElem?_append_left hlt, List.getD_eq_getElem?_getD]
      have hne : r.getD (r.takeWhile inq).length 0 ≠ 10 := by
        rw [List.getD_eq_getElem?_getD, List.getElem?_eq_getElem hlt]
        exact h _ (List.getElem_mem hlt)
      rw [hg, List.length_append, List.length_singleton]
      constructor
      · rintro (h | h)
        · omega
        · exact absurd h hne
      · rintro (h | h)
        · omega
        · exact absurd h hne
    · constructor
      · intro _; left; omega
      · intro _
        right
        rw [List.getD_eq_getElem?_getD, List.getElem?_append_right (by omega), show (r.takeWhile inq).length - r.length = 0 from by omega]
        rfl
  simp only [hc]
theorem tok_end (c : Nat) {r : List Nat} (h : ∀ x ∈ r, x ≠ 10) : tok c (r ++ [10]) = tok c r := by
  unfold tok
  rw [tokq_end h, takeWhile_stop (p := noNl) (x := 10) (by rfl) r [], takeWhile_stop (p := plain) (x := 10) (by rfl) r []]
theorem tok_word_le {c m : Nat} {r t : List Nat} {q : Bool} (h : tok c r = .word t m q) : 1 ≤ m ∧ m ≤ r.length + 1 := by
  refine ⟨(tok_pos).2 t m q h, ?_⟩
  have h2 := takeWhile_le plain r
  unfold tok at h
  split at h
  · cases h
  split at h
  · cases h
  split at h
  · injection h with _ h _; omega
  split at h
  · exact (tokq_word h).2.2.1
  split at h
  · cases h
  split at h
  · cases h
  · injection h with _ h _; omega
theorem tok_skip_le {c m : Nat} {r : List Nat} (h : tok c r = .skip m) : 1 ≤ m ∧ m ≤ r.length + 1 := by
  refine ⟨(tok_pos).1 m h, ?_⟩
  have h2 := takeWhile_le noNl r
  unfold tok at h
  split at h
  · injection h with h; omega
  split at h
  · injection h with h; omega
  split at h
  · cases h
  split at h
  · exact (tokq_skip h).elim
  split at h
  · cases h
  split at h <;> cases h
/-- The end of a line changes nothing of what stands in it. -/
theorem sp_end : ∀ (n : Nat) (a : List Nat) (ln col : Nat) (row : List W), a.length ≤ n → (∀ x ∈ a, x ≠ 10) → sp (a ++ [10]) ln col row = sp a ln col row := by
  intro n
  induction n with
  | zero =>
    intro a ln col row h _
    obtain rfl := List.length_eq_zero_iff.1 (Nat.le_zero.1 h)
    rw [List.nil_append, sp_nl, sp_nil, sp_nil]
    simp [Res.pre, close]
  | succ n ih =>
    intro a ln col row h h10
    cases a with
    | nil =>
      rw [List.nil_append, sp_nl, sp_nil, sp_nil]
      simp [Res.pre, close]
    | cons c r =>
      rw [List.length_cons] at h
      have hc : c ≠ 10 := h10 c (by simp)
      have hr : ∀ x ∈ r, x ≠ 10 := fun x hx => h10 x (by simp [hx])
      have hdrop : ∀ k, ∀ x ∈ r.drop k, x ≠ 10 := fun k x hx => hr x (List.mem_of_mem_drop hx)
      have he := tok_end c hr
      rw [List.cons_append]
      rcases ht : tok c r with m | ⟨t, m, q⟩ | ⟨kd, o⟩
      · obtain ⟨h1, h2⟩ := tok_skip_le ht
        obtain ⟨k, rfl⟩ : ∃ k, m = k + 1 := ⟨m - 1, by omega⟩
        rw [sp_skip hc (he.trans ht), sp_skip hc ht, List.drop_succ_cons, List.drop_succ_cons, List.drop_append_of_le_length (by omega)]
        exact ih _ _ _ _ (by rw [List.length_drop]; omega) (hdrop k)
      · obtain ⟨h1, h2⟩ := tok_word_le ht
        obtain ⟨k, rfl⟩ : ∃ k, m = k + 1 := ⟨m - 1, by omega⟩
        rw [sp_word hc (he.trans ht), sp_word hc ht, List.drop_succ_cons, List.drop_succ_cons, List.drop_append_of_le_length (by omega)]
        exact ih _ _ _ _ (by rw [List.length_drop]; omega) (hdrop k)
      · rw [sp_bad hc (he.trans ht), sp_bad hc ht]
/-- A text's first line, and what comes behind it. -/
theorem sp_first {a : List Nat} (b : List Nat) (ln : Nat) (h : ∀ x ∈ a, x ≠ 10) : sp (a ++ 10 :: b) ln 1 [] = (sp a ln 1 []).then (fun m => sp b m 1 []) (ln + 1) := by
  have hc : a.count 10 = 0 := List.count_eq_zero.2 fun hm => h 10 hm rfl
  rw [sp_join b a.length a ln 1 [] (Nat.le_refl _), sp_end a.length a ln 1 [] (Nat.le_refl _) h, hc]
/-- How far a line is read. -/
def K (t : List Nat) (ln i : Nat) (R : List W) : Prop := i ≤ t.length ∧ sp t ln 1 [] = sp (t.drop i) ln (i + 1) R
theorem K.start (t : List Nat) (ln : Nat) : K t ln 0 [] := ⟨Nat.zero_le _, rfl⟩
theorem K.skip {t : List Nat} {ln i n : Nat} {R : List W} (h : K t ln i R) (hi : i < t.length) (hc : t.getD i 0 ≠ 10) (ht : tok (t.getD i 0) (t.drop (i + 1)) = .skip n) : K t ln (i + n) R := by
  have hn := (tok_skip_le ht).2
  rw [List.length_drop] at hn
  refine ⟨by omega, ?_⟩
  rw [h.2, drop_cons hi, sp_skip hc ht, ← drop_cons hi, List.drop_drop, show i + 1 + n = i + n + 1 from by omega]
theorem K.word {t s : List Nat} {ln i n : Nat} {q : Bool} {R : List W} (h : K t ln i R) (hi : i < t.length) (hc : t.getD i 0 ≠ 10) (ht : tok (t.getD i 0) (t.drop (i + 1)) = .word s n q) : K t ln (i + n) (R ++ [⟨s, ln, i + 1, q⟩]) := by
  have hn := (tok_word_le ht).2
  rw [List.length_drop] at hn
  refine ⟨by omega, ?_⟩
  rw [h.2, drop_cons hi, sp_word hc ht, ← drop_cons hi, List.drop_drop, show i + 1 + n = i + n + 1 from by omega]
theorem K.bad {t : List Nat} {ln i k o : Nat} {R : List W} (h : K t ln i R) (hi : i < t.length) (hc : t.getD i 0 ≠ 10) (ht : tok (t.getD i 0) (t.drop (i + 1)) = .bad k o) : sp t ln 1 [] = .bad k ln (i + 1 + o) := by
  rw [h.2, drop_cons hi, sp_bad hc ht]
theorem K.done {t : List Nat} {ln i : Nat} {R : List W} (h : K t ln i R) (hi : i = t.length) : sp t ln 1 [] = .ok (close R) := by
  rw [h.2, hi, List.drop_of_length_le (Nat.le_refl _), sp_nil]
/-- From a # on the line holds nothing. -/
theorem K.rest {t : List Nat} {ln i : Nat} {R : List W} (h : K t ln i R) (hi : i < t.length) (h10 : ∀ x ∈ t, x ≠ 10) (hc : t.getD i 0 = 35) : sp t ln 1 [] = .ok (close R) := by
  have hall : ((t.drop (i + 1)).takeWhile noNl).length = t.length - (i + 1) := by
    rw [takeWhile_all _ (fun x hx => by simp [noNl, h10 x (List.mem_of_mem_drop hx)]), List.length_drop]
  have ht : tok (t.getD i 0) (t.drop (i + 1)) = .skip (1 + (t.length - (i + 1))) := by rw [hc, tok_rest, hall]
  exact (h.skip hi (by omega) ht).done (by omega)
theorem K.blanks {t : List Nat} {ln i : Nat} {R : List W} : ∀ (d : Nat), K t ln i R → i + d ≤ t.length → (∀ y, i ≤ y → y < i + d → t.getD y 0 = 32 ∨ t.getD y 0 = 9) → K t ln (i + d) R
  | 0, h, _, _ => h
  | d + 1, h, hd, hb => by
    have h1 := K.blanks d h (by omega) fun y h2 h3 => hb y h2 (by omega)
    have hy := hb (i + d) (by omega) (by omega)
    exact h1.skip (n := 1) (by omega) (by omega) (tok_blank hy)
theorem tok_bad {c k o : Nat} {r : List Nat} (h : tok c r = .bad k o) : 1 ≤ k ∧ k ≤ 3 ∧ o ≤ r.length + 1 := by
  unfold tok at h
  split at h
  · cases h
  split at h
  · cases h
  split at h
  · cases h
  split at h
  · exact tokq_bad h
  split at h
  · injection h with h1 h2; omega
  split at h
  · injection h with h1 h2; omega
  · cases h
theorem takeWhile_where (p : Nat → Bool) : ∀ (r : List Nat) (k : Nat), k ≤ r.length → ((r.take k).takeWhile p).length = k ∨ p (r.getD ((r.take k).takeWhile p).length 0) = false
  | r, 0, _ => .inl rfl
  | [], k + 1, h => by simp at h
  | c :: r, k + 1, h => by
    rw [List.take_succ_cons]
    by_cases hc : p c = true
    · rw [List.takeWhile_cons_of_pos hc, List.length_cons, List.getD_cons_succ]
      rcases takeWhile_where p r k (by simpa using h) with h1 | h1
      · exact .inl (by omega)
      · exact .inr h1
    · rw [List.takeWhile_cons_of_neg hc]
      exact .inr (by simpa using hc)
/-- A text in quotes, by where the next quote is. -/
theorem tokq_open {r : List Nat} (h10 : ∀ x ∈ r, x ≠ 10) (h : ∀ y, y < r.length → r.getD y 0 ≠ 34) : tokq r = .bad 2 0 := by
  have hall : r.takeWhile inq = r := takeWhile_all _ fun x hx => by
    obtain ⟨y, hy, rfl⟩ := List.getElem_of_mem hx
    have h2 := h y hy
    rw [List.getD_eq_getElem?_getD, List.getElem?_eq_getElem hy] at h2
    have h3 := h10 _ (List.getElem_mem hy)
    simp only [Option.getD_some] at h2
    simp [inq, h2, h3]
  unfold tokq
  rw [hall, if_pos (.inl rfl)]
theorem tokq_shut {r : List Nat} {k m : Nat} (h10 : ∀ x ∈ r, x ≠ 10) (hk : k < r.length) (hq : r.getD k 0 = 34) (h : ∀ y, y < k → r.getD y 0 ≠ 34) (hmk : m ≤ k) (h3 : ∀ y, y < m → okq (r.getD y 0) = true) (h4 : m = k ∨ okq (r.getD m 0) = false) :
    tokq r = if 64 < k then .bad 3 0 else if m = k then .word (r.take k) (k + 2) true else .bad 1 (m + 1) := by
  have hs := quote_shut (b := 0 :: r) (i := 0) (k := k + 1) (m := m + 1) (by omega) (by rw [List.length_cons]; omega) (fun y h1 h2 => by
      obtain ⟨z, rfl⟩ : ∃ z, y = z + 1 := ⟨y - 1, by omega⟩
      rw [List.getD_cons_succ]
      have ha := h z (by omega)
      have hb : r.getD z 0 ≠ 10 := by
        rw [List.getD_eq_getElem?_getD, List.getElem?_eq_getElem (by omega)]
        exact h10 _ (List.getElem_mem _)
      simp only [inq, ne_eq, ha, hb, not_false_eq_true, decide_true, Bool.and_self]) (by rw [List.getD_cons_succ]; exact hq) (by omega) (by omega) (fun y h1 h2 => by
      obtain ⟨z, rfl⟩ : ∃ z, y = z + 1 := ⟨y - 1, by omega⟩
      rw [List.getD_cons_succ]
      exact h3 z (by omega)) (h4.elim (fun e => .inl (by omega)) (fun e => .inr (by rw [List.getD_cons_succ]; exact e)))
  rw [show List.drop (0 + 1) (0 :: r) = r from rfl, show k + 1 - (0 + 1) = k from by omega, show m + 1 - 0 = m + 1 from by omega] at hs
  rw [hs]
  simp only [Nat.add_right_cancel_iff]
end Go.Proofs.Ytemliglhippdcaa.Ln

/- Plain facts on where words stand. -/
namespace Go.Proofs.Ytemliglhippdcaa.Ln
set_option maxRecDepth 100000

theorem take_run (p : Nat → Bool) (r : List Nat) : r.take (r.takeWhile p).length = r.takeWhile p :=
  (List.prefix_iff_eq_take.1 (List.takeWhile_prefix p)).symm
theorem run_stop {p : Nat → Bool} : ∀ (r : List Nat), (r.takeWhile p).length < r.length → p (r.getD (r.takeWhile p).length 0) = false
  | [], h => by simp at h
  | c :: r, h => by
    by_cases hc : p c = true
    · rw [List.takeWhile_cons_of_pos hc, List.length_cons, List.length_cons] at h
      rw [List.takeWhile_cons_of_pos hc, List.length_cons, List.getD_cons_succ]
      exact run_stop r (by omega)
    · rw [List.takeWhile_cons_of_neg hc]
      simpa using hc
/-- A word's own bytes. -/
def own (t : List Nat) (q : Bool) : List Nat := if q then 34 :: (t ++ [34]) else t
theorem own_len (t : List Nat) (q : Bool) : (own t q).length = t.length + (if q then 2 else 0) := by
  cases q <;> simp [own]
theorem tok_text {c n : Nat} {r t : List Nat} {q : Bool} (h : tok c r = .word t n q) : (c :: r).take n = own t q ∧ n = (own t q).length ∧ 1 ≤ n ∧ n ≤ r.length + 1 := by
  unfold tok at h
  split at h
  · cases h
  split at h
  · cases h
  split at h
  · injection h with h1 h2 h3
    subst h1 h2 h3
    exact ⟨rfl, rfl, Nat.le_refl _, by omega⟩
  split at h
  · rename_i _ _ _ h34
    subst h34
    unfold tokq at h
    split at h
    · cases h
    · rename_i hne
      split at h
      · cases h
      · split at h
        · injection h with h1 h2 h3
          have hl := takeWhile_le inq r
          have hlt : (r.takeWhile inq).length < r.length := by
            rcases Nat.lt_or_ge (r.takeWhile inq).length r.length with h | h
            · exact h
            · exact absurd (.inl (by omega)) hne
          have hs := run_stop r hlt
          have h34 : r.getD (r.takeWhile inq).length 0 = 34 := by
            have h10 : r.getD (r.takeWhile inq).length 0 ≠ 10 := fun e => hne (.inr e)
            simp only [inq, Bool.and_eq_false_iff, decide_eq_false_iff_not, ne_eq, Classical.not_not] at hs
            rcases hs with hs | hs
            · exact hs
            · exact absurd hs h10
          subst h1 h2 h3
          refine ⟨?_, by rw [own_len]; rfl, by omega, by omega⟩
          rw [show (r.takeWhile inq).length + 2 = (r.takeWhile inq).length + 1 + 1 from rfl, List.take_succ_cons, List.take_add_one, take_run, List.getElem?_eq_getElem hlt]
          rw [List.getD_eq_getElem?_getD, List.getElem?_eq_getElem hlt] at h34
          rw [show r[(r.takeWhile inq).length] = 34 from h34]
          rfl
        · cases h
  split at h
  · cases h
  split at h
  · cases h
  · injection h with h1 h2 h3
    have hl := takeWhile_le plain r
    subst h1 h2 h3
    refine ⟨?_, by rw [own_len]; simp, by omega, by omega⟩
    rw [List.take_succ_cons, take_run]
    rfl
theorem tok_skip_le2 {c n : Nat} {r : List Nat} (h : tok c r = .skip n) : 1 ≤ n ∧ n ≤ r.length + 1 := by
  have hp := (@tok_pos c r).1 n h
  refine ⟨hp, ?_⟩
  have hl := takeWhile_le noNl r
  unfold tok at h
  split at h
  · injection h with h; omega
  split at h
  · injection h with h; omega
  split at h
  · cases h
  split at h
  · exact (tokq_skip h).elim
  split at h
  · cases h
  split at h <;> cases h
theorem run_getD {p : Nat → Bool} : ∀ (r : List Nat) (y : Nat), y < (r.takeWhile p).length → p (r.getD y 0) = true
  | [], y, h => by simp at h
  | c :: r, y, h => by
    by_cases hc : p c = true
    · rw [List.takeWhile_cons_of_pos hc, List.length_cons] at h
      cases y with
      | zero => simpa using hc
      | succ y => rw [List.getD_cons_succ]; exact run_getD r y (by omega)
    · rw [List.takeWhile_cons_of_neg hc] at h
      simp at h
/-- What a token takes holds no end of a line. -/
theorem tok_nl {c : Nat} {r : List Nat} {m : Nat} (h : tok c r = .skip m ∨ ∃ t q, tok c r = .word t m q) (y : Nat) (hy : y < m - 1) : r.getD y 0 ≠ 10 := by
  unfold tok tokq at h
  split at h
  · rcases h with h | ⟨t, q, h⟩
    · injection h with h; omega
    · cases h
  split at h
  · rcases h with h | ⟨t, q, h⟩
    · injection h with h
      have := run_getD (p := noNl) r y (by omega)
      simpa [noNl] using this
    · cases h
  split at h
  · rcases h with h | ⟨t, q, h⟩
    · cases h
    · injection h with _ h _; omega
  split at h
  · split at h
    · rcases h with h | ⟨t, q, h⟩ <;> cases h
    · rename_i hne
      split at h
      · rcases h with h | ⟨t, q, h⟩ <;> cases h
      · split at h
        · rcases h with h | ⟨t, q, h⟩
          · cases h
          · injection h with _ h _
            by_cases hy2 : y < (r.takeWhile inq).length
            · have := run_getD (p := inq) r y hy2
              simp [inq] at this
              exact this.2
            · have hy3 : y = (r.takeWhile inq).length := by omega
              intro e
              refine hne (.inr ?_)
              rw [← hy3, e]
        · rcases h with h | ⟨t, q, h⟩ <;> cases h
  split at h
  · rcases h with h | ⟨t, q, h⟩ <;> cases h
  split at h
  · rcases h with h | ⟨t, q, h⟩ <;> cases h
  · rcases h with h | ⟨t, q, h⟩
    · cases h
    · injection h with _ h _
      have := run_getD (p := plain) r y (by omega)
      intro e
      rw [e] at this
      exact absurd this (by decide)
theorem count_on {b : List Nat} {i m : Nat} (hi : i + m ≤ b.length) (h : ∀ y, i ≤ y → y < i + m → b.getD y 0 ≠ 10) : (b.take (i + m)).count 10 = (b.take i).count 10 := by
  rw [List.take_add, List.count_append]
  have : ((b.drop i).take m).count 10 = 0 := by
    rw [List.count_eq_zero]
    intro hm
    obtain ⟨y, hy, e⟩ := List.getElem_of_mem hm
    rw [List.length_take, List.length_drop] at hy
    rw [List.getElem_take, List.getElem_drop] at e
    refine h (i + y) (by omega) (by omega) ?_
    rw [List.getD_eq_getElem?_getD, List.getElem?_eq_getElem (by omega)]
    exact e
  omega
/-- Where a line begins. -/
def Start (b : List Nat) (ln fr : Nat) : Prop := fr ≤ b.length ∧ (b.take fr).count 10 + 1 = ln ∧ (fr = 0 ∨ b.getD (fr - 1) 0 = 10)
theorem start_one (b : List Nat) : Start b 1 0 := ⟨Nat.zero_le _, by simp, .inl rfl⟩
/-- Words that stand one behind the other, each where it is said. -/
def Pl (b : List Nat) : Nat → List W → Nat → Prop
  | lo, [], hi => lo ≤ hi
  | lo, x :: xs, hi => ∃ fr, Start b x.line fr ∧ 1 ≤ x.col ∧ lo ≤ fr + x.col - 1 ∧ fr + x.col - 1 + (own x.text x.q).length ≤ b.length ∧ 1 ≤ (own x.text x.q).length ∧ (b.drop (fr + x.col - 1)).take (own x.text x.q).length = own x.text x.q ∧ Pl b (fr + x.col - 1 + (own x.text x.q).length) xs hi
theorem Pl.more {b : List Nat} : ∀ {xs : List W} {lo hi hi' : Nat}, Pl b lo xs hi → hi ≤ hi' → Pl b lo xs hi'
  | [], _, _, _, h, h' => Nat.le_trans h h'
  | _ :: _, _, _, _, ⟨fr, a1, a2, a3, a4, a5, a6, h⟩, h' => ⟨fr, a1, a2, a3, a4, a5, a6, h.more h'⟩
theorem Pl.append {b : List Nat} : ∀ {xs ys : List W} {lo mid hi : Nat}, Pl b lo xs mid → Pl b mid ys hi → Pl b lo (xs ++ ys) hi
  | [], [], _, _, _, h, h' => Nat.le_trans h h'
  | [], _ :: _, _, _, _, h, ⟨fr, a1, a2, a3, a4, a5, a6, h'⟩ => ⟨fr, a1, a2, Nat.le_trans h a3, a4, a5, a6, h'⟩
  | _ :: _, _, _, _, _, ⟨fr, a1, a2, a3, a4, a5, a6, h⟩, h' => ⟨fr, a1, a2, a3, a4, a5, a6, h.append h'⟩
/-- A line that has words, all of one line. -/
def Row (R : List W) : Prop := R ≠ [] ∧ ∃ ln, ∀ x ∈ R, x.line = ln
theorem flat_close (row : List W) : (close row).flatten = row := by cases row <;> simp [close]
theorem row_close {row : List W} {ln : Nat} (h : ∀ x ∈ row, x.line = ln) : ∀ R ∈ close row, Row R := by
  intro R hR
  cases row with
  | nil => simp [close] at hR
  | cons x r =>
    simp only [close, List.mem_cons, List.not_mem_nil, or_false] at hR
    subst hR
    exact ⟨by simp, ln, h⟩
theorem sp_places (b : List Nat) : ∀ (n i ln fr : Nat) (row : List W) (lo mid : Nat) (LL : List (List W)), b.length - i ≤ n → i ≤ b.length → Start b ln fr → fr ≤ i → (b.take i).count 10 = (b.take fr).count 10 → Pl b lo row mid → mid ≤ i → (∀ x ∈ row, x.line = ln) →
    sp (b.drop i) ln (i - fr + 1) row = .ok LL → (∃ hi, Pl b lo LL.flatten hi ∧ hi ≤ b.length) ∧ ∀ R ∈ LL, Row R := by
  intro n
  induction n with
  | zero =>
    intro i ln fr row lo mid LL hn hi _ _ _ hp hm hl h
    rw [List.drop_of_length_le (by omega), sp_nil] at h
    injection h with h
    subst h
    rw [flat_close]
    exact ⟨⟨mid, hp, by omega⟩, row_close hl⟩
  | succ n ih =>
    intro i ln fr row lo mid LL hn hi hst hfr hc hp hm hl h
    rcases Nat.lt_or_ge i b.length with hib | hib
    · have hd := drop_cons hib
      obtain ⟨c, hcc⟩ : ∃ c, b.getD i 0 = c := ⟨_, rfl⟩
      rw [hd, hcc] at h
      have hrl : (b.drop (i + 1)).length = b.length - (i + 1) := List.length_drop
      by_cases h10 : c = 10
      · subst h10
        rw [sp_nl] at h
        cases hR : sp (b.drop (i + 1)) (ln + 1) 1 [] with
        | bad k l2 c2 => rw [hR] at h; cases h
        | ok L2 =>
          rw [hR] at h
          injection h with h
          subst h
          have hcnt : (b.take (i + 1)).count 10 = (b.take fr).count 10 + 1 := by
            rw [List.take_add_one, List.count_append, hc, List.getElem?_eq_getElem hib]
            rw [List.getD_eq_getElem?_getD, List.getElem?_eq_getElem hib] at hcc
            rw [show b[i] = 10 from hcc]
            rfl
          have hst2 : Start b (ln + 1) (i + 1) := ⟨hib, by rw [hcnt]; have := hst.2.1; omega, .inr (by rw [Nat.add_sub_cancel]; exact hcc)⟩
          have := ih (i + 1) (ln + 1) (i + 1) [] mid mid L2 (by omega) hib hst2 (Nat.le_refl _) rfl (Nat.le_refl mid) (by omega) (by simp) (by rw [Nat.sub_self]; exact hR)
          obtain ⟨⟨hi2, hp2, hb2⟩, hr2⟩ := this
          refine ⟨⟨hi2, ?_, hb2⟩, fun R hR => ?_⟩
          · rw [List.flatten_append, flat_close]
            exact hp.append hp2
          · rcases List.mem_append.1 hR with hR | hR
            · exact row_close hl R hR
            · exact hr2 R hR
      · have hcl : ∀ m, tok c (b.drop (i + 1)) = .skip m ∨ (∃ t q, tok c (b.drop (i + 1)) = .word t m q) → 1 ≤ m → ∀ y, i ≤ y → y < i + m → b.getD y 0 ≠ 10 := fun m hm h1 y hy hy2 => by
          rcases Nat.lt_or_ge i y with h3 | h3
          · have := tok_nl hm (y - (i + 1)) (by omega)
            rwa [drop_getD, show i + 1 + (y - (i + 1)) = y from by omega] at this
          · rw [show y = i from by omega, hcc]
            exact h10
        rcases ht : tok c (b.drop (i + 1)) with m | ⟨t, m, q⟩ | ⟨k, o⟩
        · obtain ⟨hm1, hm2⟩ := tok_skip_le2 ht
          rw [hrl] at hm2
          rw [sp_skip h10 ht, ← hcc, ← hd, List.drop_drop, show i - fr + 1 + m = i + m - fr + 1 from by omega] at h
          exact ih (i + m) ln fr row lo mid LL (by omega) (by omega) hst (by omega) (by rw [count_on (by omega) (hcl m (.inl ht) hm1), hc]) hp (by omega) hl h
        · obtain ⟨ht1, ht2, hm1, hm2⟩ := tok_text ht
          rw [hrl] at hm2
          rw [sp_word h10 ht] at h
          rw [← hcc, ← hd, List.drop_drop, show i - fr + 1 + m = i + m - fr + 1 from by omega] at h
          rw [← hcc, ← hd, ht2] at ht1
          have hpos : fr + (i - fr + 1) - 1 = i := by omega
          refine ih (i + m) ln fr (row ++ [⟨t, ln, i - fr + 1, q⟩]) lo (i + m) LL (by omega) (by omega) hst (by omega) (by rw [count_on (by omega) (hcl m (.inr ⟨t, q, ht⟩) hm1), hc]) (hp.append ?_) (Nat.le_refl _) ?_ h
          · refine ⟨fr, hst, Nat.succ_le_succ (Nat.zero_le _), ?_, ?_, ?_, ?_, ?_⟩
            · show mid ≤ fr + (i - fr + 1) - 1
              omega
            · show fr + (i - fr + 1) - 1 + (own t q).length ≤ b.length
              omega
            · show 1 ≤ (own t q).length
              omega
            · show (b.drop (fr + (i - fr + 1) - 1)).take (own t q).length = own t q
              rw [hpos]
              exact ht1
            · show fr + (i - fr + 1) - 1 + (own t q).length ≤ i + m
              omega
          · intro x hx
            rcases List.mem_append.1 hx with hx | hx
            · exact hl x hx
            · simp at hx
              rw [hx]
        · rw [sp_bad h10 ht] at h
          cases h
    · rw [List.drop_of_length_le (by omega), sp_nil] at h
      injection h with h
      subst h
      rw [flat_close]
      exact ⟨⟨mid, hp, by omega⟩, row_close hl⟩
/-- Each word of a text stands where it is said, one behind the other; each line has words, all of one line. -/
theorem places_is {b : List Nat} {LL : List (List W)} (h : split b = .ok LL) : (∃ hi, Pl b 0 LL.flatten hi ∧ hi ≤ b.length) ∧ ∀ R ∈ LL, Row R :=
  sp_places b b.length 0 1 0 [] 0 0 LL (by omega) (Nat.zero_le _) (start_one b) (Nat.le_refl _) rfl (Nat.le_refl 0) (Nat.le_refl _) (by simp) h
end Go.Proofs.Ytemliglhippdcaa.Ln
