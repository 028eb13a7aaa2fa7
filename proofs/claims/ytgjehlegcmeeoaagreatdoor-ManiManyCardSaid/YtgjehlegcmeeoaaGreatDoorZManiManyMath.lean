/- As many as may be, and one more: known texts, by the reader's plain answer. -/
import Derived.Test.YtgjehlegcmeeoaaGreatDoorZ00
namespace Go.Proofs.YtgjehlegcmeeoaaGreatDoor.My
set_option maxRecDepth 100000

/-- A text is told as it should be: it is a manifest, or is wrong where. -/
def manyOk (N most kd at_ : Nat) (T : List Nat) : Bool := T.all (fun c => decide (c < 256)) && decide (T.length ≤ 5000) && match Mo.parse T with
  | .ok _ => decide (N ≤ most)
  | .bad e => decide (most < N) && decide (e.k = kd) && decide (e.line = if kd = 11 then 65 else 1) && decide (e.col = at_) && decide (kd ≠ 0)
def word (i : Nat) : List Nat := [32, 110] ++ Nm.dec i
/-- So many times, one behind the other. -/
def rep (f : Nat → List Nat) : Nat → List Nat
  | 0 => []
  | n + 1 => rep f n ++ f n
def rule : List Nat := [114, 117, 108, 101]
def body (i : Nat) : List Nat := rule ++ word i ++ [32, 58, 32, 61, 32, 97, 108, 108]
def t0 (n : Nat) : List Nat := rep (fun i => rule ++ word i ++ [32, 58, 32, 61, 32, 97, 108, 108, 10]) n
def t1 (n : Nat) : List Nat := rule ++ rep word n ++ [32, 58, 32, 61] ++ (rep (fun _ => [32, 44, 32, 97, 108, 108]) n).drop 2 ++ [10]
def t2 (n : Nat) : List Nat := [114, 117, 108, 101, 32, 97, 32, 58] ++ rep (fun _ => [32, 98]) n ++ [32, 61, 32, 97, 108, 108, 10]
def t3 (n : Nat) : List Nat := [114, 117, 108, 101, 32, 97, 32, 58, 32, 124] ++ rep (fun _ => [32, 98]) n ++ [32, 61, 32, 97, 108, 108, 10]
def t4 (n : Nat) : List Nat := [108, 101, 116, 32, 118, 32, 61] ++ rep (fun _ => [32, 59]) n ++ [10]
def t5 (n : Nat) : List Nat := [100, 101, 102, 97, 117, 108, 116] ++ rep (fun _ => [32, 97]) n ++ [10, 114, 117, 108, 101, 32, 97, 32, 58, 32, 61, 32, 97, 108, 108, 10]
theorem all_range {n : Nat} {p : Nat → Bool} (h : (List.range n).all p = true) {k : Nat} (hk : k < n) : p k = true := List.all_eq_true.1 h k (List.mem_range.2 hk)
theorem all1 : (List.range 9).all (fun n => n == 0 || manyOk n 4 7 18 (t1 n)) = true := by decide +kernel
theorem all2 : (List.range 16).all (fun n => manyOk n 8 7 26 (t2 n)) = true := by decide +kernel
theorem all3 : (List.range 16).all (fun n => manyOk n 8 7 28 (t3 n)) = true := by decide +kernel
theorem all4 : (List.range 32).all (fun n => manyOk n 16 7 41 (t4 n)) = true := by decide +kernel
theorem all5 : (List.range 17).all (fun n => n == 0 || manyOk n 8 7 25 (t5 n)) = true := by decide +kernel
/-- A rule's line, as words. -/
def name (i : Nat) : List Nat := 110 :: Nm.dec i
def row (i : Nat) : List Ln.W := [⟨rule, i + 1, 1, false⟩, ⟨name i, i + 1, 6, false⟩, ⟨[58], i + 1, 6 + (name i).length + 1, false⟩, ⟨[61], i + 1, 6 + (name i).length + 3, false⟩, ⟨[97, 108, 108], i + 1, 6 + (name i).length + 5, false⟩]
instance decW : DecidableEq Ln.W := fun a b => decidable_of_iff (a.text = b.text ∧ a.line = b.line ∧ a.col = b.col ∧ a.q = b.q) ⟨fun ⟨h1, h2, h3, h4⟩ => by cases a; cases b; simp_all, fun h => by subst h; exact ⟨rfl, rfl, rfl, rfl⟩⟩
def okRow (i : Nat) : Bool := (body i).all (fun c => decide (c ≠ 10) && decide (c < 256)) && decide ((body i).length ≤ 30) && match Ln.sp (body i) (i + 1) 1 [] with
  | .ok LL => decide (LL = [row i])
  | _ => false
theorem rows_ok : (List.range 128).all okRow = true := by decide +kernel
theorem row_is {i : Nat} (h : i < 128) : (∀ c ∈ body i, c ≠ 10 ∧ c < 256) ∧ (body i).length ≤ 30 ∧ Ln.sp (body i) (i + 1) 1 [] = .ok [row i] := by
  have := all_range rows_ok h
  unfold okRow at this
  simp only [Bool.and_eq_true_iff, decide_eq_true_eq] at this
  obtain ⟨⟨h1, h2⟩, h3⟩ := this
  refine ⟨fun c hc => by simpa using List.all_eq_true.1 h1 c hc, h2, ?_⟩
  rcases hs : Ln.sp (body i) (i + 1) 1 [] with LL | ⟨a, b, c⟩
  · rw [hs] at h3
    rw [of_decide_eq_true h3]
  · rw [hs] at h3
    cases h3
def lineB (i : Nat) : List Nat := body i ++ [10]
theorem t0_is (n : Nat) : t0 n = rep lineB n := by
  unfold t0 lineB body
  congr 1
  funext i
  simp
/-- The lines from one on. -/
def from_ (k : Nat) : Nat → List Nat
  | 0 => []
  | m + 1 => lineB k ++ from_ (k + 1) m
def rowsFrom (k : Nat) : Nat → List (List Ln.W)
  | 0 => []
  | m + 1 => row k :: rowsFrom (k + 1) m
theorem from_snoc : ∀ (m k : Nat), from_ k (m + 1) = from_ k m ++ lineB (k + m)
  | 0, k => by simp [from_]
  | m + 1, k => by
    rw [from_, from_snoc m (k + 1), ← List.append_assoc]
    congr 2
    omega
theorem rep_from : ∀ n, rep lineB n = from_ 0 n
  | 0 => rfl
  | n + 1 => by rw [rep, rep_from n, from_snoc, Nat.zero_add]
theorem split_from : ∀ (m k : Nat), k + m ≤ 128 → Ln.sp (from_ k m) (k + 1) 1 [] = .ok (rowsFrom k m)
  | 0, k, _ => rfl
  | m + 1, k, h => by
    obtain ⟨h1, _, h3⟩ := row_is (i := k) (by omega)
    rw [from_, lineB, List.append_assoc, List.singleton_append, Ln.sp_first _ _ (fun x hx => (h1 x hx).1), h3]
    have := split_from m (k + 1) (by omega)
    show Ln.Res.pre [row k] (Ln.sp (from_ (k + 1) m) (k + 1 + 1) 1 []) = _
    rw [this]
    rfl
theorem split_t0 {n : Nat} (h : n ≤ 128) : Ln.split (t0 n) = .ok (rowsFrom 0 n) := by
  rw [t0_is, rep_from]
  exact split_from n 0 (by omega)
theorem from_len : ∀ (m k : Nat), k + m ≤ 128 → (from_ k m).length ≤ 31 * m ∧ ∀ c ∈ from_ k m, c < 256
  | 0, k, _ => by simp [from_]
  | m + 1, k, h => by
    obtain ⟨h1, h2, _⟩ := row_is (i := k) (by omega)
    obtain ⟨h3, h4⟩ := from_len m (k + 1) (by omega)
    refine ⟨by simp only [from_, lineB, List.length_append, List.length_cons, List.length_nil]; omega, fun c hc => ?_⟩
    rcases List.mem_append.1 hc with hc | hc
    · rcases List.mem_append.1 hc with hc | hc
      · exact (h1 c hc).2
      · rw [List.mem_singleton] at hc
        omega
    · exact h4 c hc
theorem lines_append : ∀ (A B : List (List Ln.W)) (s : Mo.S), s.e.k = 0 → Mo.lines s (A ++ B) = if (Mo.lines s A).e.k ≠ 0 then Mo.lines s A else Mo.lines (Mo.lines s A) B
  | [], B, s, h => by
    rw [List.nil_append, Mo.lines, if_neg (by omega)]
  | l :: A, B, s, h => by
    rw [List.cons_append, Mo.lines, Mo.lines]
    by_cases hz : (Mo.line s l).e.k ≠ 0
    · rw [if_pos hz, if_pos hz, if_pos hz]
    · rw [if_neg hz, if_neg hz]
      exact lines_append A B _ (by omega)
theorem rowsFrom_app : ∀ (m k j : Nat), rowsFrom k (m + j) = rowsFrom k m ++ rowsFrom (k + m) j
  | 0, k, j => by rw [Nat.zero_add]; rfl
  | m + 1, k, j => by
    rw [show m + 1 + j = (m + j) + 1 from by omega, rowsFrom, rowsFrom, List.cons_append, rowsFrom_app m (k + 1) j]
    congr 3
    omega
def fin (s : Mo.S) : Bool := decide (s.e.k = 0) && decide (s.chosen = []) && s.rules.all fun r => decide (r.ins = []) && decide (r.order = [])
def chk : Nat → Nat → Mo.S → Bool
  | 0, i, s => fin s && decide ((Mo.line s (row i)).e = ⟨11, 65, 1⟩)
  | m + 1, i, s => fin s && chk m (i + 1) (Mo.line s (row i))
theorem chk64 : chk 64 0 Mo.start = true := by decide +kernel
theorem chk_fin : ∀ (m j i : Nat) (s : Mo.S), chk m i s = true → j ≤ m → fin (Mo.lines s (rowsFrom i j)) = true ∧ (j = m → (Mo.line (Mo.lines s (rowsFrom i j)) (row (i + j))).e = ⟨11, 65, 1⟩)
  | 0, j, i, s, h, hj => by
    obtain rfl : j = 0 := by omega
    rw [chk, Bool.and_eq_true_iff] at h
    exact ⟨h.1, fun _ => of_decide_eq_true h.2⟩
  | m + 1, 0, i, s, h, hj => by
    rw [chk, Bool.and_eq_true_iff] at h
    exact ⟨h.1, fun e => by omega⟩
  | m + 1, j + 1, i, s, h, hj => by
    rw [chk, Bool.and_eq_true_iff] at h
    obtain ⟨h1, h2⟩ := chk_fin m j (i + 1) _ h.2 (by omega)
    have hz : (Mo.line s (row i)).e.k = 0 := by
      have : fin (Mo.line s (row i)) = true := by
        have := (chk_fin m 0 (i + 1) _ h.2 (by omega)).1
        exact this
      unfold fin at this
      simp only [Bool.and_eq_true_iff, decide_eq_true_eq] at this
      exact this.1.1
    rw [rowsFrom, Mo.lines, if_neg (by omega)]
    refine ⟨h1, fun e => ?_⟩
    rw [show i + (j + 1) = i + 1 + j from by omega]
    exact h2 (by omega)
/-- Rules that need nothing lead nowhere round. -/
theorem way_free (s : Mo.S) : ∀ (l : List Mn.Rule) (i : Nat) (free : List Bool), (∀ r ∈ l, r.ins = [] ∧ r.order = []) → i + l.length ≤ free.length →
    (Mo.way s l i free).length = free.length ∧ ∀ j, (i ≤ j ∧ j < i + l.length → (Mo.way s l i free).getD j false = true) ∧ (¬ (i ≤ j ∧ j < i + l.length) → (Mo.way s l i free).getD j false = free.getD j false)
  | [], i, free, _, _ => ⟨rfl, fun j => ⟨fun h => by simp at h; omega, fun _ => rfl⟩⟩
  | r :: l, i, free, hr, hl => by
    obtain ⟨e1, e2⟩ := hr r (by simp)
    rw [List.length_cons] at hl
    have hset : free.set i (!(r.ins.any (Mo.waits s free)) && !(r.order.any (Mo.waits s free))) = free.set i true := by rw [e1, e2]; rfl
    obtain ⟨h1, h2⟩ := way_free s l (i + 1) (free.set i true) (fun x hx => hr x (by simp [hx])) (by rw [List.length_set]; omega)
    rw [Mo.way, hset]
    refine ⟨by rw [h1, List.length_set], fun j => ?_⟩
    rw [List.length_cons]
    obtain ⟨h3, h4⟩ := h2 j
    by_cases hj : j = i
    · subst hj
      refine ⟨fun _ => ?_, fun h => absurd ⟨Nat.le_refl _, by omega⟩ h⟩
      rw [h4 (by omega)]
      simp [List.getD_eq_getElem?_getD, show j < free.length by omega]
    · refine ⟨fun h => h3 (by omega), fun h => ?_⟩
      rw [h4 (by omega)]
      simp [List.getD_eq_getElem?_getD, Ne.symm hj]
theorem round_no {s : Mo.S} (h : ∀ r ∈ s.rules, r.ins = [] ∧ r.order = []) : Mo.round s = false := by
  have hw : ∀ (n : Nat) (free : List Bool), free.length = s.rules.length → (Mo.ways s n free).length = s.rules.length ∧ ((n ≠ 0 ∨ ∀ j, j < s.rules.length → free.getD j false = true) → ∀ j, j < s.rules.length → (Mo.ways s n free).getD j false = true) := by
    intro n
    induction n with
    | zero => exact fun free hf => ⟨hf, fun h => h.resolve_left (by simp)⟩
    | succ n ih =>
      intro free hf
      obtain ⟨h1, h2⟩ := way_free s s.rules 0 free h (by omega)
      obtain ⟨h3, h4⟩ := ih (Mo.way s s.rules 0 free) (by rw [h1, hf])
      exact ⟨h3, fun _ => h4 (.inr fun j hj => (h2 j).1 (by omega))⟩
  unfold Mo.round
  obtain ⟨h1, h2⟩ := hw s.rules.length (List.replicate s.rules.length false) (by simp)
  rcases Nat.eq_zero_or_pos s.rules.length with h0 | h0
  · rw [h0]
    rfl
  · have h3 := h2 (.inl (by omega))
    rw [List.contains_eq_any_beq, Bool.eq_false_iff]
    intro hc
    obtain ⟨x, hx, hb⟩ := List.any_eq_true.1 hc
    obtain ⟨j, hj, rfl⟩ := List.getElem_of_mem hx
    have := h3 j (by omega)
    rw [List.getD_eq_getElem?_getD, List.getElem?_eq_getElem hj, Option.getD_some] at this
    rw [this] at hb
    cases hb
theorem many0 {n : Nat} (h : n < 128) : manyOk n 64 11 1 (t0 n) = true := by
  obtain ⟨hl, hb⟩ := from_len n 0 (by omega)
  have hsp := split_t0 (n := n) (by omega)
  have hb2 : (t0 n).all (fun c => decide (c < 256)) = true := List.all_eq_true.2 fun c hc => decide_eq_true (hb c (by rw [t0_is, rep_from] at hc; exact hc))
  have hl2 : decide ((t0 n).length ≤ 5000) = true := decide_eq_true (by rw [t0_is, rep_from]; omega)
  unfold manyOk
  rw [hb2, hl2, Bool.true_and, Bool.true_and]
  unfold Mo.parse
  rw [hsp]
  dsimp only
  by_cases hn : n ≤ 64
  · obtain ⟨hf, _⟩ := chk_fin 64 n 0 Mo.start chk64 hn
    have hrd : Mo.read (rowsFrom 0 n) = Mo.lines Mo.start (rowsFrom 0 n) := by
      unfold fin at hf
      simp only [Bool.and_eq_true_iff, decide_eq_true_eq] at hf
      obtain ⟨⟨h1, h2⟩, h3⟩ := hf
      unfold Mo.read
      dsimp only
      have hu : Mo.unmade (Mo.lines Mo.start (rowsFrom 0 n)) = Mo.lines Mo.start (rowsFrom 0 n) := by
        unfold Mo.unmade
        rw [h2]
        rfl
      rw [if_neg (by omega), hu, round_no (fun r hr => by simpa using List.all_eq_true.1 h3 r hr)]
      rfl
    unfold fin at hf
    simp only [Bool.and_eq_true_iff, decide_eq_true_eq] at hf
    rw [hrd, if_neg (by omega)]
    exact decide_eq_true hn
  · obtain ⟨hf, he⟩ := chk_fin 64 64 0 Mo.start chk64 (Nat.le_refl _)
    have he := he rfl
    have hz : (Mo.lines Mo.start (rowsFrom 0 64)).e.k = 0 := by
      unfold fin at hf
      simp only [Bool.and_eq_true_iff, decide_eq_true_eq] at hf
      exact hf.1.1
    rw [Nat.zero_add] at he
    have hlast : ∀ (X : List (List Ln.W)) (S : Mo.S), (Mo.line S (row 64)).e = ⟨11, 65, 1⟩ → Mo.lines S (row 64 :: X) = Mo.line S (row 64) := fun X S h => by
      rw [Mo.lines, if_pos (by rw [h]; decide)]
    have hL : Mo.lines Mo.start (rowsFrom 0 n) = Mo.line (Mo.lines Mo.start (rowsFrom 0 64)) (row 64) := by
      have e1 : rowsFrom 0 n = rowsFrom 0 64 ++ row 64 :: rowsFrom 65 (n - 65) := by
        have := rowsFrom_app 64 0 ((n - 65) + 1)
        rw [show 64 + ((n - 65) + 1) = n from by omega] at this
        rw [this]
        rfl
      rw [e1, lines_append _ _ _ rfl, if_neg (by omega), hlast _ _ he]
    have hrd : Mo.read (rowsFrom 0 n) = Mo.line (Mo.lines Mo.start (rowsFrom 0 64)) (row 64) := by
      unfold Mo.read
      dsimp only
      rw [hL, if_pos (by rw [he]; decide)]
    rw [hrd, he]
    simp
    omega
end Go.Proofs.YtgjehlegcmeeoaaGreatDoor.My
