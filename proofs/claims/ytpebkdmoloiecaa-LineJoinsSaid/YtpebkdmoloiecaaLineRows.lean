/- Rows of words that are written; one row of rows appended to another. -/
import Derived.Test.YtpebkdmoloiecaaLineAwake
import Derived.Test.YtpebkdmoloiecaaLinePlaceMath
import Derived.Test.YtpebkdmoloiecaaLineJoinMath
import Derived.Laws.OwnMore
namespace Go.Proofs.Ytpebkdmoloiecaa
open Go.ChangeShapes Go.WideShapes Go.ChangeAt Go.RowKit

theorem Ln.sp_bad_pos : ∀ (n : Nat) (l : List Nat) (ln col : Nat) (row : List Ln.W) (k a b : Nat), l.length ≤ n → Ln.sp l ln col row = .bad k a b → 1 ≤ k ∧ a ≤ ln + l.length := by
  intro n
  induction n with
  | zero =>
    intro l ln col row k a b h hb
    obtain rfl := List.length_eq_zero_iff.1 (Nat.le_zero.1 h)
    rw [Ln.sp_nil] at hb
    cases hb
  | succ n ih =>
    intro l ln col row k a b h hb
    cases l with
    | nil =>
      rw [Ln.sp_nil] at hb
      cases hb
    | cons c r =>
      rw [List.length_cons] at h ⊢
      by_cases hc : c = 10
      · subst hc
        rw [Ln.sp_nl] at hb
        rcases hs : Ln.sp r (ln + 1) 1 [] with LL | ⟨k', a', b'⟩
        · rw [hs] at hb; cases hb
        · rw [hs] at hb
          injection hb with h1 h2 h3
          subst h1 h2 h3
          have := ih r (ln + 1) 1 [] _ _ _ (by omega) hs
          omega
      · rcases ht : Ln.tok c r with m | ⟨t, m, q⟩ | ⟨kd, o⟩
        · obtain ⟨h1, h2⟩ := Ln.tok_skip_le ht
          rw [Ln.sp_skip hc ht] at hb
          have := ih _ _ _ _ _ _ _ (by rw [List.length_drop, List.length_cons]; omega) hb
          rw [List.length_drop, List.length_cons] at this
          omega
        · obtain ⟨h1, h2⟩ := Ln.tok_word_le ht
          rw [Ln.sp_word hc ht] at hb
          have := ih _ _ _ _ _ _ _ (by rw [List.length_drop, List.length_cons]; omega) hb
          rw [List.length_drop, List.length_cons] at this
          omega
        · rw [Ln.sp_bad hc ht] at hb
          injection hb with h1 h2 h3
          have := Ln.tok_bad ht
          omega
theorem Ln.split_bad_pos {l : List Nat} {k a b : Nat} (h : Ln.split l = .bad k a b) : 1 ≤ k ∧ a ≤ l.length + 1 := by
  have := Ln.sp_bad_pos l.length l 1 1 [] k a b (Nat.le_refl _) h
  omega
theorem Ln.Pl.lines {b : List Nat} : ∀ {xs : List Ln.W} {lo hi : Nat}, Ln.Pl b lo xs hi → ∀ x ∈ xs, x.line ≤ b.length + 1
  | [], _, _, _, x, hx => absurd hx (by simp)
  | y :: xs, _, _, ⟨fr, h1, _, _, _, _, _, h⟩, x, hx => by
    rcases List.mem_cons.1 hx with rfl | hx
    · have h2 := List.count_le_length (a := 10) (l := b.take fr)
      rw [List.length_take] at h2
      have := h1.2.1
      omega
    · exact Ln.Pl.lines h x hx
/-- The lines of a text's words are not beyond it. -/
theorem Ln.lines_small {b : List Nat} {LL : List (List Ln.W)} (h : Ln.split b = .ok LL) : ∀ R ∈ LL, ∀ x ∈ R, x.line ≤ b.length + 1 := by
  obtain ⟨⟨hi, hp, _⟩, _⟩ := Ln.places_is h
  exact fun R hR x hx => hp.lines x (List.mem_flatten.2 ⟨R, hR, hx⟩)

theorem Ln.Pl.few {b : List Nat} : ∀ {xs : List Ln.W} {lo hi : Nat}, Ln.Pl b lo xs hi → lo + xs.length ≤ hi
  | [], _, _, h => h
  | y :: xs, _, _, ⟨fr, _, _, h3, _, h5, _, h⟩ => by
    have := Ln.Pl.few h
    rw [List.length_cons]
    omega
theorem flat_few : ∀ {LL : List (List Ln.W)}, (∀ R ∈ LL, Ln.Row R) → LL.length ≤ LL.flatten.length
  | [], _ => Nat.zero_le _
  | R :: LL, h => by
    have h1 := flat_few (LL := LL) fun R hR => h R (by simp [hR])
    have h2 : 0 < R.length := by
      have := (h R (by simp)).1
      cases R with
      | nil => exact absurd rfl this
      | cons => simp
    rw [List.length_cons, List.flatten_cons, List.length_append]
    omega
/-- A text has not more lines than bytes. -/
theorem Ln.lines_few {b : List Nat} {LL : List (List Ln.W)} (h : Ln.split b = .ok LL) : LL.length ≤ b.length := by
  obtain ⟨⟨hi, hp, hh⟩, hr⟩ := Ln.places_is h
  have h1 := hp.few
  have h2 := flat_few hr
  omega
theorem ownsRow_same {w w' : World} {base : Nat} {e : TypeId} {size : Nat} {v : Value} {n : Nat} {xs : List Value} (h : w.ownsRow base e size v n xs) (hk : ∀ k, v.ownBlock = some k → w'.heap[k]? = w.heap[k]?) : w'.ownsRow base e size v n xs := by
  refine ⟨h.1, ?_⟩
  rcases h.2 with h2 | ⟨g, cap, cur, rfl, hb, hg, rest⟩
  · exact .inl h2
  · exact .inr ⟨g, cap, cur, rfl, hb, (hk g rfl).trans hg, rest⟩
theorem rowW_set : ∀ (L : List Ln.W) (k x : Nat) (h : k < L.length), (rowW L).set (k * 4 + 1) (.int .i64 (x : Int)) = rowW (L.set k { L[k]'h with line := x })
  | y :: L, 0, x, _ => rfl
  | y :: L, k + 1, x, h => by
    have h' : k < L.length := by simpa using h
    rw [show (k + 1) * 4 + 1 = k * 4 + 1 + 1 + 1 + 1 + 1 from by omega]
    have := rowW_set L k x h'
    show cellsW y ++ (rowW L).set (k * 4 + 1) _ = cellsW y ++ rowW (L.set k _)
    rw [this]
    rfl
theorem OwnW.write {w : World} {base : Nat} {A : Option Addr} {n c : Nat} {L : List Ln.W} (h : OwnW w base (.slice A n c) L) (k : Nat) (hk : k < L.length) :
    ∃ g, A = some ⟨g, 0, none⟩ ∧ base ≤ g ∧ w.cell? ⟨g, k * 4 + 1, none⟩ = some (.int .i64 ((L[k]'hk).line : Int)) ∧ w.frozen? ⟨g, k * 4 + 1, none⟩ = false ∧ ∀ x : Nat, OwnW (w.setCell ⟨g, k * 4 + 1, none⟩ (.int .i64 (x : Int))) base (.slice A n c) (L.set k { L[k]'hk with line := x }) := by
  have h' := h
  rcases h.2 with ⟨e, h0⟩ | ⟨g, cap, cur, e, hb, hg, hn, hm, hs, ht⟩
  · omega
  · injection e with e1 e2 e3
    subst e1 e2 e3
    refine ⟨g, rfl, hb, ?_, ?_, fun x => ?_⟩
    · rw [World.ownsRow.cellAt h' (k * 4 + 1) (by omega), rowW_at L k 1 hk (by omega)]
      rfl
    · exact World.ownsRow.frozenAt h' _
    · have := (World.ownsRow.stored h' (k * 4 + 1) (.int .i64 (x : Int))).1
      rw [rowW_set L k x hk] at this
      unfold OwnW
      rw [List.length_set]
      exact this
/-- Rows of words, all made between two places, apart from one another: the rows' slices are known. -/
def Ys (w : World) (lo hi : Nat) (v : Value) (us : List Value) (LL : List (List Ln.W)) : Prop :=
  us.length = LL.length ∧ w.ownsRow lo 32 1 v LL.length us ∧ (∀ x ∈ us, x.oneCell' = true) ∧ (∀ i, i < LL.length → OwnW w lo (us.getD i undef) (LL.getD i [])) ∧
    (∀ i j, i < j → j < LL.length → (us.getD i undef).ownBlock = none ∨ (us.getD i undef).ownBlock ≠ (us.getD j undef).ownBlock) ∧ (∀ i, i < LL.length → Between lo hi (us.getD i undef)) ∧ Between lo hi v
theorem St.ys {w : World} {base : Nat} {v u : Value} {LL : List (List Ln.W)} {R : List Ln.W} (h : St w base v LL u R) : ∃ us, Ys w base w.heap.size v us LL := by
  obtain ⟨us, h1, h2, h3, h4, h5, _, _⟩ := h
  exact ⟨us, h1, h2, h3, h4, h5, fun i hi => (h4 i hi).lt, fun k hk => World.ownsRow.lt h2 k hk⟩
theorem Ys.same {w w' : World} {lo hi : Nat} {v : Value} {us : List Value} {LL : List (List Ln.W)} (h : Ys w lo hi v us LL) (hk : ∀ k, lo ≤ k → k < hi → w'.heap[k]? = w.heap[k]?) : Ys w' lo hi v us LL := by
  obtain ⟨h1, h2, h3, h4, h5, h6, h7⟩ := h
  exact ⟨h1, ownsRow_same h2 fun k e => hk k (h7 k e).1 (h7 k e).2, h3, fun i hi => ownsRow_same (h4 i hi) fun k e => hk k (h6 i hi k e).1 (h6 i hi k e).2, h5, h6, h7⟩
theorem Ys.rd {w : World} {lo hi : Nat} {v : Value} {us : List Value} {LL : List (List Ln.W)} (h : Ys w lo hi v us LL) : RdL w v LL := by
  obtain ⟨h1, h2, h3, h4, h5, h6, h7⟩ := h
  have h8 : St w lo v LL (.slice none 0 0) [] := ⟨us, h1, h2, h3, h4, h5, ownW_none w lo, fun i _ => by
    cases (us.getD i undef).ownBlock with
    | none => exact .inl rfl
    | some k => exact .inr (by simp [Value.ownBlock])⟩
  exact h8.rd
theorem getD_set' {α : Type} (l : List α) (i k : Nat) (x d : α) : (l.set i x).getD k d = if i = k ∧ i < l.length then x else l.getD k d := by
  simp only [List.getD_eq_getElem?_getD, List.getElem?_set]
  by_cases h : i = k
  · subst h
    by_cases hi : i < l.length
    · simp [hi]
    · simp [hi]
  · simp [h]
/-- A row's slice, where it lies, and what it means to write a word's line. -/
theorem Ys.row {w : World} {lo hi : Nat} {A : Option Addr} {n c : Nat} {us : List Value} {LL : List (List Ln.W)} (h : Ys w lo hi (.slice A n c) us LL) (i : Nat) (hi : i < LL.length) :
    ∃ g0 B d, A = some ⟨g0, 0, none⟩ ∧ w.cell? ⟨g0, i, none⟩ = some (.slice B (LL.getD i []).length d) ∧ (LL.getD i []).length ≤ d ∧ (LL.getD i []).length ≤ maxLen ∧ us.getD i undef = .slice B (LL.getD i []).length d := by
  obtain ⟨h1, h2, h3, h4, h5, h6, h7⟩ := h
  have h2' := h2
  obtain ⟨_, _, _, _, hm, _⟩ := (h4 i hi).rd
  rcases h2.2 with ⟨e, h0⟩ | ⟨g, cap, cur, e, _⟩
  · omega
  · injection e with e1 e2 e3
    subst e1 e2 e3
    obtain ⟨B, d, e, hd⟩ := (h4 i hi).parts
    refine ⟨g, B, d, rfl, ?_, hd, hm, e⟩
    rw [World.ownsRow.cellAt h2' i (by omega), ← e, List.getD_eq_getElem?_getD, List.getElem?_eq_getElem (by omega)]
    rfl
theorem Ys.write {w : World} {lo hi : Nat} {v : Value} {us : List Value} {LL : List (List Ln.W)} (h : Ys w lo hi v us LL) {i : Nat} {B : Option Addr} {d : Nat} (hiL : i < LL.length) (he : us.getD i undef = .slice B (LL.getD i []).length d) (k : Nat) (hk : k < (LL.getD i []).length) :
    ∃ g, B = some ⟨g, 0, none⟩ ∧ lo ≤ g ∧ g < hi ∧ w.cell? ⟨g, k * 4 + 1, none⟩ = some (.int .i64 (((LL.getD i [])[k]'hk).line : Int)) ∧ w.frozen? ⟨g, k * 4 + 1, none⟩ = false ∧
      ∀ x : Nat, Ys (w.setCell ⟨g, k * 4 + 1, none⟩ (.int .i64 (x : Int))) lo hi v us (LL.set i ((LL.getD i []).set k { (LL.getD i [])[k]'hk with line := x })) := by
  obtain ⟨h1, h2, h3, h4, h5, h6, h7⟩ := h
  have hrow := h4 i hiL
  have hbt := h6 i hiL
  rw [he] at hrow hbt
  obtain ⟨g, rfl, hg1, hg2, hg3, hg4⟩ := hrow.write k hk
  have hg := hbt g rfl
  refine ⟨g, rfl, hg.1, hg.2, hg2, hg3, fun x => ?_⟩
  have hot : ∀ j, j ≠ g → (w.setCell ⟨g, k * 4 + 1, none⟩ (.int .i64 (x : Int))).heap[j]? = w.heap[j]? := fun j hj => Below.heap_setCell w _ _ j hj
  refine ⟨by rw [List.length_set]; exact h1, ?_, h3, fun j hj => ?_, fun a b hab hb => ?_, fun j hj => ?_, h7⟩
  · rw [List.length_set]
    refine ownsRow_same h2 fun j e => hot j fun ej => ?_
    have hap := ownW_apart hrow h2
    rcases hap with hap | hap
    · cases hap
    · exact hap (by rw [e, ej]; rfl)
  · rw [List.length_set] at hj
    rw [getD_set']
    by_cases hij : i = j
    · subst hij
      rw [if_pos ⟨rfl, hiL⟩, he]
      exact hg4 x
    · rw [if_neg (fun h => hij h.1)]
      refine ownsRow_same (h4 j hj) fun b e => hot b fun eb => ?_
      subst eb
      rcases Nat.lt_or_ge i j with hlt | hge
      · rcases h5 i j hlt hj with h | h
        · rw [he] at h; cases h
        · exact h (by rw [he, e]; rfl)
      · rcases h5 j i (by omega) hiL with h | h
        · rw [e] at h; cases h
        · exact h (by rw [he, e]; rfl)
  · rw [List.length_set] at hb
    exact h5 a b hab hb
  · rw [List.length_set] at hj
    exact h6 j hj
/-- So far the lines of the words are those further down. -/
def Half (n : Nat) (LL LL' : List (List Ln.W)) (i k : Nat) : Prop :=
  LL'.length = LL.length ∧ ∀ a, a < LL.length → (LL'.getD a []).length = (LL.getD a []).length ∧ ∀ b, b < (LL.getD a []).length → (LL'.getD a [])[b]? = ((LL.getD a [])[b]?).map fun x => if a < i ∨ (a = i ∧ b < k) then Ln.up n x else x
theorem half_start (n : Nat) (LL : List (List Ln.W)) : Half n LL LL 0 0 := ⟨rfl, fun a _ => ⟨rfl, fun b _ => by
  rw [show (fun x : Ln.W => if a < 0 ∨ (a = 0 ∧ b < 0) then Ln.up n x else x) = fun x => x from by funext x; rw [if_neg (by omega)]]
  simp⟩⟩
theorem Half.next {n : Nat} {LL LL' : List (List Ln.W)} {i k : Nat} (h : Half n LL LL' i k) (hk : (LL.getD i []).length ≤ k) : Half n LL LL' (i + 1) 0 := by
  refine ⟨h.1, fun a ha => ⟨(h.2 a ha).1, fun b hb => ?_⟩⟩
  rw [(h.2 a ha).2 b hb]
  congr 1
  funext x
  have : (a < i ∨ (a = i ∧ b < k)) ↔ (a < i + 1 ∨ (a = i + 1 ∧ b < 0)) := by
    constructor
    · rintro (h | h) <;> omega
    · rintro (h | h)
      · rcases Nat.lt_or_ge a i with h' | h'
        · exact .inl h'
        · refine .inr ⟨by omega, ?_⟩
          rw [show a = i from by omega] at hb
          omega
      · omega
  simp only [this]
theorem Half.at {n : Nat} {LL LL' : List (List Ln.W)} {i k : Nat} (h : Half n LL LL' i k) (hi : i < LL.length) (hk : k < (LL.getD i []).length) : ∃ hk' : k < (LL'.getD i []).length, (LL'.getD i [])[k]'hk' = (LL.getD i [])[k]'hk := by
  have hl := (h.2 i hi).1
  refine ⟨by omega, ?_⟩
  have := (h.2 i hi).2 k hk
  rw [List.getElem?_eq_getElem (by omega), List.getElem?_eq_getElem hk, Option.map_some, if_neg (by omega)] at this
  exact Option.some.inj this
theorem Half.set {n : Nat} {LL LL' : List (List Ln.W)} {i k : Nat} (h : Half n LL LL' i k) (hi : i < LL.length) (hk : k < (LL.getD i []).length) (hk' : k < (LL'.getD i []).length) (x : Nat) (hx : x = ((LL.getD i [])[k]'hk).line + n) :
    Half n LL (LL'.set i ((LL'.getD i []).set k { (LL'.getD i [])[k]'hk' with line := x })) i (k + 1) := by
  have hl := h.1
  refine ⟨by rw [List.length_set]; exact hl, fun a ha => ?_⟩
  rw [getD_set']
  by_cases hai : i = a
  · subst hai
    rw [if_pos ⟨rfl, by omega⟩]
    refine ⟨by rw [List.length_set]; exact (h.2 i hi).1, fun b hb => ?_⟩
    by_cases hkb : k = b
    · subst hkb
      obtain ⟨_, he⟩ := h.at hi hk
      rw [List.getElem?_set_self hk', List.getElem?_eq_getElem hk, Option.map_some, if_pos (.inr ⟨rfl, Nat.lt_succ_self _⟩), he, hx]
      rfl
    · rw [List.getElem?_set_ne hkb, (h.2 i hi).2 b hb]
      congr 1
      funext y
      by_cases hbk : b < k
      · rw [if_pos (.inr ⟨rfl, hbk⟩), if_pos (.inr ⟨rfl, Nat.lt_succ_of_lt hbk⟩)]
      · rw [if_neg (by omega), if_neg (by omega)]
  · rw [if_neg (fun h => hai h.1)]
    refine ⟨(h.2 a ha).1, fun b hb => ?_⟩
    rw [(h.2 a ha).2 b hb]
    congr 1
    funext y
    have : (a < i ∨ (a = i ∧ b < k)) ↔ (a < i ∨ (a = i ∧ b < k + 1)) := by omega
    simp only [this]
theorem Half.done {n : Nat} {LL LL' : List (List Ln.W)} {i : Nat} (h : Half n LL LL' i 0) (hi : LL.length ≤ i) : LL' = LL.map fun R => R.map (Ln.up n) := by
  refine List.ext_getElem (by rw [List.length_map]; exact h.1) fun a h1 h2 => ?_
  rw [List.length_map] at h2
  have ha := h.2 a h2
  have e1 : LL'.getD a [] = LL'[a] := by rw [List.getD_eq_getElem?_getD, List.getElem?_eq_getElem h1]; rfl
  have e2 : LL.getD a [] = LL[a] := by rw [List.getD_eq_getElem?_getD, List.getElem?_eq_getElem h2]; rfl
  rw [e1, e2] at ha
  rw [List.getElem_map]
  refine List.ext_getElem (by rw [List.length_map]; exact ha.1) fun b h3 h4 => ?_
  rw [List.length_map] at h4
  have := ha.2 b h4
  rw [List.getElem?_eq_getElem h3, List.getElem?_eq_getElem h4, Option.map_some, if_pos (.inl (by omega))] at this
  rw [List.getElem_map]
  exact Option.some.inj this
/-- Rows that read, by their slices. -/
theorem rdL_of {w : World} {base : Nat} {v : Value} {us : List Value} {LL : List (List Ln.W)} (h : w.ownsRow base 32 1 v LL.length us) (hr : ∀ i (h : i < LL.length), RdW w (us.getD i undef) (LL[i]'h)) : RdL w v LL := by
  have hl : us.length = LL.length := by simpa using h.1
  have h' := h
  rcases h.2 with ⟨rfl, h0⟩ | ⟨g, cap, cur, rfl, hb, hg, hn, hm, hs, ht⟩
  · exact ⟨none, 0, by rw [h0], by omega, by unfold maxLen; omega, fun h => by omega⟩
  · refine ⟨_, cap, rfl, hn, Nat.le_trans hn hm, fun _ => ⟨g, 0, rfl, fun i hi => ⟨us.getD i undef, ?_, hr i hi⟩⟩⟩
    rw [show 0 + i = i from by omega, World.ownsRow.cellAt h' i (by omega), List.getD_eq_getElem?_getD, List.getElem?_eq_getElem (by omega)]
    rfl
theorem run_append_lines {w : World} {base lo hi : Nat} {ty : TypeId} {vx vy : Value} {uy : List Value} {LX LY : List (List Ln.W)} (hx : St w base vx LX (.slice none 0 0) []) (hy : Ys w lo hi vy uy LY) (hbase : base ≤ w.heap.size) (hlen : LX.length + LY.length ≤ 1000000) :
    ∃ v' w', (Builtin.append_ #[27, 27] ty #[vx, vy]).run Try.prog w = .ok v' w' ∧ RdL w' v' (LX ++ LY) ∧ w.grownBy w' vx.ownBlock ∧ ∀ k, vx.ownBlock = some k → base ≤ k ∧ k < w.heap.size := by
  obtain ⟨i, hi, hz0, hz1, hz2⟩ := info_parts infoRow
  obtain ⟨ux, a1, a2, a3, a4, a5, -, -⟩ := hx
  obtain ⟨b1, b2, b3, b4, b5, b6, b7⟩ := hy
  have hb2 := b2
  have kept : ∀ (w' : World), w.grownBy w' vx.ownBlock → ∀ (bs : Nat) (u : Value) (L : List Ln.W), OwnW w bs u L → OwnW w' bs u L := fun w' hg bs u L h => h.grown hg (ownW_apart h a2)
  rcases b2.2 with ⟨rfl, h0⟩ | ⟨g, cap, cur, rfl, hb, hg, hn, hm, hs, ht⟩
  · have hLY : LY = [] := List.eq_nil_of_length_eq_zero h0
    subst hLY
    refine ⟨vx, w, run_append_none Try.underlying27 hi a2, ?_, World.grownBy.refl w _, fun k hk => World.ownsRow.lt a2 k hk⟩
    rw [List.append_nil]
    refine rdL_of a2 fun i hi => ?_
    have := (a4 i hi).rd
    rwa [List.getD_eq_getElem?_getD (l := LX), List.getElem?_eq_getElem hi] at this
  · obtain ⟨v', w', hr, ho, hg', _, _⟩ := run_append_own_at (P := Try.prog) w base 27 ty 32 i (.slice none 0 0) 1 24 Try.underlying27 hi hz0 hz1 hz2 rfl (by decide) vx LX.length ux a2 ⟨g, 0, none⟩ LY.length cap uy (by simpa using b1)
      (fun j u hu => by
        rw [add_plain, show 0 + j = j from by omega, World.ownsRow.cellAt hb2 j (by have := (List.getElem?_eq_some_iff.1 hu).1; omega)]
        exact hu) b3 (by unfold maxLen; omega) (by omega) hbase
    refine ⟨v', w', hr, ?_, hg', fun k hk => World.ownsRow.lt a2 k hk⟩
    rw [← List.length_append] at ho
    refine rdL_of ho fun i hi => ?_
    rcases Nat.lt_or_ge i LX.length with hlt | hge
    · have := (kept w' hg' _ _ _ (a4 i hlt)).rd
      rw [List.getD_eq_getElem?_getD (l := LX), List.getElem?_eq_getElem hlt] at this
      rw [List.getElem_append_left hlt, List.getD_eq_getElem?_getD, List.getElem?_append_left (by omega), ← List.getD_eq_getElem?_getD]
      exact this
    · rw [List.length_append] at hi
      have := (kept w' hg' _ _ _ (b4 (i - LX.length) (by omega))).rd
      rw [List.getD_eq_getElem?_getD (l := LY), List.getElem?_eq_getElem (by omega)] at this
      rw [List.getElem_append_right hge, List.getD_eq_getElem?_getD, List.getElem?_append_right (by omega), a1, ← List.getD_eq_getElem?_getD]
      exact this
theorem wpList_append_lines {w : World} {ops : Array Oper} {rest : List Oper} {o : Oper} {a : Act} {Q : Exit → Act → World → Prop} (hw : Region.wanted o (yielded ops a.tmps) = true) (s x : Operand)
    (ho : o.op = .call { callee := .builtin .append, args := #[s, x], argTypes := #[27, 27] }) (base lo hi : Nat) (vx vy : Value) (uy : List Value) (LX LY : List (List Ln.W)) (hs : a.eval s = vx) (hx : St w base vx LX (.slice none 0 0) [])
    (hsy : a.eval x = vy) (hy : Ys w lo hi vy uy LY) (hbase : base ≤ w.heap.size) (hlen : LX.length + LY.length ≤ 1000000)
    (h : ∀ v' w', RdL w' v' (LX ++ LY) → w.grownBy w' vx.ownBlock → (∀ k, vx.ownBlock = some k → base ≤ k ∧ k < w.heap.size) → wpList Try.prog ops Q rest (a.put o.dst v') w') : wpList Try.prog ops Q (o :: rest) a w := by
  refine wpList_step fun K hK => ?_
  rw [if_pos hw]
  obtain ⟨v', w', hr, h2, h3, h4⟩ := run_append_lines (ty := o.type) hx hy hbase hlen
  unfold Oper.wp execOp
  simp only [ho, resolve, invoke, builtin, Sem.run_bind, Sem.run_pure, Result.andThen_ok, List.map_toArray, List.map_cons, List.map_nil, hs, hsy, hr]
  exact hK _ _ (h v' w' h2 h3 h4)
end Go.Proofs.Ytpebkdmoloiecaa
