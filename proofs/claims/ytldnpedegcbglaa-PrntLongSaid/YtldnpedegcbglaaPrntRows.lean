/- Rows of bytes of the call's own that are turned, byte by byte, whatever else they hold; rows newly laid; the first few rows. -/
import Derived.Test.YtldnpedegcbglaaRowsB
import Derived.Test.YtldnpedegcbglaaMine
namespace Go.Proofs.Ytldnpedegcbglaa
set_option maxRecDepth 100000
open Go.ChangeShapes Go.WideShapes Go.ChangeAt Go.RowKit

/-- A row that has just been laid is the call's own. -/
theorem pown_new (w : World) (base : Nat) (l : List Nat) (hl : ∀ c ∈ l, c < 256) (hm : l.length ≤ maxLen) (hb : base ≤ w.heap.size) :
    Own (w.alloc (.cells (row8 l).toArray 5)) base (.slice (some ⟨w.heap.size, 0, none⟩) l.length l.length) l := by
  refine ⟨⟨by simp [row8], .inr ⟨w.heap.size, l.length, (row8 l).toArray, rfl, hb, heap_alloc_new w _, Nat.le_refl _, hm, by simp [row8], ?_⟩⟩, hl⟩
  rw [Nat.mul_one]
  exact List.take_of_length_le (by simp [row8])
theorem made_zeros (n : Nat) : madeCells #[.int .u8 0] n = (row8 (List.replicate n 0)).toArray := by
  apply Array.toList_inj.1
  rw [toList_madeCells_one]
  unfold row8
  rw [List.map_replicate]
  rfl
theorem pown_zeros (w : World) (base n : Nat) (hm : n ≤ 1000000) (hb : base ≤ w.heap.size) :
    Own (w.alloc (.cells (madeCells #[.int .u8 0] n) 5)) base (.slice (some ⟨w.heap.size, 0, none⟩) n n) (List.replicate n 0) := by
  have := pown_new w base (List.replicate n 0) (fun c hc => by rw [List.eq_of_mem_replicate hc]; decide) (by rw [List.length_replicate]; unfold maxLen; omega) hb
  rw [List.length_replicate] at this
  rw [made_zeros]
  exact this
/-- A row of bytes, of so many, whatever they are. -/
def Is8 (w : World) (u : Value) : Prop := ∀ b, u.ownBlock = some b → ∃ cs m, w.heap[b]? = some (.cells cs 5 m)
def Some8 (w : World) (base : Nat) (u : Value) (n : Nat) : Prop := ∃ l, l.length = n ∧ Mine w base u l ∧ Is8 w u
theorem Own.is8 {w : World} {base : Nat} {u : Value} {l : List Nat} (h : Own w base u l) : Is8 w u := by
  intro b hb
  rcases h.1.2 with ⟨rfl, h0⟩ | ⟨g, cap, cur, rfl, _, hg, _⟩
  · cases hb
  · simp [Value.ownBlock] at hb
    subst hb
    exact ⟨cur, (0, 0), hg⟩
theorem Own.some8 {w : World} {base : Nat} {u : Value} {l : List Nat} (h : Own w base u l) : Some8 w base u l.length := ⟨l, rfl, h.mine, h.is8⟩
theorem Is8.set {w : World} {u : Value} (h : Is8 w u) (p : Addr) (x : Value) : Is8 (w.setCell p x) u := by
  intro b hb
  obtain ⟨cs, m, hg⟩ := h b hb
  by_cases e : b = p.block
  · subst e
    obtain ⟨blk, o, sp⟩ := p
    rcases sp with _ | sp
    · refine ⟨cs.setIfInBounds o x, m, ?_⟩
      simp [World.setCell, Array.getElem?_modify, hg]
    · refine ⟨cs, m, ?_⟩
      simp [World.setCell, Array.getElem?_modify, hg]
  · exact ⟨cs, m, (Below.heap_setCell w p x b e).trans hg⟩
theorem Is8.under {w w' : World} {u : Value} (h : Is8 w u) (hb : Below w.heap.size w w') : Is8 w' u := by
  intro b hb'
  obtain ⟨cs, m, hg⟩ := h b hb'
  exact ⟨cs, m, (hb.block b (Array.getElem?_eq_some_iff.1 hg).1).trans hg⟩
theorem Is8.ne {w : World} {b o n c : Nat} (h : Is8 w (.slice (some ⟨b, o, none⟩) n c)) : ∀ cs m, w.heap[b]? ≠ some (.cells cs 23 m) := by
  intro cs m e
  obtain ⟨cs', m', h⟩ := h b rfl
  rw [h] at e
  injection e with e
  injection e with _ e
  exact absurd e (by decide)
theorem Mine.other {w : World} {base : Nat} {u : Value} {l : List Nat} (h : Mine w base u l) {b o x : Nat} (hx : x < 256) : ∃ l', l'.length = l.length ∧ Mine (w.setCell ⟨b, o, none⟩ (.int .u8 (x : Int))) base u l' := by
  obtain ⟨h1, A, c, rfl, hc, hm, ⟨rfl, rfl⟩ | ⟨b', off, rfl, hb, hlt, hf, hcl⟩⟩ := h
  · exact ⟨l, rfl, h1, none, 0, rfl, hc, hm, .inl ⟨rfl, rfl⟩⟩
  · by_cases hin : b = b' ∧ off ≤ o ∧ o - off < l.length
    · obtain ⟨rfl, ho, hk⟩ := hin
      have := Mine.set (w := w) (base := base) (b := b) (off := off) (n := l.length) (c := c) (l := l) ⟨h1, _, c, rfl, hc, hm, .inr ⟨b, off, rfl, hb, hlt, hf, hcl⟩⟩ hk hx
      rw [show off + (o - off) = o from by omega] at this
      exact ⟨l.set (o - off) x, by rw [List.length_set], this⟩
    · refine ⟨l, rfl, h1, _, c, rfl, hc, hm, .inr ⟨b', off, rfl, hb, by simpa using hlt, fun i hi => ⟨?_, ?_⟩, fun i hi => ?_⟩⟩
      · by_cases e : (⟨b', off + i, none⟩ : Addr) = ⟨b, o, none⟩
        · rw [e]
          have := (hf i hi).1
          rw [e] at this
          rw [World.cell?_setCell_same _ _ _ (Option.some_get this).symm]
          rfl
        · rw [World.cell?_setCell_other _ _ _ _ (Ne.symm e)]
          exact (hf i hi).1
      · rw [World.frozen?_setCell]
        exact (hf i hi).2
      · have e : (⟨b', off + i, none⟩ : Addr) ≠ ⟨b, o, none⟩ := fun e => by
          injection e with e1 e2
          exact hin ⟨e1.symm, by omega, by omega⟩
        rw [World.cell?_setCell_other _ _ _ _ (Ne.symm e)]
        exact hcl i hi
theorem Some8.other {w : World} {base n : Nat} {u : Value} (h : Some8 w base u n) {b o x : Nat} (hx : x < 256) : Some8 (w.setCell ⟨b, o, none⟩ (.int .u8 (x : Int))) base u n := by
  obtain ⟨l, hl, h, h8⟩ := h
  obtain ⟨l', h1, h2⟩ := h.other (b := b) (o := o) hx
  exact ⟨l', h1.trans hl, h2, h8.set _ _⟩
/-- Rows of bytes, each of the call's own, in a block of another kind. -/
def Rows8 (w : World) (base : Nat) (v : Value) (n : Nat) : Prop :=
  ∃ A c, v = .slice A n c ∧ n ≤ c ∧ (0 < n → ∃ g cs m, A = some ⟨g, 0, none⟩ ∧ base ≤ g ∧ w.heap[g]? = some (.cells cs 23 m) ∧ ∀ i, i < n → ∃ u k, cs[i]? = some u ∧ k ≤ 256 ∧ Some8 w base u k)
theorem OwnR.rows8 {w : World} {base : Nat} {v : Value} {L : List (List Nat)} (h : OwnR w base v L) (hl : ∀ x ∈ L, x.length ≤ 256) : Rows8 w base v L.length := by
  obtain ⟨us, h1, h2, h4, h3⟩ := h
  have hr := h2
  rcases h2.2 with ⟨rfl, h0⟩ | ⟨g, cap, cur, rfl, hb, hg, hn, hm, hs, ht⟩
  · exact ⟨none, 0, by rw [h0], by omega, fun h => absurd h (by omega)⟩
  · refine ⟨_, _, rfl, hn, fun _ => ⟨g, cur, (0, 0), rfl, hb, hg, fun i hi => ⟨us.getD i undef, _, ?_, hl _ (List.getElem_mem hi), ?_⟩⟩⟩
    · have := hr.cellAt i (by omega)
      rw [cell_of_row w g i cur _ _ hg] at this
      rw [this, List.getD_eq_getElem?_getD, List.getElem?_eq_getElem (by omega)]
      rfl
    · have := (h3 i hi).some8
      rw [List.getD_eq_getElem?_getD, List.getD_eq_getElem?_getD, List.getElem?_eq_getElem hi, Option.getD_some] at this
      rw [List.getD_eq_getElem?_getD]
      exact this
theorem Rows8.parts {w : World} {base n : Nat} {v : Value} (h : Rows8 w base v n) : ∃ A c, v = .slice A n c ∧ n ≤ c := by
  obtain ⟨A, c, rfl, hc, _⟩ := h
  exact ⟨A, c, rfl, hc⟩
theorem Rows8.at {w : World} {base n c : Nat} {A : Option Addr} (h : Rows8 w base (.slice A n c) n) {i : Nat} (hi : i < n) : ∃ g u k, A = some ⟨g, 0, none⟩ ∧ w.cell? ⟨g, 0 + i, none⟩ = some u ∧ k ≤ 256 ∧ Some8 w base u k := by
  obtain ⟨A', c', e, _, hx⟩ := h
  injection e with e1 e2 e3
  subst e1
  obtain ⟨g, cs, m, rfl, _, hg, hr⟩ := hx (by omega)
  obtain ⟨u, k, h1, h2, h3⟩ := hr i hi
  exact ⟨g, u, k, rfl, by rw [Nat.zero_add, cell_of_row w g i cs _ _ hg]; exact h1, h2, h3⟩
theorem Rows8.set {w : World} {base n : Nat} {v : Value} {b o x : Nat} (h : Rows8 w base v n) (hb : ∀ cs m, w.heap[b]? ≠ some (.cells cs 23 m)) (hx : x < 256) : Rows8 (w.setCell ⟨b, o, none⟩ (.int .u8 (x : Int))) base v n := by
  obtain ⟨A, c, rfl, hc, hr⟩ := h
  refine ⟨A, c, rfl, hc, fun h0 => ?_⟩
  obtain ⟨g, cs, m, rfl, h1, h2, h3⟩ := hr h0
  have hne : g ≠ b := fun e => by subst e; exact hb _ _ h2
  refine ⟨g, cs, m, rfl, h1, ?_, fun i hi => ?_⟩
  · exact (Below.heap_setCell w ⟨b, o, none⟩ _ g hne).trans h2
  · obtain ⟨u, k, g1, g2, g3⟩ := h3 i hi
    exact ⟨u, k, g1, g2, g3.other hx⟩
theorem Rows2.take {w : World} {A : Option Addr} {n c k : Nat} {L : List (List Nat)} (h : Rows2 w (.slice A n c) L) (hk : k ≤ n) : Rows2 w (.slice A k c) (L.take k) := by
  have hn := h.len
  obtain ⟨h1, A', c', e, hc, hx⟩ := h
  injection e with e1 e2 e3
  subst e1
  subst e3
  have hl : (L.take k).length = k := by rw [List.length_take]; omega
  refine ⟨by rw [hl]; omega, A, c, by rw [hl], by rw [hl]; omega, fun h0 => ?_⟩
  rw [hl] at h0
  obtain ⟨b, off, rfl, hcl⟩ := hx (by omega)
  refine ⟨b, off, rfl, fun i hi => ?_⟩
  rw [hl] at hi
  obtain ⟨u, g1, g2⟩ := hcl i (by omega)
  refine ⟨u, g1, ?_⟩
  rw [List.getD_eq_getElem?_getD, List.getElem?_take, if_pos hi, ← List.getD_eq_getElem?_getD]
  exact g2
end Go.Proofs.Ytldnpedegcbglaa
