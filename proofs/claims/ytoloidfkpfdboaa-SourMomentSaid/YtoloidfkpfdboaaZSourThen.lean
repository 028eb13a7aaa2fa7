/- Rows of rows of bytes, and rows of such, as they grow beside files. -/
import Derived.Test.YtoloidfkpfdboaaZSourRows
namespace Go.Proofs.Ytoloidfkpfdboaa
set_option maxRecDepth 100000
open Go.ChangeShapes Go.WideShapes Go.ChangeAt Go.RowKit Go.ChangeMaps
open Sf

/-- A row of rows of bytes that are read, all in blocks of K. -/
structure SrRow (K : Nat → Prop) (w : World) (base : Nat) (v : Value) (us : List Value) (L : List (List Nat)) : Prop where
  len : us.length = L.length
  row : w.ownsRow base 25 1 v L.length us
  one : ∀ u ∈ us, u.oneCell' = true
  bytes : ∀ i, i < L.length → Bytes w (us.getD i undef) (L.getD i [])
  own : ∀ k, v.ownBlock = some k → K k
  els : ∀ u ∈ us, ∀ k, u.ownBlock = some k → K k ∧ v.ownBlock ≠ some k ∧ k < w.heap.size
variable {K K' : Nat → Prop} {w w' : World} {base : Nat} {v : Value} {us : List Value} {L : List (List Nat)}
theorem srRow_none (K : Nat → Prop) (w : World) (base : Nat) : SrRow K w base (.slice none 0 0) [] [] :=
  ⟨rfl, World.ownsRow_nil w base _ 1, by simp, fun i hi => absurd hi (by simp), fun k hk => absurd hk (by simp [Value.ownBlock]), by simp⟩
theorem SrRow.kept (h : SrRow K w base v us L) (hsz : w.heap.size ≤ w'.heap.size) (hk : ∀ k, k < w.heap.size → K k → w'.heap[k]? = w.heap[k]?) : SrRow K w' base v us L := by
  refine ⟨h.len, ownsRow_block h.row fun k e => hk k (World.ownsRow.lt h.row k e).2 (h.own k e), h.one, fun i hi => (h.bytes i hi).same fun k hl e => ?_, h.own, fun u hu k e => ⟨(h.els u hu k e).1, (h.els u hu k e).2.1, Nat.lt_of_lt_of_le (h.els u hu k e).2.2 hsz⟩⟩
  refine hk k hl (h.els _ ?_ k e).1
  rw [List.getD_eq_getElem?_getD, List.getElem?_eq_getElem (by rw [h.len]; exact hi)]
  exact List.getElem_mem _
theorem SrRow.under (h : SrRow K w base v us L) (hb : Below w.heap.size w w') : SrRow K w' base v us L := h.kept hb.size fun k hl _ => hb.block k hl
theorem SrRow.more (h : SrRow K w base v us L) (hK : ∀ k, k < w.heap.size → K k → K' k) : SrRow K' w base v us L :=
  ⟨h.len, h.row, h.one, h.bytes, fun k e => hK k (World.ownsRow.lt h.row k e).2 (h.own k e), fun u hu k e => ⟨hK k (h.els u hu k e).2.2 (h.els u hu k e).1, (h.els u hu k e).2⟩⟩
theorem SrRow.rebase {base' : Nat} (h : SrRow K w base v us L) (hb : base' ≤ base) : SrRow K w base' v us L := by
  refine ⟨h.len, ?_, h.one, h.bytes, h.own, h.els⟩
  obtain ⟨h2, h3⟩ := h.row
  refine ⟨h2, h3.imp id ?_⟩
  rintro ⟨g, cap', cur, e, hg, rest⟩
  exact ⟨g, cap', cur, e, Nat.le_trans hb hg, rest⟩
theorem SrRow.sl (h : SrRow K w base v us L) : ∃ A c, v = .slice A L.length c := by
  rcases h.row.2 with ⟨rfl, h0⟩ | ⟨g, cap, cur, rfl, _⟩
  · exact ⟨none, 0, by rw [h0]⟩
  · exact ⟨_, _, rfl⟩
theorem SrRow.rows (h : SrRow K w base v us L) : Rows2 w v L := by
  have hr := h.row
  rcases h.row.2 with ⟨rfl, h0⟩ | ⟨g, cap, cur, rfl, hb, hg, hn, hm, hs, ht⟩
  · have : L = [] := List.eq_nil_of_length_eq_zero h0
    subst this
    exact rows2_none w
  · unfold maxLen at hm
    refine ⟨by omega, _, _, rfl, hn, fun _ => ⟨g, 0, rfl, fun i hi => ⟨us.getD i undef, ?_, h.bytes i hi⟩⟩⟩
    have hl := h.len
    rw [show 0 + i = i from by omega, hr.cellAt i (by omega), List.getD_eq_getElem?_getD, List.getElem?_eq_getElem (by omega)]
    rfl
/-- One more is put behind: B holds it. -/
theorem SrRow.append {B : Nat} {ty : TypeId} {u : Value} {m : List Nat} (h : SrRow K w base v us L) (hu : Bytes w u m) (h1 : u.oneCell' = true) (hB : w.cell? ⟨B, 0, none⟩ = some u) (hx : ∀ k, u.ownBlock = some k → K k ∧ v.ownBlock ≠ some k ∧ k < w.heap.size) (hlen : L.length ≤ 1000000) (hbase : base ≤ w.heap.size) :
    ∃ v' w', (Builtin.append_ #[33, 33] ty #[v, .slice (some ⟨B, 0, none⟩) 1 1]).run Try.prog w = .ok v' w' ∧ SrRow (fun k => K k ∨ (w.heap.size ≤ k ∧ k < w'.heap.size)) w' base v' (us ++ [u]) (L ++ [m]) ∧ w.grownBy w' v.ownBlock ∧ (v'.ownBlock = v.ownBlock ∨ v'.ownBlock = some w.heap.size) := by
  obtain ⟨i, hi, hz0, hz1, hz2⟩ := info_parts infoBytes
  obtain ⟨v', w', hr, ho, hg, _, hat⟩ := run_append_own_at (P := Try.prog) w base 33 ty 25 i (.slice none 0 0) 1 24 Try.underlying33 hi hz0 hz1 hz2 rfl (by decide) v L.length us h.row ⟨B, 0, none⟩ 1 1 [u] rfl
    (fun j x hx => by
      have hj : j = 0 := by
        rcases j with _ | j
        · rfl
        · simp at hx
      subst hj
      simp at hx
      subst hx
      rw [add_plain]
      exact hB) (fun x hx => by simp at hx; subst hx; exact h1) (by unfold maxLen; omega) (by omega) hbase
  have hel : ∀ x ∈ us ++ [u], ∀ k, x.ownBlock = some k → K k ∧ v.ownBlock ≠ some k ∧ k < w.heap.size := fun x hx' k e => by
    rcases List.mem_append.1 hx' with hx' | hx'
    · exact h.els x hx' k e
    · rw [List.mem_singleton.1 hx'] at e
      exact hx k e
  have hblk : ∀ k, k < w.heap.size → v.ownBlock ≠ some k → w'.heap[k]? = w.heap[k]? := fun k hk hne => hg.block k hk fun e => hne e.symm
  refine ⟨v', w', hr, ⟨by simp [h.len], by simpa using ho, fun x hx' => (List.mem_append.1 hx').elim (h.one x) (fun e => by rw [List.mem_singleton.1 e]; exact h1), fun j hj => ?_, fun k e => ?_, fun x hx' k e => ⟨.inl (hel x hx' k e).1, fun e2 => ?_, Nat.lt_of_lt_of_le (hel x hx' k e).2.2 hg.size⟩⟩, hg, hat⟩
  · rcases Nat.lt_or_ge j L.length with hlt | hge
    · rw [List.getD_eq_getElem?_getD, List.getD_eq_getElem?_getD, List.getElem?_append_left (by have := h.len; omega), List.getElem?_append_left hlt, ← List.getD_eq_getElem?_getD, ← List.getD_eq_getElem?_getD]
      refine (h.bytes j hlt).same fun k hl e => hblk k hl (h.els _ ?_ k e).2.1
      rw [List.getD_eq_getElem?_getD, List.getElem?_eq_getElem (by rw [h.len]; exact hlt)]
      exact List.getElem_mem _
    · have hj' : j = L.length := by simp at hj; omega
      subst hj'
      have e1 : (us ++ [u]).getD L.length undef = u := by rw [← h.len]; simp
      have e2 : (L ++ [m]).getD L.length [] = m := by simp
      rw [e1, e2]
      exact hu.same fun k hl e => hblk k hl (hx k e).2.1
  · rcases hat with hat | hat
    · exact .inl (h.own k (hat ▸ e))
    · have := (World.ownsRow.lt ho k e).2
      rw [hat] at e
      injection e with e
      exact .inr ⟨by omega, this⟩
  · rcases hat with hat | hat
    · rw [hat] at e2
      exact (hel x hx' k e).2.1 e2
    · rw [hat] at e2
      injection e2 with e2
      have := (hel x hx' k e).2.2
      omega
theorem infoRows : (Try.prog.info? 33).map (fun i => (i.zero, i.size, i.bytes)) = some (some (.slice none 0 0), 1, 24) := by kernel_rfl
/-- A row of rows of rows of bytes. -/
structure SrThen (K : Nat → Prop) (w : World) (base : Nat) (v : Value) (vs : List Value) (T : List (List (List Nat))) : Prop where
  len : vs.length = T.length
  row : w.ownsRow base 33 1 v T.length vs
  one : ∀ u ∈ vs, u.oneCell' = true
  own : ∀ k, v.ownBlock = some k → K k
  els : ∀ i, i < T.length → ∃ us, SrRow (fun k => K k ∧ v.ownBlock ≠ some k) w base (vs.getD i undef) us (T.getD i [])
variable {vs : List Value} {T : List (List (List Nat))}
theorem srThen_none (K : Nat → Prop) (w : World) (base : Nat) : SrThen K w base (.slice none 0 0) [] [] :=
  ⟨rfl, World.ownsRow_nil w base _ 1, by simp, fun k hk => absurd hk (by simp [Value.ownBlock]), fun i hi => absurd hi (by simp)⟩
theorem SrThen.kept (h : SrThen K w base v vs T) (hsz : w.heap.size ≤ w'.heap.size) (hk : ∀ k, k < w.heap.size → K k → w'.heap[k]? = w.heap[k]?) : SrThen K w' base v vs T :=
  ⟨h.len, ownsRow_block h.row fun k e => hk k (World.ownsRow.lt h.row k e).2 (h.own k e), h.one, h.own, fun i hi => by
    obtain ⟨us, hr⟩ := h.els i hi
    exact ⟨us, hr.kept hsz fun k hl hk' => hk k hl hk'.1⟩⟩
theorem SrThen.under (h : SrThen K w base v vs T) (hb : Below w.heap.size w w') : SrThen K w' base v vs T := h.kept hb.size fun k hl _ => hb.block k hl
theorem SrThen.more (h : SrThen K w base v vs T) (hK : ∀ k, k < w.heap.size → K k → K' k) : SrThen K' w base v vs T :=
  ⟨h.len, h.row, h.one, fun k e => hK k (World.ownsRow.lt h.row k e).2 (h.own k e), fun i hi => by
    obtain ⟨us, hr⟩ := h.els i hi
    exact ⟨us, hr.more fun k hl hk' => ⟨hK k hl hk'.1, hk'.2⟩⟩⟩
theorem SrThen.sl (h : SrThen K w base v vs T) : ∃ A c, v = .slice A T.length c := by
  rcases h.row.2 with ⟨rfl, h0⟩ | ⟨g, cap, cur, rfl, _⟩
  · exact ⟨none, 0, by rw [h0]⟩
  · exact ⟨_, _, rfl⟩
theorem SrThen.at {n c : Nat} {A : Option Addr} (h : SrThen K w base (.slice A n c) vs T) {k : Nat} (hk : k < T.length) : ∃ g u, A = some ⟨g, 0, none⟩ ∧ w.cell? ⟨g, k, none⟩ = some u ∧ Rows2 w u (T.getD k []) := by
  have hr := h.row
  obtain ⟨us, he⟩ := h.els k hk
  rcases h.row.2 with ⟨_, h0⟩ | ⟨g, cap, cur, e, _⟩
  · omega
  · injection e with e1 e2 e3
    subst e1 e2 e3
    refine ⟨g, vs.getD k undef, rfl, ?_, he.rows⟩
    rw [World.ownsRow.cellAt hr k (by omega), List.getD_eq_getElem?_getD, List.getElem?_eq_getElem (by rw [h.len]; exact hk)]
    rfl
theorem SrThen.append {B : Nat} {ty : TypeId} {u : Value} {R : List (List Nat)} (h : SrThen K w base v vs T) (hu : SrRow (fun k => K k ∧ v.ownBlock ≠ some k) w base u us R) (h1 : u.oneCell' = true) (hB : w.cell? ⟨B, 0, none⟩ = some u) (hlen : T.length ≤ 1000000) (hbase : base ≤ w.heap.size) :
    ∃ v' w', (Builtin.append_ #[44, 44] ty #[v, .slice (some ⟨B, 0, none⟩) 1 1]).run Try.prog w = .ok v' w' ∧ SrThen (fun k => K k ∨ (w.heap.size ≤ k ∧ k < w'.heap.size)) w' base v' (vs ++ [u]) (T ++ [R]) ∧ w.grownBy w' v.ownBlock ∧ (v'.ownBlock = v.ownBlock ∨ v'.ownBlock = some w.heap.size) := by
  obtain ⟨i, hi, hz0, hz1, hz2⟩ := info_parts infoRows
  obtain ⟨v', w', hr, ho, hg, _, hat⟩ := run_append_own_at (P := Try.prog) w base 44 ty 33 i (.slice none 0 0) 1 24 Try.underlying44 hi hz0 hz1 hz2 rfl (by decide) v T.length vs h.row ⟨B, 0, none⟩ 1 1 [u] rfl
    (fun j x hx => by
      have hj : j = 0 := by
        rcases j with _ | j
        · rfl
        · simp at hx
      subst hj
      simp at hx
      subst hx
      rw [add_plain]
      exact hB) (fun x hx => by simp at hx; subst hx; exact h1) (by unfold maxLen; omega) (by omega) hbase
  have key : ∀ {y : Value} {ys : List Value} {Q : List (List Nat)}, SrRow (fun k => K k ∧ v.ownBlock ≠ some k) w base y ys Q → SrRow (fun k => (K k ∨ (w.heap.size ≤ k ∧ k < w'.heap.size)) ∧ v'.ownBlock ≠ some k) w' base y ys Q := fun {y ys Q} hy => by
    have h2 := hy.more (K' := fun k => (K k ∧ v.ownBlock ≠ some k) ∧ k < w.heap.size) fun k hl hk => ⟨hk, hl⟩
    have h3 := h2.kept (w' := w') hg.size fun k hl hk => hg.block k hl fun e => hk.1.2 e.symm
    refine h3.more fun k _ hk => ⟨.inl hk.1.1, fun e => ?_⟩
    rcases hat with hat | hat
    · rw [hat] at e
      exact hk.1.2 e
    · rw [hat] at e
      injection e with e
      omega
  refine ⟨v', w', hr, ⟨by simp [h.len], by simpa using ho, fun x hx' => (List.mem_append.1 hx').elim (h.one x) (fun e => by rw [List.mem_singleton.1 e]; exact h1), fun k e => ?_, fun j hj => ?_⟩, hg, hat⟩
  · rcases hat with hat | hat
    · exact .inl (h.own k (hat ▸ e))
    · have := (World.ownsRow.lt ho k e).2
      rw [hat] at e
      injection e with e
      exact .inr ⟨by omega, this⟩
  · rcases Nat.lt_or_ge j T.length with hlt | hge
    · obtain ⟨ys, hy⟩ := h.els j hlt
      refine ⟨ys, ?_⟩
      rw [List.getD_eq_getElem?_getD, List.getD_eq_getElem?_getD, List.getElem?_append_left (by have := h.len; omega), List.getElem?_append_left hlt, ← List.getD_eq_getElem?_getD, ← List.getD_eq_getElem?_getD]
      exact key hy
    · have hj' : j = T.length := by simp at hj; omega
      subst hj'
      have e1 : (vs ++ [u]).getD T.length undef = u := by rw [← h.len]; simp
      have e2 : (T ++ [R]).getD T.length [] = R := by simp
      rw [e1, e2]
      exact ⟨us, key hu⟩
end Go.Proofs.Ytoloidfkpfdboaa
