/- Things none of which is ahead of another stand as they stood; a row of texts among the arguments. -/
import Derived.Test.YtemliglhippdcaaZ12
import Derived.Deep.Strs
import Derived.Deep.OwnRows
import Derived.Test.YtemliglhippdcaaNameRef
namespace Go.Proofs.Ytemliglhippdcaa
set_option maxRecDepth 100000
open Go.ChangeShapes Go.WideShapes Go.ChangeAt Go.RowKit

theorem find_range (n : Nat) (p : Nat → Bool) : ∀ k, k ≤ n → (∀ i, i < k → p i = false) → (∀ i, k ≤ i → i < n → p i = true) → (List.range n).find? p = if k < n then some k else none := by
  intro k hk h1 h2
  by_cases hlt : k < n
  · rw [if_pos hlt]
    rw [List.find?_eq_some_iff_getElem]
    refine ⟨h2 k (Nat.le_refl _) hlt, k, by simpa using hlt, by simp, fun j hj => ?_⟩
    simp [h1 j hj]
  · rw [if_neg hlt, List.find?_eq_none]
    intro x hx
    rw [h1 x (by have := List.mem_range.1 hx; omega)]
    simp
theorem run_range (P : Nat → List Nat) (N : Nat) (hP : ∀ i, i < N → P i = []) : ∀ f k, k ≤ N → f = N - k → Gr.run (Gr.freeP P) N f (List.range k) = List.range N
  | 0, k, hk, hf => by
    have : k = N := by omega
    subst this
    rfl
  | f + 1, k, hk, hf => by
    unfold Gr.run
    rw [find_range N _ k hk (fun i hi => by unfold Gr.freeP; simp [hi]) (fun i h1 h2 => by unfold Gr.freeP; rw [hP i h2]; simp; omega), if_pos (by omega)]
    show Gr.run _ _ _ (List.range k ++ [k]) = _
    rw [← List.range_succ]
    exact run_range P N hP f (k + 1) (by omega) (by omega)
theorem ord_none (P : Nat → List Nat) (N : Nat) (hP : ∀ i, i < N → P i = []) : Gr.ord P N = List.range N := run_range P N hP N 0 (Nat.zero_le _) (by omega)
theorem map_range_getD (U : List (List Nat)) : ((List.range U.length).map fun i => U.getD i []) = U := by
  apply List.ext_getElem
  · simp
  · intro i h1 h2
    simp at h1
    simp [List.getD_eq_getElem?_getD, List.getElem?_eq_getElem h1]
theorem plcS_none {U : List (List Nat)} {x : List Nat} (h : x ∉ U) : plcS U x = none := by
  unfold plcS
  rw [List.findIdx?_eq_none_iff]
  intro y hy
  simp
  intro e
  exact h (e ▸ hy)
theorem addLS_sub : ∀ (xs l : List (List Nat)) (x : List Nat), x ∈ addLS l xs → x ∈ l ∨ x ∈ xs
  | [], l, x, h => .inl h
  | y :: xs, l, x, h => by
    unfold addLS at h
    rw [List.foldl_cons] at h
    rcases addLS_sub xs _ x h with h | h
    · split at h
      · exact .inl h
      · rcases List.mem_append.1 h with h | h
        · exact .inl h
        · exact .inr (by simp at h; simp [h])
    · exact .inr (by simp [h])
/-- Where what is ahead of each is not there. -/
theorem orderS_none {T : List (List Nat)} {f : List Nat → List (List Nat)} {w w' : World} {e : Ending} (hf : ∀ x ∈ addLS [] T, ∀ t ∈ f x, t ∉ addLS [] T) (h : OrderIsS (addLS [] T) f w e w') :
    ∃ v, e = .returned (.tuple #[v, .bool true]) ∧ OwnT w' w.heap.size v (addLS [] T) := by
  obtain ⟨U, hU⟩ : ∃ U, addLS [] T = U := ⟨_, rfl⟩
  rw [hU] at hf h ⊢
  have hP : ∀ i, i < U.length → PfS U f i = [] := fun i hi => by
    unfold PfS
    rw [if_pos hi, List.filterMap_eq_nil_iff]
    intro t ht
    refine plcS_none (hf _ ?_ t ht)
    rw [List.getD_eq_getElem?_getD, List.getElem?_eq_getElem hi]
    exact List.getElem_mem _
  unfold OrderIsS at h
  rw [ord_none _ _ hP, List.length_range, if_neg (Nat.lt_irrefl _), map_range_getD] at h
  exact h
theorem addLS_snoc (l xs : List (List Nat)) (x : List Nat) : addLS l (xs ++ [x]) = if x ∈ addLS l xs then addLS l xs else addLS l xs ++ [x] := by
  unfold addLS
  rw [List.foldl_append]
  rfl
theorem addLS_le (xs : List (List Nat)) : (addLS [] xs).length ≤ xs.length := by have := addL_lenS xs []; simpa using this
def flatL (l : List (List Nat)) : List Nat := 120 :: l.flatten
theorem flatL_snoc (l : List (List Nat)) (x : List Nat) : flatL (l ++ [x]) = flatL l ++ x := by simp [flatL]
theorem flatL_long {l : List (List Nat)} {x : List Nat} (h : x ∈ l) : x.length < (flatL l).length := by
  obtain ⟨a, b, rfl⟩ := List.append_of_mem h
  simp [flatL]
  omega
theorem flatL_apart (l : List (List Nat)) (s : List Nat) : flatL l ++ s ∉ l := fun h => by
  have := flatL_long h
  simp at this
  omega
theorem flatten_take_le (l : List (List Nat)) (k : Nat) : (l.take k).flatten.length ≤ l.flatten.length := by
  have h := congrArg List.length (congrArg List.flatten (List.take_append_drop k l))
  simp only [List.flatten_append, List.length_append] at h
  omega
theorem bulk_strs {H : Type} (n : Nat) (S : Nat → ByteArray) : (((List.range n).map fun i => (S i).data.toList.map (·.toNat)).flatten).length ≤ Rows.uptoBulkAll (H := H) ((List.range n).map fun i => .lit (.string (S i).data.toList)) := by
  generalize List.range n = l
  induction l with
  | nil => simp [Rows.uptoBulkAll]
  | cons a l ih =>
    simp only [List.map_cons, List.flatten_cons, List.length_append, Rows.uptoBulkAll, Rows.uptoBulk, List.length_map]
    omega
/-- A row of texts among the arguments. -/
theorem open_texts {H : Type} {enc : TypeId × Value → H} {W : World} {base : Nat} {v : Value} {d : DataW H} {p : List MemPlace} (hv : Value.okWide Try.prog W .any base 24 v)
    (h : DataW.Trod enc Try.prog W 0 (fun _ => true) true 24 v d p) : ∃ l, RdS W v l ∧ (∀ s ∈ l, ∀ c ∈ s, c < 256) ∧ l.flatten.length ≤ Rows.uptoBulk d ∧ l.length ≤ 9223372036854775807 ∧ (∀ k, v.ownBlock = some k → k < W.heap.size) := by
  obtain ⟨a0, len, cap, rfl⟩ := okWide_slice Try.underlying24 hv
  have hown : ∀ k, (Value.slice a0 len cap).ownBlock = some k → k < W.heap.size := fun k hk => by
    rcases a0 with _ | a
    · simp [Value.ownBlock] at hk
    · simp [Value.ownBlock] at hk
      subst hk
      simp only [Value.okWide, Cell.okWide, Cell.ok, Try.underlying24] at hv
      obtain ⟨_, _, row, cells, hs, _⟩ := hv.2.2
      rcases Nat.lt_or_ge a.block W.heap.size with h4 | h4
      · exact h4
      · simp [World.shape?, Array.getElem?_eq_none h4] at hs
  obtain ⟨fuel, hf⟩ := h
  rcases Deep.open_strs Try.underlying24 Try.underlying9 (by kernel_rfl) hf with ⟨hcs, _⟩ | ⟨a, len', cap', m, S, hcs, _, hl, hm, hmm, hx, hcell⟩
  · simp [Value.cells] at hcs
    obtain ⟨rfl, rfl, rfl⟩ := hcs
    exact ⟨[], rdS_none W, by simp, by simp, by simp, hown⟩
  · simp [Value.cells] at hcs
    obtain ⟨rfl, rfl, rfl⟩ := hcs
    simp only [Prod.mk.injEq] at hx
    obtain ⟨rfl, _⟩ := hx
    simp only [if_true] at hmm
    unfold maxLen at hm
    obtain ⟨L, hL⟩ : ∃ L, ((List.range len).map fun i => (S i).data.toList.map (·.toNat)) = L := ⟨_, rfl⟩
    have hlen : L.length = len := by rw [← hL]; simp
    refine ⟨L, ⟨some a, cap, by rw [hlen], by omega, fun k hk => ?_⟩, fun s hs => ?_, ?_, by omega, hown⟩
    · rw [hlen] at hk
      obtain ⟨h1, _⟩ := hcell k (by omega)
      obtain ⟨b, off, spot⟩ := a
      have hspot : spot = none := by simpa [Addr.add] using World.cell?_spot (hcell 0 (by omega)).1
      subst hspot
      refine ⟨b, off, rfl, ?_⟩
      rw [add_plain] at h1
      rw [h1, ← hL]
      simp only [List.getD_eq_getElem?_getD, List.getElem?_map, List.getElem?_range hk, Option.map_some, Option.getD_some]
      exact congrArg some (congrArg Value.string (str_all _))
    · rw [← hL] at hs
      obtain ⟨i, _, rfl⟩ := List.mem_map.1 hs
      exact bytes_lt _
    · rw [← hL]
      have h1 := bulk_strs (H := H) len S
      simp only [Rows.uptoBulk]
      omega
/-- A row of texts behind a variable. -/
structure TextsAt (w : World) (p rb n : Nat) (t : List (List Nat)) : Prop where
  var : Blk w p 24 #[.slice (some ⟨rb, 0, none⟩) n n]
  row : Blk w rb 9 (rowT t).toArray
  len : t.length = n
theorem TextsAt.under {w w' : World} {p rb n : Nat} {t : List (List Nat)} (h : TextsAt w p rb n t) (hb : Below w.heap.size w w') : TextsAt w' p rb n t := ⟨h.var.under hb, h.row.under hb, h.len⟩
theorem TextsAt.set {w : World} {p rb n : Nat} {t : List (List Nat)} (h : TextsAt w p rb n t) (i : Nat) (x : List Nat) (hp : p ≠ rb) : TextsAt (w.setCell ⟨rb, i, none⟩ (.string (str x))) p rb n (t.set i x) :=
  ⟨h.var.setOther hp _, by have h1 := h.row.set i (.string (str x)); rw [List.setIfInBounds_toArray] at h1; unfold rowT at h1 ⊢; rw [List.map_set]; exact h1, by rw [List.length_set]; exact h.len⟩
theorem TextsAt.rdS {w : World} {p rb n : Nat} {t : List (List Nat)} (h : TextsAt w p rb n t) : RdS w (.slice (some ⟨rb, 0, none⟩) n n) t := by
  refine ⟨_, n, by rw [h.len], by rw [h.len]; exact Nat.le_refl _, fun k hk => ⟨rb, 0, rfl, ?_⟩⟩
  rw [Nat.zero_add, h.row.at k, List.getElem?_toArray, rowT, List.getElem?_map, List.getElem?_eq_getElem hk, List.getD_eq_getElem?_getD, List.getElem?_eq_getElem hk]
  rfl
theorem TextsAt.cell {w : World} {p rb n : Nat} {t : List (List Nat)} (h : TextsAt w p rb n t) {i : Nat} (hi : i < n) : w.cell? ⟨rb, i, none⟩ = some (.string (str (t.getD i []))) := by
  rw [h.row.at i, List.getElem?_toArray, rowT, List.getElem?_map, List.getElem?_eq_getElem (by rw [h.len]; exact hi), List.getD_eq_getElem?_getD, List.getElem?_eq_getElem (by rw [h.len]; exact hi)]
  rfl
/-- The first i of n texts. -/
def stk (l : List Nat) (n i : Nat) : List (List Nat) := (List.range n).map fun j => if j < i then l ++ Nm.dec j else []
theorem stk_len (l : List Nat) (n i : Nat) : (stk l n i).length = n := by simp [stk]
theorem stk_zero (l : List Nat) (n : Nat) : stk l n 0 = List.replicate n [] := by
  apply List.ext_getElem
  · simp [stk]
  · intro i h1 h2
    simp [stk]
theorem stk_succ (l : List Nat) (n i : Nat) : stk l n (i + 1) = (stk l n i).set i (l ++ Nm.dec i) := by
  apply List.ext_getElem
  · simp [stk]
  · intro j h1 h2
    rw [List.getElem_set]
    simp only [stk, List.getElem_map, List.getElem_range]
    by_cases e : i = j
    · subst e; simp
    · rw [if_neg e]
      by_cases h3 : j < i
      · rw [if_pos h3, if_pos (by omega)]
      · rw [if_neg h3, if_neg (by omega)]
theorem stk_mem {l : List Nat} {n : Nat} {x : List Nat} (h : x ∈ stk l n n) : ∃ j, j < n ∧ x = l ++ Nm.dec j := by
  obtain ⟨j, hj, rfl⟩ := List.mem_map.1 h
  have := List.mem_range.1 hj
  exact ⟨j, this, by rw [if_pos this]⟩
theorem infoText' : (Try.prog.info? 9).map (fun i => (i.zero, i.size, i.bytes)) = some (some (.string ⟨#[]⟩), 1, 16) := by kernel_rfl
theorem made_texts' (n : Nat) : madeCells #[.string ⟨#[]⟩] n = (rowT (List.replicate n [])).toArray := by
  apply Array.toList_inj.1
  rw [toList_madeCells_one, rowT, List.map_replicate]
  rfl
theorem and_3K (a : Int) : ∃ k : Nat, k ≤ 3 ∧ bits .and .i64 a 3 = (k : Int) := by
  have h : (BitVec.ofInt 64 (3 : Int)).toNat = 3 := by decide
  have hx : (BitVec.ofInt 64 a &&& BitVec.ofInt 64 (3 : Int)).toNat ≤ 3 := by
    rw [BitVec.toNat_and, h]
    exact Nat.and_le_right
  refine ⟨(BitVec.ofInt 64 a &&& BitVec.ofInt 64 (3 : Int)).toNat, hx, ?_⟩
  show IntKind.i64.wrap ((BitVec.ofInt 64 a &&& BitVec.ofInt 64 (3 : Int)).toNat : Int) = _
  rw [IntKind.wrap_i64]
  omega
end Go.Proofs.Ytemliglhippdcaa
