/- Things none of which is ahead of another stand as they stood; a row of texts among the arguments. -/
import Derived.Test.YtopenbeakejohaaZ12
import Derived.Deep.Strs
import Derived.Deep.OwnRows
import Derived.Test.YtopenbeakejohaaNameRef
import Derived.Test.YtopenbeakejohaaZ31
namespace Go.Proofs.Ytopenbeakejohaa
set_option maxRecDepth 100000
open Go.ChangeShapes Go.WideShapes Go.ChangeAt Go.RowKit

theorem find_range (n : Nat) (p : Nat → Bool) : ∀ k, k ≤ n → (∀ i, i < k → p i = false) → (∀ i, k ≤ i → i < n → p i = true) → (List.range n).find? p = if k < n then some k else none := by
  intro k hk h1 h2
  by_cases hlt : k < n
  · rw [if_pos hlt]
    rw [List.find?_eq_some_iff_getElem]
    refine ⟨h2 k (Nat.le_refl _) hlt, k, by simpa using hlt, by simp, fun j hj => ?_⟩
    simp [h1 j hj]
  · rw [if_neg hlt, List.find?_eq_none]
    intro x hx
    rw [h1 x (by have := List.mem_range.1 hx; omega)]
    simp
theorem run_range (P : Nat → List Nat) (N : Nat) (hP : ∀ i, i < N → P i = []) : ∀ f k, k ≤ N → f = N - k → Gr.run (Gr.freeP P) N f (List.range k) = List.range N
  | 0, k, hk, hf => by
    have : k = N := by omega
    subst this
    rfl
  | f + 1, k, hk, hf => by
    unfold Gr.run
    rw [find_range N _ k hk (fun i hi => by unfold Gr.freeP; simp [hi]) (fun i h1 h2 => by unfold Gr.freeP; rw [hP i h2]; simp; omega), if_pos (by omega)]
    show Gr.run _ _ _ (List.range k ++ [k]) = _
    rw [← List.range_succ]
    exact run_range P N hP f (k + 1) (by omega) (by omega)
theorem ord_none (P : Nat → List Nat) (N : Nat) (hP : ∀ i, i < N → P i = []) : Gr.ord P N = List.range N := run_range P N hP N 0 (Nat.zero_le _) (by omega)
theorem map_range_getD (U : List (List Nat)) : ((List.range U.length).map fun i => U.getD i []) = U := by
  apply List.ext_getElem
  · simp
  · intro i h1 h2
    simp at h1
    simp [List.getD_eq_getElem?_getD, List.getElem?_eq_getElem h1]
theorem plcS_none {U : List (List Nat)} {x : List Nat} (h : x ∉ U) : plcS U x = none := by
  unfold plcS
  rw [List.findIdx?_eq_none_iff]
  intro y hy
  simp
  intro e
  exact h (e ▸ hy)
theorem addLS_sub : ∀ (xs l : List (List Nat)) (x : List Nat), x ∈ addLS l xs → x ∈ l ∨ x ∈ xs
  | [], l, x, h => .inl h
  | y :: xs, l, x, h => by
    unfold addLS at h
    rw [List.foldl_cons] at h
    rcases addLS_sub xs _ x h with h | h
    · split at h
      · exact .inl h
      · rcases List.mem_append.1 h with h | h
        · exact .inl h
        · exact .inr (by simp at h; simp [h])
    · exact .inr (by simp [h])
/-- Where what is ahead of each is not there. -/
theorem orderS_none {T : List (List Nat)} {f : List Nat → List (List Nat)} {w w' : World} {e : Ending} (hf : ∀ x ∈ addLS [] T, ∀ t ∈ f x, t ∉ addLS [] T) (h : OrderIsS (addLS [] T) f w e w') :
    ∃ v, e = .returned (.tuple #[v, .bool true]) ∧ OwnT w' w.heap.size v (addLS [] T) := by
  obtain ⟨U, hU⟩ : ∃ U, addLS [] T = U := ⟨_, rfl⟩
  rw [hU] at hf h ⊢
  have hP : ∀ i, i < U.length → PfS U f i = [] := fun i hi => by
    unfold PfS
    rw [if_pos hi, List.filterMap_eq_nil_iff]
    intro t ht
    refine plcS_none (hf _ ?_ t ht)
    rw [List.getD_eq_getElem?_getD, List.getElem?_eq_getElem hi]
    exact List.getElem_mem _
  unfold OrderIsS at h
  rw [ord_none _ _ hP, List.length_range, if_neg (Nat.lt_irrefl _), map_range_getD] at h
  exact h
theorem addLS_snoc (l xs : List (List Nat)) (x : List Nat) : addLS l (xs ++ [x]) = if x ∈ addLS l xs then addLS l xs else addLS l xs ++ [x] := by
  unfold addLS
  rw [List.foldl_append]
  rfl
theorem addLS_le (xs : List (List Nat)) : (addLS [] xs).length ≤ xs.length := by have := addL_lenS xs []; simpa using this
def flatL (l : List (List Nat)) : List Nat := 120 :: l.flatten
theorem flatL_snoc (l : List (List Nat)) (x : List Nat) : flatL (l ++ [x]) = flatL l ++ x := by simp [flatL]
theorem flatL_long {l : List (List Nat)} {x : List Nat} (h : x ∈ l) : x.length < (flatL l).length := by
  obtain ⟨a, b, rfl⟩ := List.append_of_mem h
  simp [flatL]
  omega
theorem flatL_apart (l : List (List Nat)) (s : List Nat) : flatL l ++ s ∉ l := fun h => by
  have := flatL_long h
  simp at this
  omega
theorem flatten_take_le (l : List (List Nat)) (k : Nat) : (l.take k).flatten.length ≤ l.flatten.length := by
  have h := congrArg List.length (congrArg List.flatten (List.take_append_drop k l))
  simp only [List.flatten_append, List.length_append] at h
  omega
theorem bulk_strs {H : Type} (n : Nat) (S : Nat → ByteArray) : (((List.range n).map fun i => (S i).data.toList.map (·.toNat)).flatten).length ≤ Rows.uptoBulkAll (H := H) ((List.range n).map fun i => .lit (.string (S i).data.toList)) := by
  generalize List.range n = l
  induction l with
  | nil => simp [Rows.uptoBulkAll]
  | cons a l ih =>
    simp only [List.map_cons, List.flatten_cons, List.length_append, Rows.uptoBulkAll, Rows.uptoBulk, List.length_map]
    omega
/-- A row of texts among the arguments. -/
theorem open_texts {H : Type} {enc : TypeId × Value → H} {W : World} {base : Nat} {v : Value} {d : DataW H} {p : List MemPlace} (hv : Value.okWide Try.prog W .any base 22 v)
    (h : DataW.Trod enc Try.prog W 0 (fun _ => true) true 22 v d p) : ∃ l, RdS W v l ∧ (∀ s ∈ l, ∀ c ∈ s, c < 256) ∧ l.flatten.length ≤ Rows.uptoBulk d ∧ l.length ≤ 9223372036854775807 ∧ (∀ k, v.ownBlock = some k → k < W.heap.size) := by
  obtain ⟨a0, len, cap, rfl⟩ := okWide_slice Try.underlying22 hv
  have hown : ∀ k, (Value.slice a0 len cap).ownBlock = some k → k < W.heap.size := fun k hk => by
    rcases a0 with _ | a
    · simp [Value.ownBlock] at hk
    · simp [Value.ownBlock] at hk
      subst hk
      simp only [Value.okWide, Cell.okWide, Cell.ok, Try.underlying22] at hv
      obtain ⟨_, _, row, cells, hs, _⟩ := hv.2.2
      rcases Nat.lt_or_ge a.block W.heap.size with h4 | h4
      · exact h4
      · simp [World.shape?, Array.getElem?_eq_none h4] at hs
  obtain ⟨fuel, hf⟩ := h
  rcases Deep.open_strs Try.underlying22 Try.underlying9 (by kernel_rfl) hf with ⟨hcs, _⟩ | ⟨a, len', cap', m, S, hcs, _, hl, hm, hmm, hx, hcell⟩
  · simp [Value.cells] at hcs
    obtain ⟨rfl, rfl, rfl⟩ := hcs
    exact ⟨[], rdS_none W, by simp, by simp, by simp, hown⟩
  · simp [Value.cells] at hcs
    obtain ⟨rfl, rfl, rfl⟩ := hcs
    simp only [Prod.mk.injEq] at hx
    obtain ⟨rfl, _⟩ := hx
    simp only [if_true] at hmm
    unfold maxLen at hm
    obtain ⟨L, hL⟩ : ∃ L, ((List.range len).map fun i => (S i).data.toList.map (·.toNat)) = L := ⟨_, rfl⟩
    have hlen : L.length = len := by rw [← hL]; simp
    refine ⟨L, ⟨some a, cap, by rw [hlen], by omega, fun k hk => ?_⟩, fun s hs => ?_, ?_, by omega, hown⟩
    · rw [hlen] at hk
      obtain ⟨h1, _⟩ := hcell k (by omega)
      obtain ⟨b, off, spot⟩ := a
      have hspot : spot = none := by simpa [Addr.add] using World.cell?_spot (hcell 0 (by omega)).1
      subst hspot
      refine ⟨b, off, rfl, ?_⟩
      rw [add_plain] at h1
      rw [h1, ← hL]
      simp only [List.getD_eq_getElem?_getD, List.getElem?_map, List.getElem?_range hk, Option.map_some, Option.getD_some]
      exact congrArg some (congrArg Value.string (str_all _))
    · rw [← hL] at hs
      obtain ⟨i, _, rfl⟩ := List.mem_map.1 hs
      exact bytes_lt _
    · rw [← hL]
      have h1 := bulk_strs (H := H) len S
      simp only [Rows.uptoBulk]
      omega
/-- A row of texts behind a variable. -/
structure TextsAt (w : World) (p rb n : Nat) (t : List (List Nat)) : Prop where
  var : Blk w p 22 #[.slice (some ⟨rb, 0, none⟩) n n]
  row : Blk w rb 9 (rowT t).toArray
  len : t.length = n
theorem TextsAt.under {w w' : World} {p rb n : Nat} {t : List (List Nat)} (h : TextsAt w p rb n t) (hb : Below w.heap.size w w') : TextsAt w' p rb n t := ⟨h.var.under hb, h.row.under hb, h.len⟩
theorem TextsAt.set {w : World} {p rb n : Nat} {t : List (List Nat)} (h : TextsAt w p rb n t) (i : Nat) (x : List Nat) (hp : p ≠ rb) : TextsAt (w.setCell ⟨rb, i, none⟩ (.string (str x))) p rb n (t.set i x) :=
  ⟨h.var.setOther hp _, by have h1 := h.row.set i (.string (str x)); rw [List.setIfInBounds_toArray] at h1; unfold rowT at h1 ⊢; rw [List.map_set]; exact h1, by rw [List.length_set]; exact h.len⟩
theorem TextsAt.rdS {w : World} {p rb n : Nat} {t : List (List Nat)} (h : TextsAt w p rb n t) : RdS w (.slice (some ⟨rb, 0, none⟩) n n) t := by
  refine ⟨_, n, by rw [h.len], by rw [h.len]; exact Nat.le_refl _, fun k hk => ⟨rb, 0, rfl, ?_⟩⟩
  rw [Nat.zero_add, h.row.at k, List.getElem?_toArray, rowT, List.getElem?_map, List.getElem?_eq_getElem hk, List.getD_eq_getElem?_getD, List.getElem?_eq_getElem hk]
  rfl
theorem TextsAt.cell {w : World} {p rb n : Nat} {t : List (List Nat)} (h : TextsAt w p rb n t) {i : Nat} (hi : i < n) : w.cell? ⟨rb, i, none⟩ = some (.string (str (t.getD i []))) := by
  rw [h.row.at i, List.getElem?_toArray, rowT, List.getElem?_map, List.getElem?_eq_getElem (by rw [h.len]; exact hi), List.getD_eq_getElem?_getD, List.getElem?_eq_getElem (by rw [h.len]; exact hi)]
  rfl
/-- The first i of n texts. -/
def stk (l : List Nat) (n i : Nat) : List (List Nat) := (List.range n).map fun j => if j < i then l ++ Nm.dec j else []
theorem stk_len (l : List Nat) (n i : Nat) : (stk l n i).length = n := by simp [stk]
theorem stk_zero (l : List Nat) (n : Nat) : stk l n 0 = List.replicate n [] := by
  apply List.ext_getElem
  · simp [stk]
  · intro i h1 h2
    simp [stk]
theorem stk_succ (l : List Nat) (n i : Nat) : stk l n (i + 1) = (stk l n i).set i (l ++ Nm.dec i) := by
  apply List.ext_getElem
  · simp [stk]
  · intro j h1 h2
    rw [List.getElem_set]
    simp only [stk, List.getElem_map, List.getElem_range]
    by_cases e : i = j
    · subst e; simp
    · rw [if_neg e]
      by_cases h3 : j < i
      · rw [if_pos h3, if_pos (by omega)]
      · rw [if_neg h3, if_neg (by omega)]
theorem stk_mem {l : List Nat} {n : Nat} {x : List Nat} (h : x ∈ stk l n n) : ∃ j, j < n ∧ x = l ++ Nm.dec j := by
  obtain ⟨j, hj, rfl⟩ := List.mem_map.1 h
  have := List.mem_range.1 hj
  exact ⟨j, this, by rw [if_pos this]⟩
theorem infoText' : (Try.prog.info? 9).map (fun i => (i.zero, i.size, i.bytes)) = some (some (.string ⟨#[]⟩), 1, 16) := by kernel_rfl
theorem made_texts' (n : Nat) : madeCells #[.string ⟨#[]⟩] n = (rowT (List.replicate n [])).toArray := by
  apply Array.toList_inj.1
  rw [toList_madeCells_one, rowT, List.map_replicate]
  rfl
theorem and_3K (a : Int) : ∃ k : Nat, k ≤ 3 ∧ bits .and .i64 a 3 = (k : Int) := by
  have h : (BitVec.ofInt 64 (3 : Int)).toNat = 3 := by decide
  have hx : (BitVec.ofInt 64 a &&& BitVec.ofInt 64 (3 : Int)).toNat ≤ 3 := by
    rw [BitVec.toNat_and, h]
    exact Nat.and_le_right
  refine ⟨(BitVec.ofInt 64 a &&& BitVec.ofInt 64 (3 : Int)).toNat, hx, ?_⟩
  show IntKind.i64.wrap ((BitVec.ofInt 64 a &&& BitVec.ofInt 64 (3 : Int)).toNat : Int) = _
  rw [IntKind.wrap_i64]
  omega
end Go.Proofs.Ytopenbeakejohaa

/- fettlelaw8: GrphKinds. -/
namespace Go.Proofs.Ytopenbeakejohaa
set_option maxRecDepth 100000
open Go.ChangeShapes Go.WideShapes Go.ChangeAt Go.RowKit Go.Shelf

attribute [local go_sem] Oper.semAt_some

theorem kinds1_ahead {w : World} {pb : Nat} {v : Value} {l : List (List Nat)} {D : List Nat → Prop} (hb : Blk w pb 22 #[v]) (hv : RdS w v l) (ho : ∀ k, v.ownBlock = some k → k < w.heap.size) :
    AheadNS w 11 #[.pointer (some ⟨pb, 0, none⟩)] (fun _ => l) D := by
  refine ⟨enters_of Try.func11 (by kernel_rfl) rfl, fun x wx _ hbw => ?_⟩
  show Calls Try.prog 11 #[.string (str x), .pointer (some ⟨pb, 0, none⟩)] wx _
  have c0 : wx.cell? ⟨pb, 0, none⟩ = some v := (hb.under hbw).at 0
  have hv' := hv.under hbw
  obtain ⟨A, c, rfl, _⟩ := hv
  obtain ⟨n, hn⟩ : ∃ n, l.length = n := ⟨_, rfl⟩
  rw [hn] at c0 hv' ho
  have HV := Lib.hid hv'
  have HO := Lib.hid ho
  have HBW := Lib.hid hbw.size
  clear hv' ho hn hbw hb
  go_enter Try.func11, Try.ntmps11
  go_wp2_with fail
  go_ret
  exact ⟨_, rfl, HV.out, fun k hk => .inl (HO.out k hk), Below.refl _ _⟩
theorem kinds2_call (w : World) : Calls Try.prog 12 #[.slice none 0 0, .func (.func 13) #[] #[]] w fun e w' => (∃ A c, e = .returned (.tuple #[.slice A 0 c, .bool true])) ∧ Below w.heap.size w w' := by
  have hA : AheadN w 13 #[] (fun _ => []) (fun x => x ∈ addL [] []) := ⟨enters_of Try.func13 (by kernel_rfl) rfl, fun x wx hx _ => absurd hx (by simp [addL])⟩
  refine (order_any (f := fun _ => []) 10 (rdN_none w) (by simp [Value.ownBlock]) (by simp) (by simp) hA (by simp)).mono ?_
  rintro e w' ⟨h1, h2⟩
  refine ⟨?_, h2⟩
  unfold OrderIs at h1
  rw [if_neg (by decide)] at h1
  obtain ⟨v, rfl, ho⟩ := h1
  obtain ⟨A, c, rfl, _⟩ := ho.parts
  exact ⟨A, c, rfl⟩
theorem kinds3_iter {w0 : World} {p q base : Nat} {v : Value} (hR : ReachAt w0 p q v base [] 15 #[]) :
    IterF Try.prog 40 #[.pointer (some ⟨p, 0, none⟩), .pointer (some ⟨q, 0, none⟩)] (fun n : Nat => #[Value.int .i64 (n : Int)]) 0 (fun _ => 0) (ReachReads p q v (fun _ => False)) w0 := by
  have hA : AheadG w0 (fun _ => False) 15 #[] (fun _ => []) (fun _ => False) :=
    ⟨enters_of Try.func15 (by kernel_rfl) rfl, fun _ h => h.elim, fun x wx hx _ _ => hx.elim⟩
  have e : Gr.rs (fun _ => []) (addL [] []) 0 = [] := rfl
  have h := reach_iter 0 hR hA (by simp) (by rw [e]; simp) (by simp) (by rw [e]; simp) (by rw [e]; simp)
  rw [e] at h
  exact h
set_option maxHeartbeats 16000000 in
theorem kinds_any (v0 : Value) (a1 : Int) (L : List (List Nat)) (w : World) (hv : RdS w v0 L) (hb : ∀ s ∈ L, ∀ c ∈ s, c < 256) (hf : L.flatten.length ≤ 1048576) (hl : L.length ≤ 9223372036854775807) (ho : ∀ k, v0.ownBlock = some k → k < w.heap.size) :
    Calls Try.prog 3 #[v0, .int .i64 a1] w fun e w' => e = .returned (.bool true) ∧ Below w.heap.size w w' := by
  have HV := Lib.hid hv
  obtain ⟨A0, c0, hve, hcc, _⟩ := hv
  obtain ⟨n0, hn0⟩ : ∃ q, L.length = q := ⟨_, rfl⟩
  rw [hn0] at hve hcc hl
  subst hve
  have HN0 := Lib.hid hn0
  have HOB := Lib.hid ho
  obtain ⟨T, hT⟩ : ∃ T, L.take 20 = T := ⟨_, rfl⟩
  have HTB : Hid (∀ s ∈ T, ∀ c ∈ s, c < 256) := Lib.hid (fun s hs => hb s (by rw [← hT] at hs; exact List.mem_of_mem_take hs))
  have HTF : Hid (T.flatten.length ≤ 1048576) := Lib.hid (by rw [← hT]; exact Nat.le_trans (flatten_take_le L 20) hf)
  have HTL : Hid (T.length ≤ 20) := Lib.hid (by rw [← hT, List.length_take]; omega)
  have HTE := Lib.hid hT
  obtain ⟨m, hm⟩ : ∃ m, T.length = m := ⟨_, rfl⟩
  have hm20 : m ≤ 20 := by rw [← hm]; exact HTL.out
  have HM := Lib.hid hm
  clear hb hf ho hn0 hT hm
  refine (callsIn_wide (n := 0)).1 (callsIn_of_wp_marks Try.func3 rfl trivial (wpIn_wide.2 ?_) rfl)
  simp only [Try.ntmps3, List.size_toArray, List.length_cons, List.length_nil, Nat.reduceAdd, Nat.reduceSub, Array.replicate_succ, Array.replicate_zero, List.push_toArray, List.append_toArray, List.nil_append, List.cons_append]
  go_upto_if 24 with fail
  go_cut [0] from 22 to 26 (fun s0 wx => ∃ A c, s0 = .slice A m c ∧ Hid (RdS w (.slice A m c) T) ∧ Hid (∀ k, (Value.slice A m c).ownBlock = some k → k < w.heap.size) ∧ m ≤ c ∧ wx = w)
  case first =>
    by_cases h20 : 20 < n0
    · have h20I : (20 : Int) < (n0 : Int) := by omega
      have hm2 : m = 20 := by rw [← HM.out, ← HTE.out, List.length_take, HN0.out]; omega
      subst hm2
      obtain ⟨b, off, hA⟩ : ∃ b off, A0 = some ⟨b, off, none⟩ := by
        obtain ⟨A', c', e, _, h3⟩ := HV.out
        obtain ⟨b, off, h4, _⟩ := h3 0 (by rw [HN0.out]; omega)
        injection e with e1 e2 e3
        exact ⟨b, off, e1.trans h4⟩
      subst hA
      have HR20 : Hid (RdS w (.slice (some ⟨b, off, none⟩) 20 c0) T) := Lib.hid (by
        obtain ⟨A', c', e, _, h3⟩ := HV.out
        injection e with e1 e2 e3
        refine ⟨_, c0, by rw [HM.out], by rw [HM.out]; omega, fun k hk => ?_⟩
        rw [HM.out] at hk
        obtain ⟨b', off', h4, h5⟩ := h3 k (by rw [HN0.out]; omega)
        rw [← e1] at h4
        refine ⟨b', off', h4, ?_⟩
        rw [h5, ← HTE.out, List.getD_eq_getElem?_getD, List.getD_eq_getElem?_getD, List.getElem?_take, if_pos hk])
      go_wp2_with fail
      go_meet
      exact ⟨_, _, rfl, HR20, HOB, by omega, rfl⟩
    · have h20I : ¬ (20 : Int) < (n0 : Int) := by omega
      have hm2 : m = n0 := by rw [← HM.out, ← HTE.out, List.length_take, HN0.out]; omega
      subst hm2
      have HR20 : Hid (RdS w (.slice A0 m c0) T) := Lib.hid (by
        rw [← HTE.out, List.take_of_length_le (by rw [HN0.out]; omega)]
        exact HV.out)
      go_wp2_with fail
      go_meet
      exact ⟨_, _, rfl, HR20, HOB, hcc, rfl⟩
  case rest =>
    obtain ⟨A, c, hs0, HR, HO, hmc, hwc⟩ := hcut
    subst hwc hs0
    clear HV HOB HN0 HTE hcc hl
    obtain ⟨w, rfl⟩ : ∃ wx : World, wx = wc := ⟨_, rfl⟩
    go_upto_block 0 with fail
    go_cut [5] from 6 to 52 (fun s5 wx => Hid (OwnT wx w.heap.size s5 (addLS [] T)) ∧ Hid (Below w.heap.size w wx))
    case first =>
      go_wp2_with fail
      go_loopg [29, 5] m (fun f' iv tv wr => ∃ (k : Nat), k ≤ m ∧ m - k ≤ f' ∧ iv = .int .i64 (k : Int) ∧ Hid (OwnT wr w.heap.size tv (addLS [] (T.take k))) ∧ Hid (Below w.heap.size w wr))
      case atStart => exact ⟨0, Nat.zero_le _, by omega, rfl, Lib.hid (ownT_none _ _), Lib.hid (Below.refl _ _)⟩
      case round =>
        obtain ⟨k, hk, hfk, hkv, HU, HBW⟩ := hrel
        subst hkv
        have hws := HBW.out.size
        by_cases hkm : k < m
        · have hkI : (k : Int) < (m : Int) := by omega
          obtain ⟨b, off, rfl, p1⟩ : ∃ b off, A = some ⟨b, off, none⟩ ∧ wr.cell? ⟨b, off + k, none⟩ = some (.string (str (T.getD k []))) := by
            obtain ⟨A', c', e, _, h3⟩ := HR.out.under HBW.out
            injection e with e1 e2 e3
            obtain ⟨b, off, h4, h5⟩ := h3 k (by rw [HM.out]; exact hkm)
            exact ⟨b, off, e1.trans h4, h5⟩
          obtain ⟨t, ht⟩ : ∃ t, T.getD k [] = t := ⟨_, rfl⟩
          rw [ht] at p1
          have HTT : Hid (∀ c ∈ t, c < 256) := Lib.hid (by
            rw [← ht, List.getD_eq_getElem?_getD, List.getElem?_eq_getElem (by rw [HM.out]; exact hkm)]
            exact HTB.out _ (List.getElem_mem _))
          have HTK : Hid (T.take (k + 1) = T.take k ++ [t]) := Lib.hid (by rw [List.take_succ_eq_append_getElem (by rw [HM.out]; exact hkm), ← ht, List.getD_eq_getElem?_getD, List.getElem?_eq_getElem (by rw [HM.out]; exact hkm)]; rfl)
          obtain ⟨U, hU⟩ : ∃ U, addLS [] (T.take k) = U := ⟨_, rfl⟩
          have HUB : Hid (∀ s ∈ U, ∀ c ∈ s, c < 256) := Lib.hid (fun s hs => by
            rw [← hU] at hs
            rcases addLS_sub _ _ _ hs with h | h
            · simp at h
            · exact HTB.out s (List.mem_of_mem_take h))
          have HUL : Hid (U.length ≤ 20) := Lib.hid (by
            rw [← hU]
            have h1 := addLS_le (T.take k)
            have h2 := HTL.out
            rw [List.length_take] at h1
            omega)
          have HUN : Hid (addLS [] (T.take (k + 1)) = if t ∈ U then U else U ++ [t]) := Lib.hid (by rw [HTK.out, addLS_snoc, hU])
          rw [hU] at HU
          clear ht hU
          obtain ⟨Au, cu, htv, hcu⟩ := HU.out.shapeS
          obtain ⟨un, hun⟩ : ∃ q, U.length = q := ⟨_, rfl⟩
          rw [hun] at htv
          subst htv
          have HUE := Lib.hid hun
          have hunB : un ≤ 20 := by rw [← hun]; exact HUL.out
          clear hun hcu
          go_upto_block 2 with fail
          go_cut [8, 10] from 33 to 45 (fun s8 s10 wq => s8 = .bool (decide (t ∈ U)) ∧ wq = wr)
          case first =>
            go_wp2_with fail
            go_loopg [35, 8, 10] un (fun f' iv bv xv wq => ∃ (q : Nat), q ≤ un ∧ un - q ≤ f' ∧ iv = .int .i64 (q : Int) ∧ bv = .bool (decide (t ∈ U.take q)) ∧ wq = wr)
            case atStart => exact ⟨0, Nat.zero_le _, by omega, rfl, by simp, rfl⟩
            case round =>
              obtain ⟨q, hq, hfq, hqv, hbv, hwq⟩ := hrel
              subst hqv hwq hbv
              by_cases hqn : q < un
              · have hqI : (q : Int) < (un : Int) := by omega
                have hop := HU.out.open (i := q) (by rw [HUE.out]; exact hqn)
                rw [HUE.out] at hop
                obtain ⟨r2, ca2, hr2, _, _, _, hcell⟩ := hop
                injection hr2 with hr21 hr22 hr23
                subst hr21
                have p2 := (hcell q hqn).1
                obtain ⟨y, hy⟩ : ∃ y, U.getD q [] = y := ⟨_, rfl⟩
                rw [hy] at p2
                have HUT : Hid (U.take (q + 1) = U.take q ++ [y]) := Lib.hid (by rw [List.take_succ_eq_append_getElem (by rw [HUE.out]; exact hqn), ← hy, List.getD_eq_getElem?_getD, List.getElem?_eq_getElem (by rw [HUE.out]; exact hqn)]; rfl)
                have hyB : ∀ c ∈ y, c < 256 := by
                  rw [← hy, List.getD_eq_getElem?_getD, List.getElem?_eq_getElem (by rw [HUE.out]; exact hqn)]
                  exact HUB.out _ (List.getElem_mem _)
                have hse := str_same hyB HTT.out
                clear hcell hr22 hr23 hy hyB
                by_cases hin : t ∈ U.take q
                · have HV : Hid (decide (t ∈ U.take (q + 1)) = true) := Lib.hid (decide_eq_true (by rw [HUT.out]; simp [hin]))
                  rw [decide_eq_true hin]
                  clear hin hse
                  go_wp2_with fail
                  go_roundg (un - (q + 1))
                  case measure => omega
                  case rel => exact ⟨q + 1, hqn, by omega, by go_num, by rw [HV.out], rfl⟩
                · rw [decide_eq_false hin]
                  by_cases hd : y = t
                  · have HV : Hid (decide (t ∈ U.take (q + 1)) = true) := Lib.hid (decide_eq_true (by rw [HUT.out]; simp [hd]))
                    rw [decide_eq_true hd] at hse
                    clear hin hd
                    go_wp2_with fail
                    go_roundg (un - (q + 1))
                    case measure => omega
                    case rel => exact ⟨q + 1, hqn, by omega, by go_num, by rw [HV.out], rfl⟩
                  · have HV : Hid (decide (t ∈ U.take (q + 1)) = false) := Lib.hid (decide_eq_false (by
                      rw [HUT.out]
                      have hd' : ¬ t = y := fun e => hd e.symm
                      simp [hin, hd']))
                    rw [decide_eq_false hd] at hse
                    clear hin hd
                    go_wp2_with fail
                    go_roundg (un - (q + 1))
                    case measure => omega
                    case rel => exact ⟨q + 1, hqn, by omega, by go_num, by rw [HV.out], rfl⟩
              · obtain rfl : q = un := by omega
                have HV : Hid (decide (t ∈ U.take q) = decide (t ∈ U)) := Lib.hid (by rw [List.take_of_length_le (by rw [HUE.out]; exact Nat.le_refl _)])
                have hqI : ¬ (q : Int) < (q : Int) := by omega
                rw [HV.out]
                go_wp2_with fail
                go_meet
                exact ⟨rfl, rfl⟩
          case rest =>
            obtain ⟨hs8, hwq⟩ := hcut
            subst hs8 hwq
            obtain ⟨wr, rfl⟩ : ∃ wx : World, wx = wc := ⟨_, rfl⟩
            by_cases hin : t ∈ U
            · rw [decide_eq_true hin]
              have HU2 : Hid (OwnT wr w.heap.size (.slice Au un cu) (addLS [] (T.take (k + 1)))) := Lib.hid (by rw [HUN.out, if_pos hin]; exact HU.out)
              clear hin
              go_wp2_with fail
              go_roundg (m - (k + 1))
              case measure => omega
              case rel => exact ⟨k + 1, hkm, by omega, by go_num, HU2, HBW⟩
            · rw [decide_eq_false hin]
              have HU2 : Hid (addLS [] (T.take (k + 1)) = U ++ [t]) := Lib.hid (by rw [HUN.out, if_neg hin])
              clear hin
              go_wp2_with (first
                | (at_builtin; refine wpList_append_textT 22 Try.underlying22 rfl _ _ rfl w.heap.size (.slice Au un cu) _ wr.heap.size t rfl (HU.out.under ((Below.refl _ _).alloc (Nat.le_refl _) _)) rfl (cell_new_text wr _ _) (by have := HUL.out; omega) (by simp; omega) ?_; intro tv6 w6 ho6 hg6 hat6
                   have HO6 : Hid (OwnT w6 w.heap.size tv6 (addLS [] (T.take (k + 1)))) := Lib.hid (by rw [HU2.out]; exact ho6)
                   have HB6 : Hid (Below w.heap.size w w6) := Lib.hid (HBW.out.trans (((Below.refl _ _).alloc hws _).trans ((Below.refl _ _).grown hg6 (by simp; omega) fun k hk => (HU.out.lt k hk).1)))
                   clear ho6 hg6 hat6)
                | fail)
              go_roundg (m - (k + 1))
              case measure => omega
              case rel => exact ⟨k + 1, hkm, by omega, by go_num, HO6, HB6⟩
        · obtain rfl : k = m := by omega
          have hkI : ¬ (k : Int) < (k : Int) := by omega
          have HUF : Hid (OwnT wr w.heap.size u5 (addLS [] T)) := Lib.hid (by
            have h1 := HU.out
            rw [List.take_of_length_le (by rw [HM.out]; exact Nat.le_refl _)] at h1
            exact h1)
          go_wp2_with fail
          go_meet
          exact ⟨HUF, HBW⟩
    case rest =>
      obtain ⟨HU, HBW⟩ := hcut
      obtain ⟨w1, rfl⟩ : ∃ wx : World, wx = wc := ⟨_, rfl⟩
      obtain ⟨AU, cU, hu5, _⟩ := HU.out.shapeS
      obtain ⟨un, hun⟩ : ∃ q, (addLS [] T).length = q := ⟨_, rfl⟩
      rw [hun] at hu5
      subst hu5
      have HUE := Lib.hid hun
      have HR1 := Lib.hid (HR.out.under HBW.out)
      clear hun
      go_upto_block 4 with fail
      go_cut [11] from 12 to 62 (fun s11 wx => s11 = .string (str (flatL T)) ∧ wx = w1)
      case first =>
        go_wp2_with fail
        go_loopg [55, 11] m (fun f' iv tv wr => ∃ (k : Nat), k ≤ m ∧ m - k ≤ f' ∧ iv = .int .i64 (k : Int) ∧ tv = .string (str (flatL (T.take k))) ∧ wr = w1)
        case atStart => exact ⟨0, Nat.zero_le _, by omega, rfl, rfl, rfl⟩
        case round =>
          obtain ⟨k, hk, hfk, hkv, htv, hwr⟩ := hrel
          subst hkv htv hwr
          obtain ⟨w1, rfl⟩ : ∃ wx : World, wx = wr := ⟨_, rfl⟩
          by_cases hkm : k < m
          · have hkI : (k : Int) < (m : Int) := by omega
            obtain ⟨b, off, rfl, p1⟩ : ∃ b off, A = some ⟨b, off, none⟩ ∧ w1.cell? ⟨b, off + k, none⟩ = some (.string (str (T.getD k []))) := by
              obtain ⟨A', c', e, _, h3⟩ := HR1.out
              injection e with e1 e2 e3
              obtain ⟨b, off, h4, h5⟩ := h3 k (by rw [HM.out]; exact hkm)
              exact ⟨b, off, e1.trans h4, h5⟩
            obtain ⟨t, ht⟩ : ∃ t, T.getD k [] = t := ⟨_, rfl⟩
            rw [ht] at p1
            have HTK : Hid (flatL (T.take (k + 1)) = flatL (T.take k) ++ t) := Lib.hid (by rw [List.take_succ_eq_append_getElem (by rw [HM.out]; exact hkm), ← flatL_snoc, ← ht, List.getD_eq_getElem?_getD, List.getElem?_eq_getElem (by rw [HM.out]; exact hkm)]; rfl)
            have hl1 : (flatL (T.take (k + 1))).length ≤ 2000000 := by
              have h1 := flatten_take_le T (k + 1)
              have h2 := HTF.out
              simp only [flatL, List.length_cons]
              omega
            rw [HTK.out, List.length_append] at hl1
            obtain ⟨l, hl⟩ : ∃ l, flatL (T.take k) = l := ⟨_, rfl⟩
            rw [hl] at hl1 HTK ⊢
            have hfit : ¬ 9223372036854775807 < (str l).size + (str t).size := str_fits (by omega)
            have hadd := str_add l t
            clear ht hl hl1
            go_wp2_with fail
            go_roundg (m - (k + 1))
            case measure => omega
            case rel => exact ⟨k + 1, hkm, by omega, by go_num, by rw [HTK.out], rfl⟩
          · obtain rfl : k = m := by omega
            have hkI : ¬ (k : Int) < (k : Int) := by omega
            have HFE : Hid (T.take k = T) := Lib.hid (List.take_of_length_le (by rw [HM.out]; exact Nat.le_refl _))
            rw [HFE.out]
            go_wp2_with fail
            go_meet
            exact ⟨rfl, rfl⟩
      case rest =>
        obtain ⟨hs11, hwr⟩ := hcut
        subst hs11 hwr
        obtain ⟨w1, rfl⟩ : ∃ wx : World, wx = wc := ⟨_, rfl⟩
        obtain ⟨s, hs3, hand⟩ := and_3K a1
        have hmk1 := fun W => run_make_row' (P := Try.prog) 22 9 (.string ⟨#[]⟩) 16 Try.underlying22 infoText' rfl .i64 .i64 s (by omega) (by omega) W
        go_upto_block 6 with fail
        obtain ⟨w2, hw2⟩ : ∃ W, (w1.alloc (.cells (madeCells #[.string ⟨#[]⟩] s) 9)).alloc (.cells #[.slice (some ⟨w1.heap.size, 0, none⟩) s s] 22) = W := ⟨_, rfl⟩
        obtain ⟨rb, hrb⟩ : ∃ q, w1.heap.size = q := ⟨_, rfl⟩
        have HB12 : Hid (Below w1.heap.size w1 w2) := Lib.hid (by rw [← hw2]; exact ((Below.refl _ _).alloc (Nat.le_refl _) _).alloc (by simp) _)
        have HSA2 : Hid (TextsAt w2 (rb + 1) rb s (stk (flatL T) s 0)) := Lib.hid (by
          rw [← hw2, ← hrb, made_texts', stk_zero]
          have h1 := heap_alloc_new (w1.alloc (.cells (rowT (List.replicate s [])).toArray 9)) (.cells #[.slice (some ⟨w1.heap.size, 0, none⟩) s s] 22)
          rw [World.size_alloc] at h1
          exact ⟨h1, Blk.alloc (heap_alloc_new w1 _) _, by simp⟩)
        have HRB := Lib.hid hrb
        rw [hw2, hrb]
        clear hw2 hrb hmk1 hand
        have HFL : Hid ((flatL T).length ≤ 1100000) := Lib.hid (by
          have h2 := HTF.out
          simp only [flatL, List.length_cons]
          omega)
        go_cut [15] from 66 to 78 (fun s15 wx => Hid (TextsAt wx (rb + 1) rb s (stk (flatL T) s s)) ∧ Hid (Below rb w2 wx))
        case first =>
          go_wp2_with fail
          go_loopg [68, 15] s (fun f' iv xv wr => ∃ (i : Nat), i ≤ s ∧ s - i ≤ f' ∧ iv = .int .i64 (i : Int) ∧ Hid (TextsAt wr (rb + 1) rb s (stk (flatL T) s i)) ∧ Hid (Below rb w2 wr))
          case atStart => exact ⟨0, Nat.zero_le _, by omega, rfl, HSA2, Lib.hid (Below.refl _ _)⟩
          case round =>
            obtain ⟨i, hi, hfi, hiv, HSA, HBW2⟩ := hrel
            subst hiv
            by_cases his : i < s
            · have hiI : (i : Int) < (s : Int) := by omega
              have hi := his
              have q0 : wr.drew.cell? ⟨rb + 1, 0, none⟩ = some (.slice (some ⟨rb, 0, none⟩) s s) := HSA.out.var.at 0
              have hdl : (Nm.dec i).length ≤ 3 := Nm.dec_len (by omega) (by omega)
              have hfit : ¬ 9223372036854775807 < (str (flatL T)).size + (str (Nm.dec i)).size := str_fits (by have := HFL.out; omega)
              have hadd := str_add (flatL T) (Nm.dec i)
              go_upto_region 26 with fail
            -- REGION26
              refine wp_region_noPanic ?_
              refine wp_region_held_drew (S := fun w' => w'.cell? ⟨rb + 1, 0, none⟩ = some (.slice (some ⟨rb, 0, none⟩) s s)) (by kernel_rfl) (q0) (fun hHeld => ?_)
              refine takeW 0 (some 71) (oi := ?oT1) (v := ?vT1) ?hiT1 ?hdT1 (by kernel_rfl) (by kernel_rfl) (by kernel_rfl) (fun _ _ _ h => h) ?hwT1 ?hyT1 hHeld ?_
              case hiT1 => (simp only [List.getElem?_toArray, List.getElem?_cons_zero]; with_reducible rfl)
              case hdT1 => rfl
              case hwT1 => rfl
              case hyT1 => (intro w hSw; (try dsimp only at hSw); go_simp; first | done | with_reducible rfl)
              try simp only [Act.put]
              try simp only [List.setIfInBounds_toArray, List.set_cons_zero, List.set_cons_succ]
              refine takeW 1 (some 72) (oi := ?oT2) (v := ?vT2) ?hiT2 ?hdT2 (by kernel_rfl) (by kernel_rfl) (by kernel_rfl) (fun _ _ _ h => h) ?hwT2 ?hyT2 hHeld ?_
              case hiT2 => (simp only [List.getElem?_toArray, List.getElem?_cons_succ, List.getElem?_cons_zero]; with_reducible rfl)
              case hdT2 => rfl
              case hwT2 => rfl
              case hyT2 => (intro w hSw; (try dsimp only at hSw); go_simp; first | done | with_reducible rfl)
              try simp only [Act.put]
              try simp only [List.setIfInBounds_toArray, List.set_cons_zero, List.set_cons_succ]
              refine takeW 2 (some 73) (oi := ?oT3) (v := ?vT3) ?hiT3 ?hdT3 (by kernel_rfl) (by kernel_rfl) (by kernel_rfl) (fun _ _ _ h => h) ?hwT3 ?hyT3 hHeld ?_
              case hiT3 => (simp only [List.getElem?_toArray, List.getElem?_cons_succ, List.getElem?_cons_zero]; with_reducible rfl)
              case hdT3 => rfl
              case hwT3 => rfl
              case hyT3 => (intro w hSw; (try dsimp only at hSw); go_simp; first | done | with_reducible rfl)
              try simp only [Act.put]
              try simp only [List.setIfInBounds_toArray, List.set_cons_zero, List.set_cons_succ]
              refine takeW 3 (some 74) (oi := ?oT4) (v := ?vT4) ?hiT4 ?hdT4 (by kernel_rfl) (by kernel_rfl) (by kernel_rfl) (fun _ _ _ h => h) ?hwT4 ?hyT4 hHeld ?_
              case hiT4 => (simp only [List.getElem?_toArray, List.getElem?_cons_succ, List.getElem?_cons_zero]; with_reducible rfl)
              case hdT4 => rfl
              case hwT4 => rfl
              case hyT4 => (intro w hSw; (try dsimp only at hSw); go_simp; first | done | with_reducible rfl)
              try simp only [Act.put]
              try simp only [List.setIfInBounds_toArray, List.set_cons_zero, List.set_cons_succ]
              refine stepOne 4 (o := ?oT5) ?hiT5 (by kernel_rfl) ?hwT5 (fun K hK => ?_)
              case hiT5 => (simp only [List.getElem?_toArray, List.getElem?_cons_succ, List.getElem?_cons_zero]; with_reducible rfl)
              case hwT5 => rfl
              go_simp
              go_at_call 9
              refine (refdec_any i _ (by omega)).mono ?_
              rintro e w5 ⟨rfl, hb5⟩
              have HB5 : Hid (Below wr.heap.size wr w5) := Lib.hid (((Below.refl _ _).drew).trans (hb5.mono (Nat.le_refl _)))
              have q5 := (HSA.out.under HB5.out).var.at 0
              clear hb5
              refine hK.out _ _ ?_ (fun hHeld => ?_)
              · exact q5
              clear hK K
              try simp only [Act.put]
              try simp only [List.setIfInBounds_toArray, List.set_cons_zero, List.set_cons_succ]
              refine takeW 5 (some 76) (oi := ?oT6) (v := ?vT6) ?hiT6 ?hdT6 (by kernel_rfl) (by kernel_rfl) (by kernel_rfl) (fun _ _ _ h => h) ?hwT6 ?hyT6 hHeld ?_
              case hiT6 => (simp only [List.getElem?_toArray, List.getElem?_cons_succ, List.getElem?_cons_zero]; with_reducible rfl)
              case hdT6 => rfl
              case hwT6 => rfl
              case hyT6 => (intro w hSw; (try dsimp only at hSw); go_simp; first | done | with_reducible rfl)
              try simp only [Act.put]
              try simp only [List.setIfInBounds_toArray, List.set_cons_zero, List.set_cons_succ]
              refine takeW 6 (some 77) (oi := ?oT7) (v := ?vT7) ?hiT7 ?hdT7 (by kernel_rfl) (by kernel_rfl) (by kernel_rfl) (fun _ _ _ h => h) ?hwT7 ?hyT7 hHeld ?_
              case hiT7 => (simp only [List.getElem?_toArray, List.getElem?_cons_succ, List.getElem?_cons_zero]; with_reducible rfl)
              case hdT7 => rfl
              case hwT7 => rfl
              case hyT7 => (intro w hSw; (try dsimp only at hSw); go_simp; first | done | with_reducible rfl)
              try simp only [Act.put]
              try simp only [List.setIfInBounds_toArray, List.set_cons_zero, List.set_cons_succ]
              refine stepOne 7 (o := ?oT8) ?hiT8 (by kernel_rfl) ?hwT8 (fun K hK => ?_)
              case hiT8 => (simp only [List.getElem?_toArray, List.getElem?_cons_succ, List.getElem?_cons_zero]; with_reducible rfl)
              case hwT8 => rfl
              have hfr : w5.frozen? ⟨rb, i, none⟩ = false := (HSA.out.under HB5.out).row.free i
              have hce := (HSA.out.under HB5.out).cell hi
              go_simp
              have HS6 : Hid (TextsAt (w5.setCell ⟨rb, i, none⟩ (.string (str (flatL T ++ Nm.dec i)))) (rb + 1) rb s (stk (flatL T) s (i + 1))) := Lib.hid (by rw [stk_succ]; exact (HSA.out.under HB5.out).set i _ (by omega))
              clear hfr hce
              refine hK.out _ _ ?_ (fun hHeld => ?_)
              · exact HS6.out.var.at 0
              clear hK K
              try simp only [Act.put]
              try simp only [List.setIfInBounds_toArray, List.set_cons_zero, List.set_cons_succ]
              refine wpAnyH_done (by kernel_rfl) ?_ _
              refine NoPanic.normal ?_
              skip
            -- END26
              have HB6 : Hid (Below rb w2 (w5.setCell ⟨rb, i, none⟩ (.string (str (flatL T ++ Nm.dec i))))) := Lib.hid ((HBW2.out.trans (HB5.out.mono (by have := HBW2.out.size; have := HSA2.out.row.size; omega))).setCell (p := ⟨rb, i, none⟩) (Nat.le_refl _) _)
              clear hadd hfit hHeld q5
              go_wp2_with fail
              go_roundg (s - (i + 1))
              case measure => omega
              case rel => exact ⟨i + 1, his, by omega, by go_num, HS6, HB6⟩
            · obtain rfl : i = s := by omega
              have hiI : ¬ (i : Int) < (i : Int) := by omega
              go_wp2_with fail
              go_meet
              exact ⟨HSA, HBW2⟩
        case rest =>
          obtain ⟨HSA, HB23⟩ := hcut
          obtain ⟨w3, rfl⟩ : ∃ wx : World, wx = wc := ⟨_, rfl⟩
          obtain ⟨ST, hST⟩ : ∃ l, stk (flatL T) s s = l := ⟨_, rfl⟩
          have HSTM : Hid (∀ t ∈ ST, (∃ u, t = flatL T ++ u) ∧ ∀ c ∈ t, c < 256) := Lib.hid (fun t ht => by
            rw [← hST] at ht
            obtain ⟨j, hj, rfl⟩ := stk_mem ht
            refine ⟨⟨_, rfl⟩, fun c hc => ?_⟩
            rcases List.mem_append.1 hc with hc | hc
            · simp only [flatL, List.mem_cons, List.mem_flatten] at hc
              rcases hc with rfl | ⟨l, hl, hc⟩
              · omega
              · exact HTB.out l hl c hc
            · have hj3 : j = 0 ∨ j = 1 ∨ j = 2 := by omega
              rcases hj3 with rfl | rfl | rfl
              · have e : Nm.dec 0 = [48] := by kernel_rfl
                rw [e] at hc; simp at hc; omega
              · have e : Nm.dec 1 = [49] := by kernel_rfl
                rw [e] at hc; simp at hc; omega
              · have e : Nm.dec 2 = [50] := by kernel_rfl
                rw [e] at hc; simp at hc; omega)
          rw [hST] at HSA
          have HSL : Hid (ST.length = s) := Lib.hid (by rw [← hST, stk_len])
          clear hST
          have HB13 : Hid (Below w1.heap.size w1 w3) := Lib.hid (HB12.out.trans (by rw [HRB.out]; exact HB23.out))
          have HB03 : Hid (Below w.heap.size w w3) := Lib.hid (HBW.out.trans (HB13.out.mono HBW.out.size))
          have HU3 := Lib.hid (HU.out.under HB13.out)
          have HR3 := Lib.hid (HR.out.under HB03.out)
          have HOR := Lib.hid (order_anyS (l := T) (f := fun _ => ST) 10 HTB.out (fun x _ t ht => (HSTM.out t ht).2) HR3.out (fun k hk => Nat.lt_of_lt_of_le (HO.out k hk) HB03.out.size) (by have := HTL.out; omega) (by omega)
            (kinds1_ahead (D := fun x => x ∈ addLS [] T) HSA.out.var HSA.out.rdS (fun k hk => by injection hk with hk; rw [← hk]; exact HSA.out.row.size)) (fun x _ => by show ST.length ≤ 10; rw [HSL.out]; omega))
          clear HR1 HB12 HSA2 HB23
          go_wp2_with fail
          refine HOR.out.mono ?_
          rintro e w4 ⟨hoi4, hb4⟩
          obtain ⟨v4, rfl, ho4⟩ := orderS_none (fun x hx t ht hm => by
            obtain ⟨u, rfl⟩ := (HSTM.out t ht).1
            rcases addLS_sub _ _ _ hm with h | h
            · simp at h
            · exact flatL_apart T u h) hoi4
          clear hoi4
          have HO4 := Lib.hid ho4
          have HB34 := Lib.hid hb4
          obtain ⟨A4, c4, hv4, _⟩ := ho4.shapeS
          rw [HUE.out] at hv4
          subst hv4
          clear ho4 hb4 HOR
          have HB04 := Lib.hid (HB03.out.trans (HB34.out.mono HB03.out.size))
          have HU4 := Lib.hid (HU3.out.under HB34.out)
          go_wp2_with fail
          refine (kinds2_call _).mono ?_
          rintro e w5 ⟨⟨A5, c5, rfl⟩, hb5⟩
          have HB05 := Lib.hid (HB04.out.trans (hb5.mono HB04.out.size))
          have HU5 := Lib.hid (HU4.out.under hb5)
          have HO5 := Lib.hid (HO4.out.under hb5)
          clear hb5
          have knil := fun (W : World) (f : Fn) (a b : Array Value) => run_eql_func_nil (P := Try.prog) W f a b Try.underlying32
          go_upto_region 31 with fail
          obtain ⟨w6, hw6⟩ : ∃ W, w5.alloc (.cells #[.int .i64 0] 3) = W := ⟨_, rfl⟩
          obtain ⟨pn, hpn⟩ : ∃ q, w5.heap.size = q := ⟨_, rfl⟩
          have HPN : Hid (Blk w6 pn 3 #[.int .i64 0]) := Lib.hid (by rw [← hw6, ← hpn]; exact heap_alloc_new w5 _)
          have HB56 : Hid (Below w5.heap.size w5 w6) := Lib.hid (by rw [← hw6]; exact bel_alloc w5 _)
          rw [hw6, hpn]
          clear hw6 hpn
          go_wp2_with fail
          refine (reach_any 15 #[] (rdN_none w6) (by simp)).mono ?_
          rintro e w7 ⟨p7, q7, v7, rfl, hr7, hp7, hq7, hb7⟩
          have HR7 := Lib.hid hr7
          have HPN7 := Lib.hid (HPN.out.under hb7)
          have HB57 := Lib.hid (HB56.out.trans (hb7.mono HB56.out.size))
          have HB07 := Lib.hid (HB05.out.trans (HB57.out.mono HB05.out.size))
          have HF0 : Hid (∀ j, ReachReads p7 q7 v7 (fun _ => False) j → j < w7.heap.size) := Lib.hid (fun j hj => by
            rcases hj with rfl | rfl | hj | hj
            · exact HR7.out.from'.size
            · exact HR7.out.fn.size
            · exact (HR7.out.row.lt j hj).2
            · exact hj.elim)
          clear hr7 hp7 hq7 hb7
          go_wp2_with fail
          refine wp_rangeH (brk := 8) (gf := 40) (lb := #[.pointer (some ⟨p7, 0, none⟩), .pointer (some ⟨q7, 0, none⟩)]) rfl (enters_of Try.func40 (by kernel_rfl) rfl)
            (kinds3_iter HR7.out) (Nat.le_refl _) (fun j hj => ⟨HF0.out j hj, rfl⟩) (fun _ => rfl)
            (fun k F W => Below w7.heap.size w7 W) (fun _ => False) ?hI (fun _ _ _ _ h => h.elim) ?hmono (Below.refl _ _)
            (fun x : Nat => { tmps := #[Value.slice A m c, Value.int IntKind.i64 a1, undef, undef, Value.bool false, Value.slice AU un cU, u6, u7, u8, u9, u10, Value.string (str (flatL T)), u12, u13, Value.pointer (some { block := rb + 1, off := 0 }), u15, Value.slice A4 un c4, Value.bool true, Value.slice A5 0 c5, Value.bool true, Value.pointer (some { block := pn, off := 0 }), Value.func (.func 40) #[] #[Value.pointer (some { block := p7, off := 0 }), Value.pointer (some { block := q7, off := 0 })], u22, u23, u24, u25, u26, u27, u28, u29, u30, u31, u32, u33, u34, u35, u36, u37, u38, u39, u40, u41, u42, u43, u44, u45, u46, u47, u48, u49, u50, u51, u52, u53, u54, u55, u56, u57, u58, u59, u60, u61, u62, Value.int IntKind.i64 a1, Value.int IntKind.i64 (s : Int), Value.slice (some { block := rb, off := 0 }) s s, u66, u67, u68, u69, u70, u71, u72, u73, u74, u75, u76, u77, u78, Value.tuple #[Value.slice A4 un c4, Value.bool true], Value.slice A m c, Value.func (.func 11) #[] #[Value.pointer (some { block := rb + 1, off := 0 })], Value.tuple #[Value.slice A4 un c4, Value.bool true], Value.slice A4 un c4, Value.bool true, Value.tuple #[Value.slice A5 0 c5, Value.bool true], Value.tuple #[Value.slice A5 0 c5, Value.bool true], Value.slice A5 0 c5, Value.bool true, Value.func (.func 40) #[] #[Value.pointer (some { block := p7, off := 0 }), Value.pointer (some { block := q7, off := 0 })], Value.func (.func 40) #[] #[Value.pointer (some { block := p7, off := 0 }), Value.pointer (some { block := q7, off := 0 })], Value.bool false, Value.func (.func 40) #[] #[Value.pointer (some { block := p7, off := 0 }), Value.pointer (some { block := q7, off := 0 })], .int .i64 (x : Int), undef, undef, undef, undef, undef, undef, undef, undef, undef, undef, undef, undef, undef, undef, undef, undef, undef, undef, undef, undef, undef, undef, undef], defers := [] })
            ?assign ?body ?done (fun _ _ _ h => h.elim)
          case hI =>
            intro F k A' B' row h hg hr
            exact h.trans ((Below.refl _ _).grown hg h.size (fun r e => (hr r e).1))
          case hmono =>
            intro k F A' B' hF h hmv
            exact h.trans (hmv.below h.size (fun j e => hF j e))
          case assign =>
            intro l' x W K hK
            gi_wp2
            exact hK
          case body =>
            intro l' k F W hk
            exact absurd hk (Nat.not_lt_zero _)
          case done =>
            rintro Dn F W hDn hbW hK
            have HBW7 := Lib.hid hbW
            have HK := Lib.hid hK
            have HDN := Lib.hid hDn
            have HU8 := Lib.hid ((HU5.out.under HB57.out).under hbW)
            have HO8 := Lib.hid ((HO5.out.under HB57.out).under hbW)
            have n0 : W.cell? ⟨pn, 0, none⟩ = some (.int .i64 0) := (HPN7.out.under hbW).at 0
            have HTA : Hid (∀ s ∈ addLS [] T, ∀ c ∈ s, c < 256) := Lib.hid (fun s hs => by
              rcases addLS_sub _ _ _ hs with h | h
              · simp at h
              · exact HTB.out s h)
            have HTAL : Hid ((addLS [] T).length ≤ 1099511627776) := Lib.hid (by have h1 := addLS_le T; have h2 := HTL.out; omega)
            clear hbW hK hDn
            go_wp2_with fail
            refine (sametexts_any (addLS [] T) (addLS [] T) _ _ W w3.heap.size w.heap.size HO8.out HU8.out HTA.out HTA.out HTAL.out HTAL.out).mono ?_
            rw [decide_eq_true rfl]
            rintro e w9 ⟨rfl, hb9⟩
            have HB9 := Lib.hid hb9
            have n1 : w9.cell? ⟨pn, 0, none⟩ = some (.int .i64 0) := cell_later hb9 n0
            clear hb9 n0
            go_wp2_with fail
            refine (grphawake_any _).mono ?_
            rintro e w10 ⟨rfl, hb10⟩
            have HB10 : Hid (Below W.heap.size W w10) := Lib.hid (HB9.out.trans (hb10.mono HB9.out.size))
            have HKD : Hid (w10.heap[Dn]? = some (.deferred (some []))) := Lib.hid ((HB10.out.block Dn (Array.getElem?_eq_some_iff.1 HK.out).1).trans HK.out)
            have HEND : Hid (Below w.heap.size w w10) := Lib.hid ((HB07.out.trans (HBW7.out.mono HB07.out.size)).trans (HB10.out.mono (Nat.le_trans HB07.out.size HBW7.out.size)))
            clear hb10 n1
            go_wp2_with fail
            refine ⟨by simp, .inl ⟨_, _, rfl, run_takeDeferred HKD.out, ?_⟩⟩
            refine ⟨_, results_tmp rfl _ _ _, rfl, ?_⟩
            refine HEND.out.trans ((Below.refl _ _).grown (grownBy_putObj' _ Dn _) HEND.out.size ?_)
            rintro _ ⟨⟩
            have h1 := HDN.out
            have h2 := HB07.out.size
            omega
end Go.Proofs.Ytopenbeakejohaa
