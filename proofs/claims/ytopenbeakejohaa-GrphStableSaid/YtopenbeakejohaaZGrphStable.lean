/- fettlelaw8: GrphStable. -/
import Derived.Test.YtopenbeakejohaaZEdges
import Derived.Test.YtopenbeakejohaaZ31
namespace Go.Proofs.Ytopenbeakejohaa
set_option maxRecDepth 100000
open Go.ChangeShapes Go.WideShapes Go.ChangeAt Go.RowKit Go.Shelf

theorem run_back (P : Nat → List Nat) (N : Nat) (hP : ∀ i, i < N → ∀ a ∈ P i, a < i) : ∀ f k, k ≤ N → f = N - k → Gr.run (Gr.freeP P) N f (List.range k) = List.range N
  | 0, k, hk, hf => by
    have : k = N := by omega
    subst this
    rfl
  | f + 1, k, hk, hf => by
    have hkN : k < N := by omega
    unfold Gr.run
    have hfind : (List.range N).find? (Gr.freeP P (List.range k)) = some k := by
      rw [List.find?_eq_some_iff_getElem]
      refine ⟨?_, k, by simpa using hkN, by simp, fun j hj => ?_⟩
      · unfold Gr.freeP
        simp only [List.mem_range, Nat.lt_irrefl, not_false_eq_true, decide_true, Bool.true_and, List.all_eq_true, decide_eq_true_eq]
        exact fun a ha => hP k hkN a ha
      · unfold Gr.freeP
        simp [hj]
    rw [hfind]
    show Gr.run _ _ _ (List.range k ++ [k]) = _
    rw [← List.range_succ]
    exact run_back P N hP f (k + 1) (by omega) (by omega)
theorem order_back {n : Nat} {f : Nat → List Nat} {w w' : World} {e : Ending} (hf : ∀ i, i < n → ∀ a ∈ f i, a < i) (h : OrderIs (addL [] (List.range n)) f w e w') :
    ∃ v, e = .returned (.tuple #[v, .bool true]) ∧ OwnI w' w.heap.size v (List.range n) := by
  rw [addL_range] at h
  have hp : ∀ i, i < n → Pf (List.range n) f i = f i := pf_range f n (fun i hi a ha => Nat.lt_trans (hf i hi a ha) hi)
  have ho : Gr.ord (Pf (List.range n) f) n = List.range n := run_back _ n (fun i hi a ha => by rw [hp i hi] at ha; exact hf i hi a ha) n 0 (Nat.zero_le _) (by omega)
  unfold OrderIs at h
  rw [List.length_range, ho, List.length_range, if_neg (Nat.lt_irrefl _), map_getD_range n _ (fun t ht => List.mem_range.1 ht)] at h
  exact h
theorem and_own (x : Nat) (hx : x < 16) : bits .and .i64 (x : Int) 15 = (x : Int) := by
  have h : ∀ y : Fin 16, bits .and .i64 ((y.val : Nat) : Int) 15 = (y.val : Int) := by decide +kernel
  exact h ⟨x, hx⟩
theorem stable1_ahead {w : World} {pe : Nat} {vs : List Value} {Ls : List (List Nat)} {base : Nat} {D : Nat → Prop} (hD : ∀ x, D x → x < 16) (hb : Blk w pe 55 vs.toArray) (hl : vs.length = 16) (ho : ∀ i, i < 16 → OwnI w base (vs.getD i undef) (Ls.getD i [])) :
    AheadN w 23 #[.pointer (some ⟨pe, 0, none⟩)] (fun x => Ls.getD x []) D := by
  refine ⟨enters_of Try.func23 (by kernel_rfl) rfl, fun x wx hx hbw => ?_⟩
  have hx16 := hD x hx
  show Calls Try.prog 23 #[.int .i64 (x : Int), .pointer (some ⟨pe, 0, none⟩)] wx _
  have c0 : wx.cell? ⟨pe, x, none⟩ = some (vs.getD x undef) := by
    rw [(hb.under hbw).at x, List.getElem?_toArray, List.getD_eq_getElem?_getD, List.getElem?_eq_getElem (by rw [hl]; exact hx16)]
    rfl
  have hv := ho x hx16
  have hv' := hv.under hbw
  have hlt := hv.lt
  obtain ⟨A, c, e, _⟩ := hv.parts
  obtain ⟨n, hn⟩ : ∃ n, (Ls.getD x []).length = n := ⟨_, rfl⟩
  rw [hn] at e
  rw [e] at c0 hv' hlt
  have HV := Lib.hid hv'
  have HO := Lib.hid hlt
  have hand := and_own x hx16
  have hxI : (x : Int) < 16 := by omega
  clear hv hv' hlt e hn hb ho hbw hx hD
  go_enter Try.func23, Try.ntmps23
  go_wp2_with fail
  go_ret
  exact ⟨_, rfl, HV.out.rdN, fun k hk => .inl (HO.out k hk).2, Below.refl _ _⟩
set_option maxHeartbeats 16000000 in
theorem stable_any (a0 : Int) (v1 : Value) (zs : List Int) (w : World) (hz : Ints w v1 zs) :
    Calls Try.prog 5 #[.int .i64 a0, v1] w fun e w' => e = .returned (.bool true) ∧ Below w.heap.size w w' := by
  obtain ⟨n, hn15, hand⟩ := and_15K a0
  have HZ := Lib.hid hz
  obtain ⟨_, _, A, c, rfl, _, _⟩ := hz
  obtain ⟨m, hm⟩ : ∃ m, zs.length = m := ⟨_, rfl⟩
  rw [hm] at HZ ⊢
  clear hm
  go_enter Try.func5, Try.ntmps5
  go_wp2_with fail
  refine (edges_any w _ zs false HZ.out).mono ?_
  rintro e w1 ⟨vs, Ls, rfl, hvl, hll, ho1, hE, hb1⟩
  have HO1 := Lib.hid ho1
  have HE := Lib.hid hE
  have HB1 := Lib.hid hb1
  have HVL := Lib.hid hvl
  have HINF : Hid ((Try.prog.info? 55).map (·.size) = some vs.toArray.size) := Lib.hid (by rw [infoArr, List.size_toArray, hvl])
  have HONE : Hid (vs.toArray.all (·.oneCell') = true) := Lib.hid (by
    rw [Array.all_eq_true_iff_forall_mem]
    intro x hx
    obtain ⟨j, hj⟩ := List.getElem?_of_mem (by simpa using hx : x ∈ vs)
    have hj16 : j < 16 := by rw [← hvl]; exact (List.getElem?_eq_some_iff.1 hj).1
    have h1 := ho1 j hj16
    rw [List.getD_eq_getElem?_getD, hj] at h1
    obtain ⟨A', c', e, _⟩ := h1.parts
    simp only [Option.getD_some] at e
    subst e
    rfl)
  have HSZ : Hid (zeros.toArray.size = vs.toArray.size) := Lib.hid (by rw [List.size_toArray, List.size_toArray, hvl]; simp [zeros])
  clear ho1 hE hb1 hvl hll hand
  go_wp2_with (first
    | (refine wpList_store_row rfl 55 _ _ rfl w1.heap.size vs.toArray rfl rfl 55 zeros.toArray (heap_alloc_new w1 _) HINF.out HSZ.out HONE.out ?_)
    | fail)
  obtain ⟨w2, hw2⟩ : ∃ W, (w1.alloc (.cells zeros.toArray 55)).setRow w1.heap.size vs.toArray = W := ⟨_, rfl⟩
  obtain ⟨pe, hpe⟩ : ∃ q, w1.heap.size = q := ⟨_, rfl⟩
  have HPE : Hid (Blk w2 pe 55 vs.toArray) := Lib.hid (by rw [← hw2, ← hpe]; exact setRow_heap _ _ _ _ _ _ (heap_alloc_new w1 _))
  have HB12 : Hid (Below w1.heap.size w1 w2) := Lib.hid (by
    rw [← hw2]
    have hmv : Moves (fun k => k = w1.heap.size) (w1.alloc (.cells zeros.toArray 55)) ((w1.alloc (.cells zeros.toArray 55)).setRow w1.heap.size vs.toArray) := ⟨rfl, rfl, rfl, by simp, fun k _ hk => setRow_other _ _ _ _ hk⟩
    exact (bel_alloc w1 _).trans (hmv.below (by simp) (fun k e => by omega)))
  rw [show (#[Value.slice none 0 0, Value.slice none 0 0, Value.slice none 0 0, Value.slice none 0 0, Value.slice none 0 0, Value.slice none 0 0, Value.slice none 0 0, Value.slice none 0 0, Value.slice none 0 0, Value.slice none 0 0, Value.slice none 0 0, Value.slice none 0 0, Value.slice none 0 0, Value.slice none 0 0, Value.slice none 0 0, Value.slice none 0 0] : Array Value) = zeros.toArray from rfl, hw2, hpe]
  have HB2 : Hid (Below w.heap.size w w2) := Lib.hid (HB1.out.trans (HB12.out.mono HB1.out.size))
  have HO2 : Hid (∀ i, i < 16 → OwnI w2 w.heap.size (vs.getD i undef) (Ls.getD i [])) := Lib.hid (fun i hi => (HO1.out i hi).under HB12.out)
  clear hw2 hpe HO1 HB1 HINF HONE HSZ
  go_loopg [7, 6] n (fun f' iv tv wr => ∃ (k : Nat), k ≤ n ∧ n - k ≤ f' ∧ iv = .int .i64 (k : Int) ∧ Hid (OwnI wr w2.heap.size tv (List.range k)) ∧ Hid (Below w2.heap.size w2 wr))
  case atStart => exact ⟨0, Nat.zero_le _, by omega, rfl, Lib.hid (ownI_none _ _), Lib.hid (Below.refl _ _)⟩
  case round =>
    obtain ⟨k, hk, hfk, hkv, HT, HBW⟩ := hrel
    subst hkv
    have hws := HBW.out.size
    obtain ⟨At, ct, htv, _⟩ := HT.out.parts
    rw [List.length_range] at htv
    subst htv
    by_cases hkn : k < n
    · have hkI : (k : Int) < (n : Int) := by omega
      have HTK : Hid (List.range (k + 1) = List.range k ++ [k]) := Lib.hid List.range_succ
      go_wp2_with (first
        | (at_builtin; refine wpList_append_intT 27 Try.underlying27 rfl _ _ rfl w2.heap.size (.slice At k ct) (List.range k) wr.heap.size k rfl (HT.out.under ((Below.refl _ _).alloc (Nat.le_refl _) _)) rfl (cell_new_int wr _ _) (by rw [List.length_range]; omega) (by simp; omega) ?_; intro v6 w6 ho6 hg6 hat6
           have HO6 : Hid (OwnI w6 w2.heap.size v6 (List.range (k + 1))) := Lib.hid (by rw [HTK.out]; exact ho6)
           have HB6 : Hid (Below w2.heap.size w2 w6) := Lib.hid (HBW.out.trans (((Below.refl _ _).alloc hws _).trans ((Below.refl _ _).grown hg6 (by simp; omega) fun k hk => (HT.out.lt k hk).1)))
           clear ho6 hg6 hat6)
        | fail)
      go_roundg (n - (k + 1))
      case measure => omega
      case rel => exact ⟨k + 1, hkn, by omega, by go_num, HO6, HB6⟩
    · obtain rfl : k = n := by omega
      have hkI : ¬ (k : Int) < (k : Int) := by omega
      have HBL : Hid (∀ i, i < k → ∀ a ∈ Ls.getD i [], a < i) := Lib.hid (fun i hi a ha => ((HE.out i (by omega)).2 a ha).2 rfl)
      have HORD := Lib.hid (order_any (l := List.range k) (f := fun x => Ls.getD x []) 40 HT.out.rdN (fun j hj => (HT.out.lt j hj).2) (by rw [List.length_range]; omega) (by omega)
        (stable1_ahead (w := wr) (vs := vs) (base := w.heap.size) (D := fun x => x ∈ addL [] (List.range k)) (fun x hx => by rw [addL_range] at hx; have := List.mem_range.1 hx; omega) (HPE.out.under HBW.out) HVL.out (fun i hi => (HO2.out i hi).under HBW.out))
        (fun x hx => by rw [addL_range] at hx; have := List.mem_range.1 hx; exact (HE.out x (by omega)).1))
      go_wp2_with fail
      refine HORD.out.mono ?_
      rintro e w3 ⟨hoi, hb3⟩
      obtain ⟨v3, rfl, ho3⟩ := order_back HBL.out hoi
      have HO3 := Lib.hid ho3.rdN
      have HI3 := Lib.hid (HT.out.rdN.under hb3)
      have HB3 : Hid (Below w.heap.size w w3) := Lib.hid ((HB2.out.trans (HBW.out.mono HB2.out.size)).trans (hb3.mono (Nat.le_trans HB2.out.size hws)))
      obtain ⟨A3, c3, hv3, _⟩ := ho3.parts
      rw [List.length_range] at hv3
      subst hv3
      clear hoi ho3 hb3 HORD
      go_wp2_with fail
      refine (sameints_yes (List.range k) _ _ _ HO3.out HI3.out (by rw [List.length_range]; omega)).mono ?_
      rintro e w4 ⟨rfl, hb4⟩
      have HB4 := Lib.hid (HB3.out.trans (hb4.mono HB3.out.size))
      clear hb4
      go_wp2_with fail
      refine (grphawake_any _).mono ?_
      rintro e w5 ⟨rfl, hb5⟩
      have HB5 := Lib.hid (HB4.out.trans (hb5.mono HB4.out.size))
      clear hb5
      go_wp2_with fail
      go_ret
      exact ⟨rfl, HB5.out⟩
end Go.Proofs.Ytopenbeakejohaa
