/- fettlelaw8: GrphReach. -/
import Derived.Test.YtemliglhippdcaaZGrphStable
import Derived.Test.YtemliglhippdcaaZSeen
import Derived.Test.YtemliglhippdcaaZGrphRound
namespace Go.Proofs.Ytemliglhippdcaa
set_option maxRecDepth 100000
open Go.ChangeShapes Go.WideShapes Go.ChangeAt Go.RowKit Go.Shelf

attribute [local go_sem] Oper.semAt_some

theorem wpListIn_append_eq {F : Fence} {n : Nat} {w : World} {ops : Array Oper} {rest : List Oper} {o : Oper} {a : Act} {Q : Exit → Act → World → Prop} (hgd : o.guard = none) (s x : Operand) (T : TypeId)
    (ho : o.op = .call { callee := .builtin .append, args := #[s, x], argTypes := #[T, T] }) (v vx : Value) (hs : a.eval s = v) (hx : a.eval x = vx) {v' : Value} {w' : World} (hr : (Builtin.append_ #[T, T] o.type #[v, vx]).run Try.prog w = .ok v' w')
    (h : wpListIn F n Try.prog ops Q rest (a.put o.dst v') w') : wpListIn F n Try.prog ops Q (o :: rest) a w := by
  refine wpListIn_plain hgd fun K hK => ?_
  unfold Oper.wpIn
  refine ⟨?_, ?_⟩
  · simp [Oper.about, ho, resolve, Target.leads, Sem.run_pure]
  · rw [Oper.semAt_plain F _ _ (by rw [ho]; intro c hc'; cases hc')]
    simp only [execOp, ho, resolve, invoke, builtin, Sem.run_bind, Sem.run_pure, Result.andThen_ok, List.map_toArray, List.map_cons, List.map_nil, hs, hx, hr]
    exact hK _ _ h
theorem gr_take {w : World} {A : Option Addr} {n c q k : Nat} {l : List Nat} (h : RdN w (.slice A n c) l) (hq : (l.take k).length = q) (hqn : q ≤ n) : RdN w (.slice A q c) (l.take k) := by
  obtain ⟨A', c', e, hc, hx⟩ := h
  injection e with e1 e2 e3
  subst e1 e2 e3
  refine ⟨A, c, by rw [hq], by rw [hq]; omega, fun j hj => ?_⟩
  rw [List.length_take] at hj
  obtain ⟨b, off, rfl, hcell⟩ := hx j (by omega)
  refine ⟨b, off, rfl, ?_⟩
  rw [hcell, List.getD_eq_getElem?_getD, List.getD_eq_getElem?_getD, List.getElem?_take, if_pos (by omega)]
theorem gr_new2 (w : World) (o o' : Obj) : ((w.alloc o).alloc o').heap[w.heap.size + 1]? = some o' := by
  have := heap_alloc_new (w.alloc o) o'
  rwa [World.size_alloc] at this
theorem gr_put {w w1 : World} {B g : Nat} (h : Below B w w1) (hB : B ≤ w1.heap.size) (hg : B ≤ g) (i : Nat) (v : Value) : Below B w (w1.setCell ⟨g, i, none⟩ v) := h.grown (grown_setCell w1 ⟨g, i, none⟩ v) hB fun k hk => by injection hk with hk; rw [← hk]; exact hg
theorem reach1_ahead {w : World} {pe : Nat} {vs : List Value} {Ls : List (List Nat)} {base : Nat} (hb : Blk w pe 43 vs.toArray) (hl : vs.length = 16) (ho : ∀ i, i < 16 → OwnI w base (vs.getD i undef) (Ls.getD i [])) :
    AheadG w (fun k => k = pe ∨ ∃ i, i < 16 ∧ (vs.getD i undef).ownBlock = some k) 21 #[.pointer (some ⟨pe, 0, none⟩)] (fun x => Ls.getD x []) (fun x => x < 16) := by
  refine ⟨enters_of Try.func21 (by kernel_rfl) rfl, fun j hj => ?_, fun x wx hx16 he _ => ?_⟩
  · rcases hj with rfl | ⟨i, hi, h⟩
    · exact hb.size
    · exact ((ho i hi).lt j h).2
  show Calls Try.prog 21 #[.int .i64 (x : Int), .pointer (some ⟨pe, 0, none⟩)] wx _
  have hbx : Blk wx pe 43 vs.toArray := (he pe (.inl rfl)).trans hb
  have c0 : wx.cell? ⟨pe, x, none⟩ = some (vs.getD x undef) := by
    rw [hbx.at x, List.getElem?_toArray, List.getD_eq_getElem?_getD, List.getElem?_eq_getElem (by rw [hl]; exact hx16)]
    rfl
  have hv := ho x hx16
  have hv' : OwnI wx base (vs.getD x undef) (Ls.getD x []) := by
    obtain ⟨a1, a2⟩ := hv
    refine ⟨a1, ?_⟩
    rcases a2 with a2 | ⟨r, cap', cur, e, hb', hh, a3⟩
    · exact .inl a2
    · exact .inr ⟨r, cap', cur, e, hb', (he r (.inr ⟨x, hx16, by rw [e]; rfl⟩)).trans hh, a3⟩
  have hG : ∀ k, (vs.getD x undef).ownBlock = some k → (k = pe ∨ ∃ i, i < 16 ∧ (vs.getD i undef).ownBlock = some k) := fun k hk => .inr ⟨x, hx16, hk⟩
  obtain ⟨A, c, e, _⟩ := hv.parts
  obtain ⟨n, hn⟩ : ∃ n, (Ls.getD x []).length = n := ⟨_, rfl⟩
  rw [hn] at e
  have HE := Lib.hid e
  rw [e] at c0 hv'
  have HV := Lib.hid hv'
  have HO := Lib.hid hG
  have hxI : (x : Int) < 16 := by omega
  clear hv hv' hG e hn hb ho he hbx
  go_enter Try.func21, Try.ntmps21
  go_wp2_with fail
  go_ret
  exact ⟨_, rfl, HV.out.rdN, fun k hk => .inl (HO.out k (by rw [HE.out]; exact hk)), Below.refl _ _⟩
theorem addL_snocK (l xs : List Nat) (x : Nat) : addL l (xs ++ [x]) = if x ∈ addL l xs then addL l xs else addL l xs ++ [x] := by
  unfold addL
  rw [List.foldl_append]
  rfl
set_option maxHeartbeats 16000000 in
theorem greach_any (v0 v1 : Value) (a2 : Int) (ys zs : List Int) (w : World) (hy : Ints w v0 ys) (hz : Ints w v1 zs) :
    Calls Try.prog 5 #[v0, v1, .int .i64 a2] w fun e w' => e = .returned (.bool true) ∧ Below w.heap.size w w' := by
  have HY := Lib.hid hy
  have HZ := Lib.hid hz
  obtain ⟨_, _, A0, c0, rfl, _, _⟩ := hy
  obtain ⟨_, _, A1, c1, rfl, _, _⟩ := hz
  obtain ⟨n0, hn0⟩ : ∃ m, ys.length = m := ⟨_, rfl⟩
  obtain ⟨n1, hn1⟩ : ∃ m, zs.length = m := ⟨_, rfl⟩
  rw [hn0] at HY ⊢
  rw [hn1] at HZ ⊢
  clear hn0 hn1
  refine (callsIn_wide (n := 0)).1 (callsIn_of_wp_marks Try.func5 rfl trivial (wpIn_wide.2 ?_) rfl)
  simp only [Try.ntmps5, List.size_toArray, List.length_cons, List.length_nil, Nat.reduceAdd, Nat.reduceSub, Array.replicate_succ, Array.replicate_zero, List.push_toArray, List.append_toArray, List.nil_append, List.cons_append]
  go_upto_region 1 with fail
  obtain ⟨w1, hw1⟩ : ∃ W, w.alloc (.cells #[.int .i64 a2] 3) = W := ⟨_, rfl⟩
  obtain ⟨pl, hpl⟩ : ∃ q, w.heap.size = q := ⟨_, rfl⟩
  have HPL1 : Hid (Blk w1 pl 3 #[.int .i64 a2]) := Lib.hid (by rw [← hw1, ← hpl]; exact heap_alloc_new w _)
  have HB1 : Hid (Below w.heap.size w w1) := Lib.hid (by rw [← hw1]; exact bel_alloc w _)
  have HPW := Lib.hid hpl
  rw [hw1, hpl]
  clear hw1 hpl
  have HZ1 := Lib.hid (HZ.out.under HB1.out)
  have HY1 := Lib.hid (HY.out.under HB1.out)
  go_wp2_with fail
  refine (edges_any w1 _ zs true HZ1.out).mono ?_
  rintro e w2 ⟨vs, Ls, rfl, hvl, hll, ho2, hE, hb2⟩
  have HO2 := Lib.hid ho2
  have HE := Lib.hid hE
  have HB12 := Lib.hid hb2
  have HVL := Lib.hid hvl
  have HINF : Hid ((Try.prog.info? 43).map (·.size) = some vs.toArray.size) := Lib.hid (by rw [infoArr, List.size_toArray, hvl])
  have HONE : Hid (vs.toArray.all (·.oneCell') = true) := Lib.hid (by
    rw [Array.all_eq_true_iff_forall_mem]
    intro x hx
    obtain ⟨j, hj⟩ := List.getElem?_of_mem (by simpa using hx : x ∈ vs)
    have hj16 : j < 16 := by rw [← hvl]; exact (List.getElem?_eq_some_iff.1 hj).1
    have h1 := ho2 j hj16
    rw [List.getD_eq_getElem?_getD, hj] at h1
    obtain ⟨A', c', e, _⟩ := h1.parts
    simp only [Option.getD_some] at e
    subst e
    rfl)
  have HSZ : Hid (zeros.toArray.size = vs.toArray.size) := Lib.hid (by rw [List.size_toArray, List.size_toArray, hvl]; simp [zeros])
  clear ho2 hE hb2 hvl hll
  go_upto_region 3 with (first
    | (refine wpList_store_row rfl 43 _ _ rfl w2.heap.size vs.toArray rfl rfl 43 zeros.toArray (heap_alloc_new w2 _) HINF.out HSZ.out HONE.out ?_)
    | fail)
  obtain ⟨w3, hw3⟩ : ∃ W, (w2.alloc (.cells zeros.toArray 43)).setRow w2.heap.size vs.toArray = W := ⟨_, rfl⟩
  obtain ⟨pe, hpe⟩ : ∃ q, w2.heap.size = q := ⟨_, rfl⟩
  have HPE3 : Hid (Blk w3 pe 43 vs.toArray) := Lib.hid (by rw [← hw3, ← hpe]; exact setRow_heap _ _ _ _ _ _ (heap_alloc_new w2 _))
  have HB23 : Hid (Below w2.heap.size w2 w3) := Lib.hid (by
    rw [← hw3]
    have hmv : Moves (fun k => k = w2.heap.size) (w2.alloc (.cells zeros.toArray 43)) ((w2.alloc (.cells zeros.toArray 43)).setRow w2.heap.size vs.toArray) := ⟨rfl, rfl, rfl, by simp, fun k _ hk => setRow_other _ _ _ _ hk⟩
    exact (bel_alloc w2 _).trans (hmv.below (by simp) (fun k e => by omega)))
  rw [show (#[Value.slice none 0 0, Value.slice none 0 0, Value.slice none 0 0, Value.slice none 0 0, Value.slice none 0 0, Value.slice none 0 0, Value.slice none 0 0, Value.slice none 0 0, Value.slice none 0 0, Value.slice none 0 0, Value.slice none 0 0, Value.slice none 0 0, Value.slice none 0 0, Value.slice none 0 0, Value.slice none 0 0, Value.slice none 0 0] : Array Value) = zeros.toArray from rfl, hw3, hpe]
  clear hw3 hpe HINF HONE HSZ
  have hmm := @run_makeMap Try.prog
  go_upto_block 0 with fail
  obtain ⟨w4, hw4⟩ : ∃ W, w3.alloc (.map #[] 0) = W := ⟨_, rfl⟩
  obtain ⟨mb, hmb⟩ : ∃ q, w3.heap.size = q := ⟨_, rfl⟩
  have HSN4 : Hid (Seen w4 mb []) := Lib.hid (by rw [← hw4, ← hmb]; exact seen_made w3)
  have HB34 : Hid (Below w3.heap.size w3 w4) := Lib.hid (by rw [← hw4]; exact bel_alloc w3 _)
  have HMB : Hid (w3.heap.size = mb) := Lib.hid hmb
  rw [hw4, hmb]
  clear hw4 hmb hmm
  have HB14 : Hid (Below w1.heap.size w1 w4) := Lib.hid ((HB12.out.trans (HB23.out.mono HB12.out.size)).trans (HB34.out.mono (Nat.le_trans HB12.out.size HB23.out.size)))
  have HM1 : Hid (w1.heap.size ≤ mb ∧ mb < w4.heap.size) := Lib.hid ⟨by rw [← HMB.out]; exact Nat.le_trans HB12.out.size HB23.out.size, HSN4.out.lt⟩
  go_cut [8, 10, 11] from 24 to 48 (fun s8 s10 s11 wx => ∃ W : List Nat, Hid (OwnI wx w4.heap.size s8 W) ∧ Hid (Seen wx mb W) ∧ Hid (W.Nodup ∧ (∀ x ∈ W, x < 16)) ∧ Hid (Moves (fun k => k = mb) w4 wx))
  case first =>
    go_wp2_with fail
    go_loopg [10, 8, 11] 10 (fun f' iv uv kv wr => ∃ (i : Nat) (W : List Nat), i ≤ 10 ∧ i ≤ n0 ∧ 10 - i ≤ f' ∧ iv = .int .i64 (i : Int) ∧ Hid (OwnI wr w4.heap.size uv W) ∧ Hid (Seen wr mb W) ∧ Hid (W.Nodup ∧ (∀ x ∈ W, x < 16)) ∧ Hid (W.length ≤ i) ∧ Hid (Moves (fun k => k = mb) w4 wr))
    case atStart => exact ⟨0, [], by omega, by omega, by omega, rfl, Lib.hid (ownI_none _ _), HSN4, Lib.hid (by simp), Lib.hid (by simp), Lib.hid (Moves.refl _ _)⟩
    case round =>
      obtain ⟨i, W, hi10, hin, hfi, hiv, HU, HS, HND, HWL, HMV⟩ := hrel
      subst hiv
      obtain ⟨Au, cu, hu, _⟩ := HU.out.parts
      obtain ⟨m, hm⟩ : ∃ q, W.length = q := ⟨_, rfl⟩
      rw [hm] at hu
      subst hu
      have HWM := Lib.hid hm
      have hmi : m ≤ 10 := by have := HWL.out; omega
      clear hm
      by_cases hin2 : i < n0
      · by_cases hi2 : i < 10
        · have hinI : (i : Int) < (n0 : Int) := by omega
          have hi2I : (i : Int) < 10 := by omega
          have HB1r : Hid (Below w1.heap.size w1 wr) := Lib.hid (HB14.out.trans (HMV.out.below HB14.out.size (fun k e => by have := HM1.out.1; omega)))
          obtain ⟨b0, off, rfl, p1⟩ := (HY1.out.under HB1r.out).at hin2
          obtain ⟨y, hy⟩ : ∃ y, ys.getD i 0 = y := ⟨_, rfl⟩
          rw [hy] at p1
          obtain ⟨x, hx15, hand⟩ := and_15K y
          have hlk := HS.out.run_look x
          clear hy
          by_cases hx : x ∈ W
          · rw [decide_eq_true hx] at hlk
            have HWL2 : Hid (W.length ≤ i + 1) := Lib.hid (by have := HWL.out; omega)
            go_wp2_with fail
            go_roundg (10 - (i + 1))
            case measure => omega
            case rel => exact ⟨i + 1, W, by omega, by omega, by omega, by go_num, HU, HS, HND, HWL2, HMV⟩
          · rw [decide_eq_false hx] at hlk
            obtain ⟨w5, hst, hs5, hg5, hz5⟩ := HS.out.run_store x hx
            have hM5 : Moves (fun k => k = mb) wr w5 := (Moves.grown hg5).wide fun j _ e => by injection e with e; exact e.symm
            have HU5 : Hid (OwnI w5 w4.heap.size (.slice Au m cu) W) := Lib.hid (HU.out.moves hM5 (fun k hk e => by have h1 := (HU.out.lt k hk).1; have h2 := HM1.out.2; omega))
            have HS5 := Lib.hid hs5
            have HM45 : Hid (Moves (fun k => k = mb) w4 w5) := Lib.hid (HMV.out.trans hM5)
            have HND2 : Hid ((W ++ [x]).Nodup ∧ (∀ z ∈ W ++ [x], z < 16)) := Lib.hid ⟨by
              rw [List.nodup_append]
              refine ⟨HND.out.1, by simp, fun a ha b hb => ?_⟩
              simp at hb
              subst hb
              exact fun e => hx (e ▸ ha), fun z hz => by
              rcases List.mem_append.1 hz with hz | hz
              · exact HND.out.2 z hz
              · simp at hz
                omega⟩
            have HWL2 : Hid ((W ++ [x]).length ≤ i + 1) := Lib.hid (by have := HWL.out; simp; omega)
            have HWB : Hid (W.length ≤ 1000) := Lib.hid (by have := HWL.out; omega)
            have h45 : w4.heap.size ≤ w5.heap.size := HM45.out.size
            clear hs5 hg5 hz5 hM5 hx
            go_wp2_with (first
              | (at_builtin; refine wpList_append_intT 22 Try.underlying22 rfl _ _ rfl w4.heap.size (.slice Au m cu) W w5.heap.size x rfl (HU5.out.under ((Below.refl _ _).alloc (Nat.le_refl _) _)) rfl (cell_new_int w5 _ _) (by have := HWB.out; omega) (by simp; omega) ?_; intro v6 w6 ho6 hg6 hat6
                 have HO6 : Hid (OwnI w6 w4.heap.size v6 (W ++ [x])) := Lib.hid ho6
                 have hM6 : Moves (fun k => (Value.slice Au m cu).ownBlock = some k) w5 w6 := (Moves.under (bel_alloc w5 _)).trans (Moves.grown hg6)
                 have HS6 : Hid (Seen w6 mb (W ++ [x])) := Lib.hid (HS5.out.same (hM6.block mb HS5.out.lt (fun e => by have h1 := (HU5.out.lt mb e).1; have h2 := HM1.out.2; omega)))
                 have HM46 : Hid (Moves (fun k => k = mb) w4 w6) := Lib.hid (HM45.out.then hM6 (fun k hk e => by have h1 := (HU5.out.lt k e).1; omega))
                 clear ho6 hg6 hat6 hM6)
              | fail)
            go_roundg (10 - (i + 1))
            case measure => omega
            case rel => exact ⟨i + 1, _, by omega, by omega, by omega, by go_num, HO6, HS6, HND2, HWL2, HM46⟩
        · obtain rfl : i = 10 := by omega
          have hinI : (10 : Int) < (n0 : Int) := by omega
          go_wp2_with fail
          go_meet
          exact ⟨W, HU, HS, HND, HMV⟩
      · obtain rfl : i = n0 := by omega
        have hinI : ¬ (i : Int) < (i : Int) := by omega
        go_wp2_with fail
        go_meet
        exact ⟨W, HU, HS, HND, HMV⟩
  case rest =>
    obtain ⟨F, HU, HS, HND, HMV⟩ := hcut
    obtain ⟨w5, rfl⟩ : ∃ wx : World, wx = wc := ⟨_, rfl⟩
    obtain ⟨Au, cu, hu, _⟩ := HU.out.parts
    obtain ⟨m, hm⟩ : ∃ q, F.length = q := ⟨_, rfl⟩
    rw [hm] at hu
    subst hu
    have HFM := Lib.hid hm
    have hm16 : m ≤ 16 := by rw [← hm]; exact Gr.nodup_len HND.out.1 HND.out.2
    have HFL : Hid (F.length ≤ 16) := Lib.hid (by rw [hm]; exact hm16)
    clear hm
    go_upto_block 2 with (first
      | (at_builtin; refine wpList_append_ints 22 Try.underlying22 rfl _ _ rfl w5.heap.size (.slice (some ⟨w5.heap.size, 0, none⟩) 0 0) (.slice Au m cu) [] F rfl (ownI_empty w5 _ (Nat.le_refl _)) rfl (HU.out.rdN.under (bel_alloc w5 _)) (by have := HFL.out; simp; omega) (by simp) ?_; intro v6 w6 ho6 hg6 hat6
         have HVB : Hid (OwnI w6 w5.heap.size v6 F) := Lib.hid (by simpa using ho6)
         have HB56 : Hid (Below w5.heap.size w5 w6) := Lib.hid ((bel_alloc w5 _).trans ((Below.refl _ _).grown hg6 (by simp) fun k hk => by
           injection hk with hk
           change w5.heap.size = k at hk
           omega))
         clear ho6 hg6 hat6)
      | fail)
    obtain ⟨f, hf⟩ : ∃ f : Nat → List Nat, (fun x => Ls.getD x []) = f := ⟨_, rfl⟩
    have HFE : Hid (∀ x, Ls.getD x [] = f x) := Lib.hid (fun x => by rw [← hf])
    clear hf
    have HF16 : Hid (∀ x, x < 16 → (f x).length ≤ 40 ∧ ∀ y ∈ f x, y < 16) := Lib.hid (fun x hx => by rw [← HFE.out]; exact ⟨(HE.out x hx).1, fun y hy => ((HE.out x hx).2 y hy).1⟩)
    have HR16 : Hid (∀ k, (Gr.rs f F k).length ≤ 16 ∧ ∀ x ∈ Gr.rs f F k, x < 16) := Lib.hid (fun k => ⟨rs_le HND.out.2 HND.out.1 (fun x hx => (HF16.out x hx).2) k, rs_all HND.out.2 (fun x hx => (HF16.out x hx).2) k⟩)
    have HU6 : Hid (OwnI w6 w4.heap.size (.slice Au m cu) F) := Lib.hid (HU.out.under HB56.out)
    have HS6 : Hid (Seen w6 mb F) := Lib.hid (HS.out.under HB56.out)
    have HAP6 : Hid (AptI (.slice Au m cu) v6) := Lib.hid (fun k hk e => by
      have h1 := (HU.out.lt k hk).2
      have h2 := (HVB.out.lt k e).1
      omega)
    have HM6 : Hid (Moves (fun k => k = mb ∨ w4.heap.size ≤ k) w4 w6) := Lib.hid ((HMV.out.wide (fun k _ e => .inl e)).then (Moves.under (S := fun _ => False) HB56.out) (fun k _ e => e.elim))
    have HPE4 : Hid (Blk w4 pe 43 vs.toArray) := Lib.hid (HPE3.out.under HB34.out)
    have HPEB : Hid (pe < mb) := Lib.hid (by rw [← HMB.out]; exact HPE3.out.size)
    have HO4 : Hid (∀ i, i < 16 → OwnI w4 w1.heap.size (vs.getD i undef) (f i) ∧ ∀ k, (vs.getD i undef).ownBlock = some k → k < mb) := Lib.hid (fun i hi => by
      have h1 := HO2.out i hi
      rw [HFE.out] at h1
      have h2 := h1.under HB23.out
      exact ⟨h2.under HB34.out, fun k hk => by rw [← HMB.out]; exact (h2.lt k hk).2⟩)
    have HMS : Hid (mb < w4.heap.size) := Lib.hid HM1.out.2
    have HW45 : Hid (w4.heap.size ≤ w5.heap.size) := Lib.hid HMV.out.size
    go_cut [8, 13, 15] from 52 to 79 (fun s8 s13 s15 wx => Hid (OwnI wx w4.heap.size s8 (Gr.rs f F 16)) ∧ Hid (OwnI wx w5.heap.size v6 F) ∧ Hid (AptI s8 v6) ∧ Hid (Moves (fun k => k = mb ∨ w4.heap.size ≤ k) w4 wx))
    case first =>
      go_wp2_with fail
      go_loopg [13, 8, 15] 16 (fun f' iv uv kv wr => ∃ (k : Nat), k ≤ 16 ∧ 16 - k ≤ f' ∧ iv = .int .i64 (k : Int) ∧ Hid (OwnI wr w4.heap.size uv (Gr.rs f F k)) ∧ Hid (Seen wr mb (Gr.rs f F k)) ∧ Hid (OwnI wr w5.heap.size v6 F) ∧ Hid (AptI uv v6) ∧ Hid (Moves (fun k => k = mb ∨ w4.heap.size ≤ k) w4 wr))
      case atStart => exact ⟨0, by omega, by omega, rfl, HU6, HS6, HVB, HAP6, HM6⟩
      case round =>
        clear HU6 HS6 HVB HAP6 HM6 HU HS HMV
        obtain ⟨k, hk16, hfk, hkv, HU, HS, HVB, HAP, HMV⟩ := hrel
        subst hkv
        obtain ⟨S, hS⟩ : ∃ S, Gr.rs f F k = S := ⟨_, rfl⟩
        have HSL := Lib.hid (HR16.out k)
        rw [hS] at HU HS HSL
        have HSE := Lib.hid hS
        obtain ⟨Av, cv, hv, _⟩ := HU.out.parts
        obtain ⟨q, hq⟩ : ∃ q, S.length = q := ⟨_, rfl⟩
        rw [hq] at hv
        have HUV : Hid (u8 = .slice Av q cv) := Lib.hid hv
        subst hv
        have HQ := Lib.hid hq
        have hq16 : q ≤ 16 := by rw [← hq]; exact HSL.out.1
        clear hS hq
        by_cases hkq : k < q
        · have hkI : (k : Int) < (q : Int) := by omega
          have hop := HU.out.open (i := k) (by rw [HQ.out]; exact hkq)
          rw [HQ.out] at hop
          obtain ⟨r2, ca2, hr2, _, _, _, hcell⟩ := hop
          injection hr2 with hr21 hr22 hr23
          subst hr21
          have p1 := (hcell k hkq).1
          obtain ⟨x, hx⟩ : ∃ x, S.getD k 0 = x := ⟨_, rfl⟩
          rw [hx] at p1
          have hx16 : x < 16 := by
            rw [← hx, List.getD_eq_getElem?_getD, List.getElem?_eq_getElem (by rw [HQ.out]; exact hkq)]
            exact HSL.out.2 _ (List.getElem_mem _)
          have HSN : Hid (Gr.rs f F (k + 1) = addL S (f x)) := Lib.hid (by
            conv => lhs; unfold Gr.rs
            rw [HSE.out, if_pos (by rw [HQ.out]; exact hkq), hx]
            rfl)
          have hxI : (x : Int) < 16 := by omega
          have HRD : Hid (∀ wq, Moves (fun k => k = mb ∨ w4.heap.size ≤ k) w4 wq → OwnI wq w1.heap.size (vs.getD x undef) (f x) ∧ wq.cell? ⟨pe, x, none⟩ = some (vs.getD x undef)) := Lib.hid (fun wq hm => by
            have h1 := HO4.out x hx16
            refine ⟨h1.1.moves hm (fun j hj e => by have h2 := h1.2 j hj; have h3 := (h1.1.lt j hj).2; omega), ?_⟩
            have h4 : Blk wq pe 43 vs.toArray := HPE4.out.moves hm (fun e => by have h2 := HPEB.out; have h3 := HPE4.out.size; omega)
            rw [h4.at x, List.getElem?_toArray, List.getD_eq_getElem?_getD, List.getElem?_eq_getElem (by rw [HVL.out]; exact hx16)]
            rfl)
          obtain ⟨Ae, ce, hve, _⟩ := (HO4.out x hx16).1.parts
          obtain ⟨ne, hne⟩ : ∃ q, (f x).length = q := ⟨_, rfl⟩
          rw [hne] at hve
          rw [hve] at HRD
          have hne40 : ne ≤ 40 := by rw [← hne]; exact (HF16.out x hx16).1
          have HNE := Lib.hid hne
          have p2 := (HRD.out wr HMV.out).2
          clear hcell hr22 hr23 hx hve hne
          have HS0 : Hid (addL S ((f x).take 0) = S) := Lib.hid rfl
          have HU0 : Hid (OwnI wr w4.heap.size (.slice (some ⟨r2, 0, none⟩) q cv) (addL S ((f x).take 0))) := Lib.hid HU.out
          have HSN0 : Hid (Seen wr mb (addL S ((f x).take 0))) := Lib.hid HS.out
          go_upto_block 4 with fail
          · skip
            go_wp2_with fail
            go_loopg [65, 8, 15] ne (fun f' iv uv kv wq => ∃ (p : Nat), p ≤ ne ∧ ne - p ≤ f' ∧ iv = .int .i64 (p : Int) ∧ Hid (OwnI wq w4.heap.size uv (addL S ((f x).take p))) ∧ Hid (Seen wq mb (addL S ((f x).take p))) ∧ Hid (OwnI wq w5.heap.size v6 F) ∧ Hid (AptI uv v6) ∧ Hid (Moves (fun k => k = mb ∨ w4.heap.size ≤ k) w4 wq))
            case atStart => exact ⟨0, by omega, by omega, rfl, HU0, HSN0, HVB, HAP, HMV⟩
            case round =>
              clear HU HS HVB HAP HMV HU0 HSN0 p1 p2
              obtain ⟨p, hpn, hfp, hpv, HU, HS, HVB, HAP, HMV⟩ := hrel
              subst hpv
              obtain ⟨Z, hZ⟩ : ∃ Z, addL S ((f x).take p) = Z := ⟨_, rfl⟩
              have HZL : Hid (Z.length ≤ 60) := Lib.hid (by
                rw [← hZ]
                have h1 := addL_len ((f x).take p) S
                have h2 := HSL.out.1
                rw [List.length_take] at h1
                omega)
              rw [hZ] at HU HS
              have HZE := Lib.hid hZ
              obtain ⟨Aw, cw, hw, _⟩ := HU.out.parts
              obtain ⟨z, hz⟩ : ∃ z, Z.length = z := ⟨_, rfl⟩
              rw [hz] at hw
              subst hw
              have HZN := Lib.hid hz
              have hz60 : z ≤ 60 := by rw [← hz]; exact HZL.out
              clear hZ hz
              by_cases hpl : p < ne
              · have hpI : (p : Int) < (ne : Int) := by omega
                have hop := (HRD.out wr HMV.out).1.open (i := p) (by rw [HNE.out]; exact hpl)
                rw [HNE.out] at hop
                obtain ⟨re, cae, hre, _, _, _, hcell⟩ := hop
                injection hre with hre1 hre2 hre3
                subst hre1
                have p1 := (hcell p hpl).1
                obtain ⟨y, hy⟩ : ∃ y, (f x).getD p 0 = y := ⟨_, rfl⟩
                rw [hy] at p1
                have HTK : Hid (addL S ((f x).take (p + 1)) = if y ∈ Z then Z else Z ++ [y]) := Lib.hid (by rw [take_snoc (f x) p (by rw [HNE.out]; exact hpl), hy, addL_snocK, HZE.out])
                have hlk := HS.out.run_look y
                clear hcell hre2 hre3 hy
                by_cases hyz : y ∈ Z
                · rw [decide_eq_true hyz] at hlk
                  have HZ2 : Hid (addL S ((f x).take (p + 1)) = Z) := Lib.hid (by rw [HTK.out, if_pos hyz])
                  have HU2 : Hid (OwnI wr w4.heap.size (.slice Aw z cw) (addL S ((f x).take (p + 1)))) := Lib.hid (by rw [HZ2.out]; exact HU.out)
                  have HS2 : Hid (Seen wr mb (addL S ((f x).take (p + 1)))) := Lib.hid (by rw [HZ2.out]; exact HS.out)
                  go_wp2_with fail
                  go_roundg (ne - (p + 1))
                  case measure => omega
                  case rel => exact ⟨p + 1, hpl, by omega, by go_num, HU2, HS2, HVB, HAP, HMV⟩
                · rw [decide_eq_false hyz] at hlk
                  have HZ2 : Hid (addL S ((f x).take (p + 1)) = Z ++ [y]) := Lib.hid (by rw [HTK.out, if_neg hyz])
                  obtain ⟨w7, hst, hs7, hg7, hz7⟩ := HS.out.run_store y hyz
                  have hM7 : Moves (fun k => k = mb) wr w7 := (Moves.grown hg7).wide fun j _ e => by injection e with e; exact e.symm
                  have HU7 : Hid (OwnI w7 w4.heap.size (.slice Aw z cw) Z) := Lib.hid (HU.out.moves hM7 (fun k hk e => by have h1 := (HU.out.lt k hk).1; have h2 := HMS.out; omega))
                  have HVB7 : Hid (OwnI w7 w5.heap.size v6 F) := Lib.hid (HVB.out.moves hM7 (fun k hk e => by have h1 := (HVB.out.lt k hk).1; have h2 := HMS.out; have h3 := HW45.out; omega))
                  have HS7 := Lib.hid hs7
                  have HM47 : Hid (Moves (fun k => k = mb ∨ w4.heap.size ≤ k) w4 w7) := Lib.hid (HMV.out.then hM7 fun k _ e => .inl e)
                  have h47 : w4.heap.size ≤ w7.heap.size := HM47.out.size
                  clear hs7 hg7 hz7 hM7 hyz
                  go_wp2_with (first
                    | (at_builtin; refine wpList_append_intT 22 Try.underlying22 rfl _ _ rfl w4.heap.size (.slice Aw z cw) Z w7.heap.size y rfl (HU7.out.under ((Below.refl _ _).alloc (Nat.le_refl _) _)) rfl (cell_new_int w7 _ _) (by have := HZL.out; omega) (by simp; omega) ?_; intro v8 w8 ho8 hg8 hat8
                       have HO8 : Hid (OwnI w8 w4.heap.size v8 (addL S ((f x).take (p + 1)))) := Lib.hid (by rw [HZ2.out]; exact ho8)
                       have hM8 : Moves (fun k => (Value.slice Aw z cw).ownBlock = some k) w7 w8 := (Moves.under (bel_alloc w7 _)).trans (Moves.grown hg8)
                       have HS8 : Hid (Seen w8 mb (addL S ((f x).take (p + 1)))) := Lib.hid (by rw [HZ2.out]; exact HS7.out.same (hM8.block mb HS7.out.lt (fun e => by have h1 := (HU7.out.lt mb e).1; have h2 := HMS.out; omega)))
                       have HVB8 : Hid (OwnI w8 w5.heap.size v6 F) := Lib.hid (HVB7.out.moves hM8 (fun k hk e => HAP.out k e hk))
                       have HM48 : Hid (Moves (fun k => k = mb ∨ w4.heap.size ≤ k) w4 w8) := Lib.hid (HM47.out.then hM8 (fun k _ e => .inr (HU7.out.lt k e).1))
                       have HAP8 : Hid (AptI v8 v6) := Lib.hid (fun k hk e => by
                         rcases hat8 with h1 | h1
                         · exact HAP.out k (by rw [← h1]; exact hk) e
                         · rw [h1] at hk
                           injection hk with hk
                           have h2 := (HVB7.out.lt k e).2
                           simp at hk
                           omega)
                       clear ho8 hg8 hat8 hM8)
                    | fail)
                  go_roundg (ne - (p + 1))
                  case measure => omega
                  case rel => exact ⟨p + 1, hpl, by omega, by go_num, HO8, HS8, HVB8, HAP8, HM48⟩
              · obtain rfl : p = ne := by omega
                have hpI : ¬ (p : Int) < (p : Int) := by omega
                have HZF : Hid (addL S (f x) = Z) := Lib.hid (by rw [← HZE.out, List.take_of_length_le (by rw [HNE.out]; exact Nat.le_refl _)])
                have HU9 : Hid (OwnI wr w4.heap.size (.slice Aw z cw) (Gr.rs f F (k + 1))) := Lib.hid (by rw [HSN.out, HZF.out]; exact HU.out)
                have HS9 : Hid (Seen wr mb (Gr.rs f F (k + 1))) := Lib.hid (by rw [HSN.out, HZF.out]; exact HS.out)
                go_wp2_with fail
                go_roundg (16 - (k + 1))
                case measure => omega
                case rel => exact ⟨k + 1, by omega, by omega, by go_num, HU9, HS9, HVB, HAP, HMV⟩
        · have hkI : ¬ (k : Int) < (q : Int) := by omega
          have HRE : Hid (Gr.rs f F 16 = S) := Lib.hid (by
            have h1 := Gr.rs_stop f F k (by rw [HSE.out, HQ.out]; omega) (16 - k)
            rw [show k + (16 - k) = 16 by omega, HSE.out] at h1
            exact h1)
          go_wp2_with fail
          go_meet
          exact ⟨by rw [HRE.out]; exact HU, HVB, HAP, HMV⟩
    case rest =>
      have HVL6 := Lib.hid HVB.out.parts
      clear HU6 HS6 HVB HAP6 HM6 HU HS HMV
      obtain ⟨HU, HVB, HAP, HMV⟩ := hcut
      obtain ⟨w7, rfl⟩ : ∃ wx : World, wx = wc := ⟨_, rfl⟩
      obtain ⟨R, hR⟩ : ∃ R, Gr.rs f F 16 = R := ⟨_, rfl⟩
      have HRL : Hid (R.length ≤ 16 ∧ ∀ x ∈ R, x < 16) := Lib.hid (by rw [← hR]; exact HR16.out 16)
      rw [hR] at HU
      have HRE := Lib.hid hR
      obtain ⟨AR, cR, hu8, _⟩ := HU.out.parts
      obtain ⟨r, hr⟩ : ∃ q, R.length = q := ⟨_, rfl⟩
      rw [hr] at hu8
      subst hu8
      have HRN := Lib.hid hr
      have hr16 : r ≤ 16 := by rw [← hr]; exact HRL.out.1
      clear hR hr
      obtain ⟨AB, cB, hv6, _⟩ := HVB.out.parts
      rw [HFM.out] at hv6
      subst hv6
      have knil := fun (W : World) (f : Fn) (a b : Array Value) => run_eql_func_nil (P := Try.prog) W f a b Try.underlying55
      go_wp2_with fail
      refine (reach_any 21 #[.pointer (some ⟨pe, 0, none⟩)] HVB.out.rdN (by have := HFL.out; omega)).mono ?_
      rintro e w8 ⟨p8, q8, v8, rfl, hr8, hp8, hq8, hb8⟩
      have HR8 := Lib.hid hr8
      have HB78 := Lib.hid hb8
      have HP8 := Lib.hid hp8
      have HQ8 := Lib.hid hq8
      have HU8 := Lib.hid (HU.out.under hb8)
      have HM8 : Hid (Moves (fun k => k = mb ∨ w4.heap.size ≤ k) w4 w8) := Lib.hid (HMV.out.then (Moves.under (S := fun _ => False) hb8) (fun k _ e => e.elim))
      have HAH : Hid (AheadG w8 (fun k => k = pe ∨ ∃ i, i < 16 ∧ (vs.getD i undef).ownBlock = some k) 21 #[.pointer (some ⟨pe, 0, none⟩)] f (fun x => x < 16)) := Lib.hid (by
        have hpb : Blk w8 pe 43 vs.toArray := HPE4.out.moves HM8.out (fun e => by have h2 := HPEB.out; have h3 := HPE4.out.size; omega)
        have h := reach1_ahead (Ls := Ls) (base := w1.heap.size) hpb HVL.out (fun i hi => by
          have h1 := HO4.out i hi
          rw [HFE.out]
          exact h1.1.moves HM8.out (fun j hj e => by have h2 := h1.2 j hj; have h3 := (h1.1.lt j hj).2; omega))
        rw [show (fun x => Ls.getD x []) = f from funext HFE.out] at h
        exact h)
      have hFF : addL [] F = F := addL_nodup F [] (by simpa using HND.out.1)
      have HIT : Hid (IterF Try.prog 46 #[.pointer (some ⟨p8, 0, none⟩), .pointer (some ⟨q8, 0, none⟩)] (fun n : Nat => #[Value.int .i64 (n : Int)]) R.length (fun k => R.getD k 0) (ReachReads p8 q8 v8 (fun k => k = pe ∨ ∃ i, i < 16 ∧ (vs.getD i undef).ownBlock = some k)) w8) := Lib.hid (by
        have h := reach_iter 16 HR8.out HAH.out (by have := HFL.out; omega) (by rw [hFF]; exact (HR16.out 16).1) (by omega) (by rw [hFF]; exact (HR16.out 16).2) (by rw [hFF]; intro x hx; have h1 := (HF16.out x ((HR16.out 16).2 x hx)).1; omega)
        rw [hFF, HRE.out] at h
        exact h)
      have HPL8 : Hid (Blk w8 pl 3 #[.int .i64 a2]) := Lib.hid (by
        have h1 := HPL1.out.under HB14.out
        exact h1.moves HM8.out (fun e => by have h2 := HPL1.out.size; have h3 := HM1.out.1; have h4 := h1.size; omega))
      have HMW := Lib.hid HMV.out
      clear hr8 hp8 hq8 hb8 hFF HU HVB HMV
      obtain ⟨lv, hlv15, hand⟩ := and_15K a2
      have l0 : w8.cell? ⟨pl, 0, none⟩ = some (.int .i64 a2) := HPL8.out.at 0
      have l1 : w8.frozen? ⟨pl, 0, none⟩ = false := HPL8.out.free 0
      have HRB : Hid (∀ j, ReachReads p8 q8 v8 (fun k => k = pe ∨ ∃ i, i < 16 ∧ (vs.getD i undef).ownBlock = some k) j → j < w8.heap.size ∧ j ≠ pl) := Lib.hid (fun j hj => by
        have hpl : pl < w1.heap.size := HPL1.out.size
        have h14 := HB14.out.size
        have h47 := HMW.out.size
        rcases hj with rfl | rfl | hj | hj
        · exact ⟨HR8.out.from'.size, by have := HP8.out; omega⟩
        · exact ⟨HR8.out.fn.size, by have := HQ8.out; omega⟩
        · have h5 := HR8.out.row.lt j hj
          exact ⟨h5.2, by omega⟩
        · have h6 := HAH.out.lt j hj
          refine ⟨h6, ?_⟩
          rcases hj with rfl | ⟨i, hi, hj⟩
          · intro e
            have h1 := HPE4.out
            have h2 := HPL1.out.under HB14.out
            rw [e] at h1
            unfold Blk at h1 h2
            rw [h1] at h2
            injection h2 with h2
            injection h2 with _ h2
            exact absurd h2 (by decide)
          · have := ((HO4.out i hi).1.lt j hj).1
            omega)
      go_upto_region 27 with fail
      obtain ⟨w9, hw9⟩ : ∃ W, ((w8.setCell ⟨pl, 0, none⟩ (.int .i64 (lv : Int))).alloc (.cells #[.slice none 0 0] 22)).alloc (.cells #[.slice none 0 0] 22) = W := ⟨_, rfl⟩
      obtain ⟨ps, hps⟩ : ∃ q, w8.heap.size = q := ⟨_, rfl⟩
      have hz9 : w9.heap.size = ps + 2 := by rw [← hw9, ← hps]; simp
      have hps9 : Blk w9 ps 22 #[.slice none 0 0] := by
        rw [← hw9, ← hps]
        have := heap_alloc_new (w8.setCell ⟨pl, 0, none⟩ (.int .i64 (lv : Int))) (.cells #[.slice none 0 0] 22)
        rw [World.size_setCell] at this
        exact Blk.alloc this _
      have hpo9 : Blk w9 (ps + 1) 22 #[.slice none 0 0] := by
        rw [← hw9, ← hps]
        have := gr_new2 (w8.setCell ⟨pl, 0, none⟩ (.int .i64 (lv : Int))) (.cells #[.slice none 0 0] 22) (.cells #[.slice none 0 0] 22)
        rw [World.size_setCell] at this
        exact this
      have hpl9 : Blk w9 pl 3 #[.int .i64 (lv : Int)] := by
        rw [← hw9]
        exact ((HPL8.out.set 0 (.int .i64 (lv : Int))).alloc _).alloc _
      have hold9 : ∀ j, j < w8.heap.size → j ≠ pl → w9.heap[j]? = w8.heap[j]? := fun j h1 h2 => by
        rw [← hw9, Below.heap_alloc _ _ _ (by simp; omega), Below.heap_alloc _ _ _ (by simp; omega), Below.heap_setCell _ ⟨pl, 0, none⟩ _ j (fun e => h2 e)]
      have hb9 : Below w.heap.size w w9 := by
        have h1 : Below w.heap.size w w8 := ((HB1.out.trans (HB14.out.mono HB1.out.size)).trans ((HM8.out.below (B := w1.heap.size) HB14.out.size (fun k e => by have := HM1.out; have := HB14.out.size; omega)).mono HB1.out.size))
        rw [← hw9]
        exact ((gr_put h1 h1.size (by rw [← HPW.out]; exact Nat.le_refl _) 0 _).alloc (by simp; exact h1.size) _).alloc (by simp; have := h1.size; omega) _
      have HM89 : Hid (Moves (fun j => j = pl) w8 w9) := Lib.hid (by
        rw [← hw9]
        exact ((Moves.setCell w8 ⟨pl, 0, none⟩ (.int .i64 (lv : Int))).trans (Moves.under (bel_alloc _ _))).trans (Moves.under (bel_alloc _ _)))
      have HZ9 := Lib.hid hz9
      have HPS9 := Lib.hid hps9
      have HPO9 := Lib.hid hpo9
      have HPL9 := Lib.hid hpl9
      have HOLD9 := Lib.hid hold9
      have HB9 := Lib.hid hb9
      have HPSE := Lib.hid hps
      have HPLL : Hid (pl < ps) := Lib.hid (by rw [← hps]; exact HPL8.out.size)
      rw [hps]
      have hw9' : ((w8.setCell ⟨pl, 0, none⟩ (.int .i64 (lv : Int))).alloc (.cells #[.slice none 0 0] 22)).alloc (.cells #[.slice none 0 0] 22) = w9 := hw9
      rw [hw9']
      clear hw9 hw9' hps hz9 hps9 hpo9 hpl9 hold9 hb9 l0 l1
      go_wp2_with fail
      -- RANGE1
      have hF0 : ∀ j, ReachReads p8 q8 v8 (fun k => k = pe ∨ ∃ i, i < 16 ∧ (vs.getD i undef).ownBlock = some k) j → j < w9.heap.size ∧ w9.heap[j]? = w8.heap[j]? := fun j hj => by
        have h := HRB.out j hj
        have h2 := HZ9.out
        have h3 := HPSE.out
        exact ⟨by omega, HOLD9.out j h.1 h.2⟩
      have hF9 : ∀ j, ReachReads p8 q8 v8 (fun k => k = pe ∨ ∃ i, i < 16 ∧ (vs.getD i undef).ownBlock = some k) j → j < w9.heap.size ∧ j ≠ ps := fun j hj => by
        have h := HRB.out j hj
        have h2 := HZ9.out
        have h3 := HPSE.out
        exact ⟨by omega, by omega⟩
      have HF9 := Lib.hid hF9
      have hpsz : ps < w9.heap.size := by have := HZ9.out; omega
      have h89 : w8.heap.size ≤ w9.heap.size := by have := HZ9.out; have := HPSE.out; omega
      generalize hQ : Exit.then _ _ = QQ
      have key : ∀ (D : Nat) (W : World) (v : Value), w9.heap.size ≤ D → Blk W ps 22 #[v] → OwnI W w9.heap.size v (R.take lv) → Moves (fun j => j = ps) w9 W → W.heap[D]? = some (.deferred (some [])) → QQ .normal { tmps := #[Value.slice A0 n0 c0, Value.slice A1 n1 c1, Value.int IntKind.i64 a2, undef, undef, Value.pointer (some { block := pl, off := 0 }), Value.bool false, Value.pointer (some { block := pe, off := 0 }), Value.slice AR r cR, Value.map (some mb), u10, u11, Value.slice AB m cB, u13, undef, u15, Value.func (.func 46) #[] #[Value.pointer (some { block := p8, off := 0 }), Value.pointer (some { block := q8, off := 0 })], Value.pointer (some { block := ps, off := 0 }), Value.pointer (some { block := ps + 1, off := 0 }), undef, undef, Value.slice A1 n1 c1, Value.agg vs.toArray, Value.map (some mb), u24, u25, u26, u27, u28, u29, u30, u31, u32, u33, u34, u35, u36, u37, u38, u39, u40, u41, u42, u43, u44, u45, u46, u47, u48, Value.slice (some { block := w5.heap.size, off := 0 }) 0 0, Value.slice Au m cu, Value.slice AB m cB, u52, u53, u54, u55, u56, u57, u58, u59, u60, u61, u62, u63, u64, u65, u66, u67, u68, u69, u70, u71, u72, u73, u74, u75, u76, u77, u78, u79, Value.slice AB m cB, Value.func (.func 21) #[] #[Value.pointer (some { block := pe, off := 0 })], Value.func (.func 46) #[] #[Value.pointer (some { block := p8, off := 0 }), Value.pointer (some { block := q8, off := 0 })], Value.func (.func 46) #[] #[Value.pointer (some { block := p8, off := 0 }), Value.pointer (some { block := q8, off := 0 })], Value.bool false, Value.int IntKind.i64 a2, .int .i64 (lv : Int), Value.func (.func 46) #[] #[Value.pointer (some { block := p8, off := 0 }), Value.pointer (some { block := q8, off := 0 })], undef, undef, undef, undef, undef, undef, undef, undef, undef, undef, undef, undef, undef, undef, undef, undef, undef, undef, undef, undef, undef, undef, undef, undef, undef, undef, undef, undef, undef, undef, undef], defers := [{ target := .collected D, args := #[] }] } W := by
        subst hQ
        intro D W v hD hbk how hmv hK
        have HBK := Lib.hid hbk
        have HOW := Lib.hid how
        have HMW9 := Lib.hid hmv
        have HDK := Lib.hid hK
        have HDN := Lib.hid hD
        clear hbk how hmv hK hD
        go_wp2_with fail
        have hpo : Blk W (ps + 1) 22 #[.slice none 0 0] := HPO9.out.moves HMW9.out (by omega)
        have h9W := HMW9.out.size
        have hF0W : ∀ j, ReachReads p8 q8 v8 (fun k => k = pe ∨ ∃ i, i < 16 ∧ (vs.getD i undef).ownBlock = some k) j → j < W.heap.size ∧ W.heap[j]? = w8.heap[j]? := fun j hj => by
          have h := hF9 j hj
          exact ⟨by omega, (HMW9.out.block j h.1 h.2).trans (hF0 j hj).2⟩
        have hF9W : ∀ j, ReachReads p8 q8 v8 (fun k => k = pe ∨ ∃ i, i < 16 ∧ (vs.getD i undef).ownBlock = some k) j → j < W.heap.size ∧ j ≠ ps + 1 := fun j hj => by
          have h := HRB.out j hj
          have h3 := HPSE.out
          have h2 := HZ9.out
          exact ⟨by omega, by omega⟩
        have HF9W := Lib.hid hF9W
        have hpsW : ps + 1 < W.heap.size := by have := HZ9.out; omega
        refine wp_rangeH (brk := 8) (gf := 46) (lb := #[.pointer (some ⟨p8, 0, none⟩), .pointer (some ⟨q8, 0, none⟩)]) rfl (enters_of Try.func46 (by kernel_rfl) rfl)
          HIT.out (Nat.le_trans h89 h9W) hF0W (fun _ => rfl)
          (fun k F X => W.heap.size ≤ X.heap.size ∧ ∃ v, GrBox W.heap.size (ps + 1) W F X (R.take k) v) (fun _ => False) ?hI2 (fun _ _ _ _ h => h.elim) ?hmono2 ⟨Nat.le_refl _, _, hpo, ownI_none _ _, fun _ h => h.elim, Moves.refl _ _⟩
          (fun x : Nat => { tmps := #[Value.slice A0 n0 c0, Value.slice A1 n1 c1, Value.int IntKind.i64 a2, undef, undef, Value.pointer (some { block := pl, off := 0 }), Value.bool false, Value.pointer (some { block := pe, off := 0 }), Value.slice AR r cR, Value.map (some mb), u10, u11, Value.slice AB m cB, u13, undef, u15, Value.func (.func 46) #[] #[Value.pointer (some { block := p8, off := 0 }), Value.pointer (some { block := q8, off := 0 })], Value.pointer (some { block := ps, off := 0 }), Value.pointer (some { block := ps + 1, off := 0 }), undef, .int .i64 (x : Int), Value.slice A1 n1 c1, Value.agg vs.toArray, Value.map (some mb), u24, u25, u26, u27, u28, u29, u30, u31, u32, u33, u34, u35, u36, u37, u38, u39, u40, u41, u42, u43, u44, u45, u46, u47, u48, Value.slice (some { block := w5.heap.size, off := 0 }) 0 0, Value.slice Au m cu, Value.slice AB m cB, u52, u53, u54, u55, u56, u57, u58, u59, u60, u61, u62, u63, u64, u65, u66, u67, u68, u69, u70, u71, u72, u73, u74, u75, u76, u77, u78, u79, Value.slice AB m cB, Value.func (.func 21) #[] #[Value.pointer (some { block := pe, off := 0 })], Value.func (.func 46) #[] #[Value.pointer (some { block := p8, off := 0 }), Value.pointer (some { block := q8, off := 0 })], Value.func (.func 46) #[] #[Value.pointer (some { block := p8, off := 0 }), Value.pointer (some { block := q8, off := 0 })], Value.bool false, Value.int IntKind.i64 a2, .int .i64 (lv : Int), Value.func (.func 46) #[] #[Value.pointer (some { block := p8, off := 0 }), Value.pointer (some { block := q8, off := 0 })], undef, undef, undef, undef, undef, undef, undef, undef, undef, Value.func (.func 46) #[] #[Value.pointer (some { block := p8, off := 0 }), Value.pointer (some { block := q8, off := 0 })], .int .i64 (x : Int), undef, undef, undef, undef, undef, undef, undef, undef, undef, undef, undef, undef, undef, undef, undef, undef, undef, undef, undef, undef], defers := [] }) ?assign2 ?body2 ?done2 (fun _ _ _ h => h.elim)
        case hI2 =>
          rintro F k A' B' row ⟨h2, v, h3⟩ hg hr
          exact ⟨Nat.le_trans h2 hg.size, v, h3.from' hpsW (Nat.le_refl _) hg hr⟩
        case hmono2 =>
          rintro k F A' B' hF ⟨h2, v, h3⟩ hmv
          exact ⟨Nat.le_trans h2 hmv.size, v, h3.mono hpsW (Nat.le_refl _) h2 hmv⟩
        case assign2 =>
          intro l' x W K hK
          gi_wp2
          exact hK
        case body2 =>
          rintro l' k F X hk hF ⟨hz, v, hbx⟩ _
          have HX : Hid (∃ x, R.getD k 0 = x) := Lib.hid ⟨_, rfl⟩
          obtain ⟨x, hx⟩ := HX.out
          obtain ⟨Av, cv, hv, _⟩ := hbx.own.parts
          have hlk : (R.take k).length = k := by rw [List.length_take]; omega
          rw [hlk] at hv
          subst hv
          have k1 : X.cell? ⟨ps + 1, 0, none⟩ = some (.slice Av k cv) := hbx.blk.at 0
          dsimp only
          rw [hx]
          have hkr : k ≤ 16 := by have := HRL.out.1; omega
          obtain ⟨v', W2, hr2, hb2, ⟨A2, n2, c2, rfl⟩, hkf, hlie, hbx2⟩ := hbx.append (x := x) hpsW (Nat.le_refl _) hz (by rw [hlk]; omega) HF9W.out
          have htk : R.take k ++ [x] = R.take (k + 1) := by rw [← hx]; exact (take_snoc R k hk).symm
          rw [htk] at hbx2
          have HR2 := Lib.hid hr2
          have HB2 := Lib.hid hb2
          have c4 : W2.cell? ⟨ps + 1, 0, none⟩ = some (.slice Av k cv) := hb2.at 0
          have f4 : W2.frozen? ⟨ps + 1, 0, none⟩ = false := hb2.free 0
          have HKF := Lib.hid hkf
          have HLIE := Lib.hid hlie
          have HBX2 := Lib.hid hbx2
          have HZ2 : Hid (W.heap.size ≤ (W2.setCell ⟨ps + 1, 0, none⟩ (.slice A2 n2 c2)).heap.size) := Lib.hid (Nat.le_trans hz hkf.size)
          clear hbx hx hlk hr2 hb2 hkf hlie hbx2 htk
          gi_wp2_with (gi_at_builtin; refine wpListIn_append_eq rfl _ _ 22 rfl _ _ rfl rfl HR2.out ?_)
          gi_wp2
          exact ⟨HKF.out, HLIE.out, HZ2.out, _, HBX2.out⟩
        case done2 =>
          rintro D2 F X hD2 ⟨hzX, v2, h2⟩ hK2
          -- DONE2
          have hone := HRN.out
          have hXW := h2.moves
          have h9W' := HMW9.out.size
          have hz9 := HZ9.out
          have hpse := HPSE.out
          have hox : OwnI X W.heap.size v2 R := by
            have h := h2.own
            rw [List.take_length] at h
            exact h
          have hbo : Blk X (ps + 1) 22 #[v2] := h2.blk
          obtain ⟨Ao, co, rfl, _⟩ := hox.parts
          have hbs : Blk X ps 22 #[v] := HBK.out.moves hXW (by omega)
          have hows : OwnI X w9.heap.size v (R.take lv) := HOW.out.moves hXW (fun k hk e => by have := (HOW.out.lt k hk).1; omega)
          obtain ⟨As, cs, rfl, _⟩ := hows.parts
          obtain ⟨q, hql⟩ : ∃ q, (R.take lv).length = q := ⟨_, rfl⟩
          have hq : min (lv : Int) (r : Int) = (q : Int) := by rw [List.length_take] at hql; omega
          have hqr : q ≤ r := by rw [List.length_take] at hql; omega
          have hqI : (q : Int) ≤ (r : Int) := by omega
          rw [hone] at hbo
          rw [hql] at hbs
          have hplX : Blk X pl 3 #[.int .i64 (lv : Int)] := (HPL9.out.moves HMW9.out (fun e => by have := HPLL.out; omega)).moves hXW (fun e => by have := HPLL.out; omega)
          have hplo := HPLL.out
          have hux : OwnI X w4.heap.size (.slice AR r cR) R := ((HU8.out.moves HM89.out (fun k hk e => by
            have h1 := (HU8.out.lt k hk).1
            have h2 := HPL1.out.size
            have h3 := HB14.out.size
            omega)).moves HMW9.out (fun k hk e => by have := (HU8.out.lt k hk).2; omega)).moves hXW (fun k hk e => by have := (HU8.out.lt k hk).2; omega)
          have HOX : Hid (RdN X (.slice Ao r co) R) := Lib.hid (by have := hox.rdN; rw [hone] at this; exact this)
          have HUX : Hid (RdN X (.slice AR r cR) R) := Lib.hid hux.rdN
          have HSX : Hid (RdN X (.slice As q cs) (R.take lv)) := Lib.hid (by have := hows.rdN; rw [hql] at this; exact this)
          have HTX : Hid (RdN X (.slice AR q cR) (R.take lv)) := Lib.hid (gr_take HUX.out hql hqr)
          have HCX : Hid (∀ Y, Below X.heap.size X Y → Y.cell? ⟨ps + 1, 0, none⟩ = some (.slice Ao r co) ∧ Y.cell? ⟨ps, 0, none⟩ = some (.slice As q cs) ∧ Y.cell? ⟨pl, 0, none⟩ = some (.int .i64 (lv : Int))) := Lib.hid fun Y hb => ⟨(hbo.under hb).at 0, (hbs.under hb).at 0, (hplX.under hb).at 0⟩
          have hcap : r ≤ cR := by
            obtain ⟨A, c, e, hc, _⟩ := HUX.out
            injection e with e1 e2 e3
            subst e3
            omega
          have hqcI : (q : Int) ≤ (cR : Int) := by omega
          have HDX : Hid (X.heap[D]? = some (.deferred (some []))) := Lib.hid ((hXW.block D (Array.getElem?_eq_some_iff.1 HDK.out).1 (fun e => by have := HDN.out; omega)).trans HDK.out)
          have HDX2 := Lib.hid hK2
          have HDD2 : Hid (W.heap.size ≤ D2 ∧ D < W.heap.size ∧ w9.heap.size ≤ D) := Lib.hid ⟨hD2, (Array.getElem?_eq_some_iff.1 HDK.out).1, HDN.out⟩
          have HBX : Hid (Below w.heap.size w X) := Lib.hid ((HB9.out.trans (HMW9.out.below (B := w.heap.size) HB9.out.size (fun k e => by have := HPW.out; have := HPLL.out; omega))).trans (hXW.below (B := w.heap.size) (by have := HB9.out.size; omega) (fun k e => by have := HPW.out; omega)))
          clear h2 hox hbo hbs hows hql hplX hux hcap hK2 hD2 hXW h9W' hz9 hpse hplo hone
          go_upto_region 34 with fail
          refine wp_region_noPanic ?_
          refine wp_region_held_drew (S := fun w' => w'.cell? ⟨ps + 1, 0, none⟩ = some (.slice Ao r co) ∧ w'.cell? ⟨ps, 0, none⟩ = some (.slice As q cs) ∧ w'.cell? ⟨pl, 0, none⟩ = some (.int .i64 (lv : Int))) (by kernel_rfl) (HCX.out _ (Below.refl X.heap.size X).drew) (fun hHeld => ?_)
          refine takeW 0 (some 103) (oi := ?oT1) (v := ?vT1) ?hiT1 ?hdT1 (by kernel_rfl) (by kernel_rfl) (by kernel_rfl) (fun _ _ _ h => h) ?hwT1 ?hyT1 hHeld ?_
          case hiT1 => (simp only [List.getElem?_toArray, List.getElem?_cons_zero]; with_reducible rfl)
          case hdT1 => rfl
          case hwT1 => rfl
          case hyT1 => (intro w hSw; (try dsimp only at hSw); go_simp; first | done | with_reducible rfl)
          try simp only [Act.put]
          try simp only [List.setIfInBounds_toArray, List.set_cons_zero, List.set_cons_succ]
          refine takeW 1 (some 104) (oi := ?oT2) (v := ?vT2) ?hiT2 ?hdT2 (by kernel_rfl) (by kernel_rfl) (by kernel_rfl) (fun _ _ _ h => h) ?hwT2 ?hyT2 hHeld ?_
          case hiT2 => (simp only [List.getElem?_toArray, List.getElem?_cons_succ, List.getElem?_cons_zero]; with_reducible rfl)
          case hdT2 => rfl
          case hwT2 => rfl
          case hyT2 => (intro w hSw; (try dsimp only at hSw); go_simp; first | done | with_reducible rfl)
          try simp only [Act.put]
          try simp only [List.setIfInBounds_toArray, List.set_cons_zero, List.set_cons_succ]
          refine stepOne 2 (o := ?oT3) ?hiT3 (by kernel_rfl) ?hwT3 (fun K hK => ?_)
          case hiT3 => (simp only [List.getElem?_toArray, List.getElem?_cons_succ, List.getElem?_cons_zero]; with_reducible rfl)
          case hwT3 => rfl
          go_simp
          go_at_call 18
          refine (sameints_any R R _ _ X.drew HOX.out HUX.out (by have := HRL.out.1; omega) (by have := HRL.out.1; omega)).mono ?_
          rw [decide_eq_true rfl]
          rintro e w11 ⟨rfl, hb11⟩
          have HB11 : Hid (Below X.heap.size X w11) := Lib.hid (((Below.refl X.heap.size X).drew).trans hb11)
          clear hb11
          refine hK.out _ _ ?_ (fun hHeld => ?_)
          · exact HCX.out _ HB11.out
          clear hK K
          try simp only [Act.put]
          try simp only [List.setIfInBounds_toArray, List.set_cons_zero, List.set_cons_succ]
          refine takeW 3 (some 106) (oi := ?oT4) (v := ?vT4) ?hiT4 ?hdT4 (by kernel_rfl) (by kernel_rfl) (by kernel_rfl) (fun _ _ _ h => h) ?hwT4 ?hyT4 hHeld ?_
          case hiT4 => (simp only [List.getElem?_toArray, List.getElem?_cons_succ, List.getElem?_cons_zero]; with_reducible rfl)
          case hdT4 => rfl
          case hwT4 => rfl
          case hyT4 => (intro w hSw; (try dsimp only at hSw); go_simp; first | done | with_reducible rfl)
          try simp only [Act.put]
          try simp only [List.setIfInBounds_toArray, List.set_cons_zero, List.set_cons_succ]
          refine takeW 4 (some 107) (oi := ?oT5) (v := ?vT5) ?hiT5 ?hdT5 (by kernel_rfl) (by kernel_rfl) (by kernel_rfl) (fun _ _ _ h => h) ?hwT5 ?hyT5 hHeld ?_
          case hiT5 => (simp only [List.getElem?_toArray, List.getElem?_cons_succ, List.getElem?_cons_zero]; with_reducible rfl)
          case hdT5 => rfl
          case hwT5 => rfl
          case hyT5 => (intro w hSw; (try dsimp only at hSw); go_simp; first | done | with_reducible rfl)
          try simp only [Act.put]
          try simp only [List.setIfInBounds_toArray, List.set_cons_zero, List.set_cons_succ]
          refine takeW 5 (some 108) (oi := ?oT6) (v := ?vT6) ?hiT6 ?hdT6 (by kernel_rfl) (by kernel_rfl) (by kernel_rfl) (fun _ _ _ h => h) ?hwT6 ?hyT6 hHeld ?_
          case hiT6 => (simp only [List.getElem?_toArray, List.getElem?_cons_succ, List.getElem?_cons_zero]; with_reducible rfl)
          case hdT6 => rfl
          case hwT6 => rfl
          case hyT6 => (intro w hSw; (try dsimp only at hSw); go_simp; first | done | with_reducible rfl)
          try simp only [Act.put]
          try simp only [List.setIfInBounds_toArray, List.set_cons_zero, List.set_cons_succ]
          refine takeW 6 (some 109) (oi := ?oT7) (v := ?vT7) ?hiT7 ?hdT7 (by kernel_rfl) (by kernel_rfl) (by kernel_rfl) (fun _ _ _ h => h) ?hwT7 ?hyT7 hHeld ?_
          case hiT7 => (simp only [List.getElem?_toArray, List.getElem?_cons_succ, List.getElem?_cons_zero]; with_reducible rfl)
          case hdT7 => rfl
          case hwT7 => rfl
          case hyT7 => (intro w hSw; (try dsimp only at hSw); go_simp; first | done | with_reducible rfl)
          try simp only [Act.put]
          try simp only [List.setIfInBounds_toArray, List.set_cons_zero, List.set_cons_succ]
          refine takeW 7 (some 110) (oi := ?oT8) (v := ?vT8) ?hiT8 ?hdT8 (by kernel_rfl) (by kernel_rfl) (by kernel_rfl) (fun _ _ _ h => h) ?hwT8 ?hyT8 hHeld ?_
          case hiT8 => (simp only [List.getElem?_toArray, List.getElem?_cons_succ, List.getElem?_cons_zero]; with_reducible rfl)
          case hdT8 => rfl
          case hwT8 => rfl
          case hyT8 => (intro w hSw; (try dsimp only at hSw); go_simp; first | done | with_reducible rfl)
          try simp only [Act.put]
          try simp only [List.setIfInBounds_toArray, List.set_cons_zero, List.set_cons_succ]
          refine takeW 8 (some 111) (oi := ?oT9) (v := ?vT9) ?hiT9 ?hdT9 (by kernel_rfl) (by kernel_rfl) (by kernel_rfl) (fun _ _ _ h => h) ?hwT9 ?hyT9 hHeld ?_
          case hiT9 => (simp only [List.getElem?_toArray, List.getElem?_cons_succ, List.getElem?_cons_zero]; with_reducible rfl)
          case hdT9 => rfl
          case hwT9 => rfl
          case hyT9 => (intro w hSw; (try dsimp only at hSw); go_simp; first | done | with_reducible rfl)
          try simp only [Act.put]
          try simp only [List.setIfInBounds_toArray, List.set_cons_zero, List.set_cons_succ]
          refine stepOne 9 (o := ?oT10) ?hiT10 (by kernel_rfl) ?hwT10 (fun K hK => ?_)
          case hiT10 => (simp only [List.getElem?_toArray, List.getElem?_cons_succ, List.getElem?_cons_zero]; with_reducible rfl)
          case hwT10 => rfl
          go_simp
          refine hK.out _ _ ?_ (fun hHeld => ?_)
          · exact HCX.out _ HB11.out
          clear hK K
          try simp only [Act.put]
          try simp only [List.setIfInBounds_toArray, List.set_cons_zero, List.set_cons_succ]
          refine takeW 10 (some 113) (oi := ?oT11) (v := ?vT11) ?hiT11 ?hdT11 (by kernel_rfl) (by kernel_rfl) (by kernel_rfl) (fun _ _ _ h => h) ?hwT11 ?hyT11 hHeld ?_
          case hiT11 => (simp only [List.getElem?_toArray, List.getElem?_cons_succ, List.getElem?_cons_zero]; with_reducible rfl)
          case hdT11 => rfl
          case hwT11 => rfl
          case hyT11 => (intro w hSw; (try dsimp only at hSw); go_simp; first | done | with_reducible rfl)
          try simp only [Act.put]
          try simp only [List.setIfInBounds_toArray, List.set_cons_zero, List.set_cons_succ]
          refine stepOne 11 (o := ?oT12) ?hiT12 (by kernel_rfl) ?hwT12 (fun K hK => ?_)
          case hiT12 => (simp only [List.getElem?_toArray, List.getElem?_cons_succ, List.getElem?_cons_zero]; with_reducible rfl)
          case hwT12 => rfl
          go_simp
          go_at_call 18
          refine (sameints_any (R.take lv) (R.take lv) _ _ w11 (HSX.out.under HB11.out) (HTX.out.under HB11.out) (by rw [List.length_take]; have := HRL.out.1; omega) (by rw [List.length_take]; have := HRL.out.1; omega)).mono ?_
          rw [decide_eq_true rfl]
          rintro e w12 ⟨rfl, hb12⟩
          have HB12' : Hid (Below X.heap.size X w12) := Lib.hid (HB11.out.trans (hb12.mono HB11.out.size))
          clear hb12
          refine hK.out _ _ ?_ (fun hHeld => ?_)
          · exact HCX.out _ HB12'.out
          clear hK K
          try simp only [Act.put]
          try simp only [List.setIfInBounds_toArray, List.set_cons_zero, List.set_cons_succ]
          refine takeW 12 (some 115) (oi := ?oT13) (v := ?vT13) ?hiT13 ?hdT13 (by kernel_rfl) (by kernel_rfl) (by kernel_rfl) (fun _ _ _ h => h) ?hwT13 ?hyT13 hHeld ?_
          case hiT13 => (simp only [List.getElem?_toArray, List.getElem?_cons_succ, List.getElem?_cons_zero]; with_reducible rfl)
          case hdT13 => rfl
          case hwT13 => rfl
          case hyT13 => (intro w hSw; (try dsimp only at hSw); go_simp; first | done | with_reducible rfl)
          try simp only [Act.put]
          try simp only [List.setIfInBounds_toArray, List.set_cons_zero, List.set_cons_succ]
          refine takeW 13 (some 116) (oi := ?oT14) (v := ?vT14) ?hiT14 ?hdT14 (by kernel_rfl) (by kernel_rfl) (by kernel_rfl) (fun _ _ _ h => h) ?hwT14 ?hyT14 hHeld ?_
          case hiT14 => (simp only [List.getElem?_toArray, List.getElem?_cons_succ, List.getElem?_cons_zero]; with_reducible rfl)
          case hdT14 => rfl
          case hwT14 => rfl
          case hyT14 => (intro w hSw; (try dsimp only at hSw); go_simp; first | done | with_reducible rfl)
          try simp only [Act.put]
          try simp only [List.setIfInBounds_toArray, List.set_cons_zero, List.set_cons_succ]
          refine stepOne 14 (o := ?oT15) ?hiT15 (by kernel_rfl) ?hwT15 (fun K hK => ?_)
          case hiT15 => (simp only [List.getElem?_toArray, List.getElem?_cons_succ, List.getElem?_cons_zero]; with_reducible rfl)
          case hwT15 => rfl
          go_simp
          go_at_call 11
          refine (grphawake_any w12).mono ?_
          rintro e w13 ⟨rfl, hb13⟩
          have HB13 : Hid (Below X.heap.size X w13) := Lib.hid (HB12'.out.trans (hb13.mono HB12'.out.size))
          clear hb13
          refine hK.out _ _ ?_ (fun hHeld => ?_)
          · exact HCX.out _ HB13.out
          clear hK K
          try simp only [Act.put]
          try simp only [List.setIfInBounds_toArray, List.set_cons_zero, List.set_cons_succ]
          refine takeW 15 (some 118) (oi := ?oT16) (v := ?vT16) ?hiT16 ?hdT16 (by kernel_rfl) (by kernel_rfl) (by kernel_rfl) (fun _ _ _ h => h) ?hwT16 ?hyT16 hHeld ?_
          case hiT16 => (simp only [List.getElem?_toArray, List.getElem?_cons_succ, List.getElem?_cons_zero]; with_reducible rfl)
          case hdT16 => rfl
          case hwT16 => rfl
          case hyT16 => (intro w hSw; (try dsimp only at hSw); go_simp; first | done | with_reducible rfl)
          try simp only [Act.put]
          try simp only [List.setIfInBounds_toArray, List.set_cons_zero, List.set_cons_succ]
          refine takeW 16 (some 6) (oi := ?oT17) (v := ?vT17) ?hiT17 ?hdT17 (by kernel_rfl) (by kernel_rfl) (by kernel_rfl) (fun _ _ _ h => h) ?hwT17 ?hyT17 hHeld ?_
          case hiT17 => (simp only [List.getElem?_toArray, List.getElem?_cons_succ, List.getElem?_cons_zero]; with_reducible rfl)
          case hdT17 => rfl
          case hwT17 => rfl
          case hyT17 => (intro w hSw; (try dsimp only at hSw); go_simp; first | done | with_reducible rfl)
          try simp only [Act.put]
          try simp only [List.setIfInBounds_toArray, List.set_cons_zero, List.set_cons_succ]
          refine wpAnyH_done (by kernel_rfl) ?_ _
          refine NoPanic.normal ?_
          skip
          have HK1 : Hid (w13.heap[D]? = some (.deferred (some []))) := Lib.hid ((HB13.out.block D (Array.getElem?_eq_some_iff.1 HDX.out).1).trans HDX.out)
          have HK2 : Hid (w13.heap[D2]? = some (.deferred (some []))) := Lib.hid ((HB13.out.block D2 (Array.getElem?_eq_some_iff.1 HDX2.out).1).trans HDX2.out)
          have HEND : Hid (Below w.heap.size w w13) := Lib.hid (HBX.out.trans (HB13.out.mono HBX.out.size))
          go_wp2_with fail
          have hne : D ≠ D2 := by have := HDD2.out; omega
          refine ⟨by simp, .inl ⟨_, _, rfl, run_takeDeferred HK2.out, ?_⟩⟩
          refine ⟨by simp, .inl ⟨_, _, rfl, run_takeDeferred ((World.putObj_heap_other hne).trans HK1.out), ?_⟩⟩
          refine ⟨_, results_tmp rfl _ _ _, rfl, ?_⟩
          have hs := HEND.out.size
          have hDD := HDD2.out
          have hb9 := HB9.out.size
          have h1 := (HEND.out).trans ((Below.refl w.heap.size w13).grown (grownBy_putObj' w13 D2 (.deferred none)) hs (by rintro _ ⟨⟩; omega))
          exact h1.trans ((Below.refl w.heap.size _).grown (grownBy_putObj' _ D (.deferred none)) h1.size (by rintro _ ⟨⟩; omega))
      refine wp_rangeH (brk := 6) (gf := 46) (lb := #[.pointer (some ⟨p8, 0, none⟩), .pointer (some ⟨q8, 0, none⟩)]) rfl (enters_of Try.func46 (by kernel_rfl) rfl)
        HIT.out h89 hF0 (fun _ => rfl)
        (fun k F W => k ≤ lv ∧ w9.heap.size ≤ W.heap.size ∧ ∃ v, GrBox w9.heap.size ps w9 F W (R.take k) v) (fun W => lv < R.length ∧ ∃ v, GrBox w9.heap.size ps w9 (fun _ => False) W (R.take lv) v) ?hI ?hE ?hmono ⟨Nat.zero_le _, Nat.le_refl _, _, HPS9.out, ownI_none _ _, fun _ h => h.elim, Moves.refl _ _⟩
        (fun x : Nat => { tmps := #[Value.slice A0 n0 c0, Value.slice A1 n1 c1, Value.int IntKind.i64 a2, undef, undef, Value.pointer (some { block := pl, off := 0 }), Value.bool false, Value.pointer (some { block := pe, off := 0 }), Value.slice AR r cR, Value.map (some mb), u10, u11, Value.slice AB m cB, u13, undef, u15, Value.func (.func 46) #[] #[Value.pointer (some { block := p8, off := 0 }), Value.pointer (some { block := q8, off := 0 })], Value.pointer (some { block := ps, off := 0 }), Value.pointer (some { block := ps + 1, off := 0 }), .int .i64 (x : Int), undef, Value.slice A1 n1 c1, Value.agg vs.toArray, Value.map (some mb), u24, u25, u26, u27, u28, u29, u30, u31, u32, u33, u34, u35, u36, u37, u38, u39, u40, u41, u42, u43, u44, u45, u46, u47, u48, Value.slice (some { block := w5.heap.size, off := 0 }) 0 0, Value.slice Au m cu, Value.slice AB m cB, u52, u53, u54, u55, u56, u57, u58, u59, u60, u61, u62, u63, u64, u65, u66, u67, u68, u69, u70, u71, u72, u73, u74, u75, u76, u77, u78, u79, Value.slice AB m cB, Value.func (.func 21) #[] #[Value.pointer (some { block := pe, off := 0 })], Value.func (.func 46) #[] #[Value.pointer (some { block := p8, off := 0 }), Value.pointer (some { block := q8, off := 0 })], Value.func (.func 46) #[] #[Value.pointer (some { block := p8, off := 0 }), Value.pointer (some { block := q8, off := 0 })], Value.bool false, Value.int IntKind.i64 a2, .int .i64 (lv : Int), Value.func (.func 46) #[] #[Value.pointer (some { block := p8, off := 0 }), Value.pointer (some { block := q8, off := 0 })], .int .i64 (x : Int), undef, undef, undef, undef, undef, undef, undef, undef, undef, undef, undef, undef, undef, undef, undef, undef, undef, undef, undef, undef, undef, undef, undef, undef, undef, undef, undef, undef, undef, undef], defers := [] }) ?assign ?body ?done ?left
      case hI =>
        rintro F k A' B' row ⟨h1, h2, v, h3⟩ hg hr
        exact ⟨h1, Nat.le_trans h2 hg.size, v, h3.from' hpsz (Nat.le_refl _) hg hr⟩
      case hE =>
        rintro _ A' B' row ⟨h1, v, h3⟩ hg hr
        exact ⟨h1, v, h3.from' hpsz (Nat.le_refl _) hg hr⟩
      case hmono =>
        rintro k F A' B' hF ⟨h1, h2, v, h3⟩ hmv
        exact ⟨h1, Nat.le_trans h2 hmv.size, v, h3.mono hpsz (Nat.le_refl _) h2 hmv⟩
      case assign =>
        intro l' x W K hK
        gi_wp2
        exact hK
      case body =>
        rintro l' k F W hk hF ⟨hkl, hz, v, hbx⟩ _
        have HBX := Lib.hid hbx
        have HKN := Lib.hid hk
        have HKL := Lib.hid hkl
        have hkr : k < r := by rw [← HRN.out]; exact hk
        obtain ⟨x, hx⟩ : ∃ x, R.getD k 0 = x := ⟨_, rfl⟩
        have HX := Lib.hid hx
        obtain ⟨Av, cv, hv, _⟩ := hbx.own.parts
        have hlk : (R.take k).length = k := by rw [List.length_take]; have := HRN.out; omega
        rw [hlk] at hv
        subst hv
        have k1 : W.cell? ⟨ps, 0, none⟩ = some (.slice Av k cv) := hbx.blk.at 0
        have k2 : W.cell? ⟨pl, 0, none⟩ = some (.int .i64 (lv : Int)) := (HPL9.out.moves hbx.moves (fun e => by have := HPLL.out; omega)).at 0
        dsimp only
        rw [hx]
        by_cases hkv : k = lv
        · have hkI : ((k : Int) == (lv : Int)) = true := by simp; omega
          have HKV := Lib.hid hkv
          clear hbx hkl hx hlk hkv
          gi_wp2_with fail
          refine ⟨rfl, ⟨Nat.le_refl _, fun _ _ _ h _ => h⟩, ⟨Nat.le_refl _, fun _ _ _ => rfl⟩, by have := HRN.out; have := HKV.out; omega, .slice Av lv cv, ?_⟩
          have h := HBX.out
          rw [HKV.out] at h
          exact ⟨h.blk, h.own, fun _ h => h.elim, h.moves⟩
        · have hkI : ((k : Int) == (lv : Int)) = false := by simp; omega
          obtain ⟨v', W2, hr2, hb2, ⟨A2, n2, c2, rfl⟩, hkf, hlie, hbx2⟩ := hbx.append (x := x) hpsz (Nat.le_refl _) hz (by rw [hlk]; omega) HF9.out
          have htk : R.take k ++ [x] = R.take (k + 1) := by rw [← HX.out]; exact (take_snoc R k hk).symm
          rw [htk] at hbx2
          have HR2 := Lib.hid hr2
          have HB2 := Lib.hid hb2
          have c4 : W2.cell? ⟨ps, 0, none⟩ = some (.slice Av k cv) := hb2.at 0
          have f4 : W2.frozen? ⟨ps, 0, none⟩ = false := hb2.free 0
          have HKF := Lib.hid hkf
          have HLIE := Lib.hid hlie
          have HBX2 := Lib.hid hbx2
          have HKL2 : Hid (k + 1 ≤ lv) := Lib.hid (by omega)
          have HZ2 : Hid (w9.heap.size ≤ (W2.setCell ⟨ps, 0, none⟩ (.slice A2 n2 c2)).heap.size) := Lib.hid (Nat.le_trans hz hkf.size)
          clear hbx hkl hx hlk hkv hr2 hb2 hkf hlie hbx2 htk
          gi_wp2_with (gi_at_builtin; refine wpListIn_append_eq rfl _ _ 22 rfl _ _ rfl rfl HR2.out ?_)
          gi_wp2
          exact ⟨HKF.out, HLIE.out, HKL2.out, HZ2.out, _, HBX2.out⟩
      case done =>
        rintro D F W hD ⟨h1, h2, v, h3⟩ hK
        have hown := h3.own
        have h4 : R.take lv = R.take R.length := by rw [List.take_length, List.take_of_length_le (by have := HRN.out; omega)]
        rw [← h4] at hown
        exact key D W v hD h3.blk hown h3.moves hK
      case left =>
        rintro D W hD ⟨_, v, h3⟩ hK
        exact key D W v hD h3.blk h3.own h3.moves hK
end Go.Proofs.Ytemliglhippdcaa
