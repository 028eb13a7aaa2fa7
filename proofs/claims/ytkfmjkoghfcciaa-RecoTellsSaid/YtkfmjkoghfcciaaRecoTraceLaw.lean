/- RecoTrace: a trace that is cut anywhere tells the commits that are whole, in their order; cut there, and gone on with, it tells those and the new ones. -/
import Derived.Test.YtkfmjkoghfcciaaRecoCut
import Derived.Test.YtkfmjkoghfcciaaInts
import Derived.Test.YtkfmjkoghfcciaaRecoAwake
namespace Go.Proofs.Ytkfmjkoghfcciaa
set_option maxRecDepth 100000
open Go.ChangeShapes Go.WideShapes Go.ChangeAt Go.RowKit

theorem rows_apart {w : World} {base base' n m s s' : Nat} {e e' : TypeId} {v u : Value} {us us' : List Value} (h : w.ownsRow base e s v n us) (h' : w.ownsRow base' e' s' u m us') (hne : e ≠ e') : v.ownBlock = none ∨ v.ownBlock ≠ u.ownBlock := by
  rcases h.2 with ⟨rfl, _⟩ | ⟨g, cap, cur, rfl, _, hg, _⟩
  · exact .inl rfl
  · right
    rcases h'.2 with ⟨rfl, _⟩ | ⟨g', cap', cur', rfl, _, hg', _⟩
    · simp [Value.ownBlock]
    · intro e0
      simp [Value.ownBlock] at e0
      subst e0
      rw [hg] at hg'
      injection hg' with hg'
      injection hg' with _ e2
      exact hne e2
/-- Commits stay when a row of another type grows. -/
theorem OwnDs.beside {w w' : World} {base base' n s : Nat} {v u : Value} {R : List Rc.D} {e : TypeId} {us : List Value} (h : OwnDs w base v R) (hu : w.ownsRow base' e s u n us) (h1 : 59 ≠ e) (h2 : 5 ≠ e) (hg : w.grownBy w' u.ownBlock) : OwnDs w' base v R := by
  obtain ⟨T, e1, o1, o2⟩ := h
  exact ⟨T, e1, World.ownsRow.kept o1 hg (rows_apart o1 hu h1), fun y hy => (o2 y hy).grown hg (rows_apart (o2 y hy).1 hu h2)⟩
theorem RdN.take_ {w : World} {A : Option Addr} {n c k : Nat} {T : List Dv} (h : RdN w (.slice A n c) T) (hk : k ≤ n) : RdN w (.slice A k c) (T.take k) := by
  obtain ⟨A', c', e, h1, h2⟩ := h
  injection e with e1 e2 e3
  subst e1 e2 e3
  refine ⟨_, _, by rw [List.length_take, Nat.min_eq_left hk], by rw [List.length_take]; omega, fun h0 => ?_⟩
  have h0' : 0 < T.length := by rw [List.length_take] at h0; omega
  obtain ⟨b, off, rfl, hc⟩ := h2 h0'
  refine ⟨b, off, rfl, fun j hj => ?_⟩
  rw [List.length_take] at hj
  simp only [List.getElem_take]
  exact hc j (by omega)
theorem ownN_empty (w : World) (base : Nat) (hb : base ≤ w.heap.size) : OwnN (w.alloc (.cells #[] 59)) base (.slice (some ⟨w.heap.size, 0, none⟩) 0 0) [] :=
  ⟨rfl, .inr ⟨w.heap.size, 0, #[], rfl, hb, heap_alloc_new w _, Nat.le_refl _, by unfold maxLen; omega, rfl, rfl⟩⟩

set_option maxRecDepth 100000 in
set_option maxHeartbeats 16000000 in
theorem rtracelaw_any (v0 v2 : Value) (l more : List Int) (cut : Int) (w : World) (h0 : Ints w v0 l) (h2 : Ints w v2 more) :
    Calls Try.prog 8 #[v0, .int .i64 cut, v2] w fun e w' => e = .returned (.bool true) ∧ Below w.heap.size w w' := by
  have H0 := Lib.hid h0
  have H2 := Lib.hid h2
  obtain ⟨hl1, hl2, A0, c0, rfl, hc0, _⟩ := h0
  obtain ⟨hm1, hm2, A2, c2, rfl, hc2, _⟩ := h2
  obtain ⟨n0, hn0⟩ : ∃ n, l.length = n := ⟨_, rfl⟩
  obtain ⟨n2, hn2⟩ : ∃ n, more.length = n := ⟨_, rfl⟩
  rw [hn0] at H0 hl2 hc0 ⊢
  rw [hn2] at H2 hm2 hc2 ⊢
  have HL1 := Lib.hid hl1
  have HM1 := Lib.hid hm1
  obtain ⟨N, hN⟩ : ∃ N, min 10 n0 = N := ⟨_, rfl⟩
  obtain ⟨M, hM⟩ : ∃ N, min 5 n2 = N := ⟨_, rfl⟩
  have HNl : Hid ((Rc.nums l 10).length = N) := Lib.hid (by rw [Rc.nums_len, hn0, hN])
  have HMl : Hid ((Rc.nums more 5).length = M) := Lib.hid (by rw [Rc.nums_len, hn2, hM])
  obtain ⟨LD, hLD⟩ : ∃ L, Rc.nums l 10 = L := ⟨_, rfl⟩
  obtain ⟨LE, hLE⟩ : ∃ L, Rc.nums more 5 = L := ⟨_, rfl⟩
  have HOK : Hid (∀ d ∈ LD, Rc.NumOk d) := Lib.hid (by rw [← hLD]; exact Rc.nums_ok l 10)
  have HOM : Hid (∀ d ∈ LE, Rc.NumOk d) := Lib.hid (by rw [← hLE]; exact Rc.nums_ok more 5)
  have HDn : Hid (∀ k, k < N → LD.take k ++ [Rc.num (l.getD k 0)] = LD.take (k + 1)) := Lib.hid fun k hk => by rw [← hLD]; exact (Rc.nums_next l 10 (by omega) (by omega)).symm
  have HEn : Hid (∀ k, k < M → LE.take k ++ [Rc.num (more.getD k 0)] = LE.take (k + 1)) := Lib.hid fun k hk => by rw [← hLE]; exact (Rc.nums_next more 5 (by omega) (by omega)).symm
  rw [hLD] at HNl
  rw [hLE] at HMl
  have HF : ∀ (L : List Rc.D) (k : Nat) (d : Rc.D), L.take k ++ [d] = L.take (k + 1) → Fr.frs ((L.take k).map Rc.body) ++ Fr.frm (Rc.body d) = Fr.frs ((L.take (k + 1)).map Rc.body) := fun L k d h => by
    rw [← h, List.map_append, Rc.frs_append]
    simp [Fr.frs]
  have HFl : ∀ (L : List Rc.D), (∀ d ∈ L, Rc.NumOk d) → (Fr.frs (L.map Rc.body)).length ≤ 60 * L.length := fun L h => by
    have := Rc.frs_len_le (L.map Rc.body) (fun x hx => by obtain ⟨d, hd, rfl⟩ := List.mem_map.1 hx; exact Rc.body_len (h d hd))
    rwa [List.length_map] at this
  obtain ⟨F, hF⟩ : ∃ F : Nat → List Nat, (fun k => Fr.frs ((LD.take k).map Rc.body)) = F := ⟨_, rfl⟩
  have HFe : Hid (∀ k, F k = Fr.frs ((LD.take k).map Rc.body)) := Lib.hid fun k => by rw [← hF]
  have HFn : Hid (∀ k, k < N → F k ++ Fr.frm (Rc.body (Rc.num (l.getD k 0))) = F (k + 1)) := Lib.hid fun k hk => by rw [HFe.out, HFe.out]; exact HF LD k _ (HDn.out k hk)
  have HFb : Hid (∀ k, (F k).length ≤ 600) := Lib.hid fun k => by
    rw [HFe.out]
    have := HFl (LD.take k) (fun d hd => HOK.out d (List.mem_of_mem_take hd))
    have h1 : (LD.take k).length ≤ LD.length := by rw [List.length_take]; omega
    have := HNl.out
    omega
  have HN := Lib.hid hN
  have HM := Lib.hid hM
  have HFF := Lib.hid HF
  have hN10 : N ≤ 10 := by omega
  have hM5 : M ≤ 5 := by omega
  have HEl : Hid (∀ k, ((List.range k).map fun j => (F (j + 1)).length).length = k) := Lib.hid fun k => by simp
  have HEx : Hid (∀ k, ((List.range k).map fun j => (F (j + 1)).length) ++ [(F (k + 1)).length] = (List.range (k + 1)).map fun j => (F (j + 1)).length) := Lib.hid fun k => by rw [List.range_succ, List.map_append]; rfl
  clear hLD hLE hF HF HFl hN hM hn0 hn2
  go_enter Try.func8, Try.ntmps8
  go_upto_block 0 with fail
  go_cut [7, 8, 9] (fun tv av ev wx => Hid (Own wx w.heap.size tv (F N)) ∧ Hid (OwnDs wx w.heap.size av (LD.take N)) ∧ Hid (OwnI wx w.heap.size ev ((List.range N).map fun j => (F (j + 1)).length)) ∧ Hid (Below w.heap.size w wx))
  case first =>
    go_wp2_with fail
    go_loopg [7, 8, 9, 10] N (fun g tv av ev i wr => ∃ k : Nat, k ≤ N ∧ N - k ≤ g ∧ i = .int .i64 (k : Int) ∧ Hid (Own wr w.heap.size tv (F k)) ∧ Hid (OwnDs wr w.heap.size av (LD.take k)) ∧ Hid (OwnI wr w.heap.size ev ((List.range k).map fun j => (F (j + 1)).length)) ∧ Hid (Below w.heap.size w wr))
    case atStart =>
      refine ⟨0, by omega, by omega, rfl, Lib.hid ?_, Lib.hid (ownDs_none _ _), Lib.hid (ownI_none _ _), Lib.hid (Below.refl _ _)⟩
      have : F 0 = [] := by rw [HFe.out]; rfl
      rw [this]
      exact own_none _ _
    case round =>
      obtain ⟨k, hk, hg, rfl, hT, hA, hE, hbl⟩ := hrel
      obtain ⟨wz, rfl⟩ : ∃ wx : World, wx = wr := ⟨_, rfl⟩
      by_cases hlt : k < N
      · skip
        have hi0 : (k : Int) < (n0 : Int) := by have := HN.out; omega
        have hi1 : (k : Int) < 10 := by omega
        obtain ⟨b, off, rfl, hcz⟩ := (H0.out.under hbl.out).at (k := k) (by have := HN.out; omega)
        obtain ⟨z, hz⟩ : ∃ z, l.getD k 0 = z := ⟨_, rfl⟩
        rw [hz] at hcz
        obtain ⟨d, hd⟩ : ∃ d, Rc.num z = d := ⟨_, rfl⟩
        have HDK : Hid (Rc.NumOk d) := Lib.hid (by rw [← hd]; exact Rc.num_ok z)
        have HNF : Hid (F k ++ Fr.frm (Rc.body d) = F (k + 1)) := Lib.hid (by have := HFn.out k hlt; rw [hz, hd] at this; exact this)
        have HND : Hid (LD.take k ++ [d] = LD.take (k + 1)) := Lib.hid (by have := HDn.out k hlt; rw [hz, hd] at this; exact this)
        have HC1 : Hid (∀ W, Calls Try.prog 50 #[.int .i64 z] W (NumIs d W)) := Lib.hid fun W => rnum_any' z d W hd
        have HC2 : Hid (∀ W x, Bytes W x d.2.1 → Calls Try.prog 42 #[doneV (str d.1) (d.2.2.1 : Int) (d.2.2.2 : Int) x] W (Made W.heap.size (Rc.body d) W)) := Lib.hid fun W x hx => rdone_is _ _ _ _ _ _ W hx (Rc.numOk_lt HDK.out) (by have := (Rc.ok_length HDK.out.1).2; omega) (by have := HDK.out.2.1; omega) rfl
        have HBD : Hid ((Rc.body d).length ≤ 50) := Lib.hid (Rc.body_len HDK.out)
        have HRN : Hid (∀ (W : World) (x : Value) (m : Nat × Nat), RdN (W.alloc (.cells #[.string (str d.1), .int .i64 (d.2.2.1 : Int), .int .i64 (d.2.2.2 : Int), x] 59 m)) (.slice (some ⟨W.heap.size, 0, none⟩) 1 1) [(d, x)]) := Lib.hid fun W x m => rdN_one W (d, x) m
        have HP2 : Hid (d.2.1.length ≤ 2) := Lib.hid HDK.out.2.1
        obtain ⟨bd, hbd⟩ : ∃ b, Rc.body d = b := ⟨_, rfl⟩
        rw [hbd] at HNF HC2 HBD
        obtain ⟨s, hs⟩ : ∃ s, str d.1 = s := ⟨_, rfl⟩
        obtain ⟨y1, hy1⟩ : ∃ y : Int, ((d.2.2.1 : Nat) : Int) = y := ⟨_, rfl⟩
        obtain ⟨y2, hy2⟩ : ∃ y : Int, ((d.2.2.2 : Nat) : Int) = y := ⟨_, rfl⟩
        rw [hs, hy1, hy2] at HC2 HRN
        have HC1' : Hid (∀ W, Calls Try.prog 50 #[.int .i64 z] W fun e w' => Below W.heap.size W w' ∧ ∃ x, e = .returned (.agg #[.string s, .int .i64 y1, .int .i64 y2, x]) ∧ Own w' W.heap.size x d.2.1) := Lib.hid (by rw [← hs, ← hy1, ← hy2]; exact HC1.out)
        clear hz hd hbd hs hy1 hy2 HC1
        obtain ⟨_, _, At, ct, rfl, hct, _⟩ := hT.out.bytes.parts
        obtain ⟨nt, hnt⟩ : ∃ n, (F k).length = n := ⟨_, rfl⟩
        rw [hnt] at hT ⊢
        have HNT := Lib.hid hnt
        clear hnt hct
        go_wp2_with fail
        refine (HC1'.out wz).mono ?_
        rintro e w1 ⟨hb1, x1, rfl, ho1⟩
        have HB1 := Lib.hid (hbl.out.trans (hb1.mono hbl.out.size))
        have HB1' := Lib.hid hb1
        have HX1 := Lib.hid ho1.bytes
        obtain ⟨_, _, A1, c1, rfl, _, _⟩ := ho1.bytes.parts
        obtain ⟨np, hnp⟩ : ∃ n, d.2.1.length = n := ⟨_, rfl⟩
        rw [hnp] at HX1 ⊢
        clear hb1 ho1
        go_wp2_with fail
        refine (HC2.out w1 _ HX1.out).mono ?_
        rintro e w2 ⟨v2', rfl, ho2, hb2⟩
        have HB2 := Lib.hid (HB1.out.trans (hb2.mono HB1.out.size))
        have HB2' := Lib.hid (HB1'.out.trans (hb2.mono HB1'.out.size))
        have HX2 := Lib.hid ho2.bytes
        clear hb2 ho2 HB1 HB1' HX1
        go_wp2_with fail
        refine (refput_is _ _ (F k) bd (F (k + 1)) w2 (hT.out.under HB2'.out).bytes HX2.out (by have := HFb.out k; omega) (by have := HBD.out; omega) HNF.out).mono ?_
        rintro e w3 ⟨v3, rfl, ho3, hb3⟩
        have HB3 := Lib.hid (HB2.out.trans (hb3.mono HB2.out.size))
        have HB3' := Lib.hid (HB2'.out.trans (hb3.mono HB2'.out.size))
        have HT3 := Lib.hid (ho3.more (base' := w.heap.size) HB2.out.size)
        have HA3 := Lib.hid (hA.out.under HB3'.out)
        have HE3 := Lib.hid (hE.out.under HB3'.out)
        have hcz3 := cell_later HB3'.out hcz
        obtain ⟨_, _, A3, c3, rfl, _, _⟩ := ho3.bytes.parts
        obtain ⟨n3, hn3⟩ : ∃ n, (F (k + 1)).length = n := ⟨_, rfl⟩
        rw [hn3] at HT3 ⊢
        have HN3 := Lib.hid hn3
        clear hb3 ho3 HX2 HB2 HB2' HB3' hT hA hE hbl hcz hn3
        go_wp2_with fail
        refine (HC1'.out w3).mono ?_
        rintro e w4 ⟨hb4, x4, rfl, ho4⟩
        have HB4 := Lib.hid (HB3.out.trans (hb4.mono HB3.out.size))
        have HT4 := Lib.hid (HT3.out.under hb4)
        have HA4 := Lib.hid (HA3.out.under hb4)
        have HE4 := Lib.hid (HE3.out.under hb4)
        have HX4 := Lib.hid (ho4.more (base' := w.heap.size) HB3.out.size)
        obtain ⟨_, _, A4, c4, rfl, _, _⟩ := ho4.bytes.parts
        rw [hnp] at HX4 ⊢
        obtain ⟨T, hTm, hTo, hTp⟩ := HA4.out
        have HTM := Lib.hid hTm
        have HTO := Lib.hid hTo
        have HTP := Lib.hid hTp
        have HTL : Hid (T.length ≤ 100) := Lib.hid (by have h1 : T.length = (LD.take k).length := by rw [← hTm, List.length_map]
                                                       rw [h1, List.length_take]; omega)
        clear hb4 ho4 hTm hTo hTp HT3 HA3 HB3 HE3 HA4
        go_wp2_with (at_builtin; refine wpList_append_dones rfl _ _ rfl w.heap.size _ _ T [(d, .slice A4 np c4)] rfl (HTO.out.alloc _) rfl (HRN.out w4 (.slice A4 np c4) (0, 0)) (fun x hx => by rw [List.mem_singleton.1 hx]; rfl) (by have := HTL.out; rw [List.length_singleton]; omega) ?_ _ rfl ?_)
        case refine_1 => have := HB4.out.size; simp; omega
        case refine_2 =>
          rintro u5 w5 hgr
          have hba : ∀ o, Below w4.heap.size w4 (w4.alloc o) := fun o => (Below.refl _ _).alloc (Nat.le_refl _) _
          have HB5 := Lib.hid ((HB4.out.trans ((hba _).mono HB4.out.size)).trans hgr.2.2.1)
          have HA5 : Hid (OwnDs w5 w.heap.size u5 (LD.take (k + 1))) := Lib.hid (by
            rw [← HND.out]
            exact OwnDs.grew HTM.out (HTO.out.alloc _) (fun y hy => (HTP.out y hy).alloc _) (HX4.out.alloc _) hgr)
          have HT5 : Hid (Own w5 w.heap.size (.slice A3 n3 c3) (F (k + 1))) := Lib.hid ((HT4.out.alloc _).grown hgr.2.1 (own_apartN HT4.out HTO.out))
          have HE5 : Hid (OwnI w5 w.heap.size u9 ((List.range k).map fun j => (F (j + 1)).length)) := Lib.hid (World.ownsRow.kept (World.ownsRow.alloc HE4.out _) hgr.2.1 (rows_apart HE4.out HTO.out (by decide)))
          clear hgr hba HT4 HTO HTP HTM HX4 HB4 HE4
          go_wp2_with (at_builtin; refine wpList_append_int rfl _ _ rfl w.heap.size _ _ _ n3 rfl HE5.out rfl rfl _ ?_ HB5.out.size _ rfl ?_)
          case refine_1 => rw [HEl.out]; omega
          case refine_2 =>
            rintro u6 w6 ⟨go6, gg6, gb6⟩
            have hba : ∀ o, Below w5.heap.size w5 (w5.alloc o) := fun o => (Below.refl _ _).alloc (Nat.le_refl _) _
            have HB6 := Lib.hid ((HB5.out.trans ((hba _).mono HB5.out.size)).trans gb6)
            have HE5a := Lib.hid (fun o => World.ownsRow.alloc HE5.out o)
            have HT6 : Hid (Own w6 w.heap.size (.slice A3 n3 c3) (F (k + 1))) := Lib.hid ((HT5.out.alloc _).grown gg6 (rows_apart HT5.out.1 HE5.out (by decide)))
            have HA6 : Hid (OwnDs w6 w.heap.size u5 (LD.take (k + 1))) := Lib.hid ((HA5.out.under (hba _)).beside (HE5a.out _) (by decide) (by decide) gg6)
            have HE6 : Hid (OwnI w6 w.heap.size u6 ((List.range (k + 1)).map fun j => (F (j + 1)).length)) := Lib.hid (by rw [← HEx.out k, HN3.out]; exact go6)
            clear go6 gg6 gb6 hba HT5 HA5 HE5 HE5a HB5
            go_wp2
            go_roundg (N - (k + 1))
            all_goals first
              | omega
              | exact ⟨k + 1, hlt, by omega, by go_num, HT6, HA6, HE6, HB6⟩
      · obtain rfl : k = N := by omega
        have hor : ¬ ((k : Int) < (n0 : Int)) ∨ ((k : Int) < (n0 : Int) ∧ ¬ ((k : Int) < 10)) := by have := HN.out; omega
        rcases hor with h1 | ⟨h1, h2⟩
        all_goals
          go_wp2
          go_meet
          exact ⟨hT, hA, hE, hbl⟩
  case rest =>
    obtain ⟨HT, HA, HE, HB⟩ := hcut
    obtain ⟨w5, rfl⟩ : ∃ wy : World, wy = wc := ⟨_, rfl⟩
    have HAr := Lib.hid HA.out.rd
    obtain ⟨AA, cA, rfl, hcA⟩ := HA.out.parts
    have hLN : (LD.take N).length = N := by rw [List.length_take]; have := HNl.out; omega
    rw [hLN] at HA HAr hcA ⊢
    obtain ⟨AE, cE, rfl, hcE⟩ := HE.out.parts
    rw [HEl.out] at HE hcE ⊢
    obtain ⟨_, _, At, ct, rfl, hct, _⟩ := HT.out.bytes.parts
    obtain ⟨T, hTT⟩ : ∃ n, (F N).length = n := ⟨_, rfl⟩
    have hT6 : T ≤ 600 := by have := HFb.out N; omega
    rw [hTT] at HT hct ⊢
    have HTT := Lib.hid hTT
    have HEg : Hid (∀ j, j < N → ((List.range N).map fun j => (F (j + 1)).length).getD j 0 = (F (j + 1)).length) := Lib.hid fun j hj => by rw [List.getD_eq_getElem?_getD, List.getElem?_map, List.getElem?_range hj]; rfl
    have HEc : Hid (∀ j, j < N → ∃ g, AE = some ⟨g, 0, none⟩ ∧ w5.cell? ⟨g, 0 + j, none⟩ = some (.int .i64 (((F (j + 1)).length : Nat) : Int))) := Lib.hid fun j hj => by
      obtain ⟨g, e1, e2⟩ := HE.out.cell (k := j) (by rw [HEl.out]; exact hj)
      rw [HEg.out j hj] at e2
      exact ⟨g, e1, e2⟩
    clear hLN hTT
    obtain ⟨z, hz0, hz1⟩ : ∃ z : Nat, z ≤ 65535 ∧ bits .and .i64 cut 65535 = (z : Int) := ⟨_, Ar.and_low16 cut⟩
    obtain ⟨kk, hk0, hk1⟩ := Ar.rem_of z (T + 1) (by omega)
    have hk2 : (z : Int).tmod ((T : Int) + 1) = (kk : Int) := by rw [← hk1]; rfl
    have hkT : kk ≤ T := by omega
    have hk6 : kk ≤ 600 := by omega
    clear hk0 hk1
    go_upto_block 2 with fail
    clear hz1 hk2 hz0
    go_cut [12] (fun nv wx => ∃ n : Nat, n ≤ N ∧ nv = .int .i64 (n : Int) ∧ Hid ((∀ j, j < n → (F (j + 1)).length ≤ kk) ∧ (n = N ∨ kk < (F (n + 1)).length)) ∧ wx = w5)
    case first =>
      go_wp2_with fail
      go_loopg [12] N (fun g nv wr => ∃ n : Nat, n ≤ N ∧ N - n ≤ g ∧ nv = .int .i64 (n : Int) ∧ Hid (∀ j, j < n → (F (j + 1)).length ≤ kk) ∧ wr = w5)
      case atStart => exact ⟨0, by omega, by omega, rfl, Lib.hid (fun j hj => absurd hj (by omega)), rfl⟩
      case round =>
        obtain ⟨n, hn, hg, rfl, hall, rfl⟩ := hrel
        by_cases hlt : n < N
        · obtain ⟨g, rfl, hcell⟩ := HEc.out n hlt
          obtain ⟨y, hy⟩ : ∃ y, (F (n + 1)).length = y := ⟨_, rfl⟩
          rw [hy, Nat.zero_add] at hcell
          have hnI : (n : Int) < (N : Int) := by omega
          by_cases hle : y ≤ kk
          · have hleI : (y : Int) ≤ (kk : Int) := by omega
            have HNX : Hid (∀ j, j < n + 1 → (F (j + 1)).length ≤ kk) := Lib.hid fun j hj => by
              by_cases hjn : j = n
              · subst hjn; rw [hy]; exact hle
              · exact hall.out j (by omega)
            clear hy
            go_wp2
            go_roundg (N - (n + 1))
            all_goals first
              | omega
              | exact ⟨n + 1, hlt, by omega, by go_num, HNX, rfl⟩
          · have hleI : ¬ (y : Int) ≤ (kk : Int) := by omega
            have HST : Hid (n = N ∨ kk < (F (n + 1)).length) := Lib.hid (by rw [hy]; omega)
            clear hy
            go_wp2
            go_meet
            exact ⟨n, hn, rfl, Lib.hid ⟨hall.out, HST.out⟩, rfl⟩
        · obtain rfl : n = N := by omega
          have hnI : ¬ (n : Int) < (n : Int) := by omega
          go_wp2
          go_meet
          exact ⟨n, hn, rfl, Lib.hid ⟨hall.out, .inl rfl⟩, rfl⟩
    case rest =>
      obtain ⟨n, hn, rfl, HST, hww⟩ := hcut
      obtain rfl : w5 = wc := hww.symm
      obtain ⟨en, hen⟩ : ∃ e, (F n).length = e := ⟨_, rfl⟩
      have F0 : F 0 = [] := by rw [HFe.out]; rfl
      have henk : en ≤ kk := by
        rcases Nat.eq_zero_or_pos n with h | h
        · subst h; rw [F0] at hen; simp at hen; omega
        · have := HST.out.1 (n - 1) (by omega)
          rw [show n - 1 + 1 = n from by omega] at this
          omega
      have HBB : Hid (LD.take N = LD) := Lib.hid (List.take_of_length_le (Nat.le_of_eq HNl.out))
      have HFN : Hid (F N = Fr.frs (LD.map Rc.body)) := Lib.hid (by rw [HFe.out, HBB.out])
      have hB10 : ∀ x ∈ LD.map Rc.body, x.length ≤ 10000 := fun x hx => by
        obtain ⟨d, hd, rfl⟩ := List.mem_map.1 hx
        have := Rc.body_len (HOK.out d hd)
        omega
      have hscn := Rc.scn_frs (LD.map Rc.body) hB10 kk n (by rw [List.length_map, HNl.out]; exact hn) (by rw [← List.map_take, ← HFe.out, hen]; exact henk) (by
        rcases HST.out.2 with h | h
        · left; rw [List.length_map, HNl.out]; exact h
        · right; rw [← List.map_take, ← HFe.out]; exact h)
      rw [← HFN.out, ← List.map_take] at hscn
      have HSC := Lib.hid hscn
      have HOKn : Hid (∀ d ∈ LD.take n, Rc.NumOk d) := Lib.hid fun d hd => HOK.out d (List.mem_of_mem_take hd)
      have HLD : Hid (Rc.lead ((LD.take n).map Rc.body) = LD.take n) := Lib.hid (Rc.lead_map _ HOKn.out)
      have HEN : Hid (Rc.ends ((LD.take n).map Rc.body) = en) := Lib.hid (by rw [Rc.ends_map _ HOKn.out, ← HFe.out, hen])
      have HTK : Hid ((F N).take en = F n) := Lib.hid (by
        have e1 : F N = F n ++ Fr.frs ((LD.drop n).map Rc.body) := by rw [HFN.out, HFe.out, ← Rc.frs_append, ← List.map_append, List.take_append_drop]
        rw [e1, ← hen, List.take_left])
      have HEL : Hid ((F n).length = en) := Lib.hid hen
      have hkc : kk ≤ ct := by omega
      have hkcI : (kk : Int) ≤ (ct : Int) := by omega
      clear hscn hB10 hen HST F0
      go_wp2_with fail
      refine (rtrace_any _ ((F N).take kk) n _ w5 (HT.out.bytes.head hkT hkc) HSC.out.1 (by rw [List.length_take]; omega) HSC.out.2).mono ?_
      rintro e w6 ⟨hb6, u6, rfl, ho6⟩
      rw [HLD.out] at ho6
      rw [HEN.out]
      have HR6 := Lib.hid ho6.rd
      have HB6 := Lib.hid (HB.out.trans (hb6.mono HB.out.size))
      have HB56 := Lib.hid hb6
      have HA6 := Lib.hid (((HAr.out.under hb6).take hn))
      have htt : (LD.take N).take n = LD.take n := by rw [List.take_take, Nat.min_eq_left hn]
      rw [htt] at HA6
      obtain ⟨A6, c6, rfl, _⟩ := ho6.parts
      have hln : (LD.take n).length = n := by rw [List.length_take]; have := HNl.out; omega
      rw [hln] at HR6 ⊢
      have HLN := Lib.hid hln
      clear hb6 ho6 htt hln
      have hnc : n ≤ cA := by omega
      have hncI : (n : Int) ≤ (cA : Int) := by omega
      have hgt : ¬ (kk : Int) < (en : Int) := by omega
      have HEc6 : Hid (∀ j, j < N → ∃ g, AE = some ⟨g, 0, none⟩ ∧ w6.cell? ⟨g, j, none⟩ = some (.int .i64 (((F (j + 1)).length : Nat) : Int))) := Lib.hid fun j hj => by
        obtain ⟨g, e1, e2⟩ := HEc.out j hj
        rw [Nat.zero_add] at e2
        exact ⟨g, e1, cell_later HB56.out e2⟩
      have HT6 := Lib.hid (HT.out.under HB56.out)
      have HAo6 := Lib.hid (HA.out.under HB56.out)
      clear HT HA HAr HE HEc HB HB56
      go_upto_region 15 with fail
      go_cut [107] (fun q wx => q = .bool false ∧ Hid (Below w6.heap.size w6 wx))
      case first =>
        go_wp2_with fail
        refine (sameDs_any _ _ _ _ w6 HR6.out HA6.out (fun d hd => Rc.numOk_lt (HOKn.out d hd)) (fun d hd => Rc.numOk_lt (HOKn.out d hd)) (by rw [HLN.out]; omega) (by rw [HLN.out]; omega) true (by simp)).mono ?_
        rintro e w7 ⟨rfl, hb7⟩
        have HB67 := Lib.hid hb7
        rcases n with _ | m
        · obtain rfl : en = 0 := by rw [← HEL.out, HFe.out]; rfl
          clear hb7
          go_wp2
          go_meet
          exact ⟨by first | rfl | (congr 1; simp; omega), HB67⟩
        · obtain ⟨g, rfl, hcell⟩ := HEc6.out m (by omega)
          rw [HEL.out] at hcell
          have hcell7 := cell_later hb7 hcell
          have hm1 : ((m : Int) + 1 - 1) = (m : Int) := by omega
          have hm0 : (0 : Int) < (m : Int) + 1 := by omega
          have hmN : (m : Int) < (N : Int) := by omega
          have hmN' : m < N := by omega
          have hmz : ((m : Int) + 1 == 0) = false := by simp; omega
          clear hb7 hcell
          go_wp2
          go_meet
          exact ⟨by first | rfl | (congr 1; simp; omega), HB67⟩
      case rest =>
        obtain ⟨rfl, hcut⟩ := hcut
        obtain ⟨w7, rfl⟩ : ∃ wy : World, wy = wc := ⟨_, rfl⟩
        have HB7 := Lib.hid (HB6.out.trans (hcut.out.mono HB6.out.size))
        have HT7 := Lib.hid (HT6.out.under hcut.out)
        have HA7 := Lib.hid (HAo6.out.under hcut.out)
        clear hcut HT6 HAo6 HB6 HEc6 HR6 HA6
        have henT : en ≤ T := by omega
        have henc : en ≤ ct := by omega
        have hencI : (en : Int) ≤ (ct : Int) := by omega
        have HEN6 : Hid (en ≤ 600) := Lib.hid (by omega)
        have HTH : Hid (Bytes w7 (.slice At en ct) (F n)) := Lib.hid (by rw [← HTK.out]; exact HT7.out.bytes.head henT henc)
        go_wp2_with (at_builtin; refine wpList_append_bytes rfl _ _ rfl w7.heap.size _ _ [] (F n) rfl (own_empty w7 _ 0 #[] (Nat.le_refl _) (by unfold maxLen; omega) rfl) rfl (HTH.out.alloc _) ?_ ?_ (F n) rfl ?_)
        case refine_1 => rw [HEL.out, List.length_nil]; have := HEN6.out; omega
        case refine_2 => simp
        case refine_3 =>
          rintro v8 w8 ⟨ho8, _, _, hb8'⟩
          have hb8 : Below w7.heap.size w7 w8 := ((Below.refl _ _).alloc (Nat.le_refl _) _).trans hb8'
          have HB8 := Lib.hid (HB7.out.trans (hb8.mono HB7.out.size))
          have HX8 := Lib.hid (ho8.more (base' := w.heap.size) HB7.out.size)
          have HA8 : Hid (OwnDs w8 w.heap.size (.slice AA N cA) (LD.take N)) := Lib.hid (HA7.out.under hb8)
          clear ho8 hb8 hb8' HTH HT7 HA7 HB7
          obtain ⟨T', hTm, hTo, hTp⟩ := HA8.out
          have HTM : Hid ((T'.take n).map Prod.fst = LD.take n) := Lib.hid (by rw [List.map_take, hTm, List.take_take, Nat.min_eq_left hn])
          have HTR := Lib.hid (fun o => (hTo.rd.take_ hn).under ((Below.refl w8.heap.size w8).alloc (Nat.le_refl _) o))
          have HTP := Lib.hid (fun y (hy : y ∈ T'.take n) => hTp y (List.mem_of_mem_take hy))
          have HTL : Hid ((T'.take n).length ≤ 10) := Lib.hid (by rw [List.length_take]; omega)
          clear hTm hTo hTp HA8
          go_wp2_with (at_builtin; refine wpList_append_dones rfl _ _ rfl w8.heap.size _ _ [] (T'.take n) rfl (ownN_empty w8 _ (Nat.le_refl _)) rfl (HTR.out _) (fun x hx => (HTP.out x hx).oneCell) (by have := HTL.out; rw [List.length_nil]; omega) ?_ _ rfl ?_)
          case refine_1 => simp
          case refine_2 =>
            rintro u9 w9 hgr
            have hb9 : Below w8.heap.size w8 w9 := ((Below.refl _ _).alloc (Nat.le_refl _) _).trans hgr.2.2.1
            have HB9 := Lib.hid (HB8.out.trans (hb9.mono HB8.out.size))
            have HX9 := Lib.hid (HX8.out.under hb9)
            have HW9 : Hid (OwnDs w9 w.heap.size u9 (LD.take n)) := Lib.hid ⟨T'.take n, HTM.out, OwnN.more hgr.1 HB8.out.size, fun y hy => (HTP.out y hy).under hb9⟩
            clear hgr hb9 HX8 HB8 HTM HTR HTP HTL
            have HWn : Hid (∀ k, k < M → LD.take n ++ LE.take k ++ [Rc.num (more.getD k 0)] = LD.take n ++ LE.take (k + 1)) := Lib.hid fun k hk => by rw [List.append_assoc, HEn.out k hk]
            have hOKw : ∀ k, ∀ d ∈ LD.take n ++ LE.take k, Rc.NumOk d := fun k d hd => by
              rcases List.mem_append.1 hd with h | h
              · exact HOKn.out d h
              · exact HOM.out d (List.mem_of_mem_take h)
            have HOKw := Lib.hid hOKw
            obtain ⟨G, hG⟩ : ∃ G : Nat → List Nat, (fun k => Fr.frs ((LD.take n ++ LE.take k).map Rc.body)) = G := ⟨_, rfl⟩
            have HGe : Hid (∀ k, G k = Fr.frs ((LD.take n ++ LE.take k).map Rc.body)) := Lib.hid fun k => by rw [← hG]
            have HGn : Hid (∀ k, k < M → G k ++ Fr.frm (Rc.body (Rc.num (more.getD k 0))) = G (k + 1)) := Lib.hid fun k hk => by
              rw [HGe.out, HGe.out, ← HWn.out k hk, List.map_append (l₁ := LD.take n ++ LE.take k), Rc.frs_append]
              simp [Fr.frs]
            have HGb : Hid (∀ k, k ≤ M → (G k).length ≤ 1200) := Lib.hid fun k hk => by
              rw [HGe.out]
              have h1 := Rc.frs_len_le ((LD.take n ++ LE.take k).map Rc.body) (fun x hx => by obtain ⟨d, hd, rfl⟩ := List.mem_map.1 hx; exact Rc.body_len (hOKw k d hd))
              rw [List.length_map, List.length_append, List.length_take, List.length_take] at h1
              omega
            have G0 : G 0 = F n := by rw [HGe.out, HFe.out, List.take_zero, List.append_nil]
            have HG0 := Lib.hid G0
            clear hG G0 hOKw
            go_upto_block 4 with fail
            go_cut [15, 16] (fun xv wv wx => Hid (Own wx w.heap.size xv (G M)) ∧ Hid (OwnDs wx w.heap.size wv (LD.take n ++ LE.take M)) ∧ Hid (Below w.heap.size w wx))
            case first =>
              go_wp2_with fail
              go_loopg [15, 16, 17] M (fun g tv av i wr => ∃ k : Nat, k ≤ M ∧ M - k ≤ g ∧ i = .int .i64 (k : Int) ∧ Hid (Own wr w.heap.size tv (G k)) ∧ Hid (OwnDs wr w.heap.size av (LD.take n ++ LE.take k)) ∧ Hid (Below w.heap.size w wr))
              case atStart =>
                refine ⟨0, by omega, by omega, rfl, Lib.hid ?_, Lib.hid ?_, HB9⟩
                · rw [HG0.out]; exact HX9.out
                · rw [List.take_zero, List.append_nil]; exact HW9.out
              case round =>
                obtain ⟨k, hk, hg, rfl, hT, hA, hbl⟩ := hrel
                obtain ⟨wz, rfl⟩ : ∃ wx : World, wx = wr := ⟨_, rfl⟩
                by_cases hlt : k < M
                · skip
                  have hi0 : (k : Int) < (n2 : Int) := by have := HM.out; omega
                  have hi1 : (k : Int) < 5 := by omega
                  obtain ⟨b, off, rfl, hcz⟩ := (H2.out.under hbl.out).at (k := k) (by have := HM.out; omega)
                  obtain ⟨z, hz⟩ : ∃ z, more.getD k 0 = z := ⟨_, rfl⟩
                  rw [hz] at hcz
                  obtain ⟨d, hd⟩ : ∃ d, Rc.num z = d := ⟨_, rfl⟩
                  have HDK : Hid (Rc.NumOk d) := Lib.hid (by rw [← hd]; exact Rc.num_ok z)
                  have HNF : Hid (G k ++ Fr.frm (Rc.body d) = G (k + 1)) := Lib.hid (by have := HGn.out k hlt; rw [hz, hd] at this; exact this)
                  have HND : Hid (LD.take n ++ LE.take k ++ [d] = LD.take n ++ LE.take (k + 1)) := Lib.hid (by have := HWn.out k hlt; rw [hz, hd] at this; exact this)
                  have HC1 : Hid (∀ W, Calls Try.prog 50 #[.int .i64 z] W (NumIs d W)) := Lib.hid fun W => rnum_any' z d W hd
                  have HC2 : Hid (∀ W x, Bytes W x d.2.1 → Calls Try.prog 42 #[doneV (str d.1) (d.2.2.1 : Int) (d.2.2.2 : Int) x] W (Made W.heap.size (Rc.body d) W)) := Lib.hid fun W x hx => rdone_is _ _ _ _ _ _ W hx (Rc.numOk_lt HDK.out) (by have := (Rc.ok_length HDK.out.1).2; omega) (by have := HDK.out.2.1; omega) rfl
                  have HBD : Hid ((Rc.body d).length ≤ 50) := Lib.hid (Rc.body_len HDK.out)
                  have HRN : Hid (∀ (W : World) (x : Value) (m : Nat × Nat), RdN (W.alloc (.cells #[.string (str d.1), .int .i64 (d.2.2.1 : Int), .int .i64 (d.2.2.2 : Int), x] 59 m)) (.slice (some ⟨W.heap.size, 0, none⟩) 1 1) [(d, x)]) := Lib.hid fun W x m => rdN_one W (d, x) m
                  have HP2 : Hid (d.2.1.length ≤ 2) := Lib.hid HDK.out.2.1
                  obtain ⟨bd, hbd⟩ : ∃ b, Rc.body d = b := ⟨_, rfl⟩
                  rw [hbd] at HNF HC2 HBD
                  obtain ⟨s, hs⟩ : ∃ s, str d.1 = s := ⟨_, rfl⟩
                  obtain ⟨y1, hy1⟩ : ∃ y : Int, ((d.2.2.1 : Nat) : Int) = y := ⟨_, rfl⟩
                  obtain ⟨y2, hy2⟩ : ∃ y : Int, ((d.2.2.2 : Nat) : Int) = y := ⟨_, rfl⟩
                  rw [hs, hy1, hy2] at HC2 HRN
                  have HC1' : Hid (∀ W, Calls Try.prog 50 #[.int .i64 z] W fun e w' => Below W.heap.size W w' ∧ ∃ x, e = .returned (.agg #[.string s, .int .i64 y1, .int .i64 y2, x]) ∧ Own w' W.heap.size x d.2.1) := Lib.hid (by rw [← hs, ← hy1, ← hy2]; exact HC1.out)
                  clear hz hd hbd hs hy1 hy2 HC1
                  obtain ⟨_, _, At, ct, rfl, hct, _⟩ := hT.out.bytes.parts
                  obtain ⟨nt, hnt⟩ : ∃ n, (G k).length = n := ⟨_, rfl⟩
                  rw [hnt] at hT ⊢
                  have HNT := Lib.hid hnt
                  clear hnt hct
                  go_wp2_with fail
                  refine (HC1'.out wz).mono ?_
                  rintro e w1 ⟨hb1, x1, rfl, ho1⟩
                  have HB1 := Lib.hid (hbl.out.trans (hb1.mono hbl.out.size))
                  have HB1' := Lib.hid hb1
                  have HX1 := Lib.hid ho1.bytes
                  obtain ⟨_, _, A1, c1, rfl, _, _⟩ := ho1.bytes.parts
                  obtain ⟨np, hnp⟩ : ∃ n, d.2.1.length = n := ⟨_, rfl⟩
                  rw [hnp] at HX1 ⊢
                  clear hb1 ho1
                  go_wp2_with fail
                  refine (HC2.out w1 _ HX1.out).mono ?_
                  rintro e w2 ⟨v2', rfl, ho2, hb2⟩
                  have HB2 := Lib.hid (HB1.out.trans (hb2.mono HB1.out.size))
                  have HB2' := Lib.hid (HB1'.out.trans (hb2.mono HB1'.out.size))
                  have HX2 := Lib.hid ho2.bytes
                  clear hb2 ho2 HB1 HB1' HX1
                  go_wp2_with fail
                  refine (refput_is _ _ (G k) bd (G (k + 1)) w2 (hT.out.under HB2'.out).bytes HX2.out (by have := HGb.out k hk; omega) (by have := HBD.out; omega) HNF.out).mono ?_
                  rintro e w3 ⟨v3, rfl, ho3, hb3⟩
                  have HB3 := Lib.hid (HB2.out.trans (hb3.mono HB2.out.size))
                  have HB3' := Lib.hid (HB2'.out.trans (hb3.mono HB2'.out.size))
                  have HT3 := Lib.hid (ho3.more (base' := w.heap.size) HB2.out.size)
                  have HA3 := Lib.hid (hA.out.under HB3'.out)
                  have hcz3 := cell_later HB3'.out hcz
                  obtain ⟨_, _, A3, c3, rfl, _, _⟩ := ho3.bytes.parts
                  obtain ⟨n3, hn3⟩ : ∃ n, (G (k + 1)).length = n := ⟨_, rfl⟩
                  rw [hn3] at HT3 ⊢
                  have HN3 := Lib.hid hn3
                  clear hb3 ho3 HX2 HB2 HB2' HB3' hT hA hbl hcz hn3
                  go_wp2_with fail
                  refine (HC1'.out w3).mono ?_
                  rintro e w4 ⟨hb4, x4, rfl, ho4⟩
                  have HB4 := Lib.hid (HB3.out.trans (hb4.mono HB3.out.size))
                  have HT4 := Lib.hid (HT3.out.under hb4)
                  have HA4 := Lib.hid (HA3.out.under hb4)
                  have HX4 := Lib.hid (ho4.more (base' := w.heap.size) HB3.out.size)
                  obtain ⟨_, _, A4, c4, rfl, _, _⟩ := ho4.bytes.parts
                  rw [hnp] at HX4 ⊢
                  obtain ⟨T, hTm, hTo, hTp⟩ := HA4.out
                  have HTM := Lib.hid hTm
                  have HTO := Lib.hid hTo
                  have HTP := Lib.hid hTp
                  have HTL : Hid (T.length ≤ 100) := Lib.hid (by have h1 : T.length = (LD.take n ++ LE.take k).length := by rw [← hTm, List.length_map]
                                                                 rw [h1, List.length_append, List.length_take, List.length_take]; omega)
                  clear hb4 ho4 hTm hTo hTp HT3 HA3 HB3 HA4
                  go_wp2_with (at_builtin; refine wpList_append_dones rfl _ _ rfl w.heap.size _ _ T [(d, .slice A4 np c4)] rfl (HTO.out.alloc _) rfl (HRN.out w4 (.slice A4 np c4) (0, 0)) (fun x hx => by rw [List.mem_singleton.1 hx]; rfl) (by have := HTL.out; rw [List.length_singleton]; omega) ?_ _ rfl ?_)
                  case refine_1 => have := HB4.out.size; simp; omega
                  case refine_2 =>
                    rintro u5 w5 hgr
                    have hba : ∀ o, Below w4.heap.size w4 (w4.alloc o) := fun o => (Below.refl _ _).alloc (Nat.le_refl _) _
                    have HB5 := Lib.hid ((HB4.out.trans ((hba _).mono HB4.out.size)).trans hgr.2.2.1)
                    have HA5 : Hid (OwnDs w5 w.heap.size u5 (LD.take n ++ LE.take (k + 1))) := Lib.hid (by
                      rw [← HND.out]
                      exact OwnDs.grew HTM.out (HTO.out.alloc _) (fun y hy => (HTP.out y hy).alloc _) (HX4.out.alloc _) hgr)
                    have HT5 : Hid (Own w5 w.heap.size (.slice A3 n3 c3) (G (k + 1))) := Lib.hid ((HT4.out.alloc _).grown hgr.2.1 (own_apartN HT4.out HTO.out))
                    clear hgr hba HT4 HTO HTP HTM HX4 HB4 
                    go_wp2
                    go_roundg (M - (k + 1))
                    all_goals first
                      | omega
                      | exact ⟨k + 1, hlt, by omega, by go_num, HT5, HA5, HB5⟩
                · obtain rfl : k = M := by omega
                  have hor : ¬ ((k : Int) < (n2 : Int)) ∨ ((k : Int) < (n2 : Int) ∧ ¬ ((k : Int) < 5)) := by have := HM.out; omega
                  rcases hor with h1 | ⟨h1, h2⟩
                  all_goals
                    go_wp2
                    go_meet
                    exact ⟨hT, hA, hbl⟩
            case rest =>
              obtain ⟨HX, HW, HBw⟩ := hcut
              obtain ⟨wa, rfl⟩ : ∃ wy : World, wy = wc := ⟨_, rfl⟩
              have hC10 : ∀ x ∈ (LD.take n ++ LE.take M).map Rc.body, x.length ≤ 10000 := fun x hx => by
                obtain ⟨d, hd, rfl⟩ := List.mem_map.1 hx
                have := Rc.body_len (HOKw.out M d hd)
                omega
              have hscn := Rc.scn_all _ hC10
              rw [← HGe.out M] at hscn
              have HSC2 := Lib.hid hscn
              have HLD2 : Hid (Rc.lead ((LD.take n ++ LE.take M).map Rc.body) = LD.take n ++ LE.take M) := Lib.hid (Rc.lead_map _ (HOKw.out M))
              obtain ⟨gl, hgl⟩ : ∃ g, (G M).length = g := ⟨_, rfl⟩
              have HEN2 : Hid (Rc.ends ((LD.take n ++ LE.take M).map Rc.body) = gl) := Lib.hid (by rw [Rc.ends_map _ (HOKw.out M), ← HGe.out, hgl])
              have hgl2 : gl ≤ 1200 := by have := HGb.out M (Nat.le_refl _); omega
              obtain ⟨_, _, Ax, cx, rfl, _, _⟩ := HX.out.bytes.parts
              rw [hgl] at HX ⊢
              have HGL := Lib.hid hgl
              have HW2 := Lib.hid HW.out.rd
              clear hC10 hscn hgl HX9 HW9 HB9
              go_wp2_with fail
              refine (rtrace_any _ (G M) _ _ wa HX.out.bytes HSC2.out.1 (by rw [HGL.out]; omega) HSC2.out.2).mono ?_
              rintro e wb ⟨hbb, ub, rfl, hob⟩
              rw [HLD2.out] at hob
              rw [HEN2.out]
              have HRb := Lib.hid hob.rd
              have HBb := Lib.hid (HBw.out.trans (hbb.mono HBw.out.size))
              have HWb := Lib.hid (HW2.out.under hbb)
              clear hbb hob HX HW HW2 HBw
              go_wp2_with fail
              refine (sameDs_any _ _ _ _ wb HRb.out HWb.out (fun d hd => Rc.numOk_lt (HOKw.out M d hd)) (fun d hd => Rc.numOk_lt (HOKw.out M d hd)) (by rw [List.length_append, List.length_take, List.length_take]; omega) (by rw [List.length_append, List.length_take, List.length_take]; omega) true (by simp)).mono ?_
              rintro e wd ⟨rfl, hbd⟩
              have HBd := Lib.hid (HBb.out.trans (hbd.mono HBb.out.size))
              clear hbd HBb HRb HWb
              go_wp2_with fail
              refine (rawake_any wd).mono ?_
              rintro e we ⟨rfl, hbe⟩
              have HBe := Lib.hid (HBd.out.trans (hbe.mono HBd.out.size))
              clear hbe
              go_wp2
              go_ret
              exact ⟨rfl, HBe.out⟩
end Go.Proofs.Ytkfmjkoghfcciaa
