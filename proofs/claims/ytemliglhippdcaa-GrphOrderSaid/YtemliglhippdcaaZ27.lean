/- Package mani's own reader: the actions of so many Outs. -/
import Derived.Test.YtemliglhippdcaaZ26
import Derived.Test.YtemliglhippdcaaZ22
import Derived.Test.YtemliglhippdcaaZ05
import Derived.Test.YtemliglhippdcaaActParse
import Derived.Test.YtemliglhippdcaaManiRef2
import Derived.Deep.DeepCutAuto
import Derived.Deep.LoopGhost
import Derived.Test.YtemliglhippdcaaManiOuts
import Derived.Test.YtemliglhippdcaaManiMem
import Derived.Test.YtemliglhippdcaaManiOut
import Derived.Test.YtemliglhippdcaaZ02
import Derived.Test.YtemliglhippdcaaZ24
namespace Go.Proofs.Ytemliglhippdcaa
set_option maxRecDepth 100000
open Go.ChangeShapes Go.WideShapes Go.ChangeAt Go.RowKit Go.Shelf

/-- Actions so far: a row of the call's own. -/
def OwnA (w : World) (base hi : Nat) (v : Value) (l : List (List Ac.D)) : Prop :=
  ∃ us : List Value, us.length = l.length ∧ w.ownsRow base 140 1 v l.length us ∧ (∀ x ∈ us, x.oneCell' = true) ∧ ∀ i, i < l.length → SlDB w hi (us.getD i undef) (l.getD i [])
theorem ownA_none (w : World) (base hi : Nat) : OwnA w base hi (.slice none 0 0) [] := ⟨[], rfl, World.ownsRow_nil w base _ 1, by simp, fun i hi => absurd hi (by simp)⟩
theorem OwnA.parts {w : World} {base hi : Nat} {v : Value} {l : List (List Ac.D)} (h : OwnA w base hi v l) : ∃ A c, v = .slice A l.length c := by
  obtain ⟨us, _, h2, _⟩ := h
  rcases h2.2 with ⟨rfl, h0⟩ | ⟨g, cap, cur, rfl, _⟩
  · exact ⟨none, 0, by rw [h0]⟩
  · exact ⟨_, _, rfl⟩
theorem OwnA.under {w w' : World} {base hi : Nat} {v : Value} {l : List (List Ac.D)} (h : OwnA w base hi v l) (hb : Below w.heap.size w w') : OwnA w' base hi v l := by
  obtain ⟨us, h1, h2, h3, h4⟩ := h
  exact ⟨us, h1, h2.kept (Below.toGrown hb none) (by cases v.ownBlock <;> simp), h3, fun i hi => (h4 i hi).keep (Q := PartTy) (KeepB.below hb) (.inr (.inl rfl))⟩
theorem OwnA.more {w : World} {base hi hi' : Nat} {v : Value} {l : List (List Ac.D)} (h : OwnA w base hi v l) (hh : hi ≤ hi') : OwnA w base hi' v l := by
  obtain ⟨us, h1, h2, h3, h4⟩ := h
  exact ⟨us, h1, h2, h3, fun i hi => (h4 i hi).more hh⟩
theorem OwnA.slB {w : World} {base hi : Nat} {v : Value} {l : List (List Ac.D)} (h : OwnA w base hi v l) (hh : w.heap.size ≤ hi) : SlAB w hi v l := by
  obtain ⟨us, h1, h2, h3, h4⟩ := h
  have h2' := h2
  rcases h2.2 with ⟨rfl, h0⟩ | ⟨g, cap, cur, rfl, hb, hg, hn, hm, hs, ht⟩
  · have : l = [] := List.eq_nil_of_length_eq_zero h0
    subst this
    exact slB_nil _ _ _ _ _
  · refine ⟨_, cap, rfl, hn, Nat.le_trans hn hm, fun h0 => ⟨g, 0, rfl, ?_, ⟨cur, (0, 0), hg⟩, fun k hk => ⟨us.getD k undef, ?_, h4 k hk⟩⟩⟩
    · have := (Array.getElem?_eq_some_iff.1 hg).1
      omega
    · rw [show 0 + k * 1 = k from by omega, World.ownsRow.cellAt h2' k (by omega), List.getD_eq_getElem?_getD, List.getElem?_eq_getElem (by omega)]
      rfl
theorem infoDos : (Try.prog.info? 140).map (fun i => (i.zero, i.size, i.bytes)) = some (some (.slice none 0 0), 1, 24) := by kernel_rfl
theorem wpList_append_dos1 {w : World} {ops : Array Oper} {rest : List Oper} {o : Oper} {a : Act} {Q : Exit → Act → World → Prop} (hgd : o.guard = none) (s x : Operand)
    (ho : o.op = .call { callee := .builtin .append, args := #[s, x], argTypes := #[38, 38] }) (base hi B : Nat) (v u : Value) (l : List (List Ac.D)) (d : List Ac.D) (hs : a.eval s = v) (hown : OwnA w base hi v l)
    (hx : a.eval x = .slice (some ⟨B, 0, none⟩) 1 1) (hB : w.cell? ⟨B, 0, none⟩ = some u) (hd : SlDB w hi u d) (hlen : l.length ≤ 1099511627776) (hbase : base ≤ w.heap.size)
    (h : ∀ v' w', OwnA w' base hi v' (l ++ [d]) → Below base w w' → w.grownBy w' v.ownBlock → wpList Try.prog ops Q rest (a.put o.dst v') w') : wpList Try.prog ops Q (o :: rest) a w := by
  obtain ⟨us, h1, h2, h3, h4⟩ := hown
  obtain ⟨i, hi', hz0, hz1, hz2⟩ := info_parts infoDos
  have hone : u.oneCell' = true := by
    obtain ⟨A, c, rfl, _⟩ := hd.parts
    rfl
  refine wpList_append_own_at w hgd s x 38 ho base 140 i (.slice none 0 0) 1 24 Try.underlying38 hi' hz0 hz1 hz2 rfl (by decide) v l.length us hs h2 ⟨B, 0, none⟩ 1 1 [u] hx rfl ?_ (by simpa using hone) (by unfold maxLen; omega) (by omega) hbase ?_
  · intro j y hy
    have hj : j = 0 := by
      rcases j with _ | j
      · rfl
      · simp at hy
    subst hj
    simp at hy
    subst hy
    rw [add_plain]
    exact hB
  · intro v' w' g1 g2 _ _
    have hk : KeepB w w' hi (fun t => t = 145) := fun b t _ hty hq => g2.block b hty.lt (by
      intro e
      subst hq
      rcases h2.2 with ⟨rfl, _⟩ | ⟨gg, cap, cur, rfl, _, hgg, _⟩
      · cases e
      · injection e with e
        subst e
        exact absurd rfl (hty.ne (show Ty w b 140 from ⟨cur, (0, 0), hgg⟩) (by decide)))
    refine h v' w' ⟨us ++ [u], by simp [h1], by simpa using g1, fun y hy => (List.mem_append.1 hy).elim (h3 y) (fun e => by simp at e; subst e; exact hone), fun j hj => ?_⟩ ((Below.refl _ _).grown g2 hbase fun k hk => (World.ownsRow.lt h2 k hk).1) g2
    rcases Nat.lt_or_ge j l.length with hlt | hge
    · rw [getD_snoc_lt (by omega), getD_snoc_lt hlt]
      exact (h4 j hlt).keep hk rfl
    · have : j = l.length := by simp at hj; omega
      rw [getD_snoc_eq (by omega), getD_snoc_eq this]
      exact hd.keep hk rfl
end Go.Proofs.Ytemliglhippdcaa

/- The document's parser: the actions of a rule, where they are right. -/
namespace Go.Proofs.Ytemliglhippdcaa
set_option maxRecDepth 100000
open Go.ChangeShapes Go.WideShapes Go.ChangeAt Go.RowKit Go.Shelf

theorem Mn.bind_ok {α β : Type} {x : Mn.R α} {f : α → Mn.R β} {y : β} (h : x.bind f = .ok y) : ∃ a, x = .ok a ∧ f a = .ok y := by
  cases x with
  | ok a => exact ⟨a, rfl, h⟩
  | bad e => cases h
theorem parse_nil : Ac.parse [] = none := rfl
theorem fin_ok {first : Ln.W} {n : Nat} {cur : List Ln.W} {out o : List (List Ac.D)} (h : Mn.fin first n cur out = .ok o) : out.length < n ∧ cur ≠ [] ∧ ∃ a, Ac.parse cur = some a ∧ o = out ++ [a] := by
  unfold Mn.fin at h
  split at h
  · cases h
  · next h1 =>
    rcases hp : Ac.parse cur with _ | a
    · rw [hp] at h
      cases h
    · rw [hp] at h
      injection h with h
      refine ⟨by omega, fun e => ?_, a, rfl, h.symm⟩
      rw [e, parse_nil] at hp
      cases hp
theorem acts_skip {first : Ln.W} {n : Nat} {w : Ln.W} {r cur : List Ln.W} {out : List (List Ac.D)} (h : Mn.isW [44] w = false) : Mn.acts first n (w :: r) cur out = Mn.acts first n r (cur ++ [w]) out := by
  rw [Mn.acts, h, if_neg (by decide)]
theorem acts_comma {first : Ln.W} {n : Nat} {w : Ln.W} {r cur : List Ln.W} {out A : List (List Ac.D)} (h : Mn.isW [44] w = true) (hA : Mn.acts first n (w :: r) cur out = .ok A) : out.length < n ∧ cur ≠ [] ∧ ∃ a, Ac.parse cur = some a ∧ Mn.acts first n r [] (out ++ [a]) = .ok A := by
  rw [Mn.acts, h, if_pos rfl] at hA
  obtain ⟨o, h1, h2⟩ := Mn.bind_ok hA
  obtain ⟨h3, h4, a, h5, rfl⟩ := fin_ok h1
  exact ⟨h3, h4, a, h5, h2⟩
theorem acts_end {first : Ln.W} {n : Nat} {cur : List Ln.W} {out A : List (List Ac.D)} (hA : Mn.acts first n [] cur out = .ok A) : out.length < n ∧ cur ≠ [] ∧ (∃ a, Ac.parse cur = some a ∧ out ++ [a] = A) ∧ n ≤ A.length := by
  rw [Mn.acts] at hA
  obtain ⟨o, h1, h2⟩ := Mn.bind_ok hA
  obtain ⟨h3, h4, a, h5, rfl⟩ := fin_ok h1
  split at h2
  · cases h2
  · injection h2 with h2
    exact ⟨h3, h4, ⟨a, h5, h2⟩, by rw [← h2]; omega⟩
theorem refparse_some {v : Value} {R : List Ln.W} {w : World} {a : List Ac.D} (hv : RdW w v R) (hne : R ≠ []) (hR : R.length ≤ 1000000) (ht : ∀ x ∈ R, (∀ c ∈ x.text, c < 256) ∧ x.text.length ≤ 1099511627776) (ha : Ac.parse R = some a) :
    Calls Try.prog 75 #[v] w fun e w' => ∃ u, e = .returned (.tuple #[u, .bool true]) ∧ OwnD w' w.heap.size u a ∧ Below w.heap.size w w' := by
  refine (refparse_any v R w hv (List.length_pos_iff.2 hne) hR ht (some a) ha.symm).mono ?_
  rintro e w' ⟨⟨u, he, ho⟩, hb⟩
  exact ⟨u, he, ho, hb⟩
set_option maxHeartbeats 8000000 in
theorem refacts_good (g i n : Nat) (v : Value) (L : List Ln.W) (rv dv lv fv : Value) (e : Mn.F) (w : World) (h : Pb w g rv dv lv fv e) (h0 : e.k = 0) (hv : RdW w v L) (hL : 0 < L.length) (hL2 : L.length ≤ 100000) (hi : i ≤ L.length) (hn : n ≤ 100) (ht : ∀ x ∈ L, (∀ c ∈ x.text, c < 256) ∧ x.text.length ≤ 1000000) (first : Ln.W) (A : List (List Ac.D)) (hA : Mn.acts first n (L.drop i) [] [] = .ok A) :
    Calls Try.prog 70 #[.pointer (some ⟨g, 0, none⟩), v, .int .i64 (i : Int), .int .i64 (n : Int)] w fun en w' => ∃ u, en = .returned u ∧ OwnA w' w.heap.size w'.heap.size u A ∧ Below w.heap.size w w' := by
  have HT := Lib.hid ht
  have HV := Lib.hid hv
  have HA := Lib.hid hA
  have H : Hid (∀ W, Below w.heap.size w W → W.cell? ⟨g, 4, none⟩ = some (.int .i64 0)) := Lib.hid (fun W hb => by have := (h.under hb).at 4; rw [h0] at this; exact this)
  obtain ⟨Ad, c, rfl, hlc, hlm, hx⟩ := hv
  obtain ⟨N, hN⟩ : ∃ N, L.length = N := ⟨_, rfl⟩
  rw [hN] at HV hL hL2 hlc hi ⊢
  have HN := Lib.hid hN
  obtain ⟨b, off, rfl, -⟩ := hx (by omega)
  have hg : g < w.heap.size := h.size
  clear hN hlm hx h h0 ht hA
  go_enter Try.func70, Try.ntmps70
  go_wp2_with fail
  go_loopg [9, 10, 11] (N + 1) (fun gk s9 s10 s11 wr => ∃ (k f : Nat) (O : List (List Ac.D)), f ≤ k ∧ k ≤ N + 1 ∧ N + 1 - k ≤ gk ∧ s10 = .int .i64 (f : Int) ∧ s11 = .int .i64 (k : Int) ∧ Hid (OwnA wr w.heap.size wr.heap.size s9 O) ∧ Hid (k ≤ N → Mn.acts first n (L.drop k) ((L.drop f).take (k - f)) O = .ok A) ∧ Hid (k = N + 1 → O = A ∧ n ≤ A.length) ∧ Hid (Below w.heap.size w wr))
  case atStart => exact ⟨i, i, [], Nat.le_refl _, by omega, by omega, rfl, rfl, Lib.hid (ownA_none _ _ _), Lib.hid (fun _ => by rw [Nat.sub_self, List.take_zero]; exact HA.out), Lib.hid (fun e => by omega), Lib.hid (Below.refl _ _)⟩
  case round =>
    obtain ⟨k, f, O, hfk, hk, hgk, rfl, rfl, HO, HRUN, HEND, HBZ⟩ := hrel
    obtain ⟨wz, rfl⟩ : ∃ wx : World, wx = wr := ⟨_, rfl⟩
    obtain ⟨lv9, rfl⟩ : ∃ l : Value, l = u9 := ⟨_, rfl⟩
    have k4 := H.out wz HBZ.out
    by_cases hlt : k ≤ N
    · have hkI : (k : Int) ≤ (N : Int) := by omega
      obtain ⟨oA, oc, rfl⟩ := HO.out.parts
      by_cases hk2 : k < N
      · have hkL : k < L.length := by rw [HN.out]; exact hk2
        have hk2I : (k : Int) < (N : Int) := by omega
        obtain ⟨b1, off1, e, p0, p1, p2, p3⟩ := (HV.out.under HBZ.out).at2 k hkL
        injection e with e
        injection e with e1 e2
        subst e1 e2
        have HX := Lib.hid (HT.out (L[k]'hkL) (List.getElem_mem hkL))
        have HR1 : Hid (Mn.acts first n (L[k]'hkL :: L.drop (k + 1)) ((L.drop f).take (k - f)) O = .ok A) := Lib.hid (by
          have := HRUN.out hlt
          rwa [List.drop_eq_getElem_cons hkL] at this)
        have HCUR : Hid ((L.drop f).take (k - f) ++ [L[k]'hkL] = (L.drop f).take (k + 1 - f)) := Lib.hid (by
          have h1 : k - f < (L.drop f).length := by rw [List.length_drop]; omega
          rw [show k + 1 - f = (k - f) + 1 from by omega, List.take_succ_eq_append_getElem h1]
          congr 2
          rw [List.getElem_drop]
          congr 1
          omega)
        obtain ⟨x, hx⟩ : ∃ x, L[k]'hkL = x := ⟨_, rfl⟩
        rw [hx] at p0 p1 p2 p3 HX HR1 HCUR
        have HIS : Hid (Calls Try.prog 52 #[.agg (cellsW x).toArray, .string (str [44])] wz fun e w' => e = .returned (.bool (Mn.isW [44] x)) ∧ Below wz.heap.size wz w') := Lib.hid (refis_w [44] x wz HX.out.1 (by decide))
        have hzz := HBZ.out.size
        clear hx hkL HRUN HEND
        rcases hw : Mn.isW [44] x with _ | _
        · rw [hw] at HIS
          have HNX : Hid (Mn.acts first n (L.drop (k + 1)) ((L.drop f).take (k + 1 - f)) O = .ok A) := Lib.hid (by
            have := HR1.out
            rwa [acts_skip hw, HCUR.out] at this)
          clear hw HR1 HCUR
          go_wp2_with fail
          refine HIS.out.mono ?_
          rintro e w2 ⟨rfl, hb2⟩
          have HB2 : Hid (Below w.heap.size w w2) := Lib.hid (HBZ.out.trans (hb2.mono hzz))
          have HO2 : Hid (OwnA w2 w.heap.size w2.heap.size (.slice oA O.length oc) O) := Lib.hid ((HO.out.under hb2).more hb2.size)
          clear hb2
          go_wp2
          go_roundg (N + 1 - (k + 1))
          case measure => omega
          case rel => exact ⟨k + 1, f, O, by omega, by omega, by omega, rfl, by go_num, HO2, Lib.hid (fun _ => HNX.out), Lib.hid (fun e => by omega), HB2⟩
        · rw [hw] at HIS
          have HSTEP := Lib.hid (acts_comma hw HR1.out)
          clear hw HR1 HCUR
          go_wp2_with fail
          refine HIS.out.mono ?_
          rintro e w2 ⟨rfl, hb2⟩
          have HB2 : Hid (Below w.heap.size w w2) := Lib.hid (HBZ.out.trans (hb2.mono hzz))
          have HO2 : Hid (OwnA w2 w.heap.size w2.heap.size (.slice oA O.length oc) O) := Lib.hid ((HO.out.under hb2).more hb2.size)
          clear hb2 p0 p1 p2 p3
          obtain ⟨hO, hne, a, hpa, HNXT⟩ := HSTEP.out
          have hfk2 : f < k := by
            rcases Nat.lt_or_ge f k with h | h
            · exact h
            · exact absurd (by rw [show k - f = 0 from by omega, List.take_zero]) hne
          have hfkI : (f : Int) < (k : Int) := by omega
          have hfkI2 : (f : Int) ≤ (k : Int) := by omega
          have hkcI : (k : Int) ≤ (c : Int) := by omega
          have hf0 : (0 : Int) ≤ (f : Int) := by omega
          have hfN : f < L.length := by rw [HN.out]; omega
          have hfNI : (f : Int) < (N : Int) := by omega
          have hN0 : 0 < L.length := by rw [HN.out]; omega
          have hN0I : (0 : Int) < (N : Int) := by omega
          have hzW := HB2.out.size
          obtain ⟨b1, off1, e, q0, q1, q2, q3⟩ := (HV.out.under HB2.out).at2 0 hN0
          injection e with e
          injection e with e1 e2
          subst e1 e2
          rw [Nat.zero_mul, Nat.add_zero] at q0 q1 q2 q3
          obtain ⟨b1, off1, e, r0, r1, r2, r3⟩ := (HV.out.under HB2.out).at2 f hfN
          injection e with e
          injection e with e1 e2
          subst e1 e2
          have r0o := fun o => cell_later ((Below.refl w2.heap.size w2).alloc (Nat.le_refl _) o) r0
          have r1o := fun o => cell_later ((Below.refl w2.heap.size w2).alloc (Nat.le_refl _) o) r1
          have r2o := fun o => cell_later ((Below.refl w2.heap.size w2).alloc (Nat.le_refl _) o) r2
          have r3o := fun o => cell_later ((Below.refl w2.heap.size w2).alloc (Nat.le_refl _) o) r3
          obtain ⟨x0, hx0⟩ : ∃ x, L[0]'hN0 = x := ⟨_, rfl⟩
          rw [hx0] at q0 q1 q2 q3
          obtain ⟨xf, hxf⟩ : ∃ x, L[f]'hfN = x := ⟨_, rfl⟩
          rw [hxf] at r0 r1 r2 r3 r0o r1o r2o r3o
          have HRD : Hid (∀ W Ax, Below w.heap.size w W → (f < k → Ax = some ⟨b, off + f * 4, none⟩) → RdW W (.slice Ax (k - f) (c - f)) ((L.drop f).take (k - f))) := Lib.hid (fun W Ax hb hAx => (HV.out.under hb).slice hfk (by omega) hAx)
          have hOI : ¬ (O.length : Int) ≥ (n : Int) := by omega
          obtain ⟨On, hOn⟩ : ∃ m, O.length = m := ⟨_, rfl⟩
          have HON := Lib.hid hOn
          rw [hOn] at hOI ⊢
          have HNEC := Lib.hid hne
          have HPA := Lib.hid hpa
          have HNX2 := Lib.hid HNXT
          have HBO : Hid (∀ o, Below w.heap.size w (w2.alloc o)) := Lib.hid (fun o => HB2.out.alloc hzW o)
          clear hx0 hxf hne hOn hO hpa HNXT
          go_wp2_with fail
          refine (refparse_some (HRD.out _ _ (HBO.out _) (fun _ => rfl)) HNEC.out (by rw [List.length_take]; omega) (fun x hx => ⟨(HT.out x (List.mem_of_mem_drop (List.mem_of_mem_take hx))).1, by have := (HT.out x (List.mem_of_mem_drop (List.mem_of_mem_take hx))).2; omega⟩) HPA.out).mono ?_
          rintro e w4 ⟨u, rfl, hod, hb4⟩
          have HB4 : Hid (Below w.heap.size w w4) := Lib.hid ((HBO.out _).trans (hb4.mono (HBO.out _).size))
          have HO4 : Hid (OwnA w4 w.heap.size w4.heap.size (.slice oA On oc) O) := Lib.hid (by have hoo := HO2.out; rw [HON.out] at hoo; exact (((hoo.under ((Below.refl _ _).alloc (Nat.le_refl _) _)).under hb4).more (Nat.le_trans (by simp) hb4.size)))
          have HD4 := Lib.hid (hod.slB (hi := w4.heap.size) (Nat.le_refl _))
          obtain ⟨uA, uc, rfl, -⟩ := hod.sl
          have hz4 := HB4.out.size
          have HONL : Hid (O.length ≤ 100) := Lib.hid (by rw [HON.out]; omega)
          clear hb4 hod q0 q1 q2 q3 r0 r1 r2 r3 r0o r1o r2o r3o
          go_wp2_with (at_builtin; refine wpList_append_dos1 rfl _ _ rfl w.heap.size w4.heap.size w4.heap.size _ (.slice uA a.length uc) O a rfl (HO4.out.under ((Below.refl _ _).alloc (Nat.le_refl _) _)) rfl ?_ ?_ ?_ ?_ ?_)
          case refine_1 => exact (show Blk _ w4.heap.size 140 #[.slice uA a.length uc] from heap_alloc_new w4 _).at 0
          case refine_2 => exact HD4.out.keep (Q := PartTy) (KeepB.below ((Below.refl _ _).alloc (Nat.le_refl _) _)) (.inr (.inl rfl))
          case refine_3 => have := HONL.out; omega
          case refine_4 => simp; omega
          case refine_5 =>
            intro v5 w5 ho5 hb5 hg5
            have HO5 : Hid (OwnA w5 w.heap.size w5.heap.size v5 (O ++ [a])) := Lib.hid (ho5.more (by have := hg5.size; simp at this; omega))
            have HB5 : Hid (Below w.heap.size w w5) := Lib.hid ((HB4.out.alloc hz4 _).trans hb5)
            clear ho5 hb5 hg5
            go_wp2
            go_roundg (N + 1 - (k + 1))
            case measure => omega
            case rel => exact ⟨k + 1, k + 1, O ++ [a], by omega, by omega, by omega, by go_num, by go_num, HO5, Lib.hid (fun _ => by rw [Nat.sub_self, List.take_zero]; exact HNX2.out), Lib.hid (fun e => by omega), HB5⟩
      · obtain rfl : k = N := by omega
        have hkk : ¬ (k : Int) < (k : Int) := by omega
        have HSTEP : Hid (O.length < n ∧ (L.drop f).take (k - f) ≠ [] ∧ ∃ a, Ac.parse ((L.drop f).take (k - f)) = some a ∧ (O ++ [a] = A ∧ n ≤ A.length)) := Lib.hid (by
          have := HRUN.out (Nat.le_refl _)
          rw [List.drop_of_length_le (l := L) (i := k) (by rw [HN.out]; exact Nat.le_refl _)] at this
          obtain ⟨h1, h2, ⟨a, h3, h4⟩, h5⟩ := acts_end this
          exact ⟨h1, h2, a, h3, h4, h5⟩)
        clear HRUN HEND
        obtain ⟨hO, hne, a, hpa, HNXT⟩ := HSTEP.out
        have hfk2 : f < k := by
          rcases Nat.lt_or_ge f k with h | h
          · exact h
          · exact absurd (by rw [show k - f = 0 from by omega, List.take_zero]) hne
        have hfkI : (f : Int) < (k : Int) := by omega
        have hfkI2 : (f : Int) ≤ (k : Int) := by omega
        have hkcI : (k : Int) ≤ (c : Int) := by omega
        have hf0 : (0 : Int) ≤ (f : Int) := by omega
        have hfN : f < L.length := by rw [HN.out]; omega
        have hfNI : (f : Int) < (k : Int) := by omega
        have hN0 : 0 < L.length := by rw [HN.out]; omega
        have hN0I : (0 : Int) < (k : Int) := by omega
        have hzW := HBZ.out.size
        obtain ⟨b1, off1, e, q0, q1, q2, q3⟩ := (HV.out.under HBZ.out).at2 0 hN0
        injection e with e
        injection e with e1 e2
        subst e1 e2
        rw [Nat.zero_mul, Nat.add_zero] at q0 q1 q2 q3
        obtain ⟨b1, off1, e, r0, r1, r2, r3⟩ := (HV.out.under HBZ.out).at2 f hfN
        injection e with e
        injection e with e1 e2
        subst e1 e2
        have r0o := fun o => cell_later ((Below.refl wz.heap.size wz).alloc (Nat.le_refl _) o) r0
        have r1o := fun o => cell_later ((Below.refl wz.heap.size wz).alloc (Nat.le_refl _) o) r1
        have r2o := fun o => cell_later ((Below.refl wz.heap.size wz).alloc (Nat.le_refl _) o) r2
        have r3o := fun o => cell_later ((Below.refl wz.heap.size wz).alloc (Nat.le_refl _) o) r3
        obtain ⟨x0, hx0⟩ : ∃ x, L[0]'hN0 = x := ⟨_, rfl⟩
        rw [hx0] at q0 q1 q2 q3
        obtain ⟨xf, hxf⟩ : ∃ x, L[f]'hfN = x := ⟨_, rfl⟩
        rw [hxf] at r0 r1 r2 r3 r0o r1o r2o r3o
        have HRD : Hid (∀ W Ax, Below w.heap.size w W → (f < k → Ax = some ⟨b, off + f * 4, none⟩) → RdW W (.slice Ax (k - f) (c - f)) ((L.drop f).take (k - f))) := Lib.hid (fun W Ax hb hAx => (HV.out.under hb).slice hfk (by omega) hAx)
        have hOI : ¬ (O.length : Int) ≥ (n : Int) := by omega
        obtain ⟨On, hOn⟩ : ∃ m, O.length = m := ⟨_, rfl⟩
        have HON := Lib.hid hOn
        rw [hOn] at hOI ⊢
        have HNEC := Lib.hid hne
        have HPA := Lib.hid hpa
        have HNX2 := Lib.hid HNXT
        have HBO : Hid (∀ o, Below w.heap.size w (wz.alloc o)) := Lib.hid (fun o => HBZ.out.alloc hzW o)
        clear hx0 hxf hne hOn hO hpa HNXT
        go_wp2_with fail
        refine (refparse_some (HRD.out _ _ (HBO.out _) (fun _ => rfl)) HNEC.out (by rw [List.length_take]; omega) (fun x hx => ⟨(HT.out x (List.mem_of_mem_drop (List.mem_of_mem_take hx))).1, by have := (HT.out x (List.mem_of_mem_drop (List.mem_of_mem_take hx))).2; omega⟩) HPA.out).mono ?_
        rintro e w4 ⟨u, rfl, hod, hb4⟩
        have HB4 : Hid (Below w.heap.size w w4) := Lib.hid ((HBO.out _).trans (hb4.mono (HBO.out _).size))
        have HO4 : Hid (OwnA w4 w.heap.size w4.heap.size (.slice oA On oc) O) := Lib.hid (by have hoo := HO.out; rw [HON.out] at hoo; exact (((hoo.under ((Below.refl _ _).alloc (Nat.le_refl _) _)).under hb4).more (Nat.le_trans (by simp) hb4.size)))
        have HD4 := Lib.hid (hod.slB (hi := w4.heap.size) (Nat.le_refl _))
        obtain ⟨uA, uc, rfl, -⟩ := hod.sl
        have hz4 := HB4.out.size
        have HONL : Hid (O.length ≤ 100) := Lib.hid (by rw [HON.out]; omega)
        clear hb4 hod q0 q1 q2 q3 r0 r1 r2 r3 r0o r1o r2o r3o
        go_wp2_with (at_builtin; refine wpList_append_dos1 rfl _ _ rfl w.heap.size w4.heap.size w4.heap.size _ (.slice uA a.length uc) O a rfl (HO4.out.under ((Below.refl _ _).alloc (Nat.le_refl _) _)) rfl ?_ ?_ ?_ ?_ ?_)
        case refine_1 => exact (show Blk _ w4.heap.size 140 #[.slice uA a.length uc] from heap_alloc_new w4 _).at 0
        case refine_2 => exact HD4.out.keep (Q := PartTy) (KeepB.below ((Below.refl _ _).alloc (Nat.le_refl _) _)) (.inr (.inl rfl))
        case refine_3 => have := HONL.out; omega
        case refine_4 => simp; omega
        case refine_5 =>
          intro v5 w5 ho5 hb5 hg5
          have HO5 : Hid (OwnA w5 w.heap.size w5.heap.size v5 (O ++ [a])) := Lib.hid (ho5.more (by have := hg5.size; simp at this; omega))
          have HB5 : Hid (Below w.heap.size w w5) := Lib.hid ((HB4.out.alloc hz4 _).trans hb5)
          clear ho5 hb5 hg5
          go_wp2
          go_roundg (k + 1 - (k + 1))
          case measure => omega
          case rel => exact ⟨k + 1, k + 1, O ++ [a], by omega, by omega, by omega, by go_num, by go_num, HO5, Lib.hid (fun e => by omega), Lib.hid (fun _ => HNX2.out), HB5⟩
    · obtain rfl : k = N + 1 := by omega
      obtain ⟨rfl, hnA⟩ := HEND.out rfl
      have hkI : ¬ ((N + 1 : Nat) : Int) ≤ (N : Int) := by omega
      obtain ⟨Ao, co, rfl⟩ := HO.out.parts
      have hnI : ¬ (O.length : Int) < (n : Int) := by omega
      clear HRUN HEND
      go_wp2
      go_ret
      exact ⟨_, rfl, HO.out, HBZ.out⟩
end Go.Proofs.Ytemliglhippdcaa

/- Package mani's own reader: a rule is put behind the others. -/
namespace Go.Proofs.Ytemliglhippdcaa
set_option maxRecDepth 100000
open Go.ChangeShapes Go.WideShapes Go.ChangeAt Go.RowKit Go.Shelf

theorem KeepB.grown {w w' : World} {hi b : Nat} {t : TypeId} (hg : w.grownBy w' (some b)) (ht : Ty w b t) (hq : ¬ PartTy t) : KeepB w w' hi PartTy := fun c u _ hu hp => hg.block c hu.lt (by
  intro e
  injection e with e
  subst e
  by_cases he : u = t
  · subst he
    exact hq hp
  · exact absurd rfl (hu.ne ht he))
theorem notPart_rule : ¬ PartTy 40 := by unfold PartTy; decide
theorem texts_good {R : List Ln.W} (h : ∀ x ∈ R, GoodW x) (n : Nat) : ∀ t ∈ Mo.texts (R.take n), (∀ c ∈ t, c < 256) ∧ t.length ≤ 1000000 := by
  intro t ht
  unfold Mo.texts at ht
  obtain ⟨x, hx, rfl⟩ := List.mem_map.1 ht
  exact ⟨(h x (List.mem_of_mem_take hx)).bytes, (h x (List.mem_of_mem_take hx)).len⟩
theorem outs_good {s : Mo.S} (h : GoodS s) (most : Nat) : ∀ t ∈ (Mo.outs most s).1, (∀ c ∈ t, c < 256) ∧ t.length ≤ 1000000 := by
  unfold Mo.outs
  dsimp only
  have hs : (if s.rules.length = 64 then Mo.fail 11 s.first s else s).rest = s.rest := by
    split
    · unfold Mo.fail; split <;> rfl
    · rfl
  rw [hs]
  exact texts_good h.rest _
theorem ins_good {s : Mo.S} (h : GoodS s) : ∀ t ∈ (Mo.ins s).1, (∀ c ∈ t, c < 256) ∧ t.length ≤ 1000000 := texts_good h.rest _
theorem infoRule : (Try.prog.info? 40).map (fun i => (i.zero, i.size, i.bytes)) = some (some (.agg #[.slice none 0 0, .slice none 0 0, .slice none 0 0, .slice none 0 0, .bool false]), 5, 104) := by kernel_rfl
theorem rowR_snoc (f : Nat → Value × Value × Value × Value) (l : List Mn.Rule) (q : Value × Value × Value × Value) (r : Mn.Rule) :
    rowR (fun k => if k = l.length then q else f k) (l ++ [r]) (l.length + 1) = rowR f l l.length ++ cellsR q r := by
  rw [rowR, rowR_congr (g := f) (m := l) l.length (fun k hk => ⟨if_neg (by omega), by rw [List.getD_eq_getElem?_getD, List.getElem?_append_left hk, ← List.getD_eq_getElem?_getD]⟩), if_pos rfl, List.getD_eq_getElem?_getD, List.getElem?_append_right (Nat.le_refl _), Nat.sub_self]
  rfl
/-- An append whose run is known, in a region that draws. -/
theorem step_append_eq {P : Program} {w : World} {ops : Array Oper} {o : Oper} {a : Act} {K : Act → World → Prop} {Q : Exit → Act → World → Prop} {E : Prop} (hgd : o.guard = none) (s x : Operand) (T : TypeId)
    (ho : o.op = .call { callee := .builtin .append, args := #[s, x], argTypes := #[T, T] }) (vs vx : Value) (hs : a.eval s = vs) (hx : a.eval x = vx) {v' : Value} {w' : World} (hr : (Builtin.append_ #[T, T] o.type #[vs, vx]).run P w = .ok v' w')
    (h : K (a.put o.dst v') w') : if Region.wanted o (yielded ops a.tmps) = true then Oper.wp P o a w K Q else E := by
  rw [if_pos (by simp [Region.wanted, hgd])]
  unfold Oper.wp execOp
  simp only [ho, resolve, invoke, builtin, Sem.run_bind, Sem.run_pure, Result.andThen_ok, List.map_toArray, List.map_cons, List.map_nil, hs, hx, hr]
  exact h
end Go.Proofs.Ytemliglhippdcaa

/- The document's parser: its block and its rules, and how a rule is put behind the others. -/
namespace Go.Proofs.Ytemliglhippdcaa
set_option maxRecDepth 100000
open Go.ChangeShapes Go.WideShapes Go.ChangeAt Go.RowKit Go.Shelf

/-- The parser, with nothing wrong so far. -/
structure PRd (w : World) (base hi g : Nat) (rv dv lv fv : Value) (rules : List Mn.Rule) : Prop where
  blk : Pb w g rv dv lv fv ⟨0, 0, 0⟩
  rules : RulesB w base hi rv rules
  g1 : base ≤ g
  g2 : g < hi
  top : hi ≤ w.heap.size
theorem PRd.under {w w' : World} {base hi g : Nat} {rv dv lv fv : Value} {rules : List Mn.Rule} (h : PRd w base hi g rv dv lv fv rules) (hb : Below w.heap.size w w') : PRd w' base hi g rv dv lv fv rules :=
  ⟨h.blk.under hb, h.rules.keep (KeepB.below hb) (fun k hk => hb.block k (h.rules.ty k hk).2.2), h.g1, h.g2, Nat.le_trans h.top hb.size⟩
theorem PRd.more {w : World} {base hi hi' g : Nat} {rv dv lv fv : Value} {rules : List Mn.Rule} (h : PRd w base hi g rv dv lv fv rules) (hh : hi ≤ hi') (ht : hi' ≤ w.heap.size) : PRd w base hi' g rv dv lv fv rules :=
  ⟨h.blk, h.rules.more hh, h.g1, Nat.lt_of_lt_of_le h.g2 hh, ht⟩
theorem KeepB.trans {w w' w'' : World} {hi hi' : Nat} {Q : TypeId → Prop} (h : KeepB w w' hi Q) (k : KeepB w' w'' hi' Q) (hh : hi ≤ hi') : KeepB w w'' hi Q := fun b t hb ht hq => (k b t (Nat.lt_of_lt_of_le hb hh) (h.ty hb ht hq) hq).trans (h b t hb ht hq)
theorem notPart_parser : ¬ PartTy 66 := by unfold PartTy; decide
/-- The parser's own block alone is turned. -/
theorem PRd.turn {w w' : World} {base hi g : Nat} {rv dv lv fv : Value} {rules : List Mn.Rule} (h : PRd w base hi g rv dv lv fv rules) (hg : w.grownBy w' (some g)) (hB : Pb w' g rv dv lv fv ⟨0, 0, 0⟩) : PRd w' base hi g rv dv lv fv rules := by
  have hty : Ty w g 66 := Blk.ty h.blk
  refine ⟨hB, h.rules.keep (KeepB.grown hg hty notPart_parser) (fun k hk => ?_), h.g1, h.g2, Nat.le_trans h.top hg.size⟩
  have ht := h.rules.ty k hk
  exact hg.block k ht.2.2 (by
    intro e
    injection e with e
    subst e
    exact absurd rfl (ht.1.ne hty (by decide)))
theorem PRd.addRule {W : World} {base g : Nat} {rv dv lv fv : Value} {rules : List Mn.Rule} (h : PRd W base W.heap.size g rv dv lv fv rules) (q : Value × Value × Value × Value) (r : Mn.Rule) (hp : Parts W W.heap.size q r) (hlen : rules.length ≤ 1000000) (ty : TypeId) :
    ∃ v' w', (Builtin.append_ #[23, 23] ty #[rv, .slice (some ⟨W.heap.size, 0, none⟩) 1 1]).run Try.prog ((World.drew W).alloc (.cells (cellsR q r).toArray 40)) = .ok v' w' ∧ (∃ A n c, v' = .slice A n c) ∧ w'.cell? ⟨g, 0, none⟩ = some rv ∧ w'.frozen? ⟨g, 0, none⟩ = false ∧
      PRd (w'.setCell ⟨g, 0, none⟩ v') base w'.heap.size g v' dv lv fv (rules ++ [r]) ∧ Below base W (w'.setCell ⟨g, 0, none⟩ v') ∧ KeepB W (w'.setCell ⟨g, 0, none⟩ v') W.heap.size PartTy := by
  obtain ⟨f, h1, h2, h3⟩ := h.rules
  obtain ⟨i, hi, hz0, hz1, hz2⟩ := info_parts infoRule
  obtain ⟨W1, hW1⟩ : ∃ W1, W1 = (World.drew W).alloc (.cells (cellsR q r).toArray 40) := ⟨_, rfl⟩
  have hb1 : Below W.heap.size W W1 := by rw [hW1]; exact ((Below.refl _ W).drew).alloc (Nat.le_refl _) _
  have hz1' : W1.heap.size = W.heap.size + 1 := by rw [hW1, World.size_alloc]; rfl
  have hnew : Blk W1 W.heap.size 40 (cellsR q r).toArray := by rw [hW1]; exact heap_alloc_new (World.drew W) _
  have hone : ∀ u ∈ cellsR q r, u.oneCell' = true := by
    intro u hu
    obtain ⟨A1, c1, e1, _⟩ := hp.outs
    obtain ⟨A2, c2, e2, _⟩ := hp.ins
    obtain ⟨A3, c3, e3, _⟩ := hp.order
    obtain ⟨A4, c4, e4, _⟩ := hp.acts
    simp only [cellsR, List.mem_cons, List.not_mem_nil, or_false] at hu
    rcases hu with rfl | rfl | rfl | rfl | rfl
    · rw [e1]; rfl
    · rw [e2]; rfl
    · rw [e3]; rfl
    · rw [e4]; rfl
    · rfl
  obtain ⟨v', w', hr, ho, hg, _, hat⟩ := run_append_own_at (P := Try.prog) W1 base 23 ty 40 i (.agg #[.slice none 0 0, .slice none 0 0, .slice none 0 0, .slice none 0 0, .bool false]) 5 104 Try.underlying23 hi hz0 hz1 hz2 (by kernel_rfl) (by decide) rv rules.length (rowR f rules rules.length)
    (h1.kept (Below.toGrown hb1 none) (by cases rv.ownBlock <;> simp)) ⟨W.heap.size, 0, none⟩ 1 1 (cellsR q r) (cellsR_len q r) (fun j u hu => by
      rw [add_plain, Nat.zero_add, hnew.at j, List.getElem?_toArray]
      exact hu) hone (by unfold maxLen; omega) (by omega) (by have := h.g1; have := h.g2; omega)
  have hne : ∀ (b : Nat) (t : TypeId), Ty W1 b t → t ≠ 40 → w'.heap[b]? = W1.heap[b]? := fun b t hty hq => hg.block b hty.lt (by
    intro e
    rcases h1.2 with ⟨rfl, _⟩ | ⟨gg, cap, cur, rfl, _, hgg, _⟩
    · cases e
    · injection e with e
      subst e
      have hbz := (Array.getElem?_eq_some_iff.1 hgg).1
      exact absurd rfl (hty.ne (show Ty W1 b 40 from ⟨cur, (0, 0), (hb1.block b hbz).trans hgg⟩) hq))
  have hbase : base ≤ W.heap.size := by have := h.g1; have := h.g2; omega
  have hh := h.under hb1
  have hpty : Ty W1 g 66 := Blk.ty hh.blk
  have hblk : Pb w' g rv dv lv fv ⟨0, 0, 0⟩ := (hne g _ (Blk.ty hh.blk) (by decide)).trans hh.blk
  have hb2 : Below base W1 w' := (Below.refl _ _).grown hg (by omega) (fun k hk => (World.ownsRow.lt h1 k hk).1)
  have hs3 : ∀ (b : Nat) (t : TypeId), Ty W1 b t → t ≠ 40 → t ≠ 66 → (w'.setCell ⟨g, 0, none⟩ v').heap[b]? = W1.heap[b]? := fun b t hty h1 h2 => (Below.heap_setCell _ _ _ _ (hty.ne hpty h2)).trans (hne b t hty h1)
  have hk : KeepB W1 (w'.setCell ⟨g, 0, none⟩ v') W.heap.size PartTy := fun b t _ hty hq => hs3 b t hty (by rintro rfl; exact notPart_rule hq) (by rintro rfl; exact notPart_parser hq)
  refine ⟨v', w', by rw [← hW1]; exact hr, (by rcases ho.2 with ⟨rfl, _⟩ | ⟨gg, cap, cur, rfl, _⟩ <;> exact ⟨_, _, _, rfl⟩), Blk.at hblk 0, Blk.free hblk 0, ?_, ?_, fun b t hb hty hq => (hk b t hb (KeepB.ty (KeepB.below hb1) hb hty hq) hq).trans (hb1.block b hb)⟩
  · have hzz : W.heap.size ≤ w'.heap.size := by have := hg.size; omega
    refine ⟨Blk.set hblk 0 v', ⟨fun k => if k = rules.length then q else f k, ?_, ?_, ?_⟩, h.g1, by have := h.g2; omega, by simp⟩
    · rw [List.length_append, List.length_singleton, rowR_snoc]
      refine ownsRow_sames ho (fun k hk' => Below.heap_setCell _ _ _ _ ?_)
      rintro rfl
      rcases ho.2 with ⟨rfl, _⟩ | ⟨gg, cap, cur, rfl, _, hgg, _⟩
      · cases hk'
      · cases hk'
        have := hblk
        unfold Pb Blk at this
        rw [hgg] at this
        injection this with this
        injection this with _ this
        exact absurd this (by decide)
    · intro k hk'
      have := World.ownsRow.lt ho k hk'
      exact this.2
    · intro k hk'
      rw [List.length_append, List.length_singleton] at hk'
      rcases Nat.lt_or_ge k rules.length with hlt | hge
      · dsimp only
        rw [if_neg (by omega), List.getD_eq_getElem?_getD, List.getElem?_append_left hlt, ← List.getD_eq_getElem?_getD]
        exact (((h3 k hlt).keep (KeepB.below hb1)).keep hk).more hzz
      · have hkn : k = rules.length := by omega
        subst hkn
        dsimp only
        rw [if_pos rfl, List.getD_eq_getElem?_getD, List.getElem?_append_right (Nat.le_refl _), Nat.sub_self]
        exact ((hp.keep (KeepB.below hb1)).keep hk).more hzz
  · exact ((hb1.mono hbase).trans hb2).setCell (p := ⟨g, 0, none⟩) h.g1 _
/-- What a rule that is right is made of. -/
theorem rule_phony {rules : List Mn.Rule} {first : Ln.W} {l : List Ln.W} {r : Mn.Rule} (h : Mn.rule rules true first l = .ok r) : rules.length < 64 ∧ ∃ o r1 i r2, Mn.outs rules 1 first l [] = .ok (o, r1) ∧ Mn.names 8 true (fun _ => false) r1 [] = .ok (i, r2) ∧ r = ⟨o, i, [], [], true⟩ := by
  unfold Mn.rule at h
  split at h
  · cases h
  · next h64 =>
    obtain ⟨⟨o, r1⟩, h1, h2⟩ := Mn.bind_ok h
    rw [if_pos rfl] at h1
    dsimp only at h2
    rw [if_pos rfl] at h2
    obtain ⟨⟨i, r2⟩, h3, h4⟩ := Mn.bind_ok h2
    injection h4 with h4
    exact ⟨by omega, o, r1, i, r2, h1, h3, h4.symm⟩
theorem rule_plain {rules : List Mn.Rule} {first : Ln.W} {l : List Ln.W} {r : Mn.Rule} (h : Mn.rule rules false first l = .ok r) : rules.length < 64 ∧ ∃ o r1 i r2 d r3 r4 a, Mn.outs rules 4 first l [] = .ok (o, r1) ∧ Mn.names 8 true (fun w => Mn.isW [124] w || Mn.isW [61] w) r1 [] = .ok (i, r2) ∧ Mn.ordered r2 = .ok (d, r3) ∧ Mn.need [61] first r3 = .ok r4 ∧ Mn.acts first o.length r4 [] [] = .ok a ∧ r = ⟨o, i, d, a, false⟩ := by
  unfold Mn.rule at h
  split at h
  · cases h
  · next h64 =>
    obtain ⟨⟨o, r1⟩, h1, h2⟩ := Mn.bind_ok h
    rw [if_neg (by decide)] at h1
    dsimp only at h2
    rw [if_neg (by decide)] at h2
    obtain ⟨⟨i, r2⟩, h3, h4⟩ := Mn.bind_ok h2
    obtain ⟨⟨d, r3⟩, h5, h6⟩ := Mn.bind_ok h4
    obtain ⟨r4, h7, h8⟩ := Mn.bind_ok h6
    obtain ⟨a, h9, h10⟩ := Mn.bind_ok h8
    injection h10 with h10
    exact ⟨by omega, o, r1, i, r2, d, r3, r4, a, h1, h3, h5, h7, h9, h10.symm⟩
theorem names_congr {most : Nat} {rule : Bool} {s1 s2 : Ln.W → Bool} : ∀ (l : List Ln.W) (out : List (List Nat)), (∀ x ∈ l, s1 x = s2 x) → Mn.names most rule s1 l out = Mn.names most rule s2 l out
  | [], _, _ => rfl
  | x :: r, out, h => by
    rw [Mn.names, Mn.names, h x (by simp)]
    split
    · rfl
    · split
      · rfl
      · split
        · rfl
        · exact names_congr r _ (fun y hy => h y (by simp [hy]))
end Go.Proofs.Ytemliglhippdcaa

/- The document's rules: which ones a rule needs. -/
namespace Go.Proofs.Ytemliglhippdcaa
set_option maxRecDepth 100000
open Go.ChangeShapes Go.WideShapes Go.ChangeAt Go.RowKit Go.Shelf

/-- The places of the rules that a rule needs, of the first n. -/
def needsI (R : List Mn.Rule) (k n : Nat) : List Nat := (List.range n).filter fun i => Mn.needs (R.getD k emptyRule) (R.getD i emptyRule)
theorem needsI_succ (R : List Mn.Rule) (k n : Nat) : needsI R k (n + 1) = needsI R k n ++ if Mn.needs (R.getD k emptyRule) (R.getD n emptyRule) then [n] else [] := by
  unfold needsI
  rw [List.range_succ, List.filter_append]
  congr 1
  rw [List.filter_cons, List.filter_nil]
theorem needsI_len (R : List Mn.Rule) (k n : Nat) : (needsI R k n).length ≤ n := by
  unfold needsI
  exact Nat.le_trans (List.length_filter_le _ _) (by rw [List.length_range]; exact Nat.le_refl _)
theorem OwnI.low {w : World} {base base' : Nat} {v : Value} {l : List Nat} (h : OwnI w base v l) (hb : base' ≤ base) : OwnI w base' v l := by
  refine ⟨h.1, ?_⟩
  rcases h.2 with h0 | ⟨g, cap, cur, e, h1, h2⟩
  · exact .inl h0
  · exact .inr ⟨g, cap, cur, e, Nat.le_trans hb h1, h2⟩
theorem any_take_succ {α : Type} (p : α → Bool) {l : List α} {j : Nat} (hj : j < l.length) : (l.take (j + 1)).any p = ((l.take j).any p || p (l[j]'hj)) := by
  rw [List.take_add_one, List.any_append, List.getElem?_eq_getElem hj]
  simp
theorem any_is (l : List (List Nat)) (s : List Nat) : (l.any fun x => decide (x = s)) = decide (s ∈ l) := by
  rw [Bool.eq_iff_iff]
  simp
/-- Whether a text is one that a rule needs. -/
def hit (a : Mn.Rule) (s : List Nat) : Bool := decide (s ∈ a.ins) || decide (s ∈ a.order)
theorem needs_hit (a b : Mn.Rule) : Mn.needs a b = b.outs.any (hit a) := rfl
/-- What of a rule's lengths and bytes is asked. -/
structure SmallR (r : Mn.Rule) : Prop where
  outs : r.outs.length ≤ 1000000 ∧ ∀ x ∈ r.outs, ∀ c ∈ x, c < 256
  ins : r.ins.length ≤ 1000000 ∧ ∀ x ∈ r.ins, ∀ c ∈ x, c < 256
  order : r.order.length ≤ 1000000 ∧ ∀ x ∈ r.order, ∀ c ∈ x, c < 256
set_option maxRecDepth 100000 in
set_option maxHeartbeats 16000000 in
theorem refneeds_any (rv : Value) (dA : Option Addr) (dn dc : Nat) (R : List Mn.Rule) (k : Nat) (w : World) (hr : SlR w rv R) (hk : k < R.length) (hn : R.length ≤ 100000) (hs : ∀ r ∈ R, SmallR r) :
    Calls Try.prog 10 #[.agg #[rv, .slice dA dn dc], .int .i64 (k : Int)] w fun e w' => ∃ u, e = .returned u ∧ OwnI w' w.heap.size u (needsI R k R.length) ∧ Below w.heap.size w w' := by
  obtain ⟨A, c, rfl, hc⟩ := hr.parts
  have HR := Lib.hid hr
  have HS := Lib.hid hs
  obtain ⟨n, hN⟩ : ∃ n, R.length = n := ⟨_, rfl⟩
  rw [hN] at hk hn hc HR ⊢
  have HN := Lib.hid hN
  clear hr hs hN
  go_enter Try.func10, Try.ntmps10
  go_wp2_with fail
  obtain ⟨W0, hW0⟩ : ∃ W0, W0 = w.alloc (.cells #[.slice A n c, .slice dA dn dc] 26) := ⟨_, rfl⟩
  have HB0 : Hid (Below w.heap.size w W0) := Lib.hid (by rw [hW0]; exact (Below.refl _ _).alloc (Nat.le_refl _) _)
  have HBX : Hid (Blk W0 w.heap.size 26 #[.slice A n c, .slice dA dn dc]) := Lib.hid (by rw [hW0]; exact heap_alloc_new w _)
  rw [← hW0]
  clear hW0
  have HRW : Hid (∀ wr, Below W0.heap.size W0 wr → Sl wr 40 5 (.slice A n c) n fun k b o => RuleAt wr (R.getD k emptyRule) b o) := Lib.hid (fun wr hb => by
    have h := (HR.out.under HB0.out).under hb
    rw [← HN.out]
    rw [← HN.out] at h
    exact h)
  have hkI : (k : Int) < (n : Int) := by omega
  go_loopg [5, 6] n (fun gh tv iv wr => ∃ (i : Nat) (sv : Value), sv = tv ∧ Hid (i ≤ n ∧ n - i ≤ gh) ∧ iv = .int .i64 (i : Int) ∧ Hid (OwnI wr W0.heap.size sv (needsI R k i)) ∧ Hid (Below W0.heap.size W0 wr))
  case atStart => exact ⟨0, _, rfl, Lib.hid (by omega), rfl, Lib.hid (ownI_none _ _), Lib.hid (Below.refl _ _)⟩
  case round =>
    obtain ⟨i, sv, hsv, HI, rfl, HOWN, HBW⟩ := hrel
    subst hsv
    by_cases hlt : i < n
    · have hltI : (i : Int) < (n : Int) := by omega
      have hiL : i < R.length := by rw [HN.out]; exact hlt
      have hkL : k < R.length := by rw [HN.out]; exact hk
      have HSUC := Lib.hid (needsI_succ R k i)
      have HLEN := Lib.hid (needsI_len R k i)
      have bx0 : wr.cell? ⟨w.heap.size, 0, none⟩ = some (.slice A n c) := (HBX.out.under HBW.out).at 0
      have hrw := HRW.out _ HBW.out
      obtain ⟨Bi, offi, hAi, hrai⟩ := hrw.at hlt
      obtain ⟨Bk, offk, hAk, hrak⟩ := hrw.at hk
      subst hAi
      cases hAk
      have HRI := Lib.hid (HS.out _ (List.getElem_mem hiL))
      have HRK := Lib.hid (HS.out _ (List.getElem_mem hkL))
      rw [List.getD_eq_getElem?_getD, List.getElem?_eq_getElem hiL] at hrai
      rw [List.getD_eq_getElem?_getD, List.getElem?_eq_getElem hkL] at hrak
      rw [List.getD_eq_getElem?_getD, List.getElem?_eq_getElem hkL, List.getD_eq_getElem?_getD, List.getElem?_eq_getElem hiL] at HSUC
      obtain ⟨ri, hri⟩ : ∃ r, R[i]'hiL = r := ⟨_, rfl⟩
      obtain ⟨rk, hrk⟩ : ∃ r, R[k]'hkL = r := ⟨_, rfl⟩
      rw [hri] at HRI
      rw [hrk] at HRK
      change Hid (needsI R k (i + 1) = needsI R k i ++ if Mn.needs (R[k]'hkL) (R[i]'hiL) then [i] else []) at HSUC
      rw [hri, hrk] at HSUC
      change RuleAt wr (R[i]'hiL) _ _ at hrai
      change RuleAt wr (R[k]'hkL) _ _ at hrak
      rw [hri] at hrai
      rw [hrk] at hrak
      clear hri hrk hiL hkL hrw
      obtain ⟨u1, _, _, _, i0, -, -, -, -, s1, -, -, -⟩ := hrai
      obtain ⟨A1, c1, rfl, hc1⟩ := s1.parts
      obtain ⟨m0, hm0⟩ : ∃ m, ri.outs.length = m := ⟨_, rfl⟩
      have HI1 : Hid (Sl wr 9 1 (.slice A1 m0 c1) m0 fun k b o => wr.cell? ⟨b, o, none⟩ = some (.string (str (ri.outs.getD k [])))) := Lib.hid (by rw [← hm0]; exact s1)
      have HI1S : Hid (m0 ≤ 1000000) := Lib.hid (by rw [← hm0]; exact HRI.out.outs.1)
      have HI1M := Lib.hid hm0
      rw [hm0] at i0
      obtain ⟨_, u2, u3, _, -, k1, k2, -, -, -, s2, s3, -⟩ := hrak
      obtain ⟨A2, c2, rfl, hc2⟩ := s2.parts
      obtain ⟨m1, hm1⟩ : ∃ m, rk.ins.length = m := ⟨_, rfl⟩
      have HK2 : Hid (Sl wr 9 1 (.slice A2 m1 c2) m1 fun k b o => wr.cell? ⟨b, o, none⟩ = some (.string (str (rk.ins.getD k [])))) := Lib.hid (by rw [← hm1]; exact s2)
      have HK2S : Hid (m1 ≤ 1000000) := Lib.hid (by rw [← hm1]; exact HRK.out.ins.1)
      have HK2M := Lib.hid hm1
      rw [hm1] at k1
      obtain ⟨A3, c3, rfl, hc3⟩ := s3.parts
      obtain ⟨m2, hm2⟩ : ∃ m, rk.order.length = m := ⟨_, rfl⟩
      have HK3 : Hid (Sl wr 9 1 (.slice A3 m2 c3) m2 fun k b o => wr.cell? ⟨b, o, none⟩ = some (.string (str (rk.order.getD k [])))) := Lib.hid (by rw [← hm2]; exact s3)
      have HK3S : Hid (m2 ≤ 1000000) := Lib.hid (by rw [← hm2]; exact HRK.out.order.1)
      have HK3M := Lib.hid hm2
      rw [hm2] at k2
      clear s1 hc1 s2 hc2 s3 hc3 hm0 hm1 hm2
      go_wp2_with fail
      go_loopg [7, 8] m0 (fun gh mv ov wx => ∃ o : Nat, Hid (o ≤ m0 ∧ m0 - o ≤ gh) ∧ ov = .int .i64 (o : Int) ∧ mv = .bool ((ri.outs.take o).any (hit rk)) ∧ wr = wx)
      case atStart => exact ⟨0, Lib.hid (by omega), rfl, by simp, rfl⟩
      case round =>
        obtain ⟨o, HO, rfl, rfl, rfl⟩ := hrel
        by_cases hlt2 : o < m0
        · have hlt2I : (o : Int) < (m0 : Int) := by omega
          have hoL : o < ri.outs.length := by rw [HI1M.out]; exact hlt2
          have HOL := Lib.hid hoL
          obtain ⟨B2, off2, rfl, qo⟩ := HI1.out.at hlt2
          rw [Nat.mul_one, List.getD_eq_getElem?_getD, List.getElem?_eq_getElem hoL] at qo
          change wr.cell? ⟨B2, off2 + o, none⟩ = some (.string (str (ri.outs[o]'hoL))) at qo
          have HY := Lib.hid (HRI.out.outs.2 _ (List.getElem_mem hoL))
          obtain ⟨y, hy⟩ : ∃ y, ri.outs[o]'hoL = y := ⟨_, rfl⟩
          rw [hy] at qo HY
          have HOY : Hid (ri.outs[o]'(HOL.out) = y) := Lib.hid hy
          obtain ⟨sy, hsy⟩ : ∃ s, str y = s := ⟨_, rfl⟩
          rw [hsy] at qo
          have HYS := Lib.hid hsy
          obtain ⟨q0, hq0⟩ : ∃ q, (ri.outs.take o).any (hit rk) = q := ⟨_, rfl⟩
          rw [hq0]
          have HQ0 := Lib.hid hq0
          clear hy hsy hq0 hoL
          go_wp2_with fail
          go_loopg [7, 10] m1 (fun gh mv jv wy => ∃ j : Nat, Hid (j ≤ m1 ∧ m1 - j ≤ gh) ∧ jv = .int .i64 (j : Int) ∧ mv = .bool (q0 || ((rk.ins.take j).any fun x => decide (x = y))) ∧ wr = wy)
          case atStart => exact ⟨0, Lib.hid (by omega), rfl, by simp, rfl⟩
          case round =>
            obtain ⟨j, HJ, rfl, rfl, rfl⟩ := hrel
            by_cases hlt3 : j < m1
            · have hlt3I : (j : Int) < (m1 : Int) := by omega
              have hjL : j < rk.ins.length := by rw [HK2M.out]; exact hlt3
              obtain ⟨B3, off3, rfl, q3⟩ := HK2.out.at hlt3
              rw [Nat.mul_one, List.getD_eq_getElem?_getD, List.getElem?_eq_getElem hjL] at q3
              change wr.cell? ⟨B3, off3 + j, none⟩ = some (.string (str (rk.ins[j]'hjL))) at q3
              have hcmp : ((str (rk.ins[j]'hjL)).toList == (str y).toList) = decide (rk.ins[j]'hjL = y) := str_same (HRK.out.ins.2 _ (List.getElem_mem hjL)) HY.out
              have HT3 := Lib.hid (any_take_succ (fun x => decide (x = y)) hjL)
              obtain ⟨z, hz⟩ : ∃ z, rk.ins[j]'hjL = z := ⟨_, rfl⟩
              rw [hz] at q3 hcmp HT3
              obtain ⟨b3, hb3⟩ : ∃ b, (q0 || ((rk.ins.take j).any fun x => decide (x = y))) = b := ⟨_, rfl⟩
              have HB3 : Hid ((q0 || ((rk.ins.take (j + 1)).any fun x => decide (x = y))) = (b3 || decide (z = y))) := Lib.hid (by rw [HT3.out, ← hb3, Bool.or_assoc])
              rw [hb3]
              rw [HYS.out] at hcmp
              obtain ⟨sz, hsz⟩ : ∃ s, str z = s := ⟨_, rfl⟩
              rw [hsz] at q3 hcmp
              obtain ⟨d3, hd3⟩ : ∃ d, decide (z = y) = d := ⟨_, rfl⟩
              rw [hd3] at hcmp HB3
              have hj8 : j ≤ 1000000 := by have := HK2S.out; omega
              clear hz hsz hjL hb3 hd3
              cases b3
              · go_wp2
                go_roundg (m1 - (j + 1))
                case measure => have := HJ.out; omega
                case rel => exact ⟨j + 1, Lib.hid (by omega), by go_num, by rw [HB3.out]; cases d3 <;> rfl, rfl⟩
              · go_wp2
                go_roundg (m1 - (j + 1))
                case measure => have := HJ.out; omega
                case rel => exact ⟨j + 1, Lib.hid (by omega), by go_num, by rw [HB3.out]; rfl, rfl⟩
            · obtain rfl : m1 = j := by have := HJ.out; omega
              have HQ1 : Hid ((q0 || (rk.ins.any fun x => decide (x = y))) = (q0 || ((rk.ins.take m1).any fun x => decide (x = y)))) := Lib.hid (by rw [List.take_of_length_le (show rk.ins.length ≤ m1 by rw [HK2M.out]; exact Nat.le_refl _)])
              obtain ⟨q1, hq1⟩ : ∃ q, (q0 || ((rk.ins.take m1).any fun x => decide (x = y))) = q := ⟨_, rfl⟩
              rw [hq1] at HQ1 ⊢
              rw [← HQ0.out] at HQ1
              clear hq1 hlt3
              go_wp2_with fail
              go_loopg [7, 11] m2 (fun gh mv jv wy => ∃ j : Nat, Hid (j ≤ m2 ∧ m2 - j ≤ gh) ∧ jv = .int .i64 (j : Int) ∧ mv = .bool (q1 || ((rk.order.take j).any fun x => decide (x = y))) ∧ wr = wy)
              case atStart => exact ⟨0, Lib.hid (by omega), rfl, by simp, rfl⟩
              case round =>
                obtain ⟨j, HJ, rfl, rfl, rfl⟩ := hrel
                by_cases hlt3 : j < m2
                · have hlt3I : (j : Int) < (m2 : Int) := by omega
                  have hjL : j < rk.order.length := by rw [HK3M.out]; exact hlt3
                  obtain ⟨B3, off3, rfl, q3⟩ := HK3.out.at hlt3
                  rw [Nat.mul_one, List.getD_eq_getElem?_getD, List.getElem?_eq_getElem hjL] at q3
                  change wr.cell? ⟨B3, off3 + j, none⟩ = some (.string (str (rk.order[j]'hjL))) at q3
                  have hcmp : ((str (rk.order[j]'hjL)).toList == (str y).toList) = decide (rk.order[j]'hjL = y) := str_same (HRK.out.order.2 _ (List.getElem_mem hjL)) HY.out
                  have HT3 := Lib.hid (any_take_succ (fun x => decide (x = y)) hjL)
                  obtain ⟨z, hz⟩ : ∃ z, rk.order[j]'hjL = z := ⟨_, rfl⟩
                  rw [hz] at q3 hcmp HT3
                  obtain ⟨b3, hb3⟩ : ∃ b, (q1 || ((rk.order.take j).any fun x => decide (x = y))) = b := ⟨_, rfl⟩
                  have HB3 : Hid ((q1 || ((rk.order.take (j + 1)).any fun x => decide (x = y))) = (b3 || decide (z = y))) := Lib.hid (by rw [HT3.out, ← hb3, Bool.or_assoc])
                  rw [hb3]
                  rw [HYS.out] at hcmp
                  obtain ⟨sz, hsz⟩ : ∃ s, str z = s := ⟨_, rfl⟩
                  rw [hsz] at q3 hcmp
                  obtain ⟨d3, hd3⟩ : ∃ d, decide (z = y) = d := ⟨_, rfl⟩
                  rw [hd3] at hcmp HB3
                  have hj8 : j ≤ 1000000 := by have := HK3S.out; omega
                  clear hz hsz hjL hb3 hd3
                  cases b3
                  · go_wp2
                    go_roundg (m2 - (j + 1))
                    case measure => have := HJ.out; omega
                    case rel => exact ⟨j + 1, Lib.hid (by omega), by go_num, by rw [HB3.out]; cases d3 <;> rfl, rfl⟩
                  · go_wp2
                    go_roundg (m2 - (j + 1))
                    case measure => have := HJ.out; omega
                    case rel => exact ⟨j + 1, Lib.hid (by omega), by go_num, by rw [HB3.out]; rfl, rfl⟩
                · obtain rfl : m2 = j := by have := HJ.out; omega
                  have HQ2 : Hid ((q1 || ((rk.order.take m2).any fun x => decide (x = y))) = ((ri.outs.take (o + 1)).any (hit rk))) := Lib.hid (by
                    rw [any_take_succ _ HOL.out, HOY.out, ← HQ1.out]
                    unfold hit
                    rw [← any_is rk.ins, ← any_is rk.order, List.take_of_length_le (show rk.order.length ≤ m2 by rw [HK3M.out]; exact Nat.le_refl _), Bool.or_assoc])
                  obtain ⟨q2, hq2⟩ : ∃ q, (q1 || ((rk.order.take m2).any fun x => decide (x = y))) = q := ⟨_, rfl⟩
                  rw [hq2] at HQ2 ⊢
                  have ho8 : o ≤ 1000000 := by have := HI1S.out; omega
                  clear hq2 hlt3
                  go_wp2
                  go_roundg (m0 - (o + 1))
                  case measure => have := HO.out; omega
                  case rel => exact ⟨o + 1, Lib.hid (by omega), by go_num, by rw [HQ2.out], rfl⟩
        · obtain rfl : o = m0 := by have := HO.out; omega
          have HND : Hid ((ri.outs.take o).any (hit rk) = Mn.needs rk ri) := Lib.hid (by rw [needs_hit, List.take_of_length_le (by rw [HI1M.out]; exact Nat.le_refl _)])
          rw [HND.out]
          obtain ⟨qq, hqq⟩ : ∃ q, Mn.needs rk ri = q := ⟨_, rfl⟩
          rw [hqq] at HSUC ⊢
          have hi8 : i ≤ 1000000 := by omega
          clear hqq hlt2
          cases qq
          · have HO2 : Hid (OwnI wr W0.heap.size sv (needsI R k (i + 1))) := Lib.hid (by rw [HSUC.out, if_neg (by decide), List.append_nil]; exact HOWN.out)
            go_wp2
            go_roundg (n - (i + 1))
            case measure => have := HI.out; omega
            case rel => exact ⟨i + 1, _, rfl, Lib.hid (by omega), by go_num, HO2, HBW⟩
          · have HSUC2 : Hid (needsI R k i ++ [i] = needsI R k (i + 1)) := Lib.hid (by rw [HSUC.out, if_pos rfl])
            have HBS : Hid (W0.heap.size ≤ wr.heap.size) := Lib.hid HBW.out.size
            go_wp2_with (at_builtin; refine wpList_append_int rfl _ _ rfl W0.heap.size _ (needsI R k i) _ i rfl HOWN.out rfl rfl _ (by have := HLEN.out; omega) HBS.out _ HSUC2.out ?_)
            rintro f' w6 ⟨hO2, hg2, hb2⟩
            have HO2 := Lib.hid hO2
            have HB2 : Hid (Below W0.heap.size W0 w6) := Lib.hid (by
              refine (HBW.out.alloc HBW.out.size _).grown hg2 (by have := HBW.out.size; simpa using Nat.le_succ_of_le this) (fun q hq => ?_)
              exact (HOWN.out.lt q hq).1)
            clear hO2 hb2 hg2
            go_wp2
            go_roundg (n - (i + 1))
            case measure => have := HI.out; omega
            case rel => exact ⟨i + 1, _, rfl, Lib.hid (by omega), by go_num, HO2, HB2⟩
    · obtain rfl : i = n := by have := HI.out; omega
      have HFIN : Hid (OwnI wr w.heap.size sv (needsI R k i) ∧ Below w.heap.size w wr) := Lib.hid ⟨OwnI.low HOWN.out HB0.out.size, HB0.out.trans (HBW.out.mono HB0.out.size)⟩
      clear hlt
      have bx0 : wr.cell? ⟨w.heap.size, 0, none⟩ = some (.slice A i c) := (HBX.out.under HBW.out).at 0
      go_wp2
      go_ret
      exact ⟨_, rfl, HFIN.out⟩
end Go.Proofs.Ytemliglhippdcaa

/- Package mani's own reader: a line: plain facts. -/
namespace Go.Proofs.Ytemliglhippdcaa
set_option maxRecDepth 100000
open Go.ChangeShapes Go.WideShapes Go.ChangeAt Go.RowKit Go.Shelf

theorem find_mem {t : List Nat} {l : List Ln.W} : ∀ {L : Mn.Lets}, Mn.find t L = some l → ∃ p ∈ L, p.2 = l := by
  intro L
  induction L with
  | nil => intro h; cases h
  | cons p r ih =>
    intro h
    obtain ⟨k, v⟩ := p
    unfold Mn.find at h
    split at h
    · next z hz =>
      obtain ⟨p, hp, e⟩ := ih (by rw [hz]; exact h)
      exact ⟨p, List.mem_cons_of_mem _ hp, e⟩
    · split at h
      · injection h with h
        exact ⟨(k, v), by simp, h⟩
      · cases h
theorem stands_good {L : Mn.Lets} {x : Ln.W} {l : List Ln.W} (hx : GoodW x) (hL : ∀ p ∈ L, ∀ x ∈ p.2, GoodW x) (h : Mo.stands L x = some l) : ∀ y ∈ l, GoodW y := by
  unfold Mo.stands at h
  split at h
  · injection h with h
    subst h
    intro y hy
    rw [List.mem_singleton] at hy
    rw [hy]
    exact hx
  · obtain ⟨p, hp, rfl⟩ := find_mem h
    exact hL p hp
theorem put_good {lets : Mn.Lets} (hl : ∀ p ∈ lets, ∀ x ∈ p.2, GoodW x) : ∀ (L out l : List Ln.W), (∀ x ∈ L, GoodW x) → (∀ x ∈ out, GoodW x) → Mo.put lets L out = .ok l → ∀ x ∈ l, GoodW x
  | [], out, l, _, ho, h => by
    rw [put_nil] at h
    injection h with h
    subst h
    exact ho
  | x :: r, out, l, hL, ho, h => by
    rcases hs : Mo.stands lets x with _ | y
    · rw [put_none hs] at h
      cases h
    · rw [put_some hs] at h
      refine put_good hl r _ l (fun z hz => hL z (List.mem_cons_of_mem _ hz)) (fun z hz => ?_) h
      have hz' := List.mem_of_mem_take hz
      rw [List.mem_append] at hz'
      rcases hz' with h1 | h1
      · exact ho z h1
      · unfold Mo.placed at h1
        rw [List.mem_map] at h1
        obtain ⟨q, hq, rfl⟩ := h1
        have := stands_good (hL x (by simp)) hl hs q hq
        exact ⟨this.bytes, this.len⟩
theorem put_err {lets : Mn.Lets} : ∀ (L out : List Ln.W) (z : Ln.W), Mo.put lets L out = .error z → z ∈ L
  | [], out, z, h => by rw [put_nil] at h; cases h
  | x :: r, out, z, h => by
    rcases hs : Mo.stands lets x with _ | y
    · rw [put_none hs] at h
      injection h with h
      subst h
      simp
    · rw [put_some hs] at h
      exact List.mem_cons_of_mem _ (put_err r _ z h)
/-- A line's words are there: the reader's first word and what is behind it. -/
def Stood (s : Mo.S) (L : List Ln.W) : Mo.S := match Mo.put s.lets L.tail [] with
  | .ok l => { s with first := L.headD Mo.word0, rest := l }
  | .error w => { Mo.fail 6 w s with first := L.headD Mo.word0, rest := [] }
theorem line_is (s : Mo.S) (L : List Ln.W) : Mo.line s L = if Mn.isW [108, 101, 116] (L.headD Mo.word0) then Mo.lett (Stood s L) else if Mn.isW [114, 117, 108, 101] (L.headD Mo.word0) then Mo.rule (Stood s L) else if Mn.isW [112, 104, 111, 110, 121] (L.headD Mo.word0) then Mo.phony (Stood s L) else if Mn.isW [100, 101, 102, 97, 117, 108, 116] (L.headD Mo.word0) then Mo.choose (Stood s L) else Mo.fail 4 (L.headD Mo.word0) (Stood s L) := rfl
end Go.Proofs.Ytemliglhippdcaa

/- Package mani's own reader: the actions of so many Outs: the walk. -/
namespace Go.Proofs.Ytemliglhippdcaa
set_option maxRecDepth 100000
open Go.ChangeShapes Go.WideShapes Go.ChangeAt Go.RowKit Go.Shelf

section
variable {f n : Nat} {l : List (List Ac.D)} {s s2 : Mo.S} {at0 : Ln.W} {T : Option (List Ac.D)}
theorem acts_fail (hs2 : s2 = if l.length = n then Mo.fail 7 at0 { s with rest := (Mo.cut s.rest).2.2 } else if T.isNone then Mo.fail 9 at0 { s with rest := (Mo.cut s.rest).2.2 } else { s with rest := (Mo.cut s.rest).2.2 }) (ha : at0 = (Mo.cut s.rest).1.headD s.first) (hT : T = Ac.parse (Mo.cut s.rest).1) (hk : s2.e.k ≠ 0) : Mo.acts (f + 1) n l s = ([], s2) := by
  subst hs2 ha hT
  unfold Mo.acts
  rw [if_pos hk]
theorem acts_next (hs2 : s2 = if l.length = n then Mo.fail 7 at0 { s with rest := (Mo.cut s.rest).2.2 } else if T.isNone then Mo.fail 9 at0 { s with rest := (Mo.cut s.rest).2.2 } else { s with rest := (Mo.cut s.rest).2.2 }) (ha : at0 = (Mo.cut s.rest).1.headD s.first) (hT : T = Ac.parse (Mo.cut s.rest).1) (hk : s2.e.k = 0) (hq : (Mo.cut s.rest).2.1 = true) : Mo.acts (f + 1) n l s = Mo.acts f n (l ++ [T.getD []]) s2 := by
  subst hs2 ha hT
  conv => lhs; unfold Mo.acts
  rw [if_neg (fun h => h hk), if_pos hq]
theorem acts_last (hs2 : s2 = if l.length = n then Mo.fail 7 at0 { s with rest := (Mo.cut s.rest).2.2 } else if T.isNone then Mo.fail 9 at0 { s with rest := (Mo.cut s.rest).2.2 } else { s with rest := (Mo.cut s.rest).2.2 }) (ha : at0 = (Mo.cut s.rest).1.headD s.first) (hT : T = Ac.parse (Mo.cut s.rest).1) (hk : s2.e.k = 0) (hq : (Mo.cut s.rest).2.1 = false) : Mo.acts (f + 1) n l s = (l ++ [T.getD []], if (l ++ [T.getD []]).length < n then Mo.wrong s2 else s2) := by
  subst hs2 ha hT
  conv => lhs; unfold Mo.acts
  rw [if_neg (fun h => h hk), if_neg (by rw [hq]; decide)]
end
theorem fail_k (K : Nat) (hK : K ≠ 0) (x : Ln.W) (s : Mo.S) : (Mo.fail K x s).e.k ≠ 0 := by
  unfold Mo.fail
  split
  · exact hK
  · assumption
theorem cut_shorter {R : List Ln.W} (h : (Mo.cut R).2.1 = true) : (Mo.cut R).2.2.length < R.length := by
  rw [Mo.cut_is] at h ⊢
  have := of_decide_eq_true h
  dsimp only
  rw [List.length_drop]
  omega
theorem cut_short (R : List Ln.W) : (Mo.cut R).2.2.length ≤ R.length ∧ (Mo.cut R).1.length ≤ R.length ∧ ∀ x ∈ (Mo.cut R).1, x ∈ R := by
  rw [Mo.cut_is]
  dsimp only
  refine ⟨by rw [List.length_drop]; omega, by rw [List.length_take]; omega, fun x hx => List.mem_of_mem_take hx⟩
end Go.Proofs.Ytemliglhippdcaa
