/- What package prnt reads: an action and its inputs; what comes of them. -/
import Derived.Test.YtldnpedegcbglaaPrntAct
import Derived.Test.YtldnpedegcbglaaActRun
namespace Go.Proofs.Ytldnpedegcbglaa
set_option maxRecDepth 100000
open Go.ChangeShapes Go.WideShapes Go.ChangeAt Go.RowKit

/-- An action and inputs of the call's own, or none. -/
def PairIs (w : World) (e : Ending) (w' : World) : Option (List Ac.D × List (List Nat)) → Prop
  | some (L, I) => (∃ u v, e = .returned (.tuple #[u, v, .bool true]) ∧ OwnD w' w.heap.size u L ∧ OwnR w' w.heap.size v I) ∧ Below w.heap.size w w'
  | none => e = .returned (.tuple #[.slice none 0 0, .slice none 0 0, .bool false]) ∧ Below w.heap.size w w'
theorem pair_none {w w' : World} {e : Ending} {T : Option (List Ac.D × List (List Nat))} (h : T = none) (he : e = .returned (.tuple #[.slice none 0 0, .slice none 0 0, .bool false])) (hb : Below w.heap.size w w') : PairIs w e w' T := by
  rw [h]
  exact ⟨he, hb⟩
theorem pair_some {w w' : World} {e : Ending} {T : Option (List Ac.D × List (List Nat))} {L : List Ac.D} {I : List (List Nat)} (h : T = some (L, I)) (u v : Value) (he : e = .returned (.tuple #[u, v, .bool true])) (ho : OwnD w' w.heap.size u L) (hi : OwnR w' w.heap.size v I) (hb : Below w.heap.size w w') : PairIs w e w' T := by
  rw [h]
  exact ⟨⟨u, v, he, ho, hi⟩, hb⟩
theorem came_is {base : Nat} {w w' : World} {e : Ending} {T : Option (List Nat)} (h : CameIs base w e w' T) : ∃ u q l, e = .returned (.tuple #[u, .bool q]) ∧ Mine w' base u l ∧ Below base w w' ∧ (T = if q then some l else none) ∧ (q = false → u = .slice none 0 0) := by
  rcases T with _ | b
  · obtain ⟨rfl, hb⟩ := h
    exact ⟨_, false, [], rfl, mine_none _ _, hb, rfl, fun _ => rfl⟩
  · obtain ⟨⟨u, rfl, hm⟩, hb⟩ := h
    exact ⟨u, true, b, rfl, hm, hb, rfl, fun h => by cases h⟩
theorem OwnR.past {w w' : World} {base g : Nat} {u : Value} {L : List (List Nat)} (h : OwnR w base u L) (hg : w.grownBy w' (some g)) (hlt : g < base) : OwnR w' base u L :=
  h.grown hg fun r e => .inl (by injection e with e; omega)
theorem OwnR.base {w : World} {base : Nat} {u : Value} {L : List (List Nat)} (h : OwnR w base u L) : ∀ k, u.ownBlock = some k → base ≤ k := fun k hk => (h.lt k hk).1
theorem ownD_apartR {w : World} {base base' : Nat} {v u : Value} {L : List Ac.D} {I : List (List Nat)} (h : OwnD w base v L) (h' : OwnR w base' u I) : v.ownBlock = none ∨ v.ownBlock ≠ u.ownBlock := by
  obtain ⟨us, _, h', _, _⟩ := h'
  rcases h.2 with ⟨rfl, _⟩ | ⟨g, cap, cur, rfl, _, hg, _⟩
  · exact .inl rfl
  · rcases h'.2 with ⟨rfl, _⟩ | ⟨g', cap', cur', rfl, _, hg', _⟩
    · exact .inr (by simp [Value.ownBlock])
    · refine .inr fun e => ?_
      simp [Value.ownBlock] at e
      subst e
      rw [hg] at hg'
      injection hg' with e
      injection e with _ e
      exact absurd e (by decide)
theorem pact_is (v : Value) (b : List Nat) (w : World) (hv : Bytes w v b) (hb : b.length ≤ 1000000) (T : Option (List Ac.D)) (hT : T = Pr.act 999 b) :
    Calls Try.prog 25 #[v] w fun e w' => ∃ u q L, e = .returned (.tuple #[u, .bool q]) ∧ OwnD w' w.heap.size u L ∧ Below w.heap.size w w' ∧ T = if q then some L else none := by
  refine (paction_any v b w hv hb T hT).mono fun e w' h => ?_
  rcases T with _ | L
  · obtain ⟨rfl, hb⟩ := h
    exact ⟨_, false, [], rfl, ownD_none _ _, hb, rfl⟩
  · obtain ⟨⟨u, rfl, ho⟩, hb⟩ := h
    exact ⟨u, true, L, rfl, ho, hb, rfl⟩
set_option maxRecDepth 100000 in
set_option maxHeartbeats 8000000 in
theorem pparse_any (v : Value) (b : List Nat) (w : World) (hv : Bytes w v b) (hb : b.length ≤ 100000) (T : Option (List Ac.D × List (List Nat))) (hT : T = Pr.parse 999 (b.length : Int) b) :
    Calls Try.prog 9 #[v] w fun e w' => PairIs w e w' T := by
  have HV := Lib.hid hv
  have HT := Lib.hid hT
  have H8 : Hid (∀ c ∈ b, c < 256) := Lib.hid hv.parts.1
  obtain ⟨_, _, A0, c0, rfl, _, _⟩ := hv.parts
  obtain ⟨n, hn⟩ : ∃ n, b.length = n := ⟨_, rfl⟩
  rw [hn] at HV HT hb ⊢
  have HN := Lib.hid hn
  clear hv hT hn
  go_enter Try.func9, Try.ntmps9
  go_wp2_with fail
  refine (read_any _ b w HV.out (by rw [HN.out]; omega)).mono ?_
  rintro e w1 ⟨g, rfl, hg1, hg2, hr, hb1⟩
  have HG : Hid (w.heap.size ≤ g ∧ g < w1.heap.size) := Lib.hid ⟨hg1, hg2⟩
  have HR := Lib.hid hr
  have HB := Lib.hid hb1
  clear hg1 hg2 hr hb1
  obtain ⟨s1, hs1⟩ : ∃ s, Cd.bytesS (some b) (n : Int) = s := ⟨_, rfl⟩
  obtain ⟨M, hM⟩ : ∃ M, Cd.bytesL (some b) (n : Int) = M := ⟨_, rfl⟩
  have HML : Hid (M.length ≤ 1000000) := Lib.hid (by have := Pr.bytesL_le (s := some b) (most := (n : Int)) (by omega); rw [hM] at this; omega)
  have H8s : Hid (∀ l, some b = some l → ∀ c ∈ l, c < 256) := Lib.hid (fun l hl => by injection hl with hl; rw [← hl]; exact H8.out)
  have HS1 : Hid (∀ l, s1 = some l → ∀ c ∈ l, c < 256) := Lib.hid (by rw [← hs1]; exact Pr.bytesS_sub H8s.out)
  obtain ⟨K, hK⟩ : ∃ K, K = Pr.act 999 M := ⟨_, rfl⟩
  have HK := Lib.hid hK
  have HT2 : Hid (T = Pr.pair K s1) := Lib.hid (by rw [HT.out, hK, Pr.parse_eq, hM, hs1])
  have HS1E := Lib.hid hs1
  have HME := Lib.hid hM
  clear hs1 hM hK HT
  go_wp2_with fail
  refine (rbytes_is _ _ g _ _ _ M w1 HR.out HS1E.out HME.out).mono ?_
  rintro e w2 ⟨v2, rfl, ho2, hr2, hg2⟩
  have HR2 := Lib.hid hr2
  have HO2 := Lib.hid ho2.bytes
  have HB2 : Hid (Below w.heap.size w w2) := Lib.hid (HB.out.trans (Below.ofGrown hg2 HG.out.1 HB.out.size))
  have HZ2 : Hid (w1.heap.size ≤ w2.heap.size) := Lib.hid hg2.size
  clear hr2 ho2 hg2 HR HB
  go_wp2_with fail
  refine (pact_is v2 M w2 HO2.out HML.out K HK.out).mono ?_
  rintro e w3 ⟨u3, q3, L, rfl, ho3, hb3, hk⟩
  have HR3 := Lib.hid (HR2.out.under hb3)
  have HO3 : Hid (OwnD w3 w1.heap.size u3 L) := Lib.hid (ho3.more HZ2.out)
  have HB3 : Hid (Below w.heap.size w w3) := Lib.hid (HB2.out.trans (hb3.mono HB2.out.size))
  have HZ3 : Hid (w1.heap.size ≤ w3.heap.size) := Lib.hid (Nat.le_trans HZ2.out hb3.size)
  have HT3 : Hid (T = if q3 && Pr.behind s1 then some (L, Pr.inputs s1) else none) := Lib.hid (by
    rw [HT2.out, hk]
    rcases q3 with _ | _
    · rfl
    · rfl)
  clear ho3 hb3 hk HT2 HR2 HO2 HB2 HZ2
  obtain ⟨m, hm⟩ : ∃ m, Cd.numN s1 8 = m := ⟨_, rfl⟩
  obtain ⟨s, hs⟩ : ∃ s, Cd.numS s1 8 = s := ⟨_, rfl⟩
  have HM : Hid (m ≤ 8) := Lib.hid (by have := Pr.numN_le (s := s1) (most := 8) (by decide); omega)
  have HS : Hid (∀ l, s = some l → ∀ c ∈ l, c < 256) := Lib.hid (by rw [← hs]; exact Pr.numS_sub HS1.out)
  have HBI : Hid (Pr.behind s1 = Cd.endB (Pr.iS s m) ∧ Pr.inputs s1 = Pr.iL s m) := Lib.hid (by unfold Pr.behind Pr.inputs; rw [hm, hs]; exact ⟨rfl, rfl⟩)
  have HSE := Lib.hid hs
  have HME2 := Lib.hid hm
  clear hs hm
  go_wp2_with fail
  refine (rnum_is _ _ g _ s _ (m : Int) w3 HR3.out HSE.out (by rw [HME2.out])).mono ?_
  rintro e w4 ⟨rfl, hr4, hg4⟩
  have HR4 := Lib.hid hr4
  have HO4 := Lib.hid (HO3.out.past hg4 HG.out.2)
  have HB4 : Hid (Below w.heap.size w w4) := Lib.hid (HB3.out.trans (Below.ofGrown hg4 HG.out.1 HB3.out.size))
  have HZ4 : Hid (w1.heap.size ≤ w4.heap.size) := Lib.hid (Nat.le_trans HZ3.out hg4.size)
  clear hr4 hg4 HR3 HO3 HB3 HZ3
  have hm8 : m ≤ 8 := HM.out
  go_wp2_with fail
  go_loopg [8, 21] m (fun q u i wr => ∃ k : Nat, k ≤ m ∧ m - k ≤ q ∧ i = .int .i64 (k : Int) ∧ Hid (Rdr wr w.heap.size g g (Pr.iS s k)) ∧ Hid (OwnR wr w1.heap.size u (Pr.iL s k)) ∧ Hid (OwnD wr w1.heap.size u3 L) ∧ Hid (Below w.heap.size w wr) ∧ Hid (w1.heap.size ≤ wr.heap.size))
  case atStart => exact ⟨0, by omega, by omega, rfl, HR4, Lib.hid (ownR_none _ _), HO4, HB4, HZ4⟩
  case round =>
    obtain ⟨k, hk, hq, rfl, hR, hO, hD, hBl, hZ⟩ := hrel
    obtain ⟨wz, rfl⟩ : ∃ wx : World, wx = wr := ⟨_, rfl⟩
    by_cases hlt : k < m
    · have hkI : (k : Int) < (m : Int) := by omega
      obtain ⟨sk, hsk⟩ : ∃ sk, Pr.iS s k = sk := ⟨_, rfl⟩
      have HNS : Hid (Pr.iS s (k + 1) = Cd.bytesS sk 256) := Lib.hid (by rw [← hsk]; rfl)
      obtain ⟨x, hx⟩ : ∃ x, Cd.bytesL sk 256 = x := ⟨_, rfl⟩
      have HNL : Hid (Pr.iL s k ++ [x] = Pr.iL s (k + 1)) := Lib.hid (by rw [Pr.iL, hsk, hx])
      have HLN : Hid ((Pr.iL s k).length = k) := Lib.hid (Pr.iL_len _ _)
      rw [hsk] at hR
      have HX := Lib.hid hx
      clear hx hsk
      go_wp2_with fail
      refine (rbytes_is _ _ g _ _ _ x wz hR.out rfl HX.out).mono ?_
      rintro e w5 ⟨v5, rfl, ho5, hr5, hg5⟩
      have HR5 := Lib.hid hr5
      have HO5 := Lib.hid (hO.out.past hg5 HG.out.2)
      have HD5 := Lib.hid (hD.out.past hg5 HG.out.2)
      have HV5 := Lib.hid (ho5.more hZ.out)
      have HB5 : Hid (Below w.heap.size w w5) := Lib.hid (hBl.out.trans (Below.ofGrown hg5 HG.out.1 hBl.out.size))
      have HZ5 : Hid (w1.heap.size ≤ w5.heap.size) := Lib.hid (Nat.le_trans hZ.out hg5.size)
      obtain ⟨_, _, A5, c5, rfl, _, _⟩ := ho5.bytes.parts
      clear hr5 hg5 ho5 hR hO hD hBl hZ
      go_wp2_with (at_builtin; refine wpList_append_row rfl _ _ rfl w1.heap.size w5.heap.size _ (.slice A5 x.length c5) (Pr.iL s k) x rfl ((HO5.out.under ((Below.refl _ _).alloc (Nat.le_refl _) _))) rfl (HV5.out.alloc _) (Blk.at (t := 23) (cs := #[.slice A5 x.length c5]) (heap_alloc_new w5 _) 0) (by rw [HLN.out]; omega) (by have := HZ5.out; simp; omega) _ HNL.out ?_)
      rintro u' w' ⟨hO', hg', _, hb'⟩
      have HO' := Lib.hid hO'
      have ba : Below w5.heap.size w5 (w5.alloc (.cells #[.slice A5 x.length c5] 23)) := (Below.refl _ _).alloc (Nat.le_refl _) _
      have HR' : Hid (Rdr w' w.heap.size g g (Pr.iS s (k + 1))) := Lib.hid (by rw [HNS.out]; exact (HR5.out.under ba).past hg' HG.out.2 HO5.out.base)
      have HD' : Hid (OwnD w' w1.heap.size u3 L) := Lib.hid ((HD5.out.under ba).grown hg' (ownD_apartR (HD5.out.under ba) (HO5.out.under ba)))
      have HB' : Hid (Below w.heap.size w w') := Lib.hid ((HB5.out.alloc HB5.out.size _).trans (hb'.mono (by have := HG.out; omega)))
      have HZ' : Hid (w1.heap.size ≤ w'.heap.size) := Lib.hid (by have h1 := HZ5.out; have h2 := hg'.size; simp at h2; omega)
      clear hO' hg' hb' ba
      go_wp2
      go_roundg (m - (k + 1))
      case measure => omega
      case rel => exact ⟨k + 1, hlt, by omega, by go_num, HR', HO', HD', HB', HZ'⟩
    · obtain rfl : k = m := by omega
      have hkI : ¬ (k : Int) < (k : Int) := by omega
      obtain ⟨q1, hq1⟩ : ∃ q, Cd.endB (Pr.iS s k) = q := ⟨_, rfl⟩
      have HQ1 := Lib.hid hq1
      rw [HBI.out.1, HBI.out.2, hq1] at HT3
      clear hq1 hlt
      rcases q3 with _ | _
      · go_wp2_with fail
        go_ret3
        exact pair_none (by rw [HT3.out]; rfl) rfl hBl.out
      · go_wp2_with fail
        refine (end_is _ _ g _ q1 wz hR.out HQ1.out).mono ?_
        rintro e w5 ⟨rfl, rfl⟩
        rcases q1 with _ | _
        · go_wp2_with fail
          go_ret3
          exact pair_none (by rw [HT3.out]; rfl) rfl hBl.out
        · go_wp2_with fail
          go_ret3
          exact pair_some (by rw [HT3.out]; rfl) _ _ rfl (hD.out.more (by have := HG.out; omega)) (hO.out.more (by have := HG.out; omega)) hBl.out
theorem pair_is {w w' : World} {e : Ending} {T : Option (List Ac.D × List (List Nat))} (h : PairIs w e w' T) : ∃ u v q L I, e = .returned (.tuple #[u, v, .bool q]) ∧ OwnD w' w.heap.size u L ∧ OwnR w' w.heap.size v I ∧ Below w.heap.size w w' ∧ T = if q then some (L, I) else none := by
  rcases T with _ | ⟨L, I⟩
  · obtain ⟨rfl, hb⟩ := h
    exact ⟨_, _, false, [], [], rfl, ownD_none _ _, ownR_none _ _, hb, rfl⟩
  · obtain ⟨⟨u, v, rfl, ho, hi⟩, hb⟩ := h
    exact ⟨u, v, true, L, I, rfl, ho, hi, hb, rfl⟩
set_option maxRecDepth 100000 in
set_option maxHeartbeats 8000000 in
theorem pvalue_any (v : Value) (b : List Nat) (w : World) (hv : Bytes w v b) (hb : b.length ≤ 100000) (T : Option (List Nat)) (hT : T = Pr.value 999 (b.length : Int) b) :
    Calls Try.prog 10 #[v] w fun e w' => CameIs w.heap.size w e w' T := by
  have HP : Hid (Calls Try.prog 9 #[v] w fun e w' => PairIs w e w' (Pr.parse 999 (b.length : Int) b)) := Lib.hid (pparse_any v b w hv hb _ rfl)
  obtain ⟨K, hK⟩ : ∃ K, Pr.parse 999 (b.length : Int) b = K := ⟨_, rfl⟩
  have HG : Hid (∀ L I, K = some (L, I) → Ac.ok L = true ∧ I.length ≤ 8 ∧ ∀ x ∈ I, x.length ≤ 256 ∧ ∀ c ∈ x, c < 256) := Lib.hid (fun L I h => by
    rw [← hK] at h
    exact Pr.parse_good hv.parts.1 h)
  have HT : Hid (T = Pr.came K) := Lib.hid (by rw [hT, Pr.value_eq, hK])
  rw [hK] at HP
  clear hT hK hv
  go_enter Try.func10, Try.ntmps10
  go_wp2_with fail
  refine HP.out.mono ?_
  intro e w1 h1
  obtain ⟨u1, v1, q1, L, I, rfl, hu, hi, hb1, hk⟩ := pair_is h1
  clear h1 HP
  rcases q1 with _ | _
  · have HN : Hid (T = none) := Lib.hid (by rw [HT.out, hk]; rfl)
    have HB := Lib.hid hb1
    clear hk hu hi HG HT hb1
    go_wp2_with fail
    go_ret2
    exact came_none HN.out rfl HB.out
  · have HN : Hid (T = Ac.run L I) := Lib.hid (by rw [HT.out, hk]; rfl)
    have HGL := Lib.hid (HG.out L I hk)
    have HU := Lib.hid hu
    have HI := Lib.hid hi
    have HB := Lib.hid hb1
    clear hk hu hi HG HT hb1
    go_wp2_with fail
    refine (run_any u1 v1 L I w1 HU.out.rd HI.out.rows (by have := HGL.out.2.1; omega) (fun x hx => by have := (HGL.out.2.2 x hx).1; omega) (fun d hd => by
      obtain ⟨_, _, h3⟩ := Ac.ok_small HGL.out.1
      have := h3 d hd
      exact ⟨by omega, this.2.2.2.2, by omega⟩) T HN.out).mono ?_
    intro e w2 h2
    obtain ⟨u2, q2, l2, rfl, hm2, hb2, hk2⟩ := came_is h2
    have HM2 := Lib.hid (hm2.more (base' := w.heap.size) HB.out.size)
    have HB2 := Lib.hid (HB.out.trans (hb2.mono HB.out.size))
    have HK2 := Lib.hid hk2
    clear h2 hm2 hb2 hk2
    go_wp2_with fail
    go_ret2
    rcases q2 with _ | _
    · exact came_none (by rw [HK2.out.1]; rfl) (by rw [HK2.out.2 rfl]; rfl) HB2.out
    · exact came_some (by rw [HK2.out.1]; rfl) _ rfl HM2.out HB2.out
end Go.Proofs.Ytldnpedegcbglaa
