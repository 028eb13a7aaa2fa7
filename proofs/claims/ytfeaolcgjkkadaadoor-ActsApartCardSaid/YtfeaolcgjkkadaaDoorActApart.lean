/- ActsApart: two actions have the same bytes just if they are the same. -/
import Derived.Test.YtfeaolcgjkkadaaDoorActAwake
import Derived.Test.YtfeaolcgjkkadaaDoorAct
import Derived.Deep.DeepCutAuto
import Derived.Deep.RegionWith
namespace Go.Proofs.YtfeaolcgjkkadaaDoor
set_option maxRecDepth 100000
open Go.ChangeShapes Go.WideShapes Go.ChangeAt Go.RowKit

/-- A whole row of things behind another one. -/
theorem wpList_append_dos {w : World} {ops : Array Oper} {rest : List Oper} {o : Oper} {a : Act} {Q : Exit → Act → World → Prop} (hgd : o.guard = none) (s x : Operand)
    (ho : o.op = .call { callee := .builtin .append, args := #[s, x], argTypes := #[23, 23] }) (base : Nat) (u v : Value) (R M : List Ac.D) (hs : a.eval s = u) (hst : OwnD w base u R)
    (hx : a.eval x = v) (hM : RdD w v M) (h0 : 0 < M.length) (hlen : R.length + M.length ≤ 1000000) (hbase : base ≤ w.heap.size) (R' : List Ac.D) (hR : R ++ M = R')
    (h : ∀ u' w', OwnD w' base u' R' → w.grownBy w' u.ownBlock → Below base w w' → wpList Tryd.prog ops Q rest (a.put o.dst u') w') : wpList Tryd.prog ops Q (o :: rest) a w := by
  subst hR
  obtain ⟨i, hi, hz0, hz1, hz2⟩ := info_parts infoDo
  obtain ⟨A, c, rfl, hc, hm, hcell⟩ := hM
  obtain ⟨b, off, rfl, hcl⟩ := hcell h0
  refine wpList_append_own_at w hgd s x 23 ho base 28 i (.agg #[.int .i64 0, .int .i64 0, .string ⟨#[]⟩]) 3 32 Tryd.underlying23 hi hz0 hz1 hz2 (by kernel_rfl) (by decide) u R.length (rowD R) hs hst ⟨b, off, none⟩ M.length c (rowD M) hx (rowD_len M) ?_ ?_ (by unfold maxLen; omega) (by omega) hbase ?_
  · intro j y hy
    rw [add_plain]
    have hj : j < M.length * 3 := by
      rw [← rowD_len]
      exact (List.getElem?_eq_some_iff.1 hy).1
    have hk : j / 3 < M.length := by omega
    have he := rowD_at M (j / 3) (j % 3) hk (Nat.mod_lt _ (by decide))
    rw [show j / 3 * 3 + j % 3 = j from by omega, hy] at he
    obtain ⟨p0, p1, p2⟩ := hcl (j / 3) hk
    have : j % 3 = 0 ∨ j % 3 = 1 ∨ j % 3 = 2 := by omega
    rcases this with e | e | e
    · rw [e] at he
      rw [show off + j = off + j / 3 * 3 from by omega, p0]
      exact he.symm
    · rw [e] at he
      rw [show off + j = off + j / 3 * 3 + 1 from by omega, p1]
      exact he.symm
    · rw [e] at he
      rw [show off + j = off + j / 3 * 3 + 2 from by omega, p2]
      exact he.symm
  · intro y hy
    obtain ⟨d, _, hd⟩ := List.mem_flatMap.1 hy
    exact cellsD_one d y hd
  · intro u' w' g1 g2 _ _
    refine h u' w' ?_ g2 ((Below.refl _ _).grown g2 hbase fun k hk => (World.ownsRow.lt hst k hk).1)
    unfold OwnD
    rw [List.length_append, rowD, List.flatMap_append]
    exact g1
/-- One thing's number, exchanged. -/
def setN (L : List Ac.D) (k m : Nat) : List Ac.D := L.set k { L.getD k ⟨0, 0, []⟩ with n := m }
theorem setN_len (L : List Ac.D) (k m : Nat) : (setN L k m).length = L.length := by simp [setN]
theorem rowD_setN : ∀ (L : List Ac.D) (k m : Nat), k < L.length → rowD (setN L k m) = (rowD L).set (k * 3 + 1) (.int .i64 (m : Int))
  | [], k, m, h => by simp at h
  | x :: L, 0, m, _ => by
    obtain ⟨a, b, c⟩ := x
    rfl
  | x :: L, k + 1, m, h => by
    have ih := rowD_setN L k m (by simpa using h)
    have e : setN (x :: L) (k + 1) m = x :: setN L k m := by simp [setN]
    rw [e]
    show cellsD x ++ rowD (setN L k m) = (cellsD x ++ rowD L).set ((k + 1) * 3 + 1) _
    rw [ih, List.set_append_right _ _ (by rw [cellsD_len]; omega), cellsD_len, show (k + 1) * 3 + 1 - 3 = k * 3 + 1 from by omega]
theorem OwnD.blk {w : World} {base : Nat} {v : Value} {L : List Ac.D} (h : OwnD w base v L) (h0 : 0 < L.length) : ∃ g cap cur, v = .slice (some ⟨g, 0, none⟩) L.length cap ∧ base ≤ g ∧ Blk w g 28 cur ∧ L.length ≤ cap ∧ cap ≤ maxLen ∧ cur.size = cap * 3 ∧ cur.toList.take (L.length * 3) = rowD L := by
  rcases h.2 with ⟨_, h1⟩ | ⟨g, cap, cur, rfl, hb, hg, hn, hm, hs, ht⟩
  · omega
  · exact ⟨g, cap, cur, rfl, hb, hg, hn, hm, hs, ht⟩
theorem OwnD.setN {w : World} {base g n cap : Nat} {L : List Ac.D} (h : OwnD w base (.slice (some ⟨g, 0, none⟩) n cap) L) (k m : Nat) (hk : k < L.length) : OwnD (w.setCell ⟨g, k * 3 + 1, none⟩ (.int .i64 (m : Int))) base (.slice (some ⟨g, 0, none⟩) n cap) (setN L k m) := by
  obtain ⟨g', cap', cur, e, hb, hg, hn, hm, hs, ht⟩ := h.blk (by omega)
  injection e with e1 e2 e3
  injection e1 with e1
  injection e1 with e1
  subst e1 e2 e3
  refine ⟨by rw [rowD_len], .inr ⟨g, cap, _, by rw [setN_len], hb, hg.set _ _, by rw [setN_len]; exact hn, hm, by simpa using hs, ?_⟩⟩
  rw [setN_len, rowD_setN L k m hk, ← ht, Array.toList_setIfInBounds, List.take_set]
theorem OwnD.at {w : World} {base g n cap : Nat} {L : List Ac.D} (h : OwnD w base (.slice (some ⟨g, 0, none⟩) n cap) L) (k : Nat) (hk : k < L.length) : w.cell? ⟨g, k * 3 + 1, none⟩ = some (.int .i64 ((L.getD k ⟨0, 0, []⟩).n : Int)) ∧ w.frozen? ⟨g, k * 3 + 1, none⟩ = false := by
  obtain ⟨g', cap', cur, e, hb, hg, hn, hm, hs, ht⟩ := h.blk (by omega)
  injection e with e1 e2 e3
  injection e1 with e1
  injection e1 with e1
  subst e1 e2 e3
  obtain ⟨b, off, e2, _, p1, _⟩ := h.rd.at k hk
  injection e2 with e2
  injection e2 with e2 e3
  subst e2 e3
  rw [Nat.zero_add] at p1
  refine ⟨?_, hg.free _⟩
  rw [p1, List.getD_eq_getElem?_getD, List.getElem?_eq_getElem hk]
  rfl
/-- What is told of the two actions. -/
def Sm (L : List Ac.D) : Prop := 1 ≤ L.length ∧ L.length ≤ 8 ∧ ∀ d ∈ L, d.kind ≤ 11 ∧ d.n ≤ 1000 ∧ (∀ c ∈ d.text, c < 256) ∧ d.text.length ≤ 64
theorem sm_of {L : List Ac.D} (h : Ac.ok L = true) (hn : ∀ d ∈ L, d.n ≤ 31) : Sm L := by
  obtain ⟨h1, h2, h3⟩ := Ac.ok_small h
  exact ⟨h1, h2, fun d hd => ⟨(h3 d hd).2.1, Nat.le_trans (hn d hd) (by decide), (h3 d hd).2.2.2.2, (h3 d hd).2.2.2.1⟩⟩
theorem sm_setN {L : List Ac.D} (h : Sm L) {k m : Nat} (hk : k < L.length) (hm : m ≤ 1000) : Sm (setN L k m) := by
  obtain ⟨h1, h2, h3⟩ := h
  refine ⟨by rw [setN_len]; exact h1, by rw [setN_len]; exact h2, fun d hd => ?_⟩
  rcases List.mem_or_eq_of_mem_set hd with hd | rfl
  · exact h3 d hd
  · have := h3 _ (List.getElem_mem hk)
    rw [List.getD_eq_getElem?_getD, List.getElem?_eq_getElem hk]
    exact ⟨this.1, hm, this.2.2⟩
theorem enc_byte (n : Nat) : ∀ c ∈ Cd.enc n, c < 256 := by
  intro c hc
  unfold Cd.enc at hc
  simp at hc
  omega
theorem bytes_byte {L : List Ac.D} (h : ∀ d ∈ L, ∀ c ∈ d.text, c < 256) : ∀ c ∈ Ac.bytes L, c < 256 := by
  intro c hc
  unfold Ac.bytes at hc
  rcases List.mem_append.1 hc with hc | hc
  · exact enc_byte _ c hc
  · obtain ⟨d, hd, hc⟩ := List.mem_flatMap.1 hc
    unfold Ac.bytesD at hc
    rcases List.mem_append.1 hc with hc | hc
    · exact enc_byte _ c hc
    · rcases List.mem_append.1 hc with hc | hc
      · exact enc_byte _ c hc
      · rcases List.mem_append.1 hc with hc | hc
        · exact enc_byte _ c hc
        · exact h d hd c hc
theorem sm_same {L M : List Ac.D} (h : Sm L) (k : Sm M) : ((str (Ac.bytes L)).toList == (str (Ac.bytes M)).toList) = decide (L = M) := by
  rw [str_eq (bytes_byte fun d hd => (h.2.2 d hd).2.2.1) (bytes_byte fun d hd => (k.2.2 d hd).2.2.1)]
  have small : ∀ {L : List Ac.D}, Sm L → ∀ d ∈ L, Ac.SmallD d := fun h d hd => by
    obtain ⟨a, b, _, c⟩ := h.2.2 d hd
    exact ⟨by omega, by omega, by omega⟩
  by_cases e : L = M
  · rw [e]; simp
  · rw [decide_eq_false e, decide_eq_false]
    exact fun he => e (Ac.bytes_inj (by have := h.2.1; omega) (by have := k.2.1; omega) (small h) (small k) he)
set_option maxRecDepth 100000 in
set_option maxHeartbeats 16000000 in
theorem apart_any (v1 v2 : Value) (z1 z2 : List Int) (at1 : Int) (sm : Bool) (w : World) (h1 : Ints w v1 z1) (h2 : Ints w v2 z2) (hTab : Tabs w) :
    Calls Tryd.prog 4 #[v1, v2, .int .i64 at1, .bool sm] w fun e w' => e = .returned (.bool true) ∧ Below w.heap.size w w' := by
  have H1 := Lib.hid h1
  have H2 := Lib.hid h2
  have HTab := Lib.hid hTab
  have HM := Lib.hid (and_low at1 255 (by decide))
  clear h1 h2 hTab
  go_enter Tryd.func4, Tryd.ntmps4
  go_wp2_with fail
  refine (act_any v1 z1 w H1.out).mono ?_
  rintro e w2 ⟨LA, va, rfl, hoa, hka, -, hna, hb2⟩
  have HOA := Lib.hid hoa
  have HSA := Lib.hid (sm_of hka hna)
  have HNA := Lib.hid hna
  have HB2 := Lib.hid hb2
  clear hoa hka hna hb2
  go_wp2_with fail
  refine (act_any v2 z2 w2 (H2.out.under HB2.out)).mono ?_
  rintro e w3 ⟨LB, vb, rfl, hob, hkb, -, hnb, hb3⟩
  have HRA := Lib.hid (HOA.out.rd.under hb3)
  have HAL : Hid (Between 0 w3.heap.size va) := Lib.hid (fun k hk => ⟨Nat.zero_le _, Nat.lt_of_lt_of_le (HOA.out.lt k hk).2 hb3.size⟩)
  have HOB := Lib.hid (hob.more (base' := w.heap.size) HB2.out.size)
  have HSB := Lib.hid (sm_of hkb hnb)
  have HB3 := Lib.hid (HB2.out.trans (hb3.mono HB2.out.size))
  obtain ⟨A, c, rfl, -⟩ := HRA.out.parts
  obtain ⟨n, hn⟩ : ∃ n, LA.length = n := ⟨_, rfl⟩
  rw [hn] at HRA HOA HAL ⊢
  have HN := Lib.hid hn
  clear hob hkb hnb hb3 hn
  go_upto_if 16 with fail
  go_cut [10, 11] (fun s10 s11 wx => ∃ LX, Hid (RdD wx s10 LX) ∧ Hid (RdD wx (.slice A n c) LA) ∧ Hid (Sm LX) ∧ Hid (Below w.heap.size w wx))
  case first =>
    rcases sm with _ | _
    · go_wp2_with fail
      go_meet
      exact ⟨LB, Lib.hid HOB.out.rd, HRA, HSB, HB3⟩
    · have HE : Hid (OwnD (w3.alloc (.cells #[] 28)) w3.heap.size (.slice (some ⟨w3.heap.size, 0, none⟩) 0 0) []) := Lib.hid (ownD_lit w3 w3.heap.size [] #[] 0 rfl rfl (Nat.le_refl _) (by simp))
      have HBE : Hid (Below w3.heap.size w3 (w3.alloc (.cells #[] 28))) := Lib.hid ((Below.refl _ _).alloc (Nat.le_refl _) _)
      go_wp2_with (at_builtin; refine wpList_append_dos rfl _ _ rfl w3.heap.size _ (.slice A n c) [] LA rfl HE.out rfl (HRA.out.under HBE.out) HSA.out.1 (by have := HSA.out.2.1; simp; omega) (by simp) LA rfl ?_)
      rintro u' w4 hO4 - hb4
      have HO4 := Lib.hid hO4
      have HB4 := Lib.hid (HBE.out.trans hb4)
      clear hO4 hb4 HE HBE
      obtain ⟨g, cap, cur, rfl, hg, -, hcap, hcm, -, -⟩ := HO4.out.blk HSA.out.1
      rw [HN.out] at HO4 hcap ⊢
      obtain ⟨M, hM, hM2⟩ := HM.out
      change bits .and .i64 at1 255 = (M : Int) at hM
      have hnb : 1 ≤ n ∧ n ≤ 8 := by have := HSA.out; unfold Sm at this; rw [HN.out] at this; omega
      obtain ⟨k, hk⟩ : ∃ k : Nat, (bits .and .i64 at1 255).tmod (n : Int) = (k : Int) := ⟨M % n, by rw [hM, Int.tmod_eq_emod_of_nonneg (by omega)]; omega⟩
      have hkn : k < n := by
        rw [hM, Int.tmod_eq_emod_of_nonneg (by omega)] at hk
        have := Int.emod_lt_of_pos (M : Int) (show (0 : Int) < (n : Int) by omega)
        omega
      have hn0 : ¬ (n : Int) = 0 := by omega
      have hkI : (k : Int) < (n : Int) := by omega
      have hkL : k < LA.length := by rw [HN.out]; exact hkn
      obtain ⟨c1, f1⟩ := HO4.out.at k hkL
      obtain ⟨y, hy⟩ : ∃ y, (LA.getD k ⟨0, 0, []⟩).n = y := ⟨_, rfl⟩
      rw [hy] at c1
      have hy2 : y ≤ 1000 := by
        have := (HSA.out.2.2 _ (List.getElem_mem hkL)).2.1
        rw [← hy, List.getD_eq_getElem?_getD, List.getElem?_eq_getElem hkL]
        exact this
      clear hM hM2 hcm
      have HB5 := Lib.hid (HB3.out.trans (HB4.out.mono HB3.out.size))
      have HB6 := Lib.hid (HB4.out.setCell (p := ⟨g, k * 3 + 1, none⟩) hg (.int .i64 ((y + 1 : Nat) : Int)))
      have HSN := Lib.hid (HO4.out.setN k (y + 1) hkL)
      have HSS := Lib.hid (sm_setN HSA.out hkL (m := y + 1) (by
        have := HNA.out _ (List.getElem_mem hkL)
        rw [← hy, List.getD_eq_getElem?_getD, List.getElem?_eq_getElem hkL]
        show (LA[k]'hkL).n + 1 ≤ 1000
        omega))
      go_wp2_with fail
      · go_meet
        exact ⟨setN LA k (y + 1), Lib.hid HSN.out.rd, Lib.hid (HRA.out.under HB6.out), HSS, Lib.hid (HB3.out.trans (HB6.out.mono HB3.out.size))⟩
      · go_meet
        exact ⟨LA, Lib.hid HO4.out.rd, Lib.hid (HRA.out.under HB4.out), HSA, HB5⟩
  case rest =>
    obtain ⟨LX, HX, HA, HSX, HB⟩ := hcut
    obtain ⟨wz, rfl⟩ : ∃ wx : World, wx = wc := ⟨_, rfl⟩
    have HWA : Hid (∀ W, Below wz.heap.size wz W → Calls Tryd.prog 15 #[.slice A n c] W (Made W.heap.size (Ac.bytes LA) W)) := Lib.hid (fun W hb => write_any _ LA W (HA.out.under hb) (by have := HSA.out.2.1; omega) (fun d hd => by have := HSA.out.2.2 d hd; exact ⟨by omega, by omega, this.2.2.1, by omega⟩))
    have HWX : Hid (∀ W, Below wz.heap.size wz W → Calls Tryd.prog 15 #[u10] W (Made W.heap.size (Ac.bytes LX) W)) := Lib.hid (fun W hb => write_any _ LX W (HX.out.under hb) (by have := HSX.out.2.1; omega) (fun d hd => by have := HSX.out.2.2 d hd; exact ⟨by omega, by omega, this.2.2.1, by omega⟩))
    have HAW : Hid (∀ W, Below wz.heap.size wz W → Calls Tryd.prog 14 #[] W fun e w' => e = .returned (.bool true) ∧ Below W.heap.size W w') := Lib.hid (fun W hb => awake_any W (HTab.out.under (HB.out.trans (hb.mono HB.out.size))))
    have hq := sm_same HSA.out HSX.out
    obtain ⟨q, hqq⟩ : ∃ q, decide (LA = LX) = q := ⟨_, rfl⟩
    have HSM : Hid (∀ W, Below wz.heap.size wz W → Calls Tryd.prog 12 #[.slice A n c, u10] W fun e w' => e = .returned (.bool q) ∧ ∃ nq, w' = W.drewN nq) := Lib.hid (fun W hb => by
      rw [← hqq]
      exact refsameact_any _ _ LA LX W (HA.out.under hb) (HX.out.under hb) (fun d hd => (HSA.out.2.2 d hd).2.2.1) (fun d hd => (HSX.out.2.2 d hd).2.2.1))
    rw [hqq] at hq
    clear hqq HAL HOA HRA HOB HSB HB2 HB3 H1 H2 HM HNA
    obtain ⟨s1, hs1⟩ : ∃ s, str (Ac.bytes LA) = s := ⟨_, rfl⟩
    obtain ⟨s2, hs2⟩ : ∃ s, str (Ac.bytes LX) = s := ⟨_, rfl⟩
    rw [hs1, hs2] at hq
    have HC1 : Hid (∀ W v, Bytes W v (Ac.bytes LA) → (convert 39 9 v).run Tryd.prog W = .ok (.string s1) W) := Lib.hid (fun W v h => by rw [← hs1]; exact run_text h)
    have HC2 : Hid (∀ W v, Bytes W v (Ac.bytes LX) → (convert 39 9 v).run Tryd.prog W = .ok (.string s2) W) := Lib.hid (fun W v h => by rw [← hs2]; exact run_text h)
    clear hs1 hs2
    go_upto_region 7 with fail
    go_region_with (first
      | (go_at_call_of 15 (Value.slice A n c); refine (HWA.out _ ((Below.refl _ wz).drew)).mono ?_; rintro e w3 ⟨v3, rfl, ho3, hb3⟩; have hbn : Below wz.heap.size wz w3 := ((Below.refl _ wz).drew).trans hb3; have rt1 := HC1.out w3 v3 ho3.bytes)
      | (go_at_call_of 15 u10; refine (HWX.out _ hbn).mono ?_; rintro e w4 ⟨v4, rfl, ho4, hb4⟩; have hbm : Below wz.heap.size wz w4 := hbn.trans (hb4.mono hbn.size); have rt1' := HC1.out w4 v3 (ho3.under hb4).bytes; have rt2 := HC2.out w4 v4 ho4.bytes)
      | (go_at_call 12; refine (HSM.out _ hbm).mono ?_; rintro e w5 ⟨rfl, nq, rfl⟩; have hbs := hbm.trans ((below_drewN _ nq).mono hbm.size); have rt2' := HC2.out (w4.drewN nq) v4 (ho4.bytes.heap rfl); have rt1'' := HC1.out (w4.drewN nq) v3 ((ho3.under hb4).bytes.heap rfl))
      | (go_at_call 14; refine (HAW.out _ hbs).mono ?_; rintro e w6 ⟨rfl, hb6⟩; have hbe := HB.out.trans ((hbs.trans (hb6.mono hbs.size)).mono HB.out.size)))
    all_goals (go_wp2; go_ret; exact ⟨rfl, hbe⟩)
end Go.Proofs.YtfeaolcgjkkadaaDoor
