/- How package acts reads an action: Parse. -/
import Derived.Test.YtfeaolcgjkkadaaDoorActRead
import Derived.Test.YtfeaolcgjkkadaaDoorActProgOk
namespace Go.Proofs.YtfeaolcgjkkadaaDoor
set_option maxRecDepth 100000
open Go.ChangeShapes Go.WideShapes Go.ChangeAt Go.RowKit

theorem wpList_append_doE {w : World} {ops : Array Oper} {rest : List Oper} {o : Oper} {a : Act} {Q : Exit → Act → World → Prop} (hgd : o.guard = none) (s x : Operand)
    (ho : o.op = .call { callee := .builtin .append, args := #[s, x], argTypes := #[23, 23] }) (base B : Nat) (u : Value) (R : List Ac.E) (z : Ac.E) (hs : a.eval s = u) (hst : OwnE w base u R)
    (hx : a.eval x = .slice (some ⟨B, 0, none⟩) 1 1) (hB : ∀ j y, (cellsE z)[j]? = some y → w.cell? ⟨B, j, none⟩ = some y)
    (hlen : R.length ≤ 1099511627776) (hbase : base ≤ w.heap.size) (R' : List Ac.E) (hR : R ++ [z] = R')
    (h : ∀ u' w', OwnE w' base u' R' → w.grownBy w' u.ownBlock → Below base w w' → wpList Tryd.prog ops Q rest (a.put o.dst u') w') : wpList Tryd.prog ops Q (o :: rest) a w := by
  subst hR
  obtain ⟨i, hi, hz0, hz1, hz2⟩ := info_parts infoDo
  refine wpList_append_own_at w hgd s x 23 ho base 28 i (.agg #[.int .i64 0, .int .i64 0, .string ⟨#[]⟩]) 3 32 Tryd.underlying23 hi hz0 hz1 hz2 (by kernel_rfl) (by decide) u R.length (rowE R) hs hst ⟨B, 0, none⟩ 1 1 (cellsE z) hx rfl ?_ (cellsE_one z) (by unfold maxLen; omega) (by omega) hbase ?_
  · intro j y hy
    rw [add_plain]
    simpa using hB j y hy
  · intro u' w' g1 g2 _ _
    refine h u' w' ?_ g2 ((Below.refl _ _).grown g2 hbase fun k hk => (World.ownsRow.lt hst k hk).1)
    unfold OwnE
    rw [List.length_append, List.length_singleton, rowE_snoc]
    exact g1
theorem do_cellsE (w : World) (o : Obj) (z : Ac.E) : ∀ j y, (cellsE z)[j]? = some y → ((w.alloc o).alloc (.cells (cellsE z).toArray 28)).cell? ⟨w.heap.size + 1, j, none⟩ = some y := fun j y hy => by
  have hs : w.heap.size + 1 = (w.alloc o).heap.size := by simp
  have h : Blk ((w.alloc o).alloc (.cells (cellsE z).toArray 28)) (w.heap.size + 1) 28 (cellsE z).toArray := by
    rw [hs]
    exact heap_alloc_new _ _
  rw [h.at j, List.getElem?_toArray]
  exact hy
theorem rdW_empty (w : World) (A : Option Addr) : RdW w (.slice A 0 0) [] := ⟨A, 0, rfl, Nat.le_refl _, Nat.zero_le _, fun h => absurd h (by simp)⟩
theorem textOf_mem {r : List Ln.W} {t : List Nat} (h : textOf r = some t) : ∃ y ∈ r, t = y.text := by
  rcases r with _ | ⟨⟨yt, yl, yc, yq⟩, _ | ⟨y2, r⟩⟩
  · cases h
  · cases yq
    · cases h
    · cases h; exact ⟨_, by simp, rfl⟩
  · cases h
theorem oneE_text {R : List Ln.W} {d : Ac.E} (h : ∀ x ∈ R, (∀ c ∈ x.text, c < 256) ∧ x.text.length ≤ 1099511627776) (hd : Ac.oneE R = some d) : d.kind ≤ 1000000 ∧ (∀ c ∈ d.text, c < 256) ∧ d.text.length ≤ 1099511627776 := by
  have hnil : (∀ c ∈ ([] : List Nat), c < 256) ∧ ([] : List Nat).length ≤ 1099511627776 := ⟨by simp, by simp⟩
  rcases R with _ | ⟨⟨xt, xl, xc, xq⟩, r⟩
  · cases hd
  cases xq with
  | true => simp [Ac.oneE] at hd
  | false =>
    rw [oneE_kind] at hd
    have hk := kind_le xt
    unfold oneKind at hd
    split at hd
    · rcases ht : textOf r with _ | t
      · rw [ht] at hd; cases hd
      · rw [ht] at hd
        cases hd
        obtain ⟨y, hy, rfl⟩ := textOf_mem ht
        exact ⟨by show Ac.kindOf xt ≤ _; omega, h y (by simp [hy])⟩
    · split at hd
      · rcases ht : numOf r with _ | t
        · rw [ht] at hd; cases hd
        · rw [ht] at hd
          cases hd
          exact ⟨by show Ac.kindOf xt ≤ _; omega, hnil⟩
      · split at hd
        · cases hd
          exact ⟨by show Ac.kindOf xt ≤ _; omega, hnil⟩
        · cases hd
/-- A part of words: what it is, and what stands behind it. -/
structure Part (R P R2 : List Ln.W) (q : Bool) : Prop where
  less : q = true → R2.length + 1 ≤ R.length
  last : q = false → R2 = []
  of1 : ∀ x ∈ P, x ∈ R
  of2 : ∀ x ∈ R2, x ∈ R
  no : ∀ M, Ac.oneE P = none → Ac.partsE [] M R = none
  on : q = true → ∀ M d, Ac.oneE P = some d → Ac.partsE [] M R = Ac.partsE [] (M ++ [d]) R2
  fin : q = false → ∀ M d, Ac.oneE P = some d → Ac.partsE [] M R = some (M ++ [d])
theorem part_of {R : List Ln.W} : (∀ j (hj : j < R.length), Ac.sep (R[j]'hj) = false) → Part R R [] false := fun h =>
  ⟨by simp, fun _ => rfl, fun _ h => h, by simp, fun M hn => by rw [Ac.partsE_last h, hn], by simp, fun _ M d hd => by rw [Ac.partsE_last h, hd]⟩
theorem part_at {R : List Ln.W} {k : Nat} (h : SepAt R (some k)) : Part R (R.take k) (R.drop (k + 1)) true := by
  obtain ⟨hk, hs, hj⟩ := h
  refine ⟨fun _ => by rw [List.length_drop]; omega, by simp, fun x hx => List.mem_of_mem_take hx, fun x hx => List.mem_of_mem_drop hx, fun M hn => by rw [Ac.partsE_cut hk hs hj, hn], fun _ M d hd => by rw [Ac.partsE_cut hk hs hj, hd], by simp⟩
theorem cut_said (v : Value) (R : List Ln.W) (w0 w : World) (hv : RdW w0 v R) (h0 : Below w0.heap.size w0 w) (ht : ∀ x ∈ R, ∀ c ∈ x.text, c < 256) (hR : R.length ≤ 1000000) :
    Calls Tryd.prog 17 #[v] w fun e w' => ∃ (u1 u2 : Value) (P R2 : List Ln.W) (q : Bool), e = .returned (.tuple #[u1, u2, .bool q]) ∧ Part R P R2 q ∧ RdW w0 u1 P ∧ RdW w0 u2 R2 ∧ Below w.heap.size w w' := by
  refine (cut_any v R w0 w hv (hv.under h0) ht hR).mono ?_
  rintro e w' ⟨K, hs, hc⟩
  rcases K with _ | k
  · obtain ⟨rfl, hb⟩ := hc
    exact ⟨_, _, R, [], false, rfl, part_of hs, hv, rdW_empty _ _, hb⟩
  · obtain ⟨⟨u1, u2, rfl, h1, h2⟩, hb⟩ := hc
    exact ⟨_, _, _, _, true, rfl, part_at hs, h1, h2, hb⟩
def ParsedIs (w : World) (e : Ending) (w' : World) : Option (List Ac.D) → Prop
  | some L => (∃ u, e = .returned (.tuple #[u, .bool true]) ∧ OwnD w' w.heap.size u L) ∧ Below w.heap.size w w'
  | none => e = .returned (.tuple #[.slice none 0 0, .bool false]) ∧ Below w.heap.size w w'
theorem parsed_none {w w' : World} {e : Ending} {T : Option (List Ac.D)} (h : T = none) (he : e = .returned (.tuple #[.slice none 0 0, .bool false])) (hb : Below w.heap.size w w') : ParsedIs w e w' T := by
  rw [h]
  exact ⟨he, hb⟩
theorem parsed_some {w w' : World} {e : Ending} {T : Option (List Ac.D)} {M : List Ac.E} (h : T.map (List.map Ac.D.e) = some M) (u : Value) (he : e = .returned (.tuple #[u, .bool true])) (ho : OwnE w' w.heap.size u M) (hb : Below w.heap.size w w') : ParsedIs w e w' T := by
  rcases T with _ | L
  · cases h
  · cases h
    exact ⟨⟨u, he, ho.back⟩, hb⟩
theorem map_none {T : Option (List Ac.D)} (h : T.map (List.map Ac.D.e) = none) : T = none := by
  cases T with
  | none => rfl
  | some L => cases h
/-- How far an action is read. -/
structure Pe (R R2 : List Ln.W) (M : List Ac.E) (q : Bool) : Prop where
  on : q = true → Ac.partsE [] [] R = Ac.partsE [] M R2
  fin : q = false → Ac.partsE [] [] R = some M
  texts : ∀ x ∈ R2, x ∈ R
  things : ∀ d ∈ M, d.kind ≤ 1000000 ∧ (∀ c ∈ d.text, c < 256) ∧ d.text.length ≤ 1099511627776
theorem Pe.next {R R2 P R3 : List Ln.W} {M : List Ac.E} {d : Ac.E} {q : Bool} (h : Pe R R2 M true) (hp : Part R2 P R3 q) (hd : Ac.oneE P = some d) (ht : ∀ x ∈ R, (∀ c ∈ x.text, c < 256) ∧ x.text.length ≤ 1099511627776) : Pe R R3 (M ++ [d]) q := by
  refine ⟨fun hq => by rw [h.on rfl, hp.on hq M d hd], fun hq => by rw [h.on rfl, hp.fin hq M d hd], fun x hx => h.texts x (hp.of2 x hx), fun x hx => ?_⟩
  rcases List.mem_append.1 hx with hx | hx
  · exact h.things x hx
  · rw [List.mem_singleton.1 hx]
    exact oneE_text (fun y hy => ht y (h.texts y (hp.of1 y hy))) hd
set_option maxRecDepth 100000 in
set_option maxHeartbeats 16000000 in
theorem parse_any (v : Value) (R : List Ln.W) (w : World) (hv : RdW w v R) (hR : R.length ≤ 1000000) (ht : ∀ x ∈ R, (∀ c ∈ x.text, c < 256) ∧ x.text.length ≤ 1099511627776) (hTab : Tabs w) (T : Option (List Ac.D)) (hT : T = Ac.parse R) :
    Calls Tryd.prog 10 #[v] w fun e w' => ParsedIs w e w' T := by
  have HV := Lib.hid hv
  have HX := Lib.hid ht
  have HTab := Lib.hid hTab
  have HT : Hid (Ac.fin (Ac.partsE [] [] R) = T.map (List.map Ac.D.e)) := Lib.hid (by rw [hT]; exact Ac.parse_rel (fun x hx => (ht x hx).1))
  obtain ⟨n, hn⟩ : ∃ n, R.length = n := ⟨_, rfl⟩
  rw [hn] at hR
  have HN := Lib.hid hn
  clear hv ht hT hn hTab
  go_enter Tryd.func10, Tryd.ntmps10
  go_wp2_with fail
  go_loopg [0, 4, 5] (n + 2) (fun g lv dv mv wr => ∃ (R2 : List Ln.W) (M : List Ac.E) (q : Bool), mv = .bool q ∧ (q = true → R2.length + 1 ≤ g) ∧ M.length + R2.length ≤ n + 1 ∧ (q = true → M.length + R2.length ≤ n) ∧ Hid (Pe R R2 M q) ∧ Hid (RdW w lv R2) ∧ Hid (OwnE wr w.heap.size dv M) ∧ Hid (Below w.heap.size w wr))
  case atStart => exact ⟨R, [], true, rfl, fun _ => by rw [HN.out]; omega, by rw [HN.out]; simp, fun _ => by rw [HN.out]; simp, Lib.hid ⟨fun _ => rfl, by simp, fun _ h => h, by simp⟩, HV, Lib.hid (ownE_none _ _), Lib.hid (Below.refl _ _)⟩
  case round =>
    obtain ⟨R2, M, q, rfl, hg, hm1, hm2, hP, hRD, hO, hbl⟩ := hrel
    obtain ⟨wz, rfl⟩ : ∃ wx : World, wx = wr := ⟨_, rfl⟩
    rcases q with _ | _
    · as_aux_lemma =>
        have HFN := Lib.hid (hP.out.fin rfl)
        have HOK := Lib.hid (fun W u (hu : RdE W u M) => okact_any u M W hu hP.out.things)
        clear hg hm1 hm2
        go_wp2_with fail
        refine (HOK.out _ _ hO.out.rd).mono ?_
        rintro e w2 ⟨rfl, hb2⟩
        have HB2 := Lib.hid (hbl.out.trans (hb2.mono hbl.out.size))
        have HO2 := Lib.hid (hO.out.under hb2)
        clear hb2
        rcases hok : Ac.okL M with _ | _
        · have HT2 : Hid (T = none) := Lib.hid (map_none (by rw [← HT.out, HFN.out]; unfold Ac.fin; simp only; rw [hok]; rfl))
          go_wp2
          go_ret2
          exact parsed_none HT2.out rfl HB2.out
        · have HT2 : Hid (T.map (List.map Ac.D.e) = some M) := Lib.hid (by rw [← HT.out, HFN.out]; unfold Ac.fin; simp only; rw [hok]; rfl)
          go_wp2
          go_ret2
          exact parsed_some HT2.out _ rfl HO2.out HB2.out
    · as_aux_lemma =>
        have HM1 := Lib.hid hm1
        have HM2 := Lib.hid (hm2 rfl)
        have HG := Lib.hid (hg rfl)
        have HCT := Lib.hid (cut_said u0 R2 w wz hRD.out hbl.out (fun x hx => (HX.out x (hP.out.texts x hx)).1) (by have := HM2.out; omega))
        clear hg hm1 hm2
        go_wp2_with fail
        refine HCT.out.mono ?_
        rintro e w2 ⟨p1, p2, P, R3, q2, rfl, hpt, h1, h2, hb2⟩
        have HPT := Lib.hid hpt
        have H1 := Lib.hid h1
        have H2 := Lib.hid h2
        have HB2 := Lib.hid (hbl.out.trans (hb2.mono hbl.out.size))
        have HO2 := Lib.hid (hO.out.under hb2)
        clear hpt h1 h2 hb2 HCT
        obtain ⟨U, hU⟩ : ∃ U, U = Ac.oneE P := ⟨_, rfl⟩
        have HU := Lib.hid hU
        have HRD := Lib.hid (readw_any p1 P w2 (H1.out.under HB2.out) (fun x hx => HX.out x (hP.out.texts x (HPT.out.of1 x hx))) (HTab.out.under HB2.out) U hU)
        clear hU
        go_wp2_with fail
        refine HRD.out.mono ?_
        intro e w3 hrd
        rcases U with _ | d
        · as_aux_lemma =>
            obtain ⟨rfl, hb3⟩ := hrd
            have HT2 : Hid (T = none) := Lib.hid (map_none (by rw [← HT.out, hP.out.on rfl, HPT.out.no M HU.out.symm]; rfl))
            have HB3 := Lib.hid (HB2.out.trans (hb3.mono HB2.out.size))
            have HBA : Hid (∀ o, Below w.heap.size w (w3.alloc o)) := Lib.hid (fun o => HB3.out.alloc HB3.out.size o)
            rw [show (cellsE (⟨0, 0, []⟩ : Ac.E)).toArray = #[.int .i64 0, .int .i64 0, .string (str [])] from rfl]
            clear hb3
            go_wp2
            go_ret2
            exact parsed_none HT2.out rfl (HBA.out _)
        · as_aux_lemma =>
            obtain ⟨rfl, hb3⟩ := hrd
            have HP3 := Lib.hid (hP.out.next HPT.out HU.out.symm HX.out)
            have HB3 := Lib.hid (HB2.out.trans (hb3.mono HB2.out.size))
            have HO3 := Lib.hid (HO2.out.under hb3)
            obtain ⟨dk, dn, dt⟩ := d
            rw [show (cellsE (⟨dk, dn, dt⟩ : Ac.E)).toArray = #[.int .i64 (dk : Int), .int .i64 dn, .string (str dt)] from rfl]
            clear hb3
            go_wp2_with (at_builtin; refine wpList_append_doE rfl _ _ rfl w.heap.size (w3.heap.size + 1) u4 M ⟨dk, dn, dt⟩ rfl ((HO3.out.alloc _).alloc _) rfl (do_cellsE w3 _ ⟨dk, dn, dt⟩) (by have := HM1.out; omega) (Nat.le_trans HB3.out.size (by simp; omega)) _ rfl ?_)
            rintro u' w4 hO4 - hb4
            have HO4 := Lib.hid hO4
            have HB4 := Lib.hid (((HB3.out.alloc HB3.out.size (.cells (cellsE ⟨dk, dn, dt⟩).toArray 28)).alloc (HB3.out.alloc HB3.out.size _).size (.cells (cellsE ⟨dk, dn, dt⟩).toArray 28)).trans hb4)
            clear hO4 hb4
            go_wp2
            have HLS := Lib.hid HPT.out.less
            have HLA := Lib.hid HPT.out.last
            go_roundg (if q2 = true then R3.length + 1 else 0)
            case measure =>
              have := HG.out
              have := HLS.out
              split
              · rename_i h; have := this h; omega
              · omega
            case rel =>
              refine ⟨R3, M ++ [⟨dk, dn, dt⟩], q2, rfl, fun hq => by rw [if_pos hq]; exact Nat.le_refl _, ?_, fun hq => ?_, HP3, H2, HO4, HB4⟩
              · rw [List.length_append, List.length_singleton]
                have h1 := HM2.out
                rcases q2 with _ | _
                · rw [HLA.out rfl]; simp; omega
                · have := HLS.out rfl; omega
              · rw [List.length_append, List.length_singleton]
                have h1 := HM2.out
                have := HLS.out hq; omega
end Go.Proofs.YtfeaolcgjkkadaaDoor
