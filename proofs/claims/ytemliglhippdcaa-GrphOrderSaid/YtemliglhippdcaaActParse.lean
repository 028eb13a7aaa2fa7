/- The document's own answer for actions: which one is of words. -/
import Derived.Test.YtemliglhippdcaaActOne
import Derived.Test.YtemliglhippdcaaActOk
namespace Go.Proofs.Ytemliglhippdcaa
set_option maxRecDepth 100000
open Go.ChangeShapes Go.WideShapes Go.ChangeAt Go.RowKit

/-- What is told of an action's words. -/
def ParseIs (w : World) (e : Ending) (w' : World) : Option (List Ac.D) → Prop
  | some L => (∃ u, e = .returned (.tuple #[u, .bool true]) ∧ OwnD w' w.heap.size u L) ∧ Below w.heap.size w w'
  | none => e = .returned (.tuple #[.slice none 0 0, .bool false]) ∧ Below w.heap.size w w'
theorem parse_none {w w' : World} {e : Ending} {T : Option (List Ac.D)} (h : T = none) (he : e = .returned (.tuple #[.slice none 0 0, .bool false])) (hb : Below w.heap.size w w') : ParseIs w e w' T := by
  rw [h]
  exact ⟨he, hb⟩
theorem parse_some {w w' : World} {e : Ending} {T : Option (List Ac.D)} {L : List Ac.D} (h : T = some L) (u : Value) (he : e = .returned (.tuple #[u, .bool true])) (ho : OwnD w' w.heap.size u L) (hb : Below w.heap.size w w') : ParseIs w e w' T := by
  rw [h]
  exact ⟨⟨u, he, ho⟩, hb⟩
/-- How far words are read. -/
def Pt (R : List Ln.W) (i fr : Nat) (out : List Ac.D) : Prop :=
  (i ≤ R.length ∧ fr ≤ i ∧ Ac.parts [] [] R = Ac.parts ((R.drop fr).take (i - fr)) out (R.drop i)) ∨ (i = R.length + 1 ∧ fr ≤ i ∧ Ac.parts [] [] R = some out)
theorem Pt.start (R : List Ln.W) : Pt R 0 0 [] := .inl ⟨Nat.zero_le _, Nat.le_refl _, rfl⟩
theorem take_more {R : List Ln.W} {i fr : Nat} (hi : i < R.length) (hf : fr ≤ i) : (R.drop fr).take (i + 1 - fr) = (R.drop fr).take (i - fr) ++ [R[i]'hi] := by
  rw [show i + 1 - fr = (i - fr) + 1 from by omega, List.take_succ_eq_append_getElem (by rw [List.length_drop]; omega), List.getElem_drop]
  congr 3
  omega
theorem Pt.on {R : List Ln.W} {i fr : Nat} {out : List Ac.D} (h : Pt R i fr out) (hi : i < R.length) (hs : Ac.sep (R[i]'hi) = false) : Pt R (i + 1) fr out := by
  rcases h with ⟨_, hf, h⟩ | ⟨h, _⟩
  · refine .inl ⟨hi, by omega, ?_⟩
    rw [h, List.drop_eq_getElem_cons hi, Ac.parts, hs, if_neg (by simp), take_more hi hf]
  · omega
theorem Pt.cut {R : List Ln.W} {i fr : Nat} {out : List Ac.D} {d : Ac.D} (h : Pt R i fr out) (hi : i < R.length) (hs : Ac.sep (R[i]'hi) = true) (hd : Ac.one ((R.drop fr).take (i - fr)) = some d) : Pt R (i + 1) (i + 1) (out ++ [d]) := by
  rcases h with ⟨_, hf, h⟩ | ⟨h, _⟩
  · refine .inl ⟨hi, Nat.le_refl _, ?_⟩
    rw [h, List.drop_eq_getElem_cons hi, Ac.parts, hs, if_pos rfl, hd, Nat.sub_self, List.take_zero]
  · omega
theorem Pt.last {R : List Ln.W} {i fr : Nat} {out : List Ac.D} {d : Ac.D} (h : Pt R i fr out) (hi : i = R.length) (hd : Ac.one ((R.drop fr).take (i - fr)) = some d) : Pt R (i + 1) (i + 1) (out ++ [d]) := by
  rcases h with ⟨_, hf, h⟩ | ⟨h, _⟩
  · refine .inr ⟨by omega, Nat.le_refl _, ?_⟩
    rw [h, hi, List.drop_of_length_le (Nat.le_refl _), Ac.parts, ← hi, hd]
  · omega
theorem Pt.none {R : List Ln.W} {i fr : Nat} {out : List Ac.D} (h : Pt R i fr out) (hi : (∃ hi : i < R.length, Ac.sep (R[i]'hi) = true) ∨ i = R.length) (hd : Ac.one ((R.drop fr).take (i - fr)) = .none) : Ac.parse R = .none := by
  rcases h with ⟨_, hf, h⟩ | ⟨h, _⟩
  · unfold Ac.parse
    rw [h]
    rcases hi with ⟨hi, hs⟩ | hi
    · rw [List.drop_eq_getElem_cons hi, Ac.parts, hs, if_pos rfl, hd]
    · rw [hi, List.drop_of_length_le (Nat.le_refl _), Ac.parts, ← hi, hd]
  · rcases hi with ⟨hi, _⟩ | hi <;> omega
theorem Pt.done {R : List Ln.W} {i fr : Nat} {out : List Ac.D} (h : Pt R i fr out) (hi : i = R.length + 1) : Ac.parse R = if Ac.ok out then some out else .none := by
  rcases h with ⟨h, _⟩ | ⟨_, _, h⟩
  · omega
  · unfold Ac.parse
    rw [h]
theorem one_text {R : List Ln.W} {d : Ac.D} (h : ∀ x ∈ R, (∀ c ∈ x.text, c < 256) ∧ x.text.length ≤ 1099511627776) (hd : Ac.one R = some d) : (∀ c ∈ d.text, c < 256) ∧ d.text.length ≤ 1099511627776 := by
  have hnil : (∀ c ∈ ([] : List Nat), c < 256) ∧ ([] : List Nat).length ≤ 1099511627776 := ⟨by simp, by simp⟩
  rcases R with _ | ⟨x, _ | ⟨y, _ | ⟨z, r⟩⟩⟩
  · cases hd
  · obtain ⟨xt, xl, xc, xq⟩ := x
    simp only [Ac.one] at hd
    repeat' split at hd
    all_goals first
      | (cases hd; done)
      | (injection hd with hd; subst hd; exact hnil)
  · obtain ⟨xt, xl, xc, xq⟩ := x
    simp only [Ac.one] at hd
    repeat' split at hd
    all_goals first
      | (cases hd; done)
      | (injection hd with hd; subst hd; exact hnil)
      | (injection hd with hd; subst hd; exact h y (by simp))
  · obtain ⟨xt, xl, xc, xq⟩ := x
    cases xq with
    | true => simp [Ac.one] at hd
    | false => rw [one_long] at hd; cases hd
theorem do_cells2 (w : World) (o : Obj) (z : Ac.D) : ∀ j y, (cellsD z)[j]? = some y → ((w.alloc o).alloc (.cells (cellsD z).toArray 145)).cell? ⟨w.heap.size + 1, j, none⟩ = some y := fun j y hy => by
  have hs : w.heap.size + 1 = (w.alloc o).heap.size := by simp
  have h : Blk ((w.alloc o).alloc (.cells (cellsD z).toArray 145)) (w.heap.size + 1) 145 (cellsD z).toArray := by
    rw [hs]
    exact heap_alloc_new _ _
  rw [h.at j, List.getElem?_toArray]
  exact hy
/-- Words out of the middle of a row. -/
theorem RdW.part {w : World} {b off n c : Nat} {R : List Ln.W} (h : RdW w (.slice (some ⟨b, off, none⟩) n c) R) {i fr : Nat} (hf : fr ≤ i) (hi : i ≤ n) {A' : Option Addr} (hA : fr < i → A' = some ⟨b, off + fr * 4, none⟩) : RdW w (.slice A' (i - fr) (c - fr)) ((R.drop fr).take (i - fr)) := by
  obtain ⟨A, c', e, h1, h2, hx⟩ := h
  injection e with e1 e2 e3
  subst e2 e3
  have hl : ((R.drop fr).take (i - fr)).length = i - fr := by rw [List.length_take, List.length_drop]; omega
  refine ⟨A', c - fr, by rw [hl], by rw [hl]; omega, by rw [hl]; omega, fun h0 => ?_⟩
  rw [hl] at h0
  obtain ⟨b', o', e4, hc⟩ := hx (by omega)
  rw [e4] at e1
  injection e1 with e1
  injection e1 with e5 e6
  subst e5 e6
  refine ⟨b, off + fr * 4, hA (by omega), fun k hk => ?_⟩
  rw [hl] at hk
  have hg : ((R.drop fr).take (i - fr))[k]'(by rw [hl]; exact hk) = R[fr + k]'(by omega) := by rw [List.getElem_take, List.getElem_drop]
  rw [hg, show off + fr * 4 + k * 4 = off + (fr + k) * 4 from by omega]
  exact hc (fr + k) (by omega)
set_option maxRecDepth 100000 in
set_option maxHeartbeats 16000000 in
theorem refparse_any (v : Value) (R : List Ln.W) (w : World) (hv : RdW w v R) (h0 : 0 < R.length) (hR : R.length ≤ 1000000) (ht : ∀ x ∈ R, (∀ c ∈ x.text, c < 256) ∧ x.text.length ≤ 1099511627776) (T : Option (List Ac.D)) (hT : T = Ac.parse R) :
    Calls Try.prog 75 #[v] w fun e w' => ParseIs w e w' T := by
  have HV := Lib.hid hv
  have HX := Lib.hid ht
  have HT := Lib.hid hT
  obtain ⟨A, c, rfl, hc⟩ := hv.parts2
  obtain ⟨b, off, rfl, -⟩ := hv.at2 0 h0
  obtain ⟨n, hn⟩ : ∃ n, R.length = n := ⟨_, rfl⟩
  rw [hn] at h0 hR hc HV ⊢
  have HN := Lib.hid hn
  have HR := Lib.hid hR
  have HCN := Lib.hid hc
  clear hv ht hT hn h0 hR hc
  go_enter Try.func75, Try.ntmps75
  go_wp2_with fail
  go_loopg [4, 5, 6] (n + 2) (fun g ov fv iv wr => ∃ (i fr : Nat) (out : List Ac.D), Hid (i ≤ n + 1 ∧ fr ≤ i ∧ out.length ≤ i ∧ n + 2 - i ≤ g) ∧ iv = .int .i64 (i : Int) ∧ fv = .int .i64 (fr : Int) ∧ Hid (Pt R i fr out) ∧ Hid (∀ d ∈ out, (∀ c ∈ d.text, c < 256) ∧ d.text.length ≤ 1099511627776) ∧ Hid (OwnD wr w.heap.size ov out) ∧ Hid (Below w.heap.size w wr))
  case atStart => exact ⟨0, 0, [], Lib.hid (by simp), by go_num, by go_num, Lib.hid (Pt.start R), Lib.hid (by simp), Lib.hid (ownD_none _ _), Lib.hid (Below.refl _ _)⟩
  case round =>
    obtain ⟨i, fr, out, HI, rfl, rfl, hP, hTX, hO, hbl⟩ := hrel
    obtain ⟨wz, rfl⟩ : ∃ wx : World, wx = wr := ⟨_, rfl⟩
    obtain ⟨Ao, co, hoe, hco⟩ := hO.out.parts
    subst hoe
    obtain ⟨on, hon⟩ : ∃ on, out.length = on := ⟨_, rfl⟩
    rw [hon] at HI hO ⊢
    have HON := Lib.hid hon
    clear hon hco
    by_cases hin : i ≤ n
    · have hinI : (i : Int) ≤ (n : Int) := by omega
      by_cases hlt : i < n
      · have hltI : (i : Int) < (n : Int) := by omega
        have hiR : i < R.length := by rw [HN.out]; exact hlt
        obtain ⟨b', o', e, a0, a1, a2, a3⟩ := (HV.out.under hbl.out).at2 i hiR
        cases e
        have HPS : Hid (Ac.sep (R[i]'hiR) = false → Pt R (i + 1) fr out) := Lib.hid (hP.out.on hiR)
        have HPC : Hid (Ac.sep (R[i]'hiR) = true → ∀ d, Ac.one ((R.drop fr).take (i - fr)) = some d → Pt R (i + 1) (i + 1) (out ++ [d])) := Lib.hid (fun h d hd => hP.out.cut hiR h hd)
        have HPN : Hid (Ac.sep (R[i]'hiR) = true → Ac.one ((R.drop fr).take (i - fr)) = none → Ac.parse R = none) := Lib.hid (fun h hd => hP.out.none (.inl ⟨hiR, h⟩) hd)
        have hxt := HX.out _ (List.getElem_mem hiR)
        obtain ⟨x, hx⟩ : ∃ x, R[i]'hiR = x := ⟨_, rfl⟩
        rw [hx] at a0 a1 a2 a3 HPS HPC HPN hxt
        clear hx hiR
        obtain ⟨xt, xl, xc, xq⟩ := x
        change wz.cell? ⟨b, off + i * 4, none⟩ = some (.string (str xt)) at a0
        change wz.cell? ⟨b, off + i * 4 + 1, none⟩ = some (.int .i64 (xl : Int)) at a1
        change wz.cell? ⟨b, off + i * 4 + 2, none⟩ = some (.int .i64 (xc : Int)) at a2
        change wz.cell? ⟨b, off + i * 4 + 3, none⟩ = some (.bool xq) at a3
        change (∀ c ∈ xt, c < 256) ∧ xt.length ≤ 1099511627776 at hxt
        have HXT := Lib.hid hxt
        have hIS := Lib.hid (fun W => refis_any ⟨xt, xl, xc, xq⟩ [59] W HXT.out.1 (by decide))
        rcases hsep : Ac.sep ⟨xt, xl, xc, xq⟩ with _ | _
        · as_aux_lemma =>
            have HSEP : Hid ((decide (xt = [59]) && !xq) = false) := Lib.hid hsep
            have HP2 := Lib.hid (HPS.out hsep)
            clear hsep hxt HPS HPC HPN
            go_wp2_with fail
            refine (hIS.out _).mono ?_
            rintro e w2 ⟨rfl, hb2⟩
            rw [show (decide ((⟨xt, xl, xc, xq⟩ : Ln.W).text = [59]) && !(⟨xt, xl, xc, xq⟩ : Ln.W).q) = false from HSEP.out]
            have HB2 := Lib.hid (hbl.out.trans (hb2.mono hbl.out.size))
            have HO2 := Lib.hid (hO.out.under hb2)
            clear hb2 a0 a1 a2 a3
            have hsm : i ≤ 1000000 := by have := HR.out; omega
            go_wp2
            go_roundg (n + 2 - (i + 1))
            case measure => have := HI.out; omega
            case rel => exact ⟨i + 1, fr, out, Lib.hid (by have := HI.out; rw [HON.out]; omega), by go_num, rfl, HP2, hTX, HO2, HB2⟩
        · as_aux_lemma =>
            have HSEP : Hid ((decide (xt = [59]) && !xq) = true) := Lib.hid hsep
            have HPC2 := Lib.hid (HPC.out hsep)
            have HPN2 := Lib.hid (HPN.out hsep)
            clear hsep hxt HPS HPC HPN
            go_upto_region 7 with (go_at_call 52; refine (hIS.out _).mono ?_; rintro e w2 ⟨rfl, hb2⟩; rw [show (decide ((⟨xt, xl, xc, xq⟩ : Ln.W).text = [59]) && !(⟨xt, xl, xc, xq⟩ : Ln.W).q) = true from HSEP.out])
            have HB2 := Lib.hid (hbl.out.trans (hb2.mono hbl.out.size))
            have HO2 := Lib.hid (hO.out.under hb2)
            clear hb2 a0 a1 a2 a3 hinI hltI hIS HXT HSEP hO hbl hP
            have HIN := Lib.hid hin
            clear hin hlt
            have hfrI : (fr : Int) ≤ (i : Int) := by have := HI.out; omega
            have hfr0 : (0 : Int) ≤ (fr : Int) := by omega
            have hic : (i : Int) ≤ (c : Int) := by have := HCN.out; have := HIN.out; omega
            obtain ⟨ad, had⟩ : ∃ ad : Addr, (if c = fr then some (⟨b, off, none⟩ : Addr) else some ⟨b, off + fr * 4, none⟩) = some ad := by split <;> exact ⟨_, rfl⟩
            have HVP : Hid (RdW w2 (.slice (some ad) (i - fr) (c - fr)) ((R.drop fr).take (i - fr))) := Lib.hid ((HV.out.under HB2.out).part HI.out.2.1 HIN.out (fun h => by rw [← had, if_neg (by have := HCN.out; have := HIN.out; omega)]))
            have HXP : Hid (∀ x ∈ (R.drop fr).take (i - fr), (∀ c ∈ x.text, c < 256) ∧ x.text.length ≤ 1099511627776) := Lib.hid (fun x hx => HX.out x (List.mem_of_mem_drop (List.mem_of_mem_take hx)))
            obtain ⟨K, hK⟩ : ∃ K, K = Ac.one ((R.drop fr).take (i - fr)) := ⟨_, rfl⟩
            have HK := Lib.hid hK
            have HON1 := Lib.hid (refone_any (.slice (some ad) (i - fr) (c - fr)) _ w2 HVP.out HXP.out K hK)
            clear hK
            go_wp2_with fail
            refine HON1.out.mono ?_
            intro e w3 hone
            clear hfrI hfr0 hic had HON1 HVP
            obtain ⟨sv, hsv⟩ : ∃ sv, Value.slice (some ad) (i - fr) (c - fr) = sv := ⟨_, rfl⟩
            rw [hsv]
            clear hsv
            rcases K with _ | d
            · as_aux_lemma =>
                obtain ⟨⟨y, rfl⟩, hb3⟩ := hone
                obtain ⟨y1, y2, y3⟩ := y
                have HT2 : Hid (T = none) := Lib.hid (by rw [HT.out]; exact HPN2.out HK.out.symm)
                have HB3 := Lib.hid (HB2.out.trans (hb3.mono HB2.out.size))
                have HBA : Hid (∀ o, Below w.heap.size w (w3.alloc o)) := Lib.hid (fun o => HB3.out.alloc HB3.out.size o)
                rw [show (cellsD (⟨y1, y2, y3⟩ : Ac.D)).toArray = #[.int .i64 (y1 : Int), .int .i64 (y2 : Int), .string (str y3)] from rfl]
                clear hb3
                go_wp2
                go_ret2
                exact parse_none HT2.out rfl (HBA.out _)
            · as_aux_lemma =>
                obtain ⟨rfl, hb3⟩ := hone
                have HDT : Hid ((∀ c ∈ d.text, c < 256) ∧ d.text.length ≤ 1099511627776) := Lib.hid (one_text HXP.out HK.out.symm)
                have HP3 := Lib.hid (HPC2.out d HK.out.symm)
                have HB3 := Lib.hid (HB2.out.trans (hb3.mono HB2.out.size))
                have HO3 := Lib.hid (HO2.out.under hb3)
                have HTX3 : Hid (∀ x ∈ out ++ [d], (∀ c ∈ x.text, c < 256) ∧ x.text.length ≤ 1099511627776) := Lib.hid (fun x hx => by
                  rcases List.mem_append.1 hx with hx | hx
                  · exact hTX.out x hx
                  · rw [List.mem_singleton.1 hx]; exact HDT.out)
                obtain ⟨dk, dn, dt⟩ := d
                rw [show (cellsD (⟨dk, dn, dt⟩ : Ac.D)).toArray = #[.int .i64 (dk : Int), .int .i64 (dn : Int), .string (str dt)] from rfl]
                clear hb3
                go_wp2_with (at_builtin; refine wpList_append_do rfl _ _ rfl w.heap.size (w3.heap.size + 1) (.slice Ao on co) out ⟨dk, dn, dt⟩ rfl ((HO3.out.alloc _).alloc _) rfl (do_cells2 w3 _ ⟨dk, dn, dt⟩) (by rw [HON.out]; have := HI.out; have := HR.out; omega) (Nat.le_trans HB3.out.size (by simp; omega)) _ rfl ?_)
                rintro u' w4 hO4 - hb4
                have HO4 := Lib.hid hO4
                have HB4 := Lib.hid (((HB3.out.alloc HB3.out.size (.cells (cellsD ⟨dk, dn, dt⟩).toArray 145)).alloc (HB3.out.alloc HB3.out.size _).size (.cells (cellsD ⟨dk, dn, dt⟩).toArray 145)).trans hb4)
                clear hO4 hb4
                have hsm : i ≤ 1000000 := by have := HIN.out; have := HR.out; omega
                go_wp2
                go_roundg (n + 2 - (i + 1))
                case measure => have := HI.out; omega
                case rel => exact ⟨i + 1, i + 1, out ++ [⟨dk, dn, dt⟩], Lib.hid (by rw [List.length_append, HON.out, List.length_singleton]; have := HI.out; have := HIN.out; omega), by go_num, by go_num, HP3, HTX3, HO4, HB4⟩
      · as_aux_lemma =>
          obtain rfl : i = n := by omega
          have HPC2 : Hid (∀ d, Ac.one ((R.drop fr).take (i - fr)) = some d → Pt R (i + 1) (i + 1) (out ++ [d])) := Lib.hid (fun d hd => hP.out.last HN.out.symm hd)
          have HPN2 : Hid (Ac.one ((R.drop fr).take (i - fr)) = none → Ac.parse R = none) := Lib.hid (fun hd => hP.out.none (.inr HN.out.symm) hd)
          obtain ⟨w2, hw2⟩ : ∃ w2, w2 = wz := ⟨_, rfl⟩
          have HB2 : Hid (Below w.heap.size w w2) := Lib.hid (by rw [hw2]; exact hbl.out)
          have HO2 : Hid (OwnD w2 w.heap.size (.slice Ao on co) out) := Lib.hid (by rw [hw2]; exact hO.out)
          rw [← hw2]
          clear hw2 hO hbl hP
          go_upto_region 7 with fail
          have HIN := Lib.hid hin
          clear hinI hin hlt
          have hfrI : (fr : Int) ≤ (i : Int) := by have := HI.out; omega
          have hfr0 : (0 : Int) ≤ (fr : Int) := by omega
          have hic : (i : Int) ≤ (c : Int) := by have := HCN.out; have := HIN.out; omega
          obtain ⟨ad, had⟩ : ∃ ad : Addr, (if c = fr then some (⟨b, off, none⟩ : Addr) else some ⟨b, off + fr * 4, none⟩) = some ad := by split <;> exact ⟨_, rfl⟩
          have HVP : Hid (RdW w2 (.slice (some ad) (i - fr) (c - fr)) ((R.drop fr).take (i - fr))) := Lib.hid ((HV.out.under HB2.out).part HI.out.2.1 HIN.out (fun h => by rw [← had, if_neg (by have := HCN.out; have := HIN.out; omega)]))
          have HXP : Hid (∀ x ∈ (R.drop fr).take (i - fr), (∀ c ∈ x.text, c < 256) ∧ x.text.length ≤ 1099511627776) := Lib.hid (fun x hx => HX.out x (List.mem_of_mem_drop (List.mem_of_mem_take hx)))
          obtain ⟨K, hK⟩ : ∃ K, K = Ac.one ((R.drop fr).take (i - fr)) := ⟨_, rfl⟩
          have HK := Lib.hid hK
          have HON1 := Lib.hid (refone_any (.slice (some ad) (i - fr) (c - fr)) _ w2 HVP.out HXP.out K hK)
          clear hK
          go_wp2_with fail
          refine HON1.out.mono ?_
          intro e w3 hone
          clear hfrI hfr0 hic had HON1 HVP
          obtain ⟨sv, hsv⟩ : ∃ sv, Value.slice (some ad) (i - fr) (c - fr) = sv := ⟨_, rfl⟩
          rw [hsv]
          clear hsv
          rcases K with _ | d
          · as_aux_lemma =>
              obtain ⟨⟨y, rfl⟩, hb3⟩ := hone
              obtain ⟨y1, y2, y3⟩ := y
              have HT2 : Hid (T = none) := Lib.hid (by rw [HT.out]; exact HPN2.out HK.out.symm)
              have HB3 := Lib.hid (HB2.out.trans (hb3.mono HB2.out.size))
              have HBA : Hid (∀ o, Below w.heap.size w (w3.alloc o)) := Lib.hid (fun o => HB3.out.alloc HB3.out.size o)
              rw [show (cellsD (⟨y1, y2, y3⟩ : Ac.D)).toArray = #[.int .i64 (y1 : Int), .int .i64 (y2 : Int), .string (str y3)] from rfl]
              clear hb3
              go_wp2
              go_ret2
              exact parse_none HT2.out rfl (HBA.out _)
          · as_aux_lemma =>
              obtain ⟨rfl, hb3⟩ := hone
              have HDT : Hid ((∀ c ∈ d.text, c < 256) ∧ d.text.length ≤ 1099511627776) := Lib.hid (one_text HXP.out HK.out.symm)
              have HP3 := Lib.hid (HPC2.out d HK.out.symm)
              have HB3 := Lib.hid (HB2.out.trans (hb3.mono HB2.out.size))
              have HO3 := Lib.hid (HO2.out.under hb3)
              have HTX3 : Hid (∀ x ∈ out ++ [d], (∀ c ∈ x.text, c < 256) ∧ x.text.length ≤ 1099511627776) := Lib.hid (fun x hx => by
                rcases List.mem_append.1 hx with hx | hx
                · exact hTX.out x hx
                · rw [List.mem_singleton.1 hx]; exact HDT.out)
              obtain ⟨dk, dn, dt⟩ := d
              rw [show (cellsD (⟨dk, dn, dt⟩ : Ac.D)).toArray = #[.int .i64 (dk : Int), .int .i64 (dn : Int), .string (str dt)] from rfl]
              clear hb3
              go_wp2_with (at_builtin; refine wpList_append_do rfl _ _ rfl w.heap.size (w3.heap.size + 1) (.slice Ao on co) out ⟨dk, dn, dt⟩ rfl ((HO3.out.alloc _).alloc _) rfl (do_cells2 w3 _ ⟨dk, dn, dt⟩) (by rw [HON.out]; have := HI.out; have := HR.out; omega) (Nat.le_trans HB3.out.size (by simp; omega)) _ rfl ?_)
              rintro u' w4 hO4 - hb4
              have HO4 := Lib.hid hO4
              have HB4 := Lib.hid (((HB3.out.alloc HB3.out.size (.cells (cellsD ⟨dk, dn, dt⟩).toArray 145)).alloc (HB3.out.alloc HB3.out.size _).size (.cells (cellsD ⟨dk, dn, dt⟩).toArray 145)).trans hb4)
              clear hO4 hb4
              have hsm : i ≤ 1000000 := by have := HIN.out; have := HR.out; omega
              go_wp2
              go_roundg (i + 2 - (i + 1))
              case measure => have := HI.out; omega
              case rel => exact ⟨i + 1, i + 1, out ++ [⟨dk, dn, dt⟩], Lib.hid (by rw [List.length_append, HON.out, List.length_singleton]; have := HI.out; have := HIN.out; omega), by go_num, by go_num, HP3, HTX3, HO4, HB4⟩
    · as_aux_lemma =>
        obtain rfl : i = n + 1 := by have := HI.out; omega
        have hdone := hP.out.done (by rw [HN.out])
        have HT2 : Hid (T = if Ac.ok out then some out else none) := Lib.hid (by rw [HT.out, hdone])
        have HOK := Lib.hid (fun W (hb : Below wz.heap.size wz W) => refokact_any (.slice Ao on co) out W ((hO.out.under hb).rd) hTX.out)
        clear hdone
        go_wp2_with fail
        refine (HOK.out _ (Below.refl _ _)).mono ?_
        rintro e w2 ⟨rfl, hb2⟩
        have HB2 := Lib.hid (hbl.out.trans (hb2.mono hbl.out.size))
        have HO2 := Lib.hid (hO.out.under hb2)
        rcases hok : Ac.ok out with _ | _
        · have HT3 : Hid (T = none) := Lib.hid (by rw [HT2.out, hok]; rfl)
          clear hok hb2
          go_wp2
          go_ret2
          exact parse_none HT3.out rfl HB2.out
        · have HT3 : Hid (T = some out) := Lib.hid (by rw [HT2.out, hok]; rfl)
          clear hok hb2
          go_wp2
          go_ret2
          exact parse_some HT3.out (.slice Ao on co) rfl HO2.out HB2.out
end Go.Proofs.Ytemliglhippdcaa
