/- Print: the words of a rule. -/
import Derived.Test.YtgjehlegcmeeoaaGreatDoorZ20
import Derived.Test.YtgjehlegcmeeoaaGreatDoorZ15
import Derived.Test.YtgjehlegcmeeoaaGreatDoorZ22
import Derived.BigRegion
import Derived.Deep.CutBlock
import Derived.Deep.DeepCutAuto
import Derived.Deep.RegionWith
import Derived.Deep.RegionHeld3
namespace Go.Proofs.YtgjehlegcmeeoaaGreatDoor
set_option maxRecDepth 100000
open Go.ChangeShapes Go.WideShapes Go.ChangeAt Go.RowKit Go.Shelf

/-- A rule as it may be printed. -/
structure PrR (r : Mn.Rule) : Prop where
  outs : r.outs.length ≤ 1000
  ins : r.ins.length ≤ 1000
  order : r.order.length ≤ 1000
  acts : r.acts.length ≤ 1000
  each : ∀ a ∈ r.acts, a.length ≤ 100 ∧ ∀ d ∈ a, GoodD d
theorem actsW_len : ∀ l : List (List Ac.D), (∀ a ∈ l, a.length ≤ 100) → (Pn.actsW l).length ≤ 301 * l.length
  | [], _ => Nat.zero_le _
  | [a], h => by
    have h1 := actW_len a
    have h2 := h a (by simp)
    show (Pn.actW a).length ≤ 301 * 1
    omega
  | a :: b :: r, h => by
    have h1 := actW_len a
    have h2 := h a (by simp)
    have h3 := actsW_len (b :: r) (fun x hx => h x (by simp [hx]))
    rw [Pn.actsW]
    simp only [List.length_append, List.length_cons] at h3 ⊢
    omega
/-- Rows of texts, newly made. -/
theorem rows2T_lit (W : World) (C : Array Value) (LL : List (List (List Nat))) (hC : C.size = LL.length) (h : ∀ k, k < LL.length → SlT W (C.getD k undef) (LL.getD k [])) :
    Rows2T (W.alloc (.cells C 27)) (.slice (some ⟨W.heap.size, 0, none⟩) LL.length LL.length) LL := by
  refine ⟨_, _, rfl, Nat.le_refl _, fun _ => ⟨W.heap.size, 0, rfl, fun k hk => ⟨C.getD k undef, ?_, (h k hk).later ((Below.refl _ _).alloc (Nat.le_refl _) _)⟩⟩⟩
  rw [(show Blk (W.alloc (.cells C 27)) W.heap.size 27 C from heap_alloc_new W _).at (0 + k), show 0 + k = k from by omega]
  rw [Array.getD_eq_getD_getElem?, Array.getElem?_eq_getElem (by omega)]
  rfl
theorem SlA.at {w : World} {A : Option Addr} {n c : Nat} {l : List (List Ac.D)} (h : SlA w (.slice A n c) l) (k : Nat) (hk : k < l.length) : ∃ b off u, A = some ⟨b, off, none⟩ ∧ w.cell? ⟨b, off + k, none⟩ = some u ∧ SlD w u (l.getD k []) := by
  obtain ⟨A', c', e, _, _, hx⟩ := h
  injection e with e1 e2 e3
  subst e1
  obtain ⟨b, off, rfl, _, hc⟩ := hx (by omega)
  obtain ⟨u, h1, h2⟩ := hc k hk
  rw [Nat.mul_one] at h1
  exact ⟨b, off, u, rfl, h1, h2⟩
theorem OwnT.heap {w W : World} {base : Nat} {v : Value} {L : List (List Nat)} (h : OwnT w base v L) (e : W.heap = w.heap) : OwnT W base v L := by
  refine ⟨h.1, ?_⟩
  rcases h.2 with h2 | ⟨g, cap, cur, e1, hg, h3, rest⟩
  · exact .inl h2
  · exact .inr ⟨g, cap, cur, e1, hg, by rw [e]; exact h3, rest⟩
theorem SlT.heap {w W : World} {v : Value} {L : List (List Nat)} (h : SlT w v L) (e : W.heap = w.heap) : SlT W v L := h.keep (Q := fun _ => True) (fun b t _ _ => by rw [e]) trivial
theorem below_on {B : Nat} {a b b' c : World} (h : Below B a b) (k : Below B b' c) (e : Below B b b') : Below B a c := (h.trans e).trans k
theorem one_row (W : World) (l : List Nat) (b : ByteArray) (hb : b = str l) : SlT (W.alloc (.cells #[.string b] 9)) (.slice (some ⟨W.heap.size, 0, none⟩) 1 1) [l] := by
  subst hb
  exact (ownT_one W 0 l (Nat.zero_le _)).sl
theorem first_rows (w : World) (R : Obj) (hw : ByteArray) (hl : List Nat) (hhl : hw = str hl) (ov iv : Value) (O I : List (List Nat)) (ho : SlT w ov O) (hi : SlT w iv I) :
    Rows2T ((((w.alloc R).alloc (.cells #[.string hw] 9)).alloc (.cells #[.string ⟨#[58]⟩] 9)).alloc (.cells #[.slice (some ⟨w.heap.size + 1, 0, none⟩) 1 1, ov, .slice (some ⟨w.heap.size + 1 + 1, 0, none⟩) 1 1, iv] 27)) (.slice (some ⟨w.heap.size + 1 + 1 + 1, 0, none⟩) 4 4) [[hl], O, [[58]], I] := by
  have hb1 : ∀ o, Below w.heap.size w (w.alloc o) := fun o => (Below.refl _ _).alloc (Nat.le_refl _) o
  have hb3 : ∀ o p q, Below w.heap.size w (((w.alloc o).alloc p).alloc q) := fun o p q => ((hb1 o).alloc (by simp) p).alloc (by simp; omega) q
  have e1 := (one_later w R hl hw hhl).later (w' := ((w.alloc R).alloc (.cells #[.string hw] 9)).alloc (.cells #[.string ⟨#[58]⟩] 9)) ((Below.refl _ _).alloc (Nat.le_refl _) _)
  have e2 := one_later (w.alloc R) (.cells #[.string hw] 9) [58] ⟨#[58]⟩ rfl
  rw [World.size_alloc] at e2
  have := rows2T_lit (((w.alloc R).alloc (.cells #[.string hw] 9)).alloc (.cells #[.string ⟨#[58]⟩] 9)) #[.slice (some ⟨w.heap.size + 1, 0, none⟩) 1 1, ov, .slice (some ⟨w.heap.size + 1 + 1, 0, none⟩) 1 1, iv] [[hl], O, [[58]], I] rfl (by
    intro k hk
    match k, hk with
    | 0, _ => exact e1
    | 1, _ => exact ho.later (hb3 _ _ _)
    | 2, _ => exact e2
    | 3, _ => exact hi.later (hb3 _ _ _))
  rw [World.size_alloc, World.size_alloc, World.size_alloc] at this
  exact this
set_option maxHeartbeats 8000000 in
theorem ruleWords_any (q : Value × Value × Value × Value) (r : Mn.Rule) (w : World) (h : RdR w q r) (hp : PrR r) (hT : ∀ W, Below w.heap.size w W → Tabs W) :
    Calls Tryz.prog 35 #[.agg (cellsR q r).toArray] w (MadeT w.heap.size (Pn.ruleW r) w) := by
  have HT := Lib.hid hT
  have HP := Lib.hid hp
  obtain ⟨o1, i1, d1, a1⟩ := q
  obtain ⟨O, I, D, AL, ph⟩ := r
  rw [show (cellsR (o1, i1, d1, a1) ⟨O, I, D, AL, ph⟩).toArray = #[o1, i1, d1, a1, .bool ph] from rfl]
  obtain ⟨oa, on, oc, rfl⟩ := h.outs.shape
  obtain ⟨ia, inn, ic, rfl⟩ := h.ins.shape
  have hd := h.order
  have ha := h.acts
  obtain ⟨da, dc, rfl, -⟩ := hd
  obtain ⟨aa, ac, rfl, -⟩ := ha
  obtain ⟨dn, hdn⟩ : ∃ n, D.length = n := ⟨_, rfl⟩
  obtain ⟨an, han⟩ : ∃ n, AL.length = n := ⟨_, rfl⟩
  have H := Lib.hid h
  dsimp only at H ⊢
  rw [hdn, han] at H
  rw [hdn, han]
  have HDN := Lib.hid hdn
  have HAN := Lib.hid han
  have HR1 := Lib.hid (fun R hw hl hhl => first_rows w R hw hl hhl (.slice oa on oc) (.slice ia inn ic) O I h.outs h.ins)
  have HZ : Hid (∀ o1 o2 o3 o4, Below w.heap.size w ((((w.alloc o1).alloc o2).alloc o3).alloc o4)) := Lib.hid (fun o1 o2 o3 o4 => ((((Below.refl _ _).alloc (Nat.le_refl _) o1).alloc (by simp) o2).alloc (by simp; omega) o3).alloc (by simp; omega) o4)
  have HBX : Hid (∀ C o2 o3 o4, Blk ((((w.alloc (.cells C 41)).alloc o2).alloc o3).alloc o4) w.heap.size 41 C) := Lib.hid (fun C o2 o3 o4 => (((show Blk (w.alloc (.cells C 41)) w.heap.size 41 C from heap_alloc_new w _).alloc o2).alloc o3).alloc o4)
  clear h hp hT hdn han
  go_enter Tryz.func35, Tryz.ntmps35
  rcases ph with _ | _
  · go_wp2_with fail
    refine (concatT_any _ _ _ (HR1.out _ _ [114, 117, 108, 101] rfl) (by have h1 := HP.out.outs; have h2 := HP.out.ins; dsimp only at h1 h2; simp; omega) (by simp)).mono ?_
    rintro e w5 ⟨v4, rfl, ho5, hb5⟩
    obtain ⟨F, hF⟩ : ∃ F, Pn.firstW ⟨O, I, D, AL, false⟩ = F := ⟨_, rfl⟩
    have HFL : Hid (F.length ≤ 2002) := Lib.hid (by
      rw [← hF]
      have h1 := HP.out.outs
      have h2 := HP.out.ins
      dsimp only at h1 h2
      simp [Pn.firstW]
      omega)
    have HO5 : Hid (OwnT w5 (w.heap.size + 1) v4 F) := Lib.hid (by
      have := OwnT.more (base' := w.heap.size + 1) ho5 (by simp)
      rw [← hF]
      simpa [Pn.firstW, Pn.headW] using this)
    have HB5 : Hid (Below w.heap.size w w5) := Lib.hid ((HZ.out _ _ _ _).trans (hb5.mono (HZ.out _ _ _ _).size))
    have HK5 := Lib.hid ((HBX.out _ _ _ _).under hb5)
    have HS5 : Hid (w.heap.size + 1 ≤ w5.heap.size) := Lib.hid (by have := hb5.size; simp at this; omega)
    have HNE : Hid (some w.heap.size ≠ v4.ownBlock) := Lib.hid (fun e => by have := (HO5.out.lt _ e.symm).1; omega)
    have HBA : Hid (∀ o, Below w.heap.size w (w5.alloc o)) := Lib.hid (fun o => HB5.out.alloc HB5.out.size o)
    have k2 : w5.cell? ⟨w.heap.size, 2, none⟩ = some (.slice da dn dc) := HK5.out.at 2
    have k4 : w5.cell? ⟨w.heap.size, 4, none⟩ = some (.bool false) := HK5.out.at 4
    have HRW : Hid (Pn.ruleW ⟨O, I, D, AL, false⟩ = F ++ Pn.orderW ⟨O, I, D, AL, false⟩ ++ [[61]] ++ Pn.actsW AL) := Lib.hid (by rw [← hF]; rfl)
    have HOL : Hid ((Pn.orderW ⟨O, I, D, AL, false⟩).length ≤ 1001) := Lib.hid (by
      have := HP.out.order
      unfold Pn.orderW
      split
      · simp
      · rw [List.length_cons]
        dsimp only at this ⊢
        omega)
    clear ho5 hb5 HR1 HBX hF
    go_upto_if 24 with fail
    go_cut [4] (fun s4 wx => Hid (OwnT wx (w.heap.size + 1) s4 (F ++ Pn.orderW ⟨O, I, D, AL, false⟩)) ∧ Hid (Below w.heap.size w wx) ∧ Hid (Blk wx w.heap.size 41 #[.slice oa on oc, .slice ia inn ic, .slice da dn dc, .slice aa an ac, .bool false]))
    case first =>
      by_cases hd0 : D = []
      · have hdI : (decide (0 < dn)) = false := by
          have := HDN.out
          rw [hd0] at this
          simp at this
          simp
          omega
        have hdI2 : ¬ (0 < dn) := by simpa using hdI
        have HX : Hid (OwnT w5 (w.heap.size + 1) v4 (F ++ Pn.orderW ⟨O, I, D, AL, false⟩)) := Lib.hid (by unfold Pn.orderW; rw [if_pos hd0, List.append_nil]; exact HO5.out)
        clear hd0
        go_wp2_with fail
        go_meet
        exact ⟨HX, HB5, HK5⟩
      · have hdI : (decide (0 < dn)) = true := by
          have := HDN.out
          rcases D with _ | ⟨x, y⟩
          · exact absurd rfl hd0
          · simp at this; simp; omega
        have hdI2 : 0 < dn := by simpa using hdI
        have HX : Hid (Pn.orderW ⟨O, I, D, AL, false⟩ = [124] :: D) := Lib.hid (by unfold Pn.orderW; rw [if_neg hd0])
        have HDL : Hid (D.length ≤ 1000) := Lib.hid HP.out.order
        have HSD : Hid (SlT w (.slice da dn dc) D) := Lib.hid H.out.order
        have k2o : ∀ o, (w5.alloc o).cell? ⟨w.heap.size, 2, none⟩ = some (.slice da dn dc) := fun o => (HK5.out.alloc o).at 2
        clear hd0
        go_upto_region 8 with fail
        go_region_law (first
          | (refine step_append_texts rfl (.tmp 25) (.tmp 26) rfl (w.heap.size + 1) _ _ F [[124]] rfl (OwnT.heap (HO5.out.alloc (.cells #[.string ⟨#[124]⟩] 9)) rfl) rfl (SlT.heap (one_row w5 [124] ⟨#[124]⟩ rfl) rfl) (by have := HFL.out; simp; omega) (by have := HS5.out; simp; omega) (F ++ [[124]]) rfl ?_; rintro v' wf ⟨ho1, hg1, hb1⟩; have hbf : Below w.heap.size w wf := below_on (HBA.out (.cells #[.string ⟨#[124]⟩] 9)) (hb1.mono (Nat.le_succ _)) ⟨rfl, rfl, rfl, Nat.le_refl _, fun _ _ => rfl⟩; have hkf : Blk wf w.heap.size 41 #[.slice oa on oc, .slice ia inn ic, .slice da dn dc, .slice aa an ac, .bool false] := Eq.trans (hg1.block w.heap.size (by have := HS5.out; simp; omega) HNE.out) (HK5.out.alloc (.cells #[.string ⟨#[124]⟩] 9)); have kk : wf.cell? ⟨w.heap.size, 2, none⟩ = some (.slice da dn dc) := hkf.at 2; have HO1 := Lib.hid ho1; have HBF := Lib.hid hbf; have HKF := Lib.hid hkf; have HSF : Hid (w.heap.size + 1 ≤ wf.heap.size) := Lib.hid hkf.size; clear ho1 hg1 hb1 hbf hkf)
          | (refine step_append_texts rfl (.tmp 27) (.tmp 29) rfl (w.heap.size + 1) _ _ (F ++ [[124]]) D rfl (OwnT.heap HO1.out rfl) rfl (SlT.heap (HSD.out.later HBF.out) rfl) (by have := HFL.out; have := HDL.out; simp; omega) HSF.out (F ++ [[124]] ++ D) rfl ?_; rintro v'' wg ⟨ho2, hg2, hb2⟩; have HO2 := Lib.hid ho2; have HB2 : Hid (Below w.heap.size w wg) := Lib.hid (below_on HBF.out (hb2.mono (Nat.le_succ _)) ⟨rfl, rfl, rfl, Nat.le_refl _, fun _ _ => rfl⟩); have HK2 : Hid (Blk wg w.heap.size 41 #[.slice oa on oc, .slice ia inn ic, .slice da dn dc, .slice aa an ac, .bool false]) := Lib.hid (Eq.trans (hg2.block w.heap.size HSF.out (fun e => by have := (HO1.out.lt _ e.symm).1; omega)) HKF.out); clear ho2 hg2 hb2))
        all_goals (go_wp2_with fail; go_meet; exact ⟨Lib.hid (by rw [HX.out]; have := HO2.out; rwa [List.append_assoc] at this), HB2, HK2⟩)
    case rest =>
      obtain ⟨HO6, HB6, HK6⟩ := hcut
      obtain ⟨w6, rfl⟩ : ∃ wy : World, wy = wc := ⟨_, rfl⟩
      obtain ⟨s4, rfl⟩ : ∃ l : Value, l = u4 := ⟨_, rfl⟩
      have HSZ6 : Hid (w.heap.size + 1 ≤ w6.heap.size) := Lib.hid HK6.out.size
      have HOW7 : Hid (∀ o, OwnT (w6.alloc o) (w.heap.size + 1) s4 (F ++ Pn.orderW ⟨O, I, D, AL, false⟩)) := Lib.hid (fun o => HO6.out.alloc o)
      go_wp2_with (at_builtin; refine wpList_append_texts rfl _ _ rfl (w.heap.size + 1) _ _ (F ++ Pn.orderW ⟨O, I, D, AL, false⟩) [[61]] rfl (HOW7.out _) rfl (one_row w6 [61] _ rfl) ?_ (by have := HSZ6.out; simp; omega) (F ++ Pn.orderW ⟨O, I, D, AL, false⟩ ++ [[61]]) rfl ?_)
      case refine_1 => have := HFL.out; have := HOL.out; simp; omega
      case refine_2 =>
        intro v7 w7 hg7
        obtain ⟨ho7, hgr7, hb7⟩ := hg7
        have HB7 : Hid (Below w.heap.size w w7) := Lib.hid ((HB6.out.alloc HB6.out.size _).trans (hb7.mono (Nat.le_succ _)))
        have hk7 : Blk w7 w.heap.size 41 #[.slice oa on oc, .slice ia inn ic, .slice da dn dc, .slice aa an ac, .bool false] := (HK6.out.alloc _).grown hgr7 (fun e => by have := (HO6.out.lt _ e.symm).1; omega)
        have k3 : w7.cell? ⟨w.heap.size, 3, none⟩ = some (.slice aa an ac) := hk7.at 3
        have HO7 : Hid (OwnT w7 (w.heap.size + 1) v7 (F ++ Pn.orderW ⟨O, I, D, AL, false⟩ ++ [[61]])) := Lib.hid (by first | exact ho7 | (rw [List.append_assoc]; exact ho7))
        have HS7 : Hid (w.heap.size + 1 ≤ w7.heap.size) := Lib.hid hk7.size
        obtain ⟨G, hG⟩ : ∃ G, F ++ Pn.orderW ⟨O, I, D, AL, false⟩ ++ [[61]] = G := ⟨_, rfl⟩
        have HGL : Hid (G.length ≤ 3004) := Lib.hid (by rw [← hG]; have := HFL.out; have := HOL.out; simp; omega)
        rw [hG] at HO7 HRW
        have hanL : an ≤ 1000 := by have h1 := HP.out.acts; dsimp only at h1; rw [HAN.out] at h1; exact h1
        clear ho7 hgr7 hb7 hG hk7 HOW7
        go_wp2_with fail
        go_loopw [4, 37] (fun v' i wr => ∃ k : Nat, k ≤ an ∧ i = .int .i64 (k : Int) ∧ OwnT wr (w.heap.size + 1) v' (G ++ Pn.actsW (AL.take k)) ∧ Below w.heap.size w wr ∧ w.heap.size + 1 ≤ wr.heap.size) (fun _ i _ => an - (intOf i).toNat)
        case atStart => exact ⟨0, Nat.zero_le _, rfl, by have := HO7.out; simpa [Pn.actsW] using this, HB7.out, HS7.out⟩
        case round =>
          obtain ⟨k, hk, rfl, hv, hbz, hsz⟩ := hrel
          obtain ⟨wz, rfl⟩ : ∃ wx : World, wx = wr := ⟨_, rfl⟩
          obtain ⟨lv, rfl⟩ : ∃ l : Value, l = u4 := ⟨_, rfl⟩
          have HV := Lib.hid hv
          have HBZ := Lib.hid hbz
          clear hv hbz k3
          by_cases hlt : k < an
          · have hkI : (k : Int) < (an : Int) := by omega
            have hkL : k < AL.length := by rw [HAN.out]; exact hlt
            obtain ⟨a, ha⟩ : ∃ a, AL.getD k [] = a := ⟨_, rfl⟩
            have HGA : Hid (a.length ≤ 100 ∧ ∀ d ∈ a, GoodD d) := Lib.hid (HP.out.each a (by rw [← ha, List.getD_eq_getElem?_getD, List.getElem?_eq_getElem hkL]; exact List.getElem_mem hkL))
            have HX : Hid (G ++ Pn.actsW (AL.take k) ++ (if k = 0 then [] else [[44]]) ++ Pn.actW a = G ++ Pn.actsW (AL.take (k + 1))) := Lib.hid (by rw [Pn.actsW_take AL k hkL, ha]; simp)
            have HLEN : Hid ((G ++ Pn.actsW (AL.take k)).length ≤ 305000) := Lib.hid (by
              have h1 := actsW_len (AL.take k) (fun x hx => (HP.out.each x (List.mem_of_mem_take hx)).1)
              have h2 := HGL.out
              rw [List.length_take] at h1
              rw [List.length_append]
              omega)
            have HAL : Hid ((Pn.actW a).length ≤ 300) := Lib.hid (by have := actW_len a; have := HGA.out.1; omega)
            obtain ⟨b, off, u, rfl, p0w, hsd⟩ := H.out.acts.at k hkL
            have p0 := cell_later HBZ.out p0w
            clear p0w
            dsimp only at hsd
            rw [ha] at hsd
            have HSDW : Hid (SlD w u a) := Lib.hid hsd
            obtain ⟨ua, uc, rfl, -⟩ := hsd
            obtain ⟨un, hun⟩ : ∃ n, a.length = n := ⟨_, rfl⟩
            rw [hun] at p0 HSDW
            have HSD := Lib.hid (HSDW.out.later HBZ.out)
            have HSZ : Hid (w.heap.size + 1 ≤ wz.heap.size) := Lib.hid hsz
            obtain ⟨R0, hR0⟩ : ∃ R, G ++ Pn.actsW (AL.take k) = R := ⟨_, rfl⟩
            rw [hR0] at HV HX HLEN
            obtain ⟨R1, hR1⟩ : ∃ R, G ++ Pn.actsW (AL.take (k + 1)) = R := ⟨_, rfl⟩
            have HR1 := Lib.hid hR1
            rw [hR1] at HX
            have HDO : Hid (∀ W, Below w.heap.size w W → SlD W (.slice ua un uc) a → Calls Tryz.prog 57 #[.slice ua un uc] W (MadeT W.heap.size (Pn.actW a) W)) :=
              Lib.hid fun W hb hsd => actionWords_any (.slice ua un uc) a W hsd HGA.out.2 (by have := HGA.out.1; omega) fun W2 hb2 => HT.out W2 (hb.trans (hb2.mono hb.size))
            clear ha hkL hR0 hR1 hun
            by_cases hk0 : k = 0
            · have HX0 : Hid (R0 ++ Pn.actW a = R1) := Lib.hid (by have := HX.out; rwa [if_pos hk0, List.append_nil] at this)
              have hk1 : ¬ (k : Int) > 0 := by omega
              clear HX hk0
              go_wp2_with fail
              refine (HDO.out _ HBZ.out HSD.out).mono ?_
              rintro e w2 ⟨v2, rfl, ho2, hb2⟩
              have HV2 : Hid (OwnT w2 (w.heap.size + 1) lv R0) := Lib.hid (HV.out.under hb2)
              have HS2 := Lib.hid ho2.sl
              have HB2 : Hid (Below w.heap.size w w2) := Lib.hid (HBZ.out.trans (hb2.mono HBZ.out.size))
              have HSZ2 : Hid (w.heap.size + 1 ≤ w2.heap.size) := Lib.hid (Nat.le_trans HSZ.out hb2.size)
              clear hb2 ho2
              go_wp2_with (at_builtin; refine wpList_append_texts rfl _ _ rfl (w.heap.size + 1) _ _ R0 (Pn.actW a) rfl HV2.out rfl HS2.out ?_ HSZ2.out R1 HX0.out ?_)
              case refine_1 => have := HLEN.out; have := HAL.out; omega
              case refine_2 =>
                intro v' w' hg
                obtain ⟨ho', _, hb'⟩ := hg
                have HO' : Hid (OwnT w' (w.heap.size + 1) v' (G ++ Pn.actsW (AL.take (k + 1)))) := Lib.hid (by rw [HR1.out]; exact ho')
                have HB' : Hid (Below w.heap.size w w') := Lib.hid (HB2.out.trans (hb'.mono (Nat.le_succ _)))
                have HSZE : Hid (w.heap.size + 1 ≤ w'.heap.size) := Lib.hid (Nat.le_trans HSZ2.out hb'.size)
                clear ho' hb'
                go_wp2
                go_roundw
                case rel => exact ⟨k + 1, by omega, by go_num, HO'.out, HB'.out, HSZE.out⟩
                case measure => simp [intOf]; omega
            · have HX0 : Hid ((R0 ++ [[44]]) ++ Pn.actW a = R1) := Lib.hid (by have := HX.out; rwa [if_neg hk0] at this)
              have hk1 : (k : Int) > 0 := by omega
              clear HX hk0
              go_wp2_with (at_builtin; refine wpList_append_texts rfl _ _ rfl (w.heap.size + 1) _ _ R0 [[44]] rfl (HV.out.alloc _) rfl (one_row wz [44] _ rfl) ?_ (by have := HSZ.out; simp; omega) (R0 ++ [[44]]) rfl ?_)
              case refine_1 => have := HLEN.out; simp; omega
              case refine_2 =>
                intro v' w' hg
                obtain ⟨ho', hg', hb'⟩ := hg
                have HO' := Lib.hid ho'
                have HB' : Hid (Below w.heap.size w w') := Lib.hid ((HBZ.out.alloc HBZ.out.size _).trans (hb'.mono (Nat.le_succ _)))
                have HSD' : Hid (SlD w' (.slice ua un uc) a) := Lib.hid (HSDW.out.later HB'.out)
                have HSZ' : Hid (w.heap.size + 1 ≤ w'.heap.size) := Lib.hid (by have := HSZ.out; have := hb'.size; simp at this; omega)
                clear ho' hg' hb'
                go_wp2_with fail
                refine (HDO.out _ HB'.out HSD'.out).mono ?_
                rintro e w2 ⟨v2, rfl, ho2, hb2⟩
                have HV2 : Hid (OwnT w2 (w.heap.size + 1) v' (R0 ++ [[44]])) := Lib.hid (HO'.out.under hb2)
                have HS2 := Lib.hid ho2.sl
                have HB2 : Hid (Below w.heap.size w w2) := Lib.hid (HB'.out.trans (hb2.mono HB'.out.size))
                have HSZ2 : Hid (w.heap.size + 1 ≤ w2.heap.size) := Lib.hid (Nat.le_trans HSZ'.out hb2.size)
                clear hb2 ho2
                go_wp2_with (at_builtin; refine wpList_append_texts rfl _ _ rfl (w.heap.size + 1) _ _ (R0 ++ [[44]]) (Pn.actW a) rfl HV2.out rfl HS2.out ?_ HSZ2.out R1 HX0.out ?_)
                case refine_1 => have := HLEN.out; have := HAL.out; simp; omega
                case refine_2 =>
                  intro v3 w3 hg3
                  obtain ⟨ho3, _, hb3⟩ := hg3
                  have HO3 : Hid (OwnT w3 (w.heap.size + 1) v3 (G ++ Pn.actsW (AL.take (k + 1)))) := Lib.hid (by rw [HR1.out]; exact ho3)
                  have HB3 : Hid (Below w.heap.size w w3) := Lib.hid (HB2.out.trans (hb3.mono (Nat.le_succ _)))
                  have HSZE : Hid (w.heap.size + 1 ≤ w3.heap.size) := Lib.hid (Nat.le_trans HSZ2.out hb3.size)
                  clear ho3 hb3
                  go_wp2
                  go_roundw
                  case rel => exact ⟨k + 1, by omega, by go_num, HO3.out, HB3.out, HSZE.out⟩
                  case measure => simp [intOf]; omega
          · obtain rfl : k = an := by omega
            have hkI : ¬ (k : Int) < (k : Int) := by omega
            have HFIN : Hid (OwnT wz w.heap.size lv (Pn.ruleW ⟨O, I, D, AL, false⟩)) := Lib.hid (by
              have := HV.out
              rw [List.take_of_length_le (by rw [HAN.out]; exact Nat.le_refl _)] at this
              rw [HRW.out]
              exact this.more (Nat.le_succ _))
            go_wp2
            go_ret
            exact ⟨_, rfl, HFIN.out, HBZ.out⟩
  · go_wp2_with fail
    refine (concatT_any _ _ _ (HR1.out _ _ [112, 104, 111, 110, 121] rfl) (by have h1 := HP.out.outs; have h2 := HP.out.ins; dsimp only at h1 h2; simp; omega) (by simp)).mono ?_
    rintro e w5 ⟨v4, rfl, ho5, hb5⟩
    have HO5 : Hid (OwnT w5 w.heap.size v4 (Pn.ruleW ⟨O, I, D, AL, true⟩)) := Lib.hid (by
      have := OwnT.more ho5 (HZ.out _ _ _ _).size
      simpa [Pn.ruleW, Pn.firstW, Pn.headW] using this)
    have HB5 : Hid (Below w.heap.size w w5) := Lib.hid ((HZ.out _ _ _ _).trans (hb5.mono (HZ.out _ _ _ _).size))
    have k4 : w5.cell? ⟨w.heap.size, 4, none⟩ = some (.bool true) := ((HBX.out _ _ _ _).under hb5).at 4
    clear ho5 hb5 HR1 HBX
    go_wp2
    go_ret
    exact ⟨_, rfl, HO5.out, HB5.out⟩
end Go.Proofs.YtgjehlegcmeeoaaGreatDoor

/- Print: a line, and all. -/
namespace Go.Proofs.YtgjehlegcmeeoaaGreatDoor
set_option maxRecDepth 100000
open Go.ChangeShapes Go.WideShapes Go.ChangeAt Go.RowKit Go.Shelf

set_option maxHeartbeats 4000000 in
theorem write_any (base : Nat) (bv v : Value) (bs : List Nat) (l : List (List Nat)) (w : World) (hb : Own w base bv bs) (h : SlT w v l) (hbase : base ≤ w.heap.size) (hn : (Pn.join l).length ≤ 1000000) (hl : ∀ c ∈ Pn.join l, c < 256) (hbs : bs.length ≤ 1000000000) :
    Calls Tryz.prog 34 #[bv, v] w fun e w' => ∃ u, e = .returned u ∧ Own w' base u (Pn.write bs l) ∧ Below base w w' := by
  have HB := Lib.hid hb
  have H := Lib.hid h
  have HN := Lib.hid hn
  have HL := Lib.hid hl
  have HBS := Lib.hid hbs
  clear hn hl hbs hb h
  go_enter Tryz.func34, Tryz.ntmps34
  go_wp2_with fail
  refine (join_any v l _ H.out HN.out).mono ?_
  rintro e w1 ⟨rfl, hb1⟩
  have HO1 := Lib.hid (HB.out.under hb1)
  have HB1 : Hid (Below base w w1) := Lib.hid (hb1.mono hbase)
  have hz1 : base ≤ w1.heap.size := Nat.le_trans hbase hb1.size
  clear hb1
  go_wp2_with (at_builtin; refine wpList_append_str rfl _ _ rfl base bv bs (Pn.join l) rfl HO1.out rfl HL.out ?_ hz1 (bs ++ Pn.join l) rfl ?_)
  case refine_1 => have := HN.out; have := HBS.out; omega
  case refine_2 =>
    intro v2 w2 ho2 hb2
    have HO2 := Lib.hid ho2
    have HB2 : Hid (Below base w w2) := Lib.hid (HB1.out.trans hb2)
    have hz2 : base ≤ w2.heap.size := Nat.le_trans hz1 hb2.size
    clear ho2 hb2
    go_wp2_with (at_builtin; refine wpList_append_bytes rfl _ _ rfl base v2 _ (bs ++ Pn.join l) [10] rfl (HO2.out.alloc _) rfl (bytes_one w2 10 10 _ _ rfl (by omega)) ?_ (by simp; omega) (bs ++ Pn.join l ++ [10]) rfl ?_)
    case refine_1 => have := HN.out; have := HBS.out; simp; omega
    case refine_2 =>
      intro v3 w3 hg3
      obtain ⟨ho3, _, _, hb3⟩ := hg3
      have HO3 : Hid (Own w3 base v3 (Pn.write bs l)) := Lib.hid (by unfold Pn.write; first | exact ho3 | (rw [List.append_assoc]; exact ho3))
      have HB3 : Hid (Below base w w3) := Lib.hid ((HB2.out.alloc hz2 _).trans hb3)
      clear ho3 hb3
      go_wp2
      go_ret
      exact ⟨_, rfl, HO3.out, HB3.out⟩
theorem dflt_rows (w : World) (hw : ByteArray) (hl : List Nat) (hhl : hw = str hl) (ov : Value) (O : List (List Nat)) (ho : SlT w ov O) :
    Rows2T ((w.alloc (.cells #[.string hw] 9)).alloc (.cells #[.slice (some ⟨w.heap.size, 0, none⟩) 1 1, ov] 27)) (.slice (some ⟨w.heap.size + 1, 0, none⟩) 2 2) [[hl], O] := by
  have := rows2T_lit (w.alloc (.cells #[.string hw] 9)) #[.slice (some ⟨w.heap.size, 0, none⟩) 1 1, ov] [[hl], O] rfl (by
    intro k hk
    match k, hk with
    | 0, _ => exact one_row w hl hw hhl
    | 1, _ => exact ho.later ((Below.refl _ _).alloc (Nat.le_refl _) _))
  rw [World.size_alloc] at this
  exact this
/-- A manifest as it may be printed. -/
structure PrM (m : Mn.M) : Prop where
  rules : m.rules.length ≤ 1000
  each : ∀ r ∈ m.rules, PrR r ∧ (Pn.join (Pn.ruleW r)).length ≤ 100000 ∧ ∀ c ∈ Pn.join (Pn.ruleW r), c < 256
  dflt : m.dflt.length ≤ 1000
  last : (Pn.join (Pn.dfltW m)).length ≤ 100000 ∧ ∀ c ∈ Pn.join (Pn.dfltW m), c < 256
theorem print_len : ∀ (l : List Mn.Rule), (∀ r ∈ l, (Pn.join (Pn.ruleW r)).length ≤ 100000) → (l.flatMap Mn.printR).length ≤ 100001 * l.length
  | [], _ => Nat.zero_le _
  | r :: l, h => by
    have h1 := print_len l (fun x hx => h x (by simp [hx]))
    have h2 := h r (by simp)
    have h3 : Mn.printR r = Pn.join (Pn.ruleW r) ++ [10] := by
      have := Pn.write_rule [] r
      rw [List.nil_append] at this
      rw [← this]
      rfl
    have h4 : ([10] : List Nat).length = 1 := rfl
    rw [List.flatMap_cons, List.length_append, h3, List.length_append, h4, List.length_cons]
    omega
set_option maxHeartbeats 8000000 in
theorem print_any (v : Value) (m : Mn.M) (w : World) (h : RdM w v m) (hp : PrM m) (hT : ∀ W, Below w.heap.size w W → Tabs W) :
    Calls Tryz.prog 18 #[v] w fun e w' => ∃ u, e = .returned u ∧ Own w' w.heap.size u (Mn.print m) ∧ Below w.heap.size w w' := by
  obtain ⟨rv, dv, rfl, hr, hd⟩ := h
  obtain ⟨R, D⟩ := m
  have HT := Lib.hid hT
  have HP := Lib.hid hp
  dsimp only at hr hd
  obtain ⟨ra, rc, rfl⟩ := hr.shape
  have hd' := hd
  obtain ⟨da, dc, rfl, -⟩ := hd'
  obtain ⟨n, hn⟩ : ∃ n, R.length = n := ⟨_, rfl⟩
  obtain ⟨dn, hdn⟩ : ∃ n, D.length = n := ⟨_, rfl⟩
  rw [hn] at hr ⊢
  rw [hdn] at hd ⊢
  have HN := Lib.hid hn
  have HDN := Lib.hid hdn
  have HR := Lib.hid hr
  have HD := Lib.hid hd
  have HPL := Lib.hid (fun k => print_len (R.take k) (fun r hr => (HP.out.each r (List.mem_of_mem_take hr)).2.1))
  have hn1 : n ≤ 1000 := by have := HP.out.rules; dsimp only at this; omega
  have HNL : Hid (∀ k, k ≤ n → ((R.take k).flatMap Mn.printR).length ≤ 200000000) := Lib.hid (fun k hk => by
    have := HPL.out k
    rw [List.length_take] at this
    have : 100001 * min k R.length ≤ 100001 * 1000 := Nat.mul_le_mul_left _ (by omega)
    omega)
  clear hr hd hn hdn hT hp
  go_enter Tryz.func18, Tryz.ntmps18
  go_wp2_with fail
  go_loopw [3, 9] (fun v' i wr => ∃ k : Nat, k ≤ n ∧ i = .int .i64 (k : Int) ∧ Own wr (w.heap.size + 1) v' ((R.take k).flatMap Mn.printR) ∧ Below w.heap.size w wr ∧ Blk wr w.heap.size 29 #[.slice ra n rc, .slice da dn dc]) (fun _ i _ => n - (intOf i).toNat)
  case atStart => exact ⟨0, Nat.zero_le _, rfl, own_none _ _, (Below.refl _ _).alloc (Nat.le_refl _) _, heap_alloc_new w _⟩
  case round =>
    obtain ⟨k, hk, rfl, hv, hbz, hbk⟩ := hrel
    obtain ⟨wz, rfl⟩ : ∃ wx : World, wx = wr := ⟨_, rfl⟩
    obtain ⟨lv, rfl⟩ : ∃ l : Value, l = u3 := ⟨_, rfl⟩
    have HV := Lib.hid hv
    have HBZ := Lib.hid hbz
    have HBK := Lib.hid hbk
    have HSZ : Hid (w.heap.size + 1 ≤ wz.heap.size) := Lib.hid hbk.size
    have m1 : wz.cell? ⟨w.heap.size, 1, none⟩ = some (.slice da dn dc) := hbk.at 1
    clear hv hbz hbk
    by_cases hlt : k < n
    · have hkI : (k : Int) < (n : Int) := by omega
      have hkL : k < R.length := by rw [HN.out]; exact hlt
      obtain ⟨b, off, q, rfl, hrd, p0, p1, p2, p3, p4⟩ := HR.out.at k hkL
      have HX : Hid ((R.take (k + 1)).flatMap Mn.printR = Pn.write ((R.take k).flatMap Mn.printR) (Pn.ruleW (R.getD k emptyRule))) := Lib.hid (Pn.print_take R k hkL emptyRule)
      have HE : Hid (PrR (R.getD k emptyRule) ∧ (Pn.join (Pn.ruleW (R.getD k emptyRule))).length ≤ 100000 ∧ ∀ c ∈ Pn.join (Pn.ruleW (R.getD k emptyRule)), c < 256) := Lib.hid (HP.out.each _ (by rw [List.getD_eq_getElem?_getD, List.getElem?_eq_getElem hkL]; exact List.getElem_mem hkL))
      obtain ⟨r, hr⟩ : ∃ r, R.getD k emptyRule = r := ⟨_, rfl⟩
      rw [hr] at hrd p4 HX HE
      have c0 := cell_later HBZ.out p0
      have c1 := cell_later HBZ.out p1
      have c2 := cell_later HBZ.out p2
      have c3 := cell_later HBZ.out p3
      have c4 := cell_later HBZ.out p4
      have HRD := Lib.hid hrd
      obtain ⟨q1, q2, q3, q4⟩ := q
      dsimp only at c0 c1 c2 c3
      obtain ⟨_, _, _, rfl⟩ := hrd.outs.shape
      obtain ⟨_, _, _, rfl⟩ := hrd.ins.shape
      obtain ⟨_, _, _, rfl⟩ := hrd.order.shape
      obtain ⟨_, _, _, rfl⟩ := hrd.acts.shape
      obtain ⟨S, hS⟩ : ∃ S, (R.take k).flatMap Mn.printR = S := ⟨_, rfl⟩
      have HSL : Hid (S.length ≤ 200000000) := Lib.hid (by rw [← hS]; exact HNL.out k hk)
      rw [hS] at HV HX
      have HRW : Hid (∀ W, Below w.heap.size w W → Calls Tryz.prog 35 #[.agg (cellsR (.slice _ _ _, .slice _ _ _, .slice _ _ _, .slice _ _ _) r).toArray] W (MadeT W.heap.size (Pn.ruleW r) W)) :=
        Lib.hid fun W hb => ruleWords_any _ r W (HRD.out.later hb) HE.out.1 fun W2 hb2 => HT.out W2 (hb.trans (hb2.mono hb.size))
      obtain ⟨O, I, DD, AL, ph⟩ := r
      dsimp only at c4
      have HBO : Hid (∀ o, Below w.heap.size w (wz.alloc o)) := Lib.hid (fun o => HBZ.out.alloc HBZ.out.size o)
      clear hr hrd p0 p1 p2 p3 p4 hkL hS
      go_wp2_with fail
      refine (HRW.out _ (HBO.out _)).mono ?_
      rintro e w2 ⟨v2, rfl, ho2, hb2⟩
      have HV2 : Hid (Own w2 (w.heap.size + 1) lv S) := Lib.hid ((HV.out.alloc _).under hb2)
      have HS2 := Lib.hid ho2.sl
      have HB2 : Hid (Below w.heap.size w w2) := Lib.hid ((HBO.out _).trans (hb2.mono (HBO.out _).size))
      have HK2 := Lib.hid ((HBK.out.alloc _).under hb2)
      clear hb2 ho2
      go_wp2_with fail
      refine (write_any (w.heap.size + 1) lv v2 S _ w2 HV2.out HS2.out HK2.out.size (by have := HE.out.2.1; omega) HE.out.2.2 (by have := HSL.out; omega)).mono ?_
      rintro e w3 ⟨u, rfl, ho3, hb3⟩
      have HO3 := Lib.hid ho3
      have HB3 : Hid (Below w.heap.size w w3) := Lib.hid (HB2.out.trans (hb3.mono (Nat.le_succ _)))
      have HK3 := Lib.hid (HK2.out.below hb3 (Nat.lt_succ_self _))
      rw [← HX.out] at HO3
      clear ho3 hb3 m1
      go_wp2
      go_roundw
      case rel => exact ⟨k + 1, by omega, by go_num, HO3.out, HB3.out, HK3.out⟩
      case measure => simp [intOf]; omega
    · obtain rfl : k = n := by omega
      have hkI : ¬ (k : Int) < (k : Int) := by omega
      have HV2 : Hid (Own wz (w.heap.size + 1) lv (R.flatMap Mn.printR)) := Lib.hid (by
        have := HV.out
        rwa [List.take_of_length_le (by rw [HN.out]; exact Nat.le_refl _)] at this)
      have HSL : Hid ((R.flatMap Mn.printR).length ≤ 200000000) := Lib.hid (by
        have := HNL.out k hk
        rwa [List.take_of_length_le (by rw [HN.out]; exact Nat.le_refl _)] at this)
      by_cases hd0 : D = []
      · have hdI : ¬ (dn : Int) > 0 := by
          have := HDN.out
          rw [hd0] at this
          simp at this
          omega
        have HFIN : Hid (Own wz w.heap.size lv (Mn.print ⟨R, D⟩)) := Lib.hid (by
          unfold Mn.print
          rw [if_pos hd0, List.append_nil]
          exact HV2.out.more (Nat.le_succ _))
        clear hd0
        go_wp2
        go_ret
        exact ⟨_, rfl, HFIN.out, HBZ.out⟩
      · have hdI : (dn : Int) > 0 := by
          have := HDN.out
          rcases D with _ | ⟨x, y⟩
          · exact absurd rfl hd0
          · simp at this; omega
        have HPR : Hid (Mn.print ⟨R, D⟩ = Pn.write (R.flatMap Mn.printR) (Pn.dfltW ⟨R, D⟩)) := Lib.hid (by
          rw [Pn.write_dflt]
          unfold Mn.print
          rw [if_neg hd0])
        have HLT := Lib.hid HP.out.last
        have HDL : Hid (D.length ≤ 1000) := Lib.hid HP.out.dflt
        have HRO : Hid (Rows2T ((wz.alloc (.cells #[.string ⟨#[100, 101, 102, 97, 117, 108, 116]⟩] 9)).alloc (.cells #[.slice (some ⟨wz.heap.size, 0, none⟩) 1 1, .slice da dn dc] 27)) (.slice (some ⟨wz.heap.size + 1, 0, none⟩) 2 2) [[[100, 101, 102, 97, 117, 108, 116]], D]) := Lib.hid (dflt_rows wz _ _ rfl _ D (HD.out.later HBZ.out))
        have m1o : ∀ o, (wz.alloc o).cell? ⟨w.heap.size, 1, none⟩ = some (.slice da dn dc) := fun o => (HBK.out.alloc o).at 1
        have HBO : Hid (∀ o1 o2, Below w.heap.size w ((wz.alloc o1).alloc o2)) := Lib.hid (fun o1 o2 => (HBZ.out.alloc HBZ.out.size o1).alloc (by have := HBZ.out.size; simp; omega) o2)
        clear hd0
        go_wp2_with fail
        refine (concatT_any _ _ _ HRO.out (by have := HDL.out; simp; omega) (by simp)).mono ?_
        rintro e w2 ⟨v2, rfl, ho2, hb2⟩
        have HV3 : Hid (Own w2 (w.heap.size + 1) lv (R.flatMap Mn.printR)) := Lib.hid (((HV2.out.alloc _).alloc _).under hb2)
        have HS2 : Hid (SlT w2 v2 (Pn.dfltW ⟨R, D⟩)) := Lib.hid (by
          have := ho2.sl
          simpa [Pn.dfltW] using this)
        have HB2 : Hid (Below w.heap.size w w2) := Lib.hid ((HBO.out _ _).trans (hb2.mono (HBO.out _ _).size))
        have HSZ2 : Hid (w.heap.size + 1 ≤ w2.heap.size) := Lib.hid (by have := hb2.size; have := HSZ.out; simp at *; omega)
        clear hb2 ho2
        go_wp2_with fail
        refine (write_any (w.heap.size + 1) lv v2 (R.flatMap Mn.printR) _ w2 HV3.out HS2.out HSZ2.out (by have := HLT.out.1; omega) HLT.out.2 (by have := HSL.out; omega)).mono ?_
        rintro e w3 ⟨u, rfl, ho3, hb3⟩
        have HO3 : Hid (Own w3 w.heap.size u (Mn.print ⟨R, D⟩)) := Lib.hid (by rw [HPR.out]; exact ho3.more (Nat.le_succ _))
        have HB3 : Hid (Below w.heap.size w w3) := Lib.hid (HB2.out.trans (hb3.mono (Nat.le_succ _)))
        clear ho3 hb3 m1 m1o
        go_wp2
        go_ret
        exact ⟨_, rfl, HO3.out, HB3.out⟩
end Go.Proofs.YtgjehlegcmeeoaaGreatDoor
