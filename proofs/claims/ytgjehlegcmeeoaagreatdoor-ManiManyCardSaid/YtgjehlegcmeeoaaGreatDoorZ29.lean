/- What the statements of layer 7 ask first: known manifests are read, compared and printed. -/
import Derived.Test.YtgjehlegcmeeoaaGreatDoorZ28
import Derived.Shelf.RegionOpen
import Derived.Deep.RegionHeld3
import Derived.Deep.DeepCutAuto
import Derived.Deep.CutBlock
namespace Go.Proofs.YtgjehlegcmeeoaaGreatDoor
set_option maxRecDepth 100000
open Go.ChangeShapes Go.WideShapes Go.ChangeAt Go.RowKit Go.Shelf

theorem mwp_of_run {P : Program} {o : Oper} {a : Act} {w w' : World} {v : Value} {K : Act → World → Prop} {Q : Exit → Act → World → Prop}
    (h : (execOp a.eval o).run P w = .ok (.value v) w') (hk : K (a.put o.dst v) w') : o.wp P a w K Q := by
  unfold Oper.wp
  rw [h]
  exact hk
theorem convert_third {P : Program} (w : World) (O O2 : Obj) (t e : TypeId) (C : Array Value) (n c : Nat) (ht : P.underlying t = some (.slice e)) (he : P.underlying e = some (.int .u8)) :
    (convert t t (.slice (some ⟨w.heap.size + 1 + 1, 0, none⟩) n c)).run P (((w.alloc O).alloc O2).alloc (.cells C e)) = .ok (.slice (some ⟨w.heap.size + 1 + 1, 0, none⟩) n c) (((w.alloc O).alloc O2).alloc (.cells C e (C.size, C.size + 1))) := by
  have := Lib.run_convert_bytes_const (P := P) ((w.alloc O).alloc O2) t e C n c ht he
  simpa using this
theorem parsed_ok {b : List Nat} {w w' : World} {e : Ending} {m : Mn.M} (h : ParsedM b w e w') (hm : Mo.parse b = .ok m) : ∃ v, e = .returned (.tuple #[v, .agg #[.int .i64 0, .int .i64 0, .int .i64 0]]) ∧ RdM w' v m ∧ Below w.heap.size w w' := by
  obtain ⟨hb, h⟩ := h
  rw [hm] at h
  obtain ⟨v, he, hr⟩ := h
  exact ⟨v, he, hr, hb⟩
theorem parsed_bad {b : List Nat} {w w' : World} {e : Ending} {f : Mn.F} (h : ParsedM b w e w') (hm : Mo.parse b = .bad f) : e = .returned (.tuple #[zeroM, FaultV f]) ∧ Below w.heap.size w w' := by
  obtain ⟨hb, h⟩ := h
  rw [hm] at h
  exact ⟨h, hb⟩
set_option maxRecDepth 100000 in
set_option maxHeartbeats 16000000 in
theorem mawake_any (w : World) (hT : ∀ W, Below w.heap.size w W → Tabs W) : Calls Tryz.prog 9 #[] w fun e w' => e = .returned (.bool true) ∧ Below w.heap.size w w' := by
  have HT := Lib.hid hT
  clear hT
  have kc := fun (w : World) (C : Array Value) (n c : Nat) => Lib.run_convert_bytes_const (P := Tryz.prog) w 32 5 C n c Tryz.underlying32 Tryz.underlying5
  have kc3 := fun (w : World) (O O2 : Obj) (C : Array Value) (n c : Nat) => convert_third (P := Tryz.prog) w O O2 32 5 C n c Tryz.underlying32 Tryz.underlying5
  go_enter Tryz.func9, Tryz.ntmps9
  go_wp2_with fail
  refine (mparse_any _ maw1 _ (bytes_new w _ rfl maw1 _ _ (by decide) (by decide)) (by decide) (fun W hb => HT.out W (((Below.refl _ _).alloc (Nat.le_refl _) _).trans (hb.mono (by simp))))).mono ?_
  intro e w1 hp
  obtain ⟨v1, he, hrd, hb1⟩ := parsed_ok hp maw1_is
  obtain ⟨rv, dv, rfl, hsr, hsd⟩ := hrd
  obtain ⟨ra, rc, rfl⟩ := hsr.shape
  have hsd' := hsd
  obtain ⟨da, dc, rfl, -⟩ := hsd'
  rw [show mawM.rules.length = 3 from rfl] at he hsr
  rw [show mawM.dflt.length = 1 from rfl] at he hsd
  subst he
  have HR1 := Lib.hid hsr
  have HD1 := Lib.hid hsd
  have HB1 : Hid (Below w.heap.size w w1) := Lib.hid (((Below.refl _ _).alloc (Nat.le_refl _) _).trans (hb1.mono (by simp)))
  have HX1 := Lib.hid (two_boxes w1 #[.slice ra 3 rc, .slice da 1 dc] #[.int .i64 0, .int .i64 0, .int .i64 0] 29 23)
  have HW1 : Hid (∀ o1 o2 o3, Below w1.heap.size w1 (((w1.alloc o1).alloc o2).alloc o3)) := Lib.hid (fun o1 o2 o3 => (((Below.refl _ _).alloc (Nat.le_refl _) o1).alloc (by simp) o2).alloc (by simp; omega) o3)
  clear hp hb1 hsr hsd
  go_wp2_with fail
  refine (mparse_any _ maw2 _ (bytes_new ((w1.alloc (.cells #[.slice ra 3 rc, .slice da 1 dc] 29)).alloc (.cells #[.int .i64 0, .int .i64 0, .int .i64 0] 23)) (w1.heap.size + 1 + 1) (by simp) maw2 _ _ (by decide) (by decide)) (by decide) (fun W hb => HT.out W ((HB1.out.trans ((HW1.out _ _ _).mono HB1.out.size)).trans (hb.mono (by have := HB1.out.size; simp; omega))))).mono ?_
  intro e w2 hp
  obtain ⟨he, hb2⟩ := parsed_bad hp maw2_is
  rw [show zeroM = .agg #[.slice none 0 0, .slice none 0 0] from rfl, show FaultV ⟨12, 0, 0⟩ = .agg #[.int .i64 12, .int .i64 0, .int .i64 0] from rfl] at he
  subst he
  have HB12 : Hid (Below w1.heap.size w1 w2) := Lib.hid ((HW1.out _ _ _).trans (hb2.mono (by simp; omega)))
  have HX12 := Lib.hid (And.intro ((HX1.out.1.alloc _).under hb2) ((HX1.out.2.alloc _).under hb2))
  have HX2 := Lib.hid (two_boxes w2 #[.slice none 0 0, .slice none 0 0] #[.int .i64 12, .int .i64 0, .int .i64 0] 29 23)
  have HW2 : Hid (∀ o1 o2 o3, Below w2.heap.size w2 (((w2.alloc o1).alloc o2).alloc o3)) := Lib.hid (fun o1 o2 o3 => (((Below.refl _ _).alloc (Nat.le_refl _) o1).alloc (by simp) o2).alloc (by simp; omega) o3)
  have HB2 : Hid (Below w.heap.size w w2) := Lib.hid (HB1.out.trans (HB12.out.mono HB1.out.size))
  clear hp hb2
  go_wp2_with fail
  refine (mparse_any _ maw3 _ (bytes_new ((w2.alloc (.cells #[.slice none 0 0, .slice none 0 0] 29)).alloc (.cells #[.int .i64 12, .int .i64 0, .int .i64 0] 23)) (w2.heap.size + 1 + 1) (by simp) maw3 _ _ (by decide) (by decide)) (by decide) (fun W hb => HT.out W ((HB2.out.trans ((HW2.out _ _ _).mono HB2.out.size)).trans (hb.mono (by have := HB2.out.size; simp; omega))))).mono ?_
  intro e w3 hp
  obtain ⟨he, hb3⟩ := parsed_bad hp maw3_is
  rw [show zeroM = .agg #[.slice none 0 0, .slice none 0 0] from rfl, show FaultV ⟨6, 1, 14⟩ = .agg #[.int .i64 6, .int .i64 1, .int .i64 14] from rfl] at he
  subst he
  have HB23 : Hid (Below w2.heap.size w2 w3) := Lib.hid ((HW2.out _ _ _).trans (hb3.mono (by simp; omega)))
  have HB3 : Hid (Below w.heap.size w w3) := Lib.hid (HB2.out.trans (HB23.out.mono HB2.out.size))
  have HX13 := Lib.hid (And.intro (HX12.out.1.under HB23.out) (HX12.out.2.under HB23.out))
  have HX23 := Lib.hid (And.intro ((HX2.out.1.alloc _).under hb3) ((HX2.out.2.alloc _).under hb3))
  have HB13 : Hid (Below w1.heap.size w1 w3) := Lib.hid (HB12.out.trans (HB23.out.mono HB12.out.size))
  clear hp hb3
  have HW3 : Hid (∀ o1 o2, Below w3.heap.size w3 ((w3.alloc o1).alloc o2)) := Lib.hid (fun o1 o2 => ((Below.refl _ _).alloc (Nat.le_refl _) o1).alloc (by simp) o2)
  have HBW3 : Hid (∀ o1 o2, Below w1.heap.size w1 ((w3.alloc o1).alloc o2)) := Lib.hid (fun o1 o2 => HB13.out.trans ((HW3.out o1 o2).mono HB13.out.size))
  have a0 : ∀ o1 o2, ((w3.alloc o1).alloc o2).cell? ⟨w1.heap.size, 0, none⟩ = some (.slice ra 3 rc) := fun o1 o2 => ((HX13.out.1.alloc o1).alloc o2).at 0
  have a1 : ∀ o1 o2, ((w3.alloc o1).alloc o2).cell? ⟨w1.heap.size, 1, none⟩ = some (.slice da 1 dc) := fun o1 o2 => ((HX13.out.1.alloc o1).alloc o2).at 1
  have b0 : ∀ o1 o2, ((w3.alloc o1).alloc o2).cell? ⟨w1.heap.size + 1, 0, none⟩ = some (.int .i64 0) := fun o1 o2 => ((HX13.out.2.alloc o1).alloc o2).at 0
  have b1 : ∀ o1 o2, ((w3.alloc o1).alloc o2).cell? ⟨w1.heap.size + 1, 1, none⟩ = some (.int .i64 0) := fun o1 o2 => ((HX13.out.2.alloc o1).alloc o2).at 1
  have b2 : ∀ o1 o2, ((w3.alloc o1).alloc o2).cell? ⟨w1.heap.size + 1, 2, none⟩ = some (.int .i64 0) := fun o1 o2 => ((HX13.out.2.alloc o1).alloc o2).at 2
  have c0 : ∀ o1 o2, ((w3.alloc o1).alloc o2).cell? ⟨w2.heap.size + 1, 0, none⟩ = some (.int .i64 12) := fun o1 o2 => ((HX23.out.2.alloc o1).alloc o2).at 0
  have c1 : ∀ o1 o2, ((w3.alloc o1).alloc o2).cell? ⟨w2.heap.size + 1, 1, none⟩ = some (.int .i64 0) := fun o1 o2 => ((HX23.out.2.alloc o1).alloc o2).at 1
  have c2 : ∀ o1 o2, ((w3.alloc o1).alloc o2).cell? ⟨w2.heap.size + 1, 2, none⟩ = some (.int .i64 0) := fun o1 o2 => ((HX23.out.2.alloc o1).alloc o2).at 2
  obtain ⟨b, off, q, rfl, hq, p0, p1, p2, p3, p4⟩ := HR1.out.at 0 (by decide)
  obtain ⟨b', off', q', e, _, r0, r1, r2, r3, r4⟩ := HR1.out.at 2 (by decide)
  injection e with e
  injection e with e1 e2
  subst e1 e2
  have ho := hq.order
  have hac := hq.acts
  change SlT w1 q.2.2.1 [[99]] at ho
  change SlA w1 q.2.2.2 [[⟨3, 0, []⟩, ⟨4, 0, []⟩]] at hac
  obtain ⟨q1, q2, q3, q4⟩ := q
  obtain ⟨oa, oc, e, -⟩ := ho
  obtain ⟨aa, ac, e2, -⟩ := id hac
  dsimp only at e e2 hac p0 p1 p2 p3
  subst e e2
  obtain ⟨b2', off2, u, rfl, hu, hsd⟩ := hac.at 0 (by decide)
  obtain ⟨ua, uc, rfl, -⟩ := hsd
  have d2 : ∀ o1 o2, ((w3.alloc o1).alloc o2).cell? ⟨b, off + 2, none⟩ = some (.slice oa 1 oc) := fun o1 o2 => by
    have := cell_later (HBW3.out o1 o2) p2
    simpa using this
  have d3 : ∀ o1 o2, ((w3.alloc o1).alloc o2).cell? ⟨b, off + 3, none⟩ = some (.slice (some ⟨b2', off2, none⟩) 1 ac) := fun o1 o2 => by
    have := cell_later (HBW3.out o1 o2) p3
    simpa using this
  have d14 : ∀ o1 o2, ((w3.alloc o1).alloc o2).cell? ⟨b, off + 10 + 4, none⟩ = some (.bool true) := fun o1 o2 => by
    have := cell_later (HBW3.out o1 o2) r4
    exact this
  have du : ∀ o1 o2, ((w3.alloc o1).alloc o2).cell? ⟨b2', off2, none⟩ = some (.slice ua 2 uc) := fun o1 o2 => by
    have := cell_later (HBW3.out o1 o2) hu
    simpa using this
  have HSAME : Hid (∀ W, Below w1.heap.size w1 W → Calls Tryz.prog 17 #[.agg #[.slice (some ⟨b, off, none⟩) 3 rc, .slice da 1 dc], .agg #[.slice (some ⟨b, off, none⟩) 3 rc, .slice da 1 dc]] W fun e w' => e = .returned (.bool true) ∧ Below W.heap.size W w') := Lib.hid (fun W hb => by
    have hm : RdM W (.agg #[.slice (some ⟨b, off, none⟩) 3 rc, .slice da 1 dc]) mawM := ⟨_, _, rfl, HR1.out.under hb, HD1.out.later hb⟩
    have := msame_any _ _ _ _ W hm hm maw_by maw_by
    rwa [decide_eq_true rfl] at this)
  have HSAME0 : Hid (∀ W, Below w1.heap.size w1 W → Calls Tryz.prog 17 #[.agg #[.slice (some ⟨b, off, none⟩) 3 rc, .slice da 1 dc], .agg #[.slice none 0 0, .slice none 0 0]] W fun e w' => e = .returned (.bool false) ∧ Below W.heap.size W w') := Lib.hid (fun W hb => by
    have hm : RdM W (.agg #[.slice (some ⟨b, off, none⟩) 3 rc, .slice da 1 dc]) mawM := ⟨_, _, rfl, HR1.out.under hb, HD1.out.later hb⟩
    have hz : RdM W (.agg #[.slice none 0 0, .slice none 0 0]) ⟨[], []⟩ := ⟨_, _, rfl, sl_nil _ _ _ _, sl_nil _ _ _ _⟩
    have := msame_any _ _ _ _ W hm hz maw_by none_by
    rwa [decide_eq_false (by decide)] at this)
  have HPRI : Hid (∀ W, Below w1.heap.size w1 W → Below w.heap.size w W → Calls Tryz.prog 18 #[.agg #[.slice (some ⟨b, off, none⟩) 3 rc, .slice da 1 dc]] W fun e w' => ∃ u, e = .returned u ∧ Own w' W.heap.size u mawP ∧ Below W.heap.size W w') := Lib.hid (fun W hb hbw => by
    have hm : RdM W (.agg #[.slice (some ⟨b, off, none⟩) 3 rc, .slice da 1 dc]) mawM := ⟨_, _, rfl, HR1.out.under hb, HD1.out.later hb⟩
    have := print_any _ _ W hm maw_pr (fun W2 hb2 => HT.out W2 (hbw.trans (hb2.mono hbw.size)))
    rwa [mawP_is] at this)
  clear p0 p1 p2 p3 p4 r0 r1 r2 r3 r4 hac hu hq kc kc3
  have kc3 := fun (w : World) (O O2 : Obj) (C : Array Value) (n c : Nat) => convert_third (P := Tryz.prog) w O O2 32 5 C n c Tryz.underlying32 Tryz.underlying5
  go_wp2_with fail
  refine (HSAME.out _ (HBW3.out _ _)).mono ?_
  rintro e w4 ⟨rfl, hb4⟩
  have HB14 : Hid (Below w1.heap.size w1 w4) := Lib.hid ((HBW3.out _ _).trans (hb4.mono (HBW3.out _ _).size))
  have HX14 := Lib.hid (((HX13.out.1.alloc _).alloc _).under hb4)
  have e0 : w4.cell? ⟨w1.heap.size, 0, none⟩ = some (.slice (some ⟨b, off, none⟩) 3 rc) := HX14.out.at 0
  have e1 : w4.cell? ⟨w1.heap.size, 1, none⟩ = some (.slice da 1 dc) := HX14.out.at 1
  clear hb4 a0 a1 b0 b1 b2 c0 c1 c2 d2 d3 d14 du
  go_wp2_with fail
  refine (HSAME0.out _ HB14.out).mono ?_
  rintro e w5 ⟨rfl, hb5⟩
  have HB15 : Hid (Below w1.heap.size w1 w5) := Lib.hid (HB14.out.trans (hb5.mono HB14.out.size))
  have HX15 := Lib.hid (HX14.out.under hb5)
  have f0 : w5.cell? ⟨w1.heap.size, 0, none⟩ = some (.slice (some ⟨b, off, none⟩) 3 rc) := HX15.out.at 0
  have f1 : w5.cell? ⟨w1.heap.size, 1, none⟩ = some (.slice da 1 dc) := HX15.out.at 1
  have HBW5 : Hid (Below w.heap.size w w5) := Lib.hid (HB1.out.trans (HB15.out.mono HB1.out.size))
  clear hb5 e0 e1
  go_wp2_with fail
  refine (HPRI.out _ HB15.out HBW5.out).mono ?_
  rintro e w6 ⟨u6, rfl, ho6, hb6⟩
  have hrt := run_text ho6.bytes
  have HB6 : Hid (Below w.heap.size w w6) := Lib.hid (HBW5.out.trans (hb6.mono HBW5.out.size))
  clear ho6 hb6
  go_wp2_with fail
  go_ret
  exact ⟨by kernel_rfl, HB6.out⟩
end Go.Proofs.YtgjehlegcmeeoaaGreatDoor

/- ManiForms: whichever row is picked, its text is told as is written beside it. -/
namespace Go.Proofs.YtgjehlegcmeeoaaGreatDoor
set_option maxRecDepth 100000
open Go.ChangeShapes Go.WideShapes Go.ChangeAt Go.RowKit Go.Shelf

/-- A row of the table. -/
def manOk (l : List Nat) (kd ln col : Nat) : Bool := l.all (fun c => decide (c < 256)) && decide (l.length ≤ 100) && decide (kd ≤ 100) && decide (ln ≤ 100) && decide (col ≤ 100) && match Mo.parse l with
  | .ok _ => decide (kd = 0) && decide (ln = 0) && decide (col = 0)
  | .bad e => decide (e.k = kd) && decide (e.line = ln) && decide (e.col = col) && decide (kd ≠ 0)
theorem manOk_of {l : List Nat} {kd ln col : Nat} (h : manOk l kd ln col = true) : (∀ c ∈ l, c < 256) ∧ l.length ≤ 100 ∧ ((∃ m, Mo.parse l = .ok m ∧ kd = 0 ∧ ln = 0 ∧ col = 0) ∨ (Mo.parse l = .bad ⟨kd, ln, col⟩ ∧ kd ≠ 0)) := by
  unfold manOk at h
  simp only [Bool.and_eq_true_iff, decide_eq_true_eq] at h
  obtain ⟨⟨⟨⟨⟨h1, h2⟩, _⟩, _⟩, _⟩, h3⟩ := h
  refine ⟨fun c hc => by simpa using List.all_eq_true.1 h1 c hc, h2, ?_⟩
  rcases hp : Mo.parse l with m | ⟨k', l', c'⟩
  · rw [hp] at h3
    simp only [Bool.and_eq_true_iff, decide_eq_true_eq] at h3
    exact .inl ⟨m, rfl, h3.1.1, h3.1.2, h3.2⟩
  · rw [hp] at h3
    simp only [Bool.and_eq_true_iff, decide_eq_true_eq] at h3
    obtain ⟨⟨⟨rfl, rfl⟩, rfl⟩, h4⟩ := h3
    exact .inr ⟨rfl, h4⟩
def mformsC : Array Value := #[.string ⟨#[]⟩, .int .i64 0, .int .i64 0, .int .i64 0, .string ⟨#[102, 111, 111]⟩, .int .i64 4, .int .i64 1, .int .i64 1, .string ⟨#[34, 114, 117, 108, 101, 34, 32, 97, 32, 58, 32, 61, 32, 97, 108, 108]⟩, .int .i64 4, .int .i64 1, .int .i64 1, .string ⟨#[114, 117, 108, 101]⟩, .int .i64 4, .int .i64 1, .int .i64 1, .string ⟨#[114, 117, 108, 101, 32, 58]⟩, .int .i64 4, .int .i64 1, .int .i64 6, .string ⟨#[114, 117, 108, 101, 32, 97]⟩, .int .i64 4, .int .i64 1, .int .i64 1, .string ⟨#[114, 117, 108, 101, 32, 97, 32, 61, 32, 97, 108, 108]⟩, .int .i64 4, .int .i64 1, .int .i64 8, .string ⟨#[114, 117, 108, 101, 32, 97, 32, 58, 32, 98]⟩, .int .i64 4, .int .i64 1, .int .i64 1, .string ⟨#[114, 117, 108, 101, 32, 97, 32, 58, 32, 61]⟩, .int .i64 9, .int .i64 1, .int .i64 1, .string ⟨#[114, 117, 108, 101, 32, 97, 32, 58, 32, 61, 32, 117, 112, 112, 101, 114]⟩, .int .i64 9, .int .i64 1, .int .i64 12, .string ⟨#[114, 117, 108, 101, 32, 97, 32, 58, 32, 61, 32, 97, 108, 108, 32, 44, 32, 97, 108, 108]⟩, .int .i64 7, .int .i64 1, .int .i64 18, .string ⟨#[114, 117, 108, 101, 32, 97, 32, 98, 32, 58, 32, 61, 32, 97, 108, 108]⟩, .int .i64 4, .int .i64 1, .int .i64 1, .string ⟨#[114, 117, 108, 101, 32, 97, 32, 98, 32, 58, 32, 61, 32, 97, 108, 108, 32, 44]⟩, .int .i64 9, .int .i64 1, .int .i64 1, .string ⟨#[114, 117, 108, 101, 32, 65, 32, 58, 32, 61, 32, 97, 108, 108]⟩, .int .i64 5, .int .i64 1, .int .i64 6, .string ⟨#[114, 117, 108, 101, 32, 116, 114, 97, 99, 101, 32, 58, 32, 61, 32, 97, 108, 108]⟩, .int .i64 5, .int .i64 1, .int .i64 6, .string ⟨#[114, 117, 108, 101, 32, 97, 32, 58, 32, 109, 97, 110, 105, 102, 101, 115, 116, 32, 61, 32, 97, 108, 108]⟩, .int .i64 5, .int .i64 1, .int .i64 10, .string ⟨#[114, 117, 108, 101, 32, 97, 32, 97, 32, 58, 32, 61, 32, 97, 108, 108, 32, 44, 32, 97, 108, 108]⟩, .int .i64 8, .int .i64 1, .int .i64 8, .string ⟨#[114, 117, 108, 101, 32, 97, 32, 58, 32, 61, 32, 97, 108, 108, 10, 114, 117, 108, 101, 32, 97, 32, 58, 32, 61, 32, 97, 108, 108]⟩, .int .i64 8, .int .i64 2, .int .i64 6, .string ⟨#[114, 117, 108, 101, 32, 97, 32, 98, 32, 99, 32, 100, 32, 101, 32, 58, 32, 61, 32, 97, 108, 108]⟩, .int .i64 7, .int .i64 1, .int .i64 14, .string ⟨#[114, 117, 108, 101, 32, 97, 32, 58, 32, 98, 32, 124, 32, 61, 32, 97, 108, 108]⟩, .int .i64 0, .int .i64 0, .int .i64 0, .string ⟨#[114, 117, 108, 101, 32, 97, 32, 58, 32, 98, 32, 124, 32, 99, 32, 124, 32, 100, 32, 61, 32, 97, 108, 108]⟩, .int .i64 4, .int .i64 1, .int .i64 16, .string ⟨#[114, 117, 108, 101, 32, 97, 32, 58, 32, 36, 120, 32, 61, 32, 97, 108, 108]⟩, .int .i64 6, .int .i64 1, .int .i64 10, .string ⟨#[108, 101, 116, 32, 120, 32, 61, 32, 98, 10, 114, 117, 108, 101, 32, 97, 32, 58, 32, 36, 120, 32, 61, 32, 97, 108, 108]⟩, .int .i64 0, .int .i64 0, .int .i64 0, .string ⟨#[108, 101, 116, 32, 120]⟩, .int .i64 4, .int .i64 1, .int .i64 1, .string ⟨#[108, 101, 116, 32, 61, 32, 97]⟩, .int .i64 4, .int .i64 1, .int .i64 5, .string ⟨#[108, 101, 116, 32, 120, 32, 97]⟩, .int .i64 7, .int .i64 1, .int .i64 7, .string ⟨#[108, 101, 116, 32, 120, 32, 61]⟩, .int .i64 0, .int .i64 0, .int .i64 0, .string ⟨#[108, 101, 116, 32, 120, 32, 61, 32, 36, 120]⟩, .int .i64 6, .int .i64 1, .int .i64 9, .string ⟨#[112, 104, 111, 110, 121, 32, 97, 32, 58, 32, 98]⟩, .int .i64 0, .int .i64 0, .int .i64 0, .string ⟨#[112, 104, 111, 110, 121, 32, 97, 32, 98, 32, 58, 32, 99]⟩, .int .i64 7, .int .i64 1, .int .i64 9, .string ⟨#[112, 104, 111, 110, 121, 32, 97, 32, 58, 32, 98, 32, 61, 32, 99]⟩, .int .i64 4, .int .i64 1, .int .i64 13, .string ⟨#[100, 101, 102, 97, 117, 108, 116]⟩, .int .i64 4, .int .i64 1, .int .i64 1, .string ⟨#[100, 101, 102, 97, 117, 108, 116, 32, 97]⟩, .int .i64 10, .int .i64 1, .int .i64 9, .string ⟨#[114, 117, 108, 101, 32, 97, 32, 58, 32, 61, 32, 97, 108, 108, 10, 100, 101, 102, 97, 117, 108, 116, 32, 97, 10, 100, 101, 102, 97, 117, 108, 116, 32, 97]⟩, .int .i64 7, .int .i64 3, .int .i64 1, .string ⟨#[114, 117, 108, 101, 32, 97, 32, 58, 32, 98, 32, 61, 32, 97, 108, 108, 10, 114, 117, 108, 101, 32, 98, 32, 58, 32, 97, 32, 61, 32, 97, 108, 108]⟩, .int .i64 12, .int .i64 0, .int .i64 0, .string ⟨#[114, 117, 108, 101, 32, 97, 32, 58, 32, 124, 32, 97, 32, 61, 32, 97, 108, 108]⟩, .int .i64 12, .int .i64 0, .int .i64 0, .string ⟨#[114, 117, 108, 101, 32, 97, 32, 58, 32, 61, 32, 105, 110, 32, 49, 54]⟩, .int .i64 9, .int .i64 1, .int .i64 12, .string ⟨#[114, 117, 108, 101, 32, 97, 32, 58, 32, 61, 32, 34, 97, 108, 108, 34]⟩, .int .i64 9, .int .i64 1, .int .i64 12, .string ⟨#[114, 117, 108, 101, 32, 97, 32, 58, 32, 61, 32, 97, 108, 108, 32, 35, 32, 120]⟩, .int .i64 0, .int .i64 0, .int .i64 0]
/-- What the table holds at a place. -/
def MRow (w : World) (g k : Nat) : Prop := ∃ (l : List Nat) (kd ln col : Nat), w.cell? ⟨g, k * 4, none⟩ = some (.string (str l)) ∧ w.cell? ⟨g, k * 4 + 1, none⟩ = some (.int .i64 (kd : Int)) ∧ w.cell? ⟨g, k * 4 + 2, none⟩ = some (.int .i64 (ln : Int)) ∧ w.cell? ⟨g, k * 4 + 3, none⟩ = some (.int .i64 (col : Int)) ∧ manOk l kd ln col = true
set_option maxRecDepth 100000 in
theorem mforms_row (w : World) (k : Nat) (hk : k < 39) : MRow (w.alloc (.cells mformsC 24)) w.heap.size k := by
  have hl : ∀ j, (w.alloc (.cells mformsC 24)).cell? ⟨w.heap.size, j, none⟩ = mformsC[j]? := fun j => (show Blk (w.alloc (.cells mformsC 24)) w.heap.size 24 mformsC from heap_alloc_new w _).at j
  have h : k = 0 ∨ k = 1 ∨ k = 2 ∨ k = 3 ∨ k = 4 ∨ k = 5 ∨ k = 6 ∨ k = 7 ∨ k = 8 ∨ k = 9 ∨ k = 10 ∨ k = 11 ∨ k = 12 ∨ k = 13 ∨ k = 14 ∨ k = 15 ∨ k = 16 ∨ k = 17 ∨ k = 18 ∨ k = 19 ∨ k = 20 ∨ k = 21 ∨ k = 22 ∨ k = 23 ∨ k = 24 ∨ k = 25 ∨ k = 26 ∨ k = 27 ∨ k = 28 ∨ k = 29 ∨ k = 30 ∨ k = 31 ∨ k = 32 ∨ k = 33 ∨ k = 34 ∨ k = 35 ∨ k = 36 ∨ k = 37 ∨ k = 38 := by omega
  rcases h with rfl | rfl | rfl | rfl | rfl | rfl | rfl | rfl | rfl | rfl | rfl | rfl | rfl | rfl | rfl | rfl | rfl | rfl | rfl | rfl | rfl | rfl | rfl | rfl | rfl | rfl | rfl | rfl | rfl | rfl | rfl | rfl | rfl | rfl | rfl | rfl | rfl | rfl | rfl
  · exact ⟨[], 0, 0, 0, (hl 0).trans rfl, (hl 1).trans rfl, (hl 2).trans rfl, (hl 3).trans rfl, by decide +kernel⟩
  · exact ⟨[102, 111, 111], 4, 1, 1, (hl 4).trans rfl, (hl 5).trans rfl, (hl 6).trans rfl, (hl 7).trans rfl, by decide +kernel⟩
  · exact ⟨[34, 114, 117, 108, 101, 34, 32, 97, 32, 58, 32, 61, 32, 97, 108, 108], 4, 1, 1, (hl 8).trans rfl, (hl 9).trans rfl, (hl 10).trans rfl, (hl 11).trans rfl, by decide +kernel⟩
  · exact ⟨[114, 117, 108, 101], 4, 1, 1, (hl 12).trans rfl, (hl 13).trans rfl, (hl 14).trans rfl, (hl 15).trans rfl, by decide +kernel⟩
  · exact ⟨[114, 117, 108, 101, 32, 58], 4, 1, 6, (hl 16).trans rfl, (hl 17).trans rfl, (hl 18).trans rfl, (hl 19).trans rfl, by decide +kernel⟩
  · exact ⟨[114, 117, 108, 101, 32, 97], 4, 1, 1, (hl 20).trans rfl, (hl 21).trans rfl, (hl 22).trans rfl, (hl 23).trans rfl, by decide +kernel⟩
  · exact ⟨[114, 117, 108, 101, 32, 97, 32, 61, 32, 97, 108, 108], 4, 1, 8, (hl 24).trans rfl, (hl 25).trans rfl, (hl 26).trans rfl, (hl 27).trans rfl, by decide +kernel⟩
  · exact ⟨[114, 117, 108, 101, 32, 97, 32, 58, 32, 98], 4, 1, 1, (hl 28).trans rfl, (hl 29).trans rfl, (hl 30).trans rfl, (hl 31).trans rfl, by decide +kernel⟩
  · exact ⟨[114, 117, 108, 101, 32, 97, 32, 58, 32, 61], 9, 1, 1, (hl 32).trans rfl, (hl 33).trans rfl, (hl 34).trans rfl, (hl 35).trans rfl, by decide +kernel⟩
  · exact ⟨[114, 117, 108, 101, 32, 97, 32, 58, 32, 61, 32, 117, 112, 112, 101, 114], 9, 1, 12, (hl 36).trans rfl, (hl 37).trans rfl, (hl 38).trans rfl, (hl 39).trans rfl, by decide +kernel⟩
  · exact ⟨[114, 117, 108, 101, 32, 97, 32, 58, 32, 61, 32, 97, 108, 108, 32, 44, 32, 97, 108, 108], 7, 1, 18, (hl 40).trans rfl, (hl 41).trans rfl, (hl 42).trans rfl, (hl 43).trans rfl, by decide +kernel⟩
  · exact ⟨[114, 117, 108, 101, 32, 97, 32, 98, 32, 58, 32, 61, 32, 97, 108, 108], 4, 1, 1, (hl 44).trans rfl, (hl 45).trans rfl, (hl 46).trans rfl, (hl 47).trans rfl, by decide +kernel⟩
  · exact ⟨[114, 117, 108, 101, 32, 97, 32, 98, 32, 58, 32, 61, 32, 97, 108, 108, 32, 44], 9, 1, 1, (hl 48).trans rfl, (hl 49).trans rfl, (hl 50).trans rfl, (hl 51).trans rfl, by decide +kernel⟩
  · exact ⟨[114, 117, 108, 101, 32, 65, 32, 58, 32, 61, 32, 97, 108, 108], 5, 1, 6, (hl 52).trans rfl, (hl 53).trans rfl, (hl 54).trans rfl, (hl 55).trans rfl, by decide +kernel⟩
  · exact ⟨[114, 117, 108, 101, 32, 116, 114, 97, 99, 101, 32, 58, 32, 61, 32, 97, 108, 108], 5, 1, 6, (hl 56).trans rfl, (hl 57).trans rfl, (hl 58).trans rfl, (hl 59).trans rfl, by decide +kernel⟩
  · exact ⟨[114, 117, 108, 101, 32, 97, 32, 58, 32, 109, 97, 110, 105, 102, 101, 115, 116, 32, 61, 32, 97, 108, 108], 5, 1, 10, (hl 60).trans rfl, (hl 61).trans rfl, (hl 62).trans rfl, (hl 63).trans rfl, by decide +kernel⟩
  · exact ⟨[114, 117, 108, 101, 32, 97, 32, 97, 32, 58, 32, 61, 32, 97, 108, 108, 32, 44, 32, 97, 108, 108], 8, 1, 8, (hl 64).trans rfl, (hl 65).trans rfl, (hl 66).trans rfl, (hl 67).trans rfl, by decide +kernel⟩
  · exact ⟨[114, 117, 108, 101, 32, 97, 32, 58, 32, 61, 32, 97, 108, 108, 10, 114, 117, 108, 101, 32, 97, 32, 58, 32, 61, 32, 97, 108, 108], 8, 2, 6, (hl 68).trans rfl, (hl 69).trans rfl, (hl 70).trans rfl, (hl 71).trans rfl, by decide +kernel⟩
  · exact ⟨[114, 117, 108, 101, 32, 97, 32, 98, 32, 99, 32, 100, 32, 101, 32, 58, 32, 61, 32, 97, 108, 108], 7, 1, 14, (hl 72).trans rfl, (hl 73).trans rfl, (hl 74).trans rfl, (hl 75).trans rfl, by decide +kernel⟩
  · exact ⟨[114, 117, 108, 101, 32, 97, 32, 58, 32, 98, 32, 124, 32, 61, 32, 97, 108, 108], 0, 0, 0, (hl 76).trans rfl, (hl 77).trans rfl, (hl 78).trans rfl, (hl 79).trans rfl, by decide +kernel⟩
  · exact ⟨[114, 117, 108, 101, 32, 97, 32, 58, 32, 98, 32, 124, 32, 99, 32, 124, 32, 100, 32, 61, 32, 97, 108, 108], 4, 1, 16, (hl 80).trans rfl, (hl 81).trans rfl, (hl 82).trans rfl, (hl 83).trans rfl, by decide +kernel⟩
  · exact ⟨[114, 117, 108, 101, 32, 97, 32, 58, 32, 36, 120, 32, 61, 32, 97, 108, 108], 6, 1, 10, (hl 84).trans rfl, (hl 85).trans rfl, (hl 86).trans rfl, (hl 87).trans rfl, by decide +kernel⟩
  · exact ⟨[108, 101, 116, 32, 120, 32, 61, 32, 98, 10, 114, 117, 108, 101, 32, 97, 32, 58, 32, 36, 120, 32, 61, 32, 97, 108, 108], 0, 0, 0, (hl 88).trans rfl, (hl 89).trans rfl, (hl 90).trans rfl, (hl 91).trans rfl, by decide +kernel⟩
  · exact ⟨[108, 101, 116, 32, 120], 4, 1, 1, (hl 92).trans rfl, (hl 93).trans rfl, (hl 94).trans rfl, (hl 95).trans rfl, by decide +kernel⟩
  · exact ⟨[108, 101, 116, 32, 61, 32, 97], 4, 1, 5, (hl 96).trans rfl, (hl 97).trans rfl, (hl 98).trans rfl, (hl 99).trans rfl, by decide +kernel⟩
  · exact ⟨[108, 101, 116, 32, 120, 32, 97], 7, 1, 7, (hl 100).trans rfl, (hl 101).trans rfl, (hl 102).trans rfl, (hl 103).trans rfl, by decide +kernel⟩
  · exact ⟨[108, 101, 116, 32, 120, 32, 61], 0, 0, 0, (hl 104).trans rfl, (hl 105).trans rfl, (hl 106).trans rfl, (hl 107).trans rfl, by decide +kernel⟩
  · exact ⟨[108, 101, 116, 32, 120, 32, 61, 32, 36, 120], 6, 1, 9, (hl 108).trans rfl, (hl 109).trans rfl, (hl 110).trans rfl, (hl 111).trans rfl, by decide +kernel⟩
  · exact ⟨[112, 104, 111, 110, 121, 32, 97, 32, 58, 32, 98], 0, 0, 0, (hl 112).trans rfl, (hl 113).trans rfl, (hl 114).trans rfl, (hl 115).trans rfl, by decide +kernel⟩
  · exact ⟨[112, 104, 111, 110, 121, 32, 97, 32, 98, 32, 58, 32, 99], 7, 1, 9, (hl 116).trans rfl, (hl 117).trans rfl, (hl 118).trans rfl, (hl 119).trans rfl, by decide +kernel⟩
  · exact ⟨[112, 104, 111, 110, 121, 32, 97, 32, 58, 32, 98, 32, 61, 32, 99], 4, 1, 13, (hl 120).trans rfl, (hl 121).trans rfl, (hl 122).trans rfl, (hl 123).trans rfl, by decide +kernel⟩
  · exact ⟨[100, 101, 102, 97, 117, 108, 116], 4, 1, 1, (hl 124).trans rfl, (hl 125).trans rfl, (hl 126).trans rfl, (hl 127).trans rfl, by decide +kernel⟩
  · exact ⟨[100, 101, 102, 97, 117, 108, 116, 32, 97], 10, 1, 9, (hl 128).trans rfl, (hl 129).trans rfl, (hl 130).trans rfl, (hl 131).trans rfl, by decide +kernel⟩
  · exact ⟨[114, 117, 108, 101, 32, 97, 32, 58, 32, 61, 32, 97, 108, 108, 10, 100, 101, 102, 97, 117, 108, 116, 32, 97, 10, 100, 101, 102, 97, 117, 108, 116, 32, 97], 7, 3, 1, (hl 132).trans rfl, (hl 133).trans rfl, (hl 134).trans rfl, (hl 135).trans rfl, by decide +kernel⟩
  · exact ⟨[114, 117, 108, 101, 32, 97, 32, 58, 32, 98, 32, 61, 32, 97, 108, 108, 10, 114, 117, 108, 101, 32, 98, 32, 58, 32, 97, 32, 61, 32, 97, 108, 108], 12, 0, 0, (hl 136).trans rfl, (hl 137).trans rfl, (hl 138).trans rfl, (hl 139).trans rfl, by decide +kernel⟩
  · exact ⟨[114, 117, 108, 101, 32, 97, 32, 58, 32, 124, 32, 97, 32, 61, 32, 97, 108, 108], 12, 0, 0, (hl 140).trans rfl, (hl 141).trans rfl, (hl 142).trans rfl, (hl 143).trans rfl, by decide +kernel⟩
  · exact ⟨[114, 117, 108, 101, 32, 97, 32, 58, 32, 61, 32, 105, 110, 32, 49, 54], 9, 1, 12, (hl 144).trans rfl, (hl 145).trans rfl, (hl 146).trans rfl, (hl 147).trans rfl, by decide +kernel⟩
  · exact ⟨[114, 117, 108, 101, 32, 97, 32, 58, 32, 61, 32, 34, 97, 108, 108, 34], 9, 1, 12, (hl 148).trans rfl, (hl 149).trans rfl, (hl 150).trans rfl, (hl 151).trans rfl, by decide +kernel⟩
  · exact ⟨[114, 117, 108, 101, 32, 97, 32, 58, 32, 61, 32, 97, 108, 108, 32, 35, 32, 120], 0, 0, 0, (hl 152).trans rfl, (hl 153).trans rfl, (hl 154).trans rfl, (hl 155).trans rfl, by decide +kernel⟩
set_option maxRecDepth 100000 in
set_option maxHeartbeats 16000000 in
theorem mforms_at (a : Int) (k : Nat) (hk : k < 39) (hm : (bits .and .i64 a 255).tmod 39 = (k : Int)) (w : World) (hTab : ∀ W, Below w.heap.size w W → Tabs W) :
    Calls Tryz.prog 3 #[.int .i64 a] w fun e w' => e = .returned (.bool true) ∧ Below w.heap.size w w' := by
  have HTab := Lib.hid hTab
  have HK := Lib.hid hk
  clear hTab
  go_enter Tryz.func3, Tryz.ntmps3
  go_upto_region 1 with fail
  go_cut [3] (fun s3 wx => ∃ g, s3 = .slice (some ⟨g, 0, none⟩) 39 39 ∧ Hid (MRow wx g k) ∧ Hid (Below w.heap.size w wx))
  case first =>
    clear hm
    go_wp2_with fail
    refine mwp_of_run (v := .slice (some ⟨w.heap.size, 0, none⟩) 39 39) (w' := w.alloc (.cells mformsC 24)) (by kernel_rfl) ?_
    go_wp2_with fail
    go_meet
    exact ⟨w.heap.size, rfl, Lib.hid (mforms_row w k hk), Lib.hid ((Below.refl _ _).alloc (Nat.le_refl _) _)⟩
  case rest =>
    obtain ⟨g, rfl, hrow, hb⟩ := hcut
    obtain ⟨w0, rfl⟩ : ∃ wx : World, wx = wc := ⟨_, rfl⟩
    obtain ⟨l, kd, ln, col, c0, c1, c2, c3, hok⟩ := hrow.out
    have hkI : (k : Int) < 39 := by omega
    have hk0 : (0 : Int) ≤ (k : Int) := by omega
    have HOK := Lib.hid (manOk_of hok)
    clear hrow hok
    have hl : (str l).data.toList.map (·.toNat) = l := by rw [str_data, str_nat HOK.out.1]
    have HL := Lib.hid hl
    clear hl
    go_upto_region 2 with fail
    go_cut [4] (fun s4 wx => s4 = .pointer (some ⟨w0.heap.size, 0, none⟩) ∧ wx = w0.alloc (.cells #[.string (str l), .int .i64 (kd : Int), .int .i64 (ln : Int), .int .i64 (col : Int)] 24))
    case first =>
      go_wp2_with fail
      go_meet
      exact ⟨rfl, rfl⟩
    case rest =>
      obtain ⟨rfl, hwc⟩ := hcut
      obtain ⟨w1, rfl⟩ : ∃ wx : World, wx = wc := ⟨_, rfl⟩
      have HX1 : Hid (Below w0.heap.size w0 w1) := Lib.hid (by rw [hwc]; exact (Below.refl _ _).alloc (Nat.le_refl _) _)
      have HB1 := Lib.hid (hb.out.trans (HX1.out.mono hb.out.size))
      have HK1 : Hid (Blk w1 w0.heap.size 24 #[.string (str l), .int .i64 (kd : Int), .int .i64 (ln : Int), .int .i64 (col : Int)]) := Lib.hid (by rw [hwc]; exact heap_alloc_new w0 _)
      have kb := fun (w : World) (s : ByteArray) => run_bytes_of_string (P := Tryz.prog) w 9 32 5 s Tryz.underlying9 Tryz.underlying32 Tryz.underlying5
      have q0 := HK1.out.at 0
      change w1.cell? ⟨w0.heap.size, 0, none⟩ = some (.string (str l)) at q0
      have HZ1 : Hid (w.heap.size ≤ w1.heap.size) := Lib.hid HB1.out.size
      clear hwc hm hkI hk0 hk HK c0 c1 c2 c3
      go_wp2_with fail
      refine (mparse_any _ l _ (Bytes.drew (bytes_of_text w1 (str l) l _ rfl _ _ HL.out (grownCap_ge _ _ _ _) (by rw [str_size]; have := HOK.out.2.1; omega) _)) (by have := HOK.out.2.1; omega)
        (fun W hb2 => HTab.out W (below_on (HB1.out.alloc HZ1.out _) (hb2.mono (by have := HZ1.out; simp; omega)) ⟨rfl, rfl, rfl, Nat.le_refl _, fun _ _ => rfl⟩))).mono ?_
      intro e w2 hp
      rcases HOK.out.2.2 with ⟨m, hpm, h1, h2, h3⟩ | ⟨hpm, h1⟩
      · subst h1 h2 h3
        obtain ⟨v, rfl, hrd, hb2⟩ := parsed_ok hp hpm
        obtain ⟨rv, dv, rfl, hsr, hsd⟩ := hrd
        obtain ⟨ra, rc, rfl⟩ := hsr.shape
        obtain ⟨da, dc, rfl, -⟩ := hsd
        clear hsr
        have HW2 : Hid (Below w1.heap.size w1 w2) := Lib.hid (below_on ((Below.refl _ _).alloc (Nat.le_refl _) _) (hb2.mono (by simp)) ⟨rfl, rfl, rfl, Nat.le_refl _, fun _ _ => rfl⟩)
        have HK2 := Lib.hid (HK1.out.under HW2.out)
        have HB2 : Hid (Below w.heap.size w w2) := Lib.hid (HB1.out.trans (HW2.out.mono HZ1.out))
        have z1 : ∀ o1 o2, ((w2.alloc o1).alloc o2).cell? ⟨w0.heap.size, 1, none⟩ = some (.int .i64 0) := fun o1 o2 => ((HK2.out.alloc o1).alloc o2).at 1
        have z2 : ∀ o1 o2, ((w2.alloc o1).alloc o2).cell? ⟨w0.heap.size, 2, none⟩ = some (.int .i64 0) := fun o1 o2 => ((HK2.out.alloc o1).alloc o2).at 2
        have z3 : ∀ o1 o2, ((w2.alloc o1).alloc o2).cell? ⟨w0.heap.size, 3, none⟩ = some (.int .i64 0) := fun o1 o2 => ((HK2.out.alloc o1).alloc o2).at 3
        have HZ2 : Hid (w.heap.size ≤ w2.heap.size) := Lib.hid HB2.out.size
        have HB4 : Hid (∀ o1 o2, Below w.heap.size w ((w2.alloc o1).alloc o2)) := Lib.hid (fun o1 o2 => (HB2.out.alloc HZ2.out o1).alloc (by have := HZ2.out; simp; omega) o2)
        clear hb2 hp hpm kb q0
        go_wp2_with fail
        refine (mawake_any _ (fun W hb3 => HTab.out W ((HB4.out _ _).trans (hb3.mono (by have := HZ2.out; simp; omega))))).mono ?_
        rintro e w3 ⟨rfl, hb3⟩
        have HB5 : Hid (Below w.heap.size w w3) := Lib.hid ((HB4.out _ _).trans (hb3.mono (by have := HZ2.out; simp; omega)))
        clear hb3 z1 z2 z3
        go_wp2
        go_ret
        exact ⟨rfl, HB5.out⟩
      · obtain ⟨he, hb2⟩ := parsed_bad hp hpm
        rw [show zeroM = .agg #[.slice none 0 0, .slice none 0 0] from rfl, show FaultV ⟨kd, ln, col⟩ = .agg #[.int .i64 (kd : Int), .int .i64 (ln : Int), .int .i64 (col : Int)] from rfl] at he
        subst he
        have hk1 : ((kd : Int) == 0) = false := by simp; omega
        clear h1
        have HW2 : Hid (Below w1.heap.size w1 w2) := Lib.hid (below_on ((Below.refl _ _).alloc (Nat.le_refl _) _) (hb2.mono (by simp)) ⟨rfl, rfl, rfl, Nat.le_refl _, fun _ _ => rfl⟩)
        have HK2 := Lib.hid (HK1.out.under HW2.out)
        have HB2 : Hid (Below w.heap.size w w2) := Lib.hid (HB1.out.trans (HW2.out.mono HZ1.out))
        have z1 : ∀ o1 o2, ((w2.alloc o1).alloc o2).cell? ⟨w0.heap.size, 1, none⟩ = some (.int .i64 (kd : Int)) := fun o1 o2 => ((HK2.out.alloc o1).alloc o2).at 1
        have z2 : ∀ o1 o2, ((w2.alloc o1).alloc o2).cell? ⟨w0.heap.size, 2, none⟩ = some (.int .i64 (ln : Int)) := fun o1 o2 => ((HK2.out.alloc o1).alloc o2).at 2
        have z3 : ∀ o1 o2, ((w2.alloc o1).alloc o2).cell? ⟨w0.heap.size, 3, none⟩ = some (.int .i64 (col : Int)) := fun o1 o2 => ((HK2.out.alloc o1).alloc o2).at 3
        have HZ2 : Hid (w.heap.size ≤ w2.heap.size) := Lib.hid HB2.out.size
        have HB4 : Hid (∀ o1 o2, Below w.heap.size w ((w2.alloc o1).alloc o2)) := Lib.hid (fun o1 o2 => (HB2.out.alloc HZ2.out o1).alloc (by have := HZ2.out; simp; omega) o2)
        clear hb2 hp hpm kb q0
        go_wp2_with fail
        refine (mawake_any _ (fun W hb3 => HTab.out W ((HB4.out _ _).trans (hb3.mono (by have := HZ2.out; simp; omega))))).mono ?_
        rintro e w3 ⟨rfl, hb3⟩
        have HB5 : Hid (Below w.heap.size w w3) := Lib.hid ((HB4.out _ _).trans (hb3.mono (by have := HZ2.out; simp; omega)))
        clear hb3 z1 z2 z3
        go_wp2
        go_ret
        exact ⟨rfl, HB5.out⟩
end Go.Proofs.YtgjehlegcmeeoaaGreatDoor
