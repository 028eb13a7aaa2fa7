/- How package acts reads the words of one thing. -/
import Derived.Test.YtfeaolcgjkkadaaDoorActNum
import Derived.Test.YtfeaolcgjkkadaaDoorActCut
import Derived.Deep.DeepCutAuto
import Derived.Deep.CutRange
namespace Go.Proofs.YtfeaolcgjkkadaaDoor
set_option maxRecDepth 100000
open Go.ChangeShapes Go.WideShapes Go.ChangeAt Go.RowKit

def ReadIs (w : World) (e : Ending) (w' : World) : Option Ac.E → Prop
  | some d => e = .returned (.tuple #[.agg (cellsE d).toArray, .bool true]) ∧ Below w.heap.size w w'
  | none => e = .returned (.tuple #[.agg (cellsE ⟨0, 0, []⟩).toArray, .bool false]) ∧ Below w.heap.size w w'
theorem read_none {w w' : World} {e : Ending} {T : Option Ac.E} (h : T = none) (he : e = .returned (.tuple #[.agg (cellsE ⟨0, 0, []⟩).toArray, .bool false])) (hb : Below w.heap.size w w') : ReadIs w e w' T := by
  rw [h]
  exact ⟨he, hb⟩
theorem read_some {w w' : World} {e : Ending} {T : Option Ac.E} {d : Ac.E} (h : T = some d) (he : e = .returned (.tuple #[.agg (cellsE d).toArray, .bool true])) (hb : Below w.heap.size w w') : ReadIs w e w' T := by
  rw [h]
  exact ⟨he, hb⟩
theorem kind_le (t : List Nat) : Ac.kindOf t ≤ 11 := by
  unfold Ac.kindOf
  split
  · omega
  · split <;> omega
def oneKind (k : Nat) (r : List Ln.W) : Option Ac.E :=
  if Ac.isText k then (textOf r).map fun t => ⟨k, 0, t⟩
  else if Ac.most k ≠ 0 then (numOf r).map fun v => ⟨k, v, []⟩
  else if r.length = 0 then some ⟨k, 0, []⟩ else none
theorem oneE_kind (xt : List Nat) (xl xc : Nat) (r : List Ln.W) : Ac.oneE (⟨xt, xl, xc, false⟩ :: r) = oneKind (Ac.kindOf xt) r := by
  have e2 : Ac.oneE (⟨xt, xl, xc, false⟩ :: r) = if Ac.isText (Ac.kindOf xt) then match r with
      | [y] => if y.q then some ⟨Ac.kindOf xt, 0, y.text⟩ else none
      | _ => none
    else if Ac.most (Ac.kindOf xt) ≠ 0 then match r with
      | [y] => if y.q then none else match Ac.numE y.text with
        | some v => some ⟨Ac.kindOf xt, v, []⟩
        | none => none
      | _ => none
    else match r with
      | [] => some ⟨Ac.kindOf xt, 0, []⟩
      | _ => none := by unfold Ac.oneE; rfl
  rw [e2]
  unfold oneKind
  generalize Ac.kindOf xt = k
  by_cases h1 : Ac.isText k = true
  · rw [if_pos h1, if_pos h1]
    rcases r with _ | ⟨⟨yt, yl, yc, yq⟩, _ | ⟨y2, r⟩⟩
    · rfl
    · cases yq <;> rfl
    · rfl
  · rw [if_neg h1, if_neg h1]
    by_cases h2 : Ac.most k ≠ 0
    · rw [if_pos h2, if_pos h2]
      rcases r with _ | ⟨⟨yt, yl, yc, yq⟩, _ | ⟨y2, r⟩⟩
      · rfl
      · cases yq
        · show (match Ac.numE yt with
            | some v => some (Ac.E.mk k v [])
            | none => none) = (Ac.numE yt).map _
          rcases Ac.numE yt <;> rfl
        · rfl
      · rfl
    · rw [if_neg h2, if_neg h2]
      rcases r with _ | ⟨y, r⟩
      · rfl
      · rfl
set_option maxRecDepth 100000 in
set_option maxHeartbeats 16000000 in
theorem readw_any (v : Value) (R : List Ln.W) (w : World) (hv : RdW w v R) (ht : ∀ x ∈ R, (∀ c ∈ x.text, c < 256) ∧ x.text.length ≤ 1099511627776) (hTab : Tabs w) (T : Option Ac.E) (hT : T = Ac.oneE R) :
    Calls Tryd.prog 18 #[v] w fun e w' => ReadIs w e w' T := by
  have HV := Lib.hid hv
  have HT := Lib.hid hT
  have HTX := Lib.hid ht
  have HTab := Lib.hid hTab
  have HBX : Hid (∀ o, Below w.heap.size w (w.alloc o)) := Lib.hid (fun o => (Below.refl _ _).alloc (Nat.le_refl _) o)
  obtain ⟨A, c, rfl, hc⟩ := hv.parts2
  clear hv hT ht hTab
  rcases R with _ | ⟨⟨xt, xl, xc, xq⟩, r⟩
  · obtain rfl : T = none := HT.out
    rw [show ([] : List Ln.W).length = 0 from rfl] at hc ⊢
    have HR := Lib.hid (heap_alloc_new w (.cells #[.int .i64 0, .int .i64 0, .string ⟨#[]⟩] 28))
    have HR2 : Hid (Blk (w.alloc (.cells #[.int .i64 0, .int .i64 0, .string ⟨#[]⟩] 28)) w.heap.size 28 #[.int .i64 0, .int .i64 0, .string ⟨#[]⟩]) := HR
    go_enter Tryd.func18, Tryd.ntmps18
    go_wp2
    refine bodyPost_ret (results_cell_tmp1 rfl _ _ w.heap.size _ _ _ _ rfl HR2.out Tryd.underlying28 rfl (by kernel_rfl)) rfl ?_
    exact read_none rfl rfl (HBX.out _)
  · obtain ⟨n, hn⟩ : ∃ n, (⟨xt, xl, xc, xq⟩ :: r : List Ln.W).length = n := ⟨_, rfl⟩
    have HN : Hid (r.length + 1 = n) := Lib.hid hn
    rw [hn] at hc HV ⊢
    have hn0 : ((n : Int) == 0) = false := by have := HN.out; simp; omega
    have hnI : (0 : Int) < (n : Int) := by have := HN.out; omega
    obtain ⟨b, off, rfl, a0, -, -, a3⟩ := HV.out.at2 0 (by simp)
    change w.cell? ⟨b, off + 0 * 4, none⟩ = some (.string (str xt)) at a0
    change w.cell? ⟨b, off + 0 * 4 + 3, none⟩ = some (.bool xq) at a3
    rw [Nat.zero_mul, Nat.add_zero] at a0 a3
    have k0 : ∀ o, (w.alloc o).cell? ⟨b, off, none⟩ = some (.string (str xt)) := fun o => (World.cell?_alloc_lt w o _ (World.block_lt_of_cell? _ _ a0)).trans a0
    have k3 : ∀ o, (w.alloc o).cell? ⟨b, off + 3, none⟩ = some (.bool xq) := fun o => (World.cell?_alloc_lt w o _ (World.block_lt_of_cell? _ _ a3)).trans a3
    have k00 : ∀ o o', ((w.alloc o).alloc o').cell? ⟨b, off, none⟩ = some (.string (str xt)) := fun o o' => (World.cell?_alloc_lt _ o' _ (World.block_lt_of_cell? _ _ (k0 o))).trans (k0 o)
    clear a0 a3 hn
    rcases xq with _ | _
    · obtain ⟨K, hK⟩ : ∃ K, Ac.kindOf xt = K := ⟨_, rfl⟩
      have hK11 : K ≤ 11 := by rw [← hK]; exact kind_le xt
      have HKA : Hid (∀ W, Calls Tryd.prog 30 #[.string (str xt)] W fun e w' => e = .returned (.int .i64 (K : Int)) ∧ W = w') := Lib.hid (fun W => by rw [← hK]; exact kind_any xt W (HTX.out ⟨xt, xl, xc, false⟩ (by simp)).1)
      have HT2 : Hid (T = oneKind K r) := Lib.hid (by rw [HT.out, oneE_kind, hK])
      have HTR : Hid (∀ x ∈ r, (∀ c ∈ x.text, c < 256) ∧ x.text.length ≤ 1099511627776) := Lib.hid (fun x hx => HTX.out x (by simp [hx]))
      have hcn : (n : Int) ≤ (c : Int) := by omega
      have hn1 : (1 : Int) ≤ (n : Int) := by omega
      have hc1I : (1 : Int) ≤ (c : Int) := by omega
      have hc1N : 1 ≤ c := by omega
      have hn1N : 1 ≤ n := by omega
      have HSL : Hid (∀ W A', Below w.heap.size w W → (1 < n → A' = some ⟨b, off + 1 * 4, none⟩) → RdW W (.slice A' (n - 1) (c - 1)) r) := Lib.hid (fun W A' hb hA => by
        have := (HV.out.under hb).slice (fr := 1) (i := n) (by omega) (Nat.le_refl _) hA
        rwa [List.take_of_length_le (by rw [List.length_drop, List.length_cons]; have := HN.out; omega)] at this)
      clear hK HTX HT
      obtain ⟨s, hs⟩ : ∃ s, str xt = s := ⟨_, rfl⟩
      rw [hs] at k0 k00 HKA
      clear hs HV
      have HW2 : Hid (Below w.heap.size w (((w.alloc (.cells #[.int .i64 0, .int .i64 0, .string ⟨#[]⟩] 28)).alloc (.cells #[.int .i64 (K : Int), .int .i64 0, .string ⟨#[]⟩] 28)).drew) ∧ Blk (((w.alloc (.cells #[.int .i64 0, .int .i64 0, .string ⟨#[]⟩] 28)).alloc (.cells #[.int .i64 (K : Int), .int .i64 0, .string ⟨#[]⟩] 28)).drew) w.heap.size 28 #[.int .i64 0, .int .i64 0, .string ⟨#[]⟩] ∧ Blk (((w.alloc (.cells #[.int .i64 0, .int .i64 0, .string ⟨#[]⟩] 28)).alloc (.cells #[.int .i64 (K : Int), .int .i64 0, .string ⟨#[]⟩] 28)).drew) (w.heap.size + 1) 28 #[.int .i64 (K : Int), .int .i64 0, .string ⟨#[]⟩]) := Lib.hid (by
        have b1 := HBX.out (.cells #[.int .i64 0, .int .i64 0, .string ⟨#[]⟩] 28)
        have b2 := b1.alloc b1.size (.cells #[.int .i64 (K : Int), .int .i64 0, .string ⟨#[]⟩] 28)
        have k1 : Blk (w.alloc (.cells #[.int .i64 0, .int .i64 0, .string ⟨#[]⟩] 28)) w.heap.size 28 #[.int .i64 0, .int .i64 0, .string ⟨#[]⟩] := heap_alloc_new w _
        have k2 : Blk ((w.alloc (.cells #[.int .i64 0, .int .i64 0, .string ⟨#[]⟩] 28)).alloc (.cells #[.int .i64 (K : Int), .int .i64 0, .string ⟨#[]⟩] 28)) (w.heap.size + 1) 28 #[.int .i64 (K : Int), .int .i64 0, .string ⟨#[]⟩] := by
          have := heap_alloc_new (w.alloc (.cells #[.int .i64 0, .int .i64 0, .string ⟨#[]⟩] 28)) (.cells #[.int .i64 (K : Int), .int .i64 0, .string ⟨#[]⟩] 28)
          rwa [show (w.alloc (.cells #[.int .i64 0, .int .i64 0, .string ⟨#[]⟩] 28)).heap.size = w.heap.size + 1 from by simp] at this
        exact ⟨b2.drew, (k1.alloc _).heap rfl, k2.heap rfl⟩)
      have HRL : Hid (r.length = n - 1) := Lib.hid (by have := HN.out; omega)
      obtain ⟨ad, had⟩ : ∃ ad : Addr, (if c = 1 then some (⟨b, off, none⟩ : Addr) else some ⟨b, off + 4, none⟩) = some ad := by split <;> exact ⟨_, rfl⟩
      have HAD : Hid (1 < n → some ad = some ⟨b, off + 1 * 4, none⟩) := Lib.hid (fun h => by rw [← had, if_neg (by omega)])
      go_enter Tryd.func18, Tryd.ntmps18
      go_upto_region 3 with fail
      go_cut [4, 5] (fun s4 s5 wx => ∃ A1 q c1, s4 = .pointer (some ⟨w.heap.size + 1, 0, none⟩) ∧ s5 = .slice A1 q c1 ∧ Hid (r.length = q) ∧ Hid (RdW wx (.slice A1 q c1) r) ∧ Hid (Blk wx w.heap.size 28 #[.int .i64 0, .int .i64 0, .string ⟨#[]⟩]) ∧ Hid (Blk wx (w.heap.size + 1) 28 #[.int .i64 (K : Int), .int .i64 0, .string ⟨#[]⟩]) ∧ Hid (Below w.heap.size w wx))
      case first =>
        go_region_with (go_at_call 30; refine (HKA.out _).mono ?_; rintro e w3 ⟨rfl, rfl⟩)
        all_goals (go_wp2_with fail; go_meet; exact ⟨_, _, _, rfl, rfl, HRL, Lib.hid (HSL.out _ _ HW2.out.1 HAD.out), Lib.hid HW2.out.2.1, Lib.hid HW2.out.2.2, Lib.hid HW2.out.1⟩)
      case rest =>
        obtain ⟨A1, q, c1, rfl, rfl, HQ, HR, HK1, HK2, HBW⟩ := hcut
        obtain ⟨wz, rfl⟩ : ∃ wx : World, wx = wc := ⟨_, rfl⟩
        clear HW2 HRL had HAD HKA k0 k00 k3 HSL
        have c0 := HK2.out.at 0
        have c2 := HK2.out.at 2
        have f2 := HK2.out.free 2
        have c1' := HK2.out.at 1
        have f1 := HK2.out.free 1
        change wz.cell? ⟨w.heap.size + 1, 0, none⟩ = some (.int .i64 (K : Int)) at c0
        change wz.cell? ⟨w.heap.size + 1, 1, none⟩ = some (.int .i64 0) at c1'
        change wz.cell? ⟨w.heap.size + 1, 2, none⟩ = some (.string ⟨#[]⟩) at c2
        by_cases h1 : K = 1
        · as_aux_lemma =>
          have e1 : ((K : Int) == 1) = true := by simp; omega
          obtain ⟨U, hU⟩ : ∃ U, U = textOf r := ⟨_, rfl⟩
          have HTA := Lib.hid (text_any (.slice A1 q c1) r wz HR.out U hU)
          have HT3 : Hid (T = U.map fun t => ⟨K, 0, t⟩) := Lib.hid (by rw [HT2.out, hU, h1]; rfl)
          have HJ1 := HK1
          have HJ2 := HK2
          clear hU HT2 h1
          rcases U with _ | t
          · go_upto_region 14 with (go_at_call 31; refine HTA.out.mono ?_; rintro e w3 ⟨rfl, rfl⟩)
            have HL1 : Hid (Blk (wz.setCell ⟨w.heap.size + 1, 2, none⟩ (.string (str []))) w.heap.size 28 #[.int .i64 0, .int .i64 0, .string ⟨#[]⟩]) := Lib.hid (HJ1.out.setOther (by simp) _)
            have HL2 : Hid (Blk (wz.setCell ⟨w.heap.size + 1, 2, none⟩ (.string (str []))) (w.heap.size + 1) 28 #[.int .i64 (K : Int), .int .i64 0, .string (str [])]) := Lib.hid (HJ2.out.set 2 _)
            have HLB : Hid (Below w.heap.size w (wz.setCell ⟨w.heap.size + 1, 2, none⟩ (.string (str [])))) := Lib.hid (HBW.out.setCell (by simp) _)
            obtain ⟨w4, hw4⟩ : ∃ w4, w4 = (wz.setCell ⟨w.heap.size + 1, 2, none⟩ (.string (str []))) := ⟨_, rfl⟩
            rw [← hw4] at HL1 HL2 HLB ⊢
            clear hw4 HJ1 HJ2 HK1 HK2 c0 c1' c2 f1 f2
            have d0 := HL1.out.at 0
            have g0 := HL1.out.free 0
            have d1 := HL1.out.at 1
            have g1 := HL1.out.free 1
            have d2 := HL1.out.at 2
            have g2 := HL1.out.free 2
            change w4.cell? ⟨w.heap.size, 0, none⟩ = some (.int .i64 0) at d0
            change w4.cell? ⟨w.heap.size, 1, none⟩ = some (.int .i64 0) at d1
            change w4.cell? ⟨w.heap.size, 2, none⟩ = some (.string ⟨#[]⟩) at d2
            have HF : Hid (Blk (((w4.setCell ⟨w.heap.size, 0, none⟩ (.int .i64 0)).setCell ⟨w.heap.size, 1, none⟩ (.int .i64 0)).setCell ⟨w.heap.size, 2, none⟩ (.string ⟨#[]⟩)) w.heap.size 28 #[(.int .i64 0), (.int .i64 0), (.string ⟨#[]⟩)]) := Lib.hid (((HL1.out.set 0 _).set 1 _).set 2 _)
            have HFB : Hid (Below w.heap.size w (((w4.setCell ⟨w.heap.size, 0, none⟩ (.int .i64 0)).setCell ⟨w.heap.size, 1, none⟩ (.int .i64 0)).setCell ⟨w.heap.size, 2, none⟩ (.string ⟨#[]⟩))) := Lib.hid (((HLB.out.setCell (Nat.le_refl _) _).setCell (Nat.le_refl _) _).setCell (Nat.le_refl _) _)
            go_wp2
            refine bodyPost_ret (results_cell_tmp1 rfl _ _ w.heap.size _ _ _ _ rfl HF.out Tryd.underlying28 rfl (by kernel_rfl)) rfl ?_
            exact read_none HT3.out rfl HFB.out
          · go_upto_region 14 with (go_at_call 31; refine HTA.out.mono ?_; rintro e w3 ⟨rfl, rfl⟩)
            have HL1 : Hid (Blk (wz.setCell ⟨w.heap.size + 1, 2, none⟩ (.string (str t))) w.heap.size 28 #[.int .i64 0, .int .i64 0, .string ⟨#[]⟩]) := Lib.hid (HJ1.out.setOther (by simp) _)
            have HL2 : Hid (Blk (wz.setCell ⟨w.heap.size + 1, 2, none⟩ (.string (str t))) (w.heap.size + 1) 28 #[.int .i64 (K : Int), .int .i64 0, .string (str t)]) := Lib.hid (HJ2.out.set 2 _)
            have HLB : Hid (Below w.heap.size w (wz.setCell ⟨w.heap.size + 1, 2, none⟩ (.string (str t)))) := Lib.hid (HBW.out.setCell (by simp) _)
            obtain ⟨w4, hw4⟩ : ∃ w4, w4 = (wz.setCell ⟨w.heap.size + 1, 2, none⟩ (.string (str t))) := ⟨_, rfl⟩
            rw [← hw4] at HL1 HL2 HLB ⊢
            clear hw4 HJ1 HJ2 HK1 HK2 c0 c1' c2 f1 f2
            have d0 := HL1.out.at 0
            have g0 := HL1.out.free 0
            have d1 := HL1.out.at 1
            have g1 := HL1.out.free 1
            have d2 := HL1.out.at 2
            have g2 := HL1.out.free 2
            change w4.cell? ⟨w.heap.size, 0, none⟩ = some (.int .i64 0) at d0
            change w4.cell? ⟨w.heap.size, 1, none⟩ = some (.int .i64 0) at d1
            change w4.cell? ⟨w.heap.size, 2, none⟩ = some (.string ⟨#[]⟩) at d2
            have x0 := HL2.out.at 0
            have x1 := HL2.out.at 1
            have x2 := HL2.out.at 2
            change w4.cell? ⟨w.heap.size + 1, 0, none⟩ = some (.int .i64 (K : Int)) at x0
            change w4.cell? ⟨w.heap.size + 1, 1, none⟩ = some (.int .i64 0) at x1
            change w4.cell? ⟨w.heap.size + 1, 2, none⟩ = some (.string (str t)) at x2
            have HF : Hid (Blk (((w4.setCell ⟨w.heap.size, 0, none⟩ (.int .i64 (K : Int))).setCell ⟨w.heap.size, 1, none⟩ (.int .i64 0)).setCell ⟨w.heap.size, 2, none⟩ (.string (str t))) w.heap.size 28 #[(.int .i64 (K : Int)), (.int .i64 0), (.string (str t))]) := Lib.hid (((HL1.out.set 0 _).set 1 _).set 2 _)
            have HFB : Hid (Below w.heap.size w (((w4.setCell ⟨w.heap.size, 0, none⟩ (.int .i64 (K : Int))).setCell ⟨w.heap.size, 1, none⟩ (.int .i64 0)).setCell ⟨w.heap.size, 2, none⟩ (.string (str t)))) := Lib.hid (((HLB.out.setCell (Nat.le_refl _) _).setCell (Nat.le_refl _) _).setCell (Nat.le_refl _) _)
            go_wp2
            refine bodyPost_ret (results_cell_tmp1 rfl _ _ w.heap.size _ _ _ _ rfl HF.out Tryd.underlying28 rfl (by kernel_rfl)) rfl ?_
            exact read_some HT3.out rfl HFB.out
        by_cases h10 : K = 10
        · as_aux_lemma =>
          have e1 : ((K : Int) == 1) = false := by simp; omega
          have e10 : ((K : Int) == 10) = true := by simp; omega
          obtain ⟨U, hU⟩ : ∃ U, U = textOf r := ⟨_, rfl⟩
          have HTA := Lib.hid (text_any (.slice A1 q c1) r wz HR.out U hU)
          have HT3 : Hid (T = U.map fun t => ⟨K, 0, t⟩) := Lib.hid (by rw [HT2.out, hU, h10]; rfl)
          have HJ1 := HK1
          have HJ2 := HK2
          clear hU HT2 h10
          rcases U with _ | t
          · go_upto_region 14 with (go_at_call 31; refine HTA.out.mono ?_; rintro e w3 ⟨rfl, rfl⟩)
            have HL1 : Hid (Blk (wz.setCell ⟨w.heap.size + 1, 2, none⟩ (.string (str []))) w.heap.size 28 #[.int .i64 0, .int .i64 0, .string ⟨#[]⟩]) := Lib.hid (HJ1.out.setOther (by simp) _)
            have HL2 : Hid (Blk (wz.setCell ⟨w.heap.size + 1, 2, none⟩ (.string (str []))) (w.heap.size + 1) 28 #[.int .i64 (K : Int), .int .i64 0, .string (str [])]) := Lib.hid (HJ2.out.set 2 _)
            have HLB : Hid (Below w.heap.size w (wz.setCell ⟨w.heap.size + 1, 2, none⟩ (.string (str [])))) := Lib.hid (HBW.out.setCell (by simp) _)
            obtain ⟨w4, hw4⟩ : ∃ w4, w4 = (wz.setCell ⟨w.heap.size + 1, 2, none⟩ (.string (str []))) := ⟨_, rfl⟩
            rw [← hw4] at HL1 HL2 HLB ⊢
            clear hw4 HJ1 HJ2 HK1 HK2 c0 c1' c2 f1 f2
            have d0 := HL1.out.at 0
            have g0 := HL1.out.free 0
            have d1 := HL1.out.at 1
            have g1 := HL1.out.free 1
            have d2 := HL1.out.at 2
            have g2 := HL1.out.free 2
            change w4.cell? ⟨w.heap.size, 0, none⟩ = some (.int .i64 0) at d0
            change w4.cell? ⟨w.heap.size, 1, none⟩ = some (.int .i64 0) at d1
            change w4.cell? ⟨w.heap.size, 2, none⟩ = some (.string ⟨#[]⟩) at d2
            have HF : Hid (Blk (((w4.setCell ⟨w.heap.size, 0, none⟩ (.int .i64 0)).setCell ⟨w.heap.size, 1, none⟩ (.int .i64 0)).setCell ⟨w.heap.size, 2, none⟩ (.string ⟨#[]⟩)) w.heap.size 28 #[(.int .i64 0), (.int .i64 0), (.string ⟨#[]⟩)]) := Lib.hid (((HL1.out.set 0 _).set 1 _).set 2 _)
            have HFB : Hid (Below w.heap.size w (((w4.setCell ⟨w.heap.size, 0, none⟩ (.int .i64 0)).setCell ⟨w.heap.size, 1, none⟩ (.int .i64 0)).setCell ⟨w.heap.size, 2, none⟩ (.string ⟨#[]⟩))) := Lib.hid (((HLB.out.setCell (Nat.le_refl _) _).setCell (Nat.le_refl _) _).setCell (Nat.le_refl _) _)
            go_wp2
            refine bodyPost_ret (results_cell_tmp1 rfl _ _ w.heap.size _ _ _ _ rfl HF.out Tryd.underlying28 rfl (by kernel_rfl)) rfl ?_
            exact read_none HT3.out rfl HFB.out
          · go_upto_region 14 with (go_at_call 31; refine HTA.out.mono ?_; rintro e w3 ⟨rfl, rfl⟩)
            have HL1 : Hid (Blk (wz.setCell ⟨w.heap.size + 1, 2, none⟩ (.string (str t))) w.heap.size 28 #[.int .i64 0, .int .i64 0, .string ⟨#[]⟩]) := Lib.hid (HJ1.out.setOther (by simp) _)
            have HL2 : Hid (Blk (wz.setCell ⟨w.heap.size + 1, 2, none⟩ (.string (str t))) (w.heap.size + 1) 28 #[.int .i64 (K : Int), .int .i64 0, .string (str t)]) := Lib.hid (HJ2.out.set 2 _)
            have HLB : Hid (Below w.heap.size w (wz.setCell ⟨w.heap.size + 1, 2, none⟩ (.string (str t)))) := Lib.hid (HBW.out.setCell (by simp) _)
            obtain ⟨w4, hw4⟩ : ∃ w4, w4 = (wz.setCell ⟨w.heap.size + 1, 2, none⟩ (.string (str t))) := ⟨_, rfl⟩
            rw [← hw4] at HL1 HL2 HLB ⊢
            clear hw4 HJ1 HJ2 HK1 HK2 c0 c1' c2 f1 f2
            have d0 := HL1.out.at 0
            have g0 := HL1.out.free 0
            have d1 := HL1.out.at 1
            have g1 := HL1.out.free 1
            have d2 := HL1.out.at 2
            have g2 := HL1.out.free 2
            change w4.cell? ⟨w.heap.size, 0, none⟩ = some (.int .i64 0) at d0
            change w4.cell? ⟨w.heap.size, 1, none⟩ = some (.int .i64 0) at d1
            change w4.cell? ⟨w.heap.size, 2, none⟩ = some (.string ⟨#[]⟩) at d2
            have x0 := HL2.out.at 0
            have x1 := HL2.out.at 1
            have x2 := HL2.out.at 2
            change w4.cell? ⟨w.heap.size + 1, 0, none⟩ = some (.int .i64 (K : Int)) at x0
            change w4.cell? ⟨w.heap.size + 1, 1, none⟩ = some (.int .i64 0) at x1
            change w4.cell? ⟨w.heap.size + 1, 2, none⟩ = some (.string (str t)) at x2
            have HF : Hid (Blk (((w4.setCell ⟨w.heap.size, 0, none⟩ (.int .i64 (K : Int))).setCell ⟨w.heap.size, 1, none⟩ (.int .i64 0)).setCell ⟨w.heap.size, 2, none⟩ (.string (str t))) w.heap.size 28 #[(.int .i64 (K : Int)), (.int .i64 0), (.string (str t))]) := Lib.hid (((HL1.out.set 0 _).set 1 _).set 2 _)
            have HFB : Hid (Below w.heap.size w (((w4.setCell ⟨w.heap.size, 0, none⟩ (.int .i64 (K : Int))).setCell ⟨w.heap.size, 1, none⟩ (.int .i64 0)).setCell ⟨w.heap.size, 2, none⟩ (.string (str t)))) := Lib.hid (((HLB.out.setCell (Nat.le_refl _) _).setCell (Nat.le_refl _) _).setCell (Nat.le_refl _) _)
            go_wp2
            refine bodyPost_ret (results_cell_tmp1 rfl _ _ w.heap.size _ _ _ _ rfl HF.out Tryd.underlying28 rfl (by kernel_rfl)) rfl ?_
            exact read_some HT3.out rfl HFB.out
        by_cases h2 : K = 2
        · as_aux_lemma =>
          have e1 : ((K : Int) == 1) = false := by simp; omega
          have e10 : ((K : Int) == 10) = false := by simp; omega
          have e2 : ((K : Int) == 2) = true := by simp; omega
          obtain ⟨U, hU⟩ : ∃ U, U = numOf r := ⟨_, rfl⟩
          have HTA := Lib.hid (number_any (.slice A1 q c1) r wz HR.out (fun x hx => (HTR.out x hx).2) (HTab.out.under HBW.out) U hU)
          have HT3 : Hid (T = U.map fun v => ⟨K, v, []⟩) := Lib.hid (by rw [HT2.out, hU, h2]; rfl)
          clear hU HT2 h2
          rcases U with _ | m
          · go_upto_region 14 with (go_at_call 32; refine HTA.out.mono ?_; rintro e w3 ⟨rfl, hb3⟩; have HJ1 := Lib.hid (HK1.out.under hb3); have HJ2 := Lib.hid (HK2.out.under hb3); have HB3 := Lib.hid (HBW.out.trans (hb3.mono HBW.out.size)); have n1 := HJ2.out.at 1; change w3.cell? ⟨w.heap.size + 1, 1, none⟩ = some (.int .i64 0) at n1; have nf := HJ2.out.free 1)
            have HL1 : Hid (Blk (w3.setCell ⟨w.heap.size + 1, 1, none⟩ (.int .i64 0)) w.heap.size 28 #[.int .i64 0, .int .i64 0, .string ⟨#[]⟩]) := Lib.hid (HJ1.out.setOther (by simp) _)
            have HL2 : Hid (Blk (w3.setCell ⟨w.heap.size + 1, 1, none⟩ (.int .i64 0)) (w.heap.size + 1) 28 #[.int .i64 (K : Int), .int .i64 0, .string ⟨#[]⟩]) := Lib.hid (HJ2.out.set 1 _)
            have HLB : Hid (Below w.heap.size w (w3.setCell ⟨w.heap.size + 1, 1, none⟩ (.int .i64 0))) := Lib.hid (HB3.out.setCell (by simp) _)
            obtain ⟨w4, hw4⟩ : ∃ w4, w4 = (w3.setCell ⟨w.heap.size + 1, 1, none⟩ (.int .i64 0)) := ⟨_, rfl⟩
            rw [← hw4] at HL1 HL2 HLB ⊢
            clear hw4 HJ1 HJ2 HK1 HK2 c0 c1' c2 f1 f2
            have d0 := HL1.out.at 0
            have g0 := HL1.out.free 0
            have d1 := HL1.out.at 1
            have g1 := HL1.out.free 1
            have d2 := HL1.out.at 2
            have g2 := HL1.out.free 2
            change w4.cell? ⟨w.heap.size, 0, none⟩ = some (.int .i64 0) at d0
            change w4.cell? ⟨w.heap.size, 1, none⟩ = some (.int .i64 0) at d1
            change w4.cell? ⟨w.heap.size, 2, none⟩ = some (.string ⟨#[]⟩) at d2
            have HF : Hid (Blk (((w4.setCell ⟨w.heap.size, 0, none⟩ (.int .i64 0)).setCell ⟨w.heap.size, 1, none⟩ (.int .i64 0)).setCell ⟨w.heap.size, 2, none⟩ (.string ⟨#[]⟩)) w.heap.size 28 #[(.int .i64 0), (.int .i64 0), (.string ⟨#[]⟩)]) := Lib.hid (((HL1.out.set 0 _).set 1 _).set 2 _)
            have HFB : Hid (Below w.heap.size w (((w4.setCell ⟨w.heap.size, 0, none⟩ (.int .i64 0)).setCell ⟨w.heap.size, 1, none⟩ (.int .i64 0)).setCell ⟨w.heap.size, 2, none⟩ (.string ⟨#[]⟩))) := Lib.hid (((HLB.out.setCell (Nat.le_refl _) _).setCell (Nat.le_refl _) _).setCell (Nat.le_refl _) _)
            go_wp2
            refine bodyPost_ret (results_cell_tmp1 rfl _ _ w.heap.size _ _ _ _ rfl HF.out Tryd.underlying28 rfl (by kernel_rfl)) rfl ?_
            exact read_none HT3.out rfl HFB.out
          · go_upto_region 14 with (go_at_call 32; refine HTA.out.mono ?_; rintro e w3 ⟨rfl, hb3⟩; have HJ1 := Lib.hid (HK1.out.under hb3); have HJ2 := Lib.hid (HK2.out.under hb3); have HB3 := Lib.hid (HBW.out.trans (hb3.mono HBW.out.size)); have n1 := HJ2.out.at 1; change w3.cell? ⟨w.heap.size + 1, 1, none⟩ = some (.int .i64 0) at n1; have nf := HJ2.out.free 1)
            have HL1 : Hid (Blk (w3.setCell ⟨w.heap.size + 1, 1, none⟩ (.int .i64 m)) w.heap.size 28 #[.int .i64 0, .int .i64 0, .string ⟨#[]⟩]) := Lib.hid (HJ1.out.setOther (by simp) _)
            have HL2 : Hid (Blk (w3.setCell ⟨w.heap.size + 1, 1, none⟩ (.int .i64 m)) (w.heap.size + 1) 28 #[.int .i64 (K : Int), .int .i64 m, .string ⟨#[]⟩]) := Lib.hid (HJ2.out.set 1 _)
            have HLB : Hid (Below w.heap.size w (w3.setCell ⟨w.heap.size + 1, 1, none⟩ (.int .i64 m))) := Lib.hid (HB3.out.setCell (by simp) _)
            obtain ⟨w4, hw4⟩ : ∃ w4, w4 = (w3.setCell ⟨w.heap.size + 1, 1, none⟩ (.int .i64 m)) := ⟨_, rfl⟩
            rw [← hw4] at HL1 HL2 HLB ⊢
            clear hw4 HJ1 HJ2 HK1 HK2 c0 c1' c2 f1 f2
            have d0 := HL1.out.at 0
            have g0 := HL1.out.free 0
            have d1 := HL1.out.at 1
            have g1 := HL1.out.free 1
            have d2 := HL1.out.at 2
            have g2 := HL1.out.free 2
            change w4.cell? ⟨w.heap.size, 0, none⟩ = some (.int .i64 0) at d0
            change w4.cell? ⟨w.heap.size, 1, none⟩ = some (.int .i64 0) at d1
            change w4.cell? ⟨w.heap.size, 2, none⟩ = some (.string ⟨#[]⟩) at d2
            have x0 := HL2.out.at 0
            have x1 := HL2.out.at 1
            have x2 := HL2.out.at 2
            change w4.cell? ⟨w.heap.size + 1, 0, none⟩ = some (.int .i64 (K : Int)) at x0
            change w4.cell? ⟨w.heap.size + 1, 1, none⟩ = some (.int .i64 m) at x1
            change w4.cell? ⟨w.heap.size + 1, 2, none⟩ = some (.string ⟨#[]⟩) at x2
            have HF : Hid (Blk (((w4.setCell ⟨w.heap.size, 0, none⟩ (.int .i64 (K : Int))).setCell ⟨w.heap.size, 1, none⟩ (.int .i64 m)).setCell ⟨w.heap.size, 2, none⟩ (.string ⟨#[]⟩)) w.heap.size 28 #[(.int .i64 (K : Int)), (.int .i64 m), (.string ⟨#[]⟩)]) := Lib.hid (((HL1.out.set 0 _).set 1 _).set 2 _)
            have HFB : Hid (Below w.heap.size w (((w4.setCell ⟨w.heap.size, 0, none⟩ (.int .i64 (K : Int))).setCell ⟨w.heap.size, 1, none⟩ (.int .i64 m)).setCell ⟨w.heap.size, 2, none⟩ (.string ⟨#[]⟩))) := Lib.hid (((HLB.out.setCell (Nat.le_refl _) _).setCell (Nat.le_refl _) _).setCell (Nat.le_refl _) _)
            go_wp2
            refine bodyPost_ret (results_cell_tmp1 rfl _ _ w.heap.size _ _ _ _ rfl HF.out Tryd.underlying28 rfl (by kernel_rfl)) rfl ?_
            exact read_some HT3.out rfl HFB.out
        by_cases h7 : K = 7
        · as_aux_lemma =>
          have e1 : ((K : Int) == 1) = false := by simp; omega
          have e10 : ((K : Int) == 10) = false := by simp; omega
          have e2 : ((K : Int) == 2) = false := by simp; omega
          have e7 : ((K : Int) == 7) = true := by simp; omega
          obtain ⟨U, hU⟩ : ∃ U, U = numOf r := ⟨_, rfl⟩
          have HTA := Lib.hid (number_any (.slice A1 q c1) r wz HR.out (fun x hx => (HTR.out x hx).2) (HTab.out.under HBW.out) U hU)
          have HT3 : Hid (T = U.map fun v => ⟨K, v, []⟩) := Lib.hid (by rw [HT2.out, hU, h7]; rfl)
          clear hU HT2 h7
          rcases U with _ | m
          · go_upto_region 14 with (go_at_call 32; refine HTA.out.mono ?_; rintro e w3 ⟨rfl, hb3⟩; have HJ1 := Lib.hid (HK1.out.under hb3); have HJ2 := Lib.hid (HK2.out.under hb3); have HB3 := Lib.hid (HBW.out.trans (hb3.mono HBW.out.size)); have n1 := HJ2.out.at 1; change w3.cell? ⟨w.heap.size + 1, 1, none⟩ = some (.int .i64 0) at n1; have nf := HJ2.out.free 1)
            have HL1 : Hid (Blk (w3.setCell ⟨w.heap.size + 1, 1, none⟩ (.int .i64 0)) w.heap.size 28 #[.int .i64 0, .int .i64 0, .string ⟨#[]⟩]) := Lib.hid (HJ1.out.setOther (by simp) _)
            have HL2 : Hid (Blk (w3.setCell ⟨w.heap.size + 1, 1, none⟩ (.int .i64 0)) (w.heap.size + 1) 28 #[.int .i64 (K : Int), .int .i64 0, .string ⟨#[]⟩]) := Lib.hid (HJ2.out.set 1 _)
            have HLB : Hid (Below w.heap.size w (w3.setCell ⟨w.heap.size + 1, 1, none⟩ (.int .i64 0))) := Lib.hid (HB3.out.setCell (by simp) _)
            obtain ⟨w4, hw4⟩ : ∃ w4, w4 = (w3.setCell ⟨w.heap.size + 1, 1, none⟩ (.int .i64 0)) := ⟨_, rfl⟩
            rw [← hw4] at HL1 HL2 HLB ⊢
            clear hw4 HJ1 HJ2 HK1 HK2 c0 c1' c2 f1 f2
            have d0 := HL1.out.at 0
            have g0 := HL1.out.free 0
            have d1 := HL1.out.at 1
            have g1 := HL1.out.free 1
            have d2 := HL1.out.at 2
            have g2 := HL1.out.free 2
            change w4.cell? ⟨w.heap.size, 0, none⟩ = some (.int .i64 0) at d0
            change w4.cell? ⟨w.heap.size, 1, none⟩ = some (.int .i64 0) at d1
            change w4.cell? ⟨w.heap.size, 2, none⟩ = some (.string ⟨#[]⟩) at d2
            have HF : Hid (Blk (((w4.setCell ⟨w.heap.size, 0, none⟩ (.int .i64 0)).setCell ⟨w.heap.size, 1, none⟩ (.int .i64 0)).setCell ⟨w.heap.size, 2, none⟩ (.string ⟨#[]⟩)) w.heap.size 28 #[(.int .i64 0), (.int .i64 0), (.string ⟨#[]⟩)]) := Lib.hid (((HL1.out.set 0 _).set 1 _).set 2 _)
            have HFB : Hid (Below w.heap.size w (((w4.setCell ⟨w.heap.size, 0, none⟩ (.int .i64 0)).setCell ⟨w.heap.size, 1, none⟩ (.int .i64 0)).setCell ⟨w.heap.size, 2, none⟩ (.string ⟨#[]⟩))) := Lib.hid (((HLB.out.setCell (Nat.le_refl _) _).setCell (Nat.le_refl _) _).setCell (Nat.le_refl _) _)
            go_wp2
            refine bodyPost_ret (results_cell_tmp1 rfl _ _ w.heap.size _ _ _ _ rfl HF.out Tryd.underlying28 rfl (by kernel_rfl)) rfl ?_
            exact read_none HT3.out rfl HFB.out
          · go_upto_region 14 with (go_at_call 32; refine HTA.out.mono ?_; rintro e w3 ⟨rfl, hb3⟩; have HJ1 := Lib.hid (HK1.out.under hb3); have HJ2 := Lib.hid (HK2.out.under hb3); have HB3 := Lib.hid (HBW.out.trans (hb3.mono HBW.out.size)); have n1 := HJ2.out.at 1; change w3.cell? ⟨w.heap.size + 1, 1, none⟩ = some (.int .i64 0) at n1; have nf := HJ2.out.free 1)
            have HL1 : Hid (Blk (w3.setCell ⟨w.heap.size + 1, 1, none⟩ (.int .i64 m)) w.heap.size 28 #[.int .i64 0, .int .i64 0, .string ⟨#[]⟩]) := Lib.hid (HJ1.out.setOther (by simp) _)
            have HL2 : Hid (Blk (w3.setCell ⟨w.heap.size + 1, 1, none⟩ (.int .i64 m)) (w.heap.size + 1) 28 #[.int .i64 (K : Int), .int .i64 m, .string ⟨#[]⟩]) := Lib.hid (HJ2.out.set 1 _)
            have HLB : Hid (Below w.heap.size w (w3.setCell ⟨w.heap.size + 1, 1, none⟩ (.int .i64 m))) := Lib.hid (HB3.out.setCell (by simp) _)
            obtain ⟨w4, hw4⟩ : ∃ w4, w4 = (w3.setCell ⟨w.heap.size + 1, 1, none⟩ (.int .i64 m)) := ⟨_, rfl⟩
            rw [← hw4] at HL1 HL2 HLB ⊢
            clear hw4 HJ1 HJ2 HK1 HK2 c0 c1' c2 f1 f2
            have d0 := HL1.out.at 0
            have g0 := HL1.out.free 0
            have d1 := HL1.out.at 1
            have g1 := HL1.out.free 1
            have d2 := HL1.out.at 2
            have g2 := HL1.out.free 2
            change w4.cell? ⟨w.heap.size, 0, none⟩ = some (.int .i64 0) at d0
            change w4.cell? ⟨w.heap.size, 1, none⟩ = some (.int .i64 0) at d1
            change w4.cell? ⟨w.heap.size, 2, none⟩ = some (.string ⟨#[]⟩) at d2
            have x0 := HL2.out.at 0
            have x1 := HL2.out.at 1
            have x2 := HL2.out.at 2
            change w4.cell? ⟨w.heap.size + 1, 0, none⟩ = some (.int .i64 (K : Int)) at x0
            change w4.cell? ⟨w.heap.size + 1, 1, none⟩ = some (.int .i64 m) at x1
            change w4.cell? ⟨w.heap.size + 1, 2, none⟩ = some (.string ⟨#[]⟩) at x2
            have HF : Hid (Blk (((w4.setCell ⟨w.heap.size, 0, none⟩ (.int .i64 (K : Int))).setCell ⟨w.heap.size, 1, none⟩ (.int .i64 m)).setCell ⟨w.heap.size, 2, none⟩ (.string ⟨#[]⟩)) w.heap.size 28 #[(.int .i64 (K : Int)), (.int .i64 m), (.string ⟨#[]⟩)]) := Lib.hid (((HL1.out.set 0 _).set 1 _).set 2 _)
            have HFB : Hid (Below w.heap.size w (((w4.setCell ⟨w.heap.size, 0, none⟩ (.int .i64 (K : Int))).setCell ⟨w.heap.size, 1, none⟩ (.int .i64 m)).setCell ⟨w.heap.size, 2, none⟩ (.string ⟨#[]⟩))) := Lib.hid (((HLB.out.setCell (Nat.le_refl _) _).setCell (Nat.le_refl _) _).setCell (Nat.le_refl _) _)
            go_wp2
            refine bodyPost_ret (results_cell_tmp1 rfl _ _ w.heap.size _ _ _ _ rfl HF.out Tryd.underlying28 rfl (by kernel_rfl)) rfl ?_
            exact read_some HT3.out rfl HFB.out
        by_cases h8 : K = 8
        · as_aux_lemma =>
          have e1 : ((K : Int) == 1) = false := by simp; omega
          have e10 : ((K : Int) == 10) = false := by simp; omega
          have e2 : ((K : Int) == 2) = false := by simp; omega
          have e7 : ((K : Int) == 7) = false := by simp; omega
          have e8 : ((K : Int) == 8) = true := by simp; omega
          obtain ⟨U, hU⟩ : ∃ U, U = numOf r := ⟨_, rfl⟩
          have HTA := Lib.hid (number_any (.slice A1 q c1) r wz HR.out (fun x hx => (HTR.out x hx).2) (HTab.out.under HBW.out) U hU)
          have HT3 : Hid (T = U.map fun v => ⟨K, v, []⟩) := Lib.hid (by rw [HT2.out, hU, h8]; rfl)
          clear hU HT2 h8
          rcases U with _ | m
          · go_upto_region 14 with (go_at_call 32; refine HTA.out.mono ?_; rintro e w3 ⟨rfl, hb3⟩; have HJ1 := Lib.hid (HK1.out.under hb3); have HJ2 := Lib.hid (HK2.out.under hb3); have HB3 := Lib.hid (HBW.out.trans (hb3.mono HBW.out.size)); have n1 := HJ2.out.at 1; change w3.cell? ⟨w.heap.size + 1, 1, none⟩ = some (.int .i64 0) at n1; have nf := HJ2.out.free 1)
            have HL1 : Hid (Blk (w3.setCell ⟨w.heap.size + 1, 1, none⟩ (.int .i64 0)) w.heap.size 28 #[.int .i64 0, .int .i64 0, .string ⟨#[]⟩]) := Lib.hid (HJ1.out.setOther (by simp) _)
            have HL2 : Hid (Blk (w3.setCell ⟨w.heap.size + 1, 1, none⟩ (.int .i64 0)) (w.heap.size + 1) 28 #[.int .i64 (K : Int), .int .i64 0, .string ⟨#[]⟩]) := Lib.hid (HJ2.out.set 1 _)
            have HLB : Hid (Below w.heap.size w (w3.setCell ⟨w.heap.size + 1, 1, none⟩ (.int .i64 0))) := Lib.hid (HB3.out.setCell (by simp) _)
            obtain ⟨w4, hw4⟩ : ∃ w4, w4 = (w3.setCell ⟨w.heap.size + 1, 1, none⟩ (.int .i64 0)) := ⟨_, rfl⟩
            rw [← hw4] at HL1 HL2 HLB ⊢
            clear hw4 HJ1 HJ2 HK1 HK2 c0 c1' c2 f1 f2
            have d0 := HL1.out.at 0
            have g0 := HL1.out.free 0
            have d1 := HL1.out.at 1
            have g1 := HL1.out.free 1
            have d2 := HL1.out.at 2
            have g2 := HL1.out.free 2
            change w4.cell? ⟨w.heap.size, 0, none⟩ = some (.int .i64 0) at d0
            change w4.cell? ⟨w.heap.size, 1, none⟩ = some (.int .i64 0) at d1
            change w4.cell? ⟨w.heap.size, 2, none⟩ = some (.string ⟨#[]⟩) at d2
            have HF : Hid (Blk (((w4.setCell ⟨w.heap.size, 0, none⟩ (.int .i64 0)).setCell ⟨w.heap.size, 1, none⟩ (.int .i64 0)).setCell ⟨w.heap.size, 2, none⟩ (.string ⟨#[]⟩)) w.heap.size 28 #[(.int .i64 0), (.int .i64 0), (.string ⟨#[]⟩)]) := Lib.hid (((HL1.out.set 0 _).set 1 _).set 2 _)
            have HFB : Hid (Below w.heap.size w (((w4.setCell ⟨w.heap.size, 0, none⟩ (.int .i64 0)).setCell ⟨w.heap.size, 1, none⟩ (.int .i64 0)).setCell ⟨w.heap.size, 2, none⟩ (.string ⟨#[]⟩))) := Lib.hid (((HLB.out.setCell (Nat.le_refl _) _).setCell (Nat.le_refl _) _).setCell (Nat.le_refl _) _)
            go_wp2
            refine bodyPost_ret (results_cell_tmp1 rfl _ _ w.heap.size _ _ _ _ rfl HF.out Tryd.underlying28 rfl (by kernel_rfl)) rfl ?_
            exact read_none HT3.out rfl HFB.out
          · go_upto_region 14 with (go_at_call 32; refine HTA.out.mono ?_; rintro e w3 ⟨rfl, hb3⟩; have HJ1 := Lib.hid (HK1.out.under hb3); have HJ2 := Lib.hid (HK2.out.under hb3); have HB3 := Lib.hid (HBW.out.trans (hb3.mono HBW.out.size)); have n1 := HJ2.out.at 1; change w3.cell? ⟨w.heap.size + 1, 1, none⟩ = some (.int .i64 0) at n1; have nf := HJ2.out.free 1)
            have HL1 : Hid (Blk (w3.setCell ⟨w.heap.size + 1, 1, none⟩ (.int .i64 m)) w.heap.size 28 #[.int .i64 0, .int .i64 0, .string ⟨#[]⟩]) := Lib.hid (HJ1.out.setOther (by simp) _)
            have HL2 : Hid (Blk (w3.setCell ⟨w.heap.size + 1, 1, none⟩ (.int .i64 m)) (w.heap.size + 1) 28 #[.int .i64 (K : Int), .int .i64 m, .string ⟨#[]⟩]) := Lib.hid (HJ2.out.set 1 _)
            have HLB : Hid (Below w.heap.size w (w3.setCell ⟨w.heap.size + 1, 1, none⟩ (.int .i64 m))) := Lib.hid (HB3.out.setCell (by simp) _)
            obtain ⟨w4, hw4⟩ : ∃ w4, w4 = (w3.setCell ⟨w.heap.size + 1, 1, none⟩ (.int .i64 m)) := ⟨_, rfl⟩
            rw [← hw4] at HL1 HL2 HLB ⊢
            clear hw4 HJ1 HJ2 HK1 HK2 c0 c1' c2 f1 f2
            have d0 := HL1.out.at 0
            have g0 := HL1.out.free 0
            have d1 := HL1.out.at 1
            have g1 := HL1.out.free 1
            have d2 := HL1.out.at 2
            have g2 := HL1.out.free 2
            change w4.cell? ⟨w.heap.size, 0, none⟩ = some (.int .i64 0) at d0
            change w4.cell? ⟨w.heap.size, 1, none⟩ = some (.int .i64 0) at d1
            change w4.cell? ⟨w.heap.size, 2, none⟩ = some (.string ⟨#[]⟩) at d2
            have x0 := HL2.out.at 0
            have x1 := HL2.out.at 1
            have x2 := HL2.out.at 2
            change w4.cell? ⟨w.heap.size + 1, 0, none⟩ = some (.int .i64 (K : Int)) at x0
            change w4.cell? ⟨w.heap.size + 1, 1, none⟩ = some (.int .i64 m) at x1
            change w4.cell? ⟨w.heap.size + 1, 2, none⟩ = some (.string ⟨#[]⟩) at x2
            have HF : Hid (Blk (((w4.setCell ⟨w.heap.size, 0, none⟩ (.int .i64 (K : Int))).setCell ⟨w.heap.size, 1, none⟩ (.int .i64 m)).setCell ⟨w.heap.size, 2, none⟩ (.string ⟨#[]⟩)) w.heap.size 28 #[(.int .i64 (K : Int)), (.int .i64 m), (.string ⟨#[]⟩)]) := Lib.hid (((HL1.out.set 0 _).set 1 _).set 2 _)
            have HFB : Hid (Below w.heap.size w (((w4.setCell ⟨w.heap.size, 0, none⟩ (.int .i64 (K : Int))).setCell ⟨w.heap.size, 1, none⟩ (.int .i64 m)).setCell ⟨w.heap.size, 2, none⟩ (.string ⟨#[]⟩))) := Lib.hid (((HLB.out.setCell (Nat.le_refl _) _).setCell (Nat.le_refl _) _).setCell (Nat.le_refl _) _)
            go_wp2
            refine bodyPost_ret (results_cell_tmp1 rfl _ _ w.heap.size _ _ _ _ rfl HF.out Tryd.underlying28 rfl (by kernel_rfl)) rfl ?_
            exact read_some HT3.out rfl HFB.out
        as_aux_lemma =>
          have e1 : ((K : Int) == 1) = false := by simp; omega
          have e10 : ((K : Int) == 10) = false := by simp; omega
          have e2 : ((K : Int) == 2) = false := by simp; omega
          have e7 : ((K : Int) == 7) = false := by simp; omega
          have e8 : ((K : Int) == 8) = false := by simp; omega
          have HT3 : Hid (T = if r.length = 0 then some ⟨K, 0, []⟩ else none) := Lib.hid (by
            rw [HT2.out]
            unfold oneKind Ac.isText Ac.most
            simp [h1, h10, h2, h7, h8])
          rw [HQ.out] at HT3
          have HJ1 := HK1
          have HJ2 := HK2
          clear HT2
          rcases Nat.eq_zero_or_pos q with hq0 | hq0
          · have HT3 : Hid (T = some ⟨K, 0, []⟩) := Lib.hid (by rw [HT3.out, if_pos hq0])
            have q0 : ((q : Int) == 0) = true := by simp; omega
            go_upto_region 14 with fail
            have HL1 := HJ1
            have HL2 := HJ2
            have HLB := HBW
            obtain ⟨w4, hw4⟩ : ∃ w4, w4 = wz := ⟨_, rfl⟩
            rw [← hw4] at HL1 HL2 HLB ⊢
            clear hw4 HJ1 HJ2 HK1 HK2 c0 c1' c2 f1 f2
            have d0 := HL1.out.at 0
            have g0 := HL1.out.free 0
            have d1 := HL1.out.at 1
            have g1 := HL1.out.free 1
            have d2 := HL1.out.at 2
            have g2 := HL1.out.free 2
            change w4.cell? ⟨w.heap.size, 0, none⟩ = some (.int .i64 0) at d0
            change w4.cell? ⟨w.heap.size, 1, none⟩ = some (.int .i64 0) at d1
            change w4.cell? ⟨w.heap.size, 2, none⟩ = some (.string ⟨#[]⟩) at d2
            have x0 := HL2.out.at 0
            have x1 := HL2.out.at 1
            have x2 := HL2.out.at 2
            change w4.cell? ⟨w.heap.size + 1, 0, none⟩ = some (.int .i64 (K : Int)) at x0
            change w4.cell? ⟨w.heap.size + 1, 1, none⟩ = some (.int .i64 0) at x1
            change w4.cell? ⟨w.heap.size + 1, 2, none⟩ = some (.string ⟨#[]⟩) at x2
            have HF : Hid (Blk (((w4.setCell ⟨w.heap.size, 0, none⟩ (.int .i64 (K : Int))).setCell ⟨w.heap.size, 1, none⟩ (.int .i64 0)).setCell ⟨w.heap.size, 2, none⟩ (.string ⟨#[]⟩)) w.heap.size 28 #[(.int .i64 (K : Int)), (.int .i64 0), (.string ⟨#[]⟩)]) := Lib.hid (((HL1.out.set 0 _).set 1 _).set 2 _)
            have HFB : Hid (Below w.heap.size w (((w4.setCell ⟨w.heap.size, 0, none⟩ (.int .i64 (K : Int))).setCell ⟨w.heap.size, 1, none⟩ (.int .i64 0)).setCell ⟨w.heap.size, 2, none⟩ (.string ⟨#[]⟩))) := Lib.hid (((HLB.out.setCell (Nat.le_refl _) _).setCell (Nat.le_refl _) _).setCell (Nat.le_refl _) _)
            go_wp2
            refine bodyPost_ret (results_cell_tmp1 rfl _ _ w.heap.size _ _ _ _ rfl HF.out Tryd.underlying28 rfl (by kernel_rfl)) rfl ?_
            exact read_some HT3.out rfl HFB.out
          · have HT3 : Hid (T = none) := Lib.hid (by rw [HT3.out, if_neg (by omega)])
            have q0 : ((q : Int) == 0) = false := by simp; omega
            go_upto_region 14 with fail
            have HL1 := HJ1
            have HL2 := HJ2
            have HLB := HBW
            obtain ⟨w4, hw4⟩ : ∃ w4, w4 = wz := ⟨_, rfl⟩
            rw [← hw4] at HL1 HL2 HLB ⊢
            clear hw4 HJ1 HJ2 HK1 HK2 c0 c1' c2 f1 f2
            have d0 := HL1.out.at 0
            have g0 := HL1.out.free 0
            have d1 := HL1.out.at 1
            have g1 := HL1.out.free 1
            have d2 := HL1.out.at 2
            have g2 := HL1.out.free 2
            change w4.cell? ⟨w.heap.size, 0, none⟩ = some (.int .i64 0) at d0
            change w4.cell? ⟨w.heap.size, 1, none⟩ = some (.int .i64 0) at d1
            change w4.cell? ⟨w.heap.size, 2, none⟩ = some (.string ⟨#[]⟩) at d2
            have HF : Hid (Blk (((w4.setCell ⟨w.heap.size, 0, none⟩ (.int .i64 0)).setCell ⟨w.heap.size, 1, none⟩ (.int .i64 0)).setCell ⟨w.heap.size, 2, none⟩ (.string ⟨#[]⟩)) w.heap.size 28 #[(.int .i64 0), (.int .i64 0), (.string ⟨#[]⟩)]) := Lib.hid (((HL1.out.set 0 _).set 1 _).set 2 _)
            have HFB : Hid (Below w.heap.size w (((w4.setCell ⟨w.heap.size, 0, none⟩ (.int .i64 0)).setCell ⟨w.heap.size, 1, none⟩ (.int .i64 0)).setCell ⟨w.heap.size, 2, none⟩ (.string ⟨#[]⟩))) := Lib.hid (((HLB.out.setCell (Nat.le_refl _) _).setCell (Nat.le_refl _) _).setCell (Nat.le_refl _) _)
            go_wp2
            refine bodyPost_ret (results_cell_tmp1 rfl _ _ w.heap.size _ _ _ _ rfl HF.out Tryd.underlying28 rfl (by kernel_rfl)) rfl ?_
            exact read_none HT3.out rfl HFB.out
    · obtain rfl : T = none := HT.out
      have HR := Lib.hid (heap_alloc_new w (.cells #[.int .i64 0, .int .i64 0, .string ⟨#[]⟩] 28))
      have HR2 : Hid (Blk (w.alloc (.cells #[.int .i64 0, .int .i64 0, .string ⟨#[]⟩] 28)) w.heap.size 28 #[.int .i64 0, .int .i64 0, .string ⟨#[]⟩]) := HR
      clear k00 HTX HV
      go_enter Tryd.func18, Tryd.ntmps18
      go_wp2
      refine bodyPost_ret (results_cell_tmp1 rfl _ _ w.heap.size _ _ _ _ rfl HR2.out Tryd.underlying28 rfl (by kernel_rfl)) rfl ?_
      exact read_none rfl rfl (HBX.out _)
end Go.Proofs.YtfeaolcgjkkadaaDoor
