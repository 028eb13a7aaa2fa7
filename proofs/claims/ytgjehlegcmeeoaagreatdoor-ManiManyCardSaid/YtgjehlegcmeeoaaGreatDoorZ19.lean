/- How package acts reads a number: whatever the library reads, if it is written back so. -/
import Derived.Test.YtgjehlegcmeeoaaGreatDoorZ17
import Derived.Deep.RegionHeld3
import Derived.Deep.DeepCutAuto
import Derived.Deep.CutRange
import Derived.Test.YtgjehlegcmeeoaaGreatDoorZ12
namespace Go.Proofs.YtgjehlegcmeeoaaGreatDoor
set_option maxRecDepth 100000
open Go.ChangeShapes Go.WideShapes Go.ChangeAt Go.RowKit

def itoaS (v : Int) : ByteArray := ⟨(Lib.itoa v).toArray⟩
theorem itoaS_eq {t : List Nat} (v : Int) : ((itoaS v).toList == (str t).toList) = decide (Lib.itoa v = t.map UInt8.ofNat) := by
  rw [str_toList]
  have : (itoaS v).toList = Lib.itoa v := by simp [itoaS]
  rw [this]
  by_cases h : Lib.itoa v = t.map UInt8.ofNat
  · rw [h, decide_eq_true rfl]; simp
  · rw [decide_eq_false h]; simpa using h
theorem itoa_all (v : Int) (w : World) (h : -9223372036854775808 ≤ v ∧ v ≤ 9223372036854775807) (hT : Tabs w) : Calls Tryz.prog 109 #[.int .i64 v] w fun e w' => e = .returned (.string (itoaS v)) ∧ Below w.heap.size w w' := by
  refine (Tryz.strconv_Itoa v h.1 h.2 w hT.1).mono fun e w' ⟨he, k, os, hw⟩ => ⟨he, ?_⟩
  rw [hw]; exact below_grow w k os
set_option maxHeartbeats 8000000 in
theorem number_any (v : Value) (R : List Ln.W) (w : World) (hv : RdW w v R) (ht : ∀ x ∈ R, x.text.length ≤ 1099511627776) (hTab : Tabs w) (T : Option Int) (hT : T = numOf R) :
    Calls Tryz.prog 144 #[v] w fun e w' => e = .returned (.tuple #[.int .i64 (T.getD 0), .bool T.isSome]) ∧ Below w.heap.size w w' := by
  have HV := Lib.hid hv
  have HT := Lib.hid hT
  have HTX := Lib.hid ht
  have HTab := Lib.hid hTab
  obtain ⟨A, c, rfl, hc⟩ := hv.parts2
  clear hv hT ht hTab
  rcases R with _ | ⟨⟨yt, yl, yc, yq⟩, _ | ⟨y2, r⟩⟩
  · obtain rfl : T = none := HT.out
    rw [show ([] : List Ln.W).length = 0 from rfl] at hc ⊢
    go_enter Tryz.func144, Tryz.ntmps144
    go_wp2
    go_ret2
    exact ⟨rfl, Below.refl _ _⟩
  · rw [show ([⟨yt, yl, yc, yq⟩] : List Ln.W).length = 1 from rfl] at hc HV ⊢
    obtain ⟨b, off, rfl, a0, a1, a2, a3⟩ := HV.out.at2 0 (by simp)
    change w.cell? ⟨b, off + 0 * 4, none⟩ = some (.string (str yt)) at a0
    change w.cell? ⟨b, off + 0 * 4 + 3, none⟩ = some (.bool yq) at a3
    rw [Nat.zero_mul, Nat.add_zero] at a0 a3
    have HA0 : Hid (∀ W, Below w.heap.size w W → W.cell? ⟨b, off, none⟩ = some (.string (str yt))) := Lib.hid (fun W hb => cell_later hb a0)
    have HYL := Lib.hid (HTX.out ⟨yt, yl, yc, yq⟩ (by simp))
    clear a1 a2
    rcases yq with _ | _
    · have HAT := Lib.hid (atoi_any (str yt) w (by rw [str_size]; have := HYL.out; change yt.length ≤ _ at this; omega) HTab.out)
      have HT1 : Hid (T = Ac.numE yt) := Lib.hid HT.out
      have hdat : (str yt).data.toList = yt.map UInt8.ofNat := str_data yt
      have HD := Lib.hid hdat
      have HEQ := Lib.hid (fun u => itoaS_eq (t := yt) u)
      clear hdat HT HTX HYL
      obtain ⟨s, hs⟩ : ∃ s, str yt = s := ⟨_, rfl⟩
      rw [hs] at a0 HA0 HAT HD HEQ
      clear hs
      go_enter Tryz.func144, Tryz.ntmps144
      go_wp2_with fail
      refine HAT.out.mono ?_
      rintro e w2 ⟨hb2, ⟨u, hu, rfl⟩ | ⟨hno, u, te, pe, rfl⟩⟩
      · have HB2 := Lib.hid hb2
        have HU := Lib.hid hu
        have HBD := Lib.hid (atoi_bounds hu)
        have HIT := Lib.hid (fun W (hW : Below w.heap.size w W) => itoa_all u W HBD.out (HTab.out.under hW))
        have hz := HEQ.out u
        have HT2 : Hid (T = if Lib.itoa u = yt.map UInt8.ofNat then some u else none) := Lib.hid (by
          rw [HT1.out]
          unfold Ac.numE
          rw [← HD.out, HU.out])
        have a2 := HA0.out w2 hb2
        obtain ⟨si, hsi⟩ : ∃ si, itoaS u = si := ⟨_, rfl⟩
        rw [hsi] at hz HIT
        clear hsi hu hb2 a0 HAT HT1
        by_cases hsame : Lib.itoa u = yt.map UInt8.ofNat
        · rw [decide_eq_true hsame] at hz
          obtain rfl : T = some u := by rw [HT2.out, if_pos hsame]
          clear hsame HT2 HEQ
          go_wp2_with fail
          go_region_with (go_at_call 109; refine (HIT.out _ ?_).mono ?_; exact HB2.out.drew; rintro e w3 ⟨rfl, hb3⟩; have hb4 := HB2.out.drew.trans (hb3.mono HB2.out.drew.size); have a4 := HA0.out w3 hb4)
          all_goals (go_wp2; go_ret2; exact ⟨rfl, by assumption⟩)
        · rw [decide_eq_false hsame] at hz
          obtain rfl : T = none := by rw [HT2.out, if_neg hsame]
          clear hsame HT2 HEQ
          go_wp2_with fail
          go_region_with (go_at_call 109; refine (HIT.out _ ?_).mono ?_; exact HB2.out.drew; rintro e w3 ⟨rfl, hb3⟩; have hb4 := HB2.out.drew.trans (hb3.mono HB2.out.drew.size); have a4 := HA0.out w3 hb4)
          all_goals (go_wp2; go_ret2; exact ⟨rfl, by assumption⟩)
      · have HB2 := Lib.hid hb2
        obtain rfl : T = none := by
          rw [HT1.out]
          unfold Ac.numE
          rw [← HD.out]
          split
          · rename_i v hv
            exact absurd hv (hno v)
          · rfl
        clear hb2 hno a0 HAT HT1 HEQ
        go_wp2_with fail
        go_region
        go_wp2
        go_ret2
        exact ⟨rfl, HB2.out.drew⟩
    · obtain rfl : T = none := HT.out
      go_enter Tryz.func144, Tryz.ntmps144
      go_wp2
      go_ret2
      exact ⟨rfl, Below.refl _ _⟩
  · obtain rfl : T = none := HT.out
    obtain ⟨n, hn⟩ : ∃ n, (⟨yt, yl, yc, yq⟩ :: y2 :: r : List Ln.W).length = n := ⟨_, rfl⟩
    rw [hn] at hc HV ⊢
    have hn1 : ((n : Int) != 1) = true := by
      rw [List.length_cons, List.length_cons] at hn
      simp
      omega
    clear hn
    go_enter Tryz.func144, Tryz.ntmps144
    go_wp2
    go_ret2
    exact ⟨rfl, Below.refl _ _⟩
end Go.Proofs.YtgjehlegcmeeoaaGreatDoor

/- How package acts reads the words of one thing. -/
namespace Go.Proofs.YtgjehlegcmeeoaaGreatDoor
set_option maxRecDepth 100000
open Go.ChangeShapes Go.WideShapes Go.ChangeAt Go.RowKit

def ReadIs (w : World) (e : Ending) (w' : World) : Option Ac.E → Prop
  | some d => e = .returned (.tuple #[.agg (cellsE d).toArray, .bool true]) ∧ Below w.heap.size w w'
  | none => e = .returned (.tuple #[.agg (cellsE ⟨0, 0, []⟩).toArray, .bool false]) ∧ Below w.heap.size w w'
theorem read_none {w w' : World} {e : Ending} {T : Option Ac.E} (h : T = none) (he : e = .returned (.tuple #[.agg (cellsE ⟨0, 0, []⟩).toArray, .bool false])) (hb : Below w.heap.size w w') : ReadIs w e w' T := by
  rw [h]
  exact ⟨he, hb⟩
theorem read_some {w w' : World} {e : Ending} {T : Option Ac.E} {d : Ac.E} (h : T = some d) (he : e = .returned (.tuple #[.agg (cellsE d).toArray, .bool true])) (hb : Below w.heap.size w w') : ReadIs w e w' T := by
  rw [h]
  exact ⟨he, hb⟩
theorem kind_le (t : List Nat) : Ac.kindOf t ≤ 11 := by
  unfold Ac.kindOf
  split
  · omega
  · split <;> omega
def oneKind (k : Nat) (r : List Ln.W) : Option Ac.E :=
  if Ac.isText k then (textOf r).map fun t => ⟨k, 0, t⟩
  else if Ac.most k ≠ 0 then (numOf r).map fun v => ⟨k, v, []⟩
  else if r.length = 0 then some ⟨k, 0, []⟩ else none
theorem oneE_kind (xt : List Nat) (xl xc : Nat) (r : List Ln.W) : Ac.oneE (⟨xt, xl, xc, false⟩ :: r) = oneKind (Ac.kindOf xt) r := by
  have e2 : Ac.oneE (⟨xt, xl, xc, false⟩ :: r) = if Ac.isText (Ac.kindOf xt) then match r with
      | [y] => if y.q then some ⟨Ac.kindOf xt, 0, y.text⟩ else none
      | _ => none
    else if Ac.most (Ac.kindOf xt) ≠ 0 then match r with
      | [y] => if y.q then none else match Ac.numE y.text with
        | some v => some ⟨Ac.kindOf xt, v, []⟩
        | none => none
      | _ => none
    else match r with
      | [] => some ⟨Ac.kindOf xt, 0, []⟩
      | _ => none := by unfold Ac.oneE; rfl
  rw [e2]
  unfold oneKind
  generalize Ac.kindOf xt = k
  by_cases h1 : Ac.isText k = true
  · rw [if_pos h1, if_pos h1]
    rcases r with _ | ⟨⟨yt, yl, yc, yq⟩, _ | ⟨y2, r⟩⟩
    · rfl
    · cases yq <;> rfl
    · rfl
  · rw [if_neg h1, if_neg h1]
    by_cases h2 : Ac.most k ≠ 0
    · rw [if_pos h2, if_pos h2]
      rcases r with _ | ⟨⟨yt, yl, yc, yq⟩, _ | ⟨y2, r⟩⟩
      · rfl
      · cases yq
        · show (match Ac.numE yt with
            | some v => some (Ac.E.mk k v [])
            | none => none) = (Ac.numE yt).map _
          rcases Ac.numE yt <;> rfl
        · rfl
      · rfl
    · rw [if_neg h2, if_neg h2]
      rcases r with _ | ⟨y, r⟩
      · rfl
      · rfl
set_option maxRecDepth 100000 in
set_option maxHeartbeats 16000000 in
theorem readw_any (v : Value) (R : List Ln.W) (w : World) (hv : RdW w v R) (ht : ∀ x ∈ R, (∀ c ∈ x.text, c < 256) ∧ x.text.length ≤ 1099511627776) (hTab : Tabs w) (T : Option Ac.E) (hT : T = Ac.oneE R) :
    Calls Tryz.prog 133 #[v] w fun e w' => ReadIs w e w' T := by
  have HV := Lib.hid hv
  have HT := Lib.hid hT
  have HTX := Lib.hid ht
  have HTab := Lib.hid hTab
  have HBX : Hid (∀ o, Below w.heap.size w (w.alloc o)) := Lib.hid (fun o => (Below.refl _ _).alloc (Nat.le_refl _) o)
  obtain ⟨A, c, rfl, hc⟩ := hv.parts2
  clear hv hT ht hTab
  rcases R with _ | ⟨⟨xt, xl, xc, xq⟩, r⟩
  · obtain rfl : T = none := HT.out
    rw [show ([] : List Ln.W).length = 0 from rfl] at hc ⊢
    have HR := Lib.hid (heap_alloc_new w (.cells #[.int .i64 0, .int .i64 0, .string ⟨#[]⟩] 101))
    have HR2 : Hid (Blk (w.alloc (.cells #[.int .i64 0, .int .i64 0, .string ⟨#[]⟩] 101)) w.heap.size 101 #[.int .i64 0, .int .i64 0, .string ⟨#[]⟩]) := HR
    go_enter Tryz.func133, Tryz.ntmps133
    go_wp2
    refine bodyPost_ret (results_cell_tmp1 rfl _ _ w.heap.size _ _ _ _ rfl HR2.out Tryz.underlying101 rfl (by kernel_rfl)) rfl ?_
    exact read_none rfl rfl (HBX.out _)
  · obtain ⟨n, hn⟩ : ∃ n, (⟨xt, xl, xc, xq⟩ :: r : List Ln.W).length = n := ⟨_, rfl⟩
    have HN : Hid (r.length + 1 = n) := Lib.hid hn
    rw [hn] at hc HV ⊢
    have hn0 : ((n : Int) == 0) = false := by have := HN.out; simp; omega
    have hnI : (0 : Int) < (n : Int) := by have := HN.out; omega
    obtain ⟨b, off, rfl, a0, -, -, a3⟩ := HV.out.at2 0 (by simp)
    change w.cell? ⟨b, off + 0 * 4, none⟩ = some (.string (str xt)) at a0
    change w.cell? ⟨b, off + 0 * 4 + 3, none⟩ = some (.bool xq) at a3
    rw [Nat.zero_mul, Nat.add_zero] at a0 a3
    have k0 : ∀ o, (w.alloc o).cell? ⟨b, off, none⟩ = some (.string (str xt)) := fun o => (World.cell?_alloc_lt w o _ (World.block_lt_of_cell? _ _ a0)).trans a0
    have k3 : ∀ o, (w.alloc o).cell? ⟨b, off + 3, none⟩ = some (.bool xq) := fun o => (World.cell?_alloc_lt w o _ (World.block_lt_of_cell? _ _ a3)).trans a3
    have k00 : ∀ o o', ((w.alloc o).alloc o').cell? ⟨b, off, none⟩ = some (.string (str xt)) := fun o o' => (World.cell?_alloc_lt _ o' _ (World.block_lt_of_cell? _ _ (k0 o))).trans (k0 o)
    clear a0 a3 hn
    rcases xq with _ | _
    · obtain ⟨K, hK⟩ : ∃ K, Ac.kindOf xt = K := ⟨_, rfl⟩
      have hK11 : K ≤ 11 := by rw [← hK]; exact kind_le xt
      have HKA : Hid (∀ W, Calls Tryz.prog 142 #[.string (str xt)] W fun e w' => e = .returned (.int .i64 (K : Int)) ∧ W = w') := Lib.hid (fun W => by rw [← hK]; exact kind_any xt W (HTX.out ⟨xt, xl, xc, false⟩ (by simp)).1)
      have HT2 : Hid (T = oneKind K r) := Lib.hid (by rw [HT.out, oneE_kind, hK])
      have HTR : Hid (∀ x ∈ r, (∀ c ∈ x.text, c < 256) ∧ x.text.length ≤ 1099511627776) := Lib.hid (fun x hx => HTX.out x (by simp [hx]))
      have hcn : (n : Int) ≤ (c : Int) := by omega
      have hn1 : (1 : Int) ≤ (n : Int) := by omega
      have hc1I : (1 : Int) ≤ (c : Int) := by omega
      have hc1N : 1 ≤ c := by omega
      have hn1N : 1 ≤ n := by omega
      have HSL : Hid (∀ W A', Below w.heap.size w W → (1 < n → A' = some ⟨b, off + 1 * 4, none⟩) → RdW W (.slice A' (n - 1) (c - 1)) r) := Lib.hid (fun W A' hb hA => by
        have := (HV.out.under hb).slice (fr := 1) (i := n) (by omega) (Nat.le_refl _) hA
        rwa [List.take_of_length_le (by rw [List.length_drop, List.length_cons]; have := HN.out; omega)] at this)
      clear hK HTX HT
      obtain ⟨s, hs⟩ : ∃ s, str xt = s := ⟨_, rfl⟩
      rw [hs] at k0 k00 HKA
      clear hs HV
      have HW2 : Hid (Below w.heap.size w (((w.alloc (.cells #[.int .i64 0, .int .i64 0, .string ⟨#[]⟩] 101)).alloc (.cells #[.int .i64 (K : Int), .int .i64 0, .string ⟨#[]⟩] 101)).drew) ∧ Blk (((w.alloc (.cells #[.int .i64 0, .int .i64 0, .string ⟨#[]⟩] 101)).alloc (.cells #[.int .i64 (K : Int), .int .i64 0, .string ⟨#[]⟩] 101)).drew) w.heap.size 101 #[.int .i64 0, .int .i64 0, .string ⟨#[]⟩] ∧ Blk (((w.alloc (.cells #[.int .i64 0, .int .i64 0, .string ⟨#[]⟩] 101)).alloc (.cells #[.int .i64 (K : Int), .int .i64 0, .string ⟨#[]⟩] 101)).drew) (w.heap.size + 1) 101 #[.int .i64 (K : Int), .int .i64 0, .string ⟨#[]⟩]) := Lib.hid (by
        have b1 := HBX.out (.cells #[.int .i64 0, .int .i64 0, .string ⟨#[]⟩] 101)
        have b2 := b1.alloc b1.size (.cells #[.int .i64 (K : Int), .int .i64 0, .string ⟨#[]⟩] 101)
        have k1 : Blk (w.alloc (.cells #[.int .i64 0, .int .i64 0, .string ⟨#[]⟩] 101)) w.heap.size 101 #[.int .i64 0, .int .i64 0, .string ⟨#[]⟩] := heap_alloc_new w _
        have k2 : Blk ((w.alloc (.cells #[.int .i64 0, .int .i64 0, .string ⟨#[]⟩] 101)).alloc (.cells #[.int .i64 (K : Int), .int .i64 0, .string ⟨#[]⟩] 101)) (w.heap.size + 1) 101 #[.int .i64 (K : Int), .int .i64 0, .string ⟨#[]⟩] := by
          have := heap_alloc_new (w.alloc (.cells #[.int .i64 0, .int .i64 0, .string ⟨#[]⟩] 101)) (.cells #[.int .i64 (K : Int), .int .i64 0, .string ⟨#[]⟩] 101)
          rwa [show (w.alloc (.cells #[.int .i64 0, .int .i64 0, .string ⟨#[]⟩] 101)).heap.size = w.heap.size + 1 from by simp] at this
        exact ⟨b2.drew, (k1.alloc _).heap rfl, k2.heap rfl⟩)
      have HRL : Hid (r.length = n - 1) := Lib.hid (by have := HN.out; omega)
      obtain ⟨ad, had⟩ : ∃ ad : Addr, (if c = 1 then some (⟨b, off, none⟩ : Addr) else some ⟨b, off + 4, none⟩) = some ad := by split <;> exact ⟨_, rfl⟩
      have HAD : Hid (1 < n → some ad = some ⟨b, off + 1 * 4, none⟩) := Lib.hid (fun h => by rw [← had, if_neg (by omega)])
      go_enter Tryz.func133, Tryz.ntmps133
      go_upto_region 3 with fail
      go_cut [4, 5] (fun s4 s5 wx => ∃ A1 q c1, s4 = .pointer (some ⟨w.heap.size + 1, 0, none⟩) ∧ s5 = .slice A1 q c1 ∧ Hid (r.length = q) ∧ Hid (RdW wx (.slice A1 q c1) r) ∧ Hid (Blk wx w.heap.size 101 #[.int .i64 0, .int .i64 0, .string ⟨#[]⟩]) ∧ Hid (Blk wx (w.heap.size + 1) 101 #[.int .i64 (K : Int), .int .i64 0, .string ⟨#[]⟩]) ∧ Hid (Below w.heap.size w wx))
      case first =>
        go_region_with (go_at_call 142; refine (HKA.out _).mono ?_; rintro e w3 ⟨rfl, rfl⟩)
        all_goals (go_wp2_with fail; go_meet; exact ⟨_, _, _, rfl, rfl, HRL, Lib.hid (HSL.out _ _ HW2.out.1 HAD.out), Lib.hid HW2.out.2.1, Lib.hid HW2.out.2.2, Lib.hid HW2.out.1⟩)
      case rest =>
        obtain ⟨A1, q, c1, rfl, rfl, HQ, HR, HK1, HK2, HBW⟩ := hcut
        obtain ⟨wz, rfl⟩ : ∃ wx : World, wx = wc := ⟨_, rfl⟩
        clear HW2 HRL had HAD HKA k0 k00 k3 HSL
        have c0 := HK2.out.at 0
        have c2 := HK2.out.at 2
        have f2 := HK2.out.free 2
        have c1' := HK2.out.at 1
        have f1 := HK2.out.free 1
        change wz.cell? ⟨w.heap.size + 1, 0, none⟩ = some (.int .i64 (K : Int)) at c0
        change wz.cell? ⟨w.heap.size + 1, 1, none⟩ = some (.int .i64 0) at c1'
        change wz.cell? ⟨w.heap.size + 1, 2, none⟩ = some (.string ⟨#[]⟩) at c2
        by_cases h1 : K = 1
        · as_aux_lemma =>
          have e1 : ((K : Int) == 1) = true := by simp; omega
          obtain ⟨U, hU⟩ : ∃ U, U = textOf r := ⟨_, rfl⟩
          have HTA := Lib.hid (text_any (.slice A1 q c1) r wz HR.out U hU)
          have HT3 : Hid (T = U.map fun t => ⟨K, 0, t⟩) := Lib.hid (by rw [HT2.out, hU, h1]; rfl)
          have HJ1 := HK1
          have HJ2 := HK2
          clear hU HT2 h1
          rcases U with _ | t
          · go_upto_region 14 with (go_at_call 143; refine HTA.out.mono ?_; rintro e w3 ⟨rfl, rfl⟩)
            have HL1 : Hid (Blk (wz.setCell ⟨w.heap.size + 1, 2, none⟩ (.string (str []))) w.heap.size 101 #[.int .i64 0, .int .i64 0, .string ⟨#[]⟩]) := Lib.hid (HJ1.out.setOther (by simp) _)
            have HL2 : Hid (Blk (wz.setCell ⟨w.heap.size + 1, 2, none⟩ (.string (str []))) (w.heap.size + 1) 101 #[.int .i64 (K : Int), .int .i64 0, .string (str [])]) := Lib.hid (HJ2.out.set 2 _)
            have HLB : Hid (Below w.heap.size w (wz.setCell ⟨w.heap.size + 1, 2, none⟩ (.string (str [])))) := Lib.hid (HBW.out.setCell (by simp) _)
            obtain ⟨w4, hw4⟩ : ∃ w4, w4 = (wz.setCell ⟨w.heap.size + 1, 2, none⟩ (.string (str []))) := ⟨_, rfl⟩
            rw [← hw4] at HL1 HL2 HLB ⊢
            clear hw4 HJ1 HJ2 HK1 HK2 c0 c1' c2 f1 f2
            have d0 := HL1.out.at 0
            have g0 := HL1.out.free 0
            have d1 := HL1.out.at 1
            have g1 := HL1.out.free 1
            have d2 := HL1.out.at 2
            have g2 := HL1.out.free 2
            change w4.cell? ⟨w.heap.size, 0, none⟩ = some (.int .i64 0) at d0
            change w4.cell? ⟨w.heap.size, 1, none⟩ = some (.int .i64 0) at d1
            change w4.cell? ⟨w.heap.size, 2, none⟩ = some (.string ⟨#[]⟩) at d2
            have HF : Hid (Blk (((w4.setCell ⟨w.heap.size, 0, none⟩ (.int .i64 0)).setCell ⟨w.heap.size, 1, none⟩ (.int .i64 0)).setCell ⟨w.heap.size, 2, none⟩ (.string ⟨#[]⟩)) w.heap.size 101 #[(.int .i64 0), (.int .i64 0), (.string ⟨#[]⟩)]) := Lib.hid (((HL1.out.set 0 _).set 1 _).set 2 _)
            have HFB : Hid (Below w.heap.size w (((w4.setCell ⟨w.heap.size, 0, none⟩ (.int .i64 0)).setCell ⟨w.heap.size, 1, none⟩ (.int .i64 0)).setCell ⟨w.heap.size, 2, none⟩ (.string ⟨#[]⟩))) := Lib.hid (((HLB.out.setCell (Nat.le_refl _) _).setCell (Nat.le_refl _) _).setCell (Nat.le_refl _) _)
            go_wp2
            refine bodyPost_ret (results_cell_tmp1 rfl _ _ w.heap.size _ _ _ _ rfl HF.out Tryz.underlying101 rfl (by kernel_rfl)) rfl ?_
            exact read_none HT3.out rfl HFB.out
          · go_upto_region 14 with (go_at_call 143; refine HTA.out.mono ?_; rintro e w3 ⟨rfl, rfl⟩)
            have HL1 : Hid (Blk (wz.setCell ⟨w.heap.size + 1, 2, none⟩ (.string (str t))) w.heap.size 101 #[.int .i64 0, .int .i64 0, .string ⟨#[]⟩]) := Lib.hid (HJ1.out.setOther (by simp) _)
            have HL2 : Hid (Blk (wz.setCell ⟨w.heap.size + 1, 2, none⟩ (.string (str t))) (w.heap.size + 1) 101 #[.int .i64 (K : Int), .int .i64 0, .string (str t)]) := Lib.hid (HJ2.out.set 2 _)
            have HLB : Hid (Below w.heap.size w (wz.setCell ⟨w.heap.size + 1, 2, none⟩ (.string (str t)))) := Lib.hid (HBW.out.setCell (by simp) _)
            obtain ⟨w4, hw4⟩ : ∃ w4, w4 = (wz.setCell ⟨w.heap.size + 1, 2, none⟩ (.string (str t))) := ⟨_, rfl⟩
            rw [← hw4] at HL1 HL2 HLB ⊢
            clear hw4 HJ1 HJ2 HK1 HK2 c0 c1' c2 f1 f2
            have d0 := HL1.out.at 0
            have g0 := HL1.out.free 0
            have d1 := HL1.out.at 1
            have g1 := HL1.out.free 1
            have d2 := HL1.out.at 2
            have g2 := HL1.out.free 2
            change w4.cell? ⟨w.heap.size, 0, none⟩ = some (.int .i64 0) at d0
            change w4.cell? ⟨w.heap.size, 1, none⟩ = some (.int .i64 0) at d1
            change w4.cell? ⟨w.heap.size, 2, none⟩ = some (.string ⟨#[]⟩) at d2
            have x0 := HL2.out.at 0
            have x1 := HL2.out.at 1
            have x2 := HL2.out.at 2
            change w4.cell? ⟨w.heap.size + 1, 0, none⟩ = some (.int .i64 (K : Int)) at x0
            change w4.cell? ⟨w.heap.size + 1, 1, none⟩ = some (.int .i64 0) at x1
            change w4.cell? ⟨w.heap.size + 1, 2, none⟩ = some (.string (str t)) at x2
            have HF : Hid (Blk (((w4.setCell ⟨w.heap.size, 0, none⟩ (.int .i64 (K : Int))).setCell ⟨w.heap.size, 1, none⟩ (.int .i64 0)).setCell ⟨w.heap.size, 2, none⟩ (.string (str t))) w.heap.size 101 #[(.int .i64 (K : Int)), (.int .i64 0), (.string (str t))]) := Lib.hid (((HL1.out.set 0 _).set 1 _).set 2 _)
            have HFB : Hid (Below w.heap.size w (((w4.setCell ⟨w.heap.size, 0, none⟩ (.int .i64 (K : Int))).setCell ⟨w.heap.size, 1, none⟩ (.int .i64 0)).setCell ⟨w.heap.size, 2, none⟩ (.string (str t)))) := Lib.hid (((HLB.out.setCell (Nat.le_refl _) _).setCell (Nat.le_refl _) _).setCell (Nat.le_refl _) _)
            go_wp2
            refine bodyPost_ret (results_cell_tmp1 rfl _ _ w.heap.size _ _ _ _ rfl HF.out Tryz.underlying101 rfl (by kernel_rfl)) rfl ?_
            exact read_some HT3.out rfl HFB.out
        by_cases h10 : K = 10
        · as_aux_lemma =>
          have e1 : ((K : Int) == 1) = false := by simp; omega
          have e10 : ((K : Int) == 10) = true := by simp; omega
          obtain ⟨U, hU⟩ : ∃ U, U = textOf r := ⟨_, rfl⟩
          have HTA := Lib.hid (text_any (.slice A1 q c1) r wz HR.out U hU)
          have HT3 : Hid (T = U.map fun t => ⟨K, 0, t⟩) := Lib.hid (by rw [HT2.out, hU, h10]; rfl)
          have HJ1 := HK1
          have HJ2 := HK2
          clear hU HT2 h10
          rcases U with _ | t
          · go_upto_region 14 with (go_at_call 143; refine HTA.out.mono ?_; rintro e w3 ⟨rfl, rfl⟩)
            have HL1 : Hid (Blk (wz.setCell ⟨w.heap.size + 1, 2, none⟩ (.string (str []))) w.heap.size 101 #[.int .i64 0, .int .i64 0, .string ⟨#[]⟩]) := Lib.hid (HJ1.out.setOther (by simp) _)
            have HL2 : Hid (Blk (wz.setCell ⟨w.heap.size + 1, 2, none⟩ (.string (str []))) (w.heap.size + 1) 101 #[.int .i64 (K : Int), .int .i64 0, .string (str [])]) := Lib.hid (HJ2.out.set 2 _)
            have HLB : Hid (Below w.heap.size w (wz.setCell ⟨w.heap.size + 1, 2, none⟩ (.string (str [])))) := Lib.hid (HBW.out.setCell (by simp) _)
            obtain ⟨w4, hw4⟩ : ∃ w4, w4 = (wz.setCell ⟨w.heap.size + 1, 2, none⟩ (.string (str []))) := ⟨_, rfl⟩
            rw [← hw4] at HL1 HL2 HLB ⊢
            clear hw4 HJ1 HJ2 HK1 HK2 c0 c1' c2 f1 f2
            have d0 := HL1.out.at 0
            have g0 := HL1.out.free 0
            have d1 := HL1.out.at 1
            have g1 := HL1.out.free 1
            have d2 := HL1.out.at 2
            have g2 := HL1.out.free 2
            change w4.cell? ⟨w.heap.size, 0, none⟩ = some (.int .i64 0) at d0
            change w4.cell? ⟨w.heap.size, 1, none⟩ = some (.int .i64 0) at d1
            change w4.cell? ⟨w.heap.size, 2, none⟩ = some (.string ⟨#[]⟩) at d2
            have HF : Hid (Blk (((w4.setCell ⟨w.heap.size, 0, none⟩ (.int .i64 0)).setCell ⟨w.heap.size, 1, none⟩ (.int .i64 0)).setCell ⟨w.heap.size, 2, none⟩ (.string ⟨#[]⟩)) w.heap.size 101 #[(.int .i64 0), (.int .i64 0), (.string ⟨#[]⟩)]) := Lib.hid (((HL1.out.set 0 _).set 1 _).set 2 _)
            have HFB : Hid (Below w.heap.size w (((w4.setCell ⟨w.heap.size, 0, none⟩ (.int .i64 0)).setCell ⟨w.heap.size, 1, none⟩ (.int .i64 0)).setCell ⟨w.heap.size, 2, none⟩ (.string ⟨#[]⟩))) := Lib.hid (((HLB.out.setCell (Nat.le_refl _) _).setCell (Nat.le_refl _) _).setCell (Nat.le_refl _) _)
            go_wp2
            refine bodyPost_ret (results_cell_tmp1 rfl _ _ w.heap.size _ _ _ _ rfl HF.out Tryz.underlying101 rfl (by kernel_rfl)) rfl ?_
            exact read_none HT3.out rfl HFB.out
          · go_upto_region 14 with (go_at_call 143; refine HTA.out.mono ?_; rintro e w3 ⟨rfl, rfl⟩)
            have HL1 : Hid (Blk (wz.setCell ⟨w.heap.size + 1, 2, none⟩ (.string (str t))) w.heap.size 101 #[.int .i64 0, .int .i64 0, .string ⟨#[]⟩]) := Lib.hid (HJ1.out.setOther (by simp) _)
            have HL2 : Hid (Blk (wz.setCell ⟨w.heap.size + 1, 2, none⟩ (.string (str t))) (w.heap.size + 1) 101 #[.int .i64 (K : Int), .int .i64 0, .string (str t)]) := Lib.hid (HJ2.out.set 2 _)
            have HLB : Hid (Below w.heap.size w (wz.setCell ⟨w.heap.size + 1, 2, none⟩ (.string (str t)))) := Lib.hid (HBW.out.setCell (by simp) _)
            obtain ⟨w4, hw4⟩ : ∃ w4, w4 = (wz.setCell ⟨w.heap.size + 1, 2, none⟩ (.string (str t))) := ⟨_, rfl⟩
            rw [← hw4] at HL1 HL2 HLB ⊢
            clear hw4 HJ1 HJ2 HK1 HK2 c0 c1' c2 f1 f2
            have d0 := HL1.out.at 0
            have g0 := HL1.out.free 0
            have d1 := HL1.out.at 1
            have g1 := HL1.out.free 1
            have d2 := HL1.out.at 2
            have g2 := HL1.out.free 2
            change w4.cell? ⟨w.heap.size, 0, none⟩ = some (.int .i64 0) at d0
            change w4.cell? ⟨w.heap.size, 1, none⟩ = some (.int .i64 0) at d1
            change w4.cell? ⟨w.heap.size, 2, none⟩ = some (.string ⟨#[]⟩) at d2
            have x0 := HL2.out.at 0
            have x1 := HL2.out.at 1
            have x2 := HL2.out.at 2
            change w4.cell? ⟨w.heap.size + 1, 0, none⟩ = some (.int .i64 (K : Int)) at x0
            change w4.cell? ⟨w.heap.size + 1, 1, none⟩ = some (.int .i64 0) at x1
            change w4.cell? ⟨w.heap.size + 1, 2, none⟩ = some (.string (str t)) at x2
            have HF : Hid (Blk (((w4.setCell ⟨w.heap.size, 0, none⟩ (.int .i64 (K : Int))).setCell ⟨w.heap.size, 1, none⟩ (.int .i64 0)).setCell ⟨w.heap.size, 2, none⟩ (.string (str t))) w.heap.size 101 #[(.int .i64 (K : Int)), (.int .i64 0), (.string (str t))]) := Lib.hid (((HL1.out.set 0 _).set 1 _).set 2 _)
            have HFB : Hid (Below w.heap.size w (((w4.setCell ⟨w.heap.size, 0, none⟩ (.int .i64 (K : Int))).setCell ⟨w.heap.size, 1, none⟩ (.int .i64 0)).setCell ⟨w.heap.size, 2, none⟩ (.string (str t)))) := Lib.hid (((HLB.out.setCell (Nat.le_refl _) _).setCell (Nat.le_refl _) _).setCell (Nat.le_refl _) _)
            go_wp2
            refine bodyPost_ret (results_cell_tmp1 rfl _ _ w.heap.size _ _ _ _ rfl HF.out Tryz.underlying101 rfl (by kernel_rfl)) rfl ?_
            exact read_some HT3.out rfl HFB.out
        by_cases h2 : K = 2
        · as_aux_lemma =>
          have e1 : ((K : Int) == 1) = false := by simp; omega
          have e10 : ((K : Int) == 10) = false := by simp; omega
          have e2 : ((K : Int) == 2) = true := by simp; omega
          obtain ⟨U, hU⟩ : ∃ U, U = numOf r := ⟨_, rfl⟩
          have HTA := Lib.hid (number_any (.slice A1 q c1) r wz HR.out (fun x hx => (HTR.out x hx).2) (HTab.out.under HBW.out) U hU)
          have HT3 : Hid (T = U.map fun v => ⟨K, v, []⟩) := Lib.hid (by rw [HT2.out, hU, h2]; rfl)
          clear hU HT2 h2
          rcases U with _ | m
          · go_upto_region 14 with (go_at_call 144; refine HTA.out.mono ?_; rintro e w3 ⟨rfl, hb3⟩; have HJ1 := Lib.hid (HK1.out.under hb3); have HJ2 := Lib.hid (HK2.out.under hb3); have HB3 := Lib.hid (HBW.out.trans (hb3.mono HBW.out.size)); have n1 := HJ2.out.at 1; change w3.cell? ⟨w.heap.size + 1, 1, none⟩ = some (.int .i64 0) at n1; have nf := HJ2.out.free 1)
            have HL1 : Hid (Blk (w3.setCell ⟨w.heap.size + 1, 1, none⟩ (.int .i64 0)) w.heap.size 101 #[.int .i64 0, .int .i64 0, .string ⟨#[]⟩]) := Lib.hid (HJ1.out.setOther (by simp) _)
            have HL2 : Hid (Blk (w3.setCell ⟨w.heap.size + 1, 1, none⟩ (.int .i64 0)) (w.heap.size + 1) 101 #[.int .i64 (K : Int), .int .i64 0, .string ⟨#[]⟩]) := Lib.hid (HJ2.out.set 1 _)
            have HLB : Hid (Below w.heap.size w (w3.setCell ⟨w.heap.size + 1, 1, none⟩ (.int .i64 0))) := Lib.hid (HB3.out.setCell (by simp) _)
            obtain ⟨w4, hw4⟩ : ∃ w4, w4 = (w3.setCell ⟨w.heap.size + 1, 1, none⟩ (.int .i64 0)) := ⟨_, rfl⟩
            rw [← hw4] at HL1 HL2 HLB ⊢
            clear hw4 HJ1 HJ2 HK1 HK2 c0 c1' c2 f1 f2
            have d0 := HL1.out.at 0
            have g0 := HL1.out.free 0
            have d1 := HL1.out.at 1
            have g1 := HL1.out.free 1
            have d2 := HL1.out.at 2
            have g2 := HL1.out.free 2
            change w4.cell? ⟨w.heap.size, 0, none⟩ = some (.int .i64 0) at d0
            change w4.cell? ⟨w.heap.size, 1, none⟩ = some (.int .i64 0) at d1
            change w4.cell? ⟨w.heap.size, 2, none⟩ = some (.string ⟨#[]⟩) at d2
            have HF : Hid (Blk (((w4.setCell ⟨w.heap.size, 0, none⟩ (.int .i64 0)).setCell ⟨w.heap.size, 1, none⟩ (.int .i64 0)).setCell ⟨w.heap.size, 2, none⟩ (.string ⟨#[]⟩)) w.heap.size 101 #[(.int .i64 0), (.int .i64 0), (.string ⟨#[]⟩)]) := Lib.hid (((HL1.out.set 0 _).set 1 _).set 2 _)
            have HFB : Hid (Below w.heap.size w (((w4.setCell ⟨w.heap.size, 0, none⟩ (.int .i64 0)).setCell ⟨w.heap.size, 1, none⟩ (.int .i64 0)).setCell ⟨w.heap.size, 2, none⟩ (.string ⟨#[]⟩))) := Lib.hid (((HLB.out.setCell (Nat.le_refl _) _).setCell (Nat.le_refl _) _).setCell (Nat.le_refl _) _)
            go_wp2
            refine bodyPost_ret (results_cell_tmp1 rfl _ _ w.heap.size _ _ _ _ rfl HF.out Tryz.underlying101 rfl (by kernel_rfl)) rfl ?_
            exact read_none HT3.out rfl HFB.out
          · go_upto_region 14 with (go_at_call 144; refine HTA.out.mono ?_; rintro e w3 ⟨rfl, hb3⟩; have HJ1 := Lib.hid (HK1.out.under hb3); have HJ2 := Lib.hid (HK2.out.under hb3); have HB3 := Lib.hid (HBW.out.trans (hb3.mono HBW.out.size)); have n1 := HJ2.out.at 1; change w3.cell? ⟨w.heap.size + 1, 1, none⟩ = some (.int .i64 0) at n1; have nf := HJ2.out.free 1)
            have HL1 : Hid (Blk (w3.setCell ⟨w.heap.size + 1, 1, none⟩ (.int .i64 m)) w.heap.size 101 #[.int .i64 0, .int .i64 0, .string ⟨#[]⟩]) := Lib.hid (HJ1.out.setOther (by simp) _)
            have HL2 : Hid (Blk (w3.setCell ⟨w.heap.size + 1, 1, none⟩ (.int .i64 m)) (w.heap.size + 1) 101 #[.int .i64 (K : Int), .int .i64 m, .string ⟨#[]⟩]) := Lib.hid (HJ2.out.set 1 _)
            have HLB : Hid (Below w.heap.size w (w3.setCell ⟨w.heap.size + 1, 1, none⟩ (.int .i64 m))) := Lib.hid (HB3.out.setCell (by simp) _)
            obtain ⟨w4, hw4⟩ : ∃ w4, w4 = (w3.setCell ⟨w.heap.size + 1, 1, none⟩ (.int .i64 m)) := ⟨_, rfl⟩
            rw [← hw4] at HL1 HL2 HLB ⊢
            clear hw4 HJ1 HJ2 HK1 HK2 c0 c1' c2 f1 f2
            have d0 := HL1.out.at 0
            have g0 := HL1.out.free 0
            have d1 := HL1.out.at 1
            have g1 := HL1.out.free 1
            have d2 := HL1.out.at 2
            have g2 := HL1.out.free 2
            change w4.cell? ⟨w.heap.size, 0, none⟩ = some (.int .i64 0) at d0
            change w4.cell? ⟨w.heap.size, 1, none⟩ = some (.int .i64 0) at d1
            change w4.cell? ⟨w.heap.size, 2, none⟩ = some (.string ⟨#[]⟩) at d2
            have x0 := HL2.out.at 0
            have x1 := HL2.out.at 1
            have x2 := HL2.out.at 2
            change w4.cell? ⟨w.heap.size + 1, 0, none⟩ = some (.int .i64 (K : Int)) at x0
            change w4.cell? ⟨w.heap.size + 1, 1, none⟩ = some (.int .i64 m) at x1
            change w4.cell? ⟨w.heap.size + 1, 2, none⟩ = some (.string ⟨#[]⟩) at x2
            have HF : Hid (Blk (((w4.setCell ⟨w.heap.size, 0, none⟩ (.int .i64 (K : Int))).setCell ⟨w.heap.size, 1, none⟩ (.int .i64 m)).setCell ⟨w.heap.size, 2, none⟩ (.string ⟨#[]⟩)) w.heap.size 101 #[(.int .i64 (K : Int)), (.int .i64 m), (.string ⟨#[]⟩)]) := Lib.hid (((HL1.out.set 0 _).set 1 _).set 2 _)
            have HFB : Hid (Below w.heap.size w (((w4.setCell ⟨w.heap.size, 0, none⟩ (.int .i64 (K : Int))).setCell ⟨w.heap.size, 1, none⟩ (.int .i64 m)).setCell ⟨w.heap.size, 2, none⟩ (.string ⟨#[]⟩))) := Lib.hid (((HLB.out.setCell (Nat.le_refl _) _).setCell (Nat.le_refl _) _).setCell (Nat.le_refl _) _)
            go_wp2
            refine bodyPost_ret (results_cell_tmp1 rfl _ _ w.heap.size _ _ _ _ rfl HF.out Tryz.underlying101 rfl (by kernel_rfl)) rfl ?_
            exact read_some HT3.out rfl HFB.out
        by_cases h7 : K = 7
        · as_aux_lemma =>
          have e1 : ((K : Int) == 1) = false := by simp; omega
          have e10 : ((K : Int) == 10) = false := by simp; omega
          have e2 : ((K : Int) == 2) = false := by simp; omega
          have e7 : ((K : Int) == 7) = true := by simp; omega
          obtain ⟨U, hU⟩ : ∃ U, U = numOf r := ⟨_, rfl⟩
          have HTA := Lib.hid (number_any (.slice A1 q c1) r wz HR.out (fun x hx => (HTR.out x hx).2) (HTab.out.under HBW.out) U hU)
          have HT3 : Hid (T = U.map fun v => ⟨K, v, []⟩) := Lib.hid (by rw [HT2.out, hU, h7]; rfl)
          clear hU HT2 h7
          rcases U with _ | m
          · go_upto_region 14 with (go_at_call 144; refine HTA.out.mono ?_; rintro e w3 ⟨rfl, hb3⟩; have HJ1 := Lib.hid (HK1.out.under hb3); have HJ2 := Lib.hid (HK2.out.under hb3); have HB3 := Lib.hid (HBW.out.trans (hb3.mono HBW.out.size)); have n1 := HJ2.out.at 1; change w3.cell? ⟨w.heap.size + 1, 1, none⟩ = some (.int .i64 0) at n1; have nf := HJ2.out.free 1)
            have HL1 : Hid (Blk (w3.setCell ⟨w.heap.size + 1, 1, none⟩ (.int .i64 0)) w.heap.size 101 #[.int .i64 0, .int .i64 0, .string ⟨#[]⟩]) := Lib.hid (HJ1.out.setOther (by simp) _)
            have HL2 : Hid (Blk (w3.setCell ⟨w.heap.size + 1, 1, none⟩ (.int .i64 0)) (w.heap.size + 1) 101 #[.int .i64 (K : Int), .int .i64 0, .string ⟨#[]⟩]) := Lib.hid (HJ2.out.set 1 _)
            have HLB : Hid (Below w.heap.size w (w3.setCell ⟨w.heap.size + 1, 1, none⟩ (.int .i64 0))) := Lib.hid (HB3.out.setCell (by simp) _)
            obtain ⟨w4, hw4⟩ : ∃ w4, w4 = (w3.setCell ⟨w.heap.size + 1, 1, none⟩ (.int .i64 0)) := ⟨_, rfl⟩
            rw [← hw4] at HL1 HL2 HLB ⊢
            clear hw4 HJ1 HJ2 HK1 HK2 c0 c1' c2 f1 f2
            have d0 := HL1.out.at 0
            have g0 := HL1.out.free 0
            have d1 := HL1.out.at 1
            have g1 := HL1.out.free 1
            have d2 := HL1.out.at 2
            have g2 := HL1.out.free 2
            change w4.cell? ⟨w.heap.size, 0, none⟩ = some (.int .i64 0) at d0
            change w4.cell? ⟨w.heap.size, 1, none⟩ = some (.int .i64 0) at d1
            change w4.cell? ⟨w.heap.size, 2, none⟩ = some (.string ⟨#[]⟩) at d2
            have HF : Hid (Blk (((w4.setCell ⟨w.heap.size, 0, none⟩ (.int .i64 0)).setCell ⟨w.heap.size, 1, none⟩ (.int .i64 0)).setCell ⟨w.heap.size, 2, none⟩ (.string ⟨#[]⟩)) w.heap.size 101 #[(.int .i64 0), (.int .i64 0), (.string ⟨#[]⟩)]) := Lib.hid (((HL1.out.set 0 _).set 1 _).set 2 _)
            have HFB : Hid (Below w.heap.size w (((w4.setCell ⟨w.heap.size, 0, none⟩ (.int .i64 0)).setCell ⟨w.heap.size, 1, none⟩ (.int .i64 0)).setCell ⟨w.heap.size, 2, none⟩ (.string ⟨#[]⟩))) := Lib.hid (((HLB.out.setCell (Nat.le_refl _) _).setCell (Nat.le_refl _) _).setCell (Nat.le_refl _) _)
            go_wp2
            refine bodyPost_ret (results_cell_tmp1 rfl _ _ w.heap.size _ _ _ _ rfl HF.out Tryz.underlying101 rfl (by kernel_rfl)) rfl ?_
            exact read_none HT3.out rfl HFB.out
          · go_upto_region 14 with (go_at_call 144; refine HTA.out.mono ?_; rintro e w3 ⟨rfl, hb3⟩; have HJ1 := Lib.hid (HK1.out.under hb3); have HJ2 := Lib.hid (HK2.out.under hb3); have HB3 := Lib.hid (HBW.out.trans (hb3.mono HBW.out.size)); have n1 := HJ2.out.at 1; change w3.cell? ⟨w.heap.size + 1, 1, none⟩ = some (.int .i64 0) at n1; have nf := HJ2.out.free 1)
            have HL1 : Hid (Blk (w3.setCell ⟨w.heap.size + 1, 1, none⟩ (.int .i64 m)) w.heap.size 101 #[.int .i64 0, .int .i64 0, .string ⟨#[]⟩]) := Lib.hid (HJ1.out.setOther (by simp) _)
            have HL2 : Hid (Blk (w3.setCell ⟨w.heap.size + 1, 1, none⟩ (.int .i64 m)) (w.heap.size + 1) 101 #[.int .i64 (K : Int), .int .i64 m, .string ⟨#[]⟩]) := Lib.hid (HJ2.out.set 1 _)
            have HLB : Hid (Below w.heap.size w (w3.setCell ⟨w.heap.size + 1, 1, none⟩ (.int .i64 m))) := Lib.hid (HB3.out.setCell (by simp) _)
            obtain ⟨w4, hw4⟩ : ∃ w4, w4 = (w3.setCell ⟨w.heap.size + 1, 1, none⟩ (.int .i64 m)) := ⟨_, rfl⟩
            rw [← hw4] at HL1 HL2 HLB ⊢
            clear hw4 HJ1 HJ2 HK1 HK2 c0 c1' c2 f1 f2
            have d0 := HL1.out.at 0
            have g0 := HL1.out.free 0
            have d1 := HL1.out.at 1
            have g1 := HL1.out.free 1
            have d2 := HL1.out.at 2
            have g2 := HL1.out.free 2
            change w4.cell? ⟨w.heap.size, 0, none⟩ = some (.int .i64 0) at d0
            change w4.cell? ⟨w.heap.size, 1, none⟩ = some (.int .i64 0) at d1
            change w4.cell? ⟨w.heap.size, 2, none⟩ = some (.string ⟨#[]⟩) at d2
            have x0 := HL2.out.at 0
            have x1 := HL2.out.at 1
            have x2 := HL2.out.at 2
            change w4.cell? ⟨w.heap.size + 1, 0, none⟩ = some (.int .i64 (K : Int)) at x0
            change w4.cell? ⟨w.heap.size + 1, 1, none⟩ = some (.int .i64 m) at x1
            change w4.cell? ⟨w.heap.size + 1, 2, none⟩ = some (.string ⟨#[]⟩) at x2
            have HF : Hid (Blk (((w4.setCell ⟨w.heap.size, 0, none⟩ (.int .i64 (K : Int))).setCell ⟨w.heap.size, 1, none⟩ (.int .i64 m)).setCell ⟨w.heap.size, 2, none⟩ (.string ⟨#[]⟩)) w.heap.size 101 #[(.int .i64 (K : Int)), (.int .i64 m), (.string ⟨#[]⟩)]) := Lib.hid (((HL1.out.set 0 _).set 1 _).set 2 _)
            have HFB : Hid (Below w.heap.size w (((w4.setCell ⟨w.heap.size, 0, none⟩ (.int .i64 (K : Int))).setCell ⟨w.heap.size, 1, none⟩ (.int .i64 m)).setCell ⟨w.heap.size, 2, none⟩ (.string ⟨#[]⟩))) := Lib.hid (((HLB.out.setCell (Nat.le_refl _) _).setCell (Nat.le_refl _) _).setCell (Nat.le_refl _) _)
            go_wp2
            refine bodyPost_ret (results_cell_tmp1 rfl _ _ w.heap.size _ _ _ _ rfl HF.out Tryz.underlying101 rfl (by kernel_rfl)) rfl ?_
            exact read_some HT3.out rfl HFB.out
        by_cases h8 : K = 8
        · as_aux_lemma =>
          have e1 : ((K : Int) == 1) = false := by simp; omega
          have e10 : ((K : Int) == 10) = false := by simp; omega
          have e2 : ((K : Int) == 2) = false := by simp; omega
          have e7 : ((K : Int) == 7) = false := by simp; omega
          have e8 : ((K : Int) == 8) = true := by simp; omega
          obtain ⟨U, hU⟩ : ∃ U, U = numOf r := ⟨_, rfl⟩
          have HTA := Lib.hid (number_any (.slice A1 q c1) r wz HR.out (fun x hx => (HTR.out x hx).2) (HTab.out.under HBW.out) U hU)
          have HT3 : Hid (T = U.map fun v => ⟨K, v, []⟩) := Lib.hid (by rw [HT2.out, hU, h8]; rfl)
          clear hU HT2 h8
          rcases U with _ | m
          · go_upto_region 14 with (go_at_call 144; refine HTA.out.mono ?_; rintro e w3 ⟨rfl, hb3⟩; have HJ1 := Lib.hid (HK1.out.under hb3); have HJ2 := Lib.hid (HK2.out.under hb3); have HB3 := Lib.hid (HBW.out.trans (hb3.mono HBW.out.size)); have n1 := HJ2.out.at 1; change w3.cell? ⟨w.heap.size + 1, 1, none⟩ = some (.int .i64 0) at n1; have nf := HJ2.out.free 1)
            have HL1 : Hid (Blk (w3.setCell ⟨w.heap.size + 1, 1, none⟩ (.int .i64 0)) w.heap.size 101 #[.int .i64 0, .int .i64 0, .string ⟨#[]⟩]) := Lib.hid (HJ1.out.setOther (by simp) _)
            have HL2 : Hid (Blk (w3.setCell ⟨w.heap.size + 1, 1, none⟩ (.int .i64 0)) (w.heap.size + 1) 101 #[.int .i64 (K : Int), .int .i64 0, .string ⟨#[]⟩]) := Lib.hid (HJ2.out.set 1 _)
            have HLB : Hid (Below w.heap.size w (w3.setCell ⟨w.heap.size + 1, 1, none⟩ (.int .i64 0))) := Lib.hid (HB3.out.setCell (by simp) _)
            obtain ⟨w4, hw4⟩ : ∃ w4, w4 = (w3.setCell ⟨w.heap.size + 1, 1, none⟩ (.int .i64 0)) := ⟨_, rfl⟩
            rw [← hw4] at HL1 HL2 HLB ⊢
            clear hw4 HJ1 HJ2 HK1 HK2 c0 c1' c2 f1 f2
            have d0 := HL1.out.at 0
            have g0 := HL1.out.free 0
            have d1 := HL1.out.at 1
            have g1 := HL1.out.free 1
            have d2 := HL1.out.at 2
            have g2 := HL1.out.free 2
            change w4.cell? ⟨w.heap.size, 0, none⟩ = some (.int .i64 0) at d0
            change w4.cell? ⟨w.heap.size, 1, none⟩ = some (.int .i64 0) at d1
            change w4.cell? ⟨w.heap.size, 2, none⟩ = some (.string ⟨#[]⟩) at d2
            have HF : Hid (Blk (((w4.setCell ⟨w.heap.size, 0, none⟩ (.int .i64 0)).setCell ⟨w.heap.size, 1, none⟩ (.int .i64 0)).setCell ⟨w.heap.size, 2, none⟩ (.string ⟨#[]⟩)) w.heap.size 101 #[(.int .i64 0), (.int .i64 0), (.string ⟨#[]⟩)]) := Lib.hid (((HL1.out.set 0 _).set 1 _).set 2 _)
            have HFB : Hid (Below w.heap.size w (((w4.setCell ⟨w.heap.size, 0, none⟩ (.int .i64 0)).setCell ⟨w.heap.size, 1, none⟩ (.int .i64 0)).setCell ⟨w.heap.size, 2, none⟩ (.string ⟨#[]⟩))) := Lib.hid (((HLB.out.setCell (Nat.le_refl _) _).setCell (Nat.le_refl _) _).setCell (Nat.le_refl _) _)
            go_wp2
            refine bodyPost_ret (results_cell_tmp1 rfl _ _ w.heap.size _ _ _ _ rfl HF.out Tryz.underlying101 rfl (by kernel_rfl)) rfl ?_
            exact read_none HT3.out rfl HFB.out
          · go_upto_region 14 with (go_at_call 144; refine HTA.out.mono ?_; rintro e w3 ⟨rfl, hb3⟩; have HJ1 := Lib.hid (HK1.out.under hb3); have HJ2 := Lib.hid (HK2.out.under hb3); have HB3 := Lib.hid (HBW.out.trans (hb3.mono HBW.out.size)); have n1 := HJ2.out.at 1; change w3.cell? ⟨w.heap.size + 1, 1, none⟩ = some (.int .i64 0) at n1; have nf := HJ2.out.free 1)
            have HL1 : Hid (Blk (w3.setCell ⟨w.heap.size + 1, 1, none⟩ (.int .i64 m)) w.heap.size 101 #[.int .i64 0, .int .i64 0, .string ⟨#[]⟩]) := Lib.hid (HJ1.out.setOther (by simp) _)
            have HL2 : Hid (Blk (w3.setCell ⟨w.heap.size + 1, 1, none⟩ (.int .i64 m)) (w.heap.size + 1) 101 #[.int .i64 (K : Int), .int .i64 m, .string ⟨#[]⟩]) := Lib.hid (HJ2.out.set 1 _)
            have HLB : Hid (Below w.heap.size w (w3.setCell ⟨w.heap.size + 1, 1, none⟩ (.int .i64 m))) := Lib.hid (HB3.out.setCell (by simp) _)
            obtain ⟨w4, hw4⟩ : ∃ w4, w4 = (w3.setCell ⟨w.heap.size + 1, 1, none⟩ (.int .i64 m)) := ⟨_, rfl⟩
            rw [← hw4] at HL1 HL2 HLB ⊢
            clear hw4 HJ1 HJ2 HK1 HK2 c0 c1' c2 f1 f2
            have d0 := HL1.out.at 0
            have g0 := HL1.out.free 0
            have d1 := HL1.out.at 1
            have g1 := HL1.out.free 1
            have d2 := HL1.out.at 2
            have g2 := HL1.out.free 2
            change w4.cell? ⟨w.heap.size, 0, none⟩ = some (.int .i64 0) at d0
            change w4.cell? ⟨w.heap.size, 1, none⟩ = some (.int .i64 0) at d1
            change w4.cell? ⟨w.heap.size, 2, none⟩ = some (.string ⟨#[]⟩) at d2
            have x0 := HL2.out.at 0
            have x1 := HL2.out.at 1
            have x2 := HL2.out.at 2
            change w4.cell? ⟨w.heap.size + 1, 0, none⟩ = some (.int .i64 (K : Int)) at x0
            change w4.cell? ⟨w.heap.size + 1, 1, none⟩ = some (.int .i64 m) at x1
            change w4.cell? ⟨w.heap.size + 1, 2, none⟩ = some (.string ⟨#[]⟩) at x2
            have HF : Hid (Blk (((w4.setCell ⟨w.heap.size, 0, none⟩ (.int .i64 (K : Int))).setCell ⟨w.heap.size, 1, none⟩ (.int .i64 m)).setCell ⟨w.heap.size, 2, none⟩ (.string ⟨#[]⟩)) w.heap.size 101 #[(.int .i64 (K : Int)), (.int .i64 m), (.string ⟨#[]⟩)]) := Lib.hid (((HL1.out.set 0 _).set 1 _).set 2 _)
            have HFB : Hid (Below w.heap.size w (((w4.setCell ⟨w.heap.size, 0, none⟩ (.int .i64 (K : Int))).setCell ⟨w.heap.size, 1, none⟩ (.int .i64 m)).setCell ⟨w.heap.size, 2, none⟩ (.string ⟨#[]⟩))) := Lib.hid (((HLB.out.setCell (Nat.le_refl _) _).setCell (Nat.le_refl _) _).setCell (Nat.le_refl _) _)
            go_wp2
            refine bodyPost_ret (results_cell_tmp1 rfl _ _ w.heap.size _ _ _ _ rfl HF.out Tryz.underlying101 rfl (by kernel_rfl)) rfl ?_
            exact read_some HT3.out rfl HFB.out
        as_aux_lemma =>
          have e1 : ((K : Int) == 1) = false := by simp; omega
          have e10 : ((K : Int) == 10) = false := by simp; omega
          have e2 : ((K : Int) == 2) = false := by simp; omega
          have e7 : ((K : Int) == 7) = false := by simp; omega
          have e8 : ((K : Int) == 8) = false := by simp; omega
          have HT3 : Hid (T = if r.length = 0 then some ⟨K, 0, []⟩ else none) := Lib.hid (by
            rw [HT2.out]
            unfold oneKind Ac.isText Ac.most
            simp [h1, h10, h2, h7, h8])
          rw [HQ.out] at HT3
          have HJ1 := HK1
          have HJ2 := HK2
          clear HT2
          rcases Nat.eq_zero_or_pos q with hq0 | hq0
          · have HT3 : Hid (T = some ⟨K, 0, []⟩) := Lib.hid (by rw [HT3.out, if_pos hq0])
            have q0 : ((q : Int) == 0) = true := by simp; omega
            go_upto_region 14 with fail
            have HL1 := HJ1
            have HL2 := HJ2
            have HLB := HBW
            obtain ⟨w4, hw4⟩ : ∃ w4, w4 = wz := ⟨_, rfl⟩
            rw [← hw4] at HL1 HL2 HLB ⊢
            clear hw4 HJ1 HJ2 HK1 HK2 c0 c1' c2 f1 f2
            have d0 := HL1.out.at 0
            have g0 := HL1.out.free 0
            have d1 := HL1.out.at 1
            have g1 := HL1.out.free 1
            have d2 := HL1.out.at 2
            have g2 := HL1.out.free 2
            change w4.cell? ⟨w.heap.size, 0, none⟩ = some (.int .i64 0) at d0
            change w4.cell? ⟨w.heap.size, 1, none⟩ = some (.int .i64 0) at d1
            change w4.cell? ⟨w.heap.size, 2, none⟩ = some (.string ⟨#[]⟩) at d2
            have x0 := HL2.out.at 0
            have x1 := HL2.out.at 1
            have x2 := HL2.out.at 2
            change w4.cell? ⟨w.heap.size + 1, 0, none⟩ = some (.int .i64 (K : Int)) at x0
            change w4.cell? ⟨w.heap.size + 1, 1, none⟩ = some (.int .i64 0) at x1
            change w4.cell? ⟨w.heap.size + 1, 2, none⟩ = some (.string ⟨#[]⟩) at x2
            have HF : Hid (Blk (((w4.setCell ⟨w.heap.size, 0, none⟩ (.int .i64 (K : Int))).setCell ⟨w.heap.size, 1, none⟩ (.int .i64 0)).setCell ⟨w.heap.size, 2, none⟩ (.string ⟨#[]⟩)) w.heap.size 101 #[(.int .i64 (K : Int)), (.int .i64 0), (.string ⟨#[]⟩)]) := Lib.hid (((HL1.out.set 0 _).set 1 _).set 2 _)
            have HFB : Hid (Below w.heap.size w (((w4.setCell ⟨w.heap.size, 0, none⟩ (.int .i64 (K : Int))).setCell ⟨w.heap.size, 1, none⟩ (.int .i64 0)).setCell ⟨w.heap.size, 2, none⟩ (.string ⟨#[]⟩))) := Lib.hid (((HLB.out.setCell (Nat.le_refl _) _).setCell (Nat.le_refl _) _).setCell (Nat.le_refl _) _)
            go_wp2
            refine bodyPost_ret (results_cell_tmp1 rfl _ _ w.heap.size _ _ _ _ rfl HF.out Tryz.underlying101 rfl (by kernel_rfl)) rfl ?_
            exact read_some HT3.out rfl HFB.out
          · have HT3 : Hid (T = none) := Lib.hid (by rw [HT3.out, if_neg (by omega)])
            have q0 : ((q : Int) == 0) = false := by simp; omega
            go_upto_region 14 with fail
            have HL1 := HJ1
            have HL2 := HJ2
            have HLB := HBW
            obtain ⟨w4, hw4⟩ : ∃ w4, w4 = wz := ⟨_, rfl⟩
            rw [← hw4] at HL1 HL2 HLB ⊢
            clear hw4 HJ1 HJ2 HK1 HK2 c0 c1' c2 f1 f2
            have d0 := HL1.out.at 0
            have g0 := HL1.out.free 0
            have d1 := HL1.out.at 1
            have g1 := HL1.out.free 1
            have d2 := HL1.out.at 2
            have g2 := HL1.out.free 2
            change w4.cell? ⟨w.heap.size, 0, none⟩ = some (.int .i64 0) at d0
            change w4.cell? ⟨w.heap.size, 1, none⟩ = some (.int .i64 0) at d1
            change w4.cell? ⟨w.heap.size, 2, none⟩ = some (.string ⟨#[]⟩) at d2
            have HF : Hid (Blk (((w4.setCell ⟨w.heap.size, 0, none⟩ (.int .i64 0)).setCell ⟨w.heap.size, 1, none⟩ (.int .i64 0)).setCell ⟨w.heap.size, 2, none⟩ (.string ⟨#[]⟩)) w.heap.size 101 #[(.int .i64 0), (.int .i64 0), (.string ⟨#[]⟩)]) := Lib.hid (((HL1.out.set 0 _).set 1 _).set 2 _)
            have HFB : Hid (Below w.heap.size w (((w4.setCell ⟨w.heap.size, 0, none⟩ (.int .i64 0)).setCell ⟨w.heap.size, 1, none⟩ (.int .i64 0)).setCell ⟨w.heap.size, 2, none⟩ (.string ⟨#[]⟩))) := Lib.hid (((HLB.out.setCell (Nat.le_refl _) _).setCell (Nat.le_refl _) _).setCell (Nat.le_refl _) _)
            go_wp2
            refine bodyPost_ret (results_cell_tmp1 rfl _ _ w.heap.size _ _ _ _ rfl HF.out Tryz.underlying101 rfl (by kernel_rfl)) rfl ?_
            exact read_none HT3.out rfl HFB.out
    · obtain rfl : T = none := HT.out
      have HR := Lib.hid (heap_alloc_new w (.cells #[.int .i64 0, .int .i64 0, .string ⟨#[]⟩] 101))
      have HR2 : Hid (Blk (w.alloc (.cells #[.int .i64 0, .int .i64 0, .string ⟨#[]⟩] 101)) w.heap.size 101 #[.int .i64 0, .int .i64 0, .string ⟨#[]⟩]) := HR
      clear k00 HTX HV
      go_enter Tryz.func133, Tryz.ntmps133
      go_wp2
      refine bodyPost_ret (results_cell_tmp1 rfl _ _ w.heap.size _ _ _ _ rfl HR2.out Tryz.underlying101 rfl (by kernel_rfl)) rfl ?_
      exact read_none rfl rfl (HBX.out _)
end Go.Proofs.YtgjehlegcmeeoaaGreatDoor

/- How package acts reads an action: Parse. -/
namespace Go.Proofs.YtgjehlegcmeeoaaGreatDoor
set_option maxRecDepth 100000
open Go.ChangeShapes Go.WideShapes Go.ChangeAt Go.RowKit

theorem wpList_append_doE {w : World} {ops : Array Oper} {rest : List Oper} {o : Oper} {a : Act} {Q : Exit → Act → World → Prop} (hgd : o.guard = none) (s x : Operand)
    (ho : o.op = .call { callee := .builtin .append, args := #[s, x], argTypes := #[59, 59] }) (base B : Nat) (u : Value) (R : List Ac.E) (z : Ac.E) (hs : a.eval s = u) (hst : OwnE w base u R)
    (hx : a.eval x = .slice (some ⟨B, 0, none⟩) 1 1) (hB : ∀ j y, (cellsE z)[j]? = some y → w.cell? ⟨B, j, none⟩ = some y)
    (hlen : R.length ≤ 1099511627776) (hbase : base ≤ w.heap.size) (R' : List Ac.E) (hR : R ++ [z] = R')
    (h : ∀ u' w', OwnE w' base u' R' → w.grownBy w' u.ownBlock → Below base w w' → wpList Tryz.prog ops Q rest (a.put o.dst u') w') : wpList Tryz.prog ops Q (o :: rest) a w := by
  subst hR
  obtain ⟨i, hi, hz0, hz1, hz2⟩ := info_parts infoDo
  refine wpList_append_own_at w hgd s x 59 ho base 101 i (.agg #[.int .i64 0, .int .i64 0, .string ⟨#[]⟩]) 3 32 Tryz.underlying59 hi hz0 hz1 hz2 (by kernel_rfl) (by decide) u R.length (rowE R) hs hst ⟨B, 0, none⟩ 1 1 (cellsE z) hx rfl ?_ (cellsE_one z) (by unfold maxLen; omega) (by omega) hbase ?_
  · intro j y hy
    rw [add_plain]
    simpa using hB j y hy
  · intro u' w' g1 g2 _ _
    refine h u' w' ?_ g2 ((Below.refl _ _).grown g2 hbase fun k hk => (World.ownsRow.lt hst k hk).1)
    unfold OwnE
    rw [List.length_append, List.length_singleton, rowE_snoc]
    exact g1
theorem do_cellsE (w : World) (o : Obj) (z : Ac.E) : ∀ j y, (cellsE z)[j]? = some y → ((w.alloc o).alloc (.cells (cellsE z).toArray 101)).cell? ⟨w.heap.size + 1, j, none⟩ = some y := fun j y hy => by
  have hs : w.heap.size + 1 = (w.alloc o).heap.size := by simp
  have h : Blk ((w.alloc o).alloc (.cells (cellsE z).toArray 101)) (w.heap.size + 1) 101 (cellsE z).toArray := by
    rw [hs]
    exact heap_alloc_new _ _
  rw [h.at j, List.getElem?_toArray]
  exact hy
theorem rdW_empty (w : World) (A : Option Addr) : RdW w (.slice A 0 0) [] := ⟨A, 0, rfl, Nat.le_refl _, Nat.zero_le _, fun h => absurd h (by simp)⟩
theorem textOf_mem {r : List Ln.W} {t : List Nat} (h : textOf r = some t) : ∃ y ∈ r, t = y.text := by
  rcases r with _ | ⟨⟨yt, yl, yc, yq⟩, _ | ⟨y2, r⟩⟩
  · cases h
  · cases yq
    · cases h
    · cases h; exact ⟨_, by simp, rfl⟩
  · cases h
theorem oneE_text {R : List Ln.W} {d : Ac.E} (h : ∀ x ∈ R, (∀ c ∈ x.text, c < 256) ∧ x.text.length ≤ 1099511627776) (hd : Ac.oneE R = some d) : d.kind ≤ 1000000 ∧ (∀ c ∈ d.text, c < 256) ∧ d.text.length ≤ 1099511627776 := by
  have hnil : (∀ c ∈ ([] : List Nat), c < 256) ∧ ([] : List Nat).length ≤ 1099511627776 := ⟨by simp, by simp⟩
  rcases R with _ | ⟨⟨xt, xl, xc, xq⟩, r⟩
  · cases hd
  cases xq with
  | true => simp [Ac.oneE] at hd
  | false =>
    rw [oneE_kind] at hd
    have hk := kind_le xt
    unfold oneKind at hd
    split at hd
    · rcases ht : textOf r with _ | t
      · rw [ht] at hd; cases hd
      · rw [ht] at hd
        cases hd
        obtain ⟨y, hy, rfl⟩ := textOf_mem ht
        exact ⟨by show Ac.kindOf xt ≤ _; omega, h y (by simp [hy])⟩
    · split at hd
      · rcases ht : numOf r with _ | t
        · rw [ht] at hd; cases hd
        · rw [ht] at hd
          cases hd
          exact ⟨by show Ac.kindOf xt ≤ _; omega, hnil⟩
      · split at hd
        · cases hd
          exact ⟨by show Ac.kindOf xt ≤ _; omega, hnil⟩
        · cases hd
/-- A part of words: what it is, and what stands behind it. -/
structure Part (R P R2 : List Ln.W) (q : Bool) : Prop where
  less : q = true → R2.length + 1 ≤ R.length
  last : q = false → R2 = []
  of1 : ∀ x ∈ P, x ∈ R
  of2 : ∀ x ∈ R2, x ∈ R
  no : ∀ M, Ac.oneE P = none → Ac.partsE [] M R = none
  on : q = true → ∀ M d, Ac.oneE P = some d → Ac.partsE [] M R = Ac.partsE [] (M ++ [d]) R2
  fin : q = false → ∀ M d, Ac.oneE P = some d → Ac.partsE [] M R = some (M ++ [d])
theorem part_of {R : List Ln.W} : (∀ j (hj : j < R.length), Ac.sep (R[j]'hj) = false) → Part R R [] false := fun h =>
  ⟨by simp, fun _ => rfl, fun _ h => h, by simp, fun M hn => by rw [Ac.partsE_last h, hn], by simp, fun _ M d hd => by rw [Ac.partsE_last h, hd]⟩
theorem part_at {R : List Ln.W} {k : Nat} (h : SepAt R (some k)) : Part R (R.take k) (R.drop (k + 1)) true := by
  obtain ⟨hk, hs, hj⟩ := h
  refine ⟨fun _ => by rw [List.length_drop]; omega, by simp, fun x hx => List.mem_of_mem_take hx, fun x hx => List.mem_of_mem_drop hx, fun M hn => by rw [Ac.partsE_cut hk hs hj, hn], fun _ M d hd => by rw [Ac.partsE_cut hk hs hj, hd], by simp⟩
theorem cut_said (v : Value) (R : List Ln.W) (w0 w : World) (hv : RdW w0 v R) (h0 : Below w0.heap.size w0 w) (ht : ∀ x ∈ R, ∀ c ∈ x.text, c < 256) (hR : R.length ≤ 1000000) :
    Calls Tryz.prog 132 #[v] w fun e w' => ∃ (u1 u2 : Value) (P R2 : List Ln.W) (q : Bool), e = .returned (.tuple #[u1, u2, .bool q]) ∧ Part R P R2 q ∧ RdW w0 u1 P ∧ RdW w0 u2 R2 ∧ Below w.heap.size w w' := by
  refine (cut_any v R w0 w hv (hv.under h0) ht hR).mono ?_
  rintro e w' ⟨K, hs, hc⟩
  rcases K with _ | k
  · obtain ⟨rfl, hb⟩ := hc
    exact ⟨_, _, R, [], false, rfl, part_of hs, hv, rdW_empty _ _, hb⟩
  · obtain ⟨⟨u1, u2, rfl, h1, h2⟩, hb⟩ := hc
    exact ⟨_, _, _, _, true, rfl, part_at hs, h1, h2, hb⟩
def ParsedIs (w : World) (e : Ending) (w' : World) : Option (List Ac.D) → Prop
  | some L => (∃ u, e = .returned (.tuple #[u, .bool true]) ∧ OwnD w' w.heap.size u L) ∧ Below w.heap.size w w'
  | none => e = .returned (.tuple #[.slice none 0 0, .bool false]) ∧ Below w.heap.size w w'
theorem parsed_none {w w' : World} {e : Ending} {T : Option (List Ac.D)} (h : T = none) (he : e = .returned (.tuple #[.slice none 0 0, .bool false])) (hb : Below w.heap.size w w') : ParsedIs w e w' T := by
  rw [h]
  exact ⟨he, hb⟩
theorem parsed_some {w w' : World} {e : Ending} {T : Option (List Ac.D)} {M : List Ac.E} (h : T.map (List.map Ac.D.e) = some M) (u : Value) (he : e = .returned (.tuple #[u, .bool true])) (ho : OwnE w' w.heap.size u M) (hb : Below w.heap.size w w') : ParsedIs w e w' T := by
  rcases T with _ | L
  · cases h
  · cases h
    exact ⟨⟨u, he, ho.back⟩, hb⟩
theorem map_none {T : Option (List Ac.D)} (h : T.map (List.map Ac.D.e) = none) : T = none := by
  cases T with
  | none => rfl
  | some L => cases h
/-- How far an action is read. -/
structure Pe (R R2 : List Ln.W) (M : List Ac.E) (q : Bool) : Prop where
  on : q = true → Ac.partsE [] [] R = Ac.partsE [] M R2
  fin : q = false → Ac.partsE [] [] R = some M
  texts : ∀ x ∈ R2, x ∈ R
  things : ∀ d ∈ M, d.kind ≤ 1000000 ∧ (∀ c ∈ d.text, c < 256) ∧ d.text.length ≤ 1099511627776
theorem Pe.next {R R2 P R3 : List Ln.W} {M : List Ac.E} {d : Ac.E} {q : Bool} (h : Pe R R2 M true) (hp : Part R2 P R3 q) (hd : Ac.oneE P = some d) (ht : ∀ x ∈ R, (∀ c ∈ x.text, c < 256) ∧ x.text.length ≤ 1099511627776) : Pe R R3 (M ++ [d]) q := by
  refine ⟨fun hq => by rw [h.on rfl, hp.on hq M d hd], fun hq => by rw [h.on rfl, hp.fin hq M d hd], fun x hx => h.texts x (hp.of2 x hx), fun x hx => ?_⟩
  rcases List.mem_append.1 hx with hx | hx
  · exact h.things x hx
  · rw [List.mem_singleton.1 hx]
    exact oneE_text (fun y hy => ht y (h.texts y (hp.of1 y hy))) hd
set_option maxRecDepth 100000 in
set_option maxHeartbeats 16000000 in
theorem parse_any (v : Value) (R : List Ln.W) (w : World) (hv : RdW w v R) (hR : R.length ≤ 1000000) (ht : ∀ x ∈ R, (∀ c ∈ x.text, c < 256) ∧ x.text.length ≤ 1099511627776) (hTab : Tabs w) (T : Option (List Ac.D)) (hT : T = Ac.parse R) :
    Calls Tryz.prog 120 #[v] w fun e w' => ParsedIs w e w' T := by
  have HV := Lib.hid hv
  have HX := Lib.hid ht
  have HTab := Lib.hid hTab
  have HT : Hid (Ac.fin (Ac.partsE [] [] R) = T.map (List.map Ac.D.e)) := Lib.hid (by rw [hT]; exact Ac.parse_rel (fun x hx => (ht x hx).1))
  obtain ⟨n, hn⟩ : ∃ n, R.length = n := ⟨_, rfl⟩
  rw [hn] at hR
  have HN := Lib.hid hn
  clear hv ht hT hn hTab
  go_enter Tryz.func120, Tryz.ntmps120
  go_wp2_with fail
  go_loopg [0, 4, 5] (n + 2) (fun g lv dv mv wr => ∃ (R2 : List Ln.W) (M : List Ac.E) (q : Bool), mv = .bool q ∧ (q = true → R2.length + 1 ≤ g) ∧ M.length + R2.length ≤ n + 1 ∧ (q = true → M.length + R2.length ≤ n) ∧ Hid (Pe R R2 M q) ∧ Hid (RdW w lv R2) ∧ Hid (OwnE wr w.heap.size dv M) ∧ Hid (Below w.heap.size w wr))
  case atStart => exact ⟨R, [], true, rfl, fun _ => by rw [HN.out]; omega, by rw [HN.out]; simp, fun _ => by rw [HN.out]; simp, Lib.hid ⟨fun _ => rfl, by simp, fun _ h => h, by simp⟩, HV, Lib.hid (ownE_none _ _), Lib.hid (Below.refl _ _)⟩
  case round =>
    obtain ⟨R2, M, q, rfl, hg, hm1, hm2, hP, hRD, hO, hbl⟩ := hrel
    obtain ⟨wz, rfl⟩ : ∃ wx : World, wx = wr := ⟨_, rfl⟩
    rcases q with _ | _
    · as_aux_lemma =>
        have HFN := Lib.hid (hP.out.fin rfl)
        have HOK := Lib.hid (fun W u (hu : RdE W u M) => okact_any u M W hu hP.out.things)
        clear hg hm1 hm2
        go_wp2_with fail
        refine (HOK.out _ _ hO.out.rd).mono ?_
        rintro e w2 ⟨rfl, hb2⟩
        have HB2 := Lib.hid (hbl.out.trans (hb2.mono hbl.out.size))
        have HO2 := Lib.hid (hO.out.under hb2)
        clear hb2
        rcases hok : Ac.okL M with _ | _
        · have HT2 : Hid (T = none) := Lib.hid (map_none (by rw [← HT.out, HFN.out]; unfold Ac.fin; simp only; rw [hok]; rfl))
          go_wp2
          go_ret2
          exact parsed_none HT2.out rfl HB2.out
        · have HT2 : Hid (T.map (List.map Ac.D.e) = some M) := Lib.hid (by rw [← HT.out, HFN.out]; unfold Ac.fin; simp only; rw [hok]; rfl)
          go_wp2
          go_ret2
          exact parsed_some HT2.out _ rfl HO2.out HB2.out
    · as_aux_lemma =>
        have HM1 := Lib.hid hm1
        have HM2 := Lib.hid (hm2 rfl)
        have HG := Lib.hid (hg rfl)
        have HCT := Lib.hid (cut_said u0 R2 w wz hRD.out hbl.out (fun x hx => (HX.out x (hP.out.texts x hx)).1) (by have := HM2.out; omega))
        clear hg hm1 hm2
        go_wp2_with fail
        refine HCT.out.mono ?_
        rintro e w2 ⟨p1, p2, P, R3, q2, rfl, hpt, h1, h2, hb2⟩
        have HPT := Lib.hid hpt
        have H1 := Lib.hid h1
        have H2 := Lib.hid h2
        have HB2 := Lib.hid (hbl.out.trans (hb2.mono hbl.out.size))
        have HO2 := Lib.hid (hO.out.under hb2)
        clear hpt h1 h2 hb2 HCT
        obtain ⟨U, hU⟩ : ∃ U, U = Ac.oneE P := ⟨_, rfl⟩
        have HU := Lib.hid hU
        have HRD := Lib.hid (readw_any p1 P w2 (H1.out.under HB2.out) (fun x hx => HX.out x (hP.out.texts x (HPT.out.of1 x hx))) (HTab.out.under HB2.out) U hU)
        clear hU
        go_wp2_with fail
        refine HRD.out.mono ?_
        intro e w3 hrd
        rcases U with _ | d
        · as_aux_lemma =>
            obtain ⟨rfl, hb3⟩ := hrd
            have HT2 : Hid (T = none) := Lib.hid (map_none (by rw [← HT.out, hP.out.on rfl, HPT.out.no M HU.out.symm]; rfl))
            have HB3 := Lib.hid (HB2.out.trans (hb3.mono HB2.out.size))
            have HBA : Hid (∀ o, Below w.heap.size w (w3.alloc o)) := Lib.hid (fun o => HB3.out.alloc HB3.out.size o)
            rw [show (cellsE (⟨0, 0, []⟩ : Ac.E)).toArray = #[.int .i64 0, .int .i64 0, .string (str [])] from rfl]
            clear hb3
            go_wp2
            go_ret2
            exact parsed_none HT2.out rfl (HBA.out _)
        · as_aux_lemma =>
            obtain ⟨rfl, hb3⟩ := hrd
            have HP3 := Lib.hid (hP.out.next HPT.out HU.out.symm HX.out)
            have HB3 := Lib.hid (HB2.out.trans (hb3.mono HB2.out.size))
            have HO3 := Lib.hid (HO2.out.under hb3)
            obtain ⟨dk, dn, dt⟩ := d
            rw [show (cellsE (⟨dk, dn, dt⟩ : Ac.E)).toArray = #[.int .i64 (dk : Int), .int .i64 dn, .string (str dt)] from rfl]
            clear hb3
            go_wp2_with (at_builtin; refine wpList_append_doE rfl _ _ rfl w.heap.size (w3.heap.size + 1) u4 M ⟨dk, dn, dt⟩ rfl ((HO3.out.alloc _).alloc _) rfl (do_cellsE w3 _ ⟨dk, dn, dt⟩) (by have := HM1.out; omega) (Nat.le_trans HB3.out.size (by simp; omega)) _ rfl ?_)
            rintro u' w4 hO4 - hb4
            have HO4 := Lib.hid hO4
            have HB4 := Lib.hid (((HB3.out.alloc HB3.out.size (.cells (cellsE ⟨dk, dn, dt⟩).toArray 101)).alloc (HB3.out.alloc HB3.out.size _).size (.cells (cellsE ⟨dk, dn, dt⟩).toArray 101)).trans hb4)
            clear hO4 hb4
            go_wp2
            have HLS := Lib.hid HPT.out.less
            have HLA := Lib.hid HPT.out.last
            go_roundg (if q2 = true then R3.length + 1 else 0)
            case measure =>
              have := HG.out
              have := HLS.out
              split
              · rename_i h; have := this h; omega
              · omega
            case rel =>
              refine ⟨R3, M ++ [⟨dk, dn, dt⟩], q2, rfl, fun hq => by rw [if_pos hq]; exact Nat.le_refl _, ?_, fun hq => ?_, HP3, H2, HO4, HB4⟩
              · rw [List.length_append, List.length_singleton]
                have h1 := HM2.out
                rcases q2 with _ | _
                · rw [HLA.out rfl]; simp; omega
                · have := HLS.out rfl; omega
              · rw [List.length_append, List.length_singleton]
                have h1 := HM2.out
                have := HLS.out hq; omega
end Go.Proofs.YtgjehlegcmeeoaaGreatDoor
