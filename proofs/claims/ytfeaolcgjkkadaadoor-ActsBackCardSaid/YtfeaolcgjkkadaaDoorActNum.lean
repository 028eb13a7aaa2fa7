/- How package acts reads a number: whatever the library reads, if it is written back so. -/
import Derived.Test.YtfeaolcgjkkadaaDoorActKind
import Derived.Deep.RegionHeld3
namespace Go.Proofs.YtfeaolcgjkkadaaDoor
set_option maxRecDepth 100000
open Go.ChangeShapes Go.WideShapes Go.ChangeAt Go.RowKit

def itoaS (v : Int) : ByteArray := ⟨(Lib.itoa v).toArray⟩
theorem itoaS_eq {t : List Nat} (v : Int) : ((itoaS v).toList == (str t).toList) = decide (Lib.itoa v = t.map UInt8.ofNat) := by
  rw [str_toList]
  have : (itoaS v).toList = Lib.itoa v := by simp [itoaS]
  rw [this]
  by_cases h : Lib.itoa v = t.map UInt8.ofNat
  · rw [h, decide_eq_true rfl]; simp
  · rw [decide_eq_false h]; simpa using h
theorem itoa_all (v : Int) (w : World) (h : -9223372036854775808 ≤ v ∧ v ≤ 9223372036854775807) (hT : Tabs w) : Calls Tryd.prog 45 #[.int .i64 v] w fun e w' => e = .returned (.string (itoaS v)) ∧ Below w.heap.size w w' := by
  refine (Tryd.strconv_Itoa v h.1 h.2 w hT.1).mono fun e w' ⟨he, k, os, hw⟩ => ⟨he, ?_⟩
  rw [hw]; exact below_grow w k os
set_option maxHeartbeats 8000000 in
theorem number_any (v : Value) (R : List Ln.W) (w : World) (hv : RdW w v R) (ht : ∀ x ∈ R, x.text.length ≤ 1099511627776) (hTab : Tabs w) (T : Option Int) (hT : T = numOf R) :
    Calls Tryd.prog 32 #[v] w fun e w' => e = .returned (.tuple #[.int .i64 (T.getD 0), .bool T.isSome]) ∧ Below w.heap.size w w' := by
  have HV := Lib.hid hv
  have HT := Lib.hid hT
  have HTX := Lib.hid ht
  have HTab := Lib.hid hTab
  obtain ⟨A, c, rfl, hc⟩ := hv.parts2
  clear hv hT ht hTab
  rcases R with _ | ⟨⟨yt, yl, yc, yq⟩, _ | ⟨y2, r⟩⟩
  · obtain rfl : T = none := HT.out
    rw [show ([] : List Ln.W).length = 0 from rfl] at hc ⊢
    go_enter Tryd.func32, Tryd.ntmps32
    go_wp2
    go_ret2
    exact ⟨rfl, Below.refl _ _⟩
  · rw [show ([⟨yt, yl, yc, yq⟩] : List Ln.W).length = 1 from rfl] at hc HV ⊢
    obtain ⟨b, off, rfl, a0, a1, a2, a3⟩ := HV.out.at2 0 (by simp)
    change w.cell? ⟨b, off + 0 * 4, none⟩ = some (.string (str yt)) at a0
    change w.cell? ⟨b, off + 0 * 4 + 3, none⟩ = some (.bool yq) at a3
    rw [Nat.zero_mul, Nat.add_zero] at a0 a3
    have HA0 : Hid (∀ W, Below w.heap.size w W → W.cell? ⟨b, off, none⟩ = some (.string (str yt))) := Lib.hid (fun W hb => cell_later hb a0)
    have HYL := Lib.hid (HTX.out ⟨yt, yl, yc, yq⟩ (by simp))
    clear a1 a2
    rcases yq with _ | _
    · have HAT := Lib.hid (atoi_any (str yt) w (by rw [str_size]; have := HYL.out; change yt.length ≤ _ at this; omega) HTab.out)
      have HT1 : Hid (T = Ac.numE yt) := Lib.hid HT.out
      have hdat : (str yt).data.toList = yt.map UInt8.ofNat := str_data yt
      have HD := Lib.hid hdat
      have HEQ := Lib.hid (fun u => itoaS_eq (t := yt) u)
      clear hdat HT HTX HYL
      obtain ⟨s, hs⟩ : ∃ s, str yt = s := ⟨_, rfl⟩
      rw [hs] at a0 HA0 HAT HD HEQ
      clear hs
      go_enter Tryd.func32, Tryd.ntmps32
      go_wp2_with fail
      refine HAT.out.mono ?_
      rintro e w2 ⟨hb2, ⟨u, hu, rfl⟩ | ⟨hno, u, te, pe, rfl⟩⟩
      · have HB2 := Lib.hid hb2
        have HU := Lib.hid hu
        have HBD := Lib.hid (atoi_bounds hu)
        have HIT := Lib.hid (fun W (hW : Below w.heap.size w W) => itoa_all u W HBD.out (HTab.out.under hW))
        have hz := HEQ.out u
        have HT2 : Hid (T = if Lib.itoa u = yt.map UInt8.ofNat then some u else none) := Lib.hid (by
          rw [HT1.out]
          unfold Ac.numE
          rw [← HD.out, HU.out])
        have a2 := HA0.out w2 hb2
        obtain ⟨si, hsi⟩ : ∃ si, itoaS u = si := ⟨_, rfl⟩
        rw [hsi] at hz HIT
        clear hsi hu hb2 a0 HAT HT1
        by_cases hsame : Lib.itoa u = yt.map UInt8.ofNat
        · rw [decide_eq_true hsame] at hz
          obtain rfl : T = some u := by rw [HT2.out, if_pos hsame]
          clear hsame HT2 HEQ
          go_wp2_with fail
          go_region_with (go_at_call 45; refine (HIT.out _ ?_).mono ?_; exact HB2.out.drew; rintro e w3 ⟨rfl, hb3⟩; have hb4 := HB2.out.drew.trans (hb3.mono HB2.out.drew.size); have a4 := HA0.out w3 hb4)
          all_goals (go_wp2; go_ret2; exact ⟨rfl, by assumption⟩)
        · rw [decide_eq_false hsame] at hz
          obtain rfl : T = none := by rw [HT2.out, if_neg hsame]
          clear hsame HT2 HEQ
          go_wp2_with fail
          go_region_with (go_at_call 45; refine (HIT.out _ ?_).mono ?_; exact HB2.out.drew; rintro e w3 ⟨rfl, hb3⟩; have hb4 := HB2.out.drew.trans (hb3.mono HB2.out.drew.size); have a4 := HA0.out w3 hb4)
          all_goals (go_wp2; go_ret2; exact ⟨rfl, by assumption⟩)
      · have HB2 := Lib.hid hb2
        obtain rfl : T = none := by
          rw [HT1.out]
          unfold Ac.numE
          rw [← HD.out]
          split
          · rename_i v hv
            exact absurd hv (hno v)
          · rfl
        clear hb2 hno a0 HAT HT1 HEQ
        go_wp2_with fail
        go_region
        go_wp2
        go_ret2
        exact ⟨rfl, HB2.out.drew⟩
    · obtain rfl : T = none := HT.out
      go_enter Tryd.func32, Tryd.ntmps32
      go_wp2
      go_ret2
      exact ⟨rfl, Below.refl _ _⟩
  · obtain rfl : T = none := HT.out
    obtain ⟨n, hn⟩ : ∃ n, (⟨yt, yl, yc, yq⟩ :: y2 :: r : List Ln.W).length = n := ⟨_, rfl⟩
    rw [hn] at hc HV ⊢
    have hn1 : ((n : Int) != 1) = true := by
      rw [List.length_cons, List.length_cons] at hn
      simp
      omega
    clear hn
    go_enter Tryd.func32, Tryd.ntmps32
    go_wp2
    go_ret2
    exact ⟨rfl, Below.refl _ _⟩
end Go.Proofs.YtfeaolcgjkkadaaDoor
