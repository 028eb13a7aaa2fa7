/- How package acts parts words at the first sign. -/
import Derived.Test.YtfeaolcgjkkadaaDoorActWords
namespace Go.Proofs.YtfeaolcgjkkadaaDoor
set_option maxRecDepth 100000
open Go.ChangeShapes Go.WideShapes Go.ChangeAt Go.RowKit

theorem RdW.slice {w : World} {b off n c : Nat} {R : List Ln.W} (h : RdW w (.slice (some ⟨b, off, none⟩) n c) R) {i fr : Nat} (hf : fr ≤ i) (hi : i ≤ n) {A' : Option Addr} (hA : fr < i → A' = some ⟨b, off + fr * 4, none⟩) : RdW w (.slice A' (i - fr) (c - fr)) ((R.drop fr).take (i - fr)) := by
  obtain ⟨A, c', e, h1, h2, hx⟩ := h
  injection e with e1 e2 e3
  subst e2 e3
  have hl : ((R.drop fr).take (i - fr)).length = i - fr := by rw [List.length_take, List.length_drop]; omega
  refine ⟨A', c - fr, by rw [hl], by rw [hl]; omega, by rw [hl]; omega, fun h0 => ?_⟩
  rw [hl] at h0
  obtain ⟨b', o', e4, hc⟩ := hx (by omega)
  rw [e4] at e1
  injection e1 with e1
  injection e1 with e5 e6
  subst e5 e6
  refine ⟨b, off + fr * 4, hA (by omega), fun k hk => ?_⟩
  rw [hl] at hk
  have hg : ((R.drop fr).take (i - fr))[k]'(by rw [hl]; exact hk) = R[fr + k]'(by omega) := by rw [List.getElem_take, List.getElem_drop]
  rw [hg, show off + fr * 4 + k * 4 = off + (fr + k) * 4 from by omega]
  exact hc (fr + k) (by omega)
def CutIs (w0 w : World) (v : Value) (R : List Ln.W) (e : Ending) (w' : World) : Option Nat → Prop
  | none => e = .returned (.tuple #[v, .slice none 0 0, .bool false]) ∧ Below w.heap.size w w'
  | some k => (∃ u1 u2, e = .returned (.tuple #[u1, u2, .bool true]) ∧ RdW w0 u1 (R.take k) ∧ RdW w0 u2 (R.drop (k + 1))) ∧ Below w.heap.size w w'
set_option maxHeartbeats 4000000 in
theorem cut_any (v : Value) (R : List Ln.W) (w0 w : World) (h0 : RdW w0 v R) (hv : RdW w v R) (ht : ∀ x ∈ R, ∀ c ∈ x.text, c < 256) (hR : R.length ≤ 1000000) :
    Calls Tryd.prog 17 #[v] w fun e w' => ∃ K, SepAt R K ∧ CutIs w0 w v R e w' K := by
  have HV := Lib.hid hv
  have H0 := Lib.hid h0
  have HIX := Lib.hid (index_any v R w hv ht hR)
  obtain ⟨A, c, rfl, hc, _⟩ := hv
  obtain ⟨n, hn⟩ : ∃ n, R.length = n := ⟨_, rfl⟩
  rw [hn] at hc hR HV H0 HIX ⊢
  have HN := Lib.hid hn
  clear hn ht h0
  go_enter Tryd.func17, Tryd.ntmps17
  go_wp2_with fail
  refine HIX.out.mono ?_
  rintro e w2 ⟨K, rfl, hsep, hb2⟩
  have HB2 := Lib.hid hb2
  have HS := Lib.hid hsep
  clear hb2 hsep
  rcases K with _ | k
  · rw [show at64 none = -1 from rfl]
    go_wp2
    go_ret3
    exact ⟨none, HS.out, rfl, HB2.out⟩
  · rw [show at64 (some k) = (k : Int) from rfl]
    obtain ⟨hkL, -, -⟩ := HS.out
    have hkn : k < n := by rw [HN.out] at hkL; exact hkL
    obtain ⟨b, off, rfl, -⟩ := HV.out.at2 k hkL
    have hk0 : ¬ (k : Int) < 0 := by omega
    have hk1 : (0 : Int) ≤ (k : Int) := by omega
    have hk2 : (k : Int) ≤ (c : Int) := by omega
    have hk3 : (k : Int) + 1 ≤ (n : Int) := by omega
    have hk4 : (0 : Int) ≤ (k : Int) + 1 := by omega
    have hnc : (n : Int) ≤ (c : Int) := by omega
    have HU1 : Hid (RdW w0 (.slice (some ⟨b, off, none⟩) k c) (R.take k)) := Lib.hid (by
      have := H0.out.slice (fr := 0) (i := k) (Nat.zero_le _) (by omega) (A' := some ⟨b, off, none⟩) (fun _ => by rw [show off + 0 * 4 = off from by omega])
      simpa using this)
    have HU2 : Hid (∀ A', (k + 1 < n → A' = some ⟨b, off + (k + 1) * 4, none⟩) → RdW w0 (.slice A' (n - (k + 1)) (c - (k + 1))) (R.drop (k + 1))) := Lib.hid (fun A' hA => by
      have := H0.out.slice (fr := k + 1) (i := n) (by omega) (Nat.le_refl _) hA
      rwa [List.take_of_length_le (by rw [List.length_drop, HN.out]; exact Nat.le_refl _)] at this)
    clear hkL
    by_cases hck : c = k + 1
    · have hnk : n = k + 1 := by omega
      subst hnk
      subst hck
      have HU3 : Hid (∀ A', RdW w0 (.slice A' 0 0) (R.drop (k + 1))) := Lib.hid (fun A' => by
        rw [List.drop_of_length_le (by rw [HN.out]; exact Nat.le_refl _)]
        exact ⟨A', 0, rfl, Nat.le_refl _, Nat.zero_le _, fun h => absurd h (by simp)⟩)
      clear HU2
      go_wp2_with fail
      go_region
      go_wp2
      all_goals (go_ret3; exact ⟨some k, HS.out, ⟨_, _, rfl, HU1.out, HU3.out _⟩, HB2.out.drew⟩)
    · go_wp2_with fail
      go_region
      go_wp2
      all_goals (go_ret3; exact ⟨some k, HS.out, ⟨_, _, rfl, HU1.out, HU2.out _ (fun _ => rfl)⟩, HB2.out.drew⟩)
end Go.Proofs.YtfeaolcgjkkadaaDoor
