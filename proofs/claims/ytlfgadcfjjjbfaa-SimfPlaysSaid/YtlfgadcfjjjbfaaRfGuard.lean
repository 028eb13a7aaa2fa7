/- The document's own files: whether guards hold; whether bytes fit. -/
import Derived.Test.YtlfgadcfjjjbfaaRfRead
import Derived.Deep.RegionWith
namespace Go.Proofs.Ytlfgadcfjjjbfaa
set_option maxRecDepth 100000
open Go.ChangeShapes Go.WideShapes Go.ChangeAt Go.RowKit Go.ChangeMaps
open Sf

set_option maxHeartbeats 4000000 in
theorem rguarded_any (g : List (List Nat × Int)) (vg : Value) (w : World) (q : Nat) (lv : Value) (G : Nat → Prop) (s : S) (h : Rf w q lv G s) (hg : RdG w vg g) (hg1 : ∀ x ∈ g, Nice x.1) :
    Calls Try.prog 41 #[.pointer (some ⟨q, 0, none⟩), vg] w fun e w' => e = .returned (.bool (guards s.l g)) ∧ Below w.heap.size w w' := by
  obtain ⟨Ag, cg, rfl, hgc, hgm, hgx⟩ := hg
  have k0 : ∀ j, (w.drewN j).cell? ⟨q, 0, none⟩ = some lv := fun j => h.blk.at 0
  obtain ⟨A, c, rfl, hc, hm⟩ := h.shape
  obtain ⟨n, hn⟩ : ∃ n, s.l.length = n := ⟨_, rfl⟩
  obtain ⟨m, hm0⟩ : ∃ m, g.length = m := ⟨_, rfl⟩
  have HGX := Lib.hid hgx
  have H := Lib.hid h
  have HG1 := Lib.hid hg1
  rw [hn] at hc hm k0 H
  rw [hm0] at hgc hgm ⊢
  have HN := Lib.hid hn
  have HM := Lib.hid hm0
  have K0 := Lib.hid k0
  clear hn h hgx hg1 hm0 k0
  go_enter Try.func41, Try.ntmps41
  go_wp2_with fail
  go_loopw [5] (fun iv wr => ∃ j : Nat, j ≤ m ∧ iv = .int .i64 (j : Int) ∧ Hid ((g.take j).all (guard s.l) = true) ∧ ∃ nq, wr = w.drewN nq) (fun iv _ => m - (intOf iv).toNat)
  case atStart => exact ⟨0, by omega, rfl, Lib.hid (by simp), 0, rfl⟩
  case round =>
    obtain ⟨j, hj, rfl, HALL, nq, rfl⟩ := hrel
    by_cases hlt : j < m
    · have hlt' : (j : Int) < (m : Int) := by omega
      have hjg : j < g.length := by rw [HM.out]; exact hlt
      obtain ⟨b, off, rfl, hcs⟩ := HGX.out (by omega)
      obtain ⟨hc0, hc1⟩ := hcs j hjg
      obtain ⟨⟨t, st⟩, ht⟩ : ∃ x, g[j]'hjg = x := ⟨_, rfl⟩
      rw [ht] at hc0 hc1
      dsimp only at hc0 hc1
      have hc0d : ∀ i, (w.drewN i).cell? ⟨b, off + j * 2, none⟩ = some (.string (str t)) := fun i => hc0
      have hc1d : ∀ i, (w.drewN i).cell? ⟨b, off + j * 2 + 1, none⟩ = some (.int .i64 st) := fun i => hc1
      have HNI : Hid (Nice t) := Lib.hid (by have := HG1.out _ (List.getElem_mem hjg); rw [ht] at this; exact this)
      have HGT : Hid (∀ q, guard s.l (t, st) = q → guard s.l (g[j]'hjg) = q) := Lib.hid fun q h => by rw [ht]; exact h
      have HA := Lib.hid (rat_any t (w.drewN nq) q _ G s (H.out.heap rfl) HNI.out.1)
      have k0 := K0.out
      clear hcs ht
      go_wp2_with fail
      refine HA.out.mono ?_
      rintro e w' ⟨⟨z, rfl, ⟨rfl, hgn⟩ | ⟨k, hk, rfl, hgs, -⟩⟩, rfl⟩
      · have HV : Hid (guards s.l g = false) := Lib.hid (all_not hjg (HGT.out _ (by unfold Sf.guard; rw [hgn]; rfl)))
        clear hgn hc0d hc1d
        go_wp2_with fail
        go_quiet (fail)
        go_wp2
        go_ret
        exact ⟨by rw [HV.out]; rfl, (sbelow_drewN w _).trans (sbelow_drewN (w.drewN _) _)⟩
      · obtain ⟨-, -, bb, oo, rfl, -, -, c3⟩ := H.out.at hk
        have c3d : ∀ i, (w.drewN i).cell? ⟨bb, oo + k * 3 + 2, none⟩ = some (.int .i64 (((s.l[k]'hk).stamp : Nat) : Int)) := fun i => c3
        have hkn : (k : Int) < (n : Int) := by have := HN.out; omega
        have hk0 : ¬ (k : Int) < 0 := by omega
        obtain ⟨x, hx⟩ : ∃ x, (s.l[k]'hk).stamp = x := ⟨_, rfl⟩
        rw [hx] at c3 c3d
        have hgd : guard s.l (t, st) = decide ((x : Int) = st) := by
          unfold Sf.guard Sf.stamp
          rw [hgs]
          simp [hx]
        by_cases hd : (x : Int) = st
        · have HA2 : Hid ((g.take (j + 1)).all (guard s.l) = true) := Lib.hid (all_take hjg HALL.out (HGT.out _ (by rw [hgd, decide_eq_true hd])))
          have hb : ((x : Int) == st) = true := by simpa using hd
          have hb2 : ((x : Int) != st) = false := by simpa using hd
          clear hgs hx hgd hd
          go_wp2_with fail
          go_quiet (fail)
          go_wp2
          refine ⟨⟨j + 1, by omega, by go_num, HA2, _, rfl⟩, ?_⟩
          simp [intOf]
          omega
        · have HV : Hid (guards s.l g = false) := Lib.hid (all_not hjg (HGT.out _ (by rw [hgd, decide_eq_false hd])))
          have hb : ((x : Int) == st) = false := by simpa using hd
          have hb2 : ((x : Int) != st) = true := by simpa using hd
          clear hgs hx hgd hd
          go_wp2_with fail
          go_quiet (fail)
          go_wp2
          go_ret
          exact ⟨by rw [HV.out]; rfl, (sbelow_drewN w _).trans (sbelow_drewN (w.drewN _) _)⟩
    · obtain rfl : m = j := by omega
      have HV : Hid (guards s.l g = true) := Lib.hid (by have := HALL.out; rwa [List.take_of_length_le (by rw [HM.out]; exact Nat.le_refl _)] at this)
      go_wp2
      go_ret
      exact ⟨by rw [HV.out]; rfl, sbelow_drewN w _⟩
end Go.Proofs.Ytlfgadcfjjjbfaa
