/- The document's own files: whether bytes fit. -/
import Derived.Test.YtlfgadcfjjjbfaaRfLeaf
namespace Go.Proofs.Ytlfgadcfjjjbfaa
set_option maxRecDepth 100000
open Go.ChangeShapes Go.WideShapes Go.ChangeAt Go.RowKit Go.ChangeMaps
open Sf

set_option maxHeartbeats 4000000 in
/-- A file's bytes are the same value in each world of the same memory. -/
theorem rhas_fix (t : List Nat) (w : World) (q : Nat) (lv : Value) (G : Nat → Prop) (s : S) (h : Rf w q lv G s) (ht : ∀ c ∈ t, c < 256) :
    ∃ v, (Bytes w v (Sf.bytes s.l t) ∧ ∀ j, v.ownBlock = some j → G j ∧ j ≠ q) ∧ ∀ w2 : World, w2.heap = w.heap → Calls Try.prog 42 #[.pointer (some ⟨q, 0, none⟩), .string (str t)] w2 fun e w' => e = .returned v ∧ w2 = w' := by
  obtain ⟨A, c, rfl, hc, hm⟩ := h.shape
  obtain ⟨n, hn⟩ : ∃ n, s.l.length = n := ⟨_, rfl⟩
  rw [hn] at hc hm h
  have HN := Lib.hid hn
  have H := Lib.hid h
  have HT := Lib.hid ht
  clear hn h ht
  obtain ⟨z, hz⟩ := atIs_some s.l t
  have HZ := Lib.hid hz
  rcases hz with ⟨rfl, hg⟩ | ⟨k, hk, rfl, hg, -⟩
  · refine ⟨.slice none 0 0, ⟨?_, fun j hj => by cases hj⟩, fun w2 e2 => ?_⟩
    · unfold Sf.bytes
      rw [hg]
      exact bytes_none _
    · have HA := Lib.hid (rat_any t w2 q _ G s (H.out.heap e2) HT.out)
      clear hg e2
      go_enter Try.func42, Try.ntmps42
      go_wp2_with fail
      refine HA.out.mono ?_
      rintro e w' ⟨⟨z', rfl, hz'⟩, rfl⟩
      obtain rfl := atIs_one HZ.out hz'
      clear hz'
      go_wp2
      go_ret
      exact ⟨rfl, rfl⟩
  · obtain ⟨-, -, b, off, rfl, -, ⟨bv, c2, hb, hG⟩, -⟩ := H.out.at hk
    refine ⟨bv, ⟨?_, hG⟩, fun w2 e2 => ?_⟩
    · unfold Sf.bytes
      rw [hg]
      exact hb
    · have HA := Lib.hid (rat_any t w2 q _ G s (H.out.heap e2) HT.out)
      have c2' : w2.cell? ⟨b, off + k * 3 + 1, none⟩ = some bv := (World.cell?_of_block (by rw [e2])).trans c2
      have k0 : w2.cell? ⟨q, 0, none⟩ = some (.slice (some ⟨b, off, none⟩) n c) := (H.out.heap e2).blk.at 0
      have hkn : (k : Int) < (n : Int) := by have := HN.out; omega
      have hkn2 : k < n := by omega
      clear hg e2 hb hG c2
      go_enter Try.func42, Try.ntmps42
      go_wp2_with fail
      refine HA.out.mono ?_
      rintro e w' ⟨⟨z', rfl, hz'⟩, rfl⟩
      obtain rfl := atIs_one HZ.out hz'
      clear hz'
      go_wp2
      go_ret
      exact ⟨rfl, rfl⟩
set_option maxHeartbeats 4000000 in
theorem rfits_any (t : List Nat) (n : Nat) (w : World) (q : Nat) (lv : Value) (G : Nat → Prop) (s : S) (h : Rf w q lv G s) (ht : ∀ c ∈ t, c < 256) (hn : n ≤ 1099511627776) (hu : used s.l ≤ 1099511627776) :
    Calls Try.prog 36 #[.pointer (some ⟨q, 0, none⟩), .string (str t), .int .i64 (n : Int)] w fun e w' => e = .returned (.bool (fits s t n)) ∧ ∃ m, w' = w.drewN m := by
  obtain ⟨v, ⟨hb, -⟩, hv⟩ := rhas_fix t w q lv G s h ht
  obtain ⟨_, _, Av, cv, rfl, _⟩ := hb.parts
  have hle := bytes_le h.good.1 t
  obtain ⟨L, hL⟩ : ∃ L, (Sf.bytes s.l t).length = L := ⟨_, rfl⟩
  obtain ⟨U, hU⟩ : ∃ U, used s.l = U := ⟨_, rfl⟩
  obtain ⟨R, hR⟩ : ∃ R, s.room = R := ⟨_, rfl⟩
  have hr0 : 0 ≤ R := by rw [← hR]; exact h.good.2.2.1
  have hr1 : R ≤ 1073741824 := by rw [← hR]; exact h.good.2.2.2.1
  have HF : Hid (fits s t n = (decide (n ≤ L) || decide ((U : Int) + ((n : Int) - (L : Int)) ≤ R))) := Lib.hid (by unfold fits; rw [hL, hU, hR])
  rw [hL] at hv hle
  rw [hU] at hle hu
  have HHQ : Hid (∀ m, Calls Try.prog 42 #[.pointer (some ⟨q, 0, none⟩), .string (str t)] (w.drewN m) fun e w' => e = .returned (.slice Av L cv) ∧ ∃ j, w' = w.drewN j) := Lib.hid fun m => (hv (w.drewN m) rfl).mono fun e w' ⟨he, hw⟩ => ⟨he, m, hw.symm⟩
  have HUQ : Hid (∀ m, Calls Try.prog 27 #[.pointer (some ⟨q, 0, none⟩)] (w.drewN m) fun e w' => e = .returned (.int .i64 (U : Int)) ∧ ∃ j, w' = w.drewN j) := Lib.hid fun m => (rused_any (w.drewN m) q lv G s (h.heap rfl) (by rw [hU]; exact hu)).mono fun e w' ⟨he, hw⟩ => ⟨by rw [he, hU], m, hw.symm⟩
  have k1 : ∀ j, (w.drewN j).cell? ⟨q, 1, none⟩ = some (.int .i64 R) := fun j => by rw [← hR]; exact h.blk.at 1
  have k1' : w.cell? ⟨q, 1, none⟩ = some (.int .i64 R) := k1 0
  clear hv hb h ht hL hU hR
  by_cases h1 : n ≤ L
  · have h1i : decide ((n : Int) ≤ (L : Int)) = true := by simpa using h1
    have h1d : decide (n ≤ L) = true := decide_eq_true h1
    have HF2 : Hid (fits s t n = true) := Lib.hid (by rw [HF.out, h1d]; rfl)
    clear HF
    go_enter Try.func36, Try.ntmps36
    go_wp2_with fail
    go_quiet (first | (go_at_call 42; exact HHQ.out _) | (go_at_call 27; exact HUQ.out _))
    go_wp2
    go_ret
    exact ⟨by rw [HF2.out]; rfl, _, rfl⟩
  · have h1i : decide ((n : Int) ≤ (L : Int)) = false := by simpa using h1
    have h1d : decide (n ≤ L) = false := decide_eq_false h1
    by_cases h2 : (U : Int) - (L : Int) + (n : Int) ≤ R
    · have h2d : decide ((U : Int) - (L : Int) + (n : Int) ≤ R) = true := decide_eq_true h2
      have HF2 : Hid (fits s t n = true) := Lib.hid (by rw [HF.out, h1d, decide_eq_true (by omega)]; rfl)
      clear HF
      go_enter Try.func36, Try.ntmps36
      go_wp2_with fail
      go_quiet (first | (go_at_call 42; exact HHQ.out _) | (go_at_call 27; exact HUQ.out _))
      go_wp2
      go_ret
      exact ⟨by rw [HF2.out]; rfl, _, rfl⟩
    · have h2d : decide ((U : Int) - (L : Int) + (n : Int) ≤ R) = false := decide_eq_false h2
      have HF2 : Hid (fits s t n = false) := Lib.hid (by rw [HF.out, h1d, decide_eq_false (by omega)]; rfl)
      clear HF
      go_enter Try.func36, Try.ntmps36
      go_wp2_with fail
      go_quiet (first | (go_at_call 42; exact HHQ.out _) | (go_at_call 27; exact HUQ.out _))
      go_wp2
      go_ret
      exact ⟨by rw [HF2.out]; rfl, _, rfl⟩
end Go.Proofs.Ytlfgadcfjjjbfaa
