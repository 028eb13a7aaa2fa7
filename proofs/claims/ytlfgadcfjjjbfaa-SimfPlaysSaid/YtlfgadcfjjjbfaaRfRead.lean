/- The document's own files: what only reads them. -/
import Derived.Test.YtlfgadcfjjjbfaaRfFs
import Derived.BigQuiet
import Derived.Deep.QuietTactic
namespace Go.Proofs.Ytlfgadcfjjjbfaa
set_option maxRecDepth 100000
open Go.ChangeShapes Go.WideShapes Go.ChangeAt Go.RowKit Go.ChangeMaps
open Sf

/-- What stands at a place of the row. -/
theorem Rf.at {w : World} {q : Nat} {A : Option Addr} {n c : Nat} {G : Nat → Prop} {s : S} (h : Rf w q (.slice A n c) G s) {k : Nat} (hk : k < s.l.length) :
    s.l.length = n ∧ n ≤ c ∧ ∃ b off, A = some ⟨b, off, none⟩ ∧ w.cell? ⟨b, off + k * 3, none⟩ = some (.string (str (s.l[k]'hk).name)) ∧ (∃ bv, w.cell? ⟨b, off + k * 3 + 1, none⟩ = some bv ∧ Bytes w bv (s.l[k]'hk).b ∧ ∀ j, bv.ownBlock = some j → G j ∧ j ≠ q) ∧ w.cell? ⟨b, off + k * 3 + 2, none⟩ = some (.int .i64 (((s.l[k]'hk).stamp : Nat) : Int)) := by
  obtain ⟨A', c', e, h1, h2, h3⟩ := h.row
  injection e with e1 e2 e3
  subst e1 e3
  obtain ⟨b, off, rfl, _, _, hc⟩ := h3 (by omega)
  obtain ⟨c1, c2, c3⟩ := hc k hk
  exact ⟨e2.symm, by omega, b, off, rfl, c1, c2, c3⟩
theorem Rf.shape {w : World} {q : Nat} {lv : Value} {G : Nat → Prop} {s : S} (h : Rf w q lv G s) : ∃ A c, lv = .slice A s.l.length c ∧ s.l.length ≤ c ∧ s.l.length ≤ 1048576 := by
  obtain ⟨A, c, e, h1, h2, _⟩ := h.row
  exact ⟨A, c, e, h1, h2⟩

set_option maxHeartbeats 4000000 in
theorem rstamp_any (t : List Nat) (w : World) (q : Nat) (lv : Value) (G : Nat → Prop) (s : S) (h : Rf w q lv G s) (ht : ∀ c ∈ t, c < 256) :
    Calls Try.prog 8 #[.pointer (some ⟨q, 0, none⟩), .string (str t)] w fun e w' => e = .returned (.int .i64 ((stamp s.l t : Nat) : Int)) ∧ w = w' := by
  have k0 : w.cell? ⟨q, 0, none⟩ = some lv := h.blk.at 0
  obtain ⟨A, c, rfl, hc, hm⟩ := h.shape
  obtain ⟨n, hn⟩ : ∃ n, s.l.length = n := ⟨_, rfl⟩
  have HA := Lib.hid (rat_any t w q _ G s h ht)
  have H := Lib.hid h
  rw [hn] at hc hm k0 H
  have HN := Lib.hid hn
  clear hn h ht
  go_enter Try.func8, Try.ntmps8
  go_wp2_with fail
  refine HA.out.mono ?_
  rintro e w' ⟨⟨z, rfl, ⟨rfl, hg⟩ | ⟨k, hk, rfl, hg, -⟩⟩, rfl⟩
  · have HV : Hid (stamp s.l t = 0) := Lib.hid (by unfold stamp; rw [hg]; rfl)
    clear hg
    go_wp2
    go_ret
    exact ⟨by rw [HV.out]; rfl, rfl⟩
  · have HV : Hid (stamp s.l t = (s.l[k]'hk).stamp) := Lib.hid (by unfold stamp; rw [hg]; rfl)
    obtain ⟨-, -, b, off, rfl, -, -, c3⟩ := H.out.at hk
    have hkn : (k : Int) < (n : Int) := by have := HN.out; omega
    have hkn2 : k < n := by omega
    obtain ⟨x, hx⟩ : ∃ x, (s.l[k]'hk).stamp = x := ⟨_, rfl⟩
    rw [hx] at c3 HV
    clear hg hx
    go_wp2
    go_ret
    exact ⟨by rw [HV.out]; rfl, rfl⟩
set_option maxHeartbeats 4000000 in
theorem rhas_any (t : List Nat) (w : World) (q : Nat) (lv : Value) (G : Nat → Prop) (s : S) (h : Rf w q lv G s) (ht : ∀ c ∈ t, c < 256) :
    Calls Try.prog 42 #[.pointer (some ⟨q, 0, none⟩), .string (str t)] w fun e w' => (∃ v, e = .returned v ∧ Bytes w v (Sf.bytes s.l t) ∧ ∀ j, v.ownBlock = some j → G j ∧ j ≠ q) ∧ w = w' := by
  have k0 : w.cell? ⟨q, 0, none⟩ = some lv := h.blk.at 0
  obtain ⟨A, c, rfl, hc, hm⟩ := h.shape
  obtain ⟨n, hn⟩ : ∃ n, s.l.length = n := ⟨_, rfl⟩
  have HA := Lib.hid (rat_any t w q _ G s h ht)
  have H := Lib.hid h
  rw [hn] at hc hm k0 H
  have HN := Lib.hid hn
  clear hn h ht
  go_enter Try.func42, Try.ntmps42
  go_wp2_with fail
  refine HA.out.mono ?_
  rintro e w' ⟨⟨z, rfl, ⟨rfl, hg⟩ | ⟨k, hk, rfl, hg, -⟩⟩, rfl⟩
  · have HV : Hid (Sf.bytes s.l t = []) := Lib.hid (by unfold Sf.bytes; rw [hg]; rfl)
    clear hg
    go_wp2
    go_ret
    exact ⟨⟨_, rfl, by rw [HV.out]; exact bytes_none _, fun j hj => by cases hj⟩, rfl⟩
  · have HV : Hid (Sf.bytes s.l t = (s.l[k]'hk).b) := Lib.hid (by unfold Sf.bytes; rw [hg]; rfl)
    obtain ⟨-, -, b, off, rfl, -, ⟨bv, c2, hb, hG⟩, -⟩ := H.out.at hk
    have hkn : (k : Int) < (n : Int) := by have := HN.out; omega
    have hkn2 : k < n := by omega
    have HBV := Lib.hid (And.intro hb hG)
    clear hg hb hG
    go_wp2
    go_ret
    exact ⟨⟨bv, rfl, by rw [HV.out]; exact HBV.out.1, HBV.out.2⟩, rfl⟩
theorem used_take {l : List Fi} {k : Nat} (h : k < l.length) : used (l.take (k + 1)) = used (l.take k) + (l[k]'h).b.length := by
  rw [List.take_succ_eq_append_getElem h, used_app]
  simp [used]
theorem used_take_le (l : List Fi) (k : Nat) : used (l.take k) ≤ used l := by
  conv => rhs; rw [← List.take_append_drop k l]
  rw [used_app]
  omega
set_option maxHeartbeats 4000000 in
theorem rused_any (w : World) (q : Nat) (lv : Value) (G : Nat → Prop) (s : S) (h : Rf w q lv G s) (hu : used s.l ≤ 1099511627776) :
    Calls Try.prog 27 #[.pointer (some ⟨q, 0, none⟩)] w fun e w' => e = .returned (.int .i64 ((used s.l : Nat) : Int)) ∧ w = w' := by
  have k0 : w.cell? ⟨q, 0, none⟩ = some lv := h.blk.at 0
  obtain ⟨A, c, rfl, hc, hm⟩ := h.shape
  obtain ⟨n, hn⟩ : ∃ n, s.l.length = n := ⟨_, rfl⟩
  have H := Lib.hid h
  have HU := Lib.hid hu
  rw [hn] at hc hm k0 H
  have HN := Lib.hid hn
  clear hn h hu
  go_enter Try.func27, Try.ntmps27
  go_wp2_with fail
  go_loopw [3, 4] (fun uv iv wr => ∃ k m : Nat, k ≤ n ∧ iv = .int .i64 (k : Int) ∧ uv = .int .i64 (m : Int) ∧ Hid (m = used (s.l.take k)) ∧ m ≤ 1099511627776 ∧ wr = w) (fun _ iv _ => n - (intOf iv).toNat)
  case atStart => exact ⟨0, 0, by omega, rfl, rfl, Lib.hid rfl, by omega, rfl⟩
  case round =>
    obtain ⟨k, m, hk, rfl, rfl, HM, hm2, rfl⟩ := hrel
    by_cases hlt : k < n
    · have hlt' : (k : Int) < (n : Int) := by omega
      have hkl : k < s.l.length := by rw [HN.out]; exact hlt
      obtain ⟨-, -, b, off, rfl, -, ⟨bv, c2, hb, -⟩, -⟩ := H.out.at hkl
      obtain ⟨_, _, Ab, cb, hbv, _⟩ := hb.parts
      obtain ⟨x, hx⟩ : ∃ x, (s.l[k]'hkl).b.length = x := ⟨_, rfl⟩
      rw [hx] at hbv
      subst hbv
      have HM2 : Hid (m + x = used (s.l.take (k + 1))) := Lib.hid (by rw [used_take hkl, HM.out, hx])
      have hmx : m + x ≤ 1099511627776 := by rw [HM2.out]; exact Nat.le_trans (used_take_le _ _) HU.out
      clear hb hx
      go_wp2
      go_roundw
      case rel => exact ⟨k + 1, m + x, by omega, by go_num, by first | rfl | go_num, HM2, hmx, by first | trivial | rfl⟩
      case measure => simp [intOf]; omega
    · obtain rfl : n = k := by omega
      have HF : Hid (used s.l = m) := Lib.hid (by rw [HM.out, List.take_of_length_le (by rw [HN.out]; exact Nat.le_refl _)])
      go_wp2
      go_ret
      exact ⟨by rw [HF.out]; rfl, rfl⟩
end Go.Proofs.Ytlfgadcfjjjbfaa
