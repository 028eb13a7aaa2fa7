/- Files in memory: which names and guards are refused. -/
import Derived.Test.YtoloidfkpfdboaaZ09
import Derived.IntWalk
import Derived.BigQuiet
import Derived.Deep.QuietTactic
namespace Go.Proofs.Ytoloidfkpfdboaa
set_option maxRecDepth 100000
open Go.ChangeShapes Go.WideShapes Go.ChangeAt Go.RowKit Go.ChangeMaps
open Sf

/-- A slice of guards that reads as a list. -/
def RdG (w : World) (v : Value) (R : List (List Nat × Int)) : Prop :=
  ∃ A c, v = .slice A R.length c ∧ R.length ≤ c ∧ R.length ≤ 1048576 ∧ (0 < R.length → ∃ b off, A = some ⟨b, off, none⟩ ∧ ∀ k (h : k < R.length), w.cell? ⟨b, off + k * 2, none⟩ = some (.string (str (R[k]'h).1)) ∧ w.cell? ⟨b, off + k * 2 + 1, none⟩ = some (.int .i64 (R[k]'h).2))
theorem scell_later {w w' : World} {a : Addr} {v : Value} (hb : Below w.heap.size w w') (h : w.cell? a = some v) : w'.cell? a = some v :=
  (World.cell?_of_block (hb.block a.block (World.block_lt_of_cell? w _ h))).trans h
theorem RdG.under {w w' : World} {v : Value} {R : List (List Nat × Int)} (h : RdG w v R) (hb : Below w.heap.size w w') : RdG w' v R := by
  obtain ⟨A, c, rfl, h1, h2, h3⟩ := h
  refine ⟨A, c, rfl, h1, h2, fun h0 => ?_⟩
  obtain ⟨b, off, rfl, hc⟩ := h3 h0
  exact ⟨b, off, rfl, fun k hk => ⟨scell_later hb (hc k hk).1, scell_later hb (hc k hk).2⟩⟩
theorem RdG.alloc {w : World} {v : Value} {R : List (List Nat × Int)} (h : RdG w v R) (o : Obj) : RdG (w.alloc o) v R := h.under ((Below.refl _ _).alloc (Nat.le_refl _) _)
theorem rdG_none (w : World) (c : Nat) (A : Option Addr) : RdG w (.slice A 0 c) [] := ⟨A, c, rfl, Nat.zero_le _, Nat.zero_le _, fun h => absurd h (by simp)⟩
/-- What a name must be for the map to be asked. -/
def Nice (t : List Nat) : Prop := (∀ c ∈ t, c < 256) ∧ t.length ≤ 1048576
theorem all_take {α : Type} {f : α → Bool} {l : List α} {k : Nat} (hk : k < l.length) (h : (l.take k).all f = true) (hx : f (l[k]'hk) = true) : (l.take (k + 1)).all f = true := by
  rw [List.take_succ_eq_append_getElem hk, List.all_append, h]
  simp [hx]
theorem all_not {α : Type} {f : α → Bool} {l : List α} {k : Nat} (hk : k < l.length) (hx : f (l[k]'hk) = false) : l.all f = false := by
  rw [List.all_eq_false]
  exact ⟨_, List.getElem_mem hk, by simp [hx]⟩

set_option maxHeartbeats 4000000 in
theorem refuse_any {X : Option (List Nat)} (g : List (List Nat × Int)) (names : List (List Nat)) (vg vn : Value) (w : World) (p mb : Nat) (V : List Nat → Value) (F : Nat → Prop) (s : S) (h : At X w p mb V F s)
    (hg : RdG w vg g) (hn : OwnT w 0 vn names) (hg1 : ∀ x ∈ g, Nice x.1) (hn1 : ∀ t ∈ names, Nice t) (hn2 : names.length ≤ 1048576) :
    Calls Try.prog 21 #[.pointer (some ⟨p, 0, none⟩), vg, vn] w fun e w' => e = .returned (.int .i64 ((refuse s.l g names : Nat) : Int)) ∧ Below w.heap.size w w' := by
  obtain ⟨Ag, cg, rfl, hgc, hgm, hgx⟩ := hg
  have hnv : ∃ A c, vn = .slice A names.length c ∧ names.length ≤ c ∧ (0 < names.length → ∃ b, A = some ⟨b, 0, none⟩) := by
    rcases hn.2 with ⟨rfl, h0⟩ | ⟨b, cap, cur, rfl, _, _, hc, _⟩
    · exact ⟨none, 0, by rw [h0], by omega, fun h => by omega⟩
    · exact ⟨_, cap, rfl, hc, fun _ => ⟨b, rfl⟩⟩
  obtain ⟨An, cn, rfl, hnc, hnx⟩ := hnv
  obtain ⟨n, hn0⟩ : ∃ n, names.length = n := ⟨_, rfl⟩
  obtain ⟨m, hm0⟩ : ∃ m, g.length = m := ⟨_, rfl⟩
  have HGX := Lib.hid hgx
  have HNX := Lib.hid hnx
  have HN := Lib.hid hn
  have HN0 := Lib.hid hn0
  have HM0 := Lib.hid hm0
  have HG1 := Lib.hid hg1
  have HN1 := Lib.hid hn1
  have H := Lib.hid h
  rw [hn0] at hn2 hnc ⊢
  rw [hm0] at hgm hgc ⊢
  clear hgx hnx hn hn0 hm0 hg1 hn1 h
  go_enter Try.func21, Try.ntmps21
  go_wp2_with fail
  go_loopw [8, 13] (fun _ iv wr => ∃ k : Nat, k ≤ n ∧ iv = .int .i64 (k : Int) ∧ Hid ((names.take k).all Nm.file = true) ∧ Hid (Below w.heap.size w wr)) (fun _ iv _ => n - (intOf iv).toNat)
  case atStart => exact ⟨0, by omega, rfl, Lib.hid (by simp), Lib.hid (Below.refl _ _)⟩
  case round =>
    obtain ⟨k, hk, rfl, HALL, HB⟩ := hrel
    by_cases hlt : k < n
    · have hlt' : (k : Int) < (n : Int) := by omega
      have hkn : k < names.length := by rw [HN0.out]; exact hlt
      obtain ⟨b, rfl⟩ := HNX.out (by omega)
      have hc0 := scell_later HB.out (OwnT.cell HN.out hkn)
      obtain ⟨t, ht⟩ : ∃ t, names.getD k [] = t := ⟨_, rfl⟩
      rw [ht] at hc0
      have HT : Hid (names[k]'hkn = t) := Lib.hid (by rw [← ht, List.getD_eq_getElem?_getD, List.getElem?_eq_getElem hkn]; rfl)
      have HNI : Hid (Nice t) := Lib.hid (by rw [← HT.out]; exact HN1.out _ (List.getElem_mem hkn))
      clear ht
      go_wp2_with fail
      refine (sfile_any t _ HNI.out.1 (by have := HNI.out.2; omega)).mono ?_
      rintro e w2 ⟨rfl, hb2⟩
      have HB2 := Lib.hid (HB.out.trans (hb2.mono HB.out.size))
      rcases hf : Nm.file t with _ | _
      · have HV : Hid (refuse s.l g names = 1) := Lib.hid (by unfold Sf.refuse; rw [all_not hkn (by rw [HT.out]; exact hf)]; rfl)
        clear hf hb2
        go_wp2
        go_ret
        exact ⟨by rw [HV.out]; rfl, HB2.out⟩
      · have HA2 : Hid ((names.take (k + 1)).all Nm.file = true) := Lib.hid (all_take hkn HALL.out (by rw [HT.out]; exact hf))
        clear hf hb2 HT hkn
        go_wp2
        go_roundw
        case rel => exact ⟨k + 1, by omega, by go_num, HA2, HB2⟩
        case measure => simp [intOf]; omega
    · obtain rfl : k = n := by omega
      have HA : Hid (names.all Nm.file = true) := Lib.hid (by have := HALL.out; rwa [List.take_of_length_le (by rw [HN0.out]; exact Nat.le_refl _)] at this)
      go_wp2_with fail
      go_loopw [10, 23] (fun _ iv wr => ∃ k : Nat, k ≤ m ∧ iv = .int .i64 (k : Int) ∧ Hid ((g.take k).all (guard s.l) = true) ∧ Hid (Below w.heap.size w wr)) (fun _ iv _ => m - (intOf iv).toNat)
      case atStart => exact ⟨0, by omega, rfl, Lib.hid (by simp), HB⟩
      case round =>
        obtain ⟨j, hj, rfl, HALG, HB2⟩ := hrel
        by_cases hjl : j < m
        · have hjl' : (j : Int) < (m : Int) := by omega
          have hjg : j < g.length := by rw [HM0.out]; exact hjl
          obtain ⟨b, off, rfl, hcs⟩ := HGX.out (by omega)
          obtain ⟨hc0, hc1⟩ := hcs j hjg
          have hc0 := scell_later HB2.out hc0
          have hc1 := scell_later HB2.out hc1
          obtain ⟨⟨t, st⟩, ht⟩ : ∃ x, g[j]'hjg = x := ⟨_, rfl⟩
          rw [ht] at hc0 hc1
          dsimp only at hc0 hc1
          have HNI : Hid (Nice t) := Lib.hid (by have := HG1.out _ (List.getElem_mem hjg); rw [ht] at this; exact this)
          have HGT : Hid (∀ q, guard s.l (t, st) = q → guard s.l (g[j]'hjg) = q) := Lib.hid fun q h => by rw [ht]; exact h
          obtain ⟨q, hq⟩ : ∃ q, (Sf.get s.l t).isSome = q := ⟨_, rfl⟩
          obtain ⟨r, hr⟩ : ∃ r, decide (((stamp s.l t : Nat) : Int) = st) = r := ⟨_, rfl⟩
          have HGQ : Hid (guard s.l (t, st) = (q && r)) := Lib.hid (by unfold Sf.guard; rw [← hq, ← hr])
          have HTH := Lib.hid (fun (W : World) (hW : At X W p mb V F s) => there_any t W p mb V F s hW HNI.out.1 HNI.out.2)
          have HST := Lib.hid (fun (W : World) (hW : At X W p mb V F s) => fstamp_any t W p mb V F s hW HNI.out.1 HNI.out.2)
          have HATW := Lib.hid (((H.out.under HB2.out).alloc (.cells #[.string (str t), .int .i64 st] 69)).drew)
          obtain ⟨sn, hsn⟩ : ∃ sn, stamp s.l t = sn := ⟨_, rfl⟩
          rw [hq] at HTH
          rw [hsn] at HST hr
          have hr2 : ((sn : Int) == st) = r := by rw [← hr]; simp [Bool.beq_eq_decide_eq]
          clear ht hcs hq hsn hr
          go_wp2_with fail
          have HW1 : Hid (Below w.heap.size w (wr.alloc (.cells #[.string (str t), .int .i64 st] 69)).drew) := Lib.hid (HB2.out.trans (((Below.refl _ _).alloc HB2.out.size _).trans ⟨rfl, rfl, rfl, Nat.le_refl _, fun _ _ => rfl⟩))
          have b0 : (wr.alloc (.cells #[.string (str t), .int .i64 st] 69)).drew.cell? ⟨wr.heap.size, 0, none⟩ = some (.string (str t)) := cell_of_row _ _ 0 _ _ _ (heap_alloc_new wr _)
          have b1 : (wr.alloc (.cells #[.string (str t), .int .i64 st] 69)).drew.cell? ⟨wr.heap.size, 1, none⟩ = some (.int .i64 st) := cell_of_row _ _ 1 _ _ _ (heap_alloc_new wr _)
          rcases q with _ | _
          · have HV : Hid (refuse s.l g names = 5) := Lib.hid (by unfold Sf.refuse Sf.guards; rw [if_pos HA.out, if_neg (by rw [all_not hjg (HGT.out _ HGQ.out)]; simp)])
            first
              | (go_region_with (go_at_call 31; refine (HTH.out _ HATW.out).mono ?_; rintro e w2 ⟨rfl, hb2⟩; have HB3 := Lib.hid (HW1.out.trans (hb2.mono HW1.out.size)); clear hb2))
              | fail
            all_goals
              go_wp2
              go_ret
              exact ⟨by rw [HV.out]; rfl, HB3.out⟩
          · rcases r with _ | _
            · have HV : Hid (refuse s.l g names = 5) := Lib.hid (by unfold Sf.refuse Sf.guards; rw [if_pos HA.out, if_neg (by rw [all_not hjg (HGT.out _ HGQ.out)]; simp)])
              go_region_with (first
                | (go_at_call 31; refine (HTH.out _ HATW.out).mono ?_; rintro e w2 ⟨rfl, hb2⟩; have HB3 := Lib.hid (HW1.out.trans (hb2.mono HW1.out.size)); have HAT2 := Lib.hid (HATW.out.under hb2); have d0 := scell_later hb2 b0; have d1 := scell_later hb2 b1; clear hb2)
                | (go_at_call 19; refine (HST.out _ HAT2.out).mono ?_; rintro e w3 ⟨rfl, rfl⟩))
              all_goals
                go_wp2
                go_ret
                exact ⟨by rw [HV.out]; rfl, HB3.out⟩
            · have HG3 : Hid ((g.take (j + 1)).all (guard s.l) = true) := Lib.hid (all_take hjg HALG.out (HGT.out _ HGQ.out))
              go_region_with (first
                | (go_at_call 31; refine (HTH.out _ HATW.out).mono ?_; rintro e w2 ⟨rfl, hb2⟩; have HB3 := Lib.hid (HW1.out.trans (hb2.mono HW1.out.size)); have HAT2 := Lib.hid (HATW.out.under hb2); have d0 := scell_later hb2 b0; have d1 := scell_later hb2 b1; clear hb2)
                | (go_at_call 19; refine (HST.out _ HAT2.out).mono ?_; rintro e w3 ⟨rfl, rfl⟩))
              all_goals
                go_wp2
                go_roundw
                case rel => exact ⟨j + 1, by omega, by go_num, HG3, HB3⟩
                case measure => simp [intOf]; omega
        · obtain rfl : j = m := by omega
          have HV : Hid (refuse s.l g names = 0) := Lib.hid (by
            have := HALG.out
            rw [List.take_of_length_le (by rw [HM0.out]; exact Nat.le_refl _)] at this
            unfold Sf.refuse Sf.guards
            rw [if_pos HA.out, if_pos this])
          go_wp2
          go_ret
          exact ⟨by rw [HV.out]; rfl, HB2.out⟩
end Go.Proofs.Ytoloidfkpfdboaa
