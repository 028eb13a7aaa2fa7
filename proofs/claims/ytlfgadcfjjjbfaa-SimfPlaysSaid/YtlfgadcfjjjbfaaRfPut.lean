/- The document's own files: put, make, drop. -/
import Derived.Test.YtlfgadcfjjjbfaaRfSet
import Derived.Test.YtlfgadcfjjjbfaaRfFits
import Derived.Test.YtlfgadcfjjjbfaaSimStampMath
namespace Go.Proofs.Ytlfgadcfjjjbfaa
set_option maxRecDepth 100000
open Go.ChangeShapes Go.WideShapes Go.ChangeAt Go.RowKit Go.ChangeMaps
open Sf

theorem RDone.refl {w w1 : World} {q : Nat} {lv : Value} {G : Nat → Prop} {s : S} (h : Rf w q lv G s) (hb : Below w.heap.size w w1) : RDone G q s w w1 :=
  ⟨lv, G, h.under hb, Below.toGrown hb _, fun _ hk => .inl hk⟩
theorem RDone.after {w w1 w2 : World} {q : Nat} {G : Nat → Prop} {s : S} (hb : Below w.heap.size w w1) (h : RDone G q s w1 w2) : RDone G q s w w2 := by
  obtain ⟨lv, G', h1, h2, h3⟩ := h
  exact ⟨lv, G', h1, grownq (Below.toGrown hb _) h2, fun k hk => (h3 k hk).imp id fun e => Nat.le_trans hb.size e⟩
set_option maxHeartbeats 4000000 in
theorem rput_any (t bb : List Nat) (bv : Value) (w : World) (q : Nat) (lv : Value) (G : Nat → Prop) (s : S) (h : Rf w q lv G s) (ht : Nice t) (hb : Bytes w bv bb) (hbq : bb ≠ [] → ∀ j, bv.ownBlock = some j → j ≠ q)
    (hnx : s.next ≤ 1073741824) (hcn : s.l.length ≤ 1048575) (hbl : bb.length ≤ 1099511627776) (hu : used s.l ≤ 1099511627776) :
    Calls Try.prog 12 #[.pointer (some ⟨q, 0, none⟩), .string (str t), bv] w fun e w' => e = .returned (.tuple #[.int .i64 (((putS s t bb).2.1 : Nat) : Int), .int .i64 (((putS s t bb).2.2 : Nat) : Int)]) ∧ RDone G q (putS s t bb).1 w w' := by
  have HFI := Lib.hid (reffile_any t w ht.1 (by have := ht.2; omega))
  obtain ⟨_, _, Ab, cb, rfl, _⟩ := hb.parts
  have HFT := Lib.hid (rfits_any t bb.length w q lv G s h ht.1 hbl hu)
  have HS : Hid (∀ m, Calls Try.prog 37 #[.pointer (some ⟨q, 0, none⟩), .string (str t), .slice Ab bb.length cb] (w.drewN m) fun e w' => e = .returned (.int .i64 ((s.next + 1 : Nat) : Int)) ∧ RDone G q (wr s t bb) (w.drewN m) w') := Lib.hid fun m =>
    rset_any t bb _ (w.drewN m) q lv G s (h.heap rfl) ht.1 ht.2 (hb.heap rfl) hbq hnx hcn hbl
  have H := Lib.hid h
  obtain ⟨lb, hlb⟩ : ∃ lb, bb.length = lb := ⟨_, rfl⟩
  have HLB := Lib.hid hlb
  rw [hlb] at HFT HS ⊢
  obtain ⟨fb, hfb⟩ : ∃ fb, Nm.file t = fb := ⟨_, rfl⟩
  rw [hfb] at HFI
  have HFB := Lib.hid hfb
  obtain ⟨ft, hft⟩ : ∃ ft, fits s t lb = ft := ⟨_, rfl⟩
  rw [hft] at HFT
  have HFF := Lib.hid hft
  clear h ht hb hbq hnx hcn hbl hu hlb hfb hft
  go_enter Try.func12, Try.ntmps12
  go_wp2_with fail
  refine HFI.out.mono ?_
  rintro e w' ⟨rfl, rfl⟩
  rcases fb with _ | _
  · have HV : Hid (putS s t bb = (s, 0, 1)) := Lib.hid (by unfold putS; simp [HFB.out])
    go_wp2
    go_ret2
    rw [HV.out]
    exact ⟨rfl, RDone.refl H.out (Below.refl _ _)⟩
  · go_wp2_with fail
    refine HFT.out.mono ?_
    rintro e w' ⟨rfl, m, rfl⟩
    rcases ft with _ | _
    · have HV : Hid (putS s t bb = (s, 0, 2)) := Lib.hid (by unfold putS; simp [HFB.out, HLB.out, HFF.out])
      go_wp2
      go_ret2
      rw [HV.out]
      exact ⟨rfl, RDone.refl H.out (sbelow_drewN _ _)⟩
    · have HV : Hid (putS s t bb = (wr s t bb, s.next + 1, 0)) := Lib.hid (by unfold putS; simp [HFB.out, HLB.out, HFF.out])
      go_wp2_with fail
      refine (HS.out m).mono ?_
      rintro e w' ⟨rfl, hd⟩
      have HD := Lib.hid hd
      clear hd
      go_wp2
      go_ret2
      rw [HV.out]
      exact ⟨rfl, RDone.after (sbelow_drewN _ _) HD.out⟩
set_option maxHeartbeats 4000000 in
theorem rmake_any (t bb : List Nat) (bv : Value) (w : World) (q : Nat) (lv : Value) (G : Nat → Prop) (s : S) (h : Rf w q lv G s) (ht : Nice t) (hb : Bytes w bv bb) (hbq : bb ≠ [] → ∀ j, bv.ownBlock = some j → j ≠ q)
    (hnx : s.next ≤ 1073741824) (hcn : s.l.length ≤ 1048575) (hbl : bb.length ≤ 1099511627776) (hu : used s.l ≤ 1099511627776) :
    Calls Try.prog 10 #[.pointer (some ⟨q, 0, none⟩), .string (str t), bv] w fun e w' => e = .returned (.tuple #[.int .i64 (((make s t bb).2.1 : Nat) : Int), .int .i64 (((make s t bb).2.2 : Nat) : Int)]) ∧ RDone G q (make s t bb).1 w w' := by
  have HFI := Lib.hid (reffile_any t w ht.1 (by have := ht.2; omega))
  have HA := Lib.hid (rat_any t w q lv G s h ht.1)
  obtain ⟨_, _, Ab, cb, rfl, _⟩ := hb.parts
  have HFT := Lib.hid (rfits_any t bb.length w q lv G s h ht.1 hbl hu)
  have HS : Hid (∀ m, Calls Try.prog 37 #[.pointer (some ⟨q, 0, none⟩), .string (str t), .slice Ab bb.length cb] (w.drewN m) fun e w' => e = .returned (.int .i64 ((s.next + 1 : Nat) : Int)) ∧ RDone G q (wr s t bb) (w.drewN m) w') := Lib.hid fun m =>
    rset_any t bb _ (w.drewN m) q lv G s (h.heap rfl) ht.1 ht.2 (hb.heap rfl) hbq hnx hcn hbl
  have H := Lib.hid h
  obtain ⟨lb, hlb⟩ : ∃ lb, bb.length = lb := ⟨_, rfl⟩
  have HLB := Lib.hid hlb
  rw [hlb] at HFT HS ⊢
  obtain ⟨fb, hfb⟩ : ∃ fb, Nm.file t = fb := ⟨_, rfl⟩
  rw [hfb] at HFI
  have HFB := Lib.hid hfb
  obtain ⟨ft, hft⟩ : ∃ ft, fits s t lb = ft := ⟨_, rfl⟩
  rw [hft] at HFT
  have HFF := Lib.hid hft
  clear h ht hb hbq hnx hcn hbl hu hlb hfb hft
  go_enter Try.func10, Try.ntmps10
  go_wp2_with fail
  refine HFI.out.mono ?_
  rintro e w' ⟨rfl, rfl⟩
  rcases fb with _ | _
  · have HV : Hid (make s t bb = (s, 0, 1)) := Lib.hid (by unfold make; simp [HFB.out])
    go_wp2
    go_ret2
    rw [HV.out]
    exact ⟨rfl, RDone.refl H.out (Below.refl _ _)⟩
  · go_wp2_with fail
    refine HA.out.mono ?_
    rintro e w' ⟨⟨z, rfl, ⟨rfl, hg⟩ | ⟨k, hk, rfl, hg, -⟩⟩, rfl⟩
    · have HG0 := Lib.hid hg
      clear hg
      go_wp2_with fail
      refine HFT.out.mono ?_
      rintro e w' ⟨rfl, m, rfl⟩
      rcases ft with _ | _
      · have HV : Hid (make s t bb = (s, 0, 2)) := Lib.hid (by unfold make putS; simp [HFB.out, HLB.out, HFF.out, HG0.out])
        go_wp2
        go_ret2
        rw [HV.out]
        exact ⟨rfl, RDone.refl H.out (sbelow_drewN _ _)⟩
      · have HV : Hid (make s t bb = (wr s t bb, s.next + 1, 0)) := Lib.hid (by unfold make putS; simp [HFB.out, HLB.out, HFF.out, HG0.out])
        go_wp2_with fail
        refine (HS.out m).mono ?_
        rintro e w' ⟨rfl, hd⟩
        have HD := Lib.hid hd
        clear hd
        go_wp2
        go_ret2
        rw [HV.out]
        exact ⟨rfl, RDone.after (sbelow_drewN _ _) HD.out⟩
    · have HV : Hid (make s t bb = (s, 0, 3)) := Lib.hid (by unfold make; simp [HFB.out, hg])
      have hk0 : (0 : Int) ≤ (k : Int) := by omega
      clear hg
      go_wp2
      go_ret2
      rw [HV.out]
      exact ⟨rfl, RDone.refl H.out (Below.refl _ _)⟩
set_option maxHeartbeats 4000000 in
theorem rdrop_any (t : List Nat) (g : List (List Nat × Int)) (vg : Value) (w : World) (q : Nat) (lv : Value) (G : Nat → Prop) (s : S) (h : Rf w q lv G s) (ht : Nice t) (hg : RdG w vg g) (hg1 : ∀ x ∈ g, Nice x.1) :
    Calls Try.prog 18 #[.pointer (some ⟨q, 0, none⟩), .string (str t), vg] w fun e w' => e = .returned (.int .i64 (((drop s t g).2 : Nat) : Int)) ∧ RDone G q (drop s t g).1 w w' := by
  have HFI := Lib.hid (reffile_any t w ht.1 (by have := ht.2; omega))
  have HGD := Lib.hid (rguarded_any g vg w q lv G s h hg hg1)
  have H := Lib.hid h
  have HT := Lib.hid ht
  obtain ⟨fb, hfb⟩ : ∃ fb, Nm.file t = fb := ⟨_, rfl⟩
  rw [hfb] at HFI
  have HFB := Lib.hid hfb
  obtain ⟨gb, hgb⟩ : ∃ gb, guards s.l g = gb := ⟨_, rfl⟩
  rw [hgb] at HGD
  have HGB := Lib.hid hgb
  clear h ht hg hg1 hfb hgb
  go_enter Try.func18, Try.ntmps18
  go_wp2_with fail
  refine HFI.out.mono ?_
  rintro e w' ⟨rfl, rfl⟩
  rcases fb with _ | _
  · have HV : Hid (drop s t g = (s, 1)) := Lib.hid (by unfold drop refuse; simp [HFB.out])
    go_wp2
    go_ret
    rw [HV.out]
    exact ⟨rfl, RDone.refl H.out (Below.refl _ _)⟩
  · go_wp2_with fail
    refine HGD.out.mono ?_
    rintro e w1 ⟨rfl, hb1⟩
    have HB1 := Lib.hid hb1
    clear hb1
    rcases gb with _ | _
    · have HV : Hid (drop s t g = (s, 5)) := Lib.hid (by unfold drop refuse; simp [HFB.out, HGB.out])
      go_wp2
      go_ret
      rw [HV.out]
      exact ⟨rfl, RDone.refl H.out HB1.out⟩
    · have HA := Lib.hid (rat_any t w1 q lv G s (H.out.under HB1.out) HT.out.1)
      go_wp2_with fail
      refine HA.out.mono ?_
      rintro e w' ⟨⟨z, rfl, ⟨rfl, hg⟩ | ⟨k, hk, rfl, hg, -⟩⟩, rfl⟩
      · have HV : Hid (drop s t g = (s, 4)) := Lib.hid (by unfold drop refuse; simp [HFB.out, HGB.out, hg])
        clear hg
        go_wp2
        go_ret
        rw [HV.out]
        exact ⟨rfl, RDone.refl H.out HB1.out⟩
      · have HV : Hid (drop s t g = (rm s t, 0)) := Lib.hid (by unfold drop refuse; simp [HFB.out, HGB.out, hg])
        have hk0 : ¬ (k : Int) < 0 := by omega
        clear hg
        go_wp2_with fail
        refine (rgone_any t w1 q lv G s (H.out.under HB1.out) HT.out.1).mono ?_
        rintro e w2 ⟨rfl, hd⟩
        have HD := Lib.hid hd.done
        clear hd
        go_wp2
        go_ret
        rw [HV.out]
        exact ⟨rfl, RDone.after HB1.out HD.out⟩
end Go.Proofs.Ytlfgadcfjjjbfaa
