/- The document's own files: move. -/
import Derived.Test.YtlfgadcfjjjbfaaRfPut
namespace Go.Proofs.Ytlfgadcfjjjbfaa
set_option maxRecDepth 100000
open Go.ChangeShapes Go.WideShapes Go.ChangeAt Go.RowKit Go.ChangeMaps
open Sf

set_option maxHeartbeats 4000000 in
theorem rmove_any (a b : List Nat) (g : List (List Nat × Int)) (vg : Value) (w : World) (q : Nat) (lv : Value) (G : Nat → Prop) (s : S) (h : Rf w q lv G s) (ha : Nice a) (hb : Nice b) (hg : RdG w vg g) (hg1 : ∀ x ∈ g, Nice x.1)
    (hnx : s.next ≤ 1073741824) (hcn : s.l.length ≤ 1048575) (hu : used s.l ≤ 1099511627776) :
    Calls Try.prog 16 #[.pointer (some ⟨q, 0, none⟩), .string (str a), .string (str b), vg] w fun e w' => e = .returned (.tuple #[.int .i64 (((Sf.move s a b g).2.1 : Nat) : Int), .int .i64 (((Sf.move s a b g).2.2 : Nat) : Int)]) ∧ RDone G q (Sf.move s a b g).1 w w' := by
  have HFA := Lib.hid (reffile_any a w ha.1 (by have := ha.2; omega))
  have HFB := Lib.hid (reffile_any b w hb.1 (by have := hb.2; omega))
  have HGD := Lib.hid (rguarded_any g vg w q lv G s h hg hg1)
  have H := Lib.hid h
  have HA := Lib.hid ha
  have HB := Lib.hid hb
  have HN := Lib.hid (And.intro hnx (And.intro hcn hu))
  have hse := str_same ha.1 hb.1
  obtain ⟨fa, hfa⟩ : ∃ fa, Nm.file a = fa := ⟨_, rfl⟩
  rw [hfa] at HFA
  obtain ⟨fb, hfb⟩ : ∃ fb, Nm.file b = fb := ⟨_, rfl⟩
  rw [hfb] at HFB
  have HEA := Lib.hid hfa
  have HEB := Lib.hid hfb
  obtain ⟨gb, hgb⟩ : ∃ gb, guards s.l g = gb := ⟨_, rfl⟩
  rw [hgb] at HGD
  have HGB := Lib.hid hgb
  obtain ⟨eb, heb⟩ : ∃ eb, decide (a = b) = eb := ⟨_, rfl⟩
  rw [heb] at hse
  have HEQ := Lib.hid heb
  clear h ha hb hg hg1 hnx hcn hu hfa hfb hgb heb
  go_enter Try.func16, Try.ntmps16
  go_wp2_with fail
  refine HFA.out.mono ?_
  rintro e w' ⟨rfl, rfl⟩
  rcases fa with _ | _
  · have HV : Hid (Sf.move s a b g = (s, 0, 1)) := Lib.hid (by
      unfold Sf.move
      split
      · rfl
      · have : refuse s.l g [a, b] = 1 := by unfold refuse; simp [HEA.out]
        rw [this]
        rfl)
    go_wp2
    go_ret2
    rw [HV.out]
    exact ⟨rfl, RDone.refl H.out (Below.refl _ _)⟩
  · go_wp2_with fail
    refine HFB.out.mono ?_
    rintro e w' ⟨rfl, rfl⟩
    rcases fb with _ | _
    · have HV : Hid (Sf.move s a b g = (s, 0, 1)) := Lib.hid (by
        unfold Sf.move
        split
        · rfl
        · have : refuse s.l g [a, b] = 1 := by unfold refuse; simp [HEB.out]
          rw [this]
          rfl)
      go_wp2
      go_ret2
      rw [HV.out]
      exact ⟨rfl, RDone.refl H.out (Below.refl _ _)⟩
    · rcases eb with _ | _
      · have HNE : Hid (a ≠ b) := Lib.hid (of_decide_eq_false HEQ.out)
        go_wp2_with fail
        refine HGD.out.mono ?_
        rintro e w1 ⟨rfl, hb1⟩
        have HB1 := Lib.hid hb1
        clear hb1
        rcases gb with _ | _
        · have HV : Hid (Sf.move s a b g = (s, 0, 5)) := Lib.hid (by
            have : refuse s.l g [a, b] = 5 := by unfold refuse; simp [HEA.out, HEB.out, HGB.out]
            unfold Sf.move
            rw [if_neg HNE.out, this]
            rfl)
          go_wp2
          go_ret2
          rw [HV.out]
          exact ⟨rfl, RDone.refl H.out HB1.out⟩
        · have HRZ : Hid (refuse s.l g [a, b] = 0) := Lib.hid (by unfold refuse; simp [HEA.out, HEB.out, HGB.out])
          have H1 := Lib.hid (H.out.under HB1.out)
          have HAT := Lib.hid (rat_any a w1 q lv G s H1.out HA.out.1)
          go_wp2_with fail
          refine HAT.out.mono ?_
          rintro e w' ⟨⟨z, rfl, ⟨rfl, hg⟩ | ⟨k, hk, rfl, hg, -⟩⟩, rfl⟩
          · have HV : Hid (Sf.move s a b g = (s, 0, 4)) := Lib.hid (by
              unfold Sf.move
              rw [if_neg HNE.out, if_pos HRZ.out, hg]
              rfl)
            clear hg
            go_wp2
            go_ret2
            rw [HV.out]
            exact ⟨rfl, RDone.refl H.out HB1.out⟩
          · have HV : Hid (Sf.move s a b g = (wr (rm s a) b (Sf.bytes s.l a), s.next + 1, 0)) := Lib.hid (by
              unfold Sf.move
              rw [if_neg HNE.out, if_pos HRZ.out, hg]
              rfl)
            have hk0 : ¬ (k : Int) < 0 := by omega
            clear hg
            go_wp2_with fail
            refine (rhas_any a w1 q lv G s H1.out HA.out.1).mono ?_
            rintro e w' ⟨⟨v, rfl, hbv, hvq⟩, rfl⟩
            have HBV := Lib.hid (And.intro hbv hvq)
            obtain ⟨_, _, Av, cv, rfl, _⟩ := hbv.parts
            clear hbv hvq
            go_wp2_with fail
            refine (rgone_any a w1 q lv G s H1.out HA.out.1).mono ?_
            rintro e w2 ⟨rfl, lv2, G2, h2, hg2, hG2, -⟩
            have HB2 : Hid (Bytes w2 (.slice Av (Sf.bytes s.l a).length cv) (Sf.bytes s.l a)) := Lib.hid (HBV.out.1.grown hg2 (.inr fun e => (HBV.out.2 q e).2 rfl))
            have HGG := Lib.hid (And.intro hg2 hG2)
            have HSET := Lib.hid (rset_any b (Sf.bytes s.l a) _ w2 q lv2 G2 (rm s a) h2 HB.out.1 HB.out.2 HB2.out (fun _ j hj => (HBV.out.2 j hj).2) HN.out.1 (Nat.le_trans (gone_len s.l a) HN.out.2.1) (Nat.le_trans (bytes_le H.out.good.1 a) HN.out.2.2))
            clear h2 hg2 hG2
            go_wp2_with fail
            refine HSET.out.mono ?_
            rintro e w3 ⟨rfl, hd⟩
            have HD : Hid (RDone G q (wr (rm s a) b (Sf.bytes s.l a)) w w3) := Lib.hid (by
              obtain ⟨lv3, G3, e1, e2, e3⟩ := hd
              refine RDone.after HB1.out ⟨lv3, G3, e1, grownq HGG.out.1 e2, fun j hj => ?_⟩
              rcases e3 j hj with e | e
              · exact HGG.out.2 j e
              · exact .inr (Nat.le_trans HGG.out.1.size e))
            clear hd
            go_wp2
            go_ret2
            rw [HV.out]
            exact ⟨rfl, HD.out⟩
      · have HV : Hid (Sf.move s a b g = (s, 0, 1)) := Lib.hid (by unfold Sf.move; rw [if_pos (of_decide_eq_true HEQ.out)])
        go_wp2
        go_ret2
        rw [HV.out]
        exact ⟨rfl, RDone.refl H.out (Below.refl _ _)⟩
end Go.Proofs.Ytlfgadcfjjjbfaa
