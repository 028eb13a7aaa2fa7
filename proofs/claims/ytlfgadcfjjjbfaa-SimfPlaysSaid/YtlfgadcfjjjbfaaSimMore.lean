/- Files in memory: make, drop, move, read. -/
import Derived.Test.YtlfgadcfjjjbfaaSimPut
import Derived.StillTailTactics
namespace Go.Proofs.Ytlfgadcfjjjbfaa
set_option maxRecDepth 100000
open Go.ChangeShapes Go.WideShapes Go.ChangeAt Go.RowKit Go.ChangeMaps
open Sf

theorem val_mine {X : Option (List Nat)} {w : World} {p mb : Nat} {V : List Nat → Value} {F : Nat → Prop} {s : S} (h : At X w p mb V F s) (t : List Nat) (k : Nat) (hk : (val V s.l t).ownBlock = some k) : F k ∧ k ≠ p ∧ k ≠ mb := by
  unfold val at hk
  rcases hf : Sf.get s.l t with _ | x
  · rw [hf] at hk
    cases hk
  · rw [hf] at hk
    exact h.mine t x k hf hk
theorem val_apart {X : Option (List Nat)} {w : World} {p mb : Nat} {V : List Nat → Value} {F : Nat → Prop} {s : S} (h : At X w p mb V F s) (t u : List Nat) (x : Fi) (hx : Sf.get s.l u = some x) (hne : u ≠ t) : (V u).ownBlock = none ∨ (V u).ownBlock ≠ (val V s.l t).ownBlock := by
  unfold val
  rcases hf : Sf.get s.l t with _ | y
  · rcases hv : (V u).ownBlock with _ | k
    · exact .inl rfl
    · exact .inr (by simp [Value.ownBlock])
  · exact h.apart u t x y hx hf hne

set_option maxHeartbeats 4000000 in
theorem make_any (t b : List Nat) (vb : Value) (w : World) (p mb : Nat) (V : List Nat → Value) (F : Nat → Prop) (s : S) (h : At none w p mb V F s) (ht : Nice t) (hb : Bytes w vb b) (hnx : s.next ≤ 1073741824) (hu : used s.l + b.length ≤ 1099511627776) :
    Calls Try.prog 9 #[.pointer (some ⟨p, 0, none⟩), .string (str t), vb] w fun e w' => e = .returned (.tuple #[.int .i64 (((make s t b).2.1 : Nat) : Int), .int .i64 (((make s t b).2.2 : Nat) : Int)]) ∧ Done F p (make s t b).1 w w' := by
  obtain ⟨h1, h2, A, c, rfl, hc, hx⟩ := hb.parts
  have hn1 := ownT_one w 0 t (Nat.zero_le _)
  obtain ⟨w1, hww⟩ : ∃ w1, w1 = w.alloc (.cells #[.string (str t)] 9) := ⟨_, rfl⟩
  rw [← hww] at hn1
  have hb1 : Below w.heap.size w w1 := by rw [hww]; exact (Below.refl _ _).alloc (Nat.le_refl _) _
  have HR := Lib.hid (refuse_any [] [t] (.slice none 0 0) _ w1 p mb V F s (h.under hb1) (rdG_none w1 0 none) hn1 (by simp) (by simpa using ht) (by simp))
  have HB1 := Lib.hid hb1
  have H := Lib.hid h
  have HT := Lib.hid ht
  have HB := Lib.hid hb
  have HU := Lib.hid (And.intro hnx hu)
  obtain ⟨n, hn⟩ : ∃ n, b.length = n := ⟨_, rfl⟩
  rw [hn] at HB ⊢
  clear h1 h2 hc hx hb1 h ht hb hn1 hn hnx hu
  rcases hf : Nm.file t with _ | _
  · have HV : Hid (refuse s.l [] [t] = 1) := Lib.hid (by simp [Sf.refuse, hf])
    have HP : Hid (make s t b = (s, 0, 1)) := Lib.hid (by simp [make, hf])
    clear hf
    go_enter Try.func9, Try.ntmps9
    go_wp2_with fail
    rw [← hww]
    refine HR.out.mono ?_
    rintro e w2 ⟨rfl, hb2⟩
    rw [HV.out]
    have HB2 := Lib.hid (HB1.out.trans (hb2.mono HB1.out.size))
    clear hb2
    go_wp2
    go_ret2
    rw [HP.out]
    exact ⟨rfl, Done.same H.out HB2.out⟩
  · have HV : Hid (refuse s.l [] [t] = 0) := Lib.hid (by simp [Sf.refuse, Sf.guards, hf])
    rcases hq : (Sf.get s.l t).isSome with _ | _
    · have HP : Hid (make s t b = putS s t b) := Lib.hid (by unfold make; rw [if_pos hf, if_neg (by rw [hq]; simp)])
      have HQ := Lib.hid hq
      clear hf hq
      go_enter Try.func9, Try.ntmps9
      go_wp2_with fail
      rw [← hww]
      refine HR.out.mono ?_
      rintro e w2 ⟨rfl, hb2⟩
      rw [HV.out]
      have HB2 := Lib.hid (HB1.out.trans (hb2.mono HB1.out.size))
      clear hb2
      go_wp2_with fail
      refine (there_any t w2 p mb V F s (H.out.under HB2.out) HT.out.1 HT.out.2).mono ?_
      rintro e w3 ⟨rfl, hb3⟩
      rw [HQ.out]
      have HB3 := Lib.hid (HB2.out.trans (hb3.mono HB2.out.size))
      clear hb3
      go_wp2_with fail
      refine (put_any t b _ w3 p mb V F s (H.out.under HB3.out) HT.out (HB.out.under HB3.out) HU.out.1 HU.out.2).mono ?_
      rintro e w4 ⟨rfl, hd⟩
      have HD := Lib.hid (Done.before HB3.out hd)
      clear hd
      obtain ⟨r1, hr1⟩ : ∃ r, (putS s t b).2.1 = r := ⟨_, rfl⟩
      obtain ⟨r2, hr2⟩ : ∃ r, (putS s t b).2.2 = r := ⟨_, rfl⟩
      rw [hr1, hr2]
      have HR12 := Lib.hid (And.intro hr1 hr2)
      clear hr1 hr2
      go_wp2
      go_ret2
      rw [HP.out]
      exact ⟨by rw [HR12.out.1, HR12.out.2]; rfl, HD.out⟩
    · have HP : Hid (make s t b = (s, 0, 3)) := Lib.hid (by unfold make; rw [if_pos hf, if_pos hq])
      have HQ := Lib.hid hq
      clear hf hq
      go_enter Try.func9, Try.ntmps9
      go_wp2_with fail
      rw [← hww]
      refine HR.out.mono ?_
      rintro e w2 ⟨rfl, hb2⟩
      rw [HV.out]
      have HB2 := Lib.hid (HB1.out.trans (hb2.mono HB1.out.size))
      clear hb2
      go_wp2_with fail
      refine (there_any t w2 p mb V F s (H.out.under HB2.out) HT.out.1 HT.out.2).mono ?_
      rintro e w3 ⟨rfl, hb3⟩
      rw [HQ.out]
      have HB3 := Lib.hid (HB2.out.trans (hb3.mono HB2.out.size))
      clear hb3
      go_wp2
      go_ret2
      rw [HP.out]
      exact ⟨rfl, Done.same H.out HB3.out⟩

set_option maxHeartbeats 4000000 in
theorem drop_any (t : List Nat) (g : List (List Nat × Int)) (vg : Value) (w : World) (p mb : Nat) (V : List Nat → Value) (F : Nat → Prop) (s : S) (h : At none w p mb V F s) (ht : Nice t) (hg : RdG w vg g) (hg1 : ∀ x ∈ g, Nice x.1) (hu : used s.l ≤ 1099511627776) :
    Calls Try.prog 17 #[.pointer (some ⟨p, 0, none⟩), .string (str t), vg] w fun e w' => e = .returned (.int .i64 (((drop s t g).2 : Nat) : Int)) ∧ Done F p (drop s t g).1 w w' := by
  have hn1 := ownT_one w 0 t (Nat.zero_le _)
  obtain ⟨w1, hww⟩ : ∃ w1, w1 = w.alloc (.cells #[.string (str t)] 9) := ⟨_, rfl⟩
  rw [← hww] at hn1
  have hb1 : Below w.heap.size w w1 := by rw [hww]; exact (Below.refl _ _).alloc (Nat.le_refl _) _
  have HR := Lib.hid (refuse_any g [t] vg _ w1 p mb V F s (h.under hb1) (hg.under hb1) hn1 hg1 (by simpa using ht) (by simp))
  have HB1 := Lib.hid hb1
  have H := Lib.hid h
  have HT := Lib.hid ht
  have HU := Lib.hid hu
  clear hb1 h ht hn1 hu hg hg1
  by_cases hr : refuse s.l g [t] = 0
  · have HV := Lib.hid hr
    rcases hq : (Sf.get s.l t).isSome with _ | _
    · have HP : Hid (drop s t g = (s, 4)) := Lib.hid (by unfold Sf.drop; rw [if_pos hr, if_neg (by rw [hq]; simp)])
      have HQ := Lib.hid hq
      clear hr hq
      go_enter Try.func17, Try.ntmps17
      go_wp2_with fail
      rw [← hww]
      refine HR.out.mono ?_
      rintro e w2 ⟨rfl, hb2⟩
      rw [HV.out]
      have HB2 := Lib.hid (HB1.out.trans (hb2.mono HB1.out.size))
      clear hb2
      go_wp2_with fail
      refine (there_any t w2 p mb V F s (H.out.under HB2.out) HT.out.1 HT.out.2).mono ?_
      rintro e w3 ⟨rfl, hb3⟩
      rw [HQ.out]
      have HB3 := Lib.hid (HB2.out.trans (hb3.mono HB2.out.size))
      clear hb3
      go_wp2
      go_ret
      rw [HP.out]
      exact ⟨rfl, Done.same H.out HB3.out⟩
    · have HP : Hid (drop s t g = (rm s t, 0)) := Lib.hid (by unfold Sf.drop; rw [if_pos hr, if_pos hq])
      have HQ := Lib.hid hq
      clear hr hq
      go_enter Try.func17, Try.ntmps17
      go_wp2_with fail
      rw [← hww]
      refine HR.out.mono ?_
      rintro e w2 ⟨rfl, hb2⟩
      rw [HV.out]
      have HB2 := Lib.hid (HB1.out.trans (hb2.mono HB1.out.size))
      clear hb2
      go_wp2_with fail
      refine (there_any t w2 p mb V F s (H.out.under HB2.out) HT.out.1 HT.out.2).mono ?_
      rintro e w3 ⟨rfl, hb3⟩
      rw [HQ.out]
      have HB3 := Lib.hid (HB2.out.trans (hb3.mono HB2.out.size))
      clear hb3
      go_wp2_with fail
      refine (remove_any t w3 p mb V F s (H.out.under HB3.out) HT.out.1 HT.out.2 HU.out).mono ?_
      rintro e w4 ⟨rfl, ha4, hk4, hs4, ho4⟩
      have HD : Hid (Done F p (rm s t) w w4) := Lib.hid ⟨F, ⟨mb, V, ha4⟩, ho4.1.trans HB3.out.os, ho4.2.1.trans HB3.out.tape, ho4.2.2.trans HB3.out.output, by rw [hs4]; exact HB3.out.size, fun k hk hF => (hk4 k (fun e => hF (e ▸ H.out.fp)) (fun e => hF (e ▸ H.out.fm))).trans (HB3.out.block k hk), fun k hk => .inl hk⟩
      clear ha4 hk4 hs4 ho4
      go_wp2
      go_ret
      rw [HP.out]
      exact ⟨rfl, HD.out⟩
  · obtain ⟨q, hq⟩ : ∃ q, refuse s.l g [t] = q := ⟨_, rfl⟩
    have HP : Hid (drop s t g = (s, q)) := Lib.hid (by unfold Sf.drop; rw [if_neg hr, hq])
    rw [hq] at HR hr
    have hqz : ((q : Int) == 0) = false := by simpa using hr
    clear hr hq
    go_enter Try.func17, Try.ntmps17
    go_wp2_with fail
    rw [← hww]
    refine HR.out.mono ?_
    rintro e w2 ⟨rfl, hb2⟩
    have HB2 := Lib.hid (HB1.out.trans (hb2.mono HB1.out.size))
    clear hb2
    go_wp2
    go_ret
    rw [HP.out]
    exact ⟨rfl, Done.same H.out HB2.out⟩
end Go.Proofs.Ytlfgadcfjjjbfaa
