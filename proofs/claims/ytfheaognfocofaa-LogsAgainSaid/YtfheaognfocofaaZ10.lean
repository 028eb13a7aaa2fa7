/- Files in memory: make, drop, move, read. -/
import Derived.Test.YtfheaognfocofaaZSimPut
import Derived.StillTailTactics
import Derived.Deep.RegionLaw
import Derived.Deep.AppendLies
namespace Go.Proofs.Ytfheaognfocofaa
set_option maxRecDepth 100000
open Go.ChangeShapes Go.WideShapes Go.ChangeAt Go.RowKit Go.ChangeMaps
open Sf

theorem val_mine {X : Option (List Nat)} {w : World} {p mb : Nat} {V : List Nat → Value} {F : Nat → Prop} {s : S} (h : At X w p mb V F s) (t : List Nat) (k : Nat) (hk : (val V s.l t).ownBlock = some k) : F k ∧ k ≠ p ∧ k ≠ mb := by
  unfold val at hk
  rcases hf : Sf.get s.l t with _ | x
  · rw [hf] at hk
    cases hk
  · rw [hf] at hk
    exact h.mine t x k hf hk
theorem val_apart {X : Option (List Nat)} {w : World} {p mb : Nat} {V : List Nat → Value} {F : Nat → Prop} {s : S} (h : At X w p mb V F s) (t u : List Nat) (x : Fi) (hx : Sf.get s.l u = some x) (hne : u ≠ t) : (V u).ownBlock = none ∨ (V u).ownBlock ≠ (val V s.l t).ownBlock := by
  unfold val
  rcases hf : Sf.get s.l t with _ | y
  · rcases hv : (V u).ownBlock with _ | k
    · exact .inl rfl
    · exact .inr (by simp [Value.ownBlock])
  · exact h.apart u t x y hx hf hne

set_option maxHeartbeats 4000000 in
theorem drop_any (t : List Nat) (g : List (List Nat × Int)) (vg : Value) (w : World) (p mb : Nat) (V : List Nat → Value) (F : Nat → Prop) (s : S) (h : At none w p mb V F s) (ht : Nice t) (hg : RdG w vg g) (hg1 : ∀ x ∈ g, Nice x.1) (hu : used s.l ≤ 1099511627776) :
    Calls Try.prog 42 #[.pointer (some ⟨p, 0, none⟩), .string (str t), vg] w fun e w' => e = .returned (.int .i64 (((drop s t g).2 : Nat) : Int)) ∧ Done F p (drop s t g).1 w w' := by
  have hn1 := ownT_one w 0 t (Nat.zero_le _)
  obtain ⟨w1, hww⟩ : ∃ w1, w1 = w.alloc (.cells #[.string (str t)] 9) := ⟨_, rfl⟩
  rw [← hww] at hn1
  have hb1 : Below w.heap.size w w1 := by rw [hww]; exact (Below.refl _ _).alloc (Nat.le_refl _) _
  have HR := Lib.hid (refuse_any g [t] vg _ w1 p mb V F s (h.under hb1) (hg.under hb1) hn1 hg1 (by simpa using ht) (by simp))
  have HB1 := Lib.hid hb1
  have H := Lib.hid h
  have HT := Lib.hid ht
  have HU := Lib.hid hu
  clear hb1 h ht hn1 hu hg hg1
  by_cases hr : refuse s.l g [t] = 0
  · have HV := Lib.hid hr
    rcases hq : (Sf.get s.l t).isSome with _ | _
    · have HP : Hid (drop s t g = (s, 4)) := Lib.hid (by unfold Sf.drop; rw [if_pos hr, if_neg (by rw [hq]; simp)])
      have HQ := Lib.hid hq
      clear hr hq
      go_enter Try.func42, Try.ntmps42
      go_wp2_with fail
      rw [← hww]
      refine HR.out.mono ?_
      rintro e w2 ⟨rfl, hb2⟩
      rw [HV.out]
      have HB2 := Lib.hid (HB1.out.trans (hb2.mono HB1.out.size))
      clear hb2
      go_wp2_with fail
      refine (there_any t w2 p mb V F s (H.out.under HB2.out) HT.out.1 HT.out.2).mono ?_
      rintro e w3 ⟨rfl, hb3⟩
      rw [HQ.out]
      have HB3 := Lib.hid (HB2.out.trans (hb3.mono HB2.out.size))
      clear hb3
      go_wp2
      go_ret
      rw [HP.out]
      exact ⟨rfl, Done.same H.out HB3.out⟩
    · have HP : Hid (drop s t g = (rm s t, 0)) := Lib.hid (by unfold Sf.drop; rw [if_pos hr, if_pos hq])
      have HQ := Lib.hid hq
      clear hr hq
      go_enter Try.func42, Try.ntmps42
      go_wp2_with fail
      rw [← hww]
      refine HR.out.mono ?_
      rintro e w2 ⟨rfl, hb2⟩
      rw [HV.out]
      have HB2 := Lib.hid (HB1.out.trans (hb2.mono HB1.out.size))
      clear hb2
      go_wp2_with fail
      refine (there_any t w2 p mb V F s (H.out.under HB2.out) HT.out.1 HT.out.2).mono ?_
      rintro e w3 ⟨rfl, hb3⟩
      rw [HQ.out]
      have HB3 := Lib.hid (HB2.out.trans (hb3.mono HB2.out.size))
      clear hb3
      go_wp2_with fail
      refine (remove_any t w3 p mb V F s (H.out.under HB3.out) HT.out.1 HT.out.2 HU.out).mono ?_
      rintro e w4 ⟨rfl, ha4, hk4, hs4, ho4⟩
      have HD : Hid (Done F p (rm s t) w w4) := Lib.hid ⟨F, ⟨mb, V, ha4⟩, ho4.1.trans HB3.out.os, ho4.2.1.trans HB3.out.tape, ho4.2.2.trans HB3.out.output, by rw [hs4]; exact HB3.out.size, fun k hk hF => (hk4 k (fun e => hF (e ▸ H.out.fp)) (fun e => hF (e ▸ H.out.fm))).trans (HB3.out.block k hk), fun k hk => .inl hk⟩
      clear ha4 hk4 hs4 ho4
      go_wp2
      go_ret
      rw [HP.out]
      exact ⟨rfl, HD.out⟩
  · obtain ⟨q, hq⟩ : ∃ q, refuse s.l g [t] = q := ⟨_, rfl⟩
    have HP : Hid (drop s t g = (s, q)) := Lib.hid (by unfold Sf.drop; rw [if_neg hr, hq])
    rw [hq] at HR hr
    have hqz : ((q : Int) == 0) = false := by simpa using hr
    clear hr hq
    go_enter Try.func42, Try.ntmps42
    go_wp2_with fail
    rw [← hww]
    refine HR.out.mono ?_
    rintro e w2 ⟨rfl, hb2⟩
    have HB2 := Lib.hid (HB1.out.trans (hb2.mono HB1.out.size))
    clear hb2
    go_wp2
    go_ret
    rw [HP.out]
    exact ⟨rfl, Done.same H.out HB2.out⟩
end Go.Proofs.Ytfheaognfocofaa

/- Files in memory: move, read. -/
namespace Go.Proofs.Ytfheaognfocofaa
set_option maxRecDepth 100000
open Go.ChangeShapes Go.WideShapes Go.ChangeAt Go.RowKit Go.ChangeMaps
open Sf

theorem sbelow_dr {B : Nat} {a W : World} (h : Below B a W) : Below B a W.drew := ⟨h.os, h.tape, h.output, h.size, h.block⟩
theorem ownT_two (w : World) (base : Nat) (a b : List Nat) (hb : base ≤ w.heap.size) : OwnT (w.alloc (.cells #[.string (str a), .string (str b)] 9)) base (.slice (some ⟨w.heap.size, 0, none⟩) 2 2) [a, b] :=
  ⟨rfl, .inr ⟨w.heap.size, 2, #[.string (str a), .string (str b)], rfl, hb, heap_alloc_new w _, Nat.le_refl _, by unfold maxLen; omega, rfl, rfl⟩⟩
theorem get_bytes {l : List Fi} {t : List Nat} {x : Fi} (h : Sf.get l t = some x) : Sf.bytes l t = x.b := by unfold Sf.bytes; rw [h]; rfl

set_option maxHeartbeats 4000000 in
theorem move_any (a b : List Nat) (g : List (List Nat × Int)) (vg : Value) (w : World) (p mb : Nat) (V : List Nat → Value) (F : Nat → Prop) (s : S) (h : At none w p mb V F s) (ha : Nice a) (hb : Nice b) (hg : RdG w vg g) (hg1 : ∀ x ∈ g, Nice x.1) (hnx : s.next ≤ 1073741824) (hu : used s.l ≤ 1099511627776) :
    Calls Try.prog 56 #[.pointer (some ⟨p, 0, none⟩), .string (str a), .string (str b), vg] w fun e w' => e = .returned (.tuple #[.int .i64 (((Sf.move s a b g).2.1 : Nat) : Int), .int .i64 (((Sf.move s a b g).2.2 : Nat) : Int)]) ∧ Done F p (Sf.move s a b g).1 w w' := by
  have hse := str_same ha.1 hb.1
  have H := Lib.hid h
  have HA := Lib.hid ha
  have HB := Lib.hid hb
  have HU := Lib.hid (And.intro hnx hu)
  by_cases hab : a = b
  · have HP : Hid (Sf.move s a b g = (s, 0, 1)) := Lib.hid (by unfold Sf.move; rw [if_pos hab])
    rw [decide_eq_true hab] at hse
    clear hab h ha hb hg hg1 hnx hu
    go_enter Try.func56, Try.ntmps56
    go_wp2
    go_ret2
    rw [HP.out]
    exact ⟨rfl, Done.same H.out (Below.refl _ _)⟩
  · have HAB := Lib.hid hab
    rw [decide_eq_false hab] at hse
    have hn1 := ownT_two w 0 a b (Nat.zero_le _)
    obtain ⟨w1, hww⟩ : ∃ w1, w1 = w.alloc (.cells #[.string (str a), .string (str b)] 9) := ⟨_, rfl⟩
    rw [← hww] at hn1
    have hb1 : Below w.heap.size w w1 := by rw [hww]; exact (Below.refl _ _).alloc (Nat.le_refl _) _
    have HR := Lib.hid (refuse_any g [a, b] vg _ w1 p mb V F s (h.under hb1) (hg.under hb1) hn1 hg1 (by intro t ht; simp at ht; rcases ht with rfl | rfl <;> assumption) (by simp))
    have HB1 := Lib.hid hb1
    clear hb1 h ha hb hn1 hnx hu hg hg1
    by_cases hr : refuse s.l g [a, b] = 0
    · have HV := Lib.hid hr
      rcases hq : Sf.get s.l a with _ | x
      · have HP : Hid (Sf.move s a b g = (s, 0, 4)) := Lib.hid (by unfold Sf.move; rw [if_neg hab, if_pos hr, hq]; rfl)
        have HQ : Hid ((Sf.get s.l a).isSome = false) := Lib.hid (by rw [hq]; rfl)
        clear hr hq hab
        go_enter Try.func56, Try.ntmps56
        go_wp2_with fail
        rw [← hww]
        refine HR.out.mono ?_
        rintro e w2 ⟨rfl, hb2⟩
        rw [HV.out]
        have HB2 := Lib.hid (HB1.out.trans (hb2.mono HB1.out.size))
        clear hb2
        go_wp2_with fail
        refine (there_any a w2 p mb V F s (H.out.under HB2.out) HA.out.1 HA.out.2).mono ?_
        rintro e w3 ⟨rfl, hb3⟩
        rw [HQ.out]
        have HB3 := Lib.hid (HB2.out.trans (hb3.mono HB2.out.size))
        clear hb3
        go_wp2
        go_ret2
        rw [HP.out]
        exact ⟨rfl, Done.same H.out HB3.out⟩
      · have HP : Hid (Sf.move s a b g = (wr (rm s a) b x.b, s.next + 1, 0)) := Lib.hid (by unfold Sf.move; rw [if_neg hab, if_pos hr, hq, if_pos (show (some x).isSome = true from rfl), get_bytes hq])
        have HX := Lib.hid hq
        have HQ : Hid ((Sf.get s.l a).isSome = true) := Lib.hid (by rw [hq]; rfl)
        have HVV : Hid (val V s.l a = V a) := Lib.hid (by unfold val; rw [hq])
        have HUU : Hid (used (rm s a).l + x.b.length ≤ 1099511627776) := Lib.hid (by have := used_rm H.out.good.1 a; rw [get_bytes hq] at this; have := HU.out.2; omega)
        obtain ⟨Aa, ca, hva⟩ := H.out.sl a x hq
        obtain ⟨n, hn⟩ : ∃ n, x.b.length = n := ⟨_, rfl⟩
        obtain ⟨st, hst⟩ : ∃ st, stamp s.l a = st := ⟨_, rfl⟩
        rw [hn] at hva
        have HVA := Lib.hid hva
        have HST := Lib.hid hst
        clear hr hq hab hn hva hst
        go_enter Try.func56, Try.ntmps56
        go_wp2_with fail
        rw [← hww]
        refine HR.out.mono ?_
        rintro e w2 ⟨rfl, hb2⟩
        rw [HV.out]
        have HB2 := Lib.hid (HB1.out.trans (hb2.mono HB1.out.size))
        clear hb2
        go_wp2_with fail
        refine (there_any a w2 p mb V F s (H.out.under HB2.out) HA.out.1 HA.out.2).mono ?_
        rintro e w3 ⟨rfl, hb3⟩
        rw [HQ.out]
        have HB3 := Lib.hid (HB2.out.trans (hb3.mono HB2.out.size))
        have HA3 := Lib.hid (H.out.under HB3.out)
        have k0 : w3.cell? ⟨p, 0, none⟩ = some (.map (some mb)) := HA3.out.blk.at 0
        have hask := HA3.out.ask HA.out.1 HA.out.2 Try.underlying56
        rw [HVV.out, HVA.out, HST.out] at hask
        unfold elem at hask
        have hfd := field0 Aa n ca st w3
        clear hb3
        go_wp2_with fail
        refine (remove_any a w3 p mb V F s HA3.out HA.out.1 HA.out.2 HU.out.2).mono ?_
        rintro e w4 ⟨rfl, ha4, hk4, hs4, ho4⟩
        have HF4 : Hid (Frm F F w w4) := Lib.hid ⟨ho4.1.trans HB3.out.os, ho4.2.1.trans HB3.out.tape, ho4.2.2.trans HB3.out.output, by rw [hs4]; exact HB3.out.size, fun k hk hF => (hk4 k (fun e => hF (e ▸ H.out.fp)) (fun e => hF (e ▸ H.out.fm))).trans (HB3.out.block k hk), fun k hk => .inl hk⟩
        have HA4 := Lib.hid ha4
        have HO4 : Hid (Own w4 0 (V a) x.b) := Lib.hid (own_under (HA3.out.own a x HX.out (by simp)) fun k hk => hk4 k (HA3.out.mine a x k HX.out hk).2.1 (HA3.out.mine a x k HX.out hk).2.2)
        clear ha4 hk4 hs4 ho4 k0 hask hfd
        go_wp2_with fail
        rw [← HVA.out]
        refine (write_any b x.b (V a) w4 p mb V F (rm s a) (HA4.out.weak b) HB.out.1 HB.out.2 HO4.out (fun k hk => (H.out.mine a x k HX.out hk).2) (fun u y hy _ => by
          have hy' : Sf.get (gone s.l a) u = some y := hy
          rw [get_gone] at hy'
          by_cases e : u = a
          · rw [if_pos e] at hy'
            cases hy'
          · rw [if_neg e] at hy'
            exact H.out.apart u a y x hy' HX.out e) HU.out.1 HUU.out).mono ?_
        rintro e w5 ⟨rfl, ha5, hk5, hs5, ho5⟩
        have HD : Hid (Done F p (wr (rm s a) b x.b) w w5) := Lib.hid (Done.wrote HF4.out ha5 H.out.fp H.out.fm hk5 hs5 ho5 fun k hk => .inl (H.out.mine a x k HX.out hk).1)
        clear ha5 hk5 hs5 ho5
        go_wp2
        go_ret2
        rw [HP.out]
        exact ⟨rfl, HD.out⟩
    · obtain ⟨q, hq⟩ : ∃ q, refuse s.l g [a, b] = q := ⟨_, rfl⟩
      have HP : Hid (Sf.move s a b g = (s, 0, q)) := Lib.hid (by unfold Sf.move; rw [if_neg hab, if_neg hr, hq])
      rw [hq] at HR hr
      have hqz : ((q : Int) == 0) = false := by simpa using hr
      clear hr hq hab
      go_enter Try.func56, Try.ntmps56
      go_wp2_with fail
      rw [← hww]
      refine HR.out.mono ?_
      rintro e w2 ⟨rfl, hb2⟩
      have HB2 := Lib.hid (HB1.out.trans (hb2.mono HB1.out.size))
      clear hb2
      go_wp2
      go_ret2
      rw [HP.out]
      exact ⟨rfl, Done.same H.out HB2.out⟩
/-- What is read. -/
def Sf.read (s : S) (t : List Nat) : List Nat × Nat × Nat := if Nm.file t then match Sf.get s.l t with | some x => (x.b, x.stamp, 0) | none => ([], 0, 4) else ([], 0, 1)
set_option maxHeartbeats 4000000 in
theorem fread_any (t : List Nat) (w : World) (p mb : Nat) (V : List Nat → Value) (F : Nat → Prop) (s : S) (h : At none w p mb V F s) (ht : Nice t) (hu : used s.l ≤ 1099511627776) :
    Calls Try.prog 13 #[.pointer (some ⟨p, 0, none⟩), .string (str t)] w fun e w' => ∃ v, e = .returned (.tuple #[v, .int .i64 (((Sf.read s t).2.1 : Nat) : Int), .int .i64 (((Sf.read s t).2.2 : Nat) : Int)]) ∧ Own w' w.heap.size v (Sf.read s t).1 ∧ Below w.heap.size w w' := by
  have hn1 := ownT_one w 0 t (Nat.zero_le _)
  obtain ⟨w1, hww⟩ : ∃ w1, w1 = w.alloc (.cells #[.string (str t)] 9) := ⟨_, rfl⟩
  rw [← hww] at hn1
  have hb1 : Below w.heap.size w w1 := by rw [hww]; exact (Below.refl _ _).alloc (Nat.le_refl _) _
  have HR := Lib.hid (refuse_any [] [t] (.slice none 0 0) _ w1 p mb V F s (h.under hb1) (rdG_none w1 0 none) hn1 (by simp) (by simpa using ht) (by simp))
  have HB1 := Lib.hid hb1
  have H := Lib.hid h
  have HT := Lib.hid ht
  have HU := Lib.hid hu
  clear hb1 h ht hn1 hu
  rcases hf : Nm.file t with _ | _
  · have HV : Hid (refuse s.l [] [t] = 1) := Lib.hid (by simp [Sf.refuse, hf])
    have HP : Hid (Sf.read s t = ([], 0, 1)) := Lib.hid (by simp [Sf.read, hf])
    clear hf
    go_enter Try.func13, Try.ntmps13
    go_wp2_with fail
    rw [← hww]
    refine HR.out.mono ?_
    rintro e w2 ⟨rfl, hb2⟩
    rw [HV.out]
    have HB2 := Lib.hid (HB1.out.trans (hb2.mono HB1.out.size))
    clear hb2
    go_wp2
    go_ret3
    rw [HP.out]
    exact ⟨_, rfl, own_none _ _, HB2.out⟩
  · have HV : Hid (refuse s.l [] [t] = 0) := Lib.hid (by simp [Sf.refuse, Sf.guards, hf])
    rcases hq : Sf.get s.l t with _ | x
    · have HP : Hid (Sf.read s t = ([], 0, 4)) := Lib.hid (by unfold Sf.read; rw [if_pos hf, hq])
      have HQ : Hid ((Sf.get s.l t).isSome = false) := Lib.hid (by rw [hq]; rfl)
      clear hf hq
      go_enter Try.func13, Try.ntmps13
      go_wp2_with fail
      rw [← hww]
      refine HR.out.mono ?_
      rintro e w2 ⟨rfl, hb2⟩
      rw [HV.out]
      have HB2 := Lib.hid (HB1.out.trans (hb2.mono HB1.out.size))
      clear hb2
      go_wp2_with fail
      refine (there_any t w2 p mb V F s (H.out.under HB2.out) HT.out.1 HT.out.2).mono ?_
      rintro e w3 ⟨rfl, hb3⟩
      rw [HQ.out]
      have HB3 := Lib.hid (HB2.out.trans (hb3.mono HB2.out.size))
      clear hb3
      go_wp2
      go_ret3
      rw [HP.out]
      exact ⟨_, rfl, own_none _ _, HB3.out⟩
    · have HP : Hid (Sf.read s t = (x.b, x.stamp, 0)) := Lib.hid (by unfold Sf.read; rw [if_pos hf, hq])
      have HX := Lib.hid hq
      have HQ : Hid ((Sf.get s.l t).isSome = true) := Lib.hid (by rw [hq]; rfl)
      have HVV : Hid (val V s.l t = V t) := Lib.hid (by unfold val; rw [hq])
      have HUU : Hid (x.b.length ≤ 1099511627776) := Lib.hid (by have := bytes_le H.out.good.1 t; rw [get_bytes hq] at this; have := HU.out; omega)
      obtain ⟨Aa, ca, hva⟩ := H.out.sl t x hq
      obtain ⟨n, hn⟩ : ∃ n, x.b.length = n := ⟨_, rfl⟩
      obtain ⟨st, hst⟩ : ∃ st, stamp s.l t = st := ⟨_, rfl⟩
      have HSX : Hid (x.stamp = st) := Lib.hid (by rw [← hst]; unfold stamp; rw [hq]; rfl)
      rw [hn] at hva
      have HVA := Lib.hid hva
      have HST := Lib.hid hst
      clear hf hq hn hva hst
      go_enter Try.func13, Try.ntmps13
      go_wp2_with fail
      rw [← hww]
      refine HR.out.mono ?_
      rintro e w2 ⟨rfl, hb2⟩
      rw [HV.out]
      have HB2 := Lib.hid (HB1.out.trans (hb2.mono HB1.out.size))
      clear hb2
      go_wp2_with fail
      refine (there_any t w2 p mb V F s (H.out.under HB2.out) HT.out.1 HT.out.2).mono ?_
      rintro e w3 ⟨rfl, hb3⟩
      rw [HQ.out]
      have HB3 := Lib.hid (HB2.out.trans (hb3.mono HB2.out.size))
      have HA3 := Lib.hid (H.out.under HB3.out)
      have k0 : w3.cell? ⟨p, 0, none⟩ = some (.map (some mb)) := HA3.out.blk.at 0
      have hask := HA3.out.ask HT.out.1 HT.out.2 Try.underlying56
      rw [HVV.out, HVA.out, HST.out] at hask
      unfold elem at hask
      clear hb3
      go_wp2_with fail
      obtain ⟨W4, hW4⟩ : ∃ W4, W4 = w3.alloc (.cells #[.slice Aa n ca, .int .i64 (st : Int)] 61) := ⟨_, rfl⟩
      have hb4 : Below w3.heap.size w3 W4 := by rw [hW4]; exact (Below.refl _ _).alloc (Nat.le_refl _) _
      have HB4 : Hid (Below w.heap.size w W4) := Lib.hid (HB3.out.trans (hb4.mono HB3.out.size))
      have c0 : W4.cell? ⟨w3.heap.size, 0, none⟩ = some (.slice Aa n ca) := by rw [hW4]; exact cell_of_row _ _ 0 _ _ _ (heap_alloc_new w3 _)
      have c1 : W4.cell? ⟨w3.heap.size, 1, none⟩ = some (.int .i64 (st : Int)) := by rw [hW4]; exact cell_of_row _ _ 1 _ _ _ (heap_alloc_new w3 _)
      have HC := Lib.hid (fun (b : List Nat) (hb : Bytes W4.drew (.slice Aa n ca) b) hm => sclone_any (.slice Aa n ca) b W4.drew hb hm)
      have HBY : Hid (Bytes W4.drew (.slice Aa n ca) x.b) := Lib.hid (by have := (HA3.out.own t x HX.out (by simp)).bytes; rw [HVA.out] at this; exact (this.under hb4).drew)
      rw [← hW4]
      clear hW4 hb4 k0 hask
      go_region_with (go_at_call 24; refine (HC.out x.b HBY.out HUU.out).mono ?_; rintro e w5 ⟨v5, rfl, ho5, hb5⟩; have HO5 := Lib.hid ho5; have HB5 := Lib.hid hb5; have d1 : w5.cell? ⟨w3.heap.size, 1, none⟩ = some (.int .i64 (st : Int)) := scell_later (w := W4.drew) hb5 c1; clear ho5 hb5)
      all_goals
        go_wp2
        go_ret3
        rw [HP.out]
        refine ⟨_, by rw [HSX.out]; rfl, HO5.out.more ?_, (sbelow_dr HB4.out).trans (HB5.out.mono HB4.out.size)⟩
        exact HB4.out.size
end Go.Proofs.Ytfheaognfocofaa

/- Files in memory: appending. -/
namespace Go.Proofs.Ytfheaognfocofaa
set_option maxRecDepth 100000
open Go.ChangeShapes Go.WideShapes Go.ChangeAt Go.RowKit Go.ChangeMaps
open Sf

/-- Behind an append onto a file's bytes. -/
theorem Bytes.grownIf {w w' : World} {row : Option Nat} {v : Value} {l : List Nat} (h : Bytes w v l) (hg : w.grownBy w' row) (hne : l ≠ [] → v.ownBlock = none ∨ v.ownBlock ≠ row) : Bytes w' v l := by
  by_cases e : l = []
  · subst e
    obtain ⟨h1, h2, A, c, rfl, _, _⟩ := h.parts
    exact ⟨h1, h2, .inl ⟨rfl, A, c, rfl⟩⟩
  · exact h.grown hg (hne e)
theorem Bytes.sameIf {w w' : World} {v : Value} {l : List Nat} (h : Bytes w v l) (hk : l ≠ [] → ∀ k, k < w.heap.size → v.ownBlock = some k → w'.heap[k]? = w.heap[k]?) : Bytes w' v l := by
  by_cases e : l = []
  · subst e
    obtain ⟨h1, h2, A, c, rfl, _, _⟩ := h.parts
    exact ⟨h1, h2, .inl ⟨rfl, A, c, rfl⟩⟩
  · exact h.same (hk e)
theorem at_grown {w w' : World} {p mb : Nat} {V : List Nat → Value} {F : Nat → Prop} {s : S} (h : At none w p mb V F s) (t : List Nat) (hg : w.grownBy w' (val V s.l t).ownBlock) : At (some t) w' p mb V F s := by
  have hk : ∀ k, k < w.heap.size → (val V s.l t).ownBlock ≠ some k → w'.heap[k]? = w.heap[k]? := fun k hk hne => hg.block k hk fun e => hne e.symm
  have hp : w'.heap[p]? = w.heap[p]? := hk p (h.lt p h.fp) fun e => (val_mine h t p e).2.1 rfl
  have hm : w'.heap[mb]? = w.heap[mb]? := hk mb (h.lt mb h.fm) fun e => (val_mine h t mb e).2.2 rfl
  refine ⟨hp.trans h.blk, h.map.same hm, h.fp, h.fm, h.ne, fun k hk => Nat.lt_of_lt_of_le (h.lt k hk) hg.size, fun u x hx hX => ?_, h.sl, h.mine, h.apart, h.good⟩
  have hne : u ≠ t := fun e => hX (by rw [e])
  have ho := h.own u x hx (by simp)
  refine own_under ho fun k hk' => hk k (ho.lt k hk').2 fun e => ?_
  rcases val_apart h t u x hx hne with h1 | h1
  · rw [h1] at hk'
    cases hk'
  · exact h1 (hk'.trans e.symm)
theorem frm_grown {w w' : World} {F : Nat → Prop} {row : Option Nat} (hg : w.grownBy w' row) (hr : ∀ k, row = some k → F k) : Frm F F w w' :=
  ⟨hg.os, hg.tape, hg.output, hg.size, fun k hk hF => hg.block k hk fun e => hF (hr k e.symm), fun _ h => .inl h⟩

set_option maxHeartbeats 4000000 in
theorem app_any (t b : List Nat) (g : List (List Nat × Int)) (vb vg : Value) (w : World) (p mb : Nat) (V : List Nat → Value) (F : Nat → Prop) (s : S) (h : At none w p mb V F s) (ht : Nice t) (hb : Bytes w vb b) (hg : RdG w vg g) (hg1 : ∀ x ∈ g, Nice x.1)
    (hbf : b ≠ [] → ∀ k, F k → vb.ownBlock ≠ some k) (hnx : s.next ≤ 1073741824) (hu : used s.l + b.length ≤ 274877906944) :
    Calls Try.prog 28 #[.pointer (some ⟨p, 0, none⟩), .string (str t), vb, vg] w fun e w' => e = .returned (.tuple #[.int .i64 (((app s t b g).2.1 : Nat) : Int), .int .i64 (((app s t b g).2.2 : Nat) : Int)]) ∧ Done F p (app s t b g).1 w w' := by
  obtain ⟨h1, h2, A, c, rfl, hc, hx⟩ := hb.parts
  have hn1 := ownT_one w 0 t (Nat.zero_le _)
  obtain ⟨w1, hww⟩ : ∃ w1, w1 = w.alloc (.cells #[.string (str t)] 9) := ⟨_, rfl⟩
  rw [← hww] at hn1
  have hb1 : Below w.heap.size w w1 := by rw [hww]; exact (Below.refl _ _).alloc (Nat.le_refl _) _
  have HR := Lib.hid (refuse_any g [t] vg _ w1 p mb V F s (h.under hb1) (hg.under hb1) hn1 hg1 (by simpa using ht) (by simp))
  have HB1 := Lib.hid hb1
  have H := Lib.hid h
  have HT := Lib.hid ht
  have HB := Lib.hid hb
  have HU := Lib.hid (And.intro hnx hu)
  have HBF := Lib.hid hbf
  obtain ⟨n, hn⟩ : ∃ n, b.length = n := ⟨_, rfl⟩
  rw [hn] at HB HBF hu hc ⊢
  have HN := Lib.hid hn
  clear h1 h2 hx hb1 h ht hb hn1 hn hnx hg hg1 hbf
  by_cases hr : refuse s.l g [t] = 0
  · have HV := Lib.hid hr
    clear hr
    obtain ⟨s1, hs1⟩ : ∃ s1, (Sf.part s b.length).1 = s1 := ⟨_, rfl⟩
    obtain ⟨k, hk⟩ : ∃ k, (Sf.part s b.length).2.1 = k := ⟨_, rfl⟩
    obtain ⟨ee, hee⟩ : ∃ ee, (Sf.part s b.length).2.2 = ee := ⟨_, rfl⟩
    have HP := Lib.hid (fun (W : World) (hW : At none W p mb V F s) => part_any b.length W p mb V F s hW (by have := HU.out.2; omega) (by have := HU.out.2; omega))
    have hsl : s1.l = s.l ∧ s1.next = s.next := by
      rw [← hs1]
      unfold Sf.part
      split
      · split <;> exact ⟨rfl, rfl⟩
      · exact ⟨rfl, rfl⟩
    have hkn : k ≤ n := by
      rw [← hk, ← HN.out]
      unfold Sf.part
      split
      · split
        · exact Nat.le_refl _
        · dsimp only; omega
      · dsimp only; omega
    have HAP : Hid (app s t b g = if ee = 0 then (wr s1 t (Sf.bytes s.l t ++ b), s.next + 1, 0) else if 0 < k then (wr s1 t (Sf.bytes s.l t ++ b.take k), 0, ee) else (s1, 0, ee)) := Lib.hid (by
      unfold app
      rw [if_pos HV.out, hs1, hk, hee])
    rw [hs1, hk, hee, HN.out] at HP
    clear hs1 hk hee
    have HSL := Lib.hid hsl
    have HEN : Hid (∀ W, At none W p mb V F s1 → (Instr.lookup 56 (.map (some mb)) (.string (str t)) false).run Try.prog W = .ok (elem (val V s1.l t) (stamp s1.l t)) W) := Lib.hid fun W hW => hW.ask HT.out.1 HT.out.2 Try.underlying56
    clear hsl
    by_cases he : ee = 0
    · have HAP2 : Hid (app s t b g = (wr s1 t (Sf.bytes s1.l t ++ b), s.next + 1, 0)) := Lib.hid (by rw [HAP.out, if_pos he, HSL.out.1])
      subst he
      clear HAP hkn
      have HAP := HAP2
      go_enter Try.func28, Try.ntmps28
      go_wp2_with fail
      rw [← hww]
      refine HR.out.mono ?_
      rintro e w2 ⟨rfl, hb2⟩
      rw [HV.out]
      have HB2 := Lib.hid (HB1.out.trans (hb2.mono HB1.out.size))
      clear hb2
      go_wp2_with fail
      refine (HP.out w2 (H.out.under HB2.out)).mono ?_
      rintro e w3 ⟨rfl, ha3, hg3⟩
      have HA3 := Lib.hid ha3
      have HF3 : Hid (Frm F F w w3) := Lib.hid ((Frm.under HB2.out).trans (frm_grown hg3 fun k hk => by injection hk with hk; rw [← hk]; exact H.out.fp))
      have HBY3 : Hid (Bytes w3 (.slice A n c) b) := Lib.hid ((HB.out.under HB2.out).grownIf hg3 fun h0 => .inr (HBF.out h0 p H.out.fp))
      clear ha3 hg3
      obtain ⟨A2, c2, hv2⟩ := HA3.out.valSl t
      obtain ⟨m, hm⟩ : ∃ m, (Sf.bytes s1.l t).length = m := ⟨_, rfl⟩
      have HM : Hid (m ≤ used s.l) := Lib.hid (by rw [← hm, HSL.out.1]; exact bytes_le H.out.good.1 t)
      rw [hm] at hv2
      obtain ⟨st, hst⟩ : ∃ st, stamp s1.l t = st := ⟨_, rfl⟩
      have HVO : Hid (Own w3 0 (.slice A2 m c2) (Sf.bytes s1.l t)) := Lib.hid (by have := HA3.out.valOwn t; rw [hv2] at this; exact this)
      have HM0 := Lib.hid hm
      have HV2 := Lib.hid hv2
      clear hm
      have k0 : w3.cell? ⟨p, 0, none⟩ = some (.map (some mb)) := HA3.out.blk.at 0
      have hask := HEN.out w3 HA3.out
      rw [hv2, hst] at hask
      unfold elem at hask
      have hfd := field0 A2 m c2 st w3
      clear hv2 hst
      go_wp2_with (first
        | (at_builtin; refine wpList_append_bytes rfl _ _ rfl 0 (.slice A2 m c2) (.slice A n c) (Sf.bytes s1.l t) b rfl HVO.out rfl HBY3.out (by rw [HM0.out, HN.out]; have := HM.out; have := HU.out.2; omega) (Nat.zero_le _) _ rfl ?_; intro v4 w4 hgr)
        | fail)
      obtain ⟨WX, hWX⟩ : ∃ WX, WX = w3 := ⟨_, rfl⟩
      rw [← hWX] at hgr HA3 HF3
      have HAX := HA3
      have HFX := HF3
      obtain ⟨BB, hBB⟩ : ∃ BB, Sf.bytes s1.l t ++ b = BB := ⟨_, rfl⟩
      have HBB := Lib.hid hBB
      rw [hBB] at hgr HAP
      clear hBB hWX
      · have HLA : Hid (v4.ownBlock = (val V s1.l t).ownBlock ∨ v4.ownBlock = some WX.heap.size) := Lib.hid (by rw [HV2.out]; exact hgr.2.2.1)
        have HG4 : Hid (WX.grownBy w4 (val V s1.l t).ownBlock) := Lib.hid (by rw [HV2.out]; exact hgr.2.1)
        have HO4 := Lib.hid hgr.1
        clear hgr
        have HA4 := Lib.hid (at_grown HAX.out t HG4.out)
        go_wp2_with fail
        refine (write_any t BB v4 w4 p mb V F s1 HA4.out HT.out.1 HT.out.2 HO4.out (fun j hj => by
          rcases HLA.out with e | e
          · exact (val_mine HAX.out t j (e ▸ hj)).2
          · rw [e] at hj
            injection hj with hj
            have h2 := HAX.out.lt p H.out.fp
            have h3 := HAX.out.lt mb H.out.fm
            omega) (fun u x hx hne => by
          rcases HLA.out with e | e
          · rw [e]
            exact val_apart HAX.out t u x hx hne
          · rw [e]
            rcases hv : (V u).ownBlock with _ | j
            · exact .inl rfl
            · refine .inr fun e' => ?_
              injection e' with e'
              have h2 := HAX.out.lt j (HAX.out.mine u x j hx hv).1
              omega) (by rw [HSL.out.2]; exact HU.out.1) (by
          rw [HSL.out.1]
          have := HU.out.2
          rw [← HBB.out, List.length_append, HM0.out]
          have h9 := HM.out
          omega)).mono ?_
        rintro e w5 ⟨rfl, ha5, hk5, hs5, ho5⟩
        have HD : Hid (Done F p (wr s1 t BB) w w5) := Lib.hid (Done.wrote (HFX.out.trans (frm_grown HG4.out fun j hj => (val_mine HAX.out t j hj).1)) ha5 H.out.fp H.out.fm hk5 hs5 ho5 fun j hj => by
          rcases HLA.out with e | e
          · exact .inl (val_mine HAX.out t j (e ▸ hj)).1
          · rw [e] at hj
            injection hj with hj
            exact .inr (by rw [← hj]; exact HFX.out.size))
        clear ha5 hk5 hs5 ho5
        go_wp2
        go_ret2
        rw [HAP.out]
        exact ⟨by rw [HSL.out.2]; rfl, HD.out⟩
    · by_cases hk0 : 0 < k
      · have HAP2 : Hid (app s t b g = (wr s1 t (Sf.bytes s1.l t ++ b.take k), 0, ee)) := Lib.hid (by rw [HAP.out, if_neg he, if_pos hk0, HSL.out.1])
        have hez : ((ee : Int) == 0) = false := by simpa using he
        have hkd : decide (0 < k) = true := decide_eq_true hk0
        clear he HAP
        have HAP := HAP2
        go_enter Try.func28, Try.ntmps28
        go_wp2_with fail
        rw [← hww]
        refine HR.out.mono ?_
        rintro e w2 ⟨rfl, hb2⟩
        rw [HV.out]
        have HB2 := Lib.hid (HB1.out.trans (hb2.mono HB1.out.size))
        clear hb2
        go_wp2_with fail
        refine (HP.out w2 (H.out.under HB2.out)).mono ?_
        rintro e w3 ⟨rfl, ha3, hg3⟩
        have HA3 := Lib.hid ha3
        have HF3 : Hid (Frm F F w w3) := Lib.hid ((Frm.under HB2.out).trans (frm_grown hg3 fun k hk => by injection hk with hk; rw [← hk]; exact H.out.fp))
        have HBY3 : Hid (Bytes w3 (.slice A n c) b) := Lib.hid ((HB.out.under HB2.out).grownIf hg3 fun h0 => .inr (HBF.out h0 p H.out.fp))
        clear ha3 hg3
        obtain ⟨A2, c2, hv2⟩ := HA3.out.valSl t
        obtain ⟨m, hm⟩ : ∃ m, (Sf.bytes s1.l t).length = m := ⟨_, rfl⟩
        have HM : Hid (m ≤ used s.l) := Lib.hid (by rw [← hm, HSL.out.1]; exact bytes_le H.out.good.1 t)
        rw [hm] at hv2
        obtain ⟨st, hst⟩ : ∃ st, stamp s1.l t = st := ⟨_, rfl⟩
        have HVO : Hid (Own w3 0 (.slice A2 m c2) (Sf.bytes s1.l t)) := Lib.hid (by have := HA3.out.valOwn t; rw [hv2] at this; exact this)
        have HM0 := Lib.hid hm
        have HV2 := Lib.hid hv2
        clear hm
        have k0 : w3.cell? ⟨p, 0, none⟩ = some (.map (some mb)) := HA3.out.blk.at 0
        have hask := HEN.out w3.drew HA3.out.drew
        rw [hv2, hst] at hask
        unfold elem at hask
        have hfd := field0 A2 m c2 st w3.drew
        have hk1 : (0 : Int) ≤ (k : Int) := by omega
        have hk2 : (k : Int) ≤ (n : Int) := by omega
        have hk3 : (n : Int) ≤ (c : Int) := by omega
        have hk4 : (k : Int) ≤ (c : Int) := by omega
        clear hv2 hst
        go_wp2_with fail
        obtain ⟨WX, hWX⟩ : ∃ WX, WX = w3.drew := ⟨_, rfl⟩
        have HAX : Hid (At none WX p mb V F s1) := Lib.hid (by rw [hWX]; exact HA3.out.drew)
        have HFX : Hid (Frm F F w WX) := Lib.hid (by rw [hWX]; exact ⟨HF3.out.os, HF3.out.tape, HF3.out.output, HF3.out.size, HF3.out.block, HF3.out.more⟩)
        have HVX : Hid (Own w3.drew 0 (.slice A2 m c2) (Sf.bytes s1.l t)) := Lib.hid (own_under HVO.out fun _ _ => rfl)
        have HBX : Hid (Bytes w3.drew (.slice A k c) (b.take k)) := Lib.hid ((HBY3.out.head (by omega) (by omega)).drew)
        have HWX := Lib.hid hWX
        obtain ⟨BB, hBB⟩ : ∃ BB, Sf.bytes s1.l t ++ b.take k = BB := ⟨_, rfl⟩
        have HBB := Lib.hid hBB
        rw [hBB] at HAP
        have HLEN : Hid ((Sf.bytes s1.l t).length + (b.take k).length ≤ 70368744177664) := Lib.hid (by rw [HM0.out, List.length_take]; have := HM.out; have := HU.out.2; omega)
        have HFIN : Hid (∀ v4 w4, Grew 0 (.slice A2 m c2) BB w3.drew v4 w4 → Own w4 0 v4 BB ∧ At (some t) w4 p mb V F s1 ∧ (∀ j, v4.ownBlock = some j → j ≠ p ∧ j ≠ mb) ∧ (∀ u x, Sf.get s1.l u = some x → u ≠ t → (V u).ownBlock = none ∨ (V u).ownBlock ≠ v4.ownBlock) ∧ Frm F F w w4 ∧ ∀ j, v4.ownBlock = some j → F j ∨ w.heap.size ≤ j) := Lib.hid (by
          intro v4 w4 hgr
          rw [← HWX.out] at hgr
          have hla : v4.ownBlock = (val V s1.l t).ownBlock ∨ v4.ownBlock = some WX.heap.size := by rw [HV2.out]; exact hgr.2.2.1
          have hg4 : WX.grownBy w4 (val V s1.l t).ownBlock := by rw [HV2.out]; exact hgr.2.1
          refine ⟨hgr.1, at_grown HAX.out t hg4, fun j hj => ?_, fun u x hx hne => ?_, HFX.out.trans (frm_grown hg4 fun j hj => (val_mine HAX.out t j hj).1), fun j hj => ?_⟩
          · rcases hla with e | e
            · exact (val_mine HAX.out t j (e ▸ hj)).2
            · rw [e] at hj
              injection hj with hj
              have h2 := HAX.out.lt p H.out.fp
              have h3 := HAX.out.lt mb H.out.fm
              omega
          · rcases hla with e | e
            · rw [e]
              exact val_apart HAX.out t u x hx hne
            · rw [e]
              rcases hv : (V u).ownBlock with _ | j
              · exact .inl rfl
              · refine .inr fun e' => ?_
                injection e' with e'
                have h2 := HAX.out.lt j (HAX.out.mine u x j hx hv).1
                omega
          · rcases hla with e | e
            · exact .inl (val_mine HAX.out t j (e ▸ hj)).1
            · rw [e] at hj
              injection hj with hj
              exact .inr (by rw [← hj]; exact HFX.out.size))
        have HUB : Hid (s1.next ≤ 1073741824 ∧ used s1.l + BB.length ≤ 1099511627776) := Lib.hid (by
          rw [HSL.out.2, HSL.out.1, ← HBB.out, List.length_append, List.length_take, HM0.out]
          have h9 := HM.out
          have := HU.out
          omega)
        clear hBB hWX
        go_region_law (first
          | (refine step_append_bytes rfl (.tmp 52) (.tmp 55) rfl 0 (.slice A2 m c2) (.slice A k c) (Sf.bytes s1.l t) (b.take k) rfl HVX.out rfl HBX.out HLEN.out (Nat.zero_le _) BB HBB.out ?_; intro v4 w4 hgr; have HGR := Lib.hid (HFIN.out v4 w4 hgr); clear hgr)
          | (go_simp; go_at_call 23; refine (write_any t BB v4 w4 p mb V F s1 HGR.out.2.1 HT.out.1 HT.out.2 HGR.out.1 HGR.out.2.2.1 HGR.out.2.2.2.1 HUB.out.1 HUB.out.2).mono ?_; rintro e w5 ⟨rfl, ha5, hk5, hs5, ho5⟩; have HD := Lib.hid (Done.wrote HGR.out.2.2.2.2.1 ha5 H.out.fp H.out.fm hk5 hs5 ho5 HGR.out.2.2.2.2.2); clear ha5 hk5 hs5 ho5))
        all_goals
          go_wp2
          go_ret2
          rw [HAP.out]
          exact ⟨rfl, HD.out⟩
      · have HAP2 : Hid (app s t b g = (s1, 0, ee)) := Lib.hid (by rw [HAP.out, if_neg he, if_neg hk0])
        have hez : ((ee : Int) == 0) = false := by simpa using he
        have hkz : k = 0 := by omega
        subst hkz
        clear he HAP hk0 hkn
        have HAP := HAP2
        go_enter Try.func28, Try.ntmps28
        go_wp2_with fail
        rw [← hww]
        refine HR.out.mono ?_
        rintro e w2 ⟨rfl, hb2⟩
        rw [HV.out]
        have HB2 := Lib.hid (HB1.out.trans (hb2.mono HB1.out.size))
        clear hb2
        go_wp2_with fail
        refine (HP.out w2 (H.out.under HB2.out)).mono ?_
        rintro e w3 ⟨rfl, ha3, hg3⟩
        have HA3 := Lib.hid ha3
        have HF3 : Hid (Frm F F w w3) := Lib.hid ((Frm.under HB2.out).trans (frm_grown hg3 fun k hk => by injection hk with hk; rw [← hk]; exact H.out.fp))
        have HBY3 : Hid (Bytes w3 (.slice A n c) b) := Lib.hid ((HB.out.under HB2.out).grownIf hg3 fun h0 => .inr (HBF.out h0 p H.out.fp))
        clear ha3 hg3
        go_wp2
        go_ret2
        rw [HAP.out]
        exact ⟨rfl, F, ⟨mb, V, HA3.out⟩, HF3.out⟩
  · obtain ⟨q, hq⟩ : ∃ q, refuse s.l g [t] = q := ⟨_, rfl⟩
    have HAP : Hid (app s t b g = (s, 0, q)) := Lib.hid (by unfold app; rw [if_neg hr, hq])
    rw [hq] at HR hr
    have hqz : ((q : Int) == 0) = false := by simpa using hr
    clear hr hq
    go_enter Try.func28, Try.ntmps28
    go_wp2_with fail
    rw [← hww]
    refine HR.out.mono ?_
    rintro e w2 ⟨rfl, hb2⟩
    have HB2 := Lib.hid (HB1.out.trans (hb2.mono HB1.out.size))
    clear hb2
    go_wp2
    go_ret2
    rw [HAP.out]
    exact ⟨rfl, Done.same H.out HB2.out⟩
end Go.Proofs.Ytfheaognfocofaa
