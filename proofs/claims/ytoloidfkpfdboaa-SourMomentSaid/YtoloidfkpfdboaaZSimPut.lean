/- Files in memory: put and make. -/
import Derived.Test.YtoloidfkpfdboaaZSimRefuse
namespace Go.Proofs.Ytoloidfkpfdboaa
set_option maxRecDepth 100000
open Go.ChangeShapes Go.WideShapes Go.ChangeAt Go.RowKit Go.ChangeMaps
open Sf

/-- What a call on files leaves. -/
def Files (w : World) (p : Nat) (F : Nat → Prop) (s : S) : Prop := ∃ mb V, At none w p mb V F s
def Done (F : Nat → Prop) (p : Nat) (s : S) (w w' : World) : Prop := ∃ F', Files w' p F' s ∧ Frm F F' w w'
theorem Done.same {w w' : World} {p mb : Nat} {V : List Nat → Value} {F : Nat → Prop} {s : S} (h : At none w p mb V F s) (hb : Below w.heap.size w w') : Done F p s w w' := ⟨F, ⟨mb, V, h.under hb⟩, Frm.under hb⟩
theorem Done.before {w w1 w' : World} {p : Nat} {F : Nat → Prop} {s : S} (hb : Below w.heap.size w w1) (h : Done F p s w1 w') : Done F p s w w' := by
  obtain ⟨F', h1, h2⟩ := h
  exact ⟨F', h1, (Frm.under hb).trans h2⟩
/-- Behind a file's writing: the bytes are in a row that is new, or was that file's own. -/
theorem Done.wrote {w w1 w2 : World} {p mb : Nat} {V' : List Nat → Value} {F : Nat → Prop} {s' : S} {vb : Value} (h : Frm F F w w1) (ha : At none w2 p mb V' (fun k => F k ∨ vb.ownBlock = some k) s') (hp : F p) (hm : F mb)
    (hk : ∀ k, k ≠ p → k ≠ mb → w2.heap[k]? = w1.heap[k]?) (hs : w2.heap.size = w1.heap.size) (ho : w2.os = w1.os ∧ w2.tape = w1.tape ∧ w2.output = w1.output) (hv : ∀ k, vb.ownBlock = some k → F k ∨ w.heap.size ≤ k) : Done F p s' w w2 :=
  ⟨_, ⟨mb, V', ha⟩, ho.1.trans h.os, ho.2.1.trans h.tape, ho.2.2.trans h.output, by rw [hs]; exact h.size, fun k hk' hF => (hk k (fun e => hF (e ▸ hp)) (fun e => hF (e ▸ hm))).trans (h.block k hk' hF), fun k hk => hk.elim .inl (hv k)⟩

set_option maxHeartbeats 4000000 in
theorem simput_any (t b : List Nat) (vb : Value) (w : World) (p mb : Nat) (V : List Nat → Value) (F : Nat → Prop) (s : S) (h : At none w p mb V F s) (ht : Nice t) (hb : Bytes w vb b) (hnx : s.next ≤ 1073741824) (hu : used s.l + b.length ≤ 1099511627776) :
    Calls Try.prog 8 #[.pointer (some ⟨p, 0, none⟩), .string (str t), vb] w fun e w' => e = .returned (.tuple #[.int .i64 (((putS s t b).2.1 : Nat) : Int), .int .i64 (((putS s t b).2.2 : Nat) : Int)]) ∧ Done F p (putS s t b).1 w w' := by
  obtain ⟨h1, h2, A, c, rfl, hc, hx⟩ := hb.parts
  have hn1 := ownT_one w 0 t (Nat.zero_le _)
  obtain ⟨w1, hww⟩ : ∃ w1, w1 = w.alloc (.cells #[.string (str t)] 9) := ⟨_, rfl⟩
  rw [← hww] at hn1
  have hb1 : Below w.heap.size w w1 := by rw [hww]; exact (Below.refl _ _).alloc (Nat.le_refl _) _
  have HR := Lib.hid (refuse_any [] [t] (.slice none 0 0) _ w1 p mb V F s (h.under hb1) (rdG_none w1 0 none) hn1 (by simp) (by simpa using ht) (by simp))
  have HB1 := Lib.hid hb1
  have H := Lib.hid h
  have HT := Lib.hid ht
  have HB := Lib.hid hb
  have HU := Lib.hid (And.intro hnx hu)
  have h4 := h.good.2.2.1
  have h5 := h.good.2.2.2.1
  obtain ⟨n, hn⟩ : ∃ n, b.length = n := ⟨_, rfl⟩
  rw [hn] at HB hu ⊢
  have HN := Lib.hid hn
  clear h1 h2 hc hx hb1 h ht hb hn1 hn hnx
  rcases hf : Nm.file t with _ | _
  · have HV : Hid (refuse s.l [] [t] = 1) := Lib.hid (by simp [Sf.refuse, hf])
    have HP : Hid (putS s t b = (s, 0, 1)) := Lib.hid (by simp [putS, hf])
    clear hf
    go_enter Try.func8, Try.ntmps8
    go_wp2_with fail
    rw [← hww]
    refine HR.out.mono ?_
    rintro e w2 ⟨rfl, hb2⟩
    rw [HV.out]
    have HB2 := Lib.hid (HB1.out.trans (hb2.mono HB1.out.size))
    go_wp2
    go_ret2
    rw [HP.out]
    exact ⟨rfl, Done.same H.out HB2.out⟩
  · have HV : Hid (refuse s.l [] [t] = 0) := Lib.hid (by simp [Sf.refuse, Sf.guards, hf])
    have HF := Lib.hid hf
    clear hf
    obtain ⟨us, hus⟩ : ∃ us, used s.l = us := ⟨_, rfl⟩
    obtain ⟨m, hm⟩ : ∃ m, (Sf.bytes s.l t).length = m := ⟨_, rfl⟩
    obtain ⟨r, hr⟩ : ∃ r, s.room = r := ⟨_, rfl⟩
    obtain ⟨A1, c1, hv1⟩ := H.out.valSl t
    obtain ⟨st, hst⟩ : ∃ st, stamp s.l t = st := ⟨_, rfl⟩
    rw [hm] at hv1
    have hmu : m ≤ us := by rw [← hm, ← hus]; exact bytes_le H.out.good.1 t
    rw [hus] at hu
    rw [hr] at h4 h5
    have HASK : Hid (∀ W, At none W p mb V F s → (Instr.lookup 49 (.map (some mb)) (.string (str t)) false).run Try.prog W = .ok (.agg #[.slice A1 m c1, .int .i64 (st : Int)]) W) := Lib.hid fun W hW => by
      have := hW.ask HT.out.1 HT.out.2 Try.underlying49
      rw [hv1, hst] at this
      exact this
    have HFIT : Hid (fits s t b.length = (decide (n ≤ m) || decide ((us : Int) + ((n : Int) - (m : Int)) ≤ r))) := Lib.hid (by unfold fits; rw [HN.out, hm, hus, hr])
    have HK : Hid (∀ W, At none W p mb V F s → W.cell? ⟨p, 0, none⟩ = some (.map (some mb)) ∧ W.cell? ⟨p, 2, none⟩ = some (.int .i64 (us : Int)) ∧ W.cell? ⟨p, 1, none⟩ = some (.int .i64 r)) := Lib.hid fun W hW => ⟨hW.blk.at 0, by rw [← hus]; exact hW.blk.at 2, by rw [← hr]; exact hW.blk.at 1⟩
    clear hus hm hr hv1 hst
    by_cases hfit : n ≤ m ∨ (us : Int) + ((n : Int) - (m : Int)) ≤ r
    · have HP : Hid (putS s t b = (wr s t b, s.next + 1, 0)) := Lib.hid (by
        have : fits s t b.length = true := by rw [HFIT.out]; simp; omega
        simp [putS, HF.out, this])
      have hcs : (n : Int) - (m : Int) ≤ 0 ∨ (0 < (n : Int) - (m : Int) ∧ (us : Int) + ((n : Int) - (m : Int)) ≤ r) := by omega
      clear hfit
      have hw1 : IntKind.i64.wrap ((n : Int) - (m : Int)) = (n : Int) - (m : Int) := by rw [IntKind.wrap_i64]; omega
      have hw2 : IntKind.i64.wrap ((us : Int) + ((n : Int) - (m : Int))) = (us : Int) + ((n : Int) - (m : Int)) := by rw [IntKind.wrap_i64]; omega
      rcases hcs with q1 | ⟨q1, q2⟩
      · have hd : decide (m < n) = false := decide_eq_false (by omega)
        clear q1
        go_enter Try.func8, Try.ntmps8
        go_wp2_with fail
        rw [← hww]
        refine HR.out.mono ?_
        rintro e w2 ⟨rfl, hb2⟩
        rw [HV.out]
        have HB2 := Lib.hid (HB1.out.trans (hb2.mono HB1.out.size))
        have HA2 := Lib.hid (H.out.under HB2.out)
        obtain ⟨k0, k2, k1⟩ := HK.out w2 HA2.out
        have hask := HASK.out w2 HA2.out
        have hfd := field0 A1 m c1 st w2
        clear hb2
        go_wp2_with fail
        go_quiet (fail)
        go_wp2_with fail
        generalize hwd : World.drewN w2 _ = wd
        have HBD : Hid (Below w.heap.size w wd) := Lib.hid (by rw [← hwd]; exact HB2.out.trans ((sbelow_drewN w2 _).mono HB2.out.size))
        clear hwd
        refine (sclone_any _ b wd (HB.out.under HBD.out) (by have := HU.out.2; omega)).mono ?_
        rintro e w3 ⟨v3, rfl, ho3, hb3⟩
        have HB3 := Lib.hid (HBD.out.trans (hb3.mono HBD.out.size))
        have HO3 := Lib.hid ho3
        have HLT : Hid (∀ k, v3.ownBlock = some k → w.heap.size ≤ k) := Lib.hid fun k hk => Nat.le_trans HBD.out.size (ho3.lt k hk).1
        clear hb3 ho3
        go_wp2_with fail
        refine (write_any t b v3 w3 p mb V F s ((H.out.under HB3.out).weak t) HT.out.1 HT.out.2 (HO3.out.more (Nat.zero_le _)) (fun k hk => by have h1 := HLT.out k hk; have h2 := H.out.lt p H.out.fp; have h3 := H.out.lt mb H.out.fm; omega)
          (fun u x hx _ => by
            rcases hv : (V u).ownBlock with _ | k
            · exact .inl rfl
            · refine .inr fun e => ?_
              have h1 := HLT.out k e.symm
              have h2 := H.out.lt k (H.out.mine u x k hx hv).1
              omega) HU.out.1 HU.out.2).mono ?_
        rintro e w4 ⟨rfl, ha4, hk4, hs4, ho4⟩
        have HD : Hid (Done F p (wr s t b) w w4) := Lib.hid (Done.wrote (Frm.under HB3.out) ha4 H.out.fp H.out.fm hk4 hs4 ho4 fun k hk => .inr (HLT.out k hk))
        clear ha4 hk4 hs4 ho4
        go_wp2
        go_ret2
        rw [HP.out]
        exact ⟨rfl, HD.out⟩
      · have hd : decide (m < n) = true := decide_eq_true (by omega)
        have hd2 : decide (r < (us : Int) + ((n : Int) - (m : Int))) = false := decide_eq_false (by omega)
        clear q1 q2
        go_enter Try.func8, Try.ntmps8
        go_wp2_with fail
        rw [← hww]
        refine HR.out.mono ?_
        rintro e w2 ⟨rfl, hb2⟩
        rw [HV.out]
        have HB2 := Lib.hid (HB1.out.trans (hb2.mono HB1.out.size))
        have HA2 := Lib.hid (H.out.under HB2.out)
        obtain ⟨k0, k2, k1⟩ := HK.out w2 HA2.out
        have hask := HASK.out w2 HA2.out
        have hfd := field0 A1 m c1 st w2
        clear hb2
        go_wp2_with fail
        go_quiet (fail)
        go_wp2_with fail
        generalize hwd : World.drewN w2 _ = wd
        have HBD : Hid (Below w.heap.size w wd) := Lib.hid (by rw [← hwd]; exact HB2.out.trans ((sbelow_drewN w2 _).mono HB2.out.size))
        clear hwd
        refine (sclone_any _ b wd (HB.out.under HBD.out) (by have := HU.out.2; omega)).mono ?_
        rintro e w3 ⟨v3, rfl, ho3, hb3⟩
        have HB3 := Lib.hid (HBD.out.trans (hb3.mono HBD.out.size))
        have HO3 := Lib.hid ho3
        have HLT : Hid (∀ k, v3.ownBlock = some k → w.heap.size ≤ k) := Lib.hid fun k hk => Nat.le_trans HBD.out.size (ho3.lt k hk).1
        clear hb3 ho3
        go_wp2_with fail
        refine (write_any t b v3 w3 p mb V F s ((H.out.under HB3.out).weak t) HT.out.1 HT.out.2 (HO3.out.more (Nat.zero_le _)) (fun k hk => by have h1 := HLT.out k hk; have h2 := H.out.lt p H.out.fp; have h3 := H.out.lt mb H.out.fm; omega)
          (fun u x hx _ => by
            rcases hv : (V u).ownBlock with _ | k
            · exact .inl rfl
            · refine .inr fun e => ?_
              have h1 := HLT.out k e.symm
              have h2 := H.out.lt k (H.out.mine u x k hx hv).1
              omega) HU.out.1 HU.out.2).mono ?_
        rintro e w4 ⟨rfl, ha4, hk4, hs4, ho4⟩
        have HD : Hid (Done F p (wr s t b) w w4) := Lib.hid (Done.wrote (Frm.under HB3.out) ha4 H.out.fp H.out.fm hk4 hs4 ho4 fun k hk => .inr (HLT.out k hk))
        clear ha4 hk4 hs4 ho4
        go_wp2
        go_ret2
        rw [HP.out]
        exact ⟨rfl, HD.out⟩
    · have HP : Hid (putS s t b = (s, 0, 2)) := Lib.hid (by
        have : fits s t b.length = false := by rw [HFIT.out]; simp; omega
        simp [putS, HF.out, this])
      have hd : decide (m < n) = true := decide_eq_true (by omega)
      have hd2 : decide (r < (us : Int) + ((n : Int) - (m : Int))) = true := decide_eq_true (by omega)
      clear hfit
      go_enter Try.func8, Try.ntmps8
      go_wp2_with fail
      rw [← hww]
      refine HR.out.mono ?_
      rintro e w2 ⟨rfl, hb2⟩
      rw [HV.out]
      have HB2 := Lib.hid (HB1.out.trans (hb2.mono HB1.out.size))
      have HA2 := Lib.hid (H.out.under HB2.out)
      obtain ⟨k0, k2, k1⟩ := HK.out w2 HA2.out
      have hask := HASK.out w2 HA2.out
      have hfd := field0 A1 m c1 st w2
      clear hb2
      have hw1 : IntKind.i64.wrap ((n : Int) - (m : Int)) = (n : Int) - (m : Int) := by rw [IntKind.wrap_i64]; omega
      have hw2 : IntKind.i64.wrap ((us : Int) + ((n : Int) - (m : Int))) = (us : Int) + ((n : Int) - (m : Int)) := by rw [IntKind.wrap_i64]; omega
      go_wp2_with fail
      go_quiet (fail)
      go_wp2
      go_ret2
      rw [HP.out]
      exact ⟨rfl, Done.same H.out (HB2.out.trans ((sbelow_drewN w2 _).mono HB2.out.size))⟩
end Go.Proofs.Ytoloidfkpfdboaa
