/- What package reco answers: a commit of bytes. -/
import Derived.Test.YtfheaognfocofaaZReco
import Derived.Test.YtfheaognfocofaaZ04
import Derived.Deep.CutBlock
import Derived.Deep.DeepCutAuto
import Derived.Test.YtfheaognfocofaaZ01
namespace Go.Proofs.Ytfheaognfocofaa
set_option maxRecDepth 100000
open Go.ChangeShapes Go.WideShapes Go.ChangeAt Go.RowKit

/-- A commit that is opened, its print in a row of its own; or none. -/
def OpenDIs (R : Option Rc.D) (w : World) (e : Ending) (w' : World) : Prop :=
  Below w.heap.size w w' ∧ match R with
  | none => e = .returned (.tuple #[doneV ⟨#[]⟩ 0 0 (.slice none 0 0), .bool false])
  | some (t, p, who, inc) => ∃ x, e = .returned (.tuple #[doneV (str t) (who : Int) (inc : Int) x, .bool true]) ∧ Own w' w.heap.size x p
theorem openD_lt {t : List Nat} (h : Nm.ok t = true) : ∀ c ∈ t, c < 256 := by
  intro c hc
  simp only [Nm.ok, Bool.and_eq_true, List.all_eq_true] at h
  have := h.1.1 c hc
  simp [Nm.okc] at this
  omega

set_option maxRecDepth 100000 in
set_option maxHeartbeats 8000000 in
theorem ropenD_any (v : Value) (l : List Nat) (w : World) (h : Bytes w v l) (hl : l.length ≤ 1099511627776) (R : Option Rc.D) (hR : Rc.openD l = R) :
    Calls Try.prog 66 #[v] w (OpenDIs R w) := by
  have HR := Lib.hid hR
  have HBL := Lib.hid h.parts.1
  obtain ⟨_, _, A0, c0, rfl, _, _⟩ := h.parts
  obtain ⟨w0, hw0⟩ : ∃ w0, w.alloc (.cells #[.string ⟨#[]⟩, .int .i64 0, .int .i64 0, .slice none 0 0] 39) = w0 := ⟨_, rfl⟩
  obtain ⟨g0, hg0⟩ : ∃ g, w.heap.size = g := ⟨_, rfl⟩
  have HB0 : Hid (Below w.heap.size w w0) := Lib.hid (by rw [← hw0]; exact (Below.refl _ _).alloc (Nat.le_refl _) _)
  have HRW : Hid (Blk w0 g0 39 #[.string ⟨#[]⟩, .int .i64 0, .int .i64 0, .slice none 0 0]) := Lib.hid (by rw [← hw0, ← hg0]; exact heap_alloc_new w _)
  have HG0 : Hid (w.heap.size ≤ g0) := Lib.hid (by rw [hg0]; exact Nat.le_refl _)
  have HGW : Hid (g0 < w0.heap.size) := Lib.hid HRW.out.size
  obtain ⟨n, hn⟩ : ∃ n, l.length = n := ⟨_, rfl⟩
  have H : Hid (Bytes w0 (.slice A0 l.length c0) l) := Lib.hid (by rw [← hw0]; exact h.alloc _)
  rw [hn] at H hl ⊢
  have HN := Lib.hid hn
  clear h hn hR
  go_enter Try.func66, Try.ntmps66
  go_wp2_with fail
  clear hw0 hg0
  refine (read_any _ l w0 H.out (by rw [HN.out]; exact hl)).mono ?_
  rintro e w1 ⟨g, rfl, hg1, hg2, hr1, hb1⟩
  have HRD := Lib.hid hr1
  have HB1 := Lib.hid hb1
  have HG : Hid (w0.heap.size ≤ g ∧ g < w1.heap.size) := Lib.hid ⟨hg1, hg2⟩
  obtain ⟨s0, hs0⟩ : ∃ s, some l = s := ⟨_, rfl⟩
  obtain ⟨s1, hs1⟩ : ∃ s, Cd.bytesS s0 16 = s := ⟨_, rfl⟩
  obtain ⟨t, hlt⟩ : ∃ s, Cd.bytesL s0 16 = s := ⟨_, rfl⟩
  obtain ⟨s2, hs2⟩ : ∃ s, Cd.bytesS s1 4000 = s := ⟨_, rfl⟩
  obtain ⟨p, hlp⟩ : ∃ s, Cd.bytesL s1 4000 = s := ⟨_, rfl⟩
  obtain ⟨s3, hs3⟩ : ∃ s, Cd.numS s2 1099511627776 = s := ⟨_, rfl⟩
  obtain ⟨n0, hn0⟩ : ∃ s, Cd.numN s2 1099511627776 = s := ⟨_, rfl⟩
  obtain ⟨s4, hs4⟩ : ∃ s, Cd.numS s3 1099511627776 = s := ⟨_, rfl⟩
  obtain ⟨n1, hn1⟩ : ∃ s, Cd.numN s3 1099511627776 = s := ⟨_, rfl⟩
  obtain ⟨q, hq⟩ : ∃ q, Cd.endB s4 = q := ⟨_, rfl⟩
  obtain ⟨k, hk⟩ : ∃ q, Nm.ok t = q := ⟨_, rfl⟩
  have HR3 : Hid (R = if q && k then some (t, p, n0, n1) else none) := Lib.hid (by rw [← HR.out, Rc.openD, hs0, Rc.dp, Rc.d2, Rc.d1, Rc.dt, hs1, hlt, hs2, hlp, Rc.nn, Rc.nn, Rc.tt, Rc.tt, hs3, hs4, hn0, hn1, hq, hk])
  have HTB : Hid (∀ c ∈ t, c < 256) := Lib.hid (Rc.bytesL_lt (fun m hm => by rw [← hs0] at hm; injection hm with hm; rw [← hm]; exact HBL.out) hlt)
  have HTL : Hid (t.length ≤ 16 ∨ t.length ≤ 16) := Lib.hid (by
    left
    rw [← hlt]
    unfold Cd.bytesL
    split
    · rename_i h
      simp only [Cd.fitsB, Bool.and_eq_true] at h
      rw [List.length_take]
      have h2 := h.1
      rcases s0 with _ | m
      · rw [Cd.fits_none] at h2; cases h2
      · have h3 := (Cd.fits_some.1 h2).2
        have h4 : Cd.dec ((Cd.rest (some m)).take 6) ≤ 16 := by have : Cd.rest (some m) = m := rfl; rw [this]; omega
        omega
    · simp)
  rw [hs0] at HRD
  have C1 : Hid (∀ W, Rdr W w0.heap.size g g s0 → Calls Try.prog 72 #[.pointer (some ⟨g, 0, none⟩), .int .i64 16] W (SaidBytes w0.heap.size g g s1 t W)) := Lib.hid fun W h => rbytes_is _ _ g _ _ _ _ W h hs1 hlt
  have C2 : Hid (∀ W, Rdr W w0.heap.size g g s1 → Calls Try.prog 72 #[.pointer (some ⟨g, 0, none⟩), .int .i64 4000] W (SaidBytes w0.heap.size g g s2 p W)) := Lib.hid fun W h => rbytes_is _ _ g _ _ _ _ W h hs2 hlp
  have C3 : Hid (∀ W, Rdr W w0.heap.size g g s2 → Calls Try.prog 73 #[.pointer (some ⟨g, 0, none⟩), .int .i64 1099511627776] W (Said w0.heap.size g g s3 (.int .i64 (n0 : Int)) W)) := Lib.hid fun W h => rnum_is _ _ g _ _ _ _ W h hs3 (by rw [hn0])
  have C4 : Hid (∀ W, Rdr W w0.heap.size g g s3 → Calls Try.prog 73 #[.pointer (some ⟨g, 0, none⟩), .int .i64 1099511627776] W (Said w0.heap.size g g s4 (.int .i64 (n1 : Int)) W)) := Lib.hid fun W h => rnum_is _ _ g _ _ _ _ W h hs4 (by rw [hn1])
  have C5 : Hid (∀ W, Rdr W w0.heap.size g g s4 → Calls Try.prog 74 #[.pointer (some ⟨g, 0, none⟩)] W fun e w' => e = .returned (.bool q) ∧ W = w') := Lib.hid fun W h => end_is _ _ g _ q W h hq
  have C6 : Hid (∀ W, Calls Try.prog 43 #[.string (str t)] W fun e w' => e = .returned (.bool k) ∧ W = w') := Lib.hid fun W => by rw [← hk]; exact nok_any t W HTB.out (by have := HTL.out; omega)
  clear hg1 hg2 hr1 hb1 hs0 hs1 hs2 hs3 hs4 hlt hlp hn0 hn1 hq hk HR
  go_upto_region 2 with fail
  go_cut [5, 6] (fun tv u wx => tv = .string (str t) ∧ Hid (Rdr wx w0.heap.size g g s2) ∧ Hid (Own wx w0.heap.size u p) ∧ Hid (u.ownBlock ≠ some g) ∧ Hid (Below w0.heap.size w0 wx))
  case first =>
    have HR0 := HRD.out.drew
    refine wp_region_noPanic ?_
    refine wp_region_held_drew (S := fun _ => True) (by kernel_rfl) (trivial) (fun hHeld => ?_)
    refine takeW 0 (some 11) (oi := ?oT1) (v := ?vT1) ?hiT1 ?hdT1 (by kernel_rfl) (by kernel_rfl) (by kernel_rfl) (fun _ _ _ h => h) ?hwT1 ?hyT1 hHeld ?_
    case hiT1 => (simp only [List.getElem?_toArray, List.getElem?_cons_zero]; with_reducible rfl)
    case hdT1 => rfl
    case hwT1 => rfl
    case hyT1 => (intro w hSw; (try dsimp only at hSw); go_simp; first | done | with_reducible rfl)
    try simp only [Act.put]
    try simp only [List.setIfInBounds_toArray, List.set_cons_zero, List.set_cons_succ]
    refine takeW 3 (some 14) (oi := ?oT2) (v := ?vT2) ?hiT2 ?hdT2 (by kernel_rfl) (by kernel_rfl) (by kernel_rfl) (fun _ _ _ h => h) ?hwT2 ?hyT2 hHeld ?_
    case hiT2 => (simp only [List.getElem?_toArray, List.getElem?_cons_succ, List.getElem?_cons_zero]; with_reducible rfl)
    case hdT2 => rfl
    case hwT2 => rfl
    case hyT2 => (intro w hSw; (try dsimp only at hSw); go_simp; first | done | with_reducible rfl)
    try simp only [Act.put]
    try simp only [List.setIfInBounds_toArray, List.set_cons_zero, List.set_cons_succ]
    refine stepOne 1 (o := ?oT3) ?hiT3 (by kernel_rfl) ?hwT3 (fun K hK => ?_)
    case hiT3 => (simp only [List.getElem?_toArray, List.getElem?_cons_succ, List.getElem?_cons_zero]; with_reducible rfl)
    case hwT3 => rfl
    go_simp
    go_at_call 72
    refine (C1.out w1.drew HR0).mono ?_
    rintro e w2 ⟨v2, rfl, ho2, hr2, hg2⟩
    have hb2 := HB1.out.drew.trans (Below.ofGrown hg2 HG.out.1 HB1.out.size)
    have rt2 := run_text ho2.bytes
    refine hK.out _ _ ?_ (fun hHeld => ?_)
    · trivial
    clear hK K
    try simp only [Act.put]
    try simp only [List.setIfInBounds_toArray, List.set_cons_zero, List.set_cons_succ]
    refine wpAnyH_ready (rs := [2, 4]) (by kernel_rfl) (by simp) ?_
    refine stepOf 2 (o := ?oT4) ?hiT4 ?hwT4 (fun K hK => ?_) ?_
    case hiT4 => (simp only [List.getElem?_toArray, List.getElem?_cons_succ, List.getElem?_cons_zero]; with_reducible rfl)
    case hwT4 => rfl
    · skip
      go_simp
      refine hK.out _ _ ?_ (fun hHeld => ?_)
      · trivial
      clear hK K
      try simp only [Act.put]
      try simp only [List.setIfInBounds_toArray, List.set_cons_zero, List.set_cons_succ]
      refine stepOne 4 (o := ?oT5) ?hiT5 (by kernel_rfl) ?hwT5 (fun K hK => ?_)
      case hiT5 => (simp only [List.getElem?_toArray, List.getElem?_cons_succ, List.getElem?_cons_zero]; with_reducible rfl)
      case hwT5 => rfl
      go_simp
      go_at_call 72
      refine (C2.out w2 hr2).mono ?_
      rintro e w3 ⟨v3, rfl, ho3, hr3, hg3⟩
      have hb3 := hb2.trans (Below.ofGrown hg3 HG.out.1 hb2.size)
      have ho23 := ho2.grown hg3 (.inr (fun e => by have h1 := (ho2.lt g e).1; have h2 : w1.drew.heap.size = w1.heap.size := rfl; have := HG.out.2; omega))
      have rt3 := run_text ho23.bytes
      refine hK.out _ _ ?_ (fun hHeld => ?_)
      · trivial
      clear hK K
      try simp only [Act.put]
      try simp only [List.setIfInBounds_toArray, List.set_cons_zero, List.set_cons_succ]
      refine takeW 5 (some 5) (oi := ?oT6) (v := ?vT6) ?hiT6 ?hdT6 (by kernel_rfl) (by kernel_rfl) (by kernel_rfl) (fun _ _ _ h => h) ?hwT6 ?hyT6 hHeld ?_
      case hiT6 => (simp only [List.getElem?_toArray, List.getElem?_cons_succ, List.getElem?_cons_zero]; with_reducible rfl)
      case hdT6 => rfl
      case hwT6 => rfl
      case hyT6 => (intro w hSw; (try dsimp only at hSw); go_simp; first | done | with_reducible rfl)
      try simp only [Act.put]
      try simp only [List.setIfInBounds_toArray, List.set_cons_zero, List.set_cons_succ]
      refine takeW 6 (some 6) (oi := ?oT7) (v := ?vT7) ?hiT7 ?hdT7 (by kernel_rfl) (by kernel_rfl) (by kernel_rfl) (fun _ _ _ h => h) ?hwT7 ?hyT7 hHeld ?_
      case hiT7 => (simp only [List.getElem?_toArray, List.getElem?_cons_succ, List.getElem?_cons_zero]; with_reducible rfl)
      case hdT7 => rfl
      case hwT7 => rfl
      case hyT7 => (intro w hSw; (try dsimp only at hSw); go_simp; first | done | with_reducible rfl)
      try simp only [Act.put]
      try simp only [List.setIfInBounds_toArray, List.set_cons_zero, List.set_cons_succ]
      refine wpAnyH_done (by kernel_rfl) ?_ _
      refine NoPanic.normal ?_
      go_wp2
      go_meet
      exact ⟨rfl, Lib.hid hr3, Lib.hid (ho3.more (by have h1 := HB1.out.size; have h2 : w1.drew.heap.size = w1.heap.size := rfl; have h3 := hg2.size; omega)), Lib.hid (fun e => by have h1 := (ho3.lt g e).1; have h2 : w1.drew.heap.size = w1.heap.size := rfl; have h3 := hg2.size; have := HG.out.2; omega), Lib.hid hb3⟩
    refine stepOf 4 (o := ?oT8) ?hiT8 ?hwT8 (fun K hK => ?_) AllReadyH.nil
    case hiT8 => (simp only [List.getElem?_toArray, List.getElem?_cons_succ, List.getElem?_cons_zero]; with_reducible rfl)
    case hwT8 => rfl
    go_simp
    go_at_call 72
    refine (C2.out w2 hr2).mono ?_
    rintro e w3 ⟨v3, rfl, ho3, hr3, hg3⟩
    have hb3 := hb2.trans (Below.ofGrown hg3 HG.out.1 hb2.size)
    have ho23 := ho2.grown hg3 (.inr (fun e => by have h1 := (ho2.lt g e).1; have h2 : w1.drew.heap.size = w1.heap.size := rfl; have := HG.out.2; omega))
    have rt3 := run_text ho23.bytes
    refine hK.out _ _ ?_ (fun hHeld => ?_)
    · trivial
    clear hK K
    try simp only [Act.put]
    try simp only [List.setIfInBounds_toArray, List.set_cons_zero, List.set_cons_succ]
    refine stepOne 2 (o := ?oT9) ?hiT9 (by kernel_rfl) ?hwT9 (fun K hK => ?_)
    case hiT9 => (simp only [List.getElem?_toArray, List.getElem?_cons_succ, List.getElem?_cons_zero]; with_reducible rfl)
    case hwT9 => rfl
    go_simp
    refine hK.out _ _ ?_ (fun hHeld => ?_)
    · trivial
    clear hK K
    try simp only [Act.put]
    try simp only [List.setIfInBounds_toArray, List.set_cons_zero, List.set_cons_succ]
    refine takeW 5 (some 5) (oi := ?oT10) (v := ?vT10) ?hiT10 ?hdT10 (by kernel_rfl) (by kernel_rfl) (by kernel_rfl) (fun _ _ _ h => h) ?hwT10 ?hyT10 hHeld ?_
    case hiT10 => (simp only [List.getElem?_toArray, List.getElem?_cons_succ, List.getElem?_cons_zero]; with_reducible rfl)
    case hdT10 => rfl
    case hwT10 => rfl
    case hyT10 => (intro w hSw; (try dsimp only at hSw); go_simp; first | done | with_reducible rfl)
    try simp only [Act.put]
    try simp only [List.setIfInBounds_toArray, List.set_cons_zero, List.set_cons_succ]
    refine takeW 6 (some 6) (oi := ?oT11) (v := ?vT11) ?hiT11 ?hdT11 (by kernel_rfl) (by kernel_rfl) (by kernel_rfl) (fun _ _ _ h => h) ?hwT11 ?hyT11 hHeld ?_
    case hiT11 => (simp only [List.getElem?_toArray, List.getElem?_cons_succ, List.getElem?_cons_zero]; with_reducible rfl)
    case hdT11 => rfl
    case hwT11 => rfl
    case hyT11 => (intro w hSw; (try dsimp only at hSw); go_simp; first | done | with_reducible rfl)
    try simp only [Act.put]
    try simp only [List.setIfInBounds_toArray, List.set_cons_zero, List.set_cons_succ]
    refine wpAnyH_done (by kernel_rfl) ?_ _
    refine NoPanic.normal ?_
    go_wp2
    go_meet
    exact ⟨rfl, Lib.hid hr3, Lib.hid (ho3.more (by have h1 := HB1.out.size; have h2 : w1.drew.heap.size = w1.heap.size := rfl; have h3 := hg2.size; omega)), Lib.hid (fun e => by have h1 := (ho3.lt g e).1; have h2 : w1.drew.heap.size = w1.heap.size := rfl; have h3 := hg2.size; have := HG.out.2; omega), Lib.hid hb3⟩
  case rest =>
    obtain ⟨rfl, HR3', HO3, HNE3, HB3⟩ := hcut
    obtain ⟨w3, rfl⟩ : ∃ wy : World, wy = wc := ⟨_, rfl⟩
    obtain ⟨_, _, Au, cu, rfl, _, _⟩ := HO3.out.bytes.parts
    obtain ⟨np, hnp⟩ : ∃ n, p.length = n := ⟨_, rfl⟩
    rw [hnp] at HO3 HNE3 ⊢
    clear hnp
    obtain ⟨s, hs⟩ : ∃ s, str t = s := ⟨_, rfl⟩
    have HS := Lib.hid hs
    rw [hs] at C6 ⊢
    clear hs
    go_wp2_with fail
    refine (C3.out w3 HR3'.out).mono ?_
    rintro e w4 ⟨rfl, hr4, hg4⟩
    have HR4 := Lib.hid hr4
    have HO4 := Lib.hid (HO3.out.grown hg4 (.inr HNE3.out))
    have HB4 := Lib.hid (HB3.out.trans (Below.ofGrown hg4 HG.out.1 HB3.out.size))
    clear hr4 hg4 HR3' HO3 HB3
    go_wp2_with fail
    refine (C4.out w4 HR4.out).mono ?_
    rintro e w5 ⟨rfl, hr5, hg5⟩
    have HR5 := Lib.hid hr5
    have HO5 := Lib.hid (HO4.out.grown hg5 (.inr HNE3.out))
    have HB5 := Lib.hid (HB4.out.trans (Below.ofGrown hg5 HG.out.1 HB4.out.size))
    clear hr5 hg5 HR4 HO4 HB4
    have HRWo := HRW.out.under HB5.out
    have b0 := HRWo.at 0
    have b1 := HRWo.at 1
    have b2 := HRWo.at 2
    have b3 := HRWo.at 3
    have f0 := HRWo.free 0
    have f1 := HRWo.free 1
    have f2 := HRWo.free 2
    have f3 := HRWo.free 3
    have HRX := Lib.hid HRWo
    have HBA : Hid (Below w.heap.size w w5) := Lib.hid (HB0.out.trans (HB5.out.mono HB0.out.size))
    have HONE : Hid (∀ j, _ → j ≠ g0) := Lib.hid fun j h => by have h1 := (HO5.out.lt j h).1; have := HGW.out; omega
    clear HRWo
    go_wp2_with fail
    refine (C5.out w5 HR5.out).mono ?_
    rintro e w6 ⟨rfl, rfl⟩
    rcases q with _ | _
    · go_wp2
      refine bodyPost_ret (rresults_cell_tmp rfl _ _ g0 _ _ _ _ rfl ((((HRX.out.set 0 _).set 1 _).set 2 _).set 3 _) Try.underlying39 rfl (by kernel_rfl)) rfl ?_
      exact ⟨(((HBA.out.setCell HG0.out _).setCell HG0.out _).setCell HG0.out _).setCell HG0.out _, by rw [HR3.out]; rfl⟩
    · go_wp2_with fail
      refine (C6.out w5).mono ?_
      rintro e w6 ⟨rfl, rfl⟩
      rcases k with _ | _
      · go_wp2
        refine bodyPost_ret (rresults_cell_tmp rfl _ _ g0 _ _ _ _ rfl ((((HRX.out.set 0 _).set 1 _).set 2 _).set 3 _) Try.underlying39 rfl (by kernel_rfl)) rfl ?_
        exact ⟨(((HBA.out.setCell HG0.out _).setCell HG0.out _).setCell HG0.out _).setCell HG0.out _, by rw [HR3.out]; rfl⟩
      · go_wp2
        refine bodyPost_ret (rresults_cell_tmp rfl _ _ g0 _ _ _ _ rfl ((((HRX.out.set 0 _).set 1 _).set 2 _).set 3 _) Try.underlying39 rfl (by kernel_rfl)) rfl ?_
        refine ⟨(((HBA.out.setCell HG0.out _).setCell HG0.out _).setCell HG0.out _).setCell HG0.out _, ?_⟩
        rw [HR3.out]
        refine ⟨_, by rw [HS.out]; rfl, ?_⟩
        exact ((((HO5.out.grown (grown_setCell _ ⟨g0, 0, none⟩ _) (.inr fun e => HONE.out _ e rfl)).grown (grown_setCell _ ⟨g0, 1, none⟩ _) (.inr fun e => HONE.out _ e rfl)).grown (grown_setCell _ ⟨g0, 2, none⟩ _) (.inr fun e => HONE.out _ e rfl)).grown (grown_setCell _ ⟨g0, 3, none⟩ _) (.inr fun e => HONE.out _ e rfl)).more (by have := HB0.out.size; omega)
end Go.Proofs.Ytfheaognfocofaa
