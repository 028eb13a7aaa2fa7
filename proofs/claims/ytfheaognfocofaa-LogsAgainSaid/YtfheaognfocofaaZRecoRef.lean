/- The document's own answer of layer 12 (fettleref10): a lock's bytes, a lock and a commit of bytes. -/
import Derived.Test.YtfheaognfocofaaZRecoOpenD
import Derived.Test.YtfheaognfocofaaZ08
import Derived.Test.YtfheaognfocofaaZ03
import Derived.Test.YtfheaognfocofaaZ04
namespace Go.Proofs.Ytfheaognfocofaa
set_option maxRecDepth 100000
open Go.ChangeShapes Go.WideShapes Go.ChangeAt Go.RowKit

set_option maxRecDepth 100000 in
set_option maxHeartbeats 8000000 in
theorem refopenD_any (v : Value) (l : List Nat) (w : World) (h : Bytes w v l) (hl : l.length ≤ 1099511627776) (R : Option Rc.D) (hR : Rc.openD l = R) :
    Calls Try.prog 32 #[v] w (OpenDIs R w) := by
  have HR := Lib.hid hR
  have HBL := Lib.hid h.parts.1
  obtain ⟨w0, hw0⟩ : ∃ w0, w.alloc (.cells #[.string ⟨#[]⟩, .int .i64 0, .int .i64 0, .slice none 0 0] 39) = w0 := ⟨_, rfl⟩
  obtain ⟨g0, hg0⟩ : ∃ g, w.heap.size = g := ⟨_, rfl⟩
  have HB0 : Hid (Below w.heap.size w w0) := Lib.hid (by rw [← hw0]; exact (Below.refl _ _).alloc (Nat.le_refl _) _)
  have HRW : Hid (Blk w0 g0 39 #[.string ⟨#[]⟩, .int .i64 0, .int .i64 0, .slice none 0 0]) := Lib.hid (by rw [← hw0, ← hg0]; exact heap_alloc_new w _)
  have HG0 : Hid (w.heap.size ≤ g0) := Lib.hid (by rw [hg0]; exact Nat.le_refl _)
  have HGW : Hid (g0 < w0.heap.size) := Lib.hid HRW.out.size
  have hx : Bytes w0 v l := by rw [← hw0]; exact h.alloc _
  obtain ⟨_, _, Ax, cx, rfl, _, _⟩ := hx.parts
  have HRF := Lib.hid (aref_new hx hl)
  obtain ⟨g, hg⟩ : ∃ g, w0.heap.size = g := ⟨_, rfl⟩
  obtain ⟨w1, hw1⟩ : ∃ w1, w0.alloc (.cells #[.slice Ax l.length cx, .bool false] 88) = w1 := ⟨_, rfl⟩
  have HB1 : Hid (Below w0.heap.size w0 w1) := Lib.hid (by rw [← hw1]; exact (Below.refl _ _).alloc (Nat.le_refl _) _)
  have HG : Hid (w0.heap.size ≤ g ∧ g < w1.heap.size) := Lib.hid (by rw [← hw1, ← hg]; simp)
  rw [hg, hw1] at HRF
  obtain ⟨s0, hs0⟩ : ∃ s, some l = s := ⟨_, rfl⟩
  obtain ⟨s1, hs1⟩ : ∃ s, Cd.bytesS s0 16 = s := ⟨_, rfl⟩
  obtain ⟨t, hlt⟩ : ∃ s, Cd.bytesL s0 16 = s := ⟨_, rfl⟩
  obtain ⟨s2, hs2⟩ : ∃ s, Cd.bytesS s1 4000 = s := ⟨_, rfl⟩
  obtain ⟨p, hlp⟩ : ∃ s, Cd.bytesL s1 4000 = s := ⟨_, rfl⟩
  obtain ⟨s3, hs3⟩ : ∃ s, Cd.numS s2 1099511627776 = s := ⟨_, rfl⟩
  obtain ⟨n0, hn0⟩ : ∃ s, Cd.numN s2 1099511627776 = s := ⟨_, rfl⟩
  obtain ⟨s4, hs4⟩ : ∃ s, Cd.numS s3 1099511627776 = s := ⟨_, rfl⟩
  obtain ⟨n1, hn1⟩ : ∃ s, Cd.numN s3 1099511627776 = s := ⟨_, rfl⟩
  obtain ⟨q, hq⟩ : ∃ q, Cd.endB s4 = q := ⟨_, rfl⟩
  obtain ⟨k, hk⟩ : ∃ q, Nm.ok t = q := ⟨_, rfl⟩
  have HR3 : Hid (R = if q && k then some (t, p, n0, n1) else none) := Lib.hid (by rw [← HR.out, Rc.openD, hs0, Rc.dp, Rc.d2, Rc.d1, Rc.dt, hs1, hlt, hs2, hlp, Rc.nn, Rc.nn, Rc.tt, Rc.tt, hs3, hs4, hn0, hn1, hq, hk])
  have HTB : Hid (∀ c ∈ t, c < 256) := Lib.hid (Rc.bytesL_lt (fun m hm => by rw [← hs0] at hm; injection hm with hm; rw [← hm]; exact HBL.out) hlt)
  have HTL : Hid (t.length ≤ 1099511627776) := Lib.hid (by
    rw [← hlt, ← hs0]
    unfold Cd.bytesL
    split
    · have : Cd.rest (some l) = l := rfl
      rw [List.length_take, List.length_drop, this]
      omega
    · simp)
  rw [hs0] at HRF
  have C1 : Hid (∀ W, Ref W g g s0 → Calls Try.prog 51 #[.pointer (some ⟨g, 0, none⟩), .int .i64 16] W (ToldBytes g g s1 t W)) := Lib.hid fun W h => by rw [← hs1, ← hlt]; exact refrbytes_any g g _ _ W h
  have C2 : Hid (∀ W, Ref W g g s1 → Calls Try.prog 51 #[.pointer (some ⟨g, 0, none⟩), .int .i64 4000] W (ToldBytes g g s2 p W)) := Lib.hid fun W h => by rw [← hs2, ← hlp]; exact refrbytes_any g g _ _ W h
  have C3 : Hid (∀ W, Ref W g g s2 → Calls Try.prog 52 #[.pointer (some ⟨g, 0, none⟩), .int .i64 1099511627776] W (Told g g s3 (.int .i64 (n0 : Int)) W)) := Lib.hid fun W h => by rw [← hs3, ← hn0]; exact refrnum_any g g _ _ W h
  have C4 : Hid (∀ W, Ref W g g s3 → Calls Try.prog 52 #[.pointer (some ⟨g, 0, none⟩), .int .i64 1099511627776] W (Told g g s4 (.int .i64 (n1 : Int)) W)) := Lib.hid fun W h => by rw [← hs4, ← hn1]; exact refrnum_any g g _ _ W h
  have C5 : Hid (∀ W, Ref W g g s4 → Calls Try.prog 53 #[.pointer (some ⟨g, 0, none⟩)] W fun e w' => e = .returned (.bool q) ∧ W = w') := Lib.hid fun W h => by rw [← hq]; exact refend_any g g _ W h
  have C6 : Hid (∀ W, Calls Try.prog 36 #[.string (str t)] W fun e w' => e = .returned (.bool k) ∧ W = w') := Lib.hid fun W => by rw [← hk]; exact refok_any t W HTB.out HTL.out
  clear h hx hR hs0 hs1 hs2 hs3 hs4 hlt hlp hn0 hn1 hq hk HR
  go_enter Try.func32, Try.ntmps32
  go_wp2_with fail
  clear hg hw1 hg0 hw0
  refine (C1.out w1 HRF.out).mono ?_
  rintro e w2 ⟨v2, rfl, ho2, hr2, hg2⟩
  have rt2 := run_text ho2.bytes
  have HR2 := Lib.hid hr2
  have HB2 := Lib.hid (HB1.out.trans (Below.ofGrown hg2 HG.out.1 HB1.out.size))
  have HZ2 := Lib.hid (show g < w2.heap.size from Nat.lt_of_lt_of_le HG.out.2 hg2.size)
  clear ho2 hr2 hg2 HRF HB1
  obtain ⟨s, hs⟩ : ∃ s, str t = s := ⟨_, rfl⟩
  have HS := Lib.hid hs
  rw [hs] at C6 rt2
  clear hs
  obtain ⟨g5, hg5⟩ : ∃ g, w2.heap.size = g := ⟨_, rfl⟩
  obtain ⟨w3, hw3⟩ : ∃ w3, w2.alloc (.cells #[.string s, .int .i64 0, .int .i64 0, .slice none 0 0] 39) = w3 := ⟨_, rfl⟩
  have HD3 : Hid (Blk w3 g5 39 #[.string s, .int .i64 0, .int .i64 0, .slice none 0 0]) := Lib.hid (by rw [← hw3, ← hg5]; exact heap_alloc_new w2 _)
  have HR3' : Hid (Ref w3 g g s1) := Lib.hid (by rw [← hw3]; exact HR2.out.under ((Below.refl _ _).alloc (Nat.le_refl _) _))
  have HB3 : Hid (Below w0.heap.size w0 w3) := Lib.hid (by rw [← hw3]; exact HB2.out.alloc HB2.out.size _)
  have HG5 : Hid (g < g5 ∧ w0.heap.size ≤ g5 ∧ g0 < g5) := Lib.hid (by have := HZ2.out; have := HG.out; have := HGW.out; omega)
  have HW3 := Lib.hid hw3
  have HGE5 := Lib.hid hg5
  clear HR2 HB2 HZ2 hw3 hg5
  go_wp2_with fail
  rw [HW3.out, HGE5.out]
  clear rt2 HW3 HGE5
  refine (C2.out w3 HR3'.out).mono ?_
  rintro e w4 ⟨v4, rfl, ho4, hr4, hg4⟩
  have HD4 := Lib.hid (HD3.out.grown hg4 (by intro e; injection e with e; have := HG5.out; omega))
  have HO4 := Lib.hid (ho4.more (base' := g5 + 1) (by have := HD3.out.size; omega))
  have HR4 := Lib.hid hr4
  have HB4 := Lib.hid (HB3.out.trans (Below.ofGrown hg4 HG.out.1 HB3.out.size))
  obtain ⟨_, _, Au, cu, rfl, _, _⟩ := ho4.bytes.parts
  obtain ⟨np, hnp⟩ : ∃ n, p.length = n := ⟨_, rfl⟩
  rw [hnp] at HO4 ⊢
  clear hnp ho4 hr4 hg4 HD3 HR3' HB3
  have c3 := HD4.out.at 3
  have f3 := HD4.out.free 3
  obtain ⟨w5, hw5⟩ : ∃ w5, w4.setCell ⟨g5, 3, none⟩ (.slice Au np cu) = w5 := ⟨_, rfl⟩
  have hgr := grown_setCell w4 ⟨g5, 3, none⟩ (.slice Au np cu)
  rw [hw5] at hgr
  have HD5 : Hid (Blk w5 g5 39 #[.string s, .int .i64 0, .int .i64 0, .slice Au np cu]) := Lib.hid (by rw [← hw5]; exact HD4.out.set 3 _)
  have HR5 := Lib.hid (HR4.out.grown hgr (by intro k hk; injection hk with hk; subst hk; have := HG5.out; constructor <;> show ¬ _ <;> dsimp only <;> omega))
  have HO5 := Lib.hid (HO4.out.grown hgr (.inr fun e => by have := (HO4.out.lt _ e).1; dsimp only at this; omega))
  have HB5 := Lib.hid (HB4.out.trans (Below.ofGrown hgr HG5.out.2.1 HB4.out.size))
  clear hgr HD4 HR4 HO4 HB4
  go_wp2_with fail
  clear hw5 c3 f3
  refine (C3.out w5 HR5.out).mono ?_
  rintro e w6 ⟨rfl, hr6, hg6⟩
  have HR6 := Lib.hid hr6
  have HD6 := Lib.hid (HD5.out.grown hg6 (by intro e; injection e with e; have := HG5.out; omega))
  have HO6 := Lib.hid (HO5.out.grown hg6 (.inr fun e => by have := (HO5.out.lt _ e).1; have := HG5.out; omega))
  have HB6 := Lib.hid (HB5.out.trans (Below.ofGrown hg6 HG.out.1 HB5.out.size))
  clear hr6 hg6 HR5 HD5 HO5 HB5
  go_wp2_with fail
  refine (C4.out w6 HR6.out).mono ?_
  rintro e w7 ⟨rfl, hr7, hg7⟩
  have HR7 := Lib.hid hr7
  have HD7 := Lib.hid (HD6.out.grown hg7 (by intro e; injection e with e; have := HG5.out; omega))
  have HO7 := Lib.hid (HO6.out.grown hg7 (.inr fun e => by have := (HO6.out.lt _ e).1; have := HG5.out; omega))
  have HB7 := Lib.hid (HB6.out.trans (Below.ofGrown hg7 HG.out.1 HB6.out.size))
  clear hr7 hg7 HR6 HD6 HO6 HB6
  have c1 := HD7.out.at 1
  have f1 := HD7.out.free 1
  have c2 := HD7.out.at 2
  have f2 := HD7.out.free 2
  obtain ⟨w8, hw8⟩ : ∃ w8, (w7.setCell ⟨g5, 1, none⟩ (.int .i64 (n0 : Int))).setCell ⟨g5, 2, none⟩ (.int .i64 (n1 : Int)) = w8 := ⟨_, rfl⟩
  have hgr : w7.grownBy w8 (some g5) := by
    rw [← hw8]
    exact (grown_setCell w7 ⟨g5, 1, none⟩ _).trans (grown_setCell _ ⟨g5, 2, none⟩ _)
  have HD8 : Hid (Blk w8 g5 39 #[.string s, .int .i64 (n0 : Int), .int .i64 (n1 : Int), .slice Au np cu]) := Lib.hid (by rw [← hw8]; exact (HD7.out.set 1 _).set 2 _)
  have HR8 := Lib.hid (HR7.out.grown hgr (by intro k hk; injection hk with hk; subst hk; have := HG5.out; omega))
  have HO8 := Lib.hid (HO7.out.grown hgr (.inr fun e => by have := (HO7.out.lt _ e).1; omega))
  have HB8 := Lib.hid (HB7.out.trans (Below.ofGrown hgr HG5.out.2.1 HB7.out.size))
  clear hgr HD7 HR7 HO7 HB7
  go_upto_region 5 with fail
  clear hw8 c1 c2 f1 f2
  have HRWo := HRW.out.under HB8.out
  have b0 := HRWo.at 0
  have b1 := HRWo.at 1
  have b2 := HRWo.at 2
  have b3 := HRWo.at 3
  have f0 := HRWo.free 0
  have f1 := HRWo.free 1
  have f2 := HRWo.free 2
  have f3 := HRWo.free 3
  have d0 := HD8.out.at 0
  have d1 := HD8.out.at 1
  have d2 := HD8.out.at 2
  have d3 := HD8.out.at 3
  have HRX := Lib.hid HRWo
  have HBA : Hid (Below w.heap.size w w8) := Lib.hid (HB0.out.trans (HB8.out.mono HB0.out.size))
  have HONE : Hid (∀ j, _ → j ≠ g0) := Lib.hid fun j h => by have h1 := (HO8.out.lt j h).1; have := HG5.out; omega
  clear HRWo
  go_wp2_with fail
  refine (C5.out w8 HR8.out).mono ?_
  rintro e w9 ⟨rfl, rfl⟩
  rcases q with _ | _
  · go_wp2
    refine bodyPost_ret (rresults_cell_tmp rfl _ _ g0 _ _ _ _ rfl ((((HRX.out.set 0 _).set 1 _).set 2 _).set 3 _) Try.underlying39 rfl (by kernel_rfl)) rfl ?_
    exact ⟨(((HBA.out.setCell HG0.out _).setCell HG0.out _).setCell HG0.out _).setCell HG0.out _, by rw [HR3.out]; rfl⟩
  · go_wp2_with fail
    refine (C6.out w8).mono ?_
    rintro e w9 ⟨rfl, rfl⟩
    rcases k with _ | _
    · go_wp2
      refine bodyPost_ret (rresults_cell_tmp rfl _ _ g0 _ _ _ _ rfl ((((HRX.out.set 0 _).set 1 _).set 2 _).set 3 _) Try.underlying39 rfl (by kernel_rfl)) rfl ?_
      exact ⟨(((HBA.out.setCell HG0.out _).setCell HG0.out _).setCell HG0.out _).setCell HG0.out _, by rw [HR3.out]; rfl⟩
    · go_wp2
      refine bodyPost_ret (rresults_cell_tmp rfl _ _ g0 _ _ _ _ rfl ((((HRX.out.set 0 _).set 1 _).set 2 _).set 3 _) Try.underlying39 rfl (by kernel_rfl)) rfl ?_
      refine ⟨(((HBA.out.setCell HG0.out _).setCell HG0.out _).setCell HG0.out _).setCell HG0.out _, ?_⟩
      rw [HR3.out]
      refine ⟨_, by rw [HS.out]; rfl, ?_⟩
      exact ((((HO8.out.grown (grown_setCell _ ⟨g0, 0, none⟩ _) (.inr fun e => HONE.out _ e rfl)).grown (grown_setCell _ ⟨g0, 1, none⟩ _) (.inr fun e => HONE.out _ e rfl)).grown (grown_setCell _ ⟨g0, 2, none⟩ _) (.inr fun e => HONE.out _ e rfl)).grown (grown_setCell _ ⟨g0, 3, none⟩ _) (.inr fun e => HONE.out _ e rfl)).more (by have := HB0.out.size; have := HG5.out; omega)
end Go.Proofs.Ytfheaognfocofaa
