/- The document's own answer of layer 12 (fettleref10): a lock's bytes, a lock and a commit of bytes. -/
import Derived.Test.YtfheaognfocofaaGreatDoorZRecoOpenD
import Derived.Test.YtfheaognfocofaaGreatDoorZ08
import Derived.Test.YtfheaognfocofaaGreatDoorZ03
import Derived.Test.YtfheaognfocofaaGreatDoorZ04
namespace Go.Proofs.YtfheaognfocofaaGreatDoor
set_option maxRecDepth 100000
open Go.ChangeShapes Go.WideShapes Go.ChangeAt Go.RowKit

set_option maxRecDepth 100000 in
set_option maxHeartbeats 2000000 in
theorem reflock_is (a b c d : Int) (l : List Nat) (w : World) (hl : Rc.lock (Cd.held a) (Cd.held b) (Cd.held c) (Cd.held d) = l) :
    Calls Tryz.prog 31 #[lockV a b c d] w (Made w.heap.size l w) := by
  obtain ⟨E1, hE1⟩ : ∃ E, [] ++ Cd.enc (Cd.held a) = E := ⟨_, rfl⟩
  obtain ⟨E2, hE2⟩ : ∃ E, E1 ++ Cd.enc (Cd.held b) = E := ⟨_, rfl⟩
  obtain ⟨E3, hE3⟩ : ∃ E, E2 ++ Cd.enc (Cd.held c) = E := ⟨_, rfl⟩
  obtain ⟨E4, hE4⟩ : ∃ E, E3 ++ Cd.enc (Cd.held d) = E := ⟨_, rfl⟩
  have HR : Hid ([] ++ Fr.frm E4 = l) := Lib.hid (by rw [← hE4, ← hE3, ← hE2, ← hE1]; exact hl)
  have z1 : E1.length = 6 := by rw [← hE1]; simp [Cd.enc_length]
  have z2 : E2.length = 12 := by rw [← hE2, List.length_append, z1]; simp [Cd.enc_length]
  have z3 : E3.length = 18 := by rw [← hE3, List.length_append, z2]; simp [Cd.enc_length]
  have z4 : E4.length = 24 := by rw [← hE4, List.length_append, z3]; simp [Cd.enc_length]
  have C1 : Hid (∀ W, Calls Tryz.prog 46 #[.slice none 0 0, .int .i64 a] W (Made W.heap.size E1 W)) := Lib.hid fun W => made_calls (refnum_any _ [] a W (bytes_none _) (by simp)) hE1
  have C2 : Hid (∀ W u, Bytes W u E1 → Calls Tryz.prog 46 #[u, .int .i64 b] W (Made W.heap.size E2 W)) := Lib.hid fun W u h => made_calls (refnum_any u E1 b W h (by omega)) hE2
  have C3 : Hid (∀ W u, Bytes W u E2 → Calls Tryz.prog 46 #[u, .int .i64 c] W (Made W.heap.size E3 W)) := Lib.hid fun W u h => made_calls (refnum_any u E2 c W h (by omega)) hE3
  have C4 : Hid (∀ W u, Bytes W u E3 → Calls Tryz.prog 46 #[u, .int .i64 d] W (Made W.heap.size E4 W)) := Lib.hid fun W u h => made_calls (refnum_any u E3 d W h (by omega)) hE4
  have C5 : Hid (∀ W u, Bytes W u E4 → Calls Tryz.prog 47 #[.slice none 0 0, u] W (Made W.heap.size l W)) := Lib.hid fun W u h => refput_is _ u [] E4 l W (bytes_none W) h (by simp) (by omega) HR.out
  clear hl hE1 hE2 hE3 hE4 z1 z2 z3 z4 HR
  go_enter Tryz.func31, Tryz.ntmps31
  obtain ⟨w1, hw1⟩ : ∃ w1, w.alloc (.cells #[.int .i64 a, .int .i64 b, .int .i64 c, .int .i64 d] 30) = w1 := ⟨_, rfl⟩
  obtain ⟨g, hg⟩ : ∃ g, w.heap.size = g := ⟨_, rfl⟩
  have HB1 : Hid (Below w.heap.size w w1) := Lib.hid (by rw [← hw1]; exact (Below.refl _ _).alloc (Nat.le_refl _) _)
  have HBK : Hid (Blk w1 g 30 #[.int .i64 a, .int .i64 b, .int .i64 c, .int .i64 d]) := Lib.hid (by rw [← hw1, ← hg]; exact heap_alloc_new w _)
  have HK : Hid (∀ W, Below w1.heap.size w1 W → W.cell? ⟨g, 0, none⟩ = some (.int .i64 a) ∧ W.cell? ⟨g, 1, none⟩ = some (.int .i64 b) ∧ W.cell? ⟨g, 2, none⟩ = some (.int .i64 c) ∧ W.cell? ⟨g, 3, none⟩ = some (.int .i64 d)) := Lib.hid fun W hb => by
    have k := HBK.out.under hb
    exact ⟨k.at 0, k.at 1, k.at 2, k.at 3⟩
  go_upto_region 1 with fail
  clear hw1 hg HBK
  have k0 := HK.out w1 (Below.refl _ _)
  have k0' := HK.out w1.drew (Below.refl _ _).drew
  go_region_held (fun w' => w'.cell? ⟨g, 0, none⟩ = some (.int .i64 a) ∧ w'.cell? ⟨g, 1, none⟩ = some (.int .i64 b) ∧ w'.cell? ⟨g, 2, none⟩ = some (.int .i64 c) ∧ w'.cell? ⟨g, 3, none⟩ = some (.int .i64 d)) (first | exact k0 | exact k0' | exact k2 | exact k3 | go_keep)
    (first
    | (go_at_call_of 46 (Value.int .i64 a); refine (C1.out _).mono ?_; rintro e w2 ⟨v2, rfl, ho2, hb2⟩; have hm2 : Below w1.heap.size w1 w2 := (Below.refl _ _).drew.trans hb2; have k2 := HK.out w2 hm2)
    | (go_at_call_of 46 v2; refine (C2.out _ _ ho2.bytes).mono ?_; rintro e w3 ⟨v3, rfl, ho3, hb3⟩; have hm3 : Below w1.heap.size w1 w3 := hm2.trans (hb3.mono hm2.size); have k3 := HK.out w3 hm3))
  have k3' := HK.out w3.drew hm3.drew
  go_upto_region 2 with fail
  go_region_held (fun w' => w'.cell? ⟨g, 0, none⟩ = some (.int .i64 a) ∧ w'.cell? ⟨g, 1, none⟩ = some (.int .i64 b) ∧ w'.cell? ⟨g, 2, none⟩ = some (.int .i64 c) ∧ w'.cell? ⟨g, 3, none⟩ = some (.int .i64 d)) (first | exact k3 | exact k3' | exact k4 | exact k5 | exact k6 | go_keep)
    (first
    | (go_at_call_of 46 v3; refine (C3.out w3.drew _ (ho3.bytes.heap rfl)).mono ?_; rintro e w4 ⟨v4, rfl, ho4, hb4⟩; have hm4 : Below w1.heap.size w1 w4 := hm3.drew.trans (hb4.mono hm3.size); have k4 := HK.out w4 hm4)
    | (go_at_call_of 46 v4; refine (C4.out _ _ ho4.bytes).mono ?_; rintro e w5 ⟨v5, rfl, ho5, hb5⟩; have hm5 : Below w1.heap.size w1 w5 := hm4.trans (hb5.mono hm4.size); have k5 := HK.out w5 hm5)
    | (go_at_call 47; refine (C5.out _ _ ho5.bytes).mono ?_; rintro e w6 ⟨v6, rfl, ho6, hb6⟩; have hm6 : Below w1.heap.size w1 w6 := hm5.trans (hb6.mono hm5.size); have k6 := HK.out w6 hm6; have hz6 := hm5.size))
  go_wp2
  go_ret
  exact ⟨_, rfl, ho6.more (Nat.le_trans HB1.out.size hz6), HB1.out.trans (hm6.mono HB1.out.size)⟩

set_option maxRecDepth 100000 in
set_option maxHeartbeats 4000000 in
theorem refopenL_any (v : Value) (l : List Nat) (w : World) (h : Bytes w v l) (hl : l.length ≤ 1099511627776) (R : Option Rc.L4) (hR : Rc.openL l = R) :
    Calls Tryz.prog 12 #[v] w (OpenLIs R w) := by
  have HR := Lib.hid hR
  obtain ⟨w0, hw0⟩ : ∃ w0, w.alloc (.cells #[.int .i64 0, .int .i64 0, .int .i64 0, .int .i64 0] 30) = w0 := ⟨_, rfl⟩
  obtain ⟨g0, hg0⟩ : ∃ g, w.heap.size = g := ⟨_, rfl⟩
  have HB0 : Hid (Below w.heap.size w w0) := Lib.hid (by rw [← hw0]; exact (Below.refl _ _).alloc (Nat.le_refl _) _)
  have HRW : Hid (Blk w0 g0 30 #[.int .i64 0, .int .i64 0, .int .i64 0, .int .i64 0]) := Lib.hid (by rw [← hw0, ← hg0]; exact heap_alloc_new w _)
  have HG0 : Hid (w.heap.size ≤ g0) := Lib.hid (by rw [hg0]; exact Nat.le_refl _)
  have H : Hid (Bytes w0 v l) := Lib.hid (by rw [← hw0]; exact h.alloc _)
  clear h hR
  go_enter Tryz.func12, Tryz.ntmps12
  go_wp2_with fail
  clear hw0 hg0
  refine (refwhole_any v l w0 H.out hl).mono ?_
  rintro e w1 ⟨x, rfl, hx, hb1⟩
  obtain ⟨o, ho⟩ : ∃ o, Ar.one l = o := ⟨_, rfl⟩
  rw [ho] at hx ⊢
  obtain ⟨X, hX⟩ : ∃ X, (if o then Fr.held l else []) = X := ⟨_, rfl⟩
  rw [hX] at hx
  obtain ⟨s0, hs0⟩ : ∃ s, some X = s := ⟨_, rfl⟩
  obtain ⟨s1, hs1⟩ : ∃ s, Cd.numS s0 1099511627776 = s := ⟨_, rfl⟩
  obtain ⟨s2, hs2⟩ : ∃ s, Cd.numS s1 1099511627776 = s := ⟨_, rfl⟩
  obtain ⟨s3, hs3⟩ : ∃ s, Cd.numS s2 1099511627776 = s := ⟨_, rfl⟩
  obtain ⟨s4, hs4⟩ : ∃ s, Cd.numS s3 1099511627776 = s := ⟨_, rfl⟩
  obtain ⟨n0, hn0⟩ : ∃ s, Cd.numN s0 1099511627776 = s := ⟨_, rfl⟩
  obtain ⟨n1, hn1⟩ : ∃ s, Cd.numN s1 1099511627776 = s := ⟨_, rfl⟩
  obtain ⟨n2, hn2⟩ : ∃ s, Cd.numN s2 1099511627776 = s := ⟨_, rfl⟩
  obtain ⟨n3, hn3⟩ : ∃ s, Cd.numN s3 1099511627776 = s := ⟨_, rfl⟩
  obtain ⟨q, hq⟩ : ∃ q, Cd.endB s4 = q := ⟨_, rfl⟩
  have HXL : Hid (X.length ≤ 1099511627776) := Lib.hid (by
    rw [← hX]
    split
    · unfold Fr.held
      rw [List.length_take, List.length_drop]
      omega
    · simp)
  have HR3 : Hid (R = if o && q then some (n0, n1, n2, n3) else none) := Lib.hid (by
    rw [← HR.out, Rc.openL, ho]
    rcases o with _ | _
    · rfl
    · rw [show Fr.held l = X from hX, hs0, Rc.rest4, Rc.four, Rc.nn, Rc.nn, Rc.nn, Rc.nn, Rc.tt, Rc.tt, Rc.tt, Rc.tt, hs1, hs2, hs3, hs4, hn0, hn1, hn2, hn3, hq])
  have HB1 := Lib.hid hb1
  obtain ⟨_, _, Ax, cx, rfl, _, _⟩ := hx.parts
  have HRF := Lib.hid (aref_new hx HXL.out)
  obtain ⟨g, hg⟩ : ∃ g, w1.heap.size = g := ⟨_, rfl⟩
  obtain ⟨w2, hw2⟩ : ∃ w2, w1.alloc (.cells #[.slice Ax X.length cx, .bool false] 74) = w2 := ⟨_, rfl⟩
  have HB2 : Hid (Below w0.heap.size w0 w2) := Lib.hid (by rw [← hw2]; exact HB1.out.alloc HB1.out.size _)
  have HZ2 : Hid (w0.heap.size ≤ g ∧ g < w2.heap.size) := Lib.hid (by rw [← hw2, ← hg]; have := HB1.out.size; simp; omega)
  rw [hg, hw2, hs0] at HRF
  have C0 : Hid (∀ W, Ref W g g s0 → Calls Tryz.prog 25 #[.pointer (some ⟨g, 0, none⟩), .int .i64 1099511627776] W (Told g g s1 (.int .i64 (n0 : Int)) W)) := Lib.hid fun W h => by rw [← hs1, ← hn0]; exact refrnum_any g g _ _ W h
  have C1 : Hid (∀ W, Ref W g g s1 → Calls Tryz.prog 25 #[.pointer (some ⟨g, 0, none⟩), .int .i64 1099511627776] W (Told g g s2 (.int .i64 (n1 : Int)) W)) := Lib.hid fun W h => by rw [← hs2, ← hn1]; exact refrnum_any g g _ _ W h
  have C2 : Hid (∀ W, Ref W g g s2 → Calls Tryz.prog 25 #[.pointer (some ⟨g, 0, none⟩), .int .i64 1099511627776] W (Told g g s3 (.int .i64 (n2 : Int)) W)) := Lib.hid fun W h => by rw [← hs3, ← hn2]; exact refrnum_any g g _ _ W h
  have C3 : Hid (∀ W, Ref W g g s3 → Calls Tryz.prog 25 #[.pointer (some ⟨g, 0, none⟩), .int .i64 1099511627776] W (Told g g s4 (.int .i64 (n3 : Int)) W)) := Lib.hid fun W h => by rw [← hs4, ← hn3]; exact refrnum_any g g _ _ W h
  have C4 : Hid (∀ W, Ref W g g s4 → Calls Tryz.prog 26 #[.pointer (some ⟨g, 0, none⟩)] W fun e w' => e = .returned (.bool q) ∧ W = w') := Lib.hid fun W h => by rw [← hq]; exact refend_any g g _ W h
  clear hx hb1 ho hX hs0 hs1 hs2 hs3 hs4 hn0 hn1 hn2 hn3 hq HR
  go_wp2_with fail
  clear hg hw2
  refine (C0.out w2 HRF.out).mono ?_
  rintro e w3 ⟨rfl, hr3, hg3⟩
  have HRD3 := Lib.hid hr3
  have HB3 := Lib.hid (HB2.out.trans (Below.ofGrown hg3 HZ2.out.1 HB2.out.size))
  clear hr3 hg3 HRF HB2
  go_wp2_with fail
  refine (C1.out w3 HRD3.out).mono ?_
  rintro e w4 ⟨rfl, hr4, hg4⟩
  have HRD4 := Lib.hid hr4
  have HB4 := Lib.hid (HB3.out.trans (Below.ofGrown hg4 HZ2.out.1 HB3.out.size))
  clear hr4 hg4 HRD3 HB3
  go_wp2_with fail
  refine (C2.out w4 HRD4.out).mono ?_
  rintro e w5 ⟨rfl, hr5, hg5⟩
  have HRD5 := Lib.hid hr5
  have HB5 := Lib.hid (HB4.out.trans (Below.ofGrown hg5 HZ2.out.1 HB4.out.size))
  clear hr5 hg5 HRD4 HB4
  go_wp2_with fail
  refine (C3.out w5 HRD5.out).mono ?_
  rintro e w6 ⟨rfl, hr6, hg6⟩
  have HRD6 := Lib.hid hr6
  have HB6 := Lib.hid (HB5.out.trans (Below.ofGrown hg6 HZ2.out.1 HB5.out.size))
  clear hr6 hg6 HRD5 HB5
  have HRWo := fun o => (HRW.out.under HB6.out).alloc o
  have b0 := fun o => (HRWo o).at 0
  have b1 := fun o => (HRWo o).at 1
  have b2 := fun o => (HRWo o).at 2
  have b3 := fun o => (HRWo o).at 3
  have f0 := fun o => (HRWo o).free 0
  have f1 := fun o => (HRWo o).free 1
  have f2 := fun o => (HRWo o).free 2
  have f3 := fun o => (HRWo o).free 3
  have HRX := Lib.hid HRWo
  have HBA : Hid (∀ o, Below w.heap.size w (w6.alloc o)) := Lib.hid fun o => (HB0.out.trans (HB6.out.mono HB0.out.size)).alloc (Nat.le_trans HB0.out.size HB6.out.size) o
  clear HRWo
  rcases o with _ | _
  · go_wp2
    refine bodyPost_ret (rresults_cell_tmp rfl _ _ g0 _ _ _ _ rfl (((((HRX.out _).set 0 _).set 1 _).set 2 _).set 3 _) Tryz.underlying30 rfl (by kernel_rfl)) rfl ?_
    exact ⟨by rw [HR3.out]; rfl, ((((HBA.out _).setCell HG0.out _).setCell HG0.out _).setCell HG0.out _).setCell HG0.out _⟩
  · go_wp2_with fail
    refine (C4.out _ (HRD6.out.under ((Below.refl _ _).alloc (Nat.le_refl _) _))).mono ?_
    rintro e w7 ⟨rfl, rfl⟩
    rcases q with _ | _
    · go_wp2
      refine bodyPost_ret (rresults_cell_tmp rfl _ _ g0 _ _ _ _ rfl (((((HRX.out _).set 0 _).set 1 _).set 2 _).set 3 _) Tryz.underlying30 rfl (by kernel_rfl)) rfl ?_
      exact ⟨by rw [HR3.out]; rfl, ((((HBA.out _).setCell HG0.out _).setCell HG0.out _).setCell HG0.out _).setCell HG0.out _⟩
    · go_wp2
      refine bodyPost_ret (rresults_cell_tmp rfl _ _ g0 _ _ _ _ rfl (((((HRX.out _).set 0 _).set 1 _).set 2 _).set 3 _) Tryz.underlying30 rfl (by kernel_rfl)) rfl ?_
      exact ⟨by rw [HR3.out]; rfl, ((((HBA.out _).setCell HG0.out _).setCell HG0.out _).setCell HG0.out _).setCell HG0.out _⟩

end Go.Proofs.YtfheaognfocofaaGreatDoor
