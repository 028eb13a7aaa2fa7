/- What package reco answers: a lock's bytes, and a lock of bytes. -/
import Derived.Test.YtfheaognfocofaaGreatDoorZ02
import Derived.Test.YtfheaognfocofaaGreatDoorZ08
import Derived.Test.YtfheaognfocofaaGreatDoorZ03
namespace Go.Proofs.YtfheaognfocofaaGreatDoor
set_option maxRecDepth 100000
open Go.ChangeShapes Go.WideShapes Go.ChangeAt Go.RowKit

/-- A struct of a commit's cells, of a lock's. -/
abbrev lockV (a b c d : Int) : Value := .agg #[.int .i64 a, .int .i64 b, .int .i64 c, .int .i64 d]
abbrev doneV (t : ByteArray) (a b : Int) (p : Value) : Value := .agg #[.string t, .int .i64 a, .int .i64 b, p]
theorem rresults_cell_tmp {P : Program} {fn : Func} {t p : Tmp} {ty : TypeId} (h : fn.results = #[.cell p ty, .tmp t]) (tmps : Array Value) (w : World) (g : Nat) (bt : TypeId) (cs : Array Value) (fr : Nat × Nat) (d : TypeDesc)
    (hp : tmps.getD p undef = .pointer (some ⟨g, 0, none⟩)) (hg : w.heap[g]? = some (.cells cs bt fr))
    (hu : P.underlying ty = some d) (hd : (match d with | .struct _ | .array _ _ => true | _ => false) = true) (hi : (P.info? ty).map (·.size) = some cs.size) :
    (results fn tmps).run P w = .ok (.tuple #[.agg cs, tmps.getD t undef]) w := by
  have hp' : tmps[p]?.getD undef = .pointer (some ⟨g, 0, none⟩) := by simpa using hp
  simp [results, h, hp', asAddr, run_loadVar_row w g bt ty cs fr d hg hu hd hi]

set_option maxRecDepth 100000 in
set_option maxHeartbeats 2000000 in
theorem rlock_is (a b c d : Int) (l : List Nat) (w : World) (hl : Rc.lock (Cd.held a) (Cd.held b) (Cd.held c) (Cd.held d) = l) :
    Calls Tryz.prog 37 #[lockV a b c d] w (Made w.heap.size l w) := by
  obtain ⟨E1, hE1⟩ : ∃ E, [] ++ Cd.enc (Cd.held a) = E := ⟨_, rfl⟩
  obtain ⟨E2, hE2⟩ : ∃ E, E1 ++ Cd.enc (Cd.held b) = E := ⟨_, rfl⟩
  obtain ⟨E3, hE3⟩ : ∃ E, E2 ++ Cd.enc (Cd.held c) = E := ⟨_, rfl⟩
  obtain ⟨E4, hE4⟩ : ∃ E, E3 ++ Cd.enc (Cd.held d) = E := ⟨_, rfl⟩
  have HR : Hid ([] ++ Fr.frm E4 = l) := Lib.hid (by rw [← hE4, ← hE3, ← hE2, ← hE1]; exact hl)
  have z1 : E1.length = 6 := by rw [← hE1]; simp [Cd.enc_length]
  have z2 : E2.length = 12 := by rw [← hE2, List.length_append, z1]; simp [Cd.enc_length]
  have z3 : E3.length = 18 := by rw [← hE3, List.length_append, z2]; simp [Cd.enc_length]
  have z4 : E4.length = 24 := by rw [← hE4, List.length_append, z3]; simp [Cd.enc_length]
  have C1 : Hid (∀ W, Calls Tryz.prog 54 #[.slice none 0 0, .int .i64 a] W (Made W.heap.size E1 W)) := Lib.hid fun W => num_is _ [] _ a W (bytes_none _) (by simp) hE1
  have C2 : Hid (∀ W u, Bytes W u E1 → Calls Tryz.prog 54 #[u, .int .i64 b] W (Made W.heap.size E2 W)) := Lib.hid fun W u h => num_is u E1 _ b W h (by omega) hE2
  have C3 : Hid (∀ W u, Bytes W u E2 → Calls Tryz.prog 54 #[u, .int .i64 c] W (Made W.heap.size E3 W)) := Lib.hid fun W u h => num_is u E2 _ c W h (by omega) hE3
  have C4 : Hid (∀ W u, Bytes W u E3 → Calls Tryz.prog 54 #[u, .int .i64 d] W (Made W.heap.size E4 W)) := Lib.hid fun W u h => num_is u E3 _ d W h (by omega) hE4
  have C5 : Hid (∀ W u, Bytes W u E4 → Calls Tryz.prog 55 #[.slice none 0 0, u] W (Made W.heap.size l W)) := Lib.hid fun W u h => put_is _ u [] E4 l W (bytes_none W) h (by simp) (by omega) HR.out
  clear hl hE1 hE2 hE3 hE4 z1 z2 z3 z4 HR
  go_enter Tryz.func37, Tryz.ntmps37
  obtain ⟨w1, hw1⟩ : ∃ w1, w.alloc (.cells #[.int .i64 a, .int .i64 b, .int .i64 c, .int .i64 d] 30) = w1 := ⟨_, rfl⟩
  obtain ⟨g, hg⟩ : ∃ g, w.heap.size = g := ⟨_, rfl⟩
  have HB1 : Hid (Below w.heap.size w w1) := Lib.hid (by rw [← hw1]; exact (Below.refl _ _).alloc (Nat.le_refl _) _)
  have HBK : Hid (Blk w1 g 30 #[.int .i64 a, .int .i64 b, .int .i64 c, .int .i64 d]) := Lib.hid (by rw [← hw1, ← hg]; exact heap_alloc_new w _)
  have HK : Hid (∀ W, Below w1.heap.size w1 W → W.cell? ⟨g, 0, none⟩ = some (.int .i64 a) ∧ W.cell? ⟨g, 1, none⟩ = some (.int .i64 b) ∧ W.cell? ⟨g, 2, none⟩ = some (.int .i64 c) ∧ W.cell? ⟨g, 3, none⟩ = some (.int .i64 d)) := Lib.hid fun W hb => by
    have k := HBK.out.under hb
    exact ⟨k.at 0, k.at 1, k.at 2, k.at 3⟩
  go_upto_region 1 with fail
  clear hw1 hg HBK
  have k0 := HK.out w1 (Below.refl _ _)
  have k0' := HK.out w1.drew (Below.refl _ _).drew
  go_region_held (fun w' => w'.cell? ⟨g, 0, none⟩ = some (.int .i64 a) ∧ w'.cell? ⟨g, 1, none⟩ = some (.int .i64 b) ∧ w'.cell? ⟨g, 2, none⟩ = some (.int .i64 c) ∧ w'.cell? ⟨g, 3, none⟩ = some (.int .i64 d)) (first | exact k0 | exact k0' | exact k2 | exact k3 | go_keep)
    (first
    | (go_at_call_of 54 (Value.int .i64 a); refine (C1.out _).mono ?_; rintro e w2 ⟨v2, rfl, ho2, hb2⟩; have hm2 : Below w1.heap.size w1 w2 := (Below.refl _ _).drew.trans hb2; have k2 := HK.out w2 hm2)
    | (go_at_call_of 54 v2; refine (C2.out _ _ ho2.bytes).mono ?_; rintro e w3 ⟨v3, rfl, ho3, hb3⟩; have hm3 : Below w1.heap.size w1 w3 := hm2.trans (hb3.mono hm2.size); have k3 := HK.out w3 hm3))
  have k3' := HK.out w3.drew hm3.drew
  go_upto_region 2 with fail
  go_region_held (fun w' => w'.cell? ⟨g, 0, none⟩ = some (.int .i64 a) ∧ w'.cell? ⟨g, 1, none⟩ = some (.int .i64 b) ∧ w'.cell? ⟨g, 2, none⟩ = some (.int .i64 c) ∧ w'.cell? ⟨g, 3, none⟩ = some (.int .i64 d)) (first | exact k3 | exact k3' | exact k4 | exact k5 | exact k6 | go_keep)
    (first
    | (go_at_call_of 54 v3; refine (C3.out w3.drew _ (ho3.bytes.heap rfl)).mono ?_; rintro e w4 ⟨v4, rfl, ho4, hb4⟩; have hm4 : Below w1.heap.size w1 w4 := hm3.drew.trans (hb4.mono hm3.size); have k4 := HK.out w4 hm4)
    | (go_at_call_of 54 v4; refine (C4.out _ _ ho4.bytes).mono ?_; rintro e w5 ⟨v5, rfl, ho5, hb5⟩; have hm5 : Below w1.heap.size w1 w5 := hm4.trans (hb5.mono hm4.size); have k5 := HK.out w5 hm5)
    | (go_at_call 55; refine (C5.out _ _ ho5.bytes).mono ?_; rintro e w6 ⟨v6, rfl, ho6, hb6⟩; have hm6 : Below w1.heap.size w1 w6 := hm5.trans (hb6.mono hm5.size); have k6 := HK.out w6 hm6; have hz6 := hm5.size))
  go_wp2
  go_ret
  exact ⟨_, rfl, ho6.more (Nat.le_trans HB1.out.size hz6), HB1.out.trans (hm6.mono HB1.out.size)⟩
/-- What a lock that is opened is told as. -/
def lockOf : Option Rc.L4 → Value
  | none => .tuple #[lockV 0 0 0 0, .bool false]
  | some (a, b, c, d) => .tuple #[lockV (a : Int) (b : Int) (c : Int) (d : Int), .bool true]
def OpenLIs (R : Option Rc.L4) (w : World) (e : Ending) (w' : World) : Prop := e = .returned (lockOf R) ∧ Below w.heap.size w w'

set_option maxRecDepth 100000 in
set_option maxHeartbeats 4000000 in
theorem ropenL_any (v : Value) (l : List Nat) (w : World) (h : Bytes w v l) (hl : l.length ≤ 1099511627776) (R : Option Rc.L4) (hR : Rc.openL l = R) :
    Calls Tryz.prog 36 #[v] w (OpenLIs R w) := by
  have HR := Lib.hid hR
  obtain ⟨N, hS⟩ := Fr.ex_scan l
  have HS := Lib.hid hS
  have HONE := Lib.hid (Ar.one_scn hS)
  obtain ⟨_, _, A0, c0, rfl, _, _⟩ := h.parts
  obtain ⟨w0, hw0⟩ : ∃ w0, w.alloc (.cells #[.int .i64 0, .int .i64 0, .int .i64 0, .int .i64 0] 30) = w0 := ⟨_, rfl⟩
  obtain ⟨g0, hg0⟩ : ∃ g, w.heap.size = g := ⟨_, rfl⟩
  have HB0 : Hid (Below w.heap.size w w0) := Lib.hid (by rw [← hw0]; exact (Below.refl _ _).alloc (Nat.le_refl _) _)
  have HRW : Hid (Blk w0 g0 30 #[.int .i64 0, .int .i64 0, .int .i64 0, .int .i64 0]) := Lib.hid (by rw [← hw0, ← hg0]; exact heap_alloc_new w _)
  have HG0 : Hid (w.heap.size ≤ g0) := Lib.hid (by rw [hg0]; exact Nat.le_refl _)
  obtain ⟨n, hn⟩ : ∃ n, l.length = n := ⟨_, rfl⟩
  have H : Hid (Bytes w0 (.slice A0 l.length c0) l) := Lib.hid (by rw [← hw0]; exact h.alloc _)
  rw [hn] at H HONE hl ⊢
  have HN := Lib.hid hn
  have hN := (hS.le (Nat.le_refl N)).2
  have hN2 := (hS.le (Nat.le_refl N)).1
  rw [hn] at hN2
  clear h hn hS hR
  go_enter Tryz.func36, Tryz.ntmps36
  go_wp2_with fail
  clear hw0 hg0
  refine (scan_any _ l N w0 H.out HS.out (by rw [HN.out]; exact hl)).mono ?_
  rintro e w1 ⟨u, rfl, hou, hb1⟩
  have HB1 := Lib.hid hb1
  have HU := Lib.hid hou.rows
  obtain ⟨Au, cu, rfl, _⟩ := hou.parts
  have hrl := Fr.rows_length l N
  rw [hrl] at HU ⊢
  obtain ⟨q, hq⟩ : ∃ q, Fr.pos l N = q := ⟨_, rfl⟩
  rw [hq] at HONE hN hN2 ⊢
  clear hou hb1 hrl hq
  by_cases h1 : N = 1 ∧ q = n
  · obtain ⟨rfl, rfl⟩ := h1
    have ho : Ar.one l = true := by rw [HONE.out]; simp
    obtain ⟨b, off, u, rfl, hcu, hbu⟩ := HU.out.at (k := 0) (by omega)
    rw [Fr.rows_at _ _ _ (by omega)] at hbu
    have hd : Fr.held (l.drop (Fr.pos l 0)) = Fr.held l := rfl
    rw [hd] at hbu
    rw [Nat.add_zero] at hcu
    have hhl := Fr.held_length (b := l) (by simp only [Ar.one, Bool.and_eq_true] at ho; exact ho.1)
    have hht : Fr.told l ≤ 10000 := (Fr.whole_iff.1 (by simp only [Ar.one, Bool.and_eq_true] at ho; exact ho.1)).2.1
    obtain ⟨x, hx⟩ : ∃ x, Fr.held l = x := ⟨_, rfl⟩
    have HR2 : Hid (R = if Cd.endB (Rc.rest4 (some x)) then some (Rc.four (some x)) else none) := Lib.hid (by rw [← HR.out, Rc.openL, ho, hx, Bool.true_and])
    rw [hx] at hbu hhl
    have HBU := Lib.hid hbu
    have hxl : Hid (x.length ≤ 10000) := Lib.hid (by omega)
    obtain ⟨_, _, Ax, cx, rfl, _, _⟩ := hbu.parts
    obtain ⟨xl, hxe⟩ : ∃ k, x.length = k := ⟨_, rfl⟩
    rw [hxe] at HBU hcu
    clear hbu ho hd hhl hht hx hxe HR HONE
    go_wp2_with fail
    refine (read_any _ x w1 HBU.out (by have := hxl.out; omega)).mono ?_
    rintro e w2 ⟨g, rfl, hg1, hg2, hr2, hb2⟩
    have HRD := Lib.hid hr2
    have HB2 := Lib.hid (HB1.out.trans (hb2.mono HB1.out.size))
    have HZ2 := Lib.hid (Nat.le_trans HB1.out.size hg1)
    obtain ⟨s0, hs0⟩ : ∃ s, some x = s := ⟨_, rfl⟩
    obtain ⟨s1, hs1⟩ : ∃ s, Cd.numS s0 1099511627776 = s := ⟨_, rfl⟩
    obtain ⟨s2, hs2⟩ : ∃ s, Cd.numS s1 1099511627776 = s := ⟨_, rfl⟩
    obtain ⟨s3, hs3⟩ : ∃ s, Cd.numS s2 1099511627776 = s := ⟨_, rfl⟩
    obtain ⟨s4, hs4⟩ : ∃ s, Cd.numS s3 1099511627776 = s := ⟨_, rfl⟩
    obtain ⟨n0, hn0⟩ : ∃ s, Cd.numN s0 1099511627776 = s := ⟨_, rfl⟩
    obtain ⟨n1, hn1⟩ : ∃ s, Cd.numN s1 1099511627776 = s := ⟨_, rfl⟩
    obtain ⟨n2, hn2⟩ : ∃ s, Cd.numN s2 1099511627776 = s := ⟨_, rfl⟩
    obtain ⟨n3, hn3⟩ : ∃ s, Cd.numN s3 1099511627776 = s := ⟨_, rfl⟩
    obtain ⟨q, hq⟩ : ∃ q, Cd.endB s4 = q := ⟨_, rfl⟩
    have HR3 : Hid (R = if q then some (n0, n1, n2, n3) else none) := Lib.hid (by rw [HR2.out, hs0, Rc.rest4, Rc.four, Rc.nn, Rc.nn, Rc.nn, Rc.nn, Rc.tt, Rc.tt, Rc.tt, Rc.tt, hs1, hs2, hs3, hs4, hn0, hn1, hn2, hn3, hq])
    rw [hs0] at HRD
    have C0 : Hid (∀ W, Rdr W w1.heap.size g g s0 → Calls Tryz.prog 52 #[.pointer (some ⟨g, 0, none⟩), .int .i64 1099511627776] W (Said w1.heap.size g g s1 (.int .i64 (n0 : Int)) W)) := Lib.hid fun W h => rnum_is _ _ g _ _ _ _ W h hs1 (by rw [hn0])
    have C1 : Hid (∀ W, Rdr W w1.heap.size g g s1 → Calls Tryz.prog 52 #[.pointer (some ⟨g, 0, none⟩), .int .i64 1099511627776] W (Said w1.heap.size g g s2 (.int .i64 (n1 : Int)) W)) := Lib.hid fun W h => rnum_is _ _ g _ _ _ _ W h hs2 (by rw [hn1])
    have C2 : Hid (∀ W, Rdr W w1.heap.size g g s2 → Calls Tryz.prog 52 #[.pointer (some ⟨g, 0, none⟩), .int .i64 1099511627776] W (Said w1.heap.size g g s3 (.int .i64 (n2 : Int)) W)) := Lib.hid fun W h => rnum_is _ _ g _ _ _ _ W h hs3 (by rw [hn2])
    have C3 : Hid (∀ W, Rdr W w1.heap.size g g s3 → Calls Tryz.prog 52 #[.pointer (some ⟨g, 0, none⟩), .int .i64 1099511627776] W (Said w1.heap.size g g s4 (.int .i64 (n3 : Int)) W)) := Lib.hid fun W h => rnum_is _ _ g _ _ _ _ W h hs4 (by rw [hn3])
    have C4 : Hid (∀ W, Rdr W w1.heap.size g g s4 → Calls Tryz.prog 53 #[.pointer (some ⟨g, 0, none⟩)] W fun e w' => e = .returned (.bool q) ∧ W = w') := Lib.hid fun W h => end_is _ _ g _ q W h hq
    clear hg1 hg2 hr2 hb2 hs0 hs1 hs2 hs3 hs4 hn0 hn1 hn2 hn3 hq HR2 HBU HU hcu HB1
    go_wp2_with fail
    refine (C0.out w2 HRD.out).mono ?_
    rintro e w3 ⟨rfl, hr3, hg3⟩
    have HRD3 := Lib.hid hr3
    have HB3 := Lib.hid (HB2.out.trans (Below.ofGrown hg3 HZ2.out HB2.out.size))
    clear hr3 hg3 HRD HB2
    go_wp2_with fail
    refine (C1.out w3 HRD3.out).mono ?_
    rintro e w4 ⟨rfl, hr4, hg4⟩
    have HRD4 := Lib.hid hr4
    have HB4 := Lib.hid (HB3.out.trans (Below.ofGrown hg4 HZ2.out HB3.out.size))
    clear hr4 hg4 HRD3 HB3
    go_wp2_with fail
    refine (C2.out w4 HRD4.out).mono ?_
    rintro e w5 ⟨rfl, hr5, hg5⟩
    have HRD5 := Lib.hid hr5
    have HB5 := Lib.hid (HB4.out.trans (Below.ofGrown hg5 HZ2.out HB4.out.size))
    clear hr5 hg5 HRD4 HB4
    go_wp2_with fail
    refine (C3.out w5 HRD5.out).mono ?_
    rintro e w6 ⟨rfl, hr6, hg6⟩
    have HRD6 := Lib.hid hr6
    have HB6 := Lib.hid (HB5.out.trans (Below.ofGrown hg6 HZ2.out HB5.out.size))
    clear hr6 hg6 HRD5 HB5
    go_wp2_with fail
    refine (C4.out _ (HRD6.out.alloc _)).mono ?_
    rintro e w7 ⟨rfl, rfl⟩
    have HRWo := fun o => (HRW.out.under HB6.out).alloc o
    have b0 := fun o => (HRWo o).at 0
    have b1 := fun o => (HRWo o).at 1
    have b2 := fun o => (HRWo o).at 2
    have b3 := fun o => (HRWo o).at 3
    have f0 := fun o => (HRWo o).free 0
    have f1 := fun o => (HRWo o).free 1
    have f2 := fun o => (HRWo o).free 2
    have f3 := fun o => (HRWo o).free 3
    have HRX := Lib.hid HRWo
    have HBA : Hid (∀ o, Below w.heap.size w (w6.alloc o)) := Lib.hid fun o => (HB0.out.trans (HB6.out.mono HB0.out.size)).alloc (Nat.le_trans HB0.out.size HB6.out.size) o
    clear HRWo
    rcases q with _ | _
    · go_wp2
      refine bodyPost_ret (rresults_cell_tmp rfl _ _ g0 _ _ _ _ rfl (((((HRX.out _).set 0 _).set 1 _).set 2 _).set 3 _) Tryz.underlying30 rfl (by kernel_rfl)) rfl ?_
      exact ⟨by rw [HR3.out]; rfl, ((((HBA.out _).setCell HG0.out _).setCell HG0.out _).setCell HG0.out _).setCell HG0.out _⟩
    · go_wp2
      refine bodyPost_ret (rresults_cell_tmp rfl _ _ g0 _ _ _ _ rfl (((((HRX.out _).set 0 _).set 1 _).set 2 _).set 3 _) Tryz.underlying30 rfl (by kernel_rfl)) rfl ?_
      exact ⟨by rw [HR3.out]; rfl, ((((HBA.out _).setCell HG0.out _).setCell HG0.out _).setCell HG0.out _).setCell HG0.out _⟩
  · have HRN : Hid (R = none) := Lib.hid (by
      rw [← HR.out]
      refine Rc.openL_none_of ?_
      rw [HONE.out]
      by_cases hN1 : N = 1
      · have : q ≠ n := fun e => h1 ⟨hN1, e⟩
        simp [this]
      · simp [hN1])
    have HRWo := HRW.out.under HB1.out
    have b0 := HRWo.at 0
    have b1 := HRWo.at 1
    have b2 := HRWo.at 2
    have b3 := HRWo.at 3
    have f0 := HRWo.free 0
    have f1 := HRWo.free 1
    have f2 := HRWo.free 2
    have f3 := HRWo.free 3
    have HRX := Lib.hid HRWo
    have HBA : Hid (Below w.heap.size w w1) := Lib.hid (HB0.out.trans (HB1.out.mono HB0.out.size))
    clear HRWo
    by_cases hN1 : N = 1
    · subst hN1
      have hqn : ¬ q = n := fun e => h1 ⟨rfl, e⟩
      have hqI : ((q : Int) != (n : Int)) = true := by rw [bne_iff_ne]; omega
      go_wp2
      refine bodyPost_ret (rresults_cell_tmp rfl _ _ g0 _ _ _ _ rfl ((((HRX.out.set 0 _).set 1 _).set 2 _).set 3 _) Tryz.underlying30 rfl (by kernel_rfl)) rfl ?_
      exact ⟨by rw [HRN.out]; rfl, (((HBA.out.setCell HG0.out _).setCell HG0.out _).setCell HG0.out _).setCell HG0.out _⟩
    · have hNI : ((N : Int) != 1) = true := by rw [bne_iff_ne]; omega
      go_wp2
      refine bodyPost_ret (rresults_cell_tmp rfl _ _ g0 _ _ _ _ rfl ((((HRX.out.set 0 _).set 1 _).set 2 _).set 3 _) Tryz.underlying30 rfl (by kernel_rfl)) rfl ?_
      exact ⟨by rw [HRN.out]; rfl, (((HBA.out.setCell HG0.out _).setCell HG0.out _).setCell HG0.out _).setCell HG0.out _⟩
end Go.Proofs.YtfheaognfocofaaGreatDoor
