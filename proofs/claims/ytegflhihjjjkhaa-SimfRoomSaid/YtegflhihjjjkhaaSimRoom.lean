/- SimfRoom: files have as many bytes as there is room, and not one more. -/
import Derived.Test.YtegflhihjjjkhaaSimRoomMath
namespace Go.Proofs.Ytegflhihjjjkhaa
set_option maxRecDepth 100000
open Go.ChangeShapes Go.WideShapes Go.ChangeAt Go.RowKit Go.ChangeMaps
open Sf

/-- What is to be known of the files: all bytes u, room r, at most n stamps; what a has; that there is no d. -/
structure Rm (s : S) (u : Nat) (r : Int) (n : Nat) (x : Option Nat) : Prop where
  used : used s.l = u
  room : s.room = r
  cut : s.cut = -1
  next : s.next ≤ n
  a : (Sf.get s.l [97]).map (fun f => f.b.length) = x
  d : Sf.get s.l [100] = none
theorem f97 : Nm.file [97] = true := by decide
theorem f98 : Nm.file [98] = true := by decide
theorem f99 : Nm.file [99] = true := by decide
theorem f100 : Nm.file [100] = true := by decide
theorem nice_b' : Nice [98] := by constructor <;> simp
theorem nice_c : Nice [99] := by constructor <;> simp
theorem nice_d : Nice [100] := by constructor <;> simp
theorem rm_new (R : Nat) (hR : R ≤ 511) : Rm (new (R : Int)) 0 R 0 none := ⟨rfl, by simp only [new, held]; omega, rfl, Nat.le_refl _, rfl, rfl⟩
theorem rm_put (R N : Nat) (hR : R ≤ 511) (h : N ≤ R) : ∃ s, putS (new (R : Int)) [97] (List.replicate N 0) = (s, 1, 0) ∧ Rm s N R 1 (some N) ∧ stamp s.l [97] = 1 ∧ Sf.get s.l [99] = none := by
  have hr := rm_new R hR
  have hf : fits (new (R : Int)) [97] (List.replicate N 0).length = true := by
    unfold fits
    rw [hr.used, hr.room, List.length_replicate]
    show (decide (N ≤ 0) || decide (((0 : Nat) : Int) + ((N : Int) - ((0 : Nat) : Int)) ≤ (R : Int))) = true
    simp
    omega
  refine ⟨_, putS_yes f97 hf, ⟨?_, hr.room, rfl, Nat.le_refl _, ?_, rfl⟩, rfl, rfl⟩
  · have := used_nat (s := new (R : Int)) List.Pairwise.nil [97] (List.replicate N 0)
    rw [hr.used, List.length_replicate] at this
    have e : Sf.bytes (new (R : Int)).l [97] = [] := rfl
    rw [e] at this
    simpa using this
  · rw [get_wr, if_pos rfl]
    simp
theorem rm_put_no (R N : Nat) (hR : R ≤ 511) (h : ¬ N ≤ R) : putS (new (R : Int)) [97] (List.replicate N 0) = (new (R : Int), 0, 2) := by
  have hr := rm_new R hR
  refine putS_no f97 ?_
  unfold fits
  rw [hr.used, hr.room, List.length_replicate]
  show (decide (N ≤ 0) || decide (((0 : Nat) : Int) + ((N : Int) - ((0 : Nat) : Int)) ≤ (R : Int))) = false
  simp
  omega
theorem rm_app {s : S} {u : Nat} {r : Int} {n : Nat} {x : Option Nat} (h : Rm s u r n x) (hg : Sf.Good s) (hc : Sf.get s.l [99] = none) (M : Nat) :
    ∃ s' st e, app s [98] (List.replicate M 0) [] = (s', st, e) ∧ Rm s' (u + min M (max (r - (u : Int)) 0).toNat) r (n + 1) x ∧ e = (if (M : Int) ≤ max (r - (u : Int)) 0 then 0 else 2) ∧ Sf.get s'.l [99] = none := by
  obtain ⟨s', st, e, he, ha⟩ := apped (s := s) (t := [98]) (b := List.replicate M 0) hg.1 h.cut f98
  refine ⟨s', st, e, he, ⟨?_, ha.room.trans h.room, ha.cut, Nat.le_trans ha.next (Nat.succ_le_succ h.next), ?_, ?_⟩, ?_, ?_⟩
  · have := ha.used
    rw [List.length_replicate, h.used, h.room] at this
    exact this
  · rw [ha.other [97] (by simp)]
    exact h.a
  · rw [ha.other [100] (by simp)]
    exact h.d
  · have := ha.err
    rw [List.length_replicate, h.used, h.room] at this
    exact this
  · rw [ha.other [99] (by simp)]
    exact hc
theorem rm_room {s : S} {u : Nat} {r : Int} {n : Nat} {x : Option Nat} (h : Rm s u r n x) (L : Nat) (hL : L ≤ 63) : Rm { s with room := held (L : Int) } u L n x := ⟨h.used, by simp only [held]; omega, h.cut, h.next, h.a, h.d⟩
/-- Another file is put, and dropped. -/
theorem rm_c {s : S} {u : Nat} {r : Int} {n : Nat} {x : Option Nat} (h : Rm s u r n x) (hg : Sf.Good s) (hc : Sf.get s.l [99] = none) :
    ∃ s' st e, putS s [99] [1] = (s', st, e) ∧ e = (if (u : Int) + 1 ≤ r then 0 else 2) ∧ s'.next ≤ n + 1 ∧ used s'.l ≤ u + 1 ∧ (Sf.Good s' → ∃ s'' e', Sf.drop s' [99] [] = (s'', e') ∧ Rm s'' u r (n + 1) x) := by
  have hb : Sf.bytes s.l [99] = [] := by unfold Sf.bytes; rw [hc]; rfl
  by_cases hq : (u : Int) + 1 ≤ r
  · have hf : fits s [99] [1].length = true := by
      unfold fits
      rw [hb, h.used, h.room]
      simp
      omega
    have hu := used_nat hg.1 [99] [1]
    rw [hb, h.used] at hu
    simp at hu
    refine ⟨_, _, _, putS_yes f99 hf, by rw [if_pos hq], by show s.next + 1 ≤ n + 1; have := h.next; omega, by omega, fun hg' => ?_⟩
    obtain ⟨s'', e', h1, h2, h3, h4, h5, h6⟩ := dropped (wr s [99] [1]) [99] f99 hg'.1
    refine ⟨s'', e', h1, ⟨?_, h4.trans h.room, h3.trans h.cut, by rw [h5]; show s.next + 1 ≤ n + 1; have := h.next; omega, ?_, ?_⟩⟩
    · rw [bytes_wr, if_pos rfl] at h2
      simp at h2
      omega
    · rw [h6 [97] (by simp), get_wr, if_neg (by simp)]
      exact h.a
    · rw [h6 [100] (by simp), get_wr, if_neg (by simp)]
      exact h.d
  · have hf : fits s [99] [1].length = false := by
      unfold fits
      rw [hb, h.used, h.room]
      simp
      omega
    refine ⟨_, _, _, putS_no f99 hf, by rw [if_neg hq], by have := h.next; omega, by rw [h.used]; omega, fun hg' => ?_⟩
    obtain ⟨s'', e', h1, h2, h3, h4, h5, h6⟩ := dropped s [99] f99 hg'.1
    refine ⟨s'', e', h1, ⟨?_, h4.trans h.room, h3.trans h.cut, by rw [h5]; have := h.next; omega, ?_, ?_⟩⟩
    · rw [hb, h.used] at h2
      simpa using h2
    · rw [h6 [97] (by simp)]
      exact h.a
    · rw [h6 [100] (by simp)]
      exact h.d
/-- Written shorter. -/
theorem rm_short {s : S} {u : Nat} {r : Int} {n N : Nat} (h : Rm s u r n (some N)) (hg : Sf.Good s) (hN : 0 < N) :
    ∃ s' st, putS s [97] (List.replicate (N - 1) 0) = (s', st, 0) ∧ Rm s' (u - 1) r (n + 1) (some (N - 1)) ∧ N ≤ u := by
  obtain ⟨f, hf, hfn⟩ := Option.map_eq_some_iff.1 h.a
  have hb : (Sf.bytes s.l [97]).length = N := by unfold Sf.bytes; rw [hf]; exact hfn
  have hu := used_nat hg.1 [97] (List.replicate (N - 1) 0)
  have hle := bytes_le hg.1 [97]
  rw [hb, h.used] at hle
  rw [hb, h.used, List.length_replicate] at hu
  refine ⟨_, _, putS_yes f97 (by unfold fits; rw [hb, List.length_replicate]; simp), ⟨by omega, h.room, h.cut, Nat.succ_le_succ h.next, ?_, ?_⟩, hle⟩
  · rw [get_wr, if_pos rfl]
    simp
  · rw [get_wr, if_neg (by simp)]
    exact h.d
theorem rm_move {s : S} {u : Nat} {r : Int} {n N : Nat} (h : Rm s u r n (some N)) (hg : Sf.Good s) : ∃ s' st, Sf.move s [97] [100] [] = (s', st, 0) ∧ used s'.l = u := by
  obtain ⟨f, hf, _⟩ := Option.map_eq_some_iff.1 h.a
  obtain ⟨h1, h2⟩ := moved s [97] [100] f97 f100 (by simp) (by rw [hf]; rfl) h.d hg.1
  exact ⟨_, _, h1, h2.trans h.used⟩

set_option maxHeartbeats 8000000 in
theorem room_law (ra na ma la : Int) (w : World) : Calls Try.prog 3 #[.int .i64 ra, .int .i64 na, .int .i64 ma, .int .i64 la] w fun e w' => e = .returned (.bool true) ∧ Below w.heap.size w w' := by
  obtain ⟨R, hR, hR2⟩ := cand_low ra 511 (by omega)
  change bits .and .i64 ra 511 = (R : Int) at hR
  obtain ⟨N, hN, hN2⟩ := cand_low na 511 (by omega)
  change bits .and .i64 na 511 = (N : Int) at hN
  obtain ⟨M, hM, hM2⟩ := cand_low ma 511 (by omega)
  change bits .and .i64 ma 511 = (M : Int) at hM
  obtain ⟨L, hL, hL2⟩ := cand_low la 63 (by omega)
  change bits .and .i64 la 63 = (L : Int) at hL
  have hmkN := fun W => run_make_row' (P := Try.prog) 27 5 (.int .u8 0) 1 Try.underlying27 infoU8 rfl .i64 .i64 N (by omega) (by omega) W
  have hmkM := fun W => run_make_row' (P := Try.prog) 27 5 (.int .u8 0) 1 Try.underlying27 infoU8 rfl .i64 .i64 M (by omega) (by omega) W
  have HB := Lib.hid (And.intro hR2 (And.intro hN2 (And.intro hM2 hL2)))
  by_cases hNR : N ≤ R
  · obtain ⟨s1, hs1, hr1, hst1, hc1⟩ := rm_put R N hR2 hNR
    have HS1 := Lib.hid hs1
    have HR1 := Lib.hid hr1
    have HC1 := Lib.hid hc1
    have hle1 : decide (N ≤ R) = true := decide_eq_true hNR
    have hmx : max ((R : Int) - (N : Int)) 0 = (R : Int) - (N : Int) := by omega
    obtain ⟨G, hG⟩ : ∃ G : Nat, min (M : Int) ((R : Int) - (N : Int)) = (G : Int) := ⟨(min (M : Int) ((R : Int) - (N : Int))).toNat, by omega⟩
    have hmn := fun (W : World) ts t => run_low2 (P := Try.prog) W ts t (M : Int) ((R : Int) - (N : Int)) G hG
    have HG := Lib.hid (And.intro hG hmx)
    have hGM : G ≤ M := by omega
    clear hs1 hr1 hc1 hst1 hG hmx
    go_enter Try.func3, Try.ntmps3
    go_wp2_with fail
    refine (fs_new R w).mono ?_
    rintro e w1 ⟨p, rfl, h1⟩
    have H1 := Lib.hid h1
    clear h1
    go_wp2_with fail
    refine (fs_put [97] (List.replicate N 0) _ w _ p (new R) (H1.out.alloc _) nice_a (zbytes w1 N (by omega)) (by simp [new]) (by simp [new, used]; omega)).mono ?_
    rw [HS1.out]
    rintro e w2 ⟨rfl, h2⟩
    have H2 := Lib.hid h2
    clear h2
    obtain ⟨s2, st2, e2, hs2, hr2, he2, hc2⟩ := rm_app HR1.out H2.out.good HC1.out M
    have HS2 := Lib.hid hs2
    have HC2 := Lib.hid hc2
    rw [HG.out.2] at hr2 he2
    have HR2 : Hid (Rm s2 (N + G) R (1 + 1) (some N)) := Lib.hid (by rw [show N + G = N + min M ((R : Int) - (N : Int)).toNat from by have := HG.out.1; omega]; exact hr2)
    have HE2 := Lib.hid he2
    clear hs2 hr2 he2 hc2
    go_wp2_with fail
    refine (fs_app [98] (List.replicate M 0) [] _ _ w w2 _ p _ H2.out ((Below.refl _ _).alloc (Nat.le_refl _) _) nice_b' (zbytes w2 M (by omega)) (by intro k hk; simp [Value.ownBlock] at hk; omega) (rdG_none _ 0 none) (by simp) (by have := HR1.out.next; omega) (by rw [HR1.out.used, List.length_replicate]; omega)).mono ?_
    rw [HS2.out]
    by_cases hq2 : N + M ≤ R
    · have he : e2 = 0 := by rw [HE2.out, if_pos (by omega)]
      subst he
      have hd2 : decide (N + M ≤ R) = true := decide_eq_true hq2
      have hd2i : (N : Int) + (M : Int) ≤ (R : Int) := by omega
      clear hq2
      rintro e w3 ⟨rfl, h3⟩
      have H3 := Lib.hid h3
      clear h3
      go_wp2_with fail
      refine (fs_used w _ p _ H3.out).mono ?_
      rintro e w4 ⟨rfl, rfl⟩
      rw [HR2.out.used]
      go_wp2_with fail
      refine (fs_room (L : Int) w _ p _ H3.out).mono ?_
      rintro e w5 ⟨rfl, h5⟩
      have H5 := Lib.hid h5
      have HR5 := Lib.hid (rm_room HR2.out L HB.out.2.2.2)
      clear h5
      go_wp2_with fail
      refine (fs_used w _ p _ H5.out).mono ?_
      rintro e w6 ⟨rfl, rfl⟩
      rw [HR5.out.used]
      obtain ⟨s6, st6, e6, hs6, he6, hn6, hu6, hd6⟩ := rm_c HR5.out H5.out.good (by exact HC2.out)
      have HS6 := Lib.hid hs6
      have HD6 := Lib.hid hd6
      have HN6 := Lib.hid (And.intro hn6 hu6)
      by_cases hh : N + G + 1 ≤ L
      · have he : e6 = 0 := by rw [he6, if_pos (by omega)]
        subst he
        have hd3 : decide (N + G + 1 ≤ L) = true := decide_eq_true hh
        have hd3i : (N : Int) + (G : Int) + 1 ≤ (L : Int) := by omega
        clear hs6 he6 hn6 hu6 hd6 hh
        go_wp2_with fail
        refine (fs_put [99] [1] _ w _ p _ (H5.out.alloc _) nice_c (bytes_new _ _ rfl [1] _ _ (by simp) (by simp)) (by have := HR5.out.next; simp only at this ⊢; omega) (by rw [HR5.out.used]; simp; have := HB.out; omega)).mono ?_
        rw [HS6.out]
        rintro e w7 ⟨rfl, h7⟩
        have H7 := Lib.hid h7
        clear h7
        go_wp2_with fail
        obtain ⟨s8, e8, hs8, hr8⟩ := HD6.out H7.out.good
        have HS8 := Lib.hid hs8
        have HR8 := Lib.hid hr8
        clear hs8 hr8 hd3 hd3i
        refine (fs_drop [99] [] _ w _ p _ H7.out nice_c (rdG_none _ 0 none) (by simp) (by have := HN6.out; have := HB.out; omega)).mono ?_
        rw [HS8.out]
        rintro e w8 ⟨rfl, h8⟩
        have H8 := Lib.hid h8
        clear h8
        by_cases hN0 : 0 < N
        · have HN0 := Lib.hid hN0
          obtain ⟨N1, hN1⟩ : ∃ N1, N - 1 = N1 := ⟨_, rfl⟩
          have hn1 : (N : Int) - 1 = (N1 : Int) := by omega
          have hN11 : N1 ≤ 511 := by omega
          have hmk1 := fun W => run_make_row' (P := Try.prog) 27 5 (.int .u8 0) 1 Try.underlying27 infoU8 rfl .i64 .i64 N1 (by omega) (by omega) W
          obtain ⟨s9, st9, hs9, hr9, hNu⟩ := rm_short HR8.out H8.out.good hN0
          rw [hN1] at hs9
          have HS9 := Lib.hid hs9
          have HR9 : Hid (Rm s9 (N1 + G) L (1 + 1 + 1 + 1) (some N1)) := Lib.hid (by rw [hN1] at hr9; rw [show N1 + G = N + G - 1 from by omega]; exact hr9)
          clear hs9 hr9 hNu hN1
          go_wp2_with fail
          refine (fs_put [97] (List.replicate N1 0) _ w _ p _ (H8.out.alloc _) nice_a (zbytes _ N1 (by omega)) (by have := HR8.out.next; omega) (by rw [HR8.out.used, List.length_replicate]; have := HB.out; omega)).mono ?_
          rw [HS9.out]
          rintro e w9 ⟨rfl, h9⟩
          have H9 := Lib.hid h9
          clear h9
          go_wp2_with fail
          refine (fs_used w _ p _ H9.out).mono ?_
          rintro e w10 ⟨rfl, rfl⟩
          rw [HR9.out.used]
          obtain ⟨s10, st10, hs10, hu10⟩ := rm_move HR9.out H9.out.good
          have HS10 := Lib.hid hs10
          have HU10 := Lib.hid hu10
          clear hs10 hu10
          go_wp2_with fail
          refine (fs_move [97] [100] [] _ w _ p _ H9.out nice_a nice_d (rdG_none _ 0 none) (by simp) (by have := HR9.out.next; omega) (by rw [HR9.out.used]; have := HB.out; omega)).mono ?_
          rw [HS10.out]
          rintro e w11 ⟨rfl, h11⟩
          have HX := Lib.hid h11
          clear h11
          go_wp2_with fail
          refine (fs_used w _ p _ HX.out).mono ?_
          rintro e w12 ⟨rfl, rfl⟩
          rw [HU10.out]
          go_wp2_with fail
          refine (fawake_any _).mono ?_
          rintro e wz ⟨rfl, hb⟩
          have HBZ := Lib.hid (HX.out.below.trans (hb.mono HX.out.below.size))
          clear hb
          go_wp2
          go_ret
          exact ⟨rfl, HBZ.out⟩
        · have HX := H8
          go_wp2_with fail
          refine (fawake_any _).mono ?_
          rintro e wz ⟨rfl, hb⟩
          have HBZ := Lib.hid (HX.out.below.trans (hb.mono HX.out.below.size))
          clear hb
          go_wp2
          go_ret
          exact ⟨rfl, HBZ.out⟩
      · have he : e6 = 2 := by rw [he6, if_neg (by omega)]
        subst he
        have hd3 : decide (N + G + 1 ≤ L) = false := decide_eq_false hh
        have hd3i : ¬ (N : Int) + (G : Int) + 1 ≤ (L : Int) := by omega
        clear hs6 he6 hn6 hu6 hd6 hh
        go_wp2_with fail
        refine (fs_put [99] [1] _ w _ p _ (H5.out.alloc _) nice_c (bytes_new _ _ rfl [1] _ _ (by simp) (by simp)) (by have := HR5.out.next; simp only at this ⊢; omega) (by rw [HR5.out.used]; simp; have := HB.out; omega)).mono ?_
        rw [HS6.out]
        rintro e w7 ⟨rfl, h7⟩
        have H7 := Lib.hid h7
        clear h7
        go_wp2_with fail
        obtain ⟨s8, e8, hs8, hr8⟩ := HD6.out H7.out.good
        have HS8 := Lib.hid hs8
        have HR8 := Lib.hid hr8
        clear hs8 hr8 hd3 hd3i
        refine (fs_drop [99] [] _ w _ p _ H7.out nice_c (rdG_none _ 0 none) (by simp) (by have := HN6.out; have := HB.out; omega)).mono ?_
        rw [HS8.out]
        rintro e w8 ⟨rfl, h8⟩
        have H8 := Lib.hid h8
        clear h8
        by_cases hN0 : 0 < N
        · have HN0 := Lib.hid hN0
          obtain ⟨N1, hN1⟩ : ∃ N1, N - 1 = N1 := ⟨_, rfl⟩
          have hn1 : (N : Int) - 1 = (N1 : Int) := by omega
          have hN11 : N1 ≤ 511 := by omega
          have hmk1 := fun W => run_make_row' (P := Try.prog) 27 5 (.int .u8 0) 1 Try.underlying27 infoU8 rfl .i64 .i64 N1 (by omega) (by omega) W
          obtain ⟨s9, st9, hs9, hr9, hNu⟩ := rm_short HR8.out H8.out.good hN0
          rw [hN1] at hs9
          have HS9 := Lib.hid hs9
          have HR9 : Hid (Rm s9 (N1 + G) L (1 + 1 + 1 + 1) (some N1)) := Lib.hid (by rw [hN1] at hr9; rw [show N1 + G = N + G - 1 from by omega]; exact hr9)
          clear hs9 hr9 hNu hN1
          go_wp2_with fail
          refine (fs_put [97] (List.replicate N1 0) _ w _ p _ (H8.out.alloc _) nice_a (zbytes _ N1 (by omega)) (by have := HR8.out.next; omega) (by rw [HR8.out.used, List.length_replicate]; have := HB.out; omega)).mono ?_
          rw [HS9.out]
          rintro e w9 ⟨rfl, h9⟩
          have H9 := Lib.hid h9
          clear h9
          go_wp2_with fail
          refine (fs_used w _ p _ H9.out).mono ?_
          rintro e w10 ⟨rfl, rfl⟩
          rw [HR9.out.used]
          obtain ⟨s10, st10, hs10, hu10⟩ := rm_move HR9.out H9.out.good
          have HS10 := Lib.hid hs10
          have HU10 := Lib.hid hu10
          clear hs10 hu10
          go_wp2_with fail
          refine (fs_move [97] [100] [] _ w _ p _ H9.out nice_a nice_d (rdG_none _ 0 none) (by simp) (by have := HR9.out.next; omega) (by rw [HR9.out.used]; have := HB.out; omega)).mono ?_
          rw [HS10.out]
          rintro e w11 ⟨rfl, h11⟩
          have HX := Lib.hid h11
          clear h11
          go_wp2_with fail
          refine (fs_used w _ p _ HX.out).mono ?_
          rintro e w12 ⟨rfl, rfl⟩
          rw [HU10.out]
          go_wp2_with fail
          refine (fawake_any _).mono ?_
          rintro e wz ⟨rfl, hb⟩
          have HBZ := Lib.hid (HX.out.below.trans (hb.mono HX.out.below.size))
          clear hb
          go_wp2
          go_ret
          exact ⟨rfl, HBZ.out⟩
        · have HX := H8
          go_wp2_with fail
          refine (fawake_any _).mono ?_
          rintro e wz ⟨rfl, hb⟩
          have HBZ := Lib.hid (HX.out.below.trans (hb.mono HX.out.below.size))
          clear hb
          go_wp2
          go_ret
          exact ⟨rfl, HBZ.out⟩
    · have he : e2 = 2 := by rw [HE2.out, if_neg (by omega)]
      subst he
      have hd2 : decide (N + M ≤ R) = false := decide_eq_false hq2
      have hd2i : ¬ (N : Int) + (M : Int) ≤ (R : Int) := by omega
      clear hq2
      rintro e w3 ⟨rfl, h3⟩
      have H3 := Lib.hid h3
      clear h3
      go_wp2_with fail
      refine (fs_used w _ p _ H3.out).mono ?_
      rintro e w4 ⟨rfl, rfl⟩
      rw [HR2.out.used]
      go_wp2_with fail
      refine (fs_room (L : Int) w _ p _ H3.out).mono ?_
      rintro e w5 ⟨rfl, h5⟩
      have H5 := Lib.hid h5
      have HR5 := Lib.hid (rm_room HR2.out L HB.out.2.2.2)
      clear h5
      go_wp2_with fail
      refine (fs_used w _ p _ H5.out).mono ?_
      rintro e w6 ⟨rfl, rfl⟩
      rw [HR5.out.used]
      obtain ⟨s6, st6, e6, hs6, he6, hn6, hu6, hd6⟩ := rm_c HR5.out H5.out.good (by exact HC2.out)
      have HS6 := Lib.hid hs6
      have HD6 := Lib.hid hd6
      have HN6 := Lib.hid (And.intro hn6 hu6)
      by_cases hh : N + G + 1 ≤ L
      · have he : e6 = 0 := by rw [he6, if_pos (by omega)]
        subst he
        have hd3 : decide (N + G + 1 ≤ L) = true := decide_eq_true hh
        have hd3i : (N : Int) + (G : Int) + 1 ≤ (L : Int) := by omega
        clear hs6 he6 hn6 hu6 hd6 hh
        go_wp2_with fail
        refine (fs_put [99] [1] _ w _ p _ (H5.out.alloc _) nice_c (bytes_new _ _ rfl [1] _ _ (by simp) (by simp)) (by have := HR5.out.next; simp only at this ⊢; omega) (by rw [HR5.out.used]; simp; have := HB.out; omega)).mono ?_
        rw [HS6.out]
        rintro e w7 ⟨rfl, h7⟩
        have H7 := Lib.hid h7
        clear h7
        go_wp2_with fail
        obtain ⟨s8, e8, hs8, hr8⟩ := HD6.out H7.out.good
        have HS8 := Lib.hid hs8
        have HR8 := Lib.hid hr8
        clear hs8 hr8 hd3 hd3i
        refine (fs_drop [99] [] _ w _ p _ H7.out nice_c (rdG_none _ 0 none) (by simp) (by have := HN6.out; have := HB.out; omega)).mono ?_
        rw [HS8.out]
        rintro e w8 ⟨rfl, h8⟩
        have H8 := Lib.hid h8
        clear h8
        by_cases hN0 : 0 < N
        · have HN0 := Lib.hid hN0
          obtain ⟨N1, hN1⟩ : ∃ N1, N - 1 = N1 := ⟨_, rfl⟩
          have hn1 : (N : Int) - 1 = (N1 : Int) := by omega
          have hN11 : N1 ≤ 511 := by omega
          have hmk1 := fun W => run_make_row' (P := Try.prog) 27 5 (.int .u8 0) 1 Try.underlying27 infoU8 rfl .i64 .i64 N1 (by omega) (by omega) W
          obtain ⟨s9, st9, hs9, hr9, hNu⟩ := rm_short HR8.out H8.out.good hN0
          rw [hN1] at hs9
          have HS9 := Lib.hid hs9
          have HR9 : Hid (Rm s9 (N1 + G) L (1 + 1 + 1 + 1) (some N1)) := Lib.hid (by rw [hN1] at hr9; rw [show N1 + G = N + G - 1 from by omega]; exact hr9)
          clear hs9 hr9 hNu hN1
          go_wp2_with fail
          refine (fs_put [97] (List.replicate N1 0) _ w _ p _ (H8.out.alloc _) nice_a (zbytes _ N1 (by omega)) (by have := HR8.out.next; omega) (by rw [HR8.out.used, List.length_replicate]; have := HB.out; omega)).mono ?_
          rw [HS9.out]
          rintro e w9 ⟨rfl, h9⟩
          have H9 := Lib.hid h9
          clear h9
          go_wp2_with fail
          refine (fs_used w _ p _ H9.out).mono ?_
          rintro e w10 ⟨rfl, rfl⟩
          rw [HR9.out.used]
          obtain ⟨s10, st10, hs10, hu10⟩ := rm_move HR9.out H9.out.good
          have HS10 := Lib.hid hs10
          have HU10 := Lib.hid hu10
          clear hs10 hu10
          go_wp2_with fail
          refine (fs_move [97] [100] [] _ w _ p _ H9.out nice_a nice_d (rdG_none _ 0 none) (by simp) (by have := HR9.out.next; omega) (by rw [HR9.out.used]; have := HB.out; omega)).mono ?_
          rw [HS10.out]
          rintro e w11 ⟨rfl, h11⟩
          have HX := Lib.hid h11
          clear h11
          go_wp2_with fail
          refine (fs_used w _ p _ HX.out).mono ?_
          rintro e w12 ⟨rfl, rfl⟩
          rw [HU10.out]
          go_wp2_with fail
          refine (fawake_any _).mono ?_
          rintro e wz ⟨rfl, hb⟩
          have HBZ := Lib.hid (HX.out.below.trans (hb.mono HX.out.below.size))
          clear hb
          go_wp2
          go_ret
          exact ⟨rfl, HBZ.out⟩
        · have HX := H8
          go_wp2_with fail
          refine (fawake_any _).mono ?_
          rintro e wz ⟨rfl, hb⟩
          have HBZ := Lib.hid (HX.out.below.trans (hb.mono HX.out.below.size))
          clear hb
          go_wp2
          go_ret
          exact ⟨rfl, HBZ.out⟩
      · have he : e6 = 2 := by rw [he6, if_neg (by omega)]
        subst he
        have hd3 : decide (N + G + 1 ≤ L) = false := decide_eq_false hh
        have hd3i : ¬ (N : Int) + (G : Int) + 1 ≤ (L : Int) := by omega
        clear hs6 he6 hn6 hu6 hd6 hh
        go_wp2_with fail
        refine (fs_put [99] [1] _ w _ p _ (H5.out.alloc _) nice_c (bytes_new _ _ rfl [1] _ _ (by simp) (by simp)) (by have := HR5.out.next; simp only at this ⊢; omega) (by rw [HR5.out.used]; simp; have := HB.out; omega)).mono ?_
        rw [HS6.out]
        rintro e w7 ⟨rfl, h7⟩
        have H7 := Lib.hid h7
        clear h7
        go_wp2_with fail
        obtain ⟨s8, e8, hs8, hr8⟩ := HD6.out H7.out.good
        have HS8 := Lib.hid hs8
        have HR8 := Lib.hid hr8
        clear hs8 hr8 hd3 hd3i
        refine (fs_drop [99] [] _ w _ p _ H7.out nice_c (rdG_none _ 0 none) (by simp) (by have := HN6.out; have := HB.out; omega)).mono ?_
        rw [HS8.out]
        rintro e w8 ⟨rfl, h8⟩
        have H8 := Lib.hid h8
        clear h8
        by_cases hN0 : 0 < N
        · have HN0 := Lib.hid hN0
          obtain ⟨N1, hN1⟩ : ∃ N1, N - 1 = N1 := ⟨_, rfl⟩
          have hn1 : (N : Int) - 1 = (N1 : Int) := by omega
          have hN11 : N1 ≤ 511 := by omega
          have hmk1 := fun W => run_make_row' (P := Try.prog) 27 5 (.int .u8 0) 1 Try.underlying27 infoU8 rfl .i64 .i64 N1 (by omega) (by omega) W
          obtain ⟨s9, st9, hs9, hr9, hNu⟩ := rm_short HR8.out H8.out.good hN0
          rw [hN1] at hs9
          have HS9 := Lib.hid hs9
          have HR9 : Hid (Rm s9 (N1 + G) L (1 + 1 + 1 + 1) (some N1)) := Lib.hid (by rw [hN1] at hr9; rw [show N1 + G = N + G - 1 from by omega]; exact hr9)
          clear hs9 hr9 hNu hN1
          go_wp2_with fail
          refine (fs_put [97] (List.replicate N1 0) _ w _ p _ (H8.out.alloc _) nice_a (zbytes _ N1 (by omega)) (by have := HR8.out.next; omega) (by rw [HR8.out.used, List.length_replicate]; have := HB.out; omega)).mono ?_
          rw [HS9.out]
          rintro e w9 ⟨rfl, h9⟩
          have H9 := Lib.hid h9
          clear h9
          go_wp2_with fail
          refine (fs_used w _ p _ H9.out).mono ?_
          rintro e w10 ⟨rfl, rfl⟩
          rw [HR9.out.used]
          obtain ⟨s10, st10, hs10, hu10⟩ := rm_move HR9.out H9.out.good
          have HS10 := Lib.hid hs10
          have HU10 := Lib.hid hu10
          clear hs10 hu10
          go_wp2_with fail
          refine (fs_move [97] [100] [] _ w _ p _ H9.out nice_a nice_d (rdG_none _ 0 none) (by simp) (by have := HR9.out.next; omega) (by rw [HR9.out.used]; have := HB.out; omega)).mono ?_
          rw [HS10.out]
          rintro e w11 ⟨rfl, h11⟩
          have HX := Lib.hid h11
          clear h11
          go_wp2_with fail
          refine (fs_used w _ p _ HX.out).mono ?_
          rintro e w12 ⟨rfl, rfl⟩
          rw [HU10.out]
          go_wp2_with fail
          refine (fawake_any _).mono ?_
          rintro e wz ⟨rfl, hb⟩
          have HBZ := Lib.hid (HX.out.below.trans (hb.mono HX.out.below.size))
          clear hb
          go_wp2
          go_ret
          exact ⟨rfl, HBZ.out⟩
        · have HX := H8
          go_wp2_with fail
          refine (fawake_any _).mono ?_
          rintro e wz ⟨rfl, hb⟩
          have HBZ := Lib.hid (HX.out.below.trans (hb.mono HX.out.below.size))
          clear hb
          go_wp2
          go_ret
          exact ⟨rfl, HBZ.out⟩
  · have HS1 := Lib.hid (rm_put_no R N hR2 hNR)
    have HR1 := Lib.hid (rm_new R hR2)
    have hle1 : decide (N ≤ R) = false := decide_eq_false hNR
    have hle1i : ¬ (N : Int) ≤ (R : Int) := by omega
    obtain ⟨G, hG⟩ : ∃ G : Nat, min (M : Int) (R : Int) = (G : Int) := ⟨(min (M : Int) (R : Int)).toNat, by omega⟩
    have hmn := fun (W : World) ts t => run_low2 (P := Try.prog) W ts t (M : Int) (R : Int) G hG
    have HG := Lib.hid hG
    have hGM : G ≤ M := by omega
    clear hG
    go_enter Try.func3, Try.ntmps3
    go_wp2_with fail
    refine (fs_new R w).mono ?_
    rintro e w1 ⟨p, rfl, h1⟩
    have H1 := Lib.hid h1
    clear h1
    go_wp2_with fail
    refine (fs_put [97] (List.replicate N 0) _ w _ p (new R) (H1.out.alloc _) nice_a (zbytes w1 N (by omega)) (by simp [new]) (by simp [new, used]; omega)).mono ?_
    rw [HS1.out]
    rintro e w2 ⟨rfl, h2⟩
    have H2 := Lib.hid h2
    clear h2
    go_wp2_with fail
    refine (fs_stamp [97] w _ p _ H2.out nice_a).mono ?_
    rintro e w2' ⟨rfl, rfl⟩
    rw [show stamp (new (R : Int)).l [97] = 0 from rfl]
    obtain ⟨s2, st2, e2, hs2, hr2, he2, hc2⟩ := rm_app HR1.out H2.out.good rfl M
    have HS2 := Lib.hid hs2
    have HC2 := Lib.hid hc2
    have HR2 : Hid (Rm s2 G R (0 + 1) none) := Lib.hid (by rw [show G = 0 + min M (max ((R : Int) - ((0 : Nat) : Int)) 0).toNat from by have := HG.out; omega]; exact hr2)
    have HE2 := Lib.hid he2
    clear hs2 hr2 he2 hc2
    go_wp2_with fail
    refine (fs_app [98] (List.replicate M 0) [] _ _ w w2 _ p _ H2.out ((Below.refl _ _).alloc (Nat.le_refl _) _) nice_b' (zbytes w2 M (by omega)) (by intro k hk; simp [Value.ownBlock] at hk; omega) (rdG_none _ 0 none) (by simp) (by have := HR1.out.next; omega) (by rw [HR1.out.used, List.length_replicate]; omega)).mono ?_
    rw [HS2.out]
    by_cases hq2 : M ≤ R
    · have he : e2 = 0 := by rw [HE2.out, if_pos (by omega)]
      subst he
      have hd2 : decide (M ≤ R) = true := decide_eq_true hq2
      have hd2i : (M : Int) ≤ (R : Int) := by omega
      clear hq2
      rintro e w3 ⟨rfl, h3⟩
      have H3 := Lib.hid h3
      clear h3
      go_wp2_with fail
      refine (fs_used w _ p _ H3.out).mono ?_
      rintro e w4 ⟨rfl, rfl⟩
      rw [HR2.out.used]
      go_wp2_with fail
      refine (fs_room (L : Int) w _ p _ H3.out).mono ?_
      rintro e w5 ⟨rfl, h5⟩
      have H5 := Lib.hid h5
      have HR5 := Lib.hid (rm_room HR2.out L HB.out.2.2.2)
      clear h5
      go_wp2_with fail
      refine (fs_used w _ p _ H5.out).mono ?_
      rintro e w6 ⟨rfl, rfl⟩
      rw [HR5.out.used]
      obtain ⟨s6, st6, e6, hs6, he6, hn6, hu6, hd6⟩ := rm_c HR5.out H5.out.good (by exact HC2.out)
      have HS6 := Lib.hid hs6
      have HD6 := Lib.hid hd6
      have HN6 := Lib.hid (And.intro hn6 hu6)
      by_cases hh : G + 1 ≤ L
      · have he : e6 = 0 := by rw [he6, if_pos (by omega)]
        subst he
        have hd3 : decide (G + 1 ≤ L) = true := decide_eq_true hh
        have hd3i : (G : Int) + 1 ≤ (L : Int) := by omega
        clear hs6 he6 hn6 hu6 hd6 hh
        go_wp2_with fail
        refine (fs_put [99] [1] _ w _ p _ (H5.out.alloc _) nice_c (bytes_new _ _ rfl [1] _ _ (by simp) (by simp)) (by have := HR5.out.next; simp only at this ⊢; omega) (by rw [HR5.out.used]; simp; have := HB.out; omega)).mono ?_
        rw [HS6.out]
        rintro e w7 ⟨rfl, h7⟩
        have H7 := Lib.hid h7
        clear h7
        go_wp2_with fail
        obtain ⟨s8, e8, hs8, hr8⟩ := HD6.out H7.out.good
        have HS8 := Lib.hid hs8
        have HR8 := Lib.hid hr8
        clear hs8 hr8 hd3 hd3i
        refine (fs_drop [99] [] _ w _ p _ H7.out nice_c (rdG_none _ 0 none) (by simp) (by have := HN6.out; have := HB.out; omega)).mono ?_
        rw [HS8.out]
        rintro e w8 ⟨rfl, h8⟩
        have H8 := Lib.hid h8
        clear h8
        have HX := H8
        go_wp2_with fail
        refine (fawake_any _).mono ?_
        rintro e wz ⟨rfl, hb⟩
        have HBZ := Lib.hid (HX.out.below.trans (hb.mono HX.out.below.size))
        clear hb
        go_wp2
        go_ret
        exact ⟨rfl, HBZ.out⟩
      · have he : e6 = 2 := by rw [he6, if_neg (by omega)]
        subst he
        have hd3 : decide (G + 1 ≤ L) = false := decide_eq_false hh
        have hd3i : ¬ (G : Int) + 1 ≤ (L : Int) := by omega
        clear hs6 he6 hn6 hu6 hd6 hh
        go_wp2_with fail
        refine (fs_put [99] [1] _ w _ p _ (H5.out.alloc _) nice_c (bytes_new _ _ rfl [1] _ _ (by simp) (by simp)) (by have := HR5.out.next; simp only at this ⊢; omega) (by rw [HR5.out.used]; simp; have := HB.out; omega)).mono ?_
        rw [HS6.out]
        rintro e w7 ⟨rfl, h7⟩
        have H7 := Lib.hid h7
        clear h7
        go_wp2_with fail
        obtain ⟨s8, e8, hs8, hr8⟩ := HD6.out H7.out.good
        have HS8 := Lib.hid hs8
        have HR8 := Lib.hid hr8
        clear hs8 hr8 hd3 hd3i
        refine (fs_drop [99] [] _ w _ p _ H7.out nice_c (rdG_none _ 0 none) (by simp) (by have := HN6.out; have := HB.out; omega)).mono ?_
        rw [HS8.out]
        rintro e w8 ⟨rfl, h8⟩
        have H8 := Lib.hid h8
        clear h8
        have HX := H8
        go_wp2_with fail
        refine (fawake_any _).mono ?_
        rintro e wz ⟨rfl, hb⟩
        have HBZ := Lib.hid (HX.out.below.trans (hb.mono HX.out.below.size))
        clear hb
        go_wp2
        go_ret
        exact ⟨rfl, HBZ.out⟩
    · have he : e2 = 2 := by rw [HE2.out, if_neg (by omega)]
      subst he
      have hd2 : decide (M ≤ R) = false := decide_eq_false hq2
      have hd2i : ¬ (M : Int) ≤ (R : Int) := by omega
      clear hq2
      rintro e w3 ⟨rfl, h3⟩
      have H3 := Lib.hid h3
      clear h3
      go_wp2_with fail
      refine (fs_used w _ p _ H3.out).mono ?_
      rintro e w4 ⟨rfl, rfl⟩
      rw [HR2.out.used]
      go_wp2_with fail
      refine (fs_room (L : Int) w _ p _ H3.out).mono ?_
      rintro e w5 ⟨rfl, h5⟩
      have H5 := Lib.hid h5
      have HR5 := Lib.hid (rm_room HR2.out L HB.out.2.2.2)
      clear h5
      go_wp2_with fail
      refine (fs_used w _ p _ H5.out).mono ?_
      rintro e w6 ⟨rfl, rfl⟩
      rw [HR5.out.used]
      obtain ⟨s6, st6, e6, hs6, he6, hn6, hu6, hd6⟩ := rm_c HR5.out H5.out.good (by exact HC2.out)
      have HS6 := Lib.hid hs6
      have HD6 := Lib.hid hd6
      have HN6 := Lib.hid (And.intro hn6 hu6)
      by_cases hh : G + 1 ≤ L
      · have he : e6 = 0 := by rw [he6, if_pos (by omega)]
        subst he
        have hd3 : decide (G + 1 ≤ L) = true := decide_eq_true hh
        have hd3i : (G : Int) + 1 ≤ (L : Int) := by omega
        clear hs6 he6 hn6 hu6 hd6 hh
        go_wp2_with fail
        refine (fs_put [99] [1] _ w _ p _ (H5.out.alloc _) nice_c (bytes_new _ _ rfl [1] _ _ (by simp) (by simp)) (by have := HR5.out.next; simp only at this ⊢; omega) (by rw [HR5.out.used]; simp; have := HB.out; omega)).mono ?_
        rw [HS6.out]
        rintro e w7 ⟨rfl, h7⟩
        have H7 := Lib.hid h7
        clear h7
        go_wp2_with fail
        obtain ⟨s8, e8, hs8, hr8⟩ := HD6.out H7.out.good
        have HS8 := Lib.hid hs8
        have HR8 := Lib.hid hr8
        clear hs8 hr8 hd3 hd3i
        refine (fs_drop [99] [] _ w _ p _ H7.out nice_c (rdG_none _ 0 none) (by simp) (by have := HN6.out; have := HB.out; omega)).mono ?_
        rw [HS8.out]
        rintro e w8 ⟨rfl, h8⟩
        have H8 := Lib.hid h8
        clear h8
        have HX := H8
        go_wp2_with fail
        refine (fawake_any _).mono ?_
        rintro e wz ⟨rfl, hb⟩
        have HBZ := Lib.hid (HX.out.below.trans (hb.mono HX.out.below.size))
        clear hb
        go_wp2
        go_ret
        exact ⟨rfl, HBZ.out⟩
      · have he : e6 = 2 := by rw [he6, if_neg (by omega)]
        subst he
        have hd3 : decide (G + 1 ≤ L) = false := decide_eq_false hh
        have hd3i : ¬ (G : Int) + 1 ≤ (L : Int) := by omega
        clear hs6 he6 hn6 hu6 hd6 hh
        go_wp2_with fail
        refine (fs_put [99] [1] _ w _ p _ (H5.out.alloc _) nice_c (bytes_new _ _ rfl [1] _ _ (by simp) (by simp)) (by have := HR5.out.next; simp only at this ⊢; omega) (by rw [HR5.out.used]; simp; have := HB.out; omega)).mono ?_
        rw [HS6.out]
        rintro e w7 ⟨rfl, h7⟩
        have H7 := Lib.hid h7
        clear h7
        go_wp2_with fail
        obtain ⟨s8, e8, hs8, hr8⟩ := HD6.out H7.out.good
        have HS8 := Lib.hid hs8
        have HR8 := Lib.hid hr8
        clear hs8 hr8 hd3 hd3i
        refine (fs_drop [99] [] _ w _ p _ H7.out nice_c (rdG_none _ 0 none) (by simp) (by have := HN6.out; have := HB.out; omega)).mono ?_
        rw [HS8.out]
        rintro e w8 ⟨rfl, h8⟩
        have H8 := Lib.hid h8
        clear h8
        have HX := H8
        go_wp2_with fail
        refine (fawake_any _).mono ?_
        rintro e wz ⟨rfl, hb⟩
        have HBZ := Lib.hid (HX.out.below.trans (hb.mono HX.out.below.size))
        clear hb
        go_wp2
        go_ret
        exact ⟨rfl, HBZ.out⟩
end Go.Proofs.Ytegflhihjjjkhaa
