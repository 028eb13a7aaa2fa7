/- SimfCut: a cut holds for the next telling whose guards hold, and that one alone. -/
import Derived.Test.YtegflhihjjjkhaaSimKeep
import Derived.Deep.OwnRows
namespace Go.Proofs.Ytegflhihjjjkhaa
set_option maxRecDepth 100000
open Go.ChangeShapes Go.WideShapes Go.ChangeAt Go.RowKit Go.ChangeMaps
open Sf

theorem cand_low (a : Int) (k : Nat) (hk : k < 4294967296) : ∃ m : Nat, bits .and .i64 a (k : Int) = (m : Int) ∧ m ≤ k := by
  have h : bits .and .i64 a (k : Int) = IntKind.i64.wrap ((BitVec.ofInt 64 a &&& BitVec.ofInt 64 (k : Int)).toNat : Int) := rfl
  have hx : (BitVec.ofInt 64 a &&& BitVec.ofInt 64 (k : Int)).toNat ≤ k := by
    rw [BitVec.toNat_and]
    refine Nat.le_trans Nat.and_le_right ?_
    rw [BitVec.ofInt_natCast, BitVec.toNat_ofNat]
    exact Nat.mod_le _ _
  refine ⟨(BitVec.ofInt 64 a &&& BitVec.ofInt 64 (k : Int)).toNat, ?_, hx⟩
  rw [h, IntKind.wrap_i64]
  omega
theorem zrow (n : Nat) : madeCells #[.int .u8 0] n = ((List.replicate n 0).map fun n : Nat => Value.int .u8 (n : Int)).toArray := by
  apply Array.toList_inj.1
  rw [toList_madeCells_one]
  simp
/-- A row of noughts, newly made. -/
theorem zbytes (w : World) (n : Nat) (hn : n ≤ 1048576) : Bytes (w.alloc (.cells (madeCells #[.int .u8 0] n) 5)) (.slice (some ⟨w.heap.size, 0, none⟩) n n) (List.replicate n 0) := by
  have h := bytes_new w _ rfl (List.replicate n 0) 5 (0, 0) (by intro c hc; rw [List.mem_replicate] at hc; omega) (by rw [List.length_replicate]; omega)
  rw [List.length_replicate] at h
  rw [zrow]
  exact h
theorem bytes_guard (W : World) (C : Array Value) (b : List Nat) (n : Nat) (t : List Nat) (k : Int) (m : Nat × Nat) (hn : b.length = n) (hC : C = (b.map fun n : Nat => Value.int .u8 (n : Int)).toArray) (hb : ∀ c ∈ b, c < 256) (hm : n ≤ 1048576) :
    Bytes ((W.alloc (.cells C 5 m)).alloc (.cells #[.string (str t), .int .i64 k] 39)) (.slice (some ⟨W.heap.size, 0, none⟩) n n) b ∧
    RdG ((W.alloc (.cells C 5 m)).alloc (.cells #[.string (str t), .int .i64 k] 39)) (.slice (some ⟨W.heap.size + 1, 0, none⟩) 1 1) [(t, k)] ∧
    Below W.heap.size W ((W.alloc (.cells C 5 m)).alloc (.cells #[.string (str t), .int .i64 k] 39)) := by
  subst hC hn
  refine ⟨(bytes_new W _ rfl b _ m hb (by omega)).alloc _, ?_, ((Below.refl _ _).alloc (Nat.le_refl _) _).alloc (by simp) _⟩
  have h := rdG_one (W.alloc (.cells (b.map fun n : Nat => Value.int .u8 (n : Int)).toArray 5 m)) t k
  rw [World.size_alloc] at h
  exact h
theorem len_one (k : Nat) : List.length ([97, 98] ++ List.replicate k 0) = 2 + k := by rw [List.length_append, List.length_replicate]; rfl
theorem len_two (k n : Nat) : List.length ([97, 98] ++ List.replicate k 0 ++ List.replicate n 0) = 2 + k + n := by rw [List.length_append, List.length_append, List.length_replicate, List.length_replicate]; rfl
def one (b : List Nat) (n : Nat) (c : Int) : S := ⟨[⟨[116], b, n⟩], 1048576, n, c⟩
theorem nice_tt : Nice [116] := by constructor <;> simp
theorem sc_put : putS (new 1048576) [116] [97, 98] = (one [97, 98] 1 (-1), 1, 0) := by rfl
theorem sc_ref (c : Int) : app (one [97, 98] 1 c) [116] [120, 121, 122] [([116], 2)] = (one [97, 98] 1 c, 0, 5) := by rfl
theorem sc_cut (c : Int) (n k : Nat) (h0 : 0 ≤ c) (hk : min (n : Int) c = (k : Int)) :
    app (one [97, 98] 1 c) [116] (List.replicate n 0) [([116], 1)] = (if 0 < k then one ([97, 98] ++ List.replicate k 0) 2 (-1) else one [97, 98] 1 (-1), 0, 7) := by
  have hp : Sf.part (one [97, 98] 1 c) (List.replicate n 0).length = (one [97, 98] 1 (-1), k, 7) := by
    unfold Sf.part
    rw [if_neg (by show ¬ c = -1; omega), List.length_replicate]
    show (_, (min (n : Int) c).toNat, 7) = _
    rw [hk]
    rfl
  unfold app
  rw [if_pos (by rfl), hp]
  by_cases h : 0 < k
  · rw [if_pos h, if_pos h]
    show (if (7 : Nat) = 0 then _ else _) = _
    rw [if_neg (by omega)]
    show (wr (one [97, 98] 1 (-1)) [116] ([97, 98] ++ List.take k (List.replicate n 0)), 0, 7) = _
    rw [List.take_replicate, Nat.min_eq_left (by omega)]
    rfl
  · rw [if_neg h, if_neg h]
    show (if (7 : Nat) = 0 then _ else _) = _
    rw [if_neg (by omega)]
theorem sc_app (b z : List Nat) (n : Nat) (hb : b.length + z.length ≤ 1048576) : app (one b n (-1)) [116] z [] = (one (b ++ z) (n + 1) (-1), n + 1, 0) := by
  have hu : used (one b n (-1)).l = b.length := by simp [one, used]
  have hp : Sf.part (one b n (-1)) z.length = (one b n (-1), z.length, 0) := by
    unfold Sf.part
    rw [if_pos (by rfl), hu, if_pos (by show (z.length : Int) ≤ max (1048576 - (b.length : Int)) 0; omega)]
  unfold app
  rw [if_pos (by rfl), hp]
  rfl
theorem one_used (b : List Nat) (n : Nat) (c : Int) : used (one b n c).l = b.length := by simp [one, used]
theorem one_stamp (b : List Nat) (n : Nat) (c : Int) : stamp (one b n c).l [116] = n := by simp [one, stamp, Sf.get]

set_option maxHeartbeats 8000000 in
theorem cut_law (a b r : Int) (w : World) : Calls Try.prog 6 #[.int .i64 a, .int .i64 b, .int .i64 r] w fun e w' => e = .returned (.bool true) ∧ Below w.heap.size w w' := by
  have hcv := fun (W : World) (C : Array Value) (n c : Nat) => Lib.run_convert_bytes_const (P := Try.prog) W 27 5 C n c Try.underlying27 Try.underlying5
  obtain ⟨M, hM, hM2⟩ := cand_low a 31 (by omega)
  change bits .and .i64 a 31 = (M : Int) at hM
  obtain ⟨n, hn, hn2⟩ := cand_low b 31 (by omega)
  change bits .and .i64 b 31 = (n : Int) at hn
  obtain ⟨R, hR, hR2⟩ := cand_low r 3 (by omega)
  change bits .and .i64 r 3 = (R : Int) at hR
  obtain ⟨c, hc⟩ : ∃ c : Int, c = (M : Int) - 4 := ⟨_, rfl⟩
  obtain ⟨c0, hc0⟩ : ∃ c0 : Int, max c 0 = c0 := ⟨_, rfl⟩
  obtain ⟨k, hk⟩ : ∃ k : Nat, min (n : Int) c0 = (k : Int) := ⟨(min (n : Int) c0).toNat, by omega⟩
  have hmx := fun (W : World) ts t => run_top2 (P := Try.prog) W ts t c 0 c0 hc0
  have hmn := fun (W : World) ts t => run_low2 (P := Try.prog) W ts t c0 (n : Int) k (by omega)
  have hmk := fun W => run_make_row' (P := Try.prog) 27 5 (.int .u8 0) 1 Try.underlying27 infoU8 rfl .i64 .i64 n (by omega) (by omega) W
  have HC := Lib.hid (And.intro (show 0 ≤ c0 by omega) (And.intro hc0 hk))
  have hwc : wrap64 ((M : Int) - 4) = c := by unfold wrap64; omega
  have hwc2 : (M : Int) - 4 = c := hc.symm
  clear hc0 hk hc
  go_enter Try.func6, Try.ntmps6
  go_wp2_with fail
  refine (fs_new 1048576 w).mono ?_
  rintro e w1 ⟨p, rfl, h1⟩
  have H1 := Lib.hid h1
  clear h1
  go_wp2_with fail
  refine (fs_put [116] [97, 98] _ w _ p (new 1048576) (H1.out.alloc _) nice_tt (bytes_new w1 _ rfl [97, 98] _ _ (by simp) (by simp)) (by simp [new]) (by simp [new, used])).mono ?_
  rw [sc_put]
  rintro e w2 ⟨rfl, h2⟩
  have H2 := Lib.hid h2
  clear h2
  go_wp2_with fail
  refine (fs_cut c w _ p _ H2.out (by omega)).mono ?_
  rintro e w3 ⟨rfl, h3⟩
  have H3 : Hid (Fs w w3 p (one [97, 98] 1 c0)) := Lib.hid (by rw [← HC.out.2.1]; exact h3)
  clear h3
  go_wp2_with fail
  go_loopw [10] (fun iv wr => ∃ j : Nat, j ≤ R ∧ iv = .int .i64 (j : Int) ∧ Hid (Fs w wr p (one [97, 98] 1 c0))) (fun iv _ => R - (intOf iv).toNat)
  case atStart => exact ⟨0, by omega, rfl, H3⟩
  case round =>
    obtain ⟨j, hj, rfl, HJ⟩ := hrel
    by_cases hlt : j < R
    · have hlt' : (j : Int) < (R : Int) := by omega
      obtain ⟨q1, q2, q3⟩ := bytes_guard wr #[.int .u8 120, .int .u8 121, .int .u8 122] [120, 121, 122] 3 [116] 2 (3, 4) rfl rfl (by simp) (by omega)
      have HQ := Lib.hid (And.intro q1 (And.intro q2 q3))
      clear q1 q2 q3
      go_wp2_with fail
      refine (fs_app [116] [120, 121, 122] [([116], 2)] _ _ w wr _ p _ HJ.out HQ.out.2.2 nice_tt HQ.out.1 (by intro k hk; simp [Value.ownBlock] at hk; omega) HQ.out.2.1 (by simpa using nice_tt) (by simp [one]) (by simp [one, used])).mono ?_
      rw [sc_ref]
      rintro e w4 ⟨rfl, h4⟩
      have H4 := Lib.hid h4
      clear h4
      go_wp2
      go_roundw
      case rel => exact ⟨j + 1, by omega, by go_num, H4⟩
      case measure => simp [intOf]; omega
    · obtain rfl : j = R := by omega
      have hkn : k ≤ n := by have := HC.out.2.2; omega
      have HQ := Lib.hid (bytes_guard wr (madeCells #[.int .u8 0] n) (List.replicate n 0) n [116] 1 (0, 0) List.length_replicate (zrow n) (by intro c hc; rw [List.mem_replicate] at hc; omega) (by omega))
      by_cases hk0 : 0 < k
      · skip
        go_wp2_with fail
        refine (fs_app [116] (List.replicate n 0) [([116], 1)] _ _ w wr _ p _ HJ.out HQ.out.2.2 nice_tt HQ.out.1 (by intro k hk; simp [Value.ownBlock] at hk; omega) HQ.out.2.1 (by simpa using nice_tt) (by simp [one]) (by simp [one, used]; omega)).mono ?_
        rw [sc_cut c0 n k HC.out.1 HC.out.2.2]
        rintro e w5 ⟨rfl, h5⟩
        rw [if_pos hk0] at h5
        have H5 := Lib.hid h5
        have hkz : ((k : Int) == 0) = false := by simp; omega
        clear h5
        go_wp2_with fail
        refine (fs_used w _ p _ H5.out).mono ?_
        rintro e w6 ⟨rfl, rfl⟩
        rw [one_used, len_one k]
        go_wp2_with fail
        refine (fs_stamp [116] w _ p _ H5.out nice_tt).mono ?_
        rintro e w6 ⟨rfl, rfl⟩
        rw [one_stamp]
        go_wp2_with fail
        refine (fs_app [116] (List.replicate n 0) [] _ _ w w5 _ p _ H5.out ((Below.refl _ _).alloc (Nat.le_refl _) _) nice_tt (zbytes w5 n (by omega)) (by intro k hk; simp [Value.ownBlock] at hk; omega) (rdG_none _ 0 none) (by simp) (by simp [one]) (by simp [one, used]; omega)).mono ?_
        rw [sc_app _ _ _ (by simp; omega)]
        rintro e w7 ⟨rfl, h7⟩
        have H7 := Lib.hid h7
        clear h7
        go_wp2_with fail
        refine (fs_used w _ p _ H7.out).mono ?_
        rintro e w8 ⟨rfl, rfl⟩
        rw [one_used, len_two k n]
        go_wp2_with fail
        refine (fs_stamp [116] w _ p _ H7.out nice_tt).mono ?_
        rintro e w8 ⟨rfl, rfl⟩
        rw [one_stamp]
        go_wp2_with fail
        refine (fawake_any _).mono ?_
        rintro e w9 ⟨rfl, hb⟩
        have HB9 := Lib.hid (H7.out.below.trans (hb.mono H7.out.below.size))
        clear hb
        go_wp2
        go_ret
        exact ⟨rfl, HB9.out⟩
      · have hkz : k = 0 := by omega
        subst hkz
        clear hk0
        go_wp2_with fail
        refine (fs_app [116] (List.replicate n 0) [([116], 1)] _ _ w wr _ p _ HJ.out HQ.out.2.2 nice_tt HQ.out.1 (by intro k hk; simp [Value.ownBlock] at hk; omega) HQ.out.2.1 (by simpa using nice_tt) (by simp [one]) (by simp [one, used]; omega)).mono ?_
        rw [sc_cut c0 n 0 HC.out.1 HC.out.2.2]
        rintro e w5 ⟨rfl, h5⟩
        have H5 : Hid (Fs w w5 p (one [97, 98] 1 (-1))) := Lib.hid h5
        clear h5
        go_wp2_with fail
        refine (fs_used w _ p _ H5.out).mono ?_
        rintro e w6 ⟨rfl, rfl⟩
        rw [one_used, show ([97, 98] : List Nat).length = 2 from rfl]
        go_wp2_with fail
        refine (fs_stamp [116] w _ p _ H5.out nice_tt).mono ?_
        rintro e w6 ⟨rfl, rfl⟩
        rw [one_stamp]
        go_wp2_with fail
        refine (fs_app [116] (List.replicate n 0) [] _ _ w w5 _ p _ H5.out ((Below.refl _ _).alloc (Nat.le_refl _) _) nice_tt (zbytes w5 n (by omega)) (by intro k hk; simp [Value.ownBlock] at hk; omega) (rdG_none _ 0 none) (by simp) (by simp [one]) (by simp [one, used]; omega)).mono ?_
        rw [sc_app _ _ _ (by simp; omega)]
        rintro e w7 ⟨rfl, h7⟩
        have H7 := Lib.hid h7
        clear h7
        go_wp2_with fail
        refine (fs_used w _ p _ H7.out).mono ?_
        rintro e w8 ⟨rfl, rfl⟩
        rw [one_used, len_one n]
        go_wp2_with fail
        refine (fs_stamp [116] w _ p _ H7.out nice_tt).mono ?_
        rintro e w8 ⟨rfl, rfl⟩
        rw [one_stamp]
        go_wp2_with fail
        refine (fawake_any _).mono ?_
        rintro e w9 ⟨rfl, hb⟩
        have HB9 := Lib.hid (H7.out.below.trans (hb.mono H7.out.below.size))
        clear hb
        go_wp2
        go_ret
        exact ⟨rfl, HB9.out⟩
end Go.Proofs.Ytegflhihjjjkhaa
