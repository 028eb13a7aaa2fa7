/- SimfCut: a cut holds for the next telling whose guards hold, and that one alone. -/
import Derived.Test.YtlfgadcfjjjbfaaSimKeep
import Derived.Deep.OwnRows
namespace Go.Proofs.Ytlfgadcfjjjbfaa
set_option maxRecDepth 100000
open Go.ChangeShapes Go.WideShapes Go.ChangeAt Go.RowKit Go.ChangeMaps
open Sf

theorem cand_low (a : Int) (k : Nat) (hk : k < 4294967296) : ∃ m : Nat, bits .and .i64 a (k : Int) = (m : Int) ∧ m ≤ k := by
  have h : bits .and .i64 a (k : Int) = IntKind.i64.wrap ((BitVec.ofInt 64 a &&& BitVec.ofInt 64 (k : Int)).toNat : Int) := rfl
  have hx : (BitVec.ofInt 64 a &&& BitVec.ofInt 64 (k : Int)).toNat ≤ k := by
    rw [BitVec.toNat_and]
    refine Nat.le_trans Nat.and_le_right ?_
    rw [BitVec.ofInt_natCast, BitVec.toNat_ofNat]
    exact Nat.mod_le _ _
  refine ⟨(BitVec.ofInt 64 a &&& BitVec.ofInt 64 (k : Int)).toNat, ?_, hx⟩
  rw [h, IntKind.wrap_i64]
  omega
theorem zrow (n : Nat) : madeCells #[.int .u8 0] n = ((List.replicate n 0).map fun n : Nat => Value.int .u8 (n : Int)).toArray := by
  apply Array.toList_inj.1
  rw [toList_madeCells_one]
  simp
/-- A row of noughts, newly made. -/
theorem zbytes (w : World) (n : Nat) (hn : n ≤ 1048576) : Bytes (w.alloc (.cells (madeCells #[.int .u8 0] n) 5)) (.slice (some ⟨w.heap.size, 0, none⟩) n n) (List.replicate n 0) := by
  have h := bytes_new w _ rfl (List.replicate n 0) 5 (0, 0) (by intro c hc; rw [List.mem_replicate] at hc; omega) (by rw [List.length_replicate]; omega)
  rw [List.length_replicate] at h
  rw [zrow]
  exact h
theorem bytes_guard (W : World) (C : Array Value) (b : List Nat) (n : Nat) (t : List Nat) (k : Int) (m : Nat × Nat) (hn : b.length = n) (hC : C = (b.map fun n : Nat => Value.int .u8 (n : Int)).toArray) (hb : ∀ c ∈ b, c < 256) (hm : n ≤ 1048576) :
    Bytes ((W.alloc (.cells C 5 m)).alloc (.cells #[.string (str t), .int .i64 k] 35)) (.slice (some ⟨W.heap.size, 0, none⟩) n n) b ∧
    RdG ((W.alloc (.cells C 5 m)).alloc (.cells #[.string (str t), .int .i64 k] 35)) (.slice (some ⟨W.heap.size + 1, 0, none⟩) 1 1) [(t, k)] ∧
    Below W.heap.size W ((W.alloc (.cells C 5 m)).alloc (.cells #[.string (str t), .int .i64 k] 35)) := by
  subst hC hn
  refine ⟨(bytes_new W _ rfl b _ m hb (by omega)).alloc _, ?_, ((Below.refl _ _).alloc (Nat.le_refl _) _).alloc (by simp) _⟩
  have h := rdG_one (W.alloc (.cells (b.map fun n : Nat => Value.int .u8 (n : Int)).toArray 5 m)) t k
  rw [World.size_alloc] at h
  exact h
theorem len_one (k : Nat) : List.length ([97, 98] ++ List.replicate k 0) = 2 + k := by rw [List.length_append, List.length_replicate]; rfl
theorem len_two (k n : Nat) : List.length ([97, 98] ++ List.replicate k 0 ++ List.replicate n 0) = 2 + k + n := by rw [List.length_append, List.length_append, List.length_replicate, List.length_replicate]; rfl
def one (b : List Nat) (n : Nat) (c : Int) : S := ⟨[⟨[116], b, n⟩], 1048576, n, c⟩
theorem nice_tt : Nice [116] := by constructor <;> simp
theorem sc_put : putS (new 1048576) [116] [97, 98] = (one [97, 98] 1 (-1), 1, 0) := by rfl
theorem sc_ref (c : Int) : app (one [97, 98] 1 c) [116] [120, 121, 122] [([116], 2)] = (one [97, 98] 1 c, 0, 5) := by rfl
theorem sc_cut (c : Int) (n k : Nat) (h0 : 0 ≤ c) (hk : min (n : Int) c = (k : Int)) :
    app (one [97, 98] 1 c) [116] (List.replicate n 0) [([116], 1)] = (if 0 < k then one ([97, 98] ++ List.replicate k 0) 2 (-1) else one [97, 98] 1 (-1), 0, 7) := by
  have hp : Sf.part (one [97, 98] 1 c) (List.replicate n 0).length = (one [97, 98] 1 (-1), k, 7) := by
    unfold Sf.part
    rw [if_neg (by show ¬ c = -1; omega), List.length_replicate]
    show (_, (min (n : Int) c).toNat, 7) = _
    rw [hk]
    rfl
  unfold app
  rw [if_pos (by rfl), hp]
  by_cases h : 0 < k
  · rw [if_pos h, if_pos h]
    show (if (7 : Nat) = 0 then _ else _) = _
    rw [if_neg (by omega)]
    show (wr (one [97, 98] 1 (-1)) [116] ([97, 98] ++ List.take k (List.replicate n 0)), 0, 7) = _
    rw [List.take_replicate, Nat.min_eq_left (by omega)]
    rfl
  · rw [if_neg h, if_neg h]
    show (if (7 : Nat) = 0 then _ else _) = _
    rw [if_neg (by omega)]
theorem sc_app (b z : List Nat) (n : Nat) (hb : b.length + z.length ≤ 1048576) : app (one b n (-1)) [116] z [] = (one (b ++ z) (n + 1) (-1), n + 1, 0) := by
  have hu : used (one b n (-1)).l = b.length := by simp [one, used]
  have hp : Sf.part (one b n (-1)) z.length = (one b n (-1), z.length, 0) := by
    unfold Sf.part
    rw [if_pos (by rfl), hu, if_pos (by show (z.length : Int) ≤ max (1048576 - (b.length : Int)) 0; omega)]
  unfold app
  rw [if_pos (by rfl), hp]
  rfl
theorem one_used (b : List Nat) (n : Nat) (c : Int) : used (one b n c).l = b.length := by simp [one, used]
theorem one_stamp (b : List Nat) (n : Nat) (c : Int) : stamp (one b n c).l [116] = n := by simp [one, stamp, Sf.get]

end Go.Proofs.Ytlfgadcfjjjbfaa
