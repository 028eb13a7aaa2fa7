/- What package crcs returns: the plain sum of the slice's bytes. -/
import Derived.Test.YtkfmjkoghfcciaaBytes
import Derived.Test.YtkfmjkoghfcciaaCrcMath
import Derived.WalkSpells
import Derived.WalkLawsBesides
import Derived.Lib.Hide
import Derived.Lib.SlBytesConst
namespace Go.Proofs.Ytkfmjkoghfcciaa
set_option maxRecDepth 100000
open Go.ChangeShapes Go.WideShapes Go.ChangeAt Go.RowKit

theorem ret_u32 {a b : Int} (h : a = b) : Ending.returned (.int .u32 a) = .returned (.int .u32 b) := by rw [h]

theorem u32_eq {a b : Int} (h : a = b) : Value.int .u32 a = .int .u32 b := by rw [h]
theorem and_one {t : Nat} (ht : t < 4294967296) : bits .and .u32 (t : Int) 1 = ((t % 2 : Nat) : Int) := by
  have := u32_and_nat t 1 ht (by omega)
  rw [Nat.and_one_is_mod] at this
  exact this
theorem half_even {t : Nat} (ht : t < 4294967296) (h : (bits .and .u32 (t : Int) 1 == 1) = false) : (t : Int) / 2 = ((Crc.half t : Nat) : Int) := by
  rw [and_one ht] at h
  have h' : t % 2 ≠ 1 := fun e => by rw [e] at h; simp at h
  unfold Crc.half
  rw [if_neg h']
  omega
theorem half_odd {t : Nat} (ht : t < 4294967296) (h : (bits .and .u32 (t : Int) 1 == 1) = true) : bits .xor .u32 ((t : Int) / 2) 3988292384 = ((Crc.half t : Nat) : Int) := by
  rw [and_one ht] at h
  have h' : t % 2 = 1 := by
    rcases Nat.mod_two_eq_zero_or_one t with e | e
    · rw [e] at h; simp at h
    · exact e
  unfold Crc.half Crc.poly
  rw [if_pos h']
  exact u32_xor_nat (t / 2) 3988292384 (by omega) (by omega)

set_option maxHeartbeats 400000 in
theorem shift_any (s : Nat) (hs : s < 4294967296) (w : World) :
    Calls Try.prog 128 #[.int .u32 (s : Int)] w fun e w' => e = .returned (.int .u32 ((Crc.times 8 s : Nat) : Int)) ∧ w = w' := by
  go_enter Try.func128, Try.ntmps128
  go_wp2
  go_loop [0, 4] (fun t i => ∃ k : Nat, k ≤ 8 ∧ i = .int .i64 k ∧ t = .int .u32 ((Crc.times k s : Nat) : Int)) (fun _ i => 8 - (intOf i).toNat)
  case atStart => exact ⟨0, by omega, rfl, rfl⟩
  case round =>
    obtain ⟨k, hk, rfl, rfl⟩ := hrel
    have ht : Crc.times k s < 4294967296 := Crc.times_lt k hs
    by_cases hlt : k < 8
    · go_wp2
      · go_round
        case rel => exact ⟨k + 1, by omega, by go_num, u32_eq (by rw [Crc.times_succ']; exact half_odd ht (by assumption))⟩
        case measure => simp [intOf]; omega
      · go_round
        case rel => exact ⟨k + 1, by omega, by go_num, u32_eq (by rw [Crc.times_succ']; exact half_even ht (by assumption))⟩
        case measure => simp [intOf]; omega
    · obtain rfl : k = 8 := by omega
      go_wp2
      go_ret
      exact ⟨rfl, rfl⟩

theorem not_u32 {s : Nat} (hs : s < 4294967296) : bits .xor .u32 IntKind.u32.max (s : Int) = ((s ^^^ 0xFFFFFFFF : Nat) : Int) := by
  rw [Nat.xor_comm]
  exact u32_xor_nat 4294967295 s (by omega) hs

theorem run_snoc (s : Nat) (l : List Nat) (c : Nat) : Crc.run s (l ++ [c]) = Crc.step (Crc.run s l) c := by
  unfold Crc.run; rw [List.foldl_append]; rfl

theorem run_next {l : List Nat} {k x : Nat} (s : Nat) (h : k < l.length) (hx : l.getD k 0 = x) : Crc.times 8 (Crc.run s (l.take k) ^^^ x) = Crc.run s (l.take (k + 1)) := by
  rw [take_snoc l k h, run_snoc, hx]; rfl

set_option maxHeartbeats 400000 in
theorem sum_any (v : Value) (l : List Nat) (w : World) (h : Bytes w v l) :
    Calls Try.prog 118 #[v] w fun e w' => e = .returned (.int .u32 ((Crc.sum l : Nat) : Int)) ∧ w = w' := by
  obtain ⟨hb, hm, ⟨rfl, A, c, rfl⟩ | ⟨b, off, c, rfl, hc, hcell⟩⟩ := h
  · have hz := not_u32 (s := 4294967295) (by decide)
    go_enter Try.func118, Try.ntmps118
    go_wp2
    go_loop [3, 8] (fun t i => i = .int .i64 0 ∧ t = .int .u32 4294967295) (fun _ i => 0 - (intOf i).toNat)
    case atStart => exact ⟨rfl, rfl⟩
    case round =>
      obtain ⟨rfl, rfl⟩ := hrel
      go_wp2
      go_ret
      exact ⟨ret_u32 (by decide +kernel), rfl⟩
  · obtain ⟨n, hn⟩ : ∃ n, l.length = n := ⟨_, rfl⟩
    rw [hn] at hm hc hcell ⊢
    have HN := Lib.hid hn
    clear hn
    go_enter Try.func118, Try.ntmps118
    go_wp2
    go_loop [3, 8] (fun t i => ∃ k : Nat, k ≤ n ∧ i = .int .i64 k ∧ t = .int .u32 ((Crc.run 0xFFFFFFFF (l.take k) : Nat) : Int)) (fun _ i => n - (intOf i).toNat)
    case atStart => exact ⟨0, by omega, rfl, rfl⟩
    case round =>
      obtain ⟨k, hk, rfl, rfl⟩ := hrel
      have ht : Crc.run 0xFFFFFFFF (l.take k) < 4294967296 := Crc.run_lt _ (by decide) fun c hc => hb c (List.mem_of_mem_take hc)
      obtain ⟨S, hS⟩ : ∃ S, Crc.run 0xFFFFFFFF (l.take k) = S := ⟨_, rfl⟩
      rw [hS] at ht ⊢
      have HS := Lib.hid hS
      clear hS
      by_cases hlt : k < n
      · obtain ⟨x, hx, HX, hcx⟩ := getD_hid hb hcell hlt
        clear hcell hb
        go_wp2_with fail
        rw [u32_xor_nat S x ht (by omega)]
        refine (shift_any (S ^^^ x) (Crc.xor_lt ht (by omega)) _).mono ?_
        rintro e w' ⟨rfl, rfl⟩
        go_wp2
        go_round
        case rel => exact ⟨k + 1, by omega, by go_num, u32_eq (by rw [← run_next _ (by rw [HN.out]; exact hlt) HX.out, HS.out])⟩
        case measure => simp [intOf]; omega
      · obtain rfl : k = n := by omega
        go_wp2
        go_ret
        refine ⟨ret_u32 ?_, rfl⟩
        rw [not_u32 ht]
        unfold Crc.sum
        rw [← HS.out, List.take_of_length_le (by rw [HN.out]; exact Nat.le_refl _)]

theorem sum_is (v : Value) (l : List Nat) (w : World) (n : Int) (h : Bytes w v l) (hn : ((Crc.sum l : Nat) : Int) = n) :
    Calls Try.prog 118 #[v] w fun e w' => e = .returned (.int .u32 n) ∧ w = w' :=
  (sum_any v l w h).mono fun _ _ ⟨he, hw⟩ => ⟨by rw [he, hn], hw⟩

end Go.Proofs.Ytkfmjkoghfcciaa
