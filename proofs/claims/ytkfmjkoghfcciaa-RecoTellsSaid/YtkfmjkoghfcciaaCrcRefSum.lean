/- The document's own answer for the sum of bytes is the same plain function. -/
import Derived.Test.YtkfmjkoghfcciaaCrcs
namespace Go.Proofs.Ytkfmjkoghfcciaa
set_option maxRecDepth 100000
open Go.RowKit

set_option maxHeartbeats 400000 in
theorem ref_any (v : Value) (l : List Nat) (w : World) (h : Bytes w v l) :
    Calls Try.prog 73 #[v] w fun e w' => e = .returned (.int .u32 ((Crc.sum l : Nat) : Int)) ∧ w = w' := by
  obtain ⟨hb, hm, ⟨rfl, A, c, rfl⟩ | ⟨b, off, c, rfl, hc, hcell⟩⟩ := h
  · have hz : bits .xor .u32 4294967295 4294967295 = ((4294967295 ^^^ 4294967295 : Nat) : Int) := u32_xor_nat 4294967295 4294967295 (by omega) (by omega)
    go_enter Try.func73, Try.ntmps73
    go_wp2
    go_loop [3, 4] (fun t i => i = .int .i64 0 ∧ t = .int .u32 4294967295) (fun _ i => 0 - (intOf i).toNat)
    case atStart => exact ⟨rfl, rfl⟩
    case round =>
      obtain ⟨rfl, rfl⟩ := hrel
      go_wp2
      go_ret
      exact ⟨ret_u32 (by decide +kernel), rfl⟩
  · obtain ⟨n, hn⟩ : ∃ n, l.length = n := ⟨_, rfl⟩
    rw [hn] at hm hc hcell ⊢
    have HN := Lib.hid hn
    clear hn
    go_enter Try.func73, Try.ntmps73
    go_wp2
    go_loop [3, 4] (fun t i => ∃ k : Nat, k ≤ n ∧ i = .int .i64 k ∧ t = .int .u32 ((Crc.run 0xFFFFFFFF (l.take k) : Nat) : Int)) (fun _ i => n - (intOf i).toNat)
    case atStart => exact ⟨0, by omega, rfl, rfl⟩
    case round =>
      obtain ⟨k, hk, rfl, rfl⟩ := hrel
      have ht : Crc.run 0xFFFFFFFF (l.take k) < 4294967296 := Crc.run_lt _ (by decide) fun c hc => hb c (List.mem_of_mem_take hc)
      obtain ⟨S, hS⟩ : ∃ S, Crc.run 0xFFFFFFFF (l.take k) = S := ⟨_, rfl⟩
      rw [hS] at ht ⊢
      have HS := Lib.hid hS
      clear hS
      by_cases hlt : k < n
      · obtain ⟨x, hx, HX, hcx⟩ := getD_hid hb hcell hlt
        clear hcell hb
        have hT : S ^^^ x < 4294967296 := Crc.xor_lt ht (by omega)
        have hxor := u32_xor_nat S x ht (by omega)
        go_wp2
        clear hxor
        obtain ⟨T, hTe⟩ : ∃ T, S ^^^ x = T := ⟨_, rfl⟩
        rw [hTe] at hT ⊢
        have HT := Lib.hid hTe
        clear hTe
        go_loop [3, 5] (fun t i => ∃ j : Nat, j ≤ 8 ∧ i = .int .i64 j ∧ t = .int .u32 ((Crc.times j T : Nat) : Int)) (fun _ i => 8 - (intOf i).toNat)
        case atStart => exact ⟨0, by omega, rfl, rfl⟩
        case round =>
          obtain ⟨j, hj, rfl, rfl⟩ := hrel
          have hu : Crc.times j T < 4294967296 := Crc.times_lt j hT
          by_cases hlj : j < 8
          · go_wp2
            · go_round
              case rel => exact ⟨j + 1, by omega, by go_num, u32_eq (by rw [Crc.times_succ']; exact half_odd hu (by assumption))⟩
              case measure => simp [intOf]; omega
            · go_round
              case rel => exact ⟨j + 1, by omega, by go_num, u32_eq (by rw [Crc.times_succ']; exact half_even hu (by assumption))⟩
              case measure => simp [intOf]; omega
          · obtain rfl : j = 8 := by omega
            go_wp2
            go_round
            case rel => exact ⟨k + 1, by omega, by go_num, u32_eq (by rw [← run_next _ (by rw [HN.out]; exact hlt) HX.out, HS.out, HT.out])⟩
            case measure => simp [intOf]; omega
      · obtain rfl : k = n := by omega
        go_wp2
        go_ret
        refine ⟨ret_u32 ((u32_xor_nat S 4294967295 ht (by omega)).trans ?_), rfl⟩
        unfold Crc.sum
        rw [← HS.out, List.take_of_length_le (by rw [HN.out]; exact Nat.le_refl _)]

theorem ref_is (v : Value) (l : List Nat) (w : World) (n : Int) (h : Bytes w v l) (hn : ((Crc.sum l : Nat) : Int) = n) :
    Calls Try.prog 73 #[v] w fun e w' => e = .returned (.int .u32 n) ∧ w = w' :=
  (ref_any v l w h).mono fun _ _ ⟨he, hw⟩ => ⟨by rw [he, hn], hw⟩

end Go.Proofs.Ytkfmjkoghfcciaa
