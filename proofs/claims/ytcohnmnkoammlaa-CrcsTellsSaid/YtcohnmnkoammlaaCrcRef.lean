/- The document's own answer for the sum of bytes is the same plain function; the known sums are what they are. -/
import Derived.Test.YtcohnmnkoammlaaCrcs
namespace Go.Proofs.Ytcohnmnkoammlaa
open Go.RowKit

set_option maxHeartbeats 400000 in
theorem ref_any (v : Value) (l : List Nat) (w : World) (h : Bytes w v l) :
    Calls Try.prog 8 #[v] w fun e w' => e = .returned (.int .u32 ((Crc.sum l : Nat) : Int)) ∧ w = w' := by
  obtain ⟨hb, hm, ⟨rfl, A, c, rfl⟩ | ⟨b, off, c, rfl, hc, hcell⟩⟩ := h
  · have hz : bits .xor .u32 4294967295 4294967295 = ((4294967295 ^^^ 4294967295 : Nat) : Int) := u32_xor_nat 4294967295 4294967295 (by omega) (by omega)
    go_enter Try.func8, Try.ntmps8
    go_wp2
    go_loop [3, 4] (fun t i => i = .int .i64 0 ∧ t = .int .u32 4294967295) (fun _ i => 0 - (intOf i).toNat)
    case atStart => exact ⟨rfl, rfl⟩
    case round =>
      obtain ⟨rfl, rfl⟩ := hrel
      go_wp2
      go_ret
      exact ⟨ret_u32 (by decide +kernel), rfl⟩
  · obtain ⟨n, hn⟩ : ∃ n, l.length = n := ⟨_, rfl⟩
    rw [hn] at hm hc hcell ⊢
    have HN := Lib.hid hn
    clear hn
    go_enter Try.func8, Try.ntmps8
    go_wp2
    go_loop [3, 4] (fun t i => ∃ k : Nat, k ≤ n ∧ i = .int .i64 k ∧ t = .int .u32 ((Crc.run 0xFFFFFFFF (l.take k) : Nat) : Int)) (fun _ i => n - (intOf i).toNat)
    case atStart => exact ⟨0, by omega, rfl, rfl⟩
    case round =>
      obtain ⟨k, hk, rfl, rfl⟩ := hrel
      have ht : Crc.run 0xFFFFFFFF (l.take k) < 4294967296 := Crc.run_lt _ (by decide) fun c hc => hb c (List.mem_of_mem_take hc)
      obtain ⟨S, hS⟩ : ∃ S, Crc.run 0xFFFFFFFF (l.take k) = S := ⟨_, rfl⟩
      rw [hS] at ht ⊢
      have HS := Lib.hid hS
      clear hS
      by_cases hlt : k < n
      · obtain ⟨x, hx, HX, hcx⟩ := getD_hid hb hcell hlt
        clear hcell hb
        have hT : S ^^^ x < 4294967296 := Crc.xor_lt ht (by omega)
        have hxor := u32_xor_nat S x ht (by omega)
        go_wp2
        clear hxor
        obtain ⟨T, hTe⟩ : ∃ T, S ^^^ x = T := ⟨_, rfl⟩
        rw [hTe] at hT ⊢
        have HT := Lib.hid hTe
        clear hTe
        go_loop [3, 5] (fun t i => ∃ j : Nat, j ≤ 8 ∧ i = .int .i64 j ∧ t = .int .u32 ((Crc.times j T : Nat) : Int)) (fun _ i => 8 - (intOf i).toNat)
        case atStart => exact ⟨0, by omega, rfl, rfl⟩
        case round =>
          obtain ⟨j, hj, rfl, rfl⟩ := hrel
          have hu : Crc.times j T < 4294967296 := Crc.times_lt j hT
          by_cases hlj : j < 8
          · go_wp2
            · go_round
              case rel => exact ⟨j + 1, by omega, by go_num, u32_eq (by rw [Crc.times_succ']; exact half_odd hu (by assumption))⟩
              case measure => simp [intOf]; omega
            · go_round
              case rel => exact ⟨j + 1, by omega, by go_num, u32_eq (by rw [Crc.times_succ']; exact half_even hu (by assumption))⟩
              case measure => simp [intOf]; omega
          · obtain rfl : j = 8 := by omega
            go_wp2
            go_round
            case rel => exact ⟨k + 1, by omega, by go_num, u32_eq (by rw [← run_next _ (by rw [HN.out]; exact hlt) HX.out, HS.out, HT.out])⟩
            case measure => simp [intOf]; omega
      · obtain rfl : k = n := by omega
        go_wp2
        go_ret
        refine ⟨ret_u32 ((u32_xor_nat S 4294967295 ht (by omega)).trans ?_), rfl⟩
        unfold Crc.sum
        rw [← HS.out, List.take_of_length_le (by rw [HN.out]; exact Nat.le_refl _)]

theorem ref_is (v : Value) (l : List Nat) (w : World) (n : Int) (h : Bytes w v l) (hn : ((Crc.sum l : Nat) : Int) = n) :
    Calls Try.prog 8 #[v] w fun e w' => e = .returned (.int .u32 n) ∧ w = w' :=
  (ref_any v l w h).mono fun _ _ ⟨he, hw⟩ => ⟨by rw [he, hn], hw⟩

set_option maxHeartbeats 400000 in
theorem awake_any (w : World) : Calls Try.prog 7 #[] w fun e w' => e = .returned (.bool true) ∧ Below w.heap.size w w' := by
  have kc := fun (w : World) (C : Array Value) (n c : Nat) => Lib.run_convert_bytes_const (P := Try.prog) w 26 5 C n c Try.underlying26 Try.underlying5
  have kc1 := fun (w : World) (O : Obj) (C : Array Value) (n c : Nat) => convert_second (P := Try.prog) w O 26 5 C n c Try.underlying26 Try.underlying5
  go_enter Try.func7, Try.ntmps7
  go_wp2_with fail
  refine (sum_is _ [49, 50, 51, 52, 53, 54, 55, 56, 57] _ 3421780262 ?_ ?_).mono ?_
  · exact bytes_new w _ rfl [49, 50, 51, 52, 53, 54, 55, 56, 57] _ _ (by decide) (by decide)
  · decide +kernel
  rintro e w' ⟨rfl, rfl⟩
  go_wp2_with fail
  refine (sum_is _ [] _ 0 (bytes_none _) (by decide +kernel)).mono ?_
  rintro e w' ⟨rfl, rfl⟩
  go_wp2_with fail
  refine (sum_is _ [97] _ 3904355907 ?_ ?_).mono ?_
  · exact bytes_new _ (w.heap.size + 1) (by simp) [97] _ _ (by decide) (by decide)
  · decide +kernel
  rintro e w' ⟨rfl, rfl⟩
  go_wp2_with fail
  go_ret
  exact ⟨rfl, ((Below.refl _ _).alloc (Nat.le_refl _) _).alloc (by simp) _⟩
end Go.Proofs.Ytcohnmnkoammlaa
