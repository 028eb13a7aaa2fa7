/- What slices.Concat, slices.Grow and bytes.Equal answer on bytes. -/
import Derived.Test.YtfheaognfocofaaGreatDoorZRowsB
import Derived.Lib.AppendZerosOnto
import Derived.Lib.Walk
import Derived.Deep.DeepCutAuto
import Derived.Deep.LoopGhost
import Derived.IntWalk
namespace Go.Proofs.YtfheaognfocofaaGreatDoor
set_option maxRecDepth 100000
open Go.ChangeShapes Go.WideShapes Go.ChangeAt Go.RowKit

/-- A row that has just been laid is the call's own. -/
theorem own_new (w : World) (base : Nat) (l : List Nat) (hl : ∀ c ∈ l, c < 256) (hm : l.length ≤ maxLen) (hb : base ≤ w.heap.size) :
    Own (w.alloc (.cells (row8 l).toArray 5)) base (.slice (some ⟨w.heap.size, 0, none⟩) l.length l.length) l := by
  refine ⟨⟨by simp [row8], .inr ⟨w.heap.size, l.length, (row8 l).toArray, rfl, hb, heap_alloc_new w _, Nat.le_refl _, hm, by simp [row8], ?_⟩⟩, hl⟩
  rw [Nat.mul_one]
  exact List.take_of_length_le (by simp [row8])

set_option maxHeartbeats 1000000 in
theorem equal_any (v u : Value) (l m : List Nat) (w : World) (hl : Bytes w v l) (hm : Bytes w u m) :
    Calls Tryz.prog 108 #[v, u] w fun e w' => e = .returned (.bool (decide (l = m))) ∧ w = w' := by
  have k1 := run_text hl
  have k2 := run_text hm
  have h1 := hl.1
  have h2 := hm.1
  clear hl hm
  go_enter Tryz.func108, Tryz.ntmps108
  go_wp2
  go_ret
  refine ⟨?_, rfl⟩
  rw [← str_eq h1 h2]
  rfl

theorem own_room (w : World) (base cap : Nat) (cur : Array Value) (hb : base ≤ w.heap.size) (hm : cap ≤ maxLen) (hs : cur.size = cap) (W : World) (e : W.heap = w.heap) : Own (W.alloc (.cells cur 5)) base (.slice (some ⟨w.heap.size, 0, none⟩) 0 cap) [] := by
  have := own_empty W base cap cur (by rw [e]; exact hb) hm hs
  rwa [e] at this
set_option maxHeartbeats 2000000 in
theorem grow_any (n : Nat) (w : World) (hn : n ≤ 70368744177664) :
    Calls Tryz.prog 96 #[.slice none 0 0, .int .i64 (n : Int)] w (Made w.heap.size [] w) := by
  rcases Nat.eq_zero_or_pos n with rfl | h0
  · go_enter Tryz.func96, Tryz.ntmps96
    go_wp2
    go_ret
    exact ⟨_, rfl, own_none _ _, Below.refl _ _⟩
  · obtain ⟨i, hi, hz0, hz1, hz2⟩ := info_parts infoU8
    have hold : (Builtin.firstCells i.size 0 (.slice none 0 0)).run Tryz.prog w.drew = .ok (#[] : Array Value) w.drew := run_firstCells_none w.drew i.size 0 0 0
    have hrz : ∀ ty, (Builtin.append_ #[43, 3] ty #[.slice none 0 0, .int .i64 (n : Int)]).run Tryz.prog w =
        .ok (.slice (some ⟨w.heap.size, 0, none⟩) n (grownCap w n 0 5)) (w.drew.alloc (.cells (#[] ++ Builtin.zeroCells (Value.int .u8 0).cells n ++ Builtin.zeroCells (Value.int .u8 0).cells (grownCap w n 0 5 - n)) 5)) := fun ty => by
      have h := Lib.run_append_grow_zeros w 43 3 ty 5 i (.int .u8 0) .i64 .i64 Tryz.underlying43 Tryz.underlying3 hi hz0 none 0 0 [] hold n h0 (by rw [hz1]; decide) (by omega) (by omega) (by rw [hz2]; omega)
        (by rw [Nat.zero_add]; exact growslice_fits (by omega) (by rw [hz2]; omega))
      rw [Nat.zero_add] at h
      exact h
    have hGn : n ≤ grownCap w n 0 5 := grownCap_ge w _ _ _
    have hGm := grownCap_le_maxLen w n 0 5 (by unfold maxLen; omega)
    obtain ⟨G, hG⟩ : ∃ G, G = grownCap w n 0 5 := ⟨_, rfl⟩
    rw [← hG] at hrz hGn hGm
    have hG63 : G ≤ 9223372036854775807 := by unfold maxLen at hGm; omega
    have h1 : (n : Int) > 0 := by omega
    clear hold hG
    go_enter Tryz.func96, Tryz.ntmps96
    go_wp2_with (at_builtin; refine Lib.wpList_append_run _ rfl _ _ _ _ rfl _ _ rfl rfl _ _ (hrz _) ?_)
    go_ret
    refine ⟨_, rfl, own_room w w.heap.size G _ (Nat.le_refl _) hGm ?_ w.drew rfl, ⟨rfl, rfl, rfl, by simp, fun k hk => Below.heap_alloc w.drew _ k hk⟩⟩
    simp [size_zeroCells]
    omega

theorem flat_take (L : List (List Nat)) (k : Nat) (h : k < L.length) : (L.take (k + 1)).flatten = (L.take k).flatten ++ L.getD k [] := by
  rw [List.take_succ_eq_append_getElem h, List.flatten_append, List.getD_eq_getElem?_getD, List.getElem?_eq_getElem h]
  simp
theorem flat_le (L : List (List Nat)) (k : Nat) : (L.take k).flatten.length ≤ L.flatten.length := by
  conv => rhs; rw [← List.take_append_drop k L, List.flatten_append, List.length_append]
  omega

set_option maxHeartbeats 2000000 in
theorem concat_any (v : Value) (L : List (List Nat)) (w : World) (h : Rows2 w v L) (hL : L.flatten.length ≤ 70368744177664) (hn : L.length ≤ 1099511627776) :
    Calls Tryz.prog 81 #[v] w (Made w.heap.size L.flatten w) := by
  have H := Lib.hid h
  obtain ⟨_, A, c, rfl, hc, _⟩ := h
  obtain ⟨n, hn'⟩ : ∃ n, L.length = n := ⟨_, rfl⟩
  rw [hn'] at H hn hc ⊢
  have HN := Lib.hid hn'
  clear hn'
  go_enter Tryz.func81, Tryz.ntmps81
  go_wp2
  go_loop [3, 11] (fun t i => ∃ k : Nat, k ≤ n ∧ i = .int .i64 k ∧ t = .int .i64 (((L.take k).flatten.length : Nat) : Int)) (fun _ i => n - (intOf i).toNat)
  case atStart => exact ⟨0, by omega, rfl, rfl⟩
  case round =>
    obtain ⟨k, hk, rfl, rfl⟩ := hrel
    have hle := flat_le L k
    obtain ⟨S, hS⟩ : ∃ S, (L.take k).flatten.length = S := ⟨_, rfl⟩
    rw [hS] at hle ⊢
    have HS := Lib.hid hS
    clear hS
    by_cases hlt : k < n
    · obtain ⟨b, off, u, rfl, hcu, hu⟩ := H.out.at hlt
      obtain ⟨_, _, Au, cu, rfl, _, _⟩ := hu.parts
      have hnext := flat_take L k (by rw [HN.out]; exact hlt)
      have hle2 := flat_le L (k + 1)
      rw [hnext, List.length_append, HS.out] at hle2
      obtain ⟨m, hm⟩ : ∃ m, (L.getD k []).length = m := ⟨_, rfl⟩
      rw [hm] at hcu hle2
      have HM := Lib.hid hm
      have hng : ¬ ((S : Int) + (m : Int) < 0) := by omega
      clear hu hm
      go_wp2
      go_round
      case rel => exact ⟨k + 1, by omega, by go_num, by rw [hnext, List.length_append, HS.out, HM.out]; rfl⟩
      case measure => simp [intOf]; omega
    · obtain rfl : k = n := by omega
      go_wp2_with fail
      refine (grow_any S w (by omega)).mono ?_
      rintro e w1 ⟨v1, rfl, ho1, hb1⟩
      have HO1 := Lib.hid ho1
      clear ho1
      go_wp2_with fail
      go_loopw [6, 27] (fun v' i wr => ∃ j : Nat, j ≤ k ∧ i = .int .i64 j ∧ Own wr w.heap.size v' (L.take j).flatten ∧ Below w.heap.size w wr) (fun _ i _ => k - (intOf i).toNat)
      case atStart => exact ⟨0, Nat.zero_le _, rfl, by simpa using HO1.out, hb1⟩
      case round =>
        obtain ⟨j, hj, rfl, hv, hb⟩ := hrel
        have HV := Lib.hid hv
        have hwz := hb.size
        have hle := flat_le L j
        clear hv
        by_cases hlt : j < k
        · obtain ⟨b, off, u, rfl, hcu, hu⟩ := (H.out.under hb).at hlt
          have HU := Lib.hid hu
          have hnext := flat_take L j (by rw [HN.out]; exact hlt)
          have hle2 := flat_le L (j + 1)
          rw [hnext, List.length_append] at hle2
          have HX := Lib.hid hnext.symm
          clear hu hnext
          go_wp2_with (at_builtin; refine wpList_append_bytes rfl _ _ rfl w.heap.size _ _ (L.take j).flatten (L.getD j []) rfl HV.out rfl HU.out ?_ hwz (L.take (j + 1)).flatten HX.out ?_)
          case refine_1 => omega
          case refine_2 =>
            intro v' w' hg
            obtain ⟨ho', _, _, hb'⟩ := hg
            have HO' := Lib.hid ho'
            have hb2 := hb.trans hb'
            clear ho' hb hb'
            go_wp2
            go_roundw
            case rel => exact ⟨j + 1, by omega, by go_num, HO'.out, hb2⟩
            case measure => simp [intOf]; omega
        · obtain rfl : j = k := by omega
          go_wp2
          go_ret
          refine ⟨_, rfl, ?_, hb⟩
          have := HV.out
          rwa [List.take_of_length_le (by rw [HN.out]; exact Nat.le_refl _)] at this
end Go.Proofs.YtfheaognfocofaaGreatDoor
