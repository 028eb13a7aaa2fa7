/- LineJoins: two texts of lines, one behind the other, are the lines of both, those of the second one further down; a fault of the first one is that of both. -/
import Derived.Test.YtpebkdmoloiecaaLineRows
import Derived.Test.YtpebkdmoloiecaaLineText
import Derived.Test.YtpebkdmoloiecaaInts
namespace Go.Proofs.Ytpebkdmoloiecaa
open Go.ChangeShapes Go.WideShapes Go.ChangeAt Go.RowKit

set_option maxRecDepth 100000 in
set_option maxHeartbeats 2000000 in
theorem joins_long (v0 v1 : Value) (raw : List Nat) (w : World) (hr : Bytes w v0 raw) (hl : 200 < raw.length) :
    Calls Try.prog 4 #[v0, v1] w fun e w' => e = .returned (.bool true) ∧ Below w.heap.size w w' := by
  obtain ⟨_, hm, A, c, rfl, hc, _⟩ := hr.parts
  have h4 : (200 : Int) < (raw.length : Int) := by omega
  clear hr
  go_enter Try.func4, Try.ntmps4
  go_wp2_with (go_at_call 8; refine (awake_any _).mono ?_; rintro e w' ⟨rfl, hbw⟩)
  go_ret
  exact ⟨rfl, hbw⟩
theorem count_next (b : List Nat) (j : Nat) (hj : j < b.length) : (b.take (j + 1)).count 10 = (b.take j).count 10 + if b.getD j 0 = 10 then 1 else 0 := by
  rw [take_snoc b j hj, List.count_append]
  by_cases h : b.getD j 0 = 10
  · rw [h, if_pos rfl]; rfl
  · rw [if_neg h, List.count_singleton, if_neg (by simpa using h)]
theorem rdL_small {w : World} {v : Value} {LL : List (List Ln.W)} (h : RdL w v LL) : LL.length ≤ maxLen := by
  obtain ⟨_, _, _, _, h, _⟩ := h
  exact h
theorem own_empty' (w : World) (o : Obj) (hb : (w.alloc o).heap.size = w.heap.size + 1) : Own ((w.alloc o).alloc (.cells #[] 5)) (w.heap.size + 1) (.slice (some ⟨w.heap.size + 1, 0, none⟩) 0 0) [] := by
  rw [← hb]
  exact own_empty _ _ 0 #[] (Nat.le_refl _) (by decide) rfl
/-- What is told of a text, with the lines of one's own where there are some. -/
def Both (w w' : World) (R : Ln.Res) (v : Value) (LL : List (List Ln.W)) (k l c : Nat) : Prop :=
  (R = .ok LL ∧ k = 0 ∧ l = 0 ∧ c = 0 ∧ St w' w.heap.size v LL (.slice none 0 0) []) ∨ (R = .bad k l c ∧ ∃ A d, v = .slice A 0 d)
theorem Told.both {w w' : World} {e : Ending} {R : Ln.Res} (h : Told w w' e R) : ∃ (v : Value) (LL : List (List Ln.W)) (k l c : Nat), e = .returned (.tuple #[v, .agg #[.int .i64 (k : Int), .int .i64 (l : Int), .int .i64 (c : Int)]]) ∧ Both w w' R v LL k l c := by
  rcases R with LL | ⟨k, ln, col⟩
  · obtain ⟨v, he, hl⟩ := h
    exact ⟨v, LL, 0, 0, 0, he, .inl ⟨rfl, rfl, rfl, rfl, hl⟩⟩
  · obtain ⟨A, c, he⟩ := h
    exact ⟨_, [], k, ln, col, he, .inr ⟨rfl, A, c, rfl⟩⟩
theorem Both.slice {w w' : World} {R : Ln.Res} {v : Value} {LL : List (List Ln.W)} {k l c : Nat} (h : Both w w' R v LL k l c) : ∃ A n d, v = .slice A n d := by
  rcases h with ⟨_, _, _, _, h⟩ | ⟨_, A, d, h⟩
  · obtain ⟨A, d, h⟩ := h.rd.parts
    exact ⟨A, _, d, h⟩
  · exact ⟨A, 0, d, h⟩
set_option maxRecDepth 100000 in
set_option maxHeartbeats 8000000 in
theorem joins_short (v0 v1 : Value) (raw : List Nat) (zs : List Int) (w : World) (hr : Bytes w v0 raw) (hz : Ints w v1 zs) (hl : raw.length ≤ 200) :
    Calls Try.prog 4 #[v0, v1] w fun e w' => e = .returned (.bool true) ∧ Below w.heap.size w w' := by
  have HR := Lib.hid hr
  have HZ := Lib.hid hz
  obtain ⟨_, _, A0, c0, rfl, hc0, _⟩ := hr.parts
  obtain ⟨_, hzm, A1, c1, rfl, hc1, _⟩ := hz
  clear hr
  obtain ⟨R, hR⟩ : ∃ n, raw.length = n := ⟨_, rfl⟩
  obtain ⟨n1, hn1⟩ : ∃ n, zs.length = n := ⟨_, rfl⟩
  rw [hR] at HR hl hc0 ⊢
  rw [hn1] at HZ hzm hc1 ⊢
  have HRL := Lib.hid hR
  have r1 : ¬ (200 : Int) < (R : Int) := by omega
  clear hR hn1
  go_enter Try.func4, Try.ntmps4
  go_wp2_with (at_builtin; refine wpList_append_bytes rfl _ _ rfl w.heap.size (.slice (some ⟨w.heap.size, 0, none⟩) 0 0) _ [] raw rfl (own_empty w _ 0 #[] (Nat.le_refl _) (by decide) rfl) rfl (HR.out.alloc _) (by rw [HRL.out]; simp; omega) (by simp) raw rfl ?_)
  rintro v2 w2 ⟨hO2, -, -, hb2⟩
  have HO2 := Lib.hid hO2
  have HB2 := Lib.hid (((Below.refl _ w).alloc (Nat.le_refl _) (.cells #[] 5)).trans hb2)
  clear hO2 hb2
  go_wp2_with (at_builtin; refine wpList_append_bytes rfl _ _ rfl w.heap.size v2 _ raw [10] rfl (HO2.out.alloc _) rfl (bytes_one w2 10 10 _ _ rfl (by omega)) (by rw [HRL.out]; simp; omega) (Nat.le_trans HB2.out.size (by simp)) _ rfl ?_)
  rintro v3 w3 ⟨hO3, -, -, hb3⟩
  have HB3 := Lib.hid ((HB2.out.alloc HB2.out.size (.cells #[.int .u8 10] 5)).trans hb3)
  obtain ⟨_, _, Aa, ca, rfl, hca, _⟩ := hO3.bytes.parts
  have HA := Lib.hid hO3.bytes
  obtain ⟨a, ha⟩ : ∃ a, raw ++ [10] = a := ⟨_, rfl⟩
  rw [ha] at HA hca ⊢
  obtain ⟨N, hN⟩ : ∃ N, a.length = N := ⟨_, rfl⟩
  rw [hN] at HA hca ⊢
  have HNL := Lib.hid hN
  have HAE := Lib.hid ha
  have hN6 : N ≤ 201 := by rw [← hN, ← ha, List.length_append, HRL.out]; simp; omega
  clear hO3 hb3 HO2 ha hN
  go_wp2_with fail
  refine (text_any _ zs _ (HZ.out.under HB3.out)).mono ?_
  rintro e w4 ⟨T, u4, rfl, hT, hO4, hb4⟩
  obtain ⟨_, _, At, ct, rfl, hct, _⟩ := hO4.bytes.parts
  have HT := Lib.hid hO4.bytes
  have HA4 := Lib.hid (HA.out.under hb4)
  have HB4 := Lib.hid (HB3.out.trans (hb4.mono HB3.out.size))
  obtain ⟨N2, hN2⟩ : ∃ N, T.length = N := ⟨_, rfl⟩
  rw [hN2] at HT hct hT ⊢
  have HN2L := Lib.hid hN2
  clear hO4 hb4 HA HZ HR hN2
  go_wp2_with fail
  go_loopw [7, 32] (fun nv iv wr => ∃ j : Nat, j ≤ N ∧ iv = .int .i64 (j : Int) ∧ nv = .int .i64 ((a.take j).count 10 : Nat) ∧ w4 = wr) (fun _ iv _ => N - (intOf iv).toNat)
  case atStart => exact ⟨0, by omega, rfl, rfl, rfl⟩
  case round =>
    obtain ⟨j, hj, rfl, rfl, rfl⟩ := hrel
    by_cases hlt : j < N
    · have hjI : (j : Int) < (N : Int) := by omega
      obtain ⟨_, _, A', c', hAe, _, hcell⟩ := HA4.out.parts
      injection hAe with e1 e2 e3
      obtain ⟨bb, off, e4, hcl⟩ := hcell (by rw [HNL.out]; omega)
      rw [← e1] at e4
      subst e4
      have hck := hcl j (by rw [HNL.out]; exact hlt)
      clear hcell hcl e1 e2 e3
      have hcn := count_next a j (by rw [HNL.out]; exact hlt)
      obtain ⟨z, hz⟩ : ∃ z, a.getD j 0 = z := ⟨_, rfl⟩
      rw [hz] at hck hcn
      have hcs := List.count_le_length (a := 10) (l := a.take j)
      rw [List.length_take] at hcs
      obtain ⟨n, hn⟩ : ∃ n, (a.take j).count 10 = n := ⟨_, rfl⟩
      rw [hn] at hcn hcs ⊢
      have hn6 : n ≤ 201 := by omega
      clear hn hz hcs
      by_cases h10 : z = 10
      · subst h10
        rw [if_pos rfl] at hcn
        have HCN := Lib.hid hcn
        clear hcn
        go_wp2
        go_roundw
        case rel => exact ⟨j + 1, hlt, by go_num, by rw [HCN.out]; go_num, trivial⟩
        case measure => simp [intOf]; omega
      · rw [if_neg h10] at hcn
        have HCN := Lib.hid hcn
        have b10 : ((z : Int) == 10) = false := by simp; omega
        clear hcn h10
        go_wp2
        go_roundw
        case rel => exact ⟨j + 1, hlt, by go_num, by rw [HCN.out]; rfl, trivial⟩
        case measure => simp [intOf]; omega
    · obtain rfl : j = N := by omega
      have hcn : (a.take j).count 10 = raw.count 10 + 1 := by
        rw [List.take_of_length_le (Nat.le_of_eq HNL.out), ← HAE.out, List.count_append]
        rfl
      have hcs := List.count_le_length (a := 10) (l := a.take j)
      rw [List.length_take] at hcs
      obtain ⟨n, hn⟩ : ∃ n, (a.take j).count 10 = n := ⟨_, rfl⟩
      rw [hn] at hcn hcs ⊢
      have hn6 : n ≤ 201 := by omega
      have HCN := Lib.hid hcn
      clear hn hcs hcn
      go_wp2_with fail
      refine (split_any _ a _ HA4.out (by rw [HNL.out]; omega)).mono ?_
      rintro e w5 ⟨ht5, hb5⟩
      obtain ⟨vx, LX, kx, lx, cx, rfl, hbx⟩ := ht5.both
      obtain ⟨Ax, nx, dx, rfl⟩ := hbx.slice
      have HX := Lib.hid hbx
      have HA5 := Lib.hid (HA4.out.under hb5)
      have HT5 := Lib.hid (HT.out.under hb5)
      have HB5 := Lib.hid (HB4.out.trans (hb5.mono HB4.out.size))
      have H45 : Hid (w4.heap.size ≤ w5.heap.size) := Lib.hid hb5.size
      clear ht5 hbx hb5 HT HA4
      go_wp2_with fail
      refine (split_any _ T _ (HT5.out.alloc _) (by rw [HN2L.out]; omega)).mono ?_
      rintro e w6 ⟨ht6, hb6⟩
      obtain ⟨vy, LY, ky, ly, cy, rfl, hby⟩ := ht6.both
      obtain ⟨Ay, ny, dy, rfl⟩ := hby.slice
      have HY := Lib.hid hby
      have HA6 := Lib.hid ((HA5.out.alloc _).under hb6)
      have HT6 := Lib.hid ((HT5.out.alloc _).under hb6)
      have HF1 : Hid (Blk w6 w5.heap.size 29 #[.int .i64 (kx : Int), .int .i64 (lx : Int), .int .i64 (cx : Int)]) := Lib.hid (Blk.under (heap_alloc_new w5 _) hb6)
      have HB56 : Hid (Below w5.heap.size w5 w6) := Lib.hid (((Below.refl _ _).alloc (Nat.le_refl _) _).trans (hb6.mono (by simp)))
      clear ht6 hby hb6 HT5 HA5
      go_wp2_with (at_builtin; refine wpList_append_bytes rfl _ _ rfl (w6.heap.size + 1) (.slice (some ⟨w6.heap.size + 1, 0, none⟩) 0 0) _ [] a rfl (own_empty' _ _ (by simp)) rfl ((HA6.out.alloc _).alloc _) (by rw [HNL.out]; simp; omega) (by simp) a rfl ?_)
      rintro v7 w7 ⟨hO7, -, -, hb7⟩
      have HO7 := Lib.hid hO7
      have HB67 : Hid (Below (w6.heap.size + 1) (w6.alloc (.cells #[.int .i64 (ky : Int), .int .i64 (ly : Int), .int .i64 (cy : Int)] 29)) w7) := Lib.hid (((Below.refl _ _).alloc (by simp) (.cells #[] 5)).trans hb7)
      clear hO7 hb7
      go_wp2_with (at_builtin; refine wpList_append_bytes rfl _ _ rfl (w6.heap.size + 1) v7 _ a T rfl HO7.out rfl ((HT6.out.alloc _).below HB67.out (fun k _ h => by simpa using h)) (by rw [HNL.out, HN2L.out]; omega) (Nat.le_trans (by simp) HB67.out.size) _ rfl ?_)
      rintro v8 w8 ⟨hO8, -, -, hb8⟩
      have HB68 := Lib.hid (HB67.out.trans hb8)
      have HZ8 := Lib.hid hO8.bytes
      clear hO8 hb8 HO7
      go_wp2_with fail
      refine (split_any v8 (a ++ T) _ HZ8.out (by rw [List.length_append, HNL.out, HN2L.out]; omega)).mono ?_
      rintro e w9 ⟨ht9, hb9⟩
      obtain ⟨vz, LZ, kz, lz, cz, rfl, hbz⟩ := ht9.both
      obtain ⟨Az, nz, dz, rfl⟩ := hbz.slice
      have HZ := Lib.hid hbz
      have HB89 := Lib.hid hb9
      have HSP : Hid (a ++ T = raw ++ 10 :: T) := Lib.hid (by rw [← HAE.out, List.append_assoc]; rfl)
      have HB69 : Hid (Below (w6.heap.size + 1) (w6.alloc (.cells #[.int .i64 (ky : Int), .int .i64 (ly : Int), .int .i64 (cy : Int)] 29)) w9) := Lib.hid (HB68.out.trans (hb9.mono (Nat.le_trans (by simp) HB68.out.size)))
      have HB59 : Hid (Below w5.heap.size w5 w9) := Lib.hid (((HB56.out.alloc HB56.out.size _).trans (HB69.out.mono (by have := HB56.out.size; omega))))
      have HF13 : Hid (Blk w9 w5.heap.size 29 #[.int .i64 (kx : Int), .int .i64 (lx : Int), .int .i64 (cx : Int)]) := Lib.hid ((HF1.out.alloc _).below HB69.out (by have := HF1.out.size; omega))
      have HF23 : Hid (Blk w9 w6.heap.size 29 #[.int .i64 (ky : Int), .int .i64 (ly : Int), .int .i64 (cy : Int)]) := Lib.hid (Blk.below (heap_alloc_new w6 _) HB69.out (by omega))
      have HBW : Hid (Below w.heap.size w w9) := Lib.hid (HB5.out.trans (HB59.out.mono HB5.out.size))
      clear ht9 hbz hb9 HZ8 HA6 HT6
      have x0 : ∀ o, (w9.alloc o).cell? ⟨w5.heap.size, 0, none⟩ = some (.int .i64 (kx : Int)) := fun o => (HF13.out.alloc o).at 0
      have x1 : ∀ o, (w9.alloc o).cell? ⟨w5.heap.size, 1, none⟩ = some (.int .i64 (lx : Int)) := fun o => (HF13.out.alloc o).at 1
      have x2 : ∀ o, (w9.alloc o).cell? ⟨w5.heap.size, 2, none⟩ = some (.int .i64 (cx : Int)) := fun o => (HF13.out.alloc o).at 2
      have y0 : ∀ o, (w9.alloc o).cell? ⟨w6.heap.size, 0, none⟩ = some (.int .i64 (ky : Int)) := fun o => (HF23.out.alloc o).at 0
      have y1 : ∀ o, (w9.alloc o).cell? ⟨w6.heap.size, 1, none⟩ = some (.int .i64 (ly : Int)) := fun o => (HF23.out.alloc o).at 1
      have y2 : ∀ o, (w9.alloc o).cell? ⟨w6.heap.size, 2, none⟩ = some (.int .i64 (cy : Int)) := fun o => (HF23.out.alloc o).at 2
      have yf : ∀ o, (w9.alloc o).frozen? ⟨w6.heap.size, 1, none⟩ = false := fun o => (HF23.out.alloc o).free 1
      have HJ : Hid (Ln.split (a ++ T) = (Ln.split a).then (fun m => (Ln.split T).up m) n) := Lib.hid (by rw [HSP.out, Ln.join_is, HAE.out, HCN.out])
      have HB10 : Hid (∀ o, Below w.heap.size w (w9.alloc o)) := Lib.hid fun o => HBW.out.alloc HBW.out.size o
      rcases HX.out with ⟨hx1, rfl, rfl, rfl, hx5⟩ | ⟨hx1, -⟩
      · rcases HY.out with ⟨hy1, rfl, rfl, rfl, hy5⟩ | ⟨hy1, -⟩
        · have hzz : kz = 0 ∧ lz = 0 ∧ cz = 0 ∧ LZ = LX ++ LY.map (fun R => R.map (Ln.up n)) ∧ St w9 w8.heap.size (.slice Az nz dz) LZ (.slice none 0 0) [] := by
            have hj := HJ.out
            rw [hx1, hy1] at hj
            rcases HZ.out with ⟨h, h1, h2, h3, h4⟩ | ⟨h, -⟩
            · rw [hj] at h
              injection h with h
              exact ⟨h1, h2, h3, h.symm, h4⟩
            · rw [hj] at h; cases h
          obtain ⟨rfl, rfl, rfl, hLZ, hz5⟩ := hzz
          obtain ⟨uy, hys⟩ := hy5.ys
          obtain ⟨uz, hzs⟩ := hz5.ys
          have hlo : (w5.alloc (.cells #[.int .i64 ((0 : Nat) : Int), .int .i64 ((0 : Nat) : Int), .int .i64 ((0 : Nat) : Int)] 29)).heap.size = w5.heap.size + 1 := by simp
          rw [hlo] at hys
          have HLS := Lib.hid (Ln.lines_small hy1)
          have HFEW : Hid (LX.length ≤ 201 ∧ LY.length ≤ 3000) := Lib.hid ⟨by have := Ln.lines_few hx1; rw [HNL.out] at this; omega, by have := Ln.lines_few hy1; rw [HN2L.out] at this; omega⟩
          have HLZ := Lib.hid hLZ
          have hny : LY.length = ny := by
            obtain ⟨A', c', e⟩ := hys.rd.parts
            injection e with _ e _
            exact e.symm
          have hnys := rdL_small hys.rd
          rw [hny] at hnys
          unfold maxLen at hnys
          have HNY := Lib.hid hny
          obtain ⟨W, hW⟩ : ∃ W, w9.alloc (.cells #[.int .i64 ((0 : Nat) : Int), .int .i64 ((0 : Nat) : Int), .int .i64 ((0 : Nat) : Int)] 29) = W := ⟨_, rfl⟩
          have HYS : Hid (Ys W (w5.heap.size + 1) w6.heap.size (.slice Ay ny dy) uy LY) := Lib.hid (hys.same fun k h1 h2 => by
            rw [← hW, Below.heap_alloc w9 _ k (by have := HF23.out.size; omega), HB69.out.block k (by omega), Below.heap_alloc w6 _ k h2])
          have HZS : Hid (Ys W w8.heap.size w9.heap.size (.slice Az nz dz) uz LZ) := Lib.hid (hzs.same fun k h1 h2 => by rw [← hW, Below.heap_alloc w9 _ k h2])
          have HXS := Lib.hid hx5
          have HB5W : Hid (Below w5.heap.size w5 W) := Lib.hid (by rw [← hW]; exact HB59.out.alloc HB59.out.size _)
          have HF3 : Hid (Blk W w9.heap.size 29 #[.int .i64 ((0 : Nat) : Int), .int .i64 ((0 : Nat) : Int), .int .i64 ((0 : Nat) : Int)]) := Lib.hid (by rw [← hW]; exact heap_alloc_new w9 _)
          have HW9 : Hid (w6.heap.size + 1 ≤ w8.heap.size ∧ w8.heap.size ≤ w9.heap.size ∧ w5.heap.size + 1 ≤ w6.heap.size) := Lib.hid ⟨Nat.le_trans (by simp) HB68.out.size, HB89.out.size, by have := HF1.out.size; omega⟩
          have HBWW : Hid (Below w.heap.size w W) := Lib.hid (by rw [← hW]; exact HBW.out.alloc HBW.out.size _)
          clear hx1 hy1 hx5 hy5 hz5 hys hzs hlo hLZ hny HX HY HZ HJ
          go_wp2_with fail
          have hW2 : w9.alloc (.cells #[.int .i64 0, .int .i64 0, .int .i64 0] 29) = W := hW
          rw [hW2]
          clear hW hW2 x0 x1 x2 y0 y1 y2 yf
          go_loopw [95] (fun iv wr => ∃ (i : Nat) (LL : List (List Ln.W)), i ≤ ny ∧ iv = .int .i64 (i : Int) ∧ Hid (Half n LY LL i 0) ∧ Hid (Ys wr (w5.heap.size + 1) w6.heap.size (.slice Ay ny dy) uy LL) ∧ Hid (Below (w5.heap.size + 1) W wr) ∧ Hid (∀ k, w6.heap.size ≤ k → wr.heap[k]? = W.heap[k]?)) (fun iv _ => ny - (intOf iv).toNat)
          case atStart => exact ⟨0, LY, Nat.zero_le _, rfl, Lib.hid (half_start n LY), HYS, Lib.hid (Below.refl _ _), Lib.hid fun _ _ => rfl⟩
          case round =>
            obtain ⟨i, LL, hin, rfl, hH, hY, hbl, hup⟩ := hrel
            by_cases hilt : i < ny
            · have hiI : (i : Int) < (ny : Int) := by omega
              have hiL : i < LY.length := by rw [HNY.out]; exact hilt
              have hiLL : i < LL.length := by rw [hH.out.1]; exact hiL
              obtain ⟨g0, B, d, rfl, hrow, hMd, hMm, hue⟩ := hY.out.row i hiLL
              obtain ⟨M, hM⟩ : ∃ M, (LL.getD i []).length = M := ⟨_, rfl⟩
              rw [hM] at hrow hMd hMm hue
              have HM : Hid ((LY.getD i []).length = M) := Lib.hid (by rw [← hM]; exact ((hH.out.2 i hiL).1).symm)
              have HUE := Lib.hid hue
              have HIL := Lib.hid hiL
              unfold maxLen at hMm
              clear hM hue hiL hiLL
              obtain ⟨wz, rfl⟩ : ∃ wx : World, wx = wr := ⟨_, rfl⟩
              go_wp2_with fail
              go_loopw [101] (fun kv wr => ∃ (k : Nat) (LL : List (List Ln.W)), k ≤ M ∧ kv = .int .i64 (k : Int) ∧ Hid (Half n LY LL i k) ∧ Hid (Ys wr (w5.heap.size + 1) w6.heap.size (.slice (some ⟨g0, 0, none⟩) ny dy) uy LL) ∧ Hid (Below (w5.heap.size + 1) W wr) ∧ Hid (∀ k, w6.heap.size ≤ k → wr.heap[k]? = W.heap[k]?)) (fun kv _ => M - (intOf kv).toNat)
              case atStart => exact ⟨0, LL, Nat.zero_le _, rfl, hH, hY, hbl, hup⟩
              case round =>
                obtain ⟨k, L2, hkM, rfl, hH2, hY2, hbl2, hup2⟩ := hrel
                by_cases hk : k < M
                · have hkI : (k : Int) < (M : Int) := by omega
                  have hkL : k < (LY.getD i []).length := by rw [HM.out]; exact hk
                  have hrl : (L2.getD i []).length = M := by rw [(hH2.out.2 i HIL.out).1, HM.out]
                  obtain ⟨hkL2, hsame⟩ := hH2.out.at HIL.out hkL
                  obtain ⟨g, hB, hg1, hg2, hcell, hfree, hwr⟩ := hY2.out.write (i := i) (B := B) (d := d) (by rw [hH2.out.1]; exact HIL.out) (by rw [hrl]; exact HUE.out) k hkL2
                  subst hB
                  rw [hsame] at hcell
                  obtain ⟨l0, hl0⟩ : ∃ l0, ((LY.getD i [])[k]'hkL).line = l0 := ⟨_, rfl⟩
                  have hl06 : l0 ≤ 3001 := by
                    rw [← hl0]
                    have h1 : LY.getD i [] ∈ LY := by
                      rw [List.getD_eq_getElem?_getD, List.getElem?_eq_getElem HIL.out]
                      exact List.getElem_mem _
                    have h2 := HLS.out _ h1 _ (List.getElem_mem hkL)
                    have h3 := HN2L.out
                    omega
                  rw [hl0] at hcell
                  obtain ⟨l2, hl2⟩ : ∃ l2 : Nat, (l0 : Int) + (n : Int) = (l2 : Int) := ⟨l0 + n, by omega⟩
                  have hh3 := hH2.out.set HIL.out hkL hkL2 l2 (by rw [hl0]; omega)
                  have hy3 := hwr l2
                  obtain ⟨L3, hL3⟩ : ∃ L3, L2.set i ((L2.getD i []).set k { (L2.getD i [])[k]'hkL2 with line := l2 }) = L3 := ⟨_, rfl⟩
                  rw [hL3] at hh3 hy3
                  have HH3 := Lib.hid hh3
                  have HY3 := Lib.hid hy3
                  have HB3 := Lib.hid (hbl2.out.setCell (p := ⟨g, k * 4 + 1, none⟩) hg1 (.int .i64 (l2 : Int)))
                  have HUP3 : Hid (∀ j, w6.heap.size ≤ j → (wr.setCell ⟨g, k * 4 + 1, none⟩ (.int .i64 (l2 : Int))).heap[j]? = W.heap[j]?) := Lib.hid (fun j hj => (Below.heap_setCell wr _ _ j (by simp; omega)).trans (hup2.out j hj))
                  clear hL3 hh3 hy3 hwr hkL hrl hkL2 hsame hg1 hg2 hl0 hH2 hY2 hbl2 hup2
                  go_wp2
                  go_roundw
                  case rel => exact ⟨k + 1, _, hk, by go_num, HH3, HY3, HB3, HUP3⟩
                  case measure => simp [intOf]; omega
                · obtain rfl : k = M := by omega
                  go_wp2
                  go_roundw
                  case rel => exact ⟨i + 1, L2, hilt, by go_num, Lib.hid (hH2.out.next (by rw [HM.out]; exact Nat.le_refl _)), hY2, hbl2, hup2⟩
                  case measure => simp [intOf]; omega
            · obtain rfl : i = ny := by omega
              have hdone := hH.out.done (by rw [HNY.out]; exact Nat.le_refl _)
              subst hdone
              have hk3 : wr.cell? ⟨w9.heap.size, 0, none⟩ = some (.int .i64 0) := (World.cell?_of_block (hup.out _ (by have := HW9.out; show w6.heap.size ≤ w9.heap.size; omega))).trans (HF3.out.at 0)
              have HXS2 := Lib.hid (HXS.out.under (HB5W.out.trans (hbl.out.mono (by have := HB5W.out.size; omega))))
              have HZR : Hid (∀ w', wr.grownBy w' (Value.slice Ax nx dx).ownBlock → (∀ k, (Value.slice Ax nx dx).ownBlock = some k → w4.heap.size ≤ k ∧ k < w5.heap.size) → RdL w' (.slice Az nz dz) LZ) := Lib.hid (fun w' hg hk => (HZS.out.same fun k h1 h2 => by
                have h9 := HW9.out
                have hs := hbl.out.size
                have hW9 : w9.heap.size < W.heap.size := HF3.out.size
                rw [hg.block k (by omega) (fun e => by have := (hk k e.symm).2; omega), hup.out k (by omega)]).rd)
              have hbk : ∀ k, (Value.slice Ax nx dx).ownBlock = some k → w4.heap.size ≤ k ∧ k < w5.heap.size := by
                obtain ⟨_, _, h2, _⟩ := HXS.out
                exact fun k hk => World.ownsRow.lt h2 k hk
              have HBK := Lib.hid hbk
              have HBLR : Hid (Below w.heap.size w wr) := Lib.hid (HBWW.out.trans (hbl.out.mono (by have := HB5.out.size; omega)))
              clear hbk
              go_wp2_with (at_builtin; refine wpList_append_lines (by rfl) _ _ rfl w4.heap.size (w5.heap.size + 1) w6.heap.size (.slice Ax nx dx) (.slice Ay i dy) uy LX _ rfl HXS2.out rfl hY.out (by have := HW9.out; have := HF3.out.size; have := hbl.out.size; have := H45.out; omega) (by rw [List.length_map]; have := HFEW.out; omega) ?_)
              rintro v' w' hrd hg -
              have hrz := HZR.out w' hg HBK.out
              rw [HLZ.out] at hrz
              have HRZ := Lib.hid hrz
              have HRD := Lib.hid hrd
              have HBL' : Hid (Below w.heap.size w w') := Lib.hid (HBLR.out.grown hg HBLR.out.size fun k hk => by have := (HBK.out k hk).1; have := HB4.out.size; omega)
              clear hrz hrd hg hk3
              go_wp2_with fail
              refine (refsame_any (.slice Az nz dz) v' _ w' HRZ.out HRD.out).mono ?_
              rintro e w12 ⟨rfl, nq, rfl⟩
              go_wp2_with fail
              refine (awake_any _).mono ?_
              rintro e w13 ⟨rfl, hb13⟩
              have hd14 : Below w.heap.size w (w'.drewN nq) := HBL'.out.trans ⟨rfl, rfl, rfl, Nat.le_refl _, fun _ _ => rfl⟩
              have hb14 := hd14.trans (hb13.mono hd14.size)
              go_wp2
              go_ret
              exact ⟨rfl, hb14⟩
        · obtain ⟨hp1, hp2⟩ := Ln.split_bad_pos hy1
          rw [HN2L.out] at hp2
          have hly : ly ≤ 3001 := by omega
          have hzz : kz = ky ∧ lz = ly + n ∧ cz = cy ∧ nz = 0 := by
            have hj := HJ.out
            rw [hx1, hy1] at hj
            rcases HZ.out with ⟨h, -⟩ | ⟨h, A', d', e⟩
            · rw [hj] at h; cases h
            · rw [hj] at h
              injection h with h1 h2 h3
              injection e with e1 e2 e3
              exact ⟨h1.symm, h2.symm, h3.symm, e2⟩
          obtain ⟨rfl, hlz, rfl, rfl⟩ := hzz
          have hk0 : ((kz : Int) != 0) = true := by simp; omega
          have hsum : (ly : Int) + (n : Int) = (lz : Int) := by omega
          have hne : ¬ w6.heap.size = w9.heap.size := by have := HF23.out.size; omega
          have HB11 : Hid (∀ o u, Below w.heap.size w ((w9.alloc o).setCell ⟨w6.heap.size, 1, none⟩ u)) := Lib.hid fun o u => (HB10.out o).setCell (by have := HB5.out.size; have := HB56.out.size; simp; omega) u
          clear hp1 hp2 hx1 hy1 hx5 HX HY HZ HJ hlz
          go_wp2_with fail
          refine (awake_any _).mono ?_
          rintro e w11 ⟨rfl, hb11⟩
          have hb12 := (HB11.out _ _).trans (hb11.mono (HB11.out _ _).size)
          clear x0 x1 x2 y0 y1 y2 yf
          go_wp2
          go_ret
          exact ⟨rfl, hb12⟩
      · have hp1 := (Ln.split_bad_pos hx1).1
        have hzz : kz = kx ∧ lz = lx ∧ cz = cx ∧ nz = 0 := by
          have hj := HJ.out
          rw [hx1] at hj
          rcases HZ.out with ⟨h, -⟩ | ⟨h, A', d', e⟩
          · rw [hj] at h; cases h
          · rw [hj] at h
            injection h with h1 h2 h3
            injection e with e1 e2 e3
            exact ⟨h1.symm, h2.symm, h3.symm, e2⟩
        obtain ⟨rfl, rfl, rfl, rfl⟩ := hzz
        have hk0 : ((kz : Int) != 0) = true := by simp; omega
        clear hp1 hx1 HX HY HZ HJ
        go_wp2_with fail
        refine (awake_any _).mono ?_
        rintro e w11 ⟨rfl, hb11⟩
        have hb12 := (HB10.out _).trans (hb11.mono (HB10.out _).size)
        clear x0 x1 x2 y0 y1 y2 yf
        go_wp2
        go_ret
        exact ⟨rfl, hb12⟩
theorem joins_any (v0 v1 : Value) (raw : List Nat) (zs : List Int) (w : World) (hr : Bytes w v0 raw) (hz : Ints w v1 zs) :
    Calls Try.prog 4 #[v0, v1] w fun e w' => e = .returned (.bool true) ∧ Below w.heap.size w w' := by
  rcases Nat.lt_or_ge 200 raw.length with h | h
  · exact joins_long v0 v1 raw w hr h
  · exact joins_short v0 v1 raw zs w hr hz h
end Go.Proofs.Ytpebkdmoloiecaa
