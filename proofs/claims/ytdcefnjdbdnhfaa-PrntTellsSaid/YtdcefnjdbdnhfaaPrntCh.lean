/- What the document makes of one thing: text, in, all, take, drop, twice, fail. -/
import Derived.Test.YtdcefnjdbdnhfaaActStep
import Derived.Test.YtdcefnjdbdnhfaaPrntWrite
namespace Go.Proofs.Ytdcefnjdbdnhfaa
set_option maxRecDepth 100000
open Go.ChangeShapes Go.WideShapes Go.ChangeAt Go.RowKit

theorem run_low {P : Program} (w : World) (ts : Array TypeId) (t : TypeId) (x y n : Int) (h : min x y = n) : (Builtin.min_ ts t #[.int .i64 x, .int .i64 y]).run P w = .ok (.int .i64 n) w := by
  have e : (if y < x then y else x) = n := by
    subst h
    simp only [Int.min_def]
    split <;> split <;> omega
  simp [Builtin.min_, Builtin.min2, e]
/-- The thing's own box. -/
def boxW (w : World) (k : Int) (n : Nat) (t : List Nat) : World := w.alloc (.cells #[.int .i64 k, .int .i64 (n : Int), .string (str t)] 26)
theorem box_is (w : World) (k : Int) (n : Nat) (t : List Nat) : Below w.heap.size w (boxW w k n t) ∧ (∀ W, Below (boxW w k n t).heap.size (boxW w k n t) W → W.cell? ⟨w.heap.size, 0, none⟩ = some (.int .i64 k) ∧ W.cell? ⟨w.heap.size, 1, none⟩ = some (.int .i64 (n : Int)) ∧ W.cell? ⟨w.heap.size, 2, none⟩ = some (.string (str t))) := by
  refine ⟨(Below.refl _ _).alloc (Nat.le_refl _) _, fun W hb => ?_⟩
  have hk : Blk (boxW w k n t) w.heap.size 26 #[.int .i64 k, .int .i64 (n : Int), .string (str t)] := heap_alloc_new w _
  have h := hk.under hb
  exact ⟨h.at 0, h.at 1, h.at 2⟩
set_option maxRecDepth 100000 in
set_option maxHeartbeats 4000000 in
theorem rch1 (n : Nat) (t : List Nat) (vb vi : Value) (w : World) (ht : ∀ c ∈ t, c < 256) (htl : t.length ≤ 64) :
    Calls Try.prog 35 #[.agg #[.int .i64 1, .int .i64 (n : Int), .string (str t)], vb, vi] w fun e w' => CameIs w.heap.size w e w' (some t) := by
  obtain ⟨hb1, hc⟩ := box_is w 1 n t
  obtain ⟨c0, c1, c2⟩ := hc _ (Below.refl _ _)
  have hs := str_size t
  obtain ⟨w1, hw1⟩ : ∃ w1, boxW w 1 n t = w1 := ⟨_, rfl⟩
  rw [hw1] at hb1 c0 c1 c2
  obtain ⟨cap, mz, hcv, hc1, hc2, hc3⟩ := conv_text (str t) w1 (by rw [hs]; unfold maxLen; omega)
  have HM := Lib.hid ((mine_text w1 t _ rfl 5 cap _ rfl ht hc1 hc2 mz hc3 w.heap.size hb1.size))
  have HB := Lib.hid (((hb1.alloc hb1.size (.cells (bytesRow (str t) cap) 5 mz))).drew)
  obtain ⟨s, hst⟩ : ∃ s, str t = s := ⟨_, rfl⟩
  unfold boxW at hw1
  rw [hst] at c2 hcv hw1 HM HB ⊢
  have HW1 := Lib.hid hw1
  clear hc hb1 hs hst hw1 hc1 hc2 hc3
  go_enter Try.func35, Try.ntmps35
  go_upto_region 2 with fail
  rw [HW1.out]
  go_wp2
  go_ret2
  exact ⟨⟨_, rfl, HM.out.heap rfl⟩, HB.out⟩
set_option maxRecDepth 100000 in
set_option maxHeartbeats 4000000 in
theorem rch2 (n : Nat) (t : List Nat) (I : List (List Nat)) (vb vi : Value) (w : World) (hi : Rows2 w vi I) (hx : ∀ x ∈ I, x.length ≤ 100000) (T : Option (List Nat)) (hT : T = if n < I.length then some (I.getD n []) else none) :
    Calls Try.prog 35 #[.agg #[.int .i64 2, .int .i64 (n : Int), .string (str t)], vb, vi] w fun e w' => CameIs w.heap.size w e w' (T) := by
  have HT := Lib.hid hT
  have HI := Lib.hid hi
  have HX := Lib.hid hx
  obtain ⟨Ai, ci, rfl, hci⟩ := rows2_byte hi
  obtain ⟨m, hm⟩ : ∃ m, I.length = m := ⟨_, rfl⟩
  rw [hm] at hci HI HT ⊢
  have HM := Lib.hid hm
  clear hi hx hm hT
  obtain ⟨hb1, hc⟩ := box_is w 2 n t
  obtain ⟨w1, hw1⟩ : ∃ w1, boxW w 2 n t = w1 := ⟨_, rfl⟩
  rw [hw1] at hb1 hc
  have HB1 := Lib.hid hb1
  have HC := Lib.hid hc
  unfold boxW at hw1
  have HW1 := Lib.hid hw1
  clear hb1 hc hw1
  go_enter Try.func35, Try.ntmps35
  go_upto_region 2 with fail
  rw [HW1.out]
  obtain ⟨c0, c1, c2⟩ := HC.out w1 (Below.refl _ _)
  by_cases hlt : n < m
  · have hge : ¬ (m : Int) ≤ (n : Int) := by omega
    have hnI : (n : Int) < (m : Int) := by omega
    obtain ⟨b', off, u, rfl, hcu, hbu⟩ := (HI.out.under HB1.out).at hlt
    have HLX : Hid ((I.getD n []).length ≤ 100000) := Lib.hid (by
      rw [List.getD_eq_getElem?_getD, List.getElem?_eq_getElem (by rw [HM.out]; exact hlt)]
      exact HX.out _ (List.getElem_mem _))
    obtain ⟨x, hxe⟩ : ∃ x, I.getD n [] = x := ⟨_, rfl⟩
    have HTX : Hid (T = some x) := Lib.hid (by rw [HT.out, if_pos hlt, hxe])
    rw [hxe] at hbu HLX
    have HBU := Lib.hid (hbu.alloc (.cells #[] 5))
    have HOE : Hid (Own (w1.alloc (.cells #[] 5)) w.heap.size (.slice (some ⟨w1.heap.size, 0, none⟩) 0 0) []) := Lib.hid (own_empty w1 w.heap.size 0 #[] HB1.out.size (by unfold maxLen; omega) rfl)
    have HB2 := Lib.hid (HB1.out.alloc HB1.out.size (.cells #[] 5))
    clear hxe hbu HT
    have c1a : ∀ o, (w1.alloc o).cell? ⟨w.heap.size, 1, none⟩ = some (.int .i64 (n : Int)) := fun o => (HC.out _ ((Below.refl _ _).alloc (Nat.le_refl _) o)).2.1
    have hcua : ∀ o, (w1.alloc o).cell? ⟨b', off + n, none⟩ = some u := fun o => cell_later ((Below.refl _ _).alloc (Nat.le_refl _) o) hcu
    go_wp2_with (at_builtin; refine wpList_append_bytes rfl _ _ rfl w.heap.size _ _ [] x rfl HOE.out rfl HBU.out (by have := HLX.out; simp; omega) HB2.out.size x rfl ?_)
    rintro u' w' ⟨ho', _, _, hb'⟩
    have HO' := Lib.hid ho'
    have HB' := Lib.hid (HB2.out.trans hb')
    clear ho' hb'
    go_wp2
    go_ret2
    exact came_some HTX.out _ rfl HO'.out.mine HB'.out
  · have hge : (m : Int) ≤ (n : Int) := by omega
    have HTN : Hid (T = none) := Lib.hid (by rw [HT.out, if_neg hlt])
    clear HT
    go_wp2
    go_ret2
    exact came_none HTN.out rfl HB1.out
set_option maxRecDepth 100000 in
set_option maxHeartbeats 4000000 in
theorem rch3 (n : Nat) (t : List Nat) (I : List (List Nat)) (vb vi : Value) (w : World) (hi : Rows2 w vi I) (hI : I.length ≤ 1000) (hx : ∀ x ∈ I, x.length ≤ 100000) :
    Calls Try.prog 35 #[.agg #[.int .i64 3, .int .i64 (n : Int), .string (str t)], vb, vi] w fun e w' => CameIs w.heap.size w e w' (some I.flatten) := by
  have HI := Lib.hid hi
  have HX := Lib.hid hx
  obtain ⟨Ai, ci, rfl, hci⟩ := rows2_byte hi
  obtain ⟨m, hm⟩ : ∃ m, I.length = m := ⟨_, rfl⟩
  rw [hm] at hI hci HI ⊢
  have HM := Lib.hid hm
  have HFL : Hid (∀ k, k ≤ m → (I.take k).flatten.length ≤ k * 100000) := Lib.hid (fun k hk => by
    induction k with
    | zero => simp
    | succ k ih =>
      rw [flat_next I k (by omega), List.length_append]
      have h1 := ih (by omega)
      have h2 : (I.getD k []).length ≤ 100000 := by
        rw [List.getD_eq_getElem?_getD, List.getElem?_eq_getElem (by omega)]
        exact hx _ (List.getElem_mem _)
      omega)
  clear hi hx hm
  obtain ⟨hb1, hc⟩ := box_is w 3 n t
  obtain ⟨w1, hw1⟩ : ∃ w1, boxW w 3 n t = w1 := ⟨_, rfl⟩
  rw [hw1] at hb1 hc
  have HB1 := Lib.hid hb1
  have HC := Lib.hid hc
  unfold boxW at hw1
  have HW1 := Lib.hid hw1
  clear hb1 hc hw1
  go_enter Try.func35, Try.ntmps35
  go_upto_region 2 with fail
  rw [HW1.out]
  obtain ⟨c0, c1, c2⟩ := HC.out w1 (Below.refl _ _)
  go_wp2_with fail
  go_loopg [8, 9] m (fun q u i wr => ∃ k : Nat, k ≤ m ∧ m - k ≤ q ∧ i = .int .i64 (k : Int) ∧ Hid (Own wr w.heap.size u (I.take k).flatten) ∧ Hid (Below w.heap.size w wr))
  case atStart => exact ⟨0, by omega, by omega, rfl, Lib.hid (own_none _ _), HB1⟩
  case round =>
    obtain ⟨k, hk, hq, rfl, hO, hBl⟩ := hrel
    obtain ⟨wz, rfl⟩ : ∃ wx : World, wx = wr := ⟨_, rfl⟩
    by_cases hlt : k < m
    · have hkI : (k : Int) < (m : Int) := by omega
      obtain ⟨b', off, u, rfl, hcu, hbu⟩ := (HI.out.under hBl.out).at hlt
      have HNX := Lib.hid (flat_next I k (by rw [HM.out]; exact hlt))
      have HLN : Hid ((I.take k).flatten.length + (I.getD k []).length ≤ 70368744177664) := Lib.hid (by
        have h1 := HFL.out (k + 1) (by omega)
        rw [HNX.out, List.length_append] at h1
        have h4 : (k + 1) * 100000 ≤ 1000 * 100000 := Nat.mul_le_mul_right _ (by omega)
        omega)
      have HBU := Lib.hid hbu
      clear hbu
      go_wp2_with (at_builtin; refine wpList_append_bytes rfl _ _ rfl w.heap.size _ _ (I.take k).flatten (I.getD k []) rfl hO.out rfl HBU.out HLN.out hBl.out.size _ HNX.out.symm ?_)
      rintro u' w' ⟨ho', _, _, hb'⟩
      have HO' := Lib.hid ho'
      have HB' := Lib.hid (hBl.out.trans hb')
      clear ho' hb' hO hBl
      go_wp2
      go_roundg (m - (k + 1))
      case measure => omega
      case rel => exact ⟨k + 1, hlt, by omega, by go_num, HO', HB'⟩
    · obtain rfl : k = m := by omega
      have HO2 : Hid (Own wz w.heap.size u8 I.flatten) := Lib.hid (by have := hO.out; rwa [List.take_of_length_le (by rw [HM.out]; exact Nat.le_refl _)] at this)
      obtain ⟨c0', -, -⟩ := HC.out w1 (Below.refl _ _)
      clear hlt hO
      go_wp2
      go_ret2
      exact ⟨⟨_, rfl, HO2.out.mine⟩, hBl.out⟩
set_option maxRecDepth 100000 in
set_option maxHeartbeats 4000000 in
theorem rch4 (n : Nat) (t b : List Nat) (vb vi : Value) (w : World) (hb : Bytes w vb b) (hbl : b.length ≤ 1000) :
    Calls Try.prog 35 #[.agg #[.int .i64 4, .int .i64 (n : Int), .string (str t)], vb, vi] w fun e w' => CameIs w.heap.size w e w' (some (b.map Ac.upper)) := by
  have H := Lib.hid hb
  obtain ⟨h8, _, A, c, rfl, hc, _⟩ := hb.parts
  obtain ⟨m, hm⟩ : ∃ m, b.length = m := ⟨_, rfl⟩
  rw [hm] at hbl hc H ⊢
  have HM := Lib.hid hm
  have H8 := Lib.hid h8
  clear hb hm h8
  obtain ⟨hb1, hc⟩ := box_is w 4 n t
  obtain ⟨w1, hw1⟩ : ∃ w1, boxW w 4 n t = w1 := ⟨_, rfl⟩
  rw [hw1] at hb1 hc
  have HB1 := Lib.hid hb1
  have HC := Lib.hid hc
  unfold boxW at hw1
  have HW1 := Lib.hid hw1
  clear hb1 hc hw1
  go_enter Try.func35, Try.ntmps35
  go_upto_region 2 with fail
  rw [HW1.out]
  obtain ⟨c0, c1, c2⟩ := HC.out w1 (Below.refl _ _)
  go_wp2_with fail
  go_loopg [8, 10, 11] m (fun q u i _ wr => ∃ k : Nat, k ≤ m ∧ m - k ≤ q ∧ i = .int .i64 (k : Int) ∧ Hid (Own wr w1.heap.size u ((b.map Ac.upper).take k)) ∧ Hid (Below w1.heap.size w1 wr))
  case atStart => exact ⟨0, by omega, by omega, rfl, Lib.hid (own_none _ _), Lib.hid (Below.refl _ _)⟩
  case round =>
    obtain ⟨k, hk, hq, rfl, hO, hBl⟩ := hrel
    obtain ⟨wz, rfl⟩ : ∃ wx : World, wx = wr := ⟨_, rfl⟩
    clear c0 c1 c2
    obtain ⟨c0, c1, c2⟩ := HC.out wz hBl.out
    have HBW := Lib.hid (HB1.out.trans (hBl.out.mono HB1.out.size))
    by_cases hlt : k < m
    · have hkI : (k : Int) < (m : Int) := by omega
      obtain ⟨_, _, A', c', e, _, hxx⟩ := (H.out.under HBW.out).parts
      injection e with e1 e2 e3
      subst e1 e3
      obtain ⟨b', off, rfl, hcell⟩ := hxx (by rw [HM.out]; omega)
      have hck := hcell k (by rw [HM.out]; omega)
      have hx256 : b.getD k 0 < 256 := u8_lt H8.out k
      have HTK : Hid (b.take (k + 1) = b.take k ++ [b.getD k 0]) := Lib.hid (take_snoc b k (by rw [HM.out]; exact hlt))
      have HLT : Hid (((b.map Ac.upper).take k).length ≤ 1000) := Lib.hid (by rw [List.length_take]; omega)
      obtain ⟨x, hx'⟩ : ∃ x, b.getD k 0 = x := ⟨_, rfl⟩
      rw [hx'] at hck hx256 HTK
      clear hcell hxx hx' e2
      by_cases h1 : 97 ≤ x
      · have h1I : (97 : Int) ≤ (x : Int) := by omega
        by_cases h2 : x ≤ 122
        · have h2I : (x : Int) ≤ 122 := by omega
          have HJ : Hid ((b.map Ac.upper).take k ++ [x - 32] = (b.map Ac.upper).take (k + 1)) := Lib.hid (by rw [← List.map_take, ← List.map_take, HTK.out, List.map_append]; simp [Ac.upper, h1, h2])
          have HXI : Hid ((x : Int) - 32 = ((x - 32 : Nat) : Int)) := Lib.hid (by omega)
          go_wp2_with (at_builtin; refine wpList_append_bytes rfl _ _ rfl w1.heap.size _ _ ((b.map Ac.upper).take k) [x - 32] rfl (hO.out.alloc _) rfl (bytes_one _ _ _ _ _ HXI.out (by omega)) (by have := HLT.out; simp; omega) (by have := hBl.out.size; simp; omega) _ HJ.out ?_)
          rintro u' w' ⟨ho', _, _, hb'⟩
          have HO' := Lib.hid ho'
          have HB' := Lib.hid ((hBl.out.alloc hBl.out.size _).trans hb')
          clear ho' hb' hO
          go_wp2
          go_roundg (m - (k + 1))
          case measure => omega
          case rel => exact ⟨k + 1, hlt, by omega, by go_num, HO', HB'⟩
        · have h2I : ¬ (x : Int) ≤ 122 := by omega
          have HJ : Hid ((b.map Ac.upper).take k ++ [x] = (b.map Ac.upper).take (k + 1)) := Lib.hid (by rw [← List.map_take, ← List.map_take, HTK.out, List.map_append]; simp [Ac.upper, h2])
          go_wp2_with (at_builtin; refine wpList_append_bytes rfl _ _ rfl w1.heap.size _ _ ((b.map Ac.upper).take k) [x] rfl (hO.out.alloc _) rfl (bytes_one _ _ _ _ _ rfl (by omega)) (by have := HLT.out; simp; omega) (by have := hBl.out.size; simp; omega) _ HJ.out ?_)
          rintro u' w' ⟨ho', _, _, hb'⟩
          have HO' := Lib.hid ho'
          have HB' := Lib.hid ((hBl.out.alloc hBl.out.size (.cells #[.int .u8 ((x : Nat) : Int)] 5)).trans hb')
          clear ho' hb' hO
          go_wp2
          go_roundg (m - (k + 1))
          case measure => omega
          case rel => exact ⟨k + 1, hlt, by omega, by go_num, HO', HB'⟩
      · have h1I : ¬ (97 : Int) ≤ (x : Int) := by omega
        have HJ : Hid ((b.map Ac.upper).take k ++ [x] = (b.map Ac.upper).take (k + 1)) := Lib.hid (by rw [← List.map_take, ← List.map_take, HTK.out, List.map_append]; simp [Ac.upper, h1])
        go_wp2_with (at_builtin; refine wpList_append_bytes rfl _ _ rfl w1.heap.size _ _ ((b.map Ac.upper).take k) [x] rfl (hO.out.alloc _) rfl (bytes_one _ _ _ _ _ rfl (by omega)) (by have := HLT.out; simp; omega) (by have := hBl.out.size; simp; omega) _ HJ.out ?_)
        rintro u' w' ⟨ho', _, _, hb'⟩
        have HO' := Lib.hid ho'
        have HB' := Lib.hid ((hBl.out.alloc hBl.out.size (.cells #[.int .u8 ((x : Nat) : Int)] 5)).trans hb')
        clear ho' hb' hO
        go_wp2
        go_roundg (m - (k + 1))
        case measure => omega
        case rel => exact ⟨k + 1, hlt, by omega, by go_num, HO', HB'⟩
    · obtain rfl : k = m := by omega
      have HO2 : Hid (Own wz w1.heap.size u8 (b.map Ac.upper)) := Lib.hid (by have := hO.out; rwa [List.take_of_length_le (by rw [List.length_map, HM.out]; exact Nat.le_refl _)] at this)
      clear hlt hO
      go_wp2
      go_ret2
      exact ⟨⟨_, rfl, HO2.out.mine.more HB1.out.size⟩, HBW.out⟩
set_option maxRecDepth 100000 in
set_option maxHeartbeats 4000000 in
theorem rch5 (n : Nat) (t b : List Nat) (vb vi : Value) (w : World) (hb : Bytes w vb b) (hbl : b.length ≤ 1000) :
    Calls Try.prog 35 #[.agg #[.int .i64 5, .int .i64 (n : Int), .string (str t)], vb, vi] w fun e w' => CameIs w.heap.size w e w' (some (b.map Ac.lower)) := by
  have H := Lib.hid hb
  obtain ⟨h8, _, A, c, rfl, hc, _⟩ := hb.parts
  obtain ⟨m, hm⟩ : ∃ m, b.length = m := ⟨_, rfl⟩
  rw [hm] at hbl hc H ⊢
  have HM := Lib.hid hm
  have H8 := Lib.hid h8
  clear hb hm h8
  obtain ⟨hb1, hc⟩ := box_is w 5 n t
  obtain ⟨w1, hw1⟩ : ∃ w1, boxW w 5 n t = w1 := ⟨_, rfl⟩
  rw [hw1] at hb1 hc
  have HB1 := Lib.hid hb1
  have HC := Lib.hid hc
  unfold boxW at hw1
  have HW1 := Lib.hid hw1
  clear hb1 hc hw1
  go_enter Try.func35, Try.ntmps35
  go_upto_region 2 with fail
  rw [HW1.out]
  obtain ⟨c0, c1, c2⟩ := HC.out w1 (Below.refl _ _)
  go_wp2_with fail
  go_loopg [8, 10, 11] m (fun q u i _ wr => ∃ k : Nat, k ≤ m ∧ m - k ≤ q ∧ i = .int .i64 (k : Int) ∧ Hid (Own wr w1.heap.size u ((b.map Ac.lower).take k)) ∧ Hid (Below w1.heap.size w1 wr))
  case atStart => exact ⟨0, by omega, by omega, rfl, Lib.hid (own_none _ _), Lib.hid (Below.refl _ _)⟩
  case round =>
    obtain ⟨k, hk, hq, rfl, hO, hBl⟩ := hrel
    obtain ⟨wz, rfl⟩ : ∃ wx : World, wx = wr := ⟨_, rfl⟩
    clear c0 c1 c2
    obtain ⟨c0, c1, c2⟩ := HC.out wz hBl.out
    have HBW := Lib.hid (HB1.out.trans (hBl.out.mono HB1.out.size))
    by_cases hlt : k < m
    · have hkI : (k : Int) < (m : Int) := by omega
      obtain ⟨_, _, A', c', e, _, hxx⟩ := (H.out.under HBW.out).parts
      injection e with e1 e2 e3
      subst e1 e3
      obtain ⟨b', off, rfl, hcell⟩ := hxx (by rw [HM.out]; omega)
      have hck := hcell k (by rw [HM.out]; omega)
      have hx256 : b.getD k 0 < 256 := u8_lt H8.out k
      have HTK : Hid (b.take (k + 1) = b.take k ++ [b.getD k 0]) := Lib.hid (take_snoc b k (by rw [HM.out]; exact hlt))
      have HLT : Hid (((b.map Ac.lower).take k).length ≤ 1000) := Lib.hid (by rw [List.length_take]; omega)
      obtain ⟨x, hx'⟩ : ∃ x, b.getD k 0 = x := ⟨_, rfl⟩
      rw [hx'] at hck hx256 HTK
      clear hcell hxx hx' e2
      by_cases h1 : 65 ≤ x
      · have h1I : (65 : Int) ≤ (x : Int) := by omega
        by_cases h2 : x ≤ 90
        · have h2I : (x : Int) ≤ 90 := by omega
          have HJ : Hid ((b.map Ac.lower).take k ++ [x + 32] = (b.map Ac.lower).take (k + 1)) := Lib.hid (by rw [← List.map_take, ← List.map_take, HTK.out, List.map_append]; simp [Ac.lower, h1, h2])
          have HXI : Hid ((x : Int) + 32 = ((x + 32 : Nat) : Int)) := Lib.hid (by omega)
          go_wp2_with (at_builtin; refine wpList_append_bytes rfl _ _ rfl w1.heap.size _ _ ((b.map Ac.lower).take k) [x + 32] rfl (hO.out.alloc _) rfl (bytes_one _ _ _ _ _ HXI.out (by omega)) (by have := HLT.out; simp; omega) (by have := hBl.out.size; simp; omega) _ HJ.out ?_)
          rintro u' w' ⟨ho', _, _, hb'⟩
          have HO' := Lib.hid ho'
          have HB' := Lib.hid ((hBl.out.alloc hBl.out.size _).trans hb')
          clear ho' hb' hO
          go_wp2
          go_roundg (m - (k + 1))
          case measure => omega
          case rel => exact ⟨k + 1, hlt, by omega, by go_num, HO', HB'⟩
        · have h2I : ¬ (x : Int) ≤ 90 := by omega
          have HJ : Hid ((b.map Ac.lower).take k ++ [x] = (b.map Ac.lower).take (k + 1)) := Lib.hid (by rw [← List.map_take, ← List.map_take, HTK.out, List.map_append]; simp [Ac.lower, h2])
          go_wp2_with (at_builtin; refine wpList_append_bytes rfl _ _ rfl w1.heap.size _ _ ((b.map Ac.lower).take k) [x] rfl (hO.out.alloc _) rfl (bytes_one _ _ _ _ _ rfl (by omega)) (by have := HLT.out; simp; omega) (by have := hBl.out.size; simp; omega) _ HJ.out ?_)
          rintro u' w' ⟨ho', _, _, hb'⟩
          have HO' := Lib.hid ho'
          have HB' := Lib.hid ((hBl.out.alloc hBl.out.size (.cells #[.int .u8 ((x : Nat) : Int)] 5)).trans hb')
          clear ho' hb' hO
          go_wp2
          go_roundg (m - (k + 1))
          case measure => omega
          case rel => exact ⟨k + 1, hlt, by omega, by go_num, HO', HB'⟩
      · have h1I : ¬ (65 : Int) ≤ (x : Int) := by omega
        have HJ : Hid ((b.map Ac.lower).take k ++ [x] = (b.map Ac.lower).take (k + 1)) := Lib.hid (by rw [← List.map_take, ← List.map_take, HTK.out, List.map_append]; simp [Ac.lower, h1])
        go_wp2_with (at_builtin; refine wpList_append_bytes rfl _ _ rfl w1.heap.size _ _ ((b.map Ac.lower).take k) [x] rfl (hO.out.alloc _) rfl (bytes_one _ _ _ _ _ rfl (by omega)) (by have := HLT.out; simp; omega) (by have := hBl.out.size; simp; omega) _ HJ.out ?_)
        rintro u' w' ⟨ho', _, _, hb'⟩
        have HO' := Lib.hid ho'
        have HB' := Lib.hid ((hBl.out.alloc hBl.out.size (.cells #[.int .u8 ((x : Nat) : Int)] 5)).trans hb')
        clear ho' hb' hO
        go_wp2
        go_roundg (m - (k + 1))
        case measure => omega
        case rel => exact ⟨k + 1, hlt, by omega, by go_num, HO', HB'⟩
    · obtain rfl : k = m := by omega
      have HO2 : Hid (Own wz w1.heap.size u8 (b.map Ac.lower)) := Lib.hid (by have := hO.out; rwa [List.take_of_length_le (by rw [List.length_map, HM.out]; exact Nat.le_refl _)] at this)
      clear hlt hO
      go_wp2
      go_ret2
      exact ⟨⟨_, rfl, HO2.out.mine.more HB1.out.size⟩, HBW.out⟩
end Go.Proofs.Ytdcefnjdbdnhfaa
