/- What the document makes of one thing: rev, take, drop, twice, join, fail; and of each. -/
import Derived.Test.YtdcefnjdbdnhfaaPrntCh
namespace Go.Proofs.Ytdcefnjdbdnhfaa
set_option maxRecDepth 100000
open Go.ChangeShapes Go.WideShapes Go.ChangeAt Go.RowKit

set_option maxRecDepth 100000 in
set_option maxHeartbeats 4000000 in
theorem rch6 (n : Nat) (t b : List Nat) (vb vi : Value) (w : World) (hb : Bytes w vb b) (hbl : b.length ≤ 1000) :
    Calls Try.prog 35 #[.agg #[.int .i64 6, .int .i64 (n : Int), .string (str t)], vb, vi] w fun e w' => CameIs w.heap.size w e w' (some b.reverse) := by
  have H := Lib.hid hb
  obtain ⟨h8, _, A, c, rfl, hc, _⟩ := hb.parts
  obtain ⟨m, hm⟩ : ∃ m, b.length = m := ⟨_, rfl⟩
  rw [hm] at hbl hc H ⊢
  have HM := Lib.hid hm
  have H8 := Lib.hid h8
  clear hb hm h8
  obtain ⟨hb1, hc⟩ := box_is w 6 n t
  obtain ⟨w1, hw1⟩ : ∃ w1, boxW w 6 n t = w1 := ⟨_, rfl⟩
  rw [hw1] at hb1 hc
  have HB1 := Lib.hid hb1
  have HC := Lib.hid hc
  unfold boxW at hw1
  have HW1 := Lib.hid hw1
  clear hb1 hc hw1
  go_enter Try.func35, Try.ntmps35
  go_upto_region 2 with fail
  rw [HW1.out]
  obtain ⟨c0, c1, c2⟩ := HC.out w1 (Below.refl _ _)
  go_wp2_with fail
  go_loopg [8, 12] m (fun g u i wr => ∃ q : Nat, q ≤ m ∧ q ≤ g ∧ i = .int .i64 ((q : Int) - 1) ∧ Hid (Own wr w1.heap.size u (b.drop q).reverse) ∧ Hid (Below w1.heap.size w1 wr))
  case atStart => exact ⟨m, by omega, by omega, rfl, Lib.hid (by rw [List.drop_of_length_le (by rw [HM.out]; exact Nat.le_refl _)]; exact own_none _ _), Lib.hid (Below.refl _ _)⟩
  case round =>
    obtain ⟨q, hq, hg, rfl, hO, hBl⟩ := hrel
    obtain ⟨wz, rfl⟩ : ∃ wx : World, wx = wr := ⟨_, rfl⟩
    clear c0 c1 c2
    have HBW := Lib.hid (HB1.out.trans (hBl.out.mono HB1.out.size))
    rcases q with _ | p
    · have HO2 : Hid (Own wz w1.heap.size u8 b.reverse) := Lib.hid (by have := hO.out; rwa [List.drop_zero] at this)
      clear hO
      go_wp2
      go_ret2
      exact ⟨⟨_, rfl, HO2.out.mine.more HB1.out.size⟩, HBW.out⟩
    · have hpI : ((p + 1 : Nat) : Int) - 1 = (p : Int) := by omega
      rw [hpI]
      have hp0 : (0 : Int) ≤ (p : Int) := by omega
      have hpm : (p : Int) < (m : Int) := by omega
      obtain ⟨_, _, A', c', e, _, hxx⟩ := (H.out.under HBW.out).parts
      injection e with e1 e2 e3
      subst e1 e3
      obtain ⟨b', off, rfl, hcell⟩ := hxx (by rw [HM.out]; omega)
      have hck := hcell p (by rw [HM.out]; omega)
      have hx256 : b.getD p 0 < 256 := u8_lt H8.out p
      have HTK : Hid ((b.drop (p + 1)).reverse ++ [b.getD p 0] = (b.drop p).reverse) := Lib.hid (by
        rw [List.drop_eq_getElem_cons (show p < b.length by rw [HM.out]; omega), List.reverse_cons, List.getD_eq_getElem?_getD, List.getElem?_eq_getElem (show p < b.length by rw [HM.out]; omega)]
        rfl)
      have HLT : Hid (((b.drop (p + 1)).reverse).length ≤ 1000) := Lib.hid (by rw [List.length_reverse, List.length_drop, HM.out]; omega)
      obtain ⟨x, hx'⟩ : ∃ x, b.getD p 0 = x := ⟨_, rfl⟩
      rw [hx'] at hck hx256 HTK
      obtain ⟨z, hz⟩ : ∃ z, (b.drop (p + 1)).reverse = z := ⟨_, rfl⟩
      obtain ⟨z2, hz2⟩ : ∃ z, (b.drop p).reverse = z := ⟨_, rfl⟩
      rw [hz] at HTK HLT hO
      rw [hz2] at HTK
      have HZ2 := Lib.hid hz2
      clear hcell hxx hx' e2 hpI hz hz2
      go_wp2_with (at_builtin; refine wpList_append_bytes rfl _ _ rfl w1.heap.size _ _ z [x] rfl (hO.out.alloc _) rfl (bytes_one _ _ _ _ _ rfl hx256) (by have := HLT.out; simp; omega) (by have := hBl.out.size; simp; omega) _ HTK.out ?_)
      rintro u' w' ⟨ho', _, _, hb'⟩
      have HO' := Lib.hid ho'
      have HB' := Lib.hid ((hBl.out.alloc hBl.out.size _).trans hb')
      clear ho' hb' hO
      go_wp2
      go_roundg p
      case measure => omega
      case rel => exact ⟨p, by omega, by omega, rfl, by rw [HZ2.out]; exact HO', HB'⟩
set_option maxRecDepth 100000 in
set_option maxHeartbeats 4000000 in
theorem rch7 (n : Nat) (t b : List Nat) (vb vi : Value) (w : World) (hb : Bytes w vb b) (hbl : b.length ≤ 1000) :
    Calls Try.prog 35 #[.agg #[.int .i64 7, .int .i64 (n : Int), .string (str t)], vb, vi] w fun e w' => CameIs w.heap.size w e w' (some (b.take n)) := by
  have H := Lib.hid hb
  obtain ⟨h8, _, A, c, rfl, hc, _⟩ := hb.parts
  obtain ⟨m, hm⟩ : ∃ m, b.length = m := ⟨_, rfl⟩
  rw [hm] at hbl hc H ⊢
  have HM := Lib.hid hm
  have H8 := Lib.hid h8
  clear hb hm h8
  obtain ⟨k, hk⟩ : ∃ k, min n m = k := ⟨_, rfl⟩
  have hkm : k ≤ m := by omega
  have hkI : min (n : Int) (m : Int) = (k : Int) := by omega
  have hk0 : (0 : Int) ≤ (k : Int) := by omega
  have hkc : (k : Int) ≤ (c : Int) := by omega
  have x1 := fun (W : World) ts t => run_low (P := Try.prog) W ts t (n : Int) (m : Int) (k : Int) hkI
  have HK : Hid (b.take n = b.take k) := Lib.hid (by rw [← hk, List.take_eq_take_iff, HM.out]; omega)
  have HH := Lib.hid (H.out.head hkm (by omega))
  have HLK : Hid ((b.take k).length ≤ 1000) := Lib.hid (by rw [List.length_take]; omega)
  rw [HK.out]
  clear hk hkI
  obtain ⟨hb1, hc⟩ := box_is w 7 n t
  obtain ⟨w1, hw1⟩ : ∃ w1, boxW w 7 n t = w1 := ⟨_, rfl⟩
  rw [hw1] at hb1 hc
  have HB1 := Lib.hid hb1
  have HC := Lib.hid hc
  unfold boxW at hw1
  have HW1 := Lib.hid hw1
  clear hb1 hc hw1
  go_enter Try.func35, Try.ntmps35
  go_upto_region 2 with fail
  rw [HW1.out]
  obtain ⟨c0, c1, c2⟩ := HC.out w1 (Below.refl _ _)
  go_wp2_with (at_builtin; refine wpList_append_bytes rfl _ _ rfl w1.heap.size _ _ [] (b.take k) rfl (own_none _ _) rfl (HH.out.under HB1.out) (by have := HLK.out; have := HM.out; simp; omega) (Nat.le_refl _) _ (List.nil_append _) ?_)
  rintro u' w' ⟨ho', _, _, hb'⟩
  have HO' := Lib.hid (ho'.mine.more HB1.out.size)
  have HB' := Lib.hid (HB1.out.trans (hb'.mono HB1.out.size))
  clear ho' hb'
  go_wp2
  go_ret2
  exact ⟨⟨_, rfl, HO'.out⟩, HB'.out⟩
set_option maxRecDepth 100000 in
set_option maxHeartbeats 4000000 in
theorem rch8 (n : Nat) (t b : List Nat) (vb vi : Value) (w : World) (hb : Bytes w vb b) (hbl : b.length ≤ 1000) :
    Calls Try.prog 35 #[.agg #[.int .i64 8, .int .i64 (n : Int), .string (str t)], vb, vi] w fun e w' => CameIs w.heap.size w e w' (some (b.drop n)) := by
  have H := Lib.hid hb
  obtain ⟨h8, _, A, c, rfl, hc, _⟩ := hb.parts
  obtain ⟨m, hm⟩ : ∃ m, b.length = m := ⟨_, rfl⟩
  rw [hm] at hbl hc H ⊢
  have HM := Lib.hid hm
  have H8 := Lib.hid h8
  clear hb hm h8
  obtain ⟨k, hk⟩ : ∃ k, min n m = k := ⟨_, rfl⟩
  have hkm : k ≤ m := by omega
  have hkI : min (n : Int) (m : Int) = (k : Int) := by omega
  have hk0 : (0 : Int) ≤ (k : Int) := by omega
  have hkmI : (k : Int) ≤ (m : Int) := by omega
  have hkc : (m : Int) ≤ (c : Int) := by omega
  have x1 := fun (W : World) ts t => run_low (P := Try.prog) W ts t (n : Int) (m : Int) (k : Int) hkI
  have HK : Hid (b.drop n = b.drop k) := Lib.hid (by
    rcases Nat.le_total n m with h | h
    · rw [show k = n from by omega]
    · rw [show k = m from by omega, List.drop_of_length_le (by rw [HM.out]; exact h), List.drop_of_length_le (by rw [HM.out]; exact Nat.le_refl _)])
  rw [HK.out]
  have HLK : Hid ((b.drop k).length ≤ 1000) := Lib.hid (by rw [List.length_drop, HM.out]; omega)
  by_cases hck : c = k
  · have hmk : k = m := by omega
    subst hmk
    subst hck
    have HD : Hid (b.drop c = []) := Lib.hid (List.drop_of_length_le (by rw [HM.out]; exact Nat.le_refl _))
    have HH : Hid (∀ W, Bytes W (.slice A 0 0) (b.drop c)) := Lib.hid (fun W => by rw [HD.out]; exact ⟨by simp, by simp, .inl ⟨rfl, A, 0, rfl⟩⟩)
    clear hk hkI
    obtain ⟨hb1, hc⟩ := box_is w 8 n t
    obtain ⟨w1, hw1⟩ : ∃ w1, boxW w 8 n t = w1 := ⟨_, rfl⟩
    rw [hw1] at hb1 hc
    have HB1 := Lib.hid hb1
    have HC := Lib.hid hc
    unfold boxW at hw1
    have HW1 := Lib.hid hw1
    clear hb1 hc hw1
    go_enter Try.func35, Try.ntmps35
    go_upto_region 2 with fail
    rw [HW1.out]
    obtain ⟨c0, c1, c2⟩ := HC.out w1 (Below.refl _ _)
    go_wp2_with (at_builtin; refine wpList_append_bytes rfl _ _ rfl w1.heap.size _ _ [] (b.drop c) rfl (own_none _ _) rfl (HH.out _) (by have := HLK.out; have := HM.out; simp; omega) (Nat.le_refl _) _ (List.nil_append _) ?_)
    rintro u' w' ⟨ho', _, _, hb'⟩
    have HO' := Lib.hid (ho'.mine.more HB1.out.size)
    have HB' := Lib.hid (HB1.out.trans (hb'.mono HB1.out.size))
    clear ho' hb'
    go_wp2
    go_ret2
    exact ⟨⟨_, rfl, HO'.out⟩, HB'.out⟩
  · have HH : Hid (Bytes w (.slice (Option.map (fun x => x.add k) A) (m - k) (c - k)) (b.drop k)) := Lib.hid (H.out.tail hkm (by omega) (fun h b' off e => by
      rw [e, Option.map_some, add_plain]))
    clear hk hkI
    obtain ⟨hb1, hc⟩ := box_is w 8 n t
    obtain ⟨w1, hw1⟩ : ∃ w1, boxW w 8 n t = w1 := ⟨_, rfl⟩
    rw [hw1] at hb1 hc
    have HB1 := Lib.hid hb1
    have HC := Lib.hid hc
    unfold boxW at hw1
    have HW1 := Lib.hid hw1
    clear hb1 hc hw1
    go_enter Try.func35, Try.ntmps35
    go_upto_region 2 with fail
    rw [HW1.out]
    obtain ⟨c0, c1, c2⟩ := HC.out w1 (Below.refl _ _)
    go_wp2_with (at_builtin; refine wpList_append_bytes rfl _ _ rfl w1.heap.size _ _ [] (b.drop k) rfl (own_none _ _) rfl (HH.out.under HB1.out) (by have := HLK.out; have := HM.out; simp; omega) (Nat.le_refl _) _ (List.nil_append _) ?_)
    rintro u' w' ⟨ho', _, _, hb'⟩
    have HO' := Lib.hid (ho'.mine.more HB1.out.size)
    have HB' := Lib.hid (HB1.out.trans (hb'.mono HB1.out.size))
    clear ho' hb'
    go_wp2
    go_ret2
    exact ⟨⟨_, rfl, HO'.out⟩, HB'.out⟩
set_option maxRecDepth 100000 in
set_option maxHeartbeats 4000000 in
theorem rch9 (n : Nat) (t b : List Nat) (vb vi : Value) (w : World) (hb : Bytes w vb b) (hbl : b.length ≤ 1000) :
    Calls Try.prog 35 #[.agg #[.int .i64 9, .int .i64 (n : Int), .string (str t)], vb, vi] w fun e w' => CameIs w.heap.size w e w' (some (b ++ b)) := by
  have H := Lib.hid hb
  obtain ⟨h8, _, A, c, rfl, hc, _⟩ := hb.parts
  obtain ⟨m, hm⟩ : ∃ m, b.length = m := ⟨_, rfl⟩
  rw [hm] at hbl hc H ⊢
  have HM := Lib.hid hm
  have H8 := Lib.hid h8
  clear hb hm h8
  obtain ⟨hb1, hc⟩ := box_is w 9 n t
  obtain ⟨w1, hw1⟩ : ∃ w1, boxW w 9 n t = w1 := ⟨_, rfl⟩
  rw [hw1] at hb1 hc
  have HB1 := Lib.hid hb1
  have HC := Lib.hid hc
  unfold boxW at hw1
  have HW1 := Lib.hid hw1
  clear hb1 hc hw1
  go_enter Try.func35, Try.ntmps35
  go_upto_region 2 with fail
  rw [HW1.out]
  obtain ⟨c0, c1, c2⟩ := HC.out w1 (Below.refl _ _)
  have HBI := Lib.hid (H.out.under HB1.out)
  go_wp2_with (at_builtin; refine wpList_append_bytes rfl _ _ rfl w1.heap.size _ _ [] b rfl (own_none _ _) rfl HBI.out (by rw [HM.out]; simp; omega) (Nat.le_refl _) _ (List.nil_append _) ?_)
  rintro u' w' ⟨ho', _, _, hb'⟩
  have HO' := Lib.hid ho'
  have HB' := Lib.hid hb'
  clear ho' hb'
  go_wp2_with (at_builtin; refine wpList_append_bytes rfl _ _ rfl w1.heap.size _ _ b b rfl HO'.out rfl (HBI.out.under HB'.out) (by rw [HM.out]; omega) HB'.out.size _ rfl ?_)
  rintro u2 w2 ⟨ho2, _, _, hb2⟩
  have HO2 := Lib.hid (ho2.mine.more HB1.out.size)
  have HB2 := Lib.hid (HB1.out.trans ((HB'.out.trans hb2).mono HB1.out.size))
  clear ho2 hb2
  go_wp2
  go_ret2
  exact ⟨⟨_, rfl, HO2.out⟩, HB2.out⟩
set_option maxRecDepth 100000 in
set_option maxHeartbeats 4000000 in
theorem rch10 (n : Nat) (t b : List Nat) (vb vi : Value) (w : World) (hb : Bytes w vb b) (hbl : b.length ≤ 1000) (ht : ∀ c ∈ t, c < 256) (htl : t.length ≤ 64) :
    Calls Try.prog 35 #[.agg #[.int .i64 10, .int .i64 (n : Int), .string (str t)], vb, vi] w fun e w' => CameIs w.heap.size w e w' (some (Ac.joined t b)) := by
  have H := Lib.hid hb
  obtain ⟨h8, _, A, c, rfl, hc, _⟩ := hb.parts
  obtain ⟨m, hm⟩ : ∃ m, b.length = m := ⟨_, rfl⟩
  rw [hm] at hbl hc H ⊢
  have HM := Lib.hid hm
  have H8 := Lib.hid h8
  clear hb hm h8
  have HT := Lib.hid ht
  have HTL := Lib.hid htl
  have HLEN : Hid (∀ k, k ≤ m → (Ac.joined t (b.take k)).length ≤ 65000) := Lib.hid (fun k hk => by
    have h1 := joined_len t (b.take k)
    rw [List.length_take] at h1
    have h2 : min k b.length * (t.length + 1) ≤ 1000 * 65 := Nat.mul_le_mul (by omega) (by omega)
    omega)
  clear ht htl
  obtain ⟨hb1, hc⟩ := box_is w 10 n t
  obtain ⟨w1, hw1⟩ : ∃ w1, boxW w 10 n t = w1 := ⟨_, rfl⟩
  rw [hw1] at hb1 hc
  have HB1 := Lib.hid hb1
  have HC := Lib.hid hc
  unfold boxW at hw1
  have HW1 := Lib.hid hw1
  clear hb1 hc hw1
  go_enter Try.func35, Try.ntmps35
  go_upto_region 2 with fail
  rw [HW1.out]
  obtain ⟨c0, c1, c2⟩ := HC.out w1 (Below.refl _ _)
  go_wp2_with fail
  go_loopg [8, 13] m (fun q u i wr => ∃ k : Nat, k ≤ m ∧ m - k ≤ q ∧ i = .int .i64 (k : Int) ∧ Hid (Own wr w1.heap.size u (Ac.joined t (b.take k))) ∧ Hid (Below w1.heap.size w1 wr))
  case atStart => exact ⟨0, by omega, by omega, rfl, Lib.hid (own_none _ _), Lib.hid (Below.refl _ _)⟩
  case round =>
    obtain ⟨k, hk, hq, rfl, hO, hBl⟩ := hrel
    obtain ⟨wz, rfl⟩ : ∃ wx : World, wx = wr := ⟨_, rfl⟩
    clear c0 c1 c2
    obtain ⟨-, -, c2⟩ := HC.out wz hBl.out
    have HBW := Lib.hid (HB1.out.trans (hBl.out.mono HB1.out.size))
    by_cases hlt : k < m
    · have hkI : (k : Int) < (m : Int) := by omega
      obtain ⟨_, _, A', c', e, _, hxx⟩ := (H.out.under HBW.out).parts
      injection e with e1 e2 e3
      subst e1 e3
      obtain ⟨b', off, rfl, hcell⟩ := hxx (by rw [HM.out]; omega)
      have hck := hcell k (by rw [HM.out]; omega)
      have hx256 : b.getD k 0 < 256 := u8_lt H8.out k
      have HTK : Hid (b.take (k + 1) = b.take k ++ [b.getD k 0]) := Lib.hid (take_snoc b k (by rw [HM.out]; exact hlt))
      obtain ⟨x, hx'⟩ : ∃ x, b.getD k 0 = x := ⟨_, rfl⟩
      have HX0 := Lib.hid hx'
      rw [hx'] at hck hx256 HTK
      clear hcell hxx hx' e2
      rcases Nat.eq_zero_or_pos k with h0 | h0
      · have h0I : ¬ (0 : Int) < (k : Int) := by omega
        have HJ : Hid (Ac.joined t (b.take k) ++ [x] = Ac.joined t (b.take (k + 1))) := Lib.hid (by rw [HTK.out, h0]; rfl)
        clear h0
        go_wp2_with (at_builtin; refine wpList_append_bytes rfl _ _ rfl w1.heap.size _ _ (Ac.joined t (b.take k)) [x] rfl (hO.out.alloc _) rfl (bytes_one _ _ _ _ _ rfl hx256) (by have := HLEN.out k (by omega); simp; omega) (by have := hBl.out.size; simp; omega) (Ac.joined t (b.take (k + 1))) HJ.out ?_)
        rintro u' w' ⟨hO', _, _, hb'⟩
        have HO' := Lib.hid hO'
        have HB' := Lib.hid ((hBl.out.alloc hBl.out.size _).trans hb')
        clear hO' hb' hO
        go_wp2
        go_roundg (m - (k + 1))
        case measure => omega
        case rel => exact ⟨k + 1, hlt, by omega, by go_num, HO', HB'⟩
      · have h0I : (0 : Int) < (k : Int) := by omega
        have HNE : Hid (b.take k ≠ []) := Lib.hid (fun e => by
          have := congrArg List.length e
          rw [List.length_take, HM.out] at this
          simp at this
          omega)
        have HJ : Hid ((Ac.joined t (b.take k) ++ t) ++ [x] = Ac.joined t (b.take (k + 1))) := Lib.hid (by rw [HTK.out, joined_snoc t x _ HNE.out, List.append_assoc])
        clear h0
        go_wp2_with (at_builtin; refine wpList_append_str rfl _ _ rfl w1.heap.size _ (Ac.joined t (b.take k)) t rfl hO.out rfl HT.out (by have := HLEN.out k (by omega); have := HTL.out; omega) hBl.out.size _ rfl ?_)
        rintro u2 w2 hO2 hb2
        have HO2 := Lib.hid hO2
        have HB2 := Lib.hid (hBl.out.trans hb2)
        clear hO2 hb2 hck hO c2
        have HBW2 := Lib.hid (HB1.out.trans (HB2.out.mono HB1.out.size))
        obtain ⟨_, _, A', c', e, _, hxx⟩ := (H.out.under HBW2.out).parts
        injection e with e1 e2 e3
        obtain ⟨b2, off2, e4, hcell⟩ := hxx (by rw [HM.out]; omega)
        rw [e4] at e1
        injection e1 with e1
        injection e1 with e5 e6
        have hck := hcell k (by rw [HM.out]; omega)
        rw [HX0.out, ← e5, ← e6] at hck
        clear hcell hxx e2 e3 e4 e5 e6
        go_wp2_with (at_builtin; refine wpList_append_bytes rfl _ _ rfl w1.heap.size _ _ (Ac.joined t (b.take k) ++ t) [x] rfl (HO2.out.alloc _) rfl (bytes_one _ _ _ _ _ rfl hx256) (by have := HLEN.out k (by omega); have := HTL.out; simp; omega) (by have := HB2.out.size; simp; omega) (Ac.joined t (b.take (k + 1))) HJ.out ?_)
        rintro u' w' ⟨hO', _, _, hb'⟩
        have HO' := Lib.hid hO'
        have HB' := Lib.hid ((HB2.out.alloc HB2.out.size _).trans hb')
        clear hO' hb'
        go_wp2
        go_roundg (m - (k + 1))
        case measure => omega
        case rel => exact ⟨k + 1, hlt, by omega, by go_num, HO', HB'⟩
    · obtain rfl : k = m := by omega
      have HO2 : Hid (Own wz w1.heap.size u8 (Ac.joined t b)) := Lib.hid (by have := hO.out; rwa [List.take_of_length_le (by rw [HM.out]; exact Nat.le_refl _)] at this)
      clear hlt hO
      go_wp2
      go_ret2
      exact ⟨⟨_, rfl, HO2.out.mine.more HB1.out.size⟩, HBW.out⟩
set_option maxRecDepth 100000 in
set_option maxHeartbeats 4000000 in
theorem rch11 (n : Nat) (t : List Nat) (vb vi : Value) (w : World) :
    Calls Try.prog 35 #[.agg #[.int .i64 11, .int .i64 (n : Int), .string (str t)], vb, vi] w fun e w' => CameIs w.heap.size w e w' (none) := by
  obtain ⟨hb1, hc⟩ := box_is w 11 n t
  obtain ⟨w1, hw1⟩ : ∃ w1, boxW w 11 n t = w1 := ⟨_, rfl⟩
  rw [hw1] at hb1 hc
  have HB1 := Lib.hid hb1
  have HC := Lib.hid hc
  unfold boxW at hw1
  have HW1 := Lib.hid hw1
  clear hb1 hc hw1
  go_enter Try.func35, Try.ntmps35
  go_upto_region 2 with fail
  rw [HW1.out]
  obtain ⟨c0, c1, c2⟩ := HC.out w1 (Below.refl _ _)
  go_wp2
  go_ret2
  exact ⟨rfl, HB1.out⟩
end Go.Proofs.Ytdcefnjdbdnhfaa
