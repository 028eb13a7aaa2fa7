/- ArtiTells: any print and value have the bytes that the document says; any bytes are a print and a value, or none. -/
import Derived.Test.YtldnpedegcbglaaArtiAwake
import Derived.Test.YtldnpedegcbglaaArtiRef
import Derived.Test.YtldnpedegcbglaaArtiTurned
import Derived.Test.YtldnpedegcbglaaPool
import Derived.Deep.LoopGhost
namespace Go.Proofs.Ytldnpedegcbglaa
set_option maxRecDepth 100000
open Go.ChangeShapes Go.WideShapes Go.ChangeAt Go.RowKit

/-- Six rows of bytes, laid as a row. -/
theorem arows2_six {w : World} {x : Nat} {us : List Value} {L : List (List Nat)} {t : TypeId} (hb : Blk w x t us.toArray) (hu : us.length = 6) (hL : L.length = 6) (h : ∀ i, i < 6 → Bytes w (us.getD i undef) (L.getD i [])) :
    Rows2 w (.slice (some ⟨x, 0, none⟩) 6 6) L := by
  refine ⟨by omega, some ⟨x, 0, none⟩, 6, by rw [hL], by omega, fun _ => ⟨x, 0, rfl, fun i hi => ?_⟩⟩
  rw [hL] at hi
  refine ⟨us.getD i undef, ?_, h i hi⟩
  rw [Nat.zero_add, hb.at i]
  simp only [List.getElem?_toArray, List.getD_eq_getElem?_getD]
  rw [List.getElem?_eq_getElem (by omega)]
  rfl

set_option maxRecDepth 100000 in
set_option maxHeartbeats 16000000 in
theorem atells_any (v0 v1 v2 : Value) (p v b : List Nat) (at_ : Int) (y : Nat) (w : World) (h1 : Bytes w v0 p) (h2 : Bytes w v1 v) (h3 : Bytes w v2 b) (hy : y < 256) :
    Calls Try.prog 6 #[v0, v1, v2, .int .i64 at_, .int .u8 (y : Int)] w fun e w' => e = .returned (.bool true) ∧ Below w.heap.size w w' := by
  have H1 := Lib.hid h1
  have H2 := Lib.hid h2
  have H3 := Lib.hid h3
  obtain ⟨_, _, A1, c1, rfl, _, _⟩ := h1.parts
  obtain ⟨_, _, A2, c2, rfl, _, _⟩ := h2.parts
  obtain ⟨_, _, A3, c3, rfl, _, _⟩ := h3.parts
  obtain ⟨n1, hn1⟩ : ∃ n, p.length = n := ⟨_, rfl⟩
  obtain ⟨n2, hn2⟩ : ∃ n, v.length = n := ⟨_, rfl⟩
  obtain ⟨n3, hn3⟩ : ∃ n, b.length = n := ⟨_, rfl⟩
  rw [hn1] at H1 ⊢
  rw [hn2] at H2 ⊢
  rw [hn3] at H3 ⊢
  have HN1 := Lib.hid hn1
  have HN2 := Lib.hid hn2
  have HN3 := Lib.hid hn3
  clear h1 h2 h3 hn1 hn2 hn3
  go_enter Try.func6, Try.ntmps6
  by_cases hg1 : 300 < n1
  · have hI : (300 : Int) < (n1 : Int) := by omega
    go_wp2_with fail
    refine (aawake_any _).mono ?_
    rintro e w2 ⟨rfl, hb2⟩
    go_wp2
    go_ret
    exact ⟨rfl, hb2⟩
  have hI1 : ¬ (300 : Int) < (n1 : Int) := by omega
  by_cases hg2 : 300 < n2
  · have hI : (300 : Int) < (n2 : Int) := by omega
    go_wp2_with fail
    refine (aawake_any _).mono ?_
    rintro e w2 ⟨rfl, hb2⟩
    go_wp2
    go_ret
    exact ⟨rfl, hb2⟩
  have hI2 : ¬ (300 : Int) < (n2 : Int) := by omega
  by_cases hg3 : 300 < n3
  · have hI : (300 : Int) < (n3 : Int) := by omega
    go_wp2_with fail
    refine (aawake_any _).mono ?_
    rintro e w2 ⟨rfl, hb2⟩
    go_wp2
    go_ret
    exact ⟨rfl, hb2⟩
  have hI3 : ¬ (300 : Int) < (n3 : Int) := by omega
  obtain ⟨T, hT⟩ : ∃ T, Ar.make p v = T := ⟨_, rfl⟩
  have HT := Lib.hid hT
  have HTL : Hid (T.length = n1 + n2 + 22) := Lib.hid (by rw [← hT, Ar.make_length, HN1.out, HN2.out])
  obtain ⟨n, hn⟩ : ∃ n, n1 + n2 + 22 = n := ⟨_, rfl⟩
  rw [hn] at HTL
  have hn0 : 0 < n := by omega
  have hn4 : n ≤ 622 := by omega
  have HNN : Hid (n3 ≤ 300) := Lib.hid (by omega)
  clear hT hn
  go_wp2_with fail
  refine (refamake_is _ _ p v T w H1.out H2.out (by rw [HN1.out]; omega) (by rw [HN2.out]; omega) HT.out).mono ?_
  rintro e w4 ⟨vT, rfl, ho4, hb4⟩
  have HB4 := Lib.hid hb4
  have HT4 := Lib.hid ho4.bytes
  have HAB := Lib.hid ho4.between
  obtain ⟨_, _, AT, cT, rfl, hcT, _⟩ := ho4.bytes.parts
  rw [HTL.out] at HT4 HAB hcT ⊢
  clear ho4 hb4
  go_wp2_with fail
  go_cut [45] (fun q wx => q = .bool false ∧ Hid (Below w4.heap.size w4 wx))
  case first =>
    have HS : Hid (∀ W : World, Below w4.heap.size w4 W → (convert 23 9 (.slice AT n cT)).run Try.prog W = .ok (.string (str T)) W) := Lib.hid (fun W hb => run_text (HT4.out.under hb))
    have hs1 := HS.out w4.drew (Below.refl _ _).drew
    have et : ((str T).toList != (str T).toList) = false := by simp
    refine wp_region_noPanic ?_
    refine wp_region_held_drew (S := fun w' => (convert 23 9 (.slice AT n cT)).run Try.prog w' = .ok (.string (str T)) w') (by kernel_rfl) (hs1) (fun hHeld => ?_)
    refine takeW 0 (some 39) (oi := ?oT1) (v := ?vT1) ?hiT1 ?hdT1 (by kernel_rfl) (by kernel_rfl) (by kernel_rfl) (fun _ _ _ h => h) ?hwT1 ?hyT1 hHeld ?_
    case hiT1 => (simp only [List.getElem?_toArray, List.getElem?_cons_zero]; with_reducible rfl)
    case hdT1 => rfl
    case hwT1 => rfl
    case hyT1 => (intro w hSw; (try dsimp only at hSw); go_simp; first | done | with_reducible rfl)
    try simp only [Act.put, List.setIfInBounds_toArray, List.set_cons_zero, List.set_cons_succ]
    refine takeW 1 (some 40) (oi := ?oT2) (v := ?vT2) ?hiT2 ?hdT2 (by kernel_rfl) (by kernel_rfl) (by kernel_rfl) (fun _ _ _ h => h) ?hwT2 ?hyT2 hHeld ?_
    case hiT2 => (simp only [List.getElem?_toArray, List.getElem?_cons_succ, List.getElem?_cons_zero]; with_reducible rfl)
    case hdT2 => rfl
    case hwT2 => rfl
    case hyT2 => (intro w hSw; (try dsimp only at hSw); go_simp; first | done | with_reducible rfl)
    try simp only [Act.put, List.setIfInBounds_toArray, List.set_cons_zero, List.set_cons_succ]
    refine takeW 4 (some 43) (oi := ?oT3) (v := ?vT3) ?hiT3 ?hdT3 (by kernel_rfl) (by kernel_rfl) (by kernel_rfl) (fun _ _ _ h => h) ?hwT3 ?hyT3 hHeld ?_
    case hiT3 => (simp only [List.getElem?_toArray, List.getElem?_cons_succ, List.getElem?_cons_zero]; with_reducible rfl)
    case hdT3 => rfl
    case hwT3 => rfl
    case hyT3 => (intro w hSw; (try dsimp only at hSw); go_simp; first | done | with_reducible rfl)
    try simp only [Act.put, List.setIfInBounds_toArray, List.set_cons_zero, List.set_cons_succ]
    refine takeW 5 (some 44) (oi := ?oT4) (v := ?vT4) ?hiT4 ?hdT4 (by kernel_rfl) (by kernel_rfl) (by kernel_rfl) (fun _ _ _ h => h) ?hwT4 ?hyT4 hHeld ?_
    case hiT4 => (simp only [List.getElem?_toArray, List.getElem?_cons_succ, List.getElem?_cons_zero]; with_reducible rfl)
    case hdT4 => rfl
    case hwT4 => rfl
    case hyT4 => (intro w hSw; (try dsimp only at hSw); go_simp; first | done | with_reducible rfl)
    try simp only [Act.put, List.setIfInBounds_toArray, List.set_cons_zero, List.set_cons_succ]
    refine stepOne 2 (o := ?oT5) ?hiT5 (by kernel_rfl) ?hwT5 (fun K hK => ?_)
    case hiT5 => (simp only [List.getElem?_toArray, List.getElem?_cons_succ, List.getElem?_cons_zero]; with_reducible rfl)
    case hwT5 => rfl
    go_simp
    go_at_call 17
    refine (amake_is _ _ p v T _ ?_ ?_ (by rw [HN1.out]; omega) (by rw [HN2.out]; omega) HT.out).mono ?_
    · exact ((H1.out.under HB4.out).heap rfl)
    · exact ((H2.out.under HB4.out).heap rfl)
    rintro e w6 ⟨v6, rfl, ho6, hb6⟩
    have hb6' : Below w4.heap.size w4 w6 := ⟨hb6.os, hb6.tape, hb6.output, hb6.size, fun j hj => hb6.block j hj⟩
    have rt6 := run_text ho6.bytes
    have hs6 := HS.out w6 hb6'
    have HB6 := Lib.hid hb6'
    clear ho6 hb6 hb6'
    refine hK.out _ _ ?_ (fun hHeld => ?_)
    · exact hs6
    clear hK K
    try simp only [Act.put, List.setIfInBounds_toArray, List.set_cons_zero, List.set_cons_succ]
    refine stepOne 3 (o := ?oT6) ?hiT6 (by kernel_rfl) ?hwT6 (fun K hK => ?_)
    case hiT6 => (simp only [List.getElem?_toArray, List.getElem?_cons_succ, List.getElem?_cons_zero]; with_reducible rfl)
    case hwT6 => rfl
    go_simp
    refine hK.out _ _ ?_ (fun hHeld => ?_)
    · exact hs6
    clear hK K
    try simp only [Act.put, List.setIfInBounds_toArray, List.set_cons_zero, List.set_cons_succ]
    refine takeW 6 (some 45) (oi := ?oT7) (v := ?vT7) ?hiT7 ?hdT7 (by kernel_rfl) (by kernel_rfl) (by kernel_rfl) (fun _ _ _ h => h) ?hwT7 ?hyT7 hHeld ?_
    case hiT7 => (simp only [List.getElem?_toArray, List.getElem?_cons_succ, List.getElem?_cons_zero]; with_reducible rfl)
    case hdT7 => rfl
    case hwT7 => rfl
    case hyT7 => (intro w hSw; (try dsimp only at hSw); go_simp; first | done | with_reducible rfl)
    try simp only [Act.put, List.setIfInBounds_toArray, List.set_cons_zero, List.set_cons_succ]
    refine wpAnyH_done (by kernel_rfl) ?_ _
    refine NoPanic.normal ?_
    go_wp2_with fail
    go_meet
    exact ⟨rfl, HB6⟩
  case rest =>
    obtain ⟨rfl, HBC⟩ := hcut
    obtain ⟨w5, rfl⟩ : ∃ wx : World, wx = wc := ⟨_, rfl⟩
    have HT5 := Lib.hid (HT4.out.under HBC.out)
    have HW5 := Lib.hid (HB4.out.trans (HBC.out.mono HB4.out.size))
    have HZ5 := Lib.hid HBC.out.size
    clear HT4 HB4 HBC
    go_wp2_with (at_builtin; refine wpList_append_bytes rfl _ _ rfl w5.heap.size _ _ [] T rfl (own_empty w5 _ 0 #[] (Nat.le_refl _) (by unfold maxLen; omega) rfl) rfl (HT5.out.alloc _) ?_ ?_ T rfl ?_)
    case refine_1 => rw [HTL.out, List.length_nil]; omega
    case refine_2 => simp
    case refine_3 =>
      rintro v7 w7 ⟨ho7, _, _, hb7'⟩
      have hb7 : Below w5.heap.size w5 w7 := ((Below.refl _ _).alloc (Nat.le_refl _) _).trans hb7'
      have HM7 := Lib.hid ho7.mine
      have HT7 := Lib.hid (HT5.out.under hb7)
      have HB7 := Lib.hid hb7
      obtain ⟨A7, c7, rfl, hc7, _⟩ := ho7.mine.parts
      rw [HTL.out] at HM7 hc7 ⊢
      clear ho7 hb7 hb7' HT5
      obtain ⟨z, hz0, hz1⟩ : ∃ z : Nat, z ≤ 65535 ∧ bits .and .i64 at_ 65535 = (z : Int) := ⟨_, Ar.and_low16 at_⟩
      obtain ⟨k, hk0, hk1⟩ := Ar.rem_of z n hn0
      obtain ⟨_, g1, off, rfl, hgb, hgs, hfz, hcell⟩ := HM7.out.at hn0
      have hfk := hfz k hk0
      have hck := hcell k hk0
      obtain ⟨xq, hxq⟩ : ∃ z, T.getD k 0 = z := ⟨_, rfl⟩
      rw [hxq] at hck
      have HU9 : Hid (Bytes (w7.setCell ⟨g1, off + k, none⟩ (.int .u8 (y : Int))) (.slice (some ⟨g1, off, none⟩) n c7) (T.set k y)) := Lib.hid (HM7.out.set hk0 hy).bytes
      have HT9 : Hid (Bytes (w7.setCell ⟨g1, off + k, none⟩ (.int .u8 (y : Int))) (.slice AT n cT) T) := Lib.hid (HT7.out.same fun j hj e => Below.heap_setCell w7 ⟨g1, off + k, none⟩ _ j fun e' => by
        have h1 := (HAB.out j e).2
        have h2 := HZ5.out
        have h3 : j = g1 := e'
        omega)
      have HB9 : Hid (Below w5.heap.size w5 (w7.setCell ⟨g1, off + k, none⟩ (.int .u8 (y : Int)))) := Lib.hid (HB7.out.setCell (p := ⟨g1, off + k, none⟩) hgb _)
      obtain ⟨w9, hw9⟩ : ∃ w9, w7.setCell ⟨g1, off + k, none⟩ (.int .u8 (y : Int)) = w9 := ⟨_, rfl⟩
      rw [hw9] at HU9 HT9 HB9
      have HW9 := Lib.hid hw9
      clear hcell hfz hxq HM7 HT7 HB7 hw9
      go_wp2_with fail
      rw [HW9.out]
      clear hfk hck HW9
      have HW9 := Lib.hid (HW5.out.trans (HB9.out.mono HW5.out.size))
      clear HB9 HW5
      go_cut [75, 76, 77] (fun q q2 q3 wx => ∃ g, q = .slice (some ⟨g, 0, none⟩) 6 6 ∧ q2 = .int .i64 6 ∧ q3 = .int .i64 0 ∧ Hid (Rows2 wx (.slice (some ⟨g, 0, none⟩) 6 6) [b, T, T.set k y, T.take k, T ++ [y], T ++ T]) ∧ Hid (Below w9.heap.size w9 wx))
      case first =>
        obtain ⟨n14, hn14⟩ : ∃ n, (T ++ [y]).length = n := ⟨_, rfl⟩
        have HN14 := Lib.hid hn14
        obtain ⟨nS, hnS⟩ : ∃ n, (T ++ T).length = n := ⟨_, rfl⟩
        have HNS := Lib.hid hnS
        clear hn14 hnS
        have HB0 : Hid (∀ W, Below w9.heap.size w9 W → Bytes W (.slice A3 n3 c3) b ∧ Bytes W (.slice AT n cT) T ∧ Bytes W (.slice (some ⟨g1, off, none⟩) n c7) (T.set k y) ∧ Bytes W (.slice AT k cT) (T.take k)) := Lib.hid (fun W hb => by
          have hT := HT9.out.under hb
          exact ⟨H3.out.under (HW9.out.trans (hb.mono HW9.out.size)), hT, HU9.out.under hb, hT.head (by omega) (by omega)⟩)
        have HFIN : Hid (∀ (W : World) (u1 u2 : Value), Below w9.heap.size w9 W → Bytes W u1 (T ++ [y]) → Bytes W u2 (T ++ T) → Rows2 (W.alloc (.cells #[.slice A3 n3 c3, .slice AT n cT, .slice (some ⟨g1, off, none⟩) n c7, .slice AT k cT, u1, u2] 23)) (.slice (some ⟨W.heap.size, 0, none⟩) 6 6) [b, T, T.set k y, T.take k, T ++ [y], T ++ T] ∧ Below w9.heap.size w9 (W.alloc (.cells #[.slice A3 n3 c3, .slice AT n cT, .slice (some ⟨g1, off, none⟩) n c7, .slice AT k cT, u1, u2] 23))) := Lib.hid (fun W u1 u2 hb hu1 hu2 => by
          obtain ⟨q1, q2, q3, q4⟩ := HB0.out W hb
          refine ⟨arows2_six (us := [.slice A3 n3 c3, .slice AT n cT, .slice (some ⟨g1, off, none⟩) n c7, .slice AT k cT, u1, u2]) (t := 23) (heap_alloc_new W _) rfl (by simp) fun i hi => ?_, hb.alloc hb.size _⟩
          have : i = 0 ∨ i = 1 ∨ i = 2 ∨ i = 3 ∨ i = 4 ∨ i = 5 := by omega
          rcases this with rfl | rfl | rfl | rfl | rfl | rfl
          · exact q1.alloc _
          · exact q2.alloc _
          · exact q3.alloc _
          · exact q4.alloc _
          · exact hu1.alloc _
          · exact hu2.alloc _)
        have hkcT : (k : Int) ≤ (cT : Int) := by omega
        have hkcT2 : k ≤ cT := by omega
        have HLT : Hid (T.length + T.length ≤ 70368744177664) := Lib.hid (by rw [HTL.out]; omega)
        refine wp_region_noPanic ?_
        refine wp_region_held_drew (S := fun _ => True) (by kernel_rfl) (trivial) (fun hHeld => ?_)
        obtain ⟨wn0, hwn⟩ : ∃ wn, w9.drew = wn := ⟨_, rfl⟩
        have hB0 : Below w9.heap.size w9 wn0 := by rw [← hwn]; exact (Below.refl _ _).drew
        have hP0 : Pool wn0 w9.heap.size [] := pool_none hB0.size
        rw [hwn]
        clear hwn
        refine takeW 0 (some 58) (oi := ?oT8) (v := ?vT8) ?hiT8 ?hdT8 (by kernel_rfl) (by kernel_rfl) (by kernel_rfl) (fun _ _ _ h => h) ?hwT8 ?hyT8 hHeld ?_
        case hiT8 => (simp only [List.getElem?_toArray, List.getElem?_cons_zero]; with_reducible rfl)
        case hdT8 => rfl
        case hwT8 => rfl
        case hyT8 => (intro w hSw; (try dsimp only at hSw); go_simp; first | done | with_reducible rfl)
        try simp only [Act.put, List.setIfInBounds_toArray, List.set_cons_zero, List.set_cons_succ]
        refine takeW 1 (some 59) (oi := ?oT9) (v := ?vT9) ?hiT9 ?hdT9 (by kernel_rfl) (by kernel_rfl) (by kernel_rfl) (fun _ _ _ h => h) ?hwT9 ?hyT9 hHeld ?_
        case hiT9 => (simp only [List.getElem?_toArray, List.getElem?_cons_succ, List.getElem?_cons_zero]; with_reducible rfl)
        case hdT9 => rfl
        case hwT9 => rfl
        case hyT9 => (intro w hSw; (try dsimp only at hSw); go_simp; first | done | with_reducible rfl)
        try simp only [Act.put, List.setIfInBounds_toArray, List.set_cons_zero, List.set_cons_succ]
        refine takeW 2 (some 60) (oi := ?oT10) (v := ?vT10) ?hiT10 ?hdT10 (by kernel_rfl) (by kernel_rfl) (by kernel_rfl) (fun _ _ _ h => h) ?hwT10 ?hyT10 hHeld ?_
        case hiT10 => (simp only [List.getElem?_toArray, List.getElem?_cons_succ, List.getElem?_cons_zero]; with_reducible rfl)
        case hdT10 => rfl
        case hwT10 => rfl
        case hyT10 => (intro w hSw; (try dsimp only at hSw); go_simp; first | done | with_reducible rfl)
        try simp only [Act.put, List.setIfInBounds_toArray, List.set_cons_zero, List.set_cons_succ]
        refine takeW 3 (some 61) (oi := ?oT11) (v := ?vT11) ?hiT11 ?hdT11 (by kernel_rfl) (by kernel_rfl) (by kernel_rfl) (fun _ _ _ h => h) ?hwT11 ?hyT11 hHeld ?_
        case hiT11 => (simp only [List.getElem?_toArray, List.getElem?_cons_succ, List.getElem?_cons_zero]; with_reducible rfl)
        case hdT11 => rfl
        case hwT11 => rfl
        case hyT11 => (intro w hSw; (try dsimp only at hSw); go_simp; first | done | with_reducible rfl)
        try simp only [Act.put, List.setIfInBounds_toArray, List.set_cons_zero, List.set_cons_succ]
        refine takeW 4 (some 62) (oi := ?oT12) (v := ?vT12) ?hiT12 ?hdT12 (by kernel_rfl) (by kernel_rfl) (by kernel_rfl) (fun _ _ _ h => h) ?hwT12 ?hyT12 hHeld ?_
        case hiT12 => (simp only [List.getElem?_toArray, List.getElem?_cons_succ, List.getElem?_cons_zero]; with_reducible rfl)
        case hdT12 => rfl
        case hwT12 => rfl
        case hyT12 => (intro w hSw; (try dsimp only at hSw); go_simp; first | done | with_reducible rfl)
        try simp only [Act.put, List.setIfInBounds_toArray, List.set_cons_zero, List.set_cons_succ]
        refine takeW 5 (some 63) (oi := ?oT13) (v := ?vT13) ?hiT13 ?hdT13 (by kernel_rfl) (by kernel_rfl) (by kernel_rfl) (fun _ _ _ h => h) ?hwT13 ?hyT13 hHeld ?_
        case hiT13 => (simp only [List.getElem?_toArray, List.getElem?_cons_succ, List.getElem?_cons_zero]; with_reducible rfl)
        case hdT13 => rfl
        case hwT13 => rfl
        case hyT13 => (intro w hSw; (try dsimp only at hSw); go_simp; first | done | with_reducible rfl)
        try simp only [Act.put, List.setIfInBounds_toArray, List.set_cons_zero, List.set_cons_succ]
        refine takeW 7 (some 65) (oi := ?oT14) (v := ?vT14) ?hiT14 ?hdT14 (by kernel_rfl) (by kernel_rfl) (by kernel_rfl) (fun _ _ _ h => h) ?hwT14 ?hyT14 hHeld ?_
        case hiT14 => (simp only [List.getElem?_toArray, List.getElem?_cons_succ, List.getElem?_cons_zero]; with_reducible rfl)
        case hdT14 => rfl
        case hwT14 => rfl
        case hyT14 => (intro w hSw; (try dsimp only at hSw); go_simp; first | done | with_reducible rfl)
        try simp only [Act.put, List.setIfInBounds_toArray, List.set_cons_zero, List.set_cons_succ]
        refine takeW 9 (some 67) (oi := ?oT15) (v := ?vT15) ?hiT15 ?hdT15 (by kernel_rfl) (by kernel_rfl) (by kernel_rfl) (fun _ _ _ h => h) ?hwT15 ?hyT15 hHeld ?_
        case hiT15 => (simp only [List.getElem?_toArray, List.getElem?_cons_succ, List.getElem?_cons_zero]; with_reducible rfl)
        case hdT15 => rfl
        case hwT15 => rfl
        case hyT15 => (intro w hSw; (try dsimp only at hSw); go_simp; first | done | with_reducible rfl)
        try simp only [Act.put, List.setIfInBounds_toArray, List.set_cons_zero, List.set_cons_succ]
        refine takeW 13 (some 71) (oi := ?oT16) (v := ?vT16) ?hiT16 ?hdT16 (by kernel_rfl) (by kernel_rfl) (by kernel_rfl) (fun _ _ _ h => h) ?hwT16 ?hyT16 hHeld ?_
        case hiT16 => (simp only [List.getElem?_toArray, List.getElem?_cons_succ, List.getElem?_cons_zero]; with_reducible rfl)
        case hdT16 => rfl
        case hwT16 => rfl
        case hyT16 => (intro w hSw; (try dsimp only at hSw); go_simp; first | done | with_reducible rfl)
        try simp only [Act.put, List.setIfInBounds_toArray, List.set_cons_zero, List.set_cons_succ]
        refine takeW 15 (some 73) (oi := ?oT17) (v := ?vT17) ?hiT17 ?hdT17 (by kernel_rfl) (by kernel_rfl) (by kernel_rfl) (fun _ _ _ h => h) ?hwT17 ?hyT17 hHeld ?_
        case hiT17 => (simp only [List.getElem?_toArray, List.getElem?_cons_succ, List.getElem?_cons_zero]; with_reducible rfl)
        case hdT17 => rfl
        case hwT17 => rfl
        case hyT17 => (intro w hSw; (try dsimp only at hSw); go_simp; first | done | with_reducible rfl)
        try simp only [Act.put, List.setIfInBounds_toArray, List.set_cons_zero, List.set_cons_succ]
        refine takeW 19 (some 77) (oi := ?oT18) (v := ?vT18) ?hiT18 ?hdT18 (by kernel_rfl) (by kernel_rfl) (by kernel_rfl) (fun _ _ _ h => h) ?hwT18 ?hyT18 hHeld ?_
        case hiT18 => (simp only [List.getElem?_toArray, List.getElem?_cons_succ, List.getElem?_cons_zero]; with_reducible rfl)
        case hdT18 => rfl
        case hwT18 => rfl
        case hyT18 => (intro w hSw; (try dsimp only at hSw); go_simp; first | done | with_reducible rfl)
        try simp only [Act.put, List.setIfInBounds_toArray, List.set_cons_zero, List.set_cons_succ]
        refine wpAnyH_ready (rs := [6, 10, 12]) (by kernel_rfl) (by simp) ?_
        refine stepOf 6 (o := ?oT19) ?hiT19 ?hwT19 (fun K hK => ?_) ?_
        case hiT19 => (simp only [List.getElem?_toArray, List.getElem?_cons_succ, List.getElem?_cons_zero]; with_reducible rfl)
        case hwT19 => rfl
        · skip
          go_simp
          have hP1 := hP0.nil
          have hB1 := hB0.alloc hP0.1 (.cells #[] 5)
          obtain ⟨g6, hg⟩ : ∃ g, wn0.heap.size = g := ⟨_, rfl⟩
          obtain ⟨wn1, hwm⟩ : ∃ wm, wn0.alloc (.cells #[] 5) = wm := ⟨_, rfl⟩
          rw [hwm] at hP1 hB1 ⊢
          rw [hg] at hP1 ⊢
          clear hwm hg hP0 hB0
          refine hK.out _ _ ?_ (fun hHeld => ?_)
          · trivial
          clear hK K
          try simp only [Act.put, List.setIfInBounds_toArray, List.set_cons_zero, List.set_cons_succ]
          refine wpAnyH_ready (rs := [8, 10, 12]) (by kernel_rfl) (by simp) ?_
          refine stepOf 8 (o := ?oT20) ?hiT20 ?hwT20 (fun K hK => ?_) ?_
          case hiT20 => (simp only [List.getElem?_toArray, List.getElem?_cons_succ, List.getElem?_cons_zero]; with_reducible rfl)
          case hwT20 => rfl
          · skip
            refine wp_append_bytes (.tmp 64) (.tmp 65) rfl w9.heap.size _ _ _ _ rfl (hP1.get 0 rfl) rfl (HB0.out wn1 hB1).2.1 ?_ hP1.1 T rfl ?_
            · have := HLT.out; have := HTL.out; simp; omega
            rintro v8 wn2 hgr
            have hP2 : Pool wn2 w9.heap.size [(v8, T)] := hP1.app 0 rfl hgr
            have hB2 := hB1.trans hgr.2.2.2
            clear hgr hP1 hB1
            refine hK.out _ _ ?_ (fun hHeld => ?_)
            · trivial
            clear hK K
            try simp only [Act.put, List.setIfInBounds_toArray, List.set_cons_zero, List.set_cons_succ]
            refine wpAnyH_ready (rs := [10, 12]) (by kernel_rfl) (by simp) ?_
            refine stepOf 10 (o := ?oT21) ?hiT21 ?hwT21 (fun K hK => ?_) ?_
            case hiT21 => (simp only [List.getElem?_toArray, List.getElem?_cons_succ, List.getElem?_cons_zero]; with_reducible rfl)
            case hwT21 => rfl
            · skip
              go_simp
              have hP3 := hP2.one y hy
              have hB3 := hB2.alloc hP2.1 (.cells #[.int .u8 (y : Int)] 5)
              obtain ⟨g10, hg⟩ : ∃ g, wn2.heap.size = g := ⟨_, rfl⟩
              obtain ⟨wn3, hwm⟩ : ∃ wm, wn2.alloc (.cells #[.int .u8 (y : Int)] 5) = wm := ⟨_, rfl⟩
              rw [hwm] at hP3 hB3 ⊢
              rw [hg] at hP3 ⊢
              clear hwm hg hP2 hB2
              refine hK.out _ _ ?_ (fun hHeld => ?_)
              · trivial
              clear hK K
              try simp only [Act.put, List.setIfInBounds_toArray, List.set_cons_zero, List.set_cons_succ]
              refine wpAnyH_ready (rs := [11, 12]) (by kernel_rfl) (by simp) ?_
              refine stepOf 11 (o := ?oT22) ?hiT22 ?hwT22 (fun K hK => ?_) ?_
              case hiT22 => (simp only [List.getElem?_toArray, List.getElem?_cons_succ, List.getElem?_cons_zero]; with_reducible rfl)
              case hwT22 => rfl
              · skip
                refine wp_append_bytes (.tmp 66) (.tmp 68) rfl w9.heap.size _ _ _ _ rfl (hP3.get 1 rfl) rfl (hP3.get 0 rfl).bytes ?_ hP3.1 (T ++ [y]) rfl ?_
                · have := HLT.out; have := HTL.out; simp; omega
                rintro v11 wn4 hgr
                obtain ⟨_, _, A11, c11, hv, _, _⟩ := hgr.1.bytes.parts
                rw [HN14.out] at hv
                subst hv
                have hP4 : Pool wn4 w9.heap.size [((.slice (some ⟨g10, 0, none⟩) 1 1), [y]), ((.slice A11 n14 c11), (T ++ [y]))] := hP3.app 1 rfl hgr
                have hB4 := hB3.trans hgr.2.2.2
                clear hgr hP3 hB3
                refine hK.out _ _ ?_ (fun hHeld => ?_)
                · trivial
                clear hK K
                try simp only [Act.put, List.setIfInBounds_toArray, List.set_cons_zero, List.set_cons_succ]
                refine stepOne 12 (o := ?oT23) ?hiT23 (by kernel_rfl) ?hwT23 (fun K hK => ?_)
                case hiT23 => (simp only [List.getElem?_toArray, List.getElem?_cons_succ, List.getElem?_cons_zero]; with_reducible rfl)
                case hwT23 => rfl
                go_simp
                have hP5 := hP4.nil
                have hB5 := hB4.alloc hP4.1 (.cells #[] 5)
                obtain ⟨g12, hg⟩ : ∃ g, wn4.heap.size = g := ⟨_, rfl⟩
                obtain ⟨wn5, hwm⟩ : ∃ wm, wn4.alloc (.cells #[] 5) = wm := ⟨_, rfl⟩
                rw [hwm] at hP5 hB5 ⊢
                rw [hg] at hP5 ⊢
                clear hwm hg hP4 hB4
                refine hK.out _ _ ?_ (fun hHeld => ?_)
                · trivial
                clear hK K
                try simp only [Act.put, List.setIfInBounds_toArray, List.set_cons_zero, List.set_cons_succ]
                refine stepOne 14 (o := ?oT24) ?hiT24 (by kernel_rfl) ?hwT24 (fun K hK => ?_)
                case hiT24 => (simp only [List.getElem?_toArray, List.getElem?_cons_succ, List.getElem?_cons_zero]; with_reducible rfl)
                case hwT24 => rfl
                refine wp_append_bytes (.tmp 70) (.tmp 71) rfl w9.heap.size _ _ _ _ rfl (hP5.get 0 rfl) rfl (HB0.out wn5 hB5).2.1 ?_ hP5.1 T rfl ?_
                · have := HLT.out; have := HTL.out; simp; omega
                rintro v14 wn6 hgr
                have hP6 : Pool wn6 w9.heap.size [(v14, T), ((.slice (some ⟨g10, 0, none⟩) 1 1), [y]), ((.slice A11 n14 c11), (T ++ [y]))] := hP5.app 0 rfl hgr
                have hB6 := hB5.trans hgr.2.2.2
                clear hgr hP5 hB5
                refine hK.out _ _ ?_ (fun hHeld => ?_)
                · trivial
                clear hK K
                try simp only [Act.put, List.setIfInBounds_toArray, List.set_cons_zero, List.set_cons_succ]
                refine stepOne 16 (o := ?oT25) ?hiT25 (by kernel_rfl) ?hwT25 (fun K hK => ?_)
                case hiT25 => (simp only [List.getElem?_toArray, List.getElem?_cons_succ, List.getElem?_cons_zero]; with_reducible rfl)
                case hwT25 => rfl
                refine wp_append_bytes (.tmp 72) (.tmp 73) rfl w9.heap.size _ _ _ _ rfl (hP6.get 0 rfl) rfl (HB0.out wn6 hB6).2.1 ?_ hP6.1 (T ++ T) rfl ?_
                · have := HLT.out; have := HTL.out; simp; omega
                rintro v16 wn7 hgr
                obtain ⟨_, _, A16, c16, hv, _, _⟩ := hgr.1.bytes.parts
                rw [HNS.out] at hv
                subst hv
                have hP7 : Pool wn7 w9.heap.size [((.slice A16 nS c16), (T ++ T)), ((.slice (some ⟨g10, 0, none⟩) 1 1), [y]), ((.slice A11 n14 c11), (T ++ [y]))] := hP6.app 0 rfl hgr
                have hB7 := hB6.trans hgr.2.2.2
                clear hgr hP6 hB6
                refine hK.out _ _ ?_ (fun hHeld => ?_)
                · trivial
                clear hK K
                try simp only [Act.put, List.setIfInBounds_toArray, List.set_cons_zero, List.set_cons_succ]
                refine stepOne 17 (o := ?oT26) ?hiT26 (by kernel_rfl) ?hwT26 (fun K hK => ?_)
                case hiT26 => (simp only [List.getElem?_toArray, List.getElem?_cons_succ, List.getElem?_cons_zero]; with_reducible rfl)
                case hwT26 => rfl
                go_simp
                refine hK.out _ _ ?_ (fun hHeld => ?_)
                · trivial
                clear hK K
                try simp only [Act.put, List.setIfInBounds_toArray, List.set_cons_zero, List.set_cons_succ]
                refine takeW 18 (some 76) (oi := ?oT27) (v := ?vT27) ?hiT27 ?hdT27 (by kernel_rfl) (by kernel_rfl) (by kernel_rfl) (fun _ _ _ h => h) ?hwT27 ?hyT27 hHeld ?_
                case hiT27 => (simp only [List.getElem?_toArray, List.getElem?_cons_succ, List.getElem?_cons_zero]; with_reducible rfl)
                case hdT27 => rfl
                case hwT27 => rfl
                case hyT27 => (intro w hSw; (try dsimp only at hSw); go_simp; first | done | with_reducible rfl)
                try simp only [Act.put, List.setIfInBounds_toArray, List.set_cons_zero, List.set_cons_succ]
                refine wpAnyH_done (by kernel_rfl) ?_ _
                refine NoPanic.normal ?_
                go_wp2_with fail
                go_meet
                have hF := HFIN.out wn7 (.slice A11 n14 c11) (.slice A16 nS c16) hB7 (hP7.get 2 rfl).bytes (hP7.get 0 rfl).bytes
                exact ⟨_, rfl, rfl, rfl, Lib.hid hF.1, Lib.hid hF.2⟩
              refine stepOf 12 (o := ?oT28) ?hiT28 ?hwT28 (fun K hK => ?_) AllReadyH.nil
              case hiT28 => (simp only [List.getElem?_toArray, List.getElem?_cons_succ, List.getElem?_cons_zero]; with_reducible rfl)
              case hwT28 => rfl
              go_simp
              have hP4 := hP3.nil
              have hB4 := hB3.alloc hP3.1 (.cells #[] 5)
              obtain ⟨g12, hg⟩ : ∃ g, wn3.heap.size = g := ⟨_, rfl⟩
              obtain ⟨wn4, hwm⟩ : ∃ wm, wn3.alloc (.cells #[] 5) = wm := ⟨_, rfl⟩
              rw [hwm] at hP4 hB4 ⊢
              rw [hg] at hP4 ⊢
              clear hwm hg hP3 hB3
              refine hK.out _ _ ?_ (fun hHeld => ?_)
              · trivial
              clear hK K
              try simp only [Act.put, List.setIfInBounds_toArray, List.set_cons_zero, List.set_cons_succ]
              refine stepOne 11 (o := ?oT29) ?hiT29 (by kernel_rfl) ?hwT29 (fun K hK => ?_)
              case hiT29 => (simp only [List.getElem?_toArray, List.getElem?_cons_succ, List.getElem?_cons_zero]; with_reducible rfl)
              case hwT29 => rfl
              refine wp_append_bytes (.tmp 66) (.tmp 68) rfl w9.heap.size _ _ _ _ rfl (hP4.get 2 rfl) rfl (hP4.get 1 rfl).bytes ?_ hP4.1 (T ++ [y]) rfl ?_
              · have := HLT.out; have := HTL.out; simp; omega
              rintro v11 wn5 hgr
              obtain ⟨_, _, A11, c11, hv, _, _⟩ := hgr.1.bytes.parts
              rw [HN14.out] at hv
              subst hv
              have hP5 : Pool wn5 w9.heap.size [((.slice (some ⟨g12, 0, none⟩) 0 0), []), ((.slice (some ⟨g10, 0, none⟩) 1 1), [y]), ((.slice A11 n14 c11), (T ++ [y]))] := hP4.app 2 rfl hgr
              have hB5 := hB4.trans hgr.2.2.2
              clear hgr hP4 hB4
              refine hK.out _ _ ?_ (fun hHeld => ?_)
              · trivial
              clear hK K
              try simp only [Act.put, List.setIfInBounds_toArray, List.set_cons_zero, List.set_cons_succ]
              refine stepOne 14 (o := ?oT30) ?hiT30 (by kernel_rfl) ?hwT30 (fun K hK => ?_)
              case hiT30 => (simp only [List.getElem?_toArray, List.getElem?_cons_succ, List.getElem?_cons_zero]; with_reducible rfl)
              case hwT30 => rfl
              refine wp_append_bytes (.tmp 70) (.tmp 71) rfl w9.heap.size _ _ _ _ rfl (hP5.get 0 rfl) rfl (HB0.out wn5 hB5).2.1 ?_ hP5.1 T rfl ?_
              · have := HLT.out; have := HTL.out; simp; omega
              rintro v14 wn6 hgr
              have hP6 : Pool wn6 w9.heap.size [(v14, T), ((.slice (some ⟨g10, 0, none⟩) 1 1), [y]), ((.slice A11 n14 c11), (T ++ [y]))] := hP5.app 0 rfl hgr
              have hB6 := hB5.trans hgr.2.2.2
              clear hgr hP5 hB5
              refine hK.out _ _ ?_ (fun hHeld => ?_)
              · trivial
              clear hK K
              try simp only [Act.put, List.setIfInBounds_toArray, List.set_cons_zero, List.set_cons_succ]
              refine stepOne 16 (o := ?oT31) ?hiT31 (by kernel_rfl) ?hwT31 (fun K hK => ?_)
              case hiT31 => (simp only [List.getElem?_toArray, List.getElem?_cons_succ, List.getElem?_cons_zero]; with_reducible rfl)
              case hwT31 => rfl
              refine wp_append_bytes (.tmp 72) (.tmp 73) rfl w9.heap.size _ _ _ _ rfl (hP6.get 0 rfl) rfl (HB0.out wn6 hB6).2.1 ?_ hP6.1 (T ++ T) rfl ?_
              · have := HLT.out; have := HTL.out; simp; omega
              rintro v16 wn7 hgr
              obtain ⟨_, _, A16, c16, hv, _, _⟩ := hgr.1.bytes.parts
              rw [HNS.out] at hv
              subst hv
              have hP7 : Pool wn7 w9.heap.size [((.slice A16 nS c16), (T ++ T)), ((.slice (some ⟨g10, 0, none⟩) 1 1), [y]), ((.slice A11 n14 c11), (T ++ [y]))] := hP6.app 0 rfl hgr
              have hB7 := hB6.trans hgr.2.2.2
              clear hgr hP6 hB6
              refine hK.out _ _ ?_ (fun hHeld => ?_)
              · trivial
              clear hK K
              try simp only [Act.put, List.setIfInBounds_toArray, List.set_cons_zero, List.set_cons_succ]
              refine stepOne 17 (o := ?oT32) ?hiT32 (by kernel_rfl) ?hwT32 (fun K hK => ?_)
              case hiT32 => (simp only [List.getElem?_toArray, List.getElem?_cons_succ, List.getElem?_cons_zero]; with_reducible rfl)
              case hwT32 => rfl
              go_simp
              refine hK.out _ _ ?_ (fun hHeld => ?_)
              · trivial
              clear hK K
              try simp only [Act.put, List.setIfInBounds_toArray, List.set_cons_zero, List.set_cons_succ]
              refine takeW 18 (some 76) (oi := ?oT33) (v := ?vT33) ?hiT33 ?hdT33 (by kernel_rfl) (by kernel_rfl) (by kernel_rfl) (fun _ _ _ h => h) ?hwT33 ?hyT33 hHeld ?_
              case hiT33 => (simp only [List.getElem?_toArray, List.getElem?_cons_succ, List.getElem?_cons_zero]; with_reducible rfl)
              case hdT33 => rfl
              case hwT33 => rfl
              case hyT33 => (intro w hSw; (try dsimp only at hSw); go_simp; first | done | with_reducible rfl)
              try simp only [Act.put, List.setIfInBounds_toArray, List.set_cons_zero, List.set_cons_succ]
              refine wpAnyH_done (by kernel_rfl) ?_ _
              refine NoPanic.normal ?_
              go_wp2_with fail
              go_meet
              have hF := HFIN.out wn7 (.slice A11 n14 c11) (.slice A16 nS c16) hB7 (hP7.get 2 rfl).bytes (hP7.get 0 rfl).bytes
              exact ⟨_, rfl, rfl, rfl, Lib.hid hF.1, Lib.hid hF.2⟩
            refine stepOf 12 (o := ?oT34) ?hiT34 ?hwT34 (fun K hK => ?_) AllReadyH.nil
            case hiT34 => (simp only [List.getElem?_toArray, List.getElem?_cons_succ, List.getElem?_cons_zero]; with_reducible rfl)
            case hwT34 => rfl
            go_simp
            have hP3 := hP2.nil
            have hB3 := hB2.alloc hP2.1 (.cells #[] 5)
            obtain ⟨g12, hg⟩ : ∃ g, wn2.heap.size = g := ⟨_, rfl⟩
            obtain ⟨wn3, hwm⟩ : ∃ wm, wn2.alloc (.cells #[] 5) = wm := ⟨_, rfl⟩
            rw [hwm] at hP3 hB3 ⊢
            rw [hg] at hP3 ⊢
            clear hwm hg hP2 hB2
            refine hK.out _ _ ?_ (fun hHeld => ?_)
            · trivial
            clear hK K
            try simp only [Act.put, List.setIfInBounds_toArray, List.set_cons_zero, List.set_cons_succ]
            refine stepOne 10 (o := ?oT35) ?hiT35 (by kernel_rfl) ?hwT35 (fun K hK => ?_)
            case hiT35 => (simp only [List.getElem?_toArray, List.getElem?_cons_succ, List.getElem?_cons_zero]; with_reducible rfl)
            case hwT35 => rfl
            go_simp
            have hP4 := hP3.one y hy
            have hB4 := hB3.alloc hP3.1 (.cells #[.int .u8 (y : Int)] 5)
            obtain ⟨g10, hg⟩ : ∃ g, wn3.heap.size = g := ⟨_, rfl⟩
            obtain ⟨wn4, hwm⟩ : ∃ wm, wn3.alloc (.cells #[.int .u8 (y : Int)] 5) = wm := ⟨_, rfl⟩
            rw [hwm] at hP4 hB4 ⊢
            rw [hg] at hP4 ⊢
            clear hwm hg hP3 hB3
            refine hK.out _ _ ?_ (fun hHeld => ?_)
            · trivial
            clear hK K
            try simp only [Act.put, List.setIfInBounds_toArray, List.set_cons_zero, List.set_cons_succ]
            refine stepOne 11 (o := ?oT36) ?hiT36 (by kernel_rfl) ?hwT36 (fun K hK => ?_)
            case hiT36 => (simp only [List.getElem?_toArray, List.getElem?_cons_succ, List.getElem?_cons_zero]; with_reducible rfl)
            case hwT36 => rfl
            refine wp_append_bytes (.tmp 66) (.tmp 68) rfl w9.heap.size _ _ _ _ rfl (hP4.get 2 rfl) rfl (hP4.get 0 rfl).bytes ?_ hP4.1 (T ++ [y]) rfl ?_
            · have := HLT.out; have := HTL.out; simp; omega
            rintro v11 wn5 hgr
            obtain ⟨_, _, A11, c11, hv, _, _⟩ := hgr.1.bytes.parts
            rw [HN14.out] at hv
            subst hv
            have hP5 : Pool wn5 w9.heap.size [((.slice (some ⟨g10, 0, none⟩) 1 1), [y]), ((.slice (some ⟨g12, 0, none⟩) 0 0), []), ((.slice A11 n14 c11), (T ++ [y]))] := hP4.app 2 rfl hgr
            have hB5 := hB4.trans hgr.2.2.2
            clear hgr hP4 hB4
            refine hK.out _ _ ?_ (fun hHeld => ?_)
            · trivial
            clear hK K
            try simp only [Act.put, List.setIfInBounds_toArray, List.set_cons_zero, List.set_cons_succ]
            refine stepOne 14 (o := ?oT37) ?hiT37 (by kernel_rfl) ?hwT37 (fun K hK => ?_)
            case hiT37 => (simp only [List.getElem?_toArray, List.getElem?_cons_succ, List.getElem?_cons_zero]; with_reducible rfl)
            case hwT37 => rfl
            refine wp_append_bytes (.tmp 70) (.tmp 71) rfl w9.heap.size _ _ _ _ rfl (hP5.get 1 rfl) rfl (HB0.out wn5 hB5).2.1 ?_ hP5.1 T rfl ?_
            · have := HLT.out; have := HTL.out; simp; omega
            rintro v14 wn6 hgr
            have hP6 : Pool wn6 w9.heap.size [((.slice (some ⟨g10, 0, none⟩) 1 1), [y]), (v14, T), ((.slice A11 n14 c11), (T ++ [y]))] := hP5.app 1 rfl hgr
            have hB6 := hB5.trans hgr.2.2.2
            clear hgr hP5 hB5
            refine hK.out _ _ ?_ (fun hHeld => ?_)
            · trivial
            clear hK K
            try simp only [Act.put, List.setIfInBounds_toArray, List.set_cons_zero, List.set_cons_succ]
            refine stepOne 16 (o := ?oT38) ?hiT38 (by kernel_rfl) ?hwT38 (fun K hK => ?_)
            case hiT38 => (simp only [List.getElem?_toArray, List.getElem?_cons_succ, List.getElem?_cons_zero]; with_reducible rfl)
            case hwT38 => rfl
            refine wp_append_bytes (.tmp 72) (.tmp 73) rfl w9.heap.size _ _ _ _ rfl (hP6.get 1 rfl) rfl (HB0.out wn6 hB6).2.1 ?_ hP6.1 (T ++ T) rfl ?_
            · have := HLT.out; have := HTL.out; simp; omega
            rintro v16 wn7 hgr
            obtain ⟨_, _, A16, c16, hv, _, _⟩ := hgr.1.bytes.parts
            rw [HNS.out] at hv
            subst hv
            have hP7 : Pool wn7 w9.heap.size [((.slice (some ⟨g10, 0, none⟩) 1 1), [y]), ((.slice A16 nS c16), (T ++ T)), ((.slice A11 n14 c11), (T ++ [y]))] := hP6.app 1 rfl hgr
            have hB7 := hB6.trans hgr.2.2.2
            clear hgr hP6 hB6
            refine hK.out _ _ ?_ (fun hHeld => ?_)
            · trivial
            clear hK K
            try simp only [Act.put, List.setIfInBounds_toArray, List.set_cons_zero, List.set_cons_succ]
            refine stepOne 17 (o := ?oT39) ?hiT39 (by kernel_rfl) ?hwT39 (fun K hK => ?_)
            case hiT39 => (simp only [List.getElem?_toArray, List.getElem?_cons_succ, List.getElem?_cons_zero]; with_reducible rfl)
            case hwT39 => rfl
            go_simp
            refine hK.out _ _ ?_ (fun hHeld => ?_)
            · trivial
            clear hK K
            try simp only [Act.put, List.setIfInBounds_toArray, List.set_cons_zero, List.set_cons_succ]
            refine takeW 18 (some 76) (oi := ?oT40) (v := ?vT40) ?hiT40 ?hdT40 (by kernel_rfl) (by kernel_rfl) (by kernel_rfl) (fun _ _ _ h => h) ?hwT40 ?hyT40 hHeld ?_
            case hiT40 => (simp only [List.getElem?_toArray, List.getElem?_cons_succ, List.getElem?_cons_zero]; with_reducible rfl)
            case hdT40 => rfl
            case hwT40 => rfl
            case hyT40 => (intro w hSw; (try dsimp only at hSw); go_simp; first | done | with_reducible rfl)
            try simp only [Act.put, List.setIfInBounds_toArray, List.set_cons_zero, List.set_cons_succ]
            refine wpAnyH_done (by kernel_rfl) ?_ _
            refine NoPanic.normal ?_
            go_wp2_with fail
            go_meet
            have hF := HFIN.out wn7 (.slice A11 n14 c11) (.slice A16 nS c16) hB7 (hP7.get 2 rfl).bytes (hP7.get 1 rfl).bytes
            exact ⟨_, rfl, rfl, rfl, Lib.hid hF.1, Lib.hid hF.2⟩
          refine stepOf 10 (o := ?oT41) ?hiT41 ?hwT41 (fun K hK => ?_) ?_
          case hiT41 => (simp only [List.getElem?_toArray, List.getElem?_cons_succ, List.getElem?_cons_zero]; with_reducible rfl)
          case hwT41 => rfl
          · skip
            go_simp
            have hP2 := hP1.one y hy
            have hB2 := hB1.alloc hP1.1 (.cells #[.int .u8 (y : Int)] 5)
            obtain ⟨g10, hg⟩ : ∃ g, wn1.heap.size = g := ⟨_, rfl⟩
            obtain ⟨wn2, hwm⟩ : ∃ wm, wn1.alloc (.cells #[.int .u8 (y : Int)] 5) = wm := ⟨_, rfl⟩
            rw [hwm] at hP2 hB2 ⊢
            rw [hg] at hP2 ⊢
            clear hwm hg hP1 hB1
            refine hK.out _ _ ?_ (fun hHeld => ?_)
            · trivial
            clear hK K
            try simp only [Act.put, List.setIfInBounds_toArray, List.set_cons_zero, List.set_cons_succ]
            refine wpAnyH_ready (rs := [8, 12]) (by kernel_rfl) (by simp) ?_
            refine stepOf 8 (o := ?oT42) ?hiT42 ?hwT42 (fun K hK => ?_) ?_
            case hiT42 => (simp only [List.getElem?_toArray, List.getElem?_cons_succ, List.getElem?_cons_zero]; with_reducible rfl)
            case hwT42 => rfl
            · skip
              refine wp_append_bytes (.tmp 64) (.tmp 65) rfl w9.heap.size _ _ _ _ rfl (hP2.get 1 rfl) rfl (HB0.out wn2 hB2).2.1 ?_ hP2.1 T rfl ?_
              · have := HLT.out; have := HTL.out; simp; omega
              rintro v8 wn3 hgr
              have hP3 : Pool wn3 w9.heap.size [((.slice (some ⟨g10, 0, none⟩) 1 1), [y]), (v8, T)] := hP2.app 1 rfl hgr
              have hB3 := hB2.trans hgr.2.2.2
              clear hgr hP2 hB2
              refine hK.out _ _ ?_ (fun hHeld => ?_)
              · trivial
              clear hK K
              try simp only [Act.put, List.setIfInBounds_toArray, List.set_cons_zero, List.set_cons_succ]
              refine wpAnyH_ready (rs := [11, 12]) (by kernel_rfl) (by simp) ?_
              refine stepOf 11 (o := ?oT43) ?hiT43 ?hwT43 (fun K hK => ?_) ?_
              case hiT43 => (simp only [List.getElem?_toArray, List.getElem?_cons_succ, List.getElem?_cons_zero]; with_reducible rfl)
              case hwT43 => rfl
              · skip
                refine wp_append_bytes (.tmp 66) (.tmp 68) rfl w9.heap.size _ _ _ _ rfl (hP3.get 1 rfl) rfl (hP3.get 0 rfl).bytes ?_ hP3.1 (T ++ [y]) rfl ?_
                · have := HLT.out; have := HTL.out; simp; omega
                rintro v11 wn4 hgr
                obtain ⟨_, _, A11, c11, hv, _, _⟩ := hgr.1.bytes.parts
                rw [HN14.out] at hv
                subst hv
                have hP4 : Pool wn4 w9.heap.size [((.slice (some ⟨g10, 0, none⟩) 1 1), [y]), ((.slice A11 n14 c11), (T ++ [y]))] := hP3.app 1 rfl hgr
                have hB4 := hB3.trans hgr.2.2.2
                clear hgr hP3 hB3
                refine hK.out _ _ ?_ (fun hHeld => ?_)
                · trivial
                clear hK K
                try simp only [Act.put, List.setIfInBounds_toArray, List.set_cons_zero, List.set_cons_succ]
                refine stepOne 12 (o := ?oT44) ?hiT44 (by kernel_rfl) ?hwT44 (fun K hK => ?_)
                case hiT44 => (simp only [List.getElem?_toArray, List.getElem?_cons_succ, List.getElem?_cons_zero]; with_reducible rfl)
                case hwT44 => rfl
                go_simp
                have hP5 := hP4.nil
                have hB5 := hB4.alloc hP4.1 (.cells #[] 5)
                obtain ⟨g12, hg⟩ : ∃ g, wn4.heap.size = g := ⟨_, rfl⟩
                obtain ⟨wn5, hwm⟩ : ∃ wm, wn4.alloc (.cells #[] 5) = wm := ⟨_, rfl⟩
                rw [hwm] at hP5 hB5 ⊢
                rw [hg] at hP5 ⊢
                clear hwm hg hP4 hB4
                refine hK.out _ _ ?_ (fun hHeld => ?_)
                · trivial
                clear hK K
                try simp only [Act.put, List.setIfInBounds_toArray, List.set_cons_zero, List.set_cons_succ]
                refine stepOne 14 (o := ?oT45) ?hiT45 (by kernel_rfl) ?hwT45 (fun K hK => ?_)
                case hiT45 => (simp only [List.getElem?_toArray, List.getElem?_cons_succ, List.getElem?_cons_zero]; with_reducible rfl)
                case hwT45 => rfl
                refine wp_append_bytes (.tmp 70) (.tmp 71) rfl w9.heap.size _ _ _ _ rfl (hP5.get 0 rfl) rfl (HB0.out wn5 hB5).2.1 ?_ hP5.1 T rfl ?_
                · have := HLT.out; have := HTL.out; simp; omega
                rintro v14 wn6 hgr
                have hP6 : Pool wn6 w9.heap.size [(v14, T), ((.slice (some ⟨g10, 0, none⟩) 1 1), [y]), ((.slice A11 n14 c11), (T ++ [y]))] := hP5.app 0 rfl hgr
                have hB6 := hB5.trans hgr.2.2.2
                clear hgr hP5 hB5
                refine hK.out _ _ ?_ (fun hHeld => ?_)
                · trivial
                clear hK K
                try simp only [Act.put, List.setIfInBounds_toArray, List.set_cons_zero, List.set_cons_succ]
                refine stepOne 16 (o := ?oT46) ?hiT46 (by kernel_rfl) ?hwT46 (fun K hK => ?_)
                case hiT46 => (simp only [List.getElem?_toArray, List.getElem?_cons_succ, List.getElem?_cons_zero]; with_reducible rfl)
                case hwT46 => rfl
                refine wp_append_bytes (.tmp 72) (.tmp 73) rfl w9.heap.size _ _ _ _ rfl (hP6.get 0 rfl) rfl (HB0.out wn6 hB6).2.1 ?_ hP6.1 (T ++ T) rfl ?_
                · have := HLT.out; have := HTL.out; simp; omega
                rintro v16 wn7 hgr
                obtain ⟨_, _, A16, c16, hv, _, _⟩ := hgr.1.bytes.parts
                rw [HNS.out] at hv
                subst hv
                have hP7 : Pool wn7 w9.heap.size [((.slice A16 nS c16), (T ++ T)), ((.slice (some ⟨g10, 0, none⟩) 1 1), [y]), ((.slice A11 n14 c11), (T ++ [y]))] := hP6.app 0 rfl hgr
                have hB7 := hB6.trans hgr.2.2.2
                clear hgr hP6 hB6
                refine hK.out _ _ ?_ (fun hHeld => ?_)
                · trivial
                clear hK K
                try simp only [Act.put, List.setIfInBounds_toArray, List.set_cons_zero, List.set_cons_succ]
                refine stepOne 17 (o := ?oT47) ?hiT47 (by kernel_rfl) ?hwT47 (fun K hK => ?_)
                case hiT47 => (simp only [List.getElem?_toArray, List.getElem?_cons_succ, List.getElem?_cons_zero]; with_reducible rfl)
                case hwT47 => rfl
                go_simp
                refine hK.out _ _ ?_ (fun hHeld => ?_)
                · trivial
                clear hK K
                try simp only [Act.put, List.setIfInBounds_toArray, List.set_cons_zero, List.set_cons_succ]
                refine takeW 18 (some 76) (oi := ?oT48) (v := ?vT48) ?hiT48 ?hdT48 (by kernel_rfl) (by kernel_rfl) (by kernel_rfl) (fun _ _ _ h => h) ?hwT48 ?hyT48 hHeld ?_
                case hiT48 => (simp only [List.getElem?_toArray, List.getElem?_cons_succ, List.getElem?_cons_zero]; with_reducible rfl)
                case hdT48 => rfl
                case hwT48 => rfl
                case hyT48 => (intro w hSw; (try dsimp only at hSw); go_simp; first | done | with_reducible rfl)
                try simp only [Act.put, List.setIfInBounds_toArray, List.set_cons_zero, List.set_cons_succ]
                refine wpAnyH_done (by kernel_rfl) ?_ _
                refine NoPanic.normal ?_
                go_wp2_with fail
                go_meet
                have hF := HFIN.out wn7 (.slice A11 n14 c11) (.slice A16 nS c16) hB7 (hP7.get 2 rfl).bytes (hP7.get 0 rfl).bytes
                exact ⟨_, rfl, rfl, rfl, Lib.hid hF.1, Lib.hid hF.2⟩
              refine stepOf 12 (o := ?oT49) ?hiT49 ?hwT49 (fun K hK => ?_) AllReadyH.nil
              case hiT49 => (simp only [List.getElem?_toArray, List.getElem?_cons_succ, List.getElem?_cons_zero]; with_reducible rfl)
              case hwT49 => rfl
              go_simp
              have hP4 := hP3.nil
              have hB4 := hB3.alloc hP3.1 (.cells #[] 5)
              obtain ⟨g12, hg⟩ : ∃ g, wn3.heap.size = g := ⟨_, rfl⟩
              obtain ⟨wn4, hwm⟩ : ∃ wm, wn3.alloc (.cells #[] 5) = wm := ⟨_, rfl⟩
              rw [hwm] at hP4 hB4 ⊢
              rw [hg] at hP4 ⊢
              clear hwm hg hP3 hB3
              refine hK.out _ _ ?_ (fun hHeld => ?_)
              · trivial
              clear hK K
              try simp only [Act.put, List.setIfInBounds_toArray, List.set_cons_zero, List.set_cons_succ]
              refine stepOne 11 (o := ?oT50) ?hiT50 (by kernel_rfl) ?hwT50 (fun K hK => ?_)
              case hiT50 => (simp only [List.getElem?_toArray, List.getElem?_cons_succ, List.getElem?_cons_zero]; with_reducible rfl)
              case hwT50 => rfl
              refine wp_append_bytes (.tmp 66) (.tmp 68) rfl w9.heap.size _ _ _ _ rfl (hP4.get 2 rfl) rfl (hP4.get 1 rfl).bytes ?_ hP4.1 (T ++ [y]) rfl ?_
              · have := HLT.out; have := HTL.out; simp; omega
              rintro v11 wn5 hgr
              obtain ⟨_, _, A11, c11, hv, _, _⟩ := hgr.1.bytes.parts
              rw [HN14.out] at hv
              subst hv
              have hP5 : Pool wn5 w9.heap.size [((.slice (some ⟨g12, 0, none⟩) 0 0), []), ((.slice (some ⟨g10, 0, none⟩) 1 1), [y]), ((.slice A11 n14 c11), (T ++ [y]))] := hP4.app 2 rfl hgr
              have hB5 := hB4.trans hgr.2.2.2
              clear hgr hP4 hB4
              refine hK.out _ _ ?_ (fun hHeld => ?_)
              · trivial
              clear hK K
              try simp only [Act.put, List.setIfInBounds_toArray, List.set_cons_zero, List.set_cons_succ]
              refine stepOne 14 (o := ?oT51) ?hiT51 (by kernel_rfl) ?hwT51 (fun K hK => ?_)
              case hiT51 => (simp only [List.getElem?_toArray, List.getElem?_cons_succ, List.getElem?_cons_zero]; with_reducible rfl)
              case hwT51 => rfl
              refine wp_append_bytes (.tmp 70) (.tmp 71) rfl w9.heap.size _ _ _ _ rfl (hP5.get 0 rfl) rfl (HB0.out wn5 hB5).2.1 ?_ hP5.1 T rfl ?_
              · have := HLT.out; have := HTL.out; simp; omega
              rintro v14 wn6 hgr
              have hP6 : Pool wn6 w9.heap.size [(v14, T), ((.slice (some ⟨g10, 0, none⟩) 1 1), [y]), ((.slice A11 n14 c11), (T ++ [y]))] := hP5.app 0 rfl hgr
              have hB6 := hB5.trans hgr.2.2.2
              clear hgr hP5 hB5
              refine hK.out _ _ ?_ (fun hHeld => ?_)
              · trivial
              clear hK K
              try simp only [Act.put, List.setIfInBounds_toArray, List.set_cons_zero, List.set_cons_succ]
              refine stepOne 16 (o := ?oT52) ?hiT52 (by kernel_rfl) ?hwT52 (fun K hK => ?_)
              case hiT52 => (simp only [List.getElem?_toArray, List.getElem?_cons_succ, List.getElem?_cons_zero]; with_reducible rfl)
              case hwT52 => rfl
              refine wp_append_bytes (.tmp 72) (.tmp 73) rfl w9.heap.size _ _ _ _ rfl (hP6.get 0 rfl) rfl (HB0.out wn6 hB6).2.1 ?_ hP6.1 (T ++ T) rfl ?_
              · have := HLT.out; have := HTL.out; simp; omega
              rintro v16 wn7 hgr
              obtain ⟨_, _, A16, c16, hv, _, _⟩ := hgr.1.bytes.parts
              rw [HNS.out] at hv
              subst hv
              have hP7 : Pool wn7 w9.heap.size [((.slice A16 nS c16), (T ++ T)), ((.slice (some ⟨g10, 0, none⟩) 1 1), [y]), ((.slice A11 n14 c11), (T ++ [y]))] := hP6.app 0 rfl hgr
              have hB7 := hB6.trans hgr.2.2.2
              clear hgr hP6 hB6
              refine hK.out _ _ ?_ (fun hHeld => ?_)
              · trivial
              clear hK K
              try simp only [Act.put, List.setIfInBounds_toArray, List.set_cons_zero, List.set_cons_succ]
              refine stepOne 17 (o := ?oT53) ?hiT53 (by kernel_rfl) ?hwT53 (fun K hK => ?_)
              case hiT53 => (simp only [List.getElem?_toArray, List.getElem?_cons_succ, List.getElem?_cons_zero]; with_reducible rfl)
              case hwT53 => rfl
              go_simp
              refine hK.out _ _ ?_ (fun hHeld => ?_)
              · trivial
              clear hK K
              try simp only [Act.put, List.setIfInBounds_toArray, List.set_cons_zero, List.set_cons_succ]
              refine takeW 18 (some 76) (oi := ?oT54) (v := ?vT54) ?hiT54 ?hdT54 (by kernel_rfl) (by kernel_rfl) (by kernel_rfl) (fun _ _ _ h => h) ?hwT54 ?hyT54 hHeld ?_
              case hiT54 => (simp only [List.getElem?_toArray, List.getElem?_cons_succ, List.getElem?_cons_zero]; with_reducible rfl)
              case hdT54 => rfl
              case hwT54 => rfl
              case hyT54 => (intro w hSw; (try dsimp only at hSw); go_simp; first | done | with_reducible rfl)
              try simp only [Act.put, List.setIfInBounds_toArray, List.set_cons_zero, List.set_cons_succ]
              refine wpAnyH_done (by kernel_rfl) ?_ _
              refine NoPanic.normal ?_
              go_wp2_with fail
              go_meet
              have hF := HFIN.out wn7 (.slice A11 n14 c11) (.slice A16 nS c16) hB7 (hP7.get 2 rfl).bytes (hP7.get 0 rfl).bytes
              exact ⟨_, rfl, rfl, rfl, Lib.hid hF.1, Lib.hid hF.2⟩
            refine stepOf 12 (o := ?oT55) ?hiT55 ?hwT55 (fun K hK => ?_) AllReadyH.nil
            case hiT55 => (simp only [List.getElem?_toArray, List.getElem?_cons_succ, List.getElem?_cons_zero]; with_reducible rfl)
            case hwT55 => rfl
            go_simp
            have hP3 := hP2.nil
            have hB3 := hB2.alloc hP2.1 (.cells #[] 5)
            obtain ⟨g12, hg⟩ : ∃ g, wn2.heap.size = g := ⟨_, rfl⟩
            obtain ⟨wn3, hwm⟩ : ∃ wm, wn2.alloc (.cells #[] 5) = wm := ⟨_, rfl⟩
            rw [hwm] at hP3 hB3 ⊢
            rw [hg] at hP3 ⊢
            clear hwm hg hP2 hB2
            refine hK.out _ _ ?_ (fun hHeld => ?_)
            · trivial
            clear hK K
            try simp only [Act.put, List.setIfInBounds_toArray, List.set_cons_zero, List.set_cons_succ]
            refine stepOne 8 (o := ?oT56) ?hiT56 (by kernel_rfl) ?hwT56 (fun K hK => ?_)
            case hiT56 => (simp only [List.getElem?_toArray, List.getElem?_cons_succ, List.getElem?_cons_zero]; with_reducible rfl)
            case hwT56 => rfl
            refine wp_append_bytes (.tmp 64) (.tmp 65) rfl w9.heap.size _ _ _ _ rfl (hP3.get 2 rfl) rfl (HB0.out wn3 hB3).2.1 ?_ hP3.1 T rfl ?_
            · have := HLT.out; have := HTL.out; simp; omega
            rintro v8 wn4 hgr
            have hP4 : Pool wn4 w9.heap.size [((.slice (some ⟨g12, 0, none⟩) 0 0), []), ((.slice (some ⟨g10, 0, none⟩) 1 1), [y]), (v8, T)] := hP3.app 2 rfl hgr
            have hB4 := hB3.trans hgr.2.2.2
            clear hgr hP3 hB3
            refine hK.out _ _ ?_ (fun hHeld => ?_)
            · trivial
            clear hK K
            try simp only [Act.put, List.setIfInBounds_toArray, List.set_cons_zero, List.set_cons_succ]
            refine stepOne 11 (o := ?oT57) ?hiT57 (by kernel_rfl) ?hwT57 (fun K hK => ?_)
            case hiT57 => (simp only [List.getElem?_toArray, List.getElem?_cons_succ, List.getElem?_cons_zero]; with_reducible rfl)
            case hwT57 => rfl
            refine wp_append_bytes (.tmp 66) (.tmp 68) rfl w9.heap.size _ _ _ _ rfl (hP4.get 2 rfl) rfl (hP4.get 1 rfl).bytes ?_ hP4.1 (T ++ [y]) rfl ?_
            · have := HLT.out; have := HTL.out; simp; omega
            rintro v11 wn5 hgr
            obtain ⟨_, _, A11, c11, hv, _, _⟩ := hgr.1.bytes.parts
            rw [HN14.out] at hv
            subst hv
            have hP5 : Pool wn5 w9.heap.size [((.slice (some ⟨g12, 0, none⟩) 0 0), []), ((.slice (some ⟨g10, 0, none⟩) 1 1), [y]), ((.slice A11 n14 c11), (T ++ [y]))] := hP4.app 2 rfl hgr
            have hB5 := hB4.trans hgr.2.2.2
            clear hgr hP4 hB4
            refine hK.out _ _ ?_ (fun hHeld => ?_)
            · trivial
            clear hK K
            try simp only [Act.put, List.setIfInBounds_toArray, List.set_cons_zero, List.set_cons_succ]
            refine stepOne 14 (o := ?oT58) ?hiT58 (by kernel_rfl) ?hwT58 (fun K hK => ?_)
            case hiT58 => (simp only [List.getElem?_toArray, List.getElem?_cons_succ, List.getElem?_cons_zero]; with_reducible rfl)
            case hwT58 => rfl
            refine wp_append_bytes (.tmp 70) (.tmp 71) rfl w9.heap.size _ _ _ _ rfl (hP5.get 0 rfl) rfl (HB0.out wn5 hB5).2.1 ?_ hP5.1 T rfl ?_
            · have := HLT.out; have := HTL.out; simp; omega
            rintro v14 wn6 hgr
            have hP6 : Pool wn6 w9.heap.size [(v14, T), ((.slice (some ⟨g10, 0, none⟩) 1 1), [y]), ((.slice A11 n14 c11), (T ++ [y]))] := hP5.app 0 rfl hgr
            have hB6 := hB5.trans hgr.2.2.2
            clear hgr hP5 hB5
            refine hK.out _ _ ?_ (fun hHeld => ?_)
            · trivial
            clear hK K
            try simp only [Act.put, List.setIfInBounds_toArray, List.set_cons_zero, List.set_cons_succ]
            refine stepOne 16 (o := ?oT59) ?hiT59 (by kernel_rfl) ?hwT59 (fun K hK => ?_)
            case hiT59 => (simp only [List.getElem?_toArray, List.getElem?_cons_succ, List.getElem?_cons_zero]; with_reducible rfl)
            case hwT59 => rfl
            refine wp_append_bytes (.tmp 72) (.tmp 73) rfl w9.heap.size _ _ _ _ rfl (hP6.get 0 rfl) rfl (HB0.out wn6 hB6).2.1 ?_ hP6.1 (T ++ T) rfl ?_
            · have := HLT.out; have := HTL.out; simp; omega
            rintro v16 wn7 hgr
            obtain ⟨_, _, A16, c16, hv, _, _⟩ := hgr.1.bytes.parts
            rw [HNS.out] at hv
            subst hv
            have hP7 : Pool wn7 w9.heap.size [((.slice A16 nS c16), (T ++ T)), ((.slice (some ⟨g10, 0, none⟩) 1 1), [y]), ((.slice A11 n14 c11), (T ++ [y]))] := hP6.app 0 rfl hgr
            have hB7 := hB6.trans hgr.2.2.2
            clear hgr hP6 hB6
            refine hK.out _ _ ?_ (fun hHeld => ?_)
            · trivial
            clear hK K
            try simp only [Act.put, List.setIfInBounds_toArray, List.set_cons_zero, List.set_cons_succ]
            refine stepOne 17 (o := ?oT60) ?hiT60 (by kernel_rfl) ?hwT60 (fun K hK => ?_)
            case hiT60 => (simp only [List.getElem?_toArray, List.getElem?_cons_succ, List.getElem?_cons_zero]; with_reducible rfl)
            case hwT60 => rfl
            go_simp
            refine hK.out _ _ ?_ (fun hHeld => ?_)
            · trivial
            clear hK K
            try simp only [Act.put, List.setIfInBounds_toArray, List.set_cons_zero, List.set_cons_succ]
            refine takeW 18 (some 76) (oi := ?oT61) (v := ?vT61) ?hiT61 ?hdT61 (by kernel_rfl) (by kernel_rfl) (by kernel_rfl) (fun _ _ _ h => h) ?hwT61 ?hyT61 hHeld ?_
            case hiT61 => (simp only [List.getElem?_toArray, List.getElem?_cons_succ, List.getElem?_cons_zero]; with_reducible rfl)
            case hdT61 => rfl
            case hwT61 => rfl
            case hyT61 => (intro w hSw; (try dsimp only at hSw); go_simp; first | done | with_reducible rfl)
            try simp only [Act.put, List.setIfInBounds_toArray, List.set_cons_zero, List.set_cons_succ]
            refine wpAnyH_done (by kernel_rfl) ?_ _
            refine NoPanic.normal ?_
            go_wp2_with fail
            go_meet
            have hF := HFIN.out wn7 (.slice A11 n14 c11) (.slice A16 nS c16) hB7 (hP7.get 2 rfl).bytes (hP7.get 0 rfl).bytes
            exact ⟨_, rfl, rfl, rfl, Lib.hid hF.1, Lib.hid hF.2⟩
          refine stepOf 12 (o := ?oT62) ?hiT62 ?hwT62 (fun K hK => ?_) AllReadyH.nil
          case hiT62 => (simp only [List.getElem?_toArray, List.getElem?_cons_succ, List.getElem?_cons_zero]; with_reducible rfl)
          case hwT62 => rfl
          go_simp
          have hP2 := hP1.nil
          have hB2 := hB1.alloc hP1.1 (.cells #[] 5)
          obtain ⟨g12, hg⟩ : ∃ g, wn1.heap.size = g := ⟨_, rfl⟩
          obtain ⟨wn2, hwm⟩ : ∃ wm, wn1.alloc (.cells #[] 5) = wm := ⟨_, rfl⟩
          rw [hwm] at hP2 hB2 ⊢
          rw [hg] at hP2 ⊢
          clear hwm hg hP1 hB1
          refine hK.out _ _ ?_ (fun hHeld => ?_)
          · trivial
          clear hK K
          try simp only [Act.put, List.setIfInBounds_toArray, List.set_cons_zero, List.set_cons_succ]
          refine wpAnyH_ready (rs := [8, 10]) (by kernel_rfl) (by simp) ?_
          refine stepOf 8 (o := ?oT63) ?hiT63 ?hwT63 (fun K hK => ?_) ?_
          case hiT63 => (simp only [List.getElem?_toArray, List.getElem?_cons_succ, List.getElem?_cons_zero]; with_reducible rfl)
          case hwT63 => rfl
          · skip
            refine wp_append_bytes (.tmp 64) (.tmp 65) rfl w9.heap.size _ _ _ _ rfl (hP2.get 1 rfl) rfl (HB0.out wn2 hB2).2.1 ?_ hP2.1 T rfl ?_
            · have := HLT.out; have := HTL.out; simp; omega
            rintro v8 wn3 hgr
            have hP3 : Pool wn3 w9.heap.size [((.slice (some ⟨g12, 0, none⟩) 0 0), []), (v8, T)] := hP2.app 1 rfl hgr
            have hB3 := hB2.trans hgr.2.2.2
            clear hgr hP2 hB2
            refine hK.out _ _ ?_ (fun hHeld => ?_)
            · trivial
            clear hK K
            try simp only [Act.put, List.setIfInBounds_toArray, List.set_cons_zero, List.set_cons_succ]
            refine stepOne 10 (o := ?oT64) ?hiT64 (by kernel_rfl) ?hwT64 (fun K hK => ?_)
            case hiT64 => (simp only [List.getElem?_toArray, List.getElem?_cons_succ, List.getElem?_cons_zero]; with_reducible rfl)
            case hwT64 => rfl
            go_simp
            have hP4 := hP3.one y hy
            have hB4 := hB3.alloc hP3.1 (.cells #[.int .u8 (y : Int)] 5)
            obtain ⟨g10, hg⟩ : ∃ g, wn3.heap.size = g := ⟨_, rfl⟩
            obtain ⟨wn4, hwm⟩ : ∃ wm, wn3.alloc (.cells #[.int .u8 (y : Int)] 5) = wm := ⟨_, rfl⟩
            rw [hwm] at hP4 hB4 ⊢
            rw [hg] at hP4 ⊢
            clear hwm hg hP3 hB3
            refine hK.out _ _ ?_ (fun hHeld => ?_)
            · trivial
            clear hK K
            try simp only [Act.put, List.setIfInBounds_toArray, List.set_cons_zero, List.set_cons_succ]
            refine stepOne 11 (o := ?oT65) ?hiT65 (by kernel_rfl) ?hwT65 (fun K hK => ?_)
            case hiT65 => (simp only [List.getElem?_toArray, List.getElem?_cons_succ, List.getElem?_cons_zero]; with_reducible rfl)
            case hwT65 => rfl
            refine wp_append_bytes (.tmp 66) (.tmp 68) rfl w9.heap.size _ _ _ _ rfl (hP4.get 2 rfl) rfl (hP4.get 0 rfl).bytes ?_ hP4.1 (T ++ [y]) rfl ?_
            · have := HLT.out; have := HTL.out; simp; omega
            rintro v11 wn5 hgr
            obtain ⟨_, _, A11, c11, hv, _, _⟩ := hgr.1.bytes.parts
            rw [HN14.out] at hv
            subst hv
            have hP5 : Pool wn5 w9.heap.size [((.slice (some ⟨g10, 0, none⟩) 1 1), [y]), ((.slice (some ⟨g12, 0, none⟩) 0 0), []), ((.slice A11 n14 c11), (T ++ [y]))] := hP4.app 2 rfl hgr
            have hB5 := hB4.trans hgr.2.2.2
            clear hgr hP4 hB4
            refine hK.out _ _ ?_ (fun hHeld => ?_)
            · trivial
            clear hK K
            try simp only [Act.put, List.setIfInBounds_toArray, List.set_cons_zero, List.set_cons_succ]
            refine stepOne 14 (o := ?oT66) ?hiT66 (by kernel_rfl) ?hwT66 (fun K hK => ?_)
            case hiT66 => (simp only [List.getElem?_toArray, List.getElem?_cons_succ, List.getElem?_cons_zero]; with_reducible rfl)
            case hwT66 => rfl
            refine wp_append_bytes (.tmp 70) (.tmp 71) rfl w9.heap.size _ _ _ _ rfl (hP5.get 1 rfl) rfl (HB0.out wn5 hB5).2.1 ?_ hP5.1 T rfl ?_
            · have := HLT.out; have := HTL.out; simp; omega
            rintro v14 wn6 hgr
            have hP6 : Pool wn6 w9.heap.size [((.slice (some ⟨g10, 0, none⟩) 1 1), [y]), (v14, T), ((.slice A11 n14 c11), (T ++ [y]))] := hP5.app 1 rfl hgr
            have hB6 := hB5.trans hgr.2.2.2
            clear hgr hP5 hB5
            refine hK.out _ _ ?_ (fun hHeld => ?_)
            · trivial
            clear hK K
            try simp only [Act.put, List.setIfInBounds_toArray, List.set_cons_zero, List.set_cons_succ]
            refine stepOne 16 (o := ?oT67) ?hiT67 (by kernel_rfl) ?hwT67 (fun K hK => ?_)
            case hiT67 => (simp only [List.getElem?_toArray, List.getElem?_cons_succ, List.getElem?_cons_zero]; with_reducible rfl)
            case hwT67 => rfl
            refine wp_append_bytes (.tmp 72) (.tmp 73) rfl w9.heap.size _ _ _ _ rfl (hP6.get 1 rfl) rfl (HB0.out wn6 hB6).2.1 ?_ hP6.1 (T ++ T) rfl ?_
            · have := HLT.out; have := HTL.out; simp; omega
            rintro v16 wn7 hgr
            obtain ⟨_, _, A16, c16, hv, _, _⟩ := hgr.1.bytes.parts
            rw [HNS.out] at hv
            subst hv
            have hP7 : Pool wn7 w9.heap.size [((.slice (some ⟨g10, 0, none⟩) 1 1), [y]), ((.slice A16 nS c16), (T ++ T)), ((.slice A11 n14 c11), (T ++ [y]))] := hP6.app 1 rfl hgr
            have hB7 := hB6.trans hgr.2.2.2
            clear hgr hP6 hB6
            refine hK.out _ _ ?_ (fun hHeld => ?_)
            · trivial
            clear hK K
            try simp only [Act.put, List.setIfInBounds_toArray, List.set_cons_zero, List.set_cons_succ]
            refine stepOne 17 (o := ?oT68) ?hiT68 (by kernel_rfl) ?hwT68 (fun K hK => ?_)
            case hiT68 => (simp only [List.getElem?_toArray, List.getElem?_cons_succ, List.getElem?_cons_zero]; with_reducible rfl)
            case hwT68 => rfl
            go_simp
            refine hK.out _ _ ?_ (fun hHeld => ?_)
            · trivial
            clear hK K
            try simp only [Act.put, List.setIfInBounds_toArray, List.set_cons_zero, List.set_cons_succ]
            refine takeW 18 (some 76) (oi := ?oT69) (v := ?vT69) ?hiT69 ?hdT69 (by kernel_rfl) (by kernel_rfl) (by kernel_rfl) (fun _ _ _ h => h) ?hwT69 ?hyT69 hHeld ?_
            case hiT69 => (simp only [List.getElem?_toArray, List.getElem?_cons_succ, List.getElem?_cons_zero]; with_reducible rfl)
            case hdT69 => rfl
            case hwT69 => rfl
            case hyT69 => (intro w hSw; (try dsimp only at hSw); go_simp; first | done | with_reducible rfl)
            try simp only [Act.put, List.setIfInBounds_toArray, List.set_cons_zero, List.set_cons_succ]
            refine wpAnyH_done (by kernel_rfl) ?_ _
            refine NoPanic.normal ?_
            go_wp2_with fail
            go_meet
            have hF := HFIN.out wn7 (.slice A11 n14 c11) (.slice A16 nS c16) hB7 (hP7.get 2 rfl).bytes (hP7.get 1 rfl).bytes
            exact ⟨_, rfl, rfl, rfl, Lib.hid hF.1, Lib.hid hF.2⟩
          refine stepOf 10 (o := ?oT70) ?hiT70 ?hwT70 (fun K hK => ?_) AllReadyH.nil
          case hiT70 => (simp only [List.getElem?_toArray, List.getElem?_cons_succ, List.getElem?_cons_zero]; with_reducible rfl)
          case hwT70 => rfl
          go_simp
          have hP3 := hP2.one y hy
          have hB3 := hB2.alloc hP2.1 (.cells #[.int .u8 (y : Int)] 5)
          obtain ⟨g10, hg⟩ : ∃ g, wn2.heap.size = g := ⟨_, rfl⟩
          obtain ⟨wn3, hwm⟩ : ∃ wm, wn2.alloc (.cells #[.int .u8 (y : Int)] 5) = wm := ⟨_, rfl⟩
          rw [hwm] at hP3 hB3 ⊢
          rw [hg] at hP3 ⊢
          clear hwm hg hP2 hB2
          refine hK.out _ _ ?_ (fun hHeld => ?_)
          · trivial
          clear hK K
          try simp only [Act.put, List.setIfInBounds_toArray, List.set_cons_zero, List.set_cons_succ]
          refine stepOne 8 (o := ?oT71) ?hiT71 (by kernel_rfl) ?hwT71 (fun K hK => ?_)
          case hiT71 => (simp only [List.getElem?_toArray, List.getElem?_cons_succ, List.getElem?_cons_zero]; with_reducible rfl)
          case hwT71 => rfl
          refine wp_append_bytes (.tmp 64) (.tmp 65) rfl w9.heap.size _ _ _ _ rfl (hP3.get 2 rfl) rfl (HB0.out wn3 hB3).2.1 ?_ hP3.1 T rfl ?_
          · have := HLT.out; have := HTL.out; simp; omega
          rintro v8 wn4 hgr
          have hP4 : Pool wn4 w9.heap.size [((.slice (some ⟨g10, 0, none⟩) 1 1), [y]), ((.slice (some ⟨g12, 0, none⟩) 0 0), []), (v8, T)] := hP3.app 2 rfl hgr
          have hB4 := hB3.trans hgr.2.2.2
          clear hgr hP3 hB3
          refine hK.out _ _ ?_ (fun hHeld => ?_)
          · trivial
          clear hK K
          try simp only [Act.put, List.setIfInBounds_toArray, List.set_cons_zero, List.set_cons_succ]
          refine stepOne 11 (o := ?oT72) ?hiT72 (by kernel_rfl) ?hwT72 (fun K hK => ?_)
          case hiT72 => (simp only [List.getElem?_toArray, List.getElem?_cons_succ, List.getElem?_cons_zero]; with_reducible rfl)
          case hwT72 => rfl
          refine wp_append_bytes (.tmp 66) (.tmp 68) rfl w9.heap.size _ _ _ _ rfl (hP4.get 2 rfl) rfl (hP4.get 0 rfl).bytes ?_ hP4.1 (T ++ [y]) rfl ?_
          · have := HLT.out; have := HTL.out; simp; omega
          rintro v11 wn5 hgr
          obtain ⟨_, _, A11, c11, hv, _, _⟩ := hgr.1.bytes.parts
          rw [HN14.out] at hv
          subst hv
          have hP5 : Pool wn5 w9.heap.size [((.slice (some ⟨g10, 0, none⟩) 1 1), [y]), ((.slice (some ⟨g12, 0, none⟩) 0 0), []), ((.slice A11 n14 c11), (T ++ [y]))] := hP4.app 2 rfl hgr
          have hB5 := hB4.trans hgr.2.2.2
          clear hgr hP4 hB4
          refine hK.out _ _ ?_ (fun hHeld => ?_)
          · trivial
          clear hK K
          try simp only [Act.put, List.setIfInBounds_toArray, List.set_cons_zero, List.set_cons_succ]
          refine stepOne 14 (o := ?oT73) ?hiT73 (by kernel_rfl) ?hwT73 (fun K hK => ?_)
          case hiT73 => (simp only [List.getElem?_toArray, List.getElem?_cons_succ, List.getElem?_cons_zero]; with_reducible rfl)
          case hwT73 => rfl
          refine wp_append_bytes (.tmp 70) (.tmp 71) rfl w9.heap.size _ _ _ _ rfl (hP5.get 1 rfl) rfl (HB0.out wn5 hB5).2.1 ?_ hP5.1 T rfl ?_
          · have := HLT.out; have := HTL.out; simp; omega
          rintro v14 wn6 hgr
          have hP6 : Pool wn6 w9.heap.size [((.slice (some ⟨g10, 0, none⟩) 1 1), [y]), (v14, T), ((.slice A11 n14 c11), (T ++ [y]))] := hP5.app 1 rfl hgr
          have hB6 := hB5.trans hgr.2.2.2
          clear hgr hP5 hB5
          refine hK.out _ _ ?_ (fun hHeld => ?_)
          · trivial
          clear hK K
          try simp only [Act.put, List.setIfInBounds_toArray, List.set_cons_zero, List.set_cons_succ]
          refine stepOne 16 (o := ?oT74) ?hiT74 (by kernel_rfl) ?hwT74 (fun K hK => ?_)
          case hiT74 => (simp only [List.getElem?_toArray, List.getElem?_cons_succ, List.getElem?_cons_zero]; with_reducible rfl)
          case hwT74 => rfl
          refine wp_append_bytes (.tmp 72) (.tmp 73) rfl w9.heap.size _ _ _ _ rfl (hP6.get 1 rfl) rfl (HB0.out wn6 hB6).2.1 ?_ hP6.1 (T ++ T) rfl ?_
          · have := HLT.out; have := HTL.out; simp; omega
          rintro v16 wn7 hgr
          obtain ⟨_, _, A16, c16, hv, _, _⟩ := hgr.1.bytes.parts
          rw [HNS.out] at hv
          subst hv
          have hP7 : Pool wn7 w9.heap.size [((.slice (some ⟨g10, 0, none⟩) 1 1), [y]), ((.slice A16 nS c16), (T ++ T)), ((.slice A11 n14 c11), (T ++ [y]))] := hP6.app 1 rfl hgr
          have hB7 := hB6.trans hgr.2.2.2
          clear hgr hP6 hB6
          refine hK.out _ _ ?_ (fun hHeld => ?_)
          · trivial
          clear hK K
          try simp only [Act.put, List.setIfInBounds_toArray, List.set_cons_zero, List.set_cons_succ]
          refine stepOne 17 (o := ?oT75) ?hiT75 (by kernel_rfl) ?hwT75 (fun K hK => ?_)
          case hiT75 => (simp only [List.getElem?_toArray, List.getElem?_cons_succ, List.getElem?_cons_zero]; with_reducible rfl)
          case hwT75 => rfl
          go_simp
          refine hK.out _ _ ?_ (fun hHeld => ?_)
          · trivial
          clear hK K
          try simp only [Act.put, List.setIfInBounds_toArray, List.set_cons_zero, List.set_cons_succ]
          refine takeW 18 (some 76) (oi := ?oT76) (v := ?vT76) ?hiT76 ?hdT76 (by kernel_rfl) (by kernel_rfl) (by kernel_rfl) (fun _ _ _ h => h) ?hwT76 ?hyT76 hHeld ?_
          case hiT76 => (simp only [List.getElem?_toArray, List.getElem?_cons_succ, List.getElem?_cons_zero]; with_reducible rfl)
          case hdT76 => rfl
          case hwT76 => rfl
          case hyT76 => (intro w hSw; (try dsimp only at hSw); go_simp; first | done | with_reducible rfl)
          try simp only [Act.put, List.setIfInBounds_toArray, List.set_cons_zero, List.set_cons_succ]
          refine wpAnyH_done (by kernel_rfl) ?_ _
          refine NoPanic.normal ?_
          go_wp2_with fail
          go_meet
          have hF := HFIN.out wn7 (.slice A11 n14 c11) (.slice A16 nS c16) hB7 (hP7.get 2 rfl).bytes (hP7.get 1 rfl).bytes
          exact ⟨_, rfl, rfl, rfl, Lib.hid hF.1, Lib.hid hF.2⟩
        refine stepOf 10 (o := ?oT77) ?hiT77 ?hwT77 (fun K hK => ?_) ?_
        case hiT77 => (simp only [List.getElem?_toArray, List.getElem?_cons_succ, List.getElem?_cons_zero]; with_reducible rfl)
        case hwT77 => rfl
        · skip
          go_simp
          have hP1 := hP0.one y hy
          have hB1 := hB0.alloc hP0.1 (.cells #[.int .u8 (y : Int)] 5)
          obtain ⟨g10, hg⟩ : ∃ g, wn0.heap.size = g := ⟨_, rfl⟩
          obtain ⟨wn1, hwm⟩ : ∃ wm, wn0.alloc (.cells #[.int .u8 (y : Int)] 5) = wm := ⟨_, rfl⟩
          rw [hwm] at hP1 hB1 ⊢
          rw [hg] at hP1 ⊢
          clear hwm hg hP0 hB0
          refine hK.out _ _ ?_ (fun hHeld => ?_)
          · trivial
          clear hK K
          try simp only [Act.put, List.setIfInBounds_toArray, List.set_cons_zero, List.set_cons_succ]
          refine wpAnyH_ready (rs := [6, 12]) (by kernel_rfl) (by simp) ?_
          refine stepOf 6 (o := ?oT78) ?hiT78 ?hwT78 (fun K hK => ?_) ?_
          case hiT78 => (simp only [List.getElem?_toArray, List.getElem?_cons_succ, List.getElem?_cons_zero]; with_reducible rfl)
          case hwT78 => rfl
          · skip
            go_simp
            have hP2 := hP1.nil
            have hB2 := hB1.alloc hP1.1 (.cells #[] 5)
            obtain ⟨g6, hg⟩ : ∃ g, wn1.heap.size = g := ⟨_, rfl⟩
            obtain ⟨wn2, hwm⟩ : ∃ wm, wn1.alloc (.cells #[] 5) = wm := ⟨_, rfl⟩
            rw [hwm] at hP2 hB2 ⊢
            rw [hg] at hP2 ⊢
            clear hwm hg hP1 hB1
            refine hK.out _ _ ?_ (fun hHeld => ?_)
            · trivial
            clear hK K
            try simp only [Act.put, List.setIfInBounds_toArray, List.set_cons_zero, List.set_cons_succ]
            refine wpAnyH_ready (rs := [8, 12]) (by kernel_rfl) (by simp) ?_
            refine stepOf 8 (o := ?oT79) ?hiT79 ?hwT79 (fun K hK => ?_) ?_
            case hiT79 => (simp only [List.getElem?_toArray, List.getElem?_cons_succ, List.getElem?_cons_zero]; with_reducible rfl)
            case hwT79 => rfl
            · skip
              refine wp_append_bytes (.tmp 64) (.tmp 65) rfl w9.heap.size _ _ _ _ rfl (hP2.get 0 rfl) rfl (HB0.out wn2 hB2).2.1 ?_ hP2.1 T rfl ?_
              · have := HLT.out; have := HTL.out; simp; omega
              rintro v8 wn3 hgr
              have hP3 : Pool wn3 w9.heap.size [(v8, T), ((.slice (some ⟨g10, 0, none⟩) 1 1), [y])] := hP2.app 0 rfl hgr
              have hB3 := hB2.trans hgr.2.2.2
              clear hgr hP2 hB2
              refine hK.out _ _ ?_ (fun hHeld => ?_)
              · trivial
              clear hK K
              try simp only [Act.put, List.setIfInBounds_toArray, List.set_cons_zero, List.set_cons_succ]
              refine wpAnyH_ready (rs := [11, 12]) (by kernel_rfl) (by simp) ?_
              refine stepOf 11 (o := ?oT80) ?hiT80 ?hwT80 (fun K hK => ?_) ?_
              case hiT80 => (simp only [List.getElem?_toArray, List.getElem?_cons_succ, List.getElem?_cons_zero]; with_reducible rfl)
              case hwT80 => rfl
              · skip
                refine wp_append_bytes (.tmp 66) (.tmp 68) rfl w9.heap.size _ _ _ _ rfl (hP3.get 0 rfl) rfl (hP3.get 1 rfl).bytes ?_ hP3.1 (T ++ [y]) rfl ?_
                · have := HLT.out; have := HTL.out; simp; omega
                rintro v11 wn4 hgr
                obtain ⟨_, _, A11, c11, hv, _, _⟩ := hgr.1.bytes.parts
                rw [HN14.out] at hv
                subst hv
                have hP4 : Pool wn4 w9.heap.size [((.slice A11 n14 c11), (T ++ [y])), ((.slice (some ⟨g10, 0, none⟩) 1 1), [y])] := hP3.app 0 rfl hgr
                have hB4 := hB3.trans hgr.2.2.2
                clear hgr hP3 hB3
                refine hK.out _ _ ?_ (fun hHeld => ?_)
                · trivial
                clear hK K
                try simp only [Act.put, List.setIfInBounds_toArray, List.set_cons_zero, List.set_cons_succ]
                refine stepOne 12 (o := ?oT81) ?hiT81 (by kernel_rfl) ?hwT81 (fun K hK => ?_)
                case hiT81 => (simp only [List.getElem?_toArray, List.getElem?_cons_succ, List.getElem?_cons_zero]; with_reducible rfl)
                case hwT81 => rfl
                go_simp
                have hP5 := hP4.nil
                have hB5 := hB4.alloc hP4.1 (.cells #[] 5)
                obtain ⟨g12, hg⟩ : ∃ g, wn4.heap.size = g := ⟨_, rfl⟩
                obtain ⟨wn5, hwm⟩ : ∃ wm, wn4.alloc (.cells #[] 5) = wm := ⟨_, rfl⟩
                rw [hwm] at hP5 hB5 ⊢
                rw [hg] at hP5 ⊢
                clear hwm hg hP4 hB4
                refine hK.out _ _ ?_ (fun hHeld => ?_)
                · trivial
                clear hK K
                try simp only [Act.put, List.setIfInBounds_toArray, List.set_cons_zero, List.set_cons_succ]
                refine stepOne 14 (o := ?oT82) ?hiT82 (by kernel_rfl) ?hwT82 (fun K hK => ?_)
                case hiT82 => (simp only [List.getElem?_toArray, List.getElem?_cons_succ, List.getElem?_cons_zero]; with_reducible rfl)
                case hwT82 => rfl
                refine wp_append_bytes (.tmp 70) (.tmp 71) rfl w9.heap.size _ _ _ _ rfl (hP5.get 0 rfl) rfl (HB0.out wn5 hB5).2.1 ?_ hP5.1 T rfl ?_
                · have := HLT.out; have := HTL.out; simp; omega
                rintro v14 wn6 hgr
                have hP6 : Pool wn6 w9.heap.size [(v14, T), ((.slice A11 n14 c11), (T ++ [y])), ((.slice (some ⟨g10, 0, none⟩) 1 1), [y])] := hP5.app 0 rfl hgr
                have hB6 := hB5.trans hgr.2.2.2
                clear hgr hP5 hB5
                refine hK.out _ _ ?_ (fun hHeld => ?_)
                · trivial
                clear hK K
                try simp only [Act.put, List.setIfInBounds_toArray, List.set_cons_zero, List.set_cons_succ]
                refine stepOne 16 (o := ?oT83) ?hiT83 (by kernel_rfl) ?hwT83 (fun K hK => ?_)
                case hiT83 => (simp only [List.getElem?_toArray, List.getElem?_cons_succ, List.getElem?_cons_zero]; with_reducible rfl)
                case hwT83 => rfl
                refine wp_append_bytes (.tmp 72) (.tmp 73) rfl w9.heap.size _ _ _ _ rfl (hP6.get 0 rfl) rfl (HB0.out wn6 hB6).2.1 ?_ hP6.1 (T ++ T) rfl ?_
                · have := HLT.out; have := HTL.out; simp; omega
                rintro v16 wn7 hgr
                obtain ⟨_, _, A16, c16, hv, _, _⟩ := hgr.1.bytes.parts
                rw [HNS.out] at hv
                subst hv
                have hP7 : Pool wn7 w9.heap.size [((.slice A16 nS c16), (T ++ T)), ((.slice A11 n14 c11), (T ++ [y])), ((.slice (some ⟨g10, 0, none⟩) 1 1), [y])] := hP6.app 0 rfl hgr
                have hB7 := hB6.trans hgr.2.2.2
                clear hgr hP6 hB6
                refine hK.out _ _ ?_ (fun hHeld => ?_)
                · trivial
                clear hK K
                try simp only [Act.put, List.setIfInBounds_toArray, List.set_cons_zero, List.set_cons_succ]
                refine stepOne 17 (o := ?oT84) ?hiT84 (by kernel_rfl) ?hwT84 (fun K hK => ?_)
                case hiT84 => (simp only [List.getElem?_toArray, List.getElem?_cons_succ, List.getElem?_cons_zero]; with_reducible rfl)
                case hwT84 => rfl
                go_simp
                refine hK.out _ _ ?_ (fun hHeld => ?_)
                · trivial
                clear hK K
                try simp only [Act.put, List.setIfInBounds_toArray, List.set_cons_zero, List.set_cons_succ]
                refine takeW 18 (some 76) (oi := ?oT85) (v := ?vT85) ?hiT85 ?hdT85 (by kernel_rfl) (by kernel_rfl) (by kernel_rfl) (fun _ _ _ h => h) ?hwT85 ?hyT85 hHeld ?_
                case hiT85 => (simp only [List.getElem?_toArray, List.getElem?_cons_succ, List.getElem?_cons_zero]; with_reducible rfl)
                case hdT85 => rfl
                case hwT85 => rfl
                case hyT85 => (intro w hSw; (try dsimp only at hSw); go_simp; first | done | with_reducible rfl)
                try simp only [Act.put, List.setIfInBounds_toArray, List.set_cons_zero, List.set_cons_succ]
                refine wpAnyH_done (by kernel_rfl) ?_ _
                refine NoPanic.normal ?_
                go_wp2_with fail
                go_meet
                have hF := HFIN.out wn7 (.slice A11 n14 c11) (.slice A16 nS c16) hB7 (hP7.get 1 rfl).bytes (hP7.get 0 rfl).bytes
                exact ⟨_, rfl, rfl, rfl, Lib.hid hF.1, Lib.hid hF.2⟩
              refine stepOf 12 (o := ?oT86) ?hiT86 ?hwT86 (fun K hK => ?_) AllReadyH.nil
              case hiT86 => (simp only [List.getElem?_toArray, List.getElem?_cons_succ, List.getElem?_cons_zero]; with_reducible rfl)
              case hwT86 => rfl
              go_simp
              have hP4 := hP3.nil
              have hB4 := hB3.alloc hP3.1 (.cells #[] 5)
              obtain ⟨g12, hg⟩ : ∃ g, wn3.heap.size = g := ⟨_, rfl⟩
              obtain ⟨wn4, hwm⟩ : ∃ wm, wn3.alloc (.cells #[] 5) = wm := ⟨_, rfl⟩
              rw [hwm] at hP4 hB4 ⊢
              rw [hg] at hP4 ⊢
              clear hwm hg hP3 hB3
              refine hK.out _ _ ?_ (fun hHeld => ?_)
              · trivial
              clear hK K
              try simp only [Act.put, List.setIfInBounds_toArray, List.set_cons_zero, List.set_cons_succ]
              refine stepOne 11 (o := ?oT87) ?hiT87 (by kernel_rfl) ?hwT87 (fun K hK => ?_)
              case hiT87 => (simp only [List.getElem?_toArray, List.getElem?_cons_succ, List.getElem?_cons_zero]; with_reducible rfl)
              case hwT87 => rfl
              refine wp_append_bytes (.tmp 66) (.tmp 68) rfl w9.heap.size _ _ _ _ rfl (hP4.get 1 rfl) rfl (hP4.get 2 rfl).bytes ?_ hP4.1 (T ++ [y]) rfl ?_
              · have := HLT.out; have := HTL.out; simp; omega
              rintro v11 wn5 hgr
              obtain ⟨_, _, A11, c11, hv, _, _⟩ := hgr.1.bytes.parts
              rw [HN14.out] at hv
              subst hv
              have hP5 : Pool wn5 w9.heap.size [((.slice (some ⟨g12, 0, none⟩) 0 0), []), ((.slice A11 n14 c11), (T ++ [y])), ((.slice (some ⟨g10, 0, none⟩) 1 1), [y])] := hP4.app 1 rfl hgr
              have hB5 := hB4.trans hgr.2.2.2
              clear hgr hP4 hB4
              refine hK.out _ _ ?_ (fun hHeld => ?_)
              · trivial
              clear hK K
              try simp only [Act.put, List.setIfInBounds_toArray, List.set_cons_zero, List.set_cons_succ]
              refine stepOne 14 (o := ?oT88) ?hiT88 (by kernel_rfl) ?hwT88 (fun K hK => ?_)
              case hiT88 => (simp only [List.getElem?_toArray, List.getElem?_cons_succ, List.getElem?_cons_zero]; with_reducible rfl)
              case hwT88 => rfl
              refine wp_append_bytes (.tmp 70) (.tmp 71) rfl w9.heap.size _ _ _ _ rfl (hP5.get 0 rfl) rfl (HB0.out wn5 hB5).2.1 ?_ hP5.1 T rfl ?_
              · have := HLT.out; have := HTL.out; simp; omega
              rintro v14 wn6 hgr
              have hP6 : Pool wn6 w9.heap.size [(v14, T), ((.slice A11 n14 c11), (T ++ [y])), ((.slice (some ⟨g10, 0, none⟩) 1 1), [y])] := hP5.app 0 rfl hgr
              have hB6 := hB5.trans hgr.2.2.2
              clear hgr hP5 hB5
              refine hK.out _ _ ?_ (fun hHeld => ?_)
              · trivial
              clear hK K
              try simp only [Act.put, List.setIfInBounds_toArray, List.set_cons_zero, List.set_cons_succ]
              refine stepOne 16 (o := ?oT89) ?hiT89 (by kernel_rfl) ?hwT89 (fun K hK => ?_)
              case hiT89 => (simp only [List.getElem?_toArray, List.getElem?_cons_succ, List.getElem?_cons_zero]; with_reducible rfl)
              case hwT89 => rfl
              refine wp_append_bytes (.tmp 72) (.tmp 73) rfl w9.heap.size _ _ _ _ rfl (hP6.get 0 rfl) rfl (HB0.out wn6 hB6).2.1 ?_ hP6.1 (T ++ T) rfl ?_
              · have := HLT.out; have := HTL.out; simp; omega
              rintro v16 wn7 hgr
              obtain ⟨_, _, A16, c16, hv, _, _⟩ := hgr.1.bytes.parts
              rw [HNS.out] at hv
              subst hv
              have hP7 : Pool wn7 w9.heap.size [((.slice A16 nS c16), (T ++ T)), ((.slice A11 n14 c11), (T ++ [y])), ((.slice (some ⟨g10, 0, none⟩) 1 1), [y])] := hP6.app 0 rfl hgr
              have hB7 := hB6.trans hgr.2.2.2
              clear hgr hP6 hB6
              refine hK.out _ _ ?_ (fun hHeld => ?_)
              · trivial
              clear hK K
              try simp only [Act.put, List.setIfInBounds_toArray, List.set_cons_zero, List.set_cons_succ]
              refine stepOne 17 (o := ?oT90) ?hiT90 (by kernel_rfl) ?hwT90 (fun K hK => ?_)
              case hiT90 => (simp only [List.getElem?_toArray, List.getElem?_cons_succ, List.getElem?_cons_zero]; with_reducible rfl)
              case hwT90 => rfl
              go_simp
              refine hK.out _ _ ?_ (fun hHeld => ?_)
              · trivial
              clear hK K
              try simp only [Act.put, List.setIfInBounds_toArray, List.set_cons_zero, List.set_cons_succ]
              refine takeW 18 (some 76) (oi := ?oT91) (v := ?vT91) ?hiT91 ?hdT91 (by kernel_rfl) (by kernel_rfl) (by kernel_rfl) (fun _ _ _ h => h) ?hwT91 ?hyT91 hHeld ?_
              case hiT91 => (simp only [List.getElem?_toArray, List.getElem?_cons_succ, List.getElem?_cons_zero]; with_reducible rfl)
              case hdT91 => rfl
              case hwT91 => rfl
              case hyT91 => (intro w hSw; (try dsimp only at hSw); go_simp; first | done | with_reducible rfl)
              try simp only [Act.put, List.setIfInBounds_toArray, List.set_cons_zero, List.set_cons_succ]
              refine wpAnyH_done (by kernel_rfl) ?_ _
              refine NoPanic.normal ?_
              go_wp2_with fail
              go_meet
              have hF := HFIN.out wn7 (.slice A11 n14 c11) (.slice A16 nS c16) hB7 (hP7.get 1 rfl).bytes (hP7.get 0 rfl).bytes
              exact ⟨_, rfl, rfl, rfl, Lib.hid hF.1, Lib.hid hF.2⟩
            refine stepOf 12 (o := ?oT92) ?hiT92 ?hwT92 (fun K hK => ?_) AllReadyH.nil
            case hiT92 => (simp only [List.getElem?_toArray, List.getElem?_cons_succ, List.getElem?_cons_zero]; with_reducible rfl)
            case hwT92 => rfl
            go_simp
            have hP3 := hP2.nil
            have hB3 := hB2.alloc hP2.1 (.cells #[] 5)
            obtain ⟨g12, hg⟩ : ∃ g, wn2.heap.size = g := ⟨_, rfl⟩
            obtain ⟨wn3, hwm⟩ : ∃ wm, wn2.alloc (.cells #[] 5) = wm := ⟨_, rfl⟩
            rw [hwm] at hP3 hB3 ⊢
            rw [hg] at hP3 ⊢
            clear hwm hg hP2 hB2
            refine hK.out _ _ ?_ (fun hHeld => ?_)
            · trivial
            clear hK K
            try simp only [Act.put, List.setIfInBounds_toArray, List.set_cons_zero, List.set_cons_succ]
            refine stepOne 8 (o := ?oT93) ?hiT93 (by kernel_rfl) ?hwT93 (fun K hK => ?_)
            case hiT93 => (simp only [List.getElem?_toArray, List.getElem?_cons_succ, List.getElem?_cons_zero]; with_reducible rfl)
            case hwT93 => rfl
            refine wp_append_bytes (.tmp 64) (.tmp 65) rfl w9.heap.size _ _ _ _ rfl (hP3.get 1 rfl) rfl (HB0.out wn3 hB3).2.1 ?_ hP3.1 T rfl ?_
            · have := HLT.out; have := HTL.out; simp; omega
            rintro v8 wn4 hgr
            have hP4 : Pool wn4 w9.heap.size [((.slice (some ⟨g12, 0, none⟩) 0 0), []), (v8, T), ((.slice (some ⟨g10, 0, none⟩) 1 1), [y])] := hP3.app 1 rfl hgr
            have hB4 := hB3.trans hgr.2.2.2
            clear hgr hP3 hB3
            refine hK.out _ _ ?_ (fun hHeld => ?_)
            · trivial
            clear hK K
            try simp only [Act.put, List.setIfInBounds_toArray, List.set_cons_zero, List.set_cons_succ]
            refine stepOne 11 (o := ?oT94) ?hiT94 (by kernel_rfl) ?hwT94 (fun K hK => ?_)
            case hiT94 => (simp only [List.getElem?_toArray, List.getElem?_cons_succ, List.getElem?_cons_zero]; with_reducible rfl)
            case hwT94 => rfl
            refine wp_append_bytes (.tmp 66) (.tmp 68) rfl w9.heap.size _ _ _ _ rfl (hP4.get 1 rfl) rfl (hP4.get 2 rfl).bytes ?_ hP4.1 (T ++ [y]) rfl ?_
            · have := HLT.out; have := HTL.out; simp; omega
            rintro v11 wn5 hgr
            obtain ⟨_, _, A11, c11, hv, _, _⟩ := hgr.1.bytes.parts
            rw [HN14.out] at hv
            subst hv
            have hP5 : Pool wn5 w9.heap.size [((.slice (some ⟨g12, 0, none⟩) 0 0), []), ((.slice A11 n14 c11), (T ++ [y])), ((.slice (some ⟨g10, 0, none⟩) 1 1), [y])] := hP4.app 1 rfl hgr
            have hB5 := hB4.trans hgr.2.2.2
            clear hgr hP4 hB4
            refine hK.out _ _ ?_ (fun hHeld => ?_)
            · trivial
            clear hK K
            try simp only [Act.put, List.setIfInBounds_toArray, List.set_cons_zero, List.set_cons_succ]
            refine stepOne 14 (o := ?oT95) ?hiT95 (by kernel_rfl) ?hwT95 (fun K hK => ?_)
            case hiT95 => (simp only [List.getElem?_toArray, List.getElem?_cons_succ, List.getElem?_cons_zero]; with_reducible rfl)
            case hwT95 => rfl
            refine wp_append_bytes (.tmp 70) (.tmp 71) rfl w9.heap.size _ _ _ _ rfl (hP5.get 0 rfl) rfl (HB0.out wn5 hB5).2.1 ?_ hP5.1 T rfl ?_
            · have := HLT.out; have := HTL.out; simp; omega
            rintro v14 wn6 hgr
            have hP6 : Pool wn6 w9.heap.size [(v14, T), ((.slice A11 n14 c11), (T ++ [y])), ((.slice (some ⟨g10, 0, none⟩) 1 1), [y])] := hP5.app 0 rfl hgr
            have hB6 := hB5.trans hgr.2.2.2
            clear hgr hP5 hB5
            refine hK.out _ _ ?_ (fun hHeld => ?_)
            · trivial
            clear hK K
            try simp only [Act.put, List.setIfInBounds_toArray, List.set_cons_zero, List.set_cons_succ]
            refine stepOne 16 (o := ?oT96) ?hiT96 (by kernel_rfl) ?hwT96 (fun K hK => ?_)
            case hiT96 => (simp only [List.getElem?_toArray, List.getElem?_cons_succ, List.getElem?_cons_zero]; with_reducible rfl)
            case hwT96 => rfl
            refine wp_append_bytes (.tmp 72) (.tmp 73) rfl w9.heap.size _ _ _ _ rfl (hP6.get 0 rfl) rfl (HB0.out wn6 hB6).2.1 ?_ hP6.1 (T ++ T) rfl ?_
            · have := HLT.out; have := HTL.out; simp; omega
            rintro v16 wn7 hgr
            obtain ⟨_, _, A16, c16, hv, _, _⟩ := hgr.1.bytes.parts
            rw [HNS.out] at hv
            subst hv
            have hP7 : Pool wn7 w9.heap.size [((.slice A16 nS c16), (T ++ T)), ((.slice A11 n14 c11), (T ++ [y])), ((.slice (some ⟨g10, 0, none⟩) 1 1), [y])] := hP6.app 0 rfl hgr
            have hB7 := hB6.trans hgr.2.2.2
            clear hgr hP6 hB6
            refine hK.out _ _ ?_ (fun hHeld => ?_)
            · trivial
            clear hK K
            try simp only [Act.put, List.setIfInBounds_toArray, List.set_cons_zero, List.set_cons_succ]
            refine stepOne 17 (o := ?oT97) ?hiT97 (by kernel_rfl) ?hwT97 (fun K hK => ?_)
            case hiT97 => (simp only [List.getElem?_toArray, List.getElem?_cons_succ, List.getElem?_cons_zero]; with_reducible rfl)
            case hwT97 => rfl
            go_simp
            refine hK.out _ _ ?_ (fun hHeld => ?_)
            · trivial
            clear hK K
            try simp only [Act.put, List.setIfInBounds_toArray, List.set_cons_zero, List.set_cons_succ]
            refine takeW 18 (some 76) (oi := ?oT98) (v := ?vT98) ?hiT98 ?hdT98 (by kernel_rfl) (by kernel_rfl) (by kernel_rfl) (fun _ _ _ h => h) ?hwT98 ?hyT98 hHeld ?_
            case hiT98 => (simp only [List.getElem?_toArray, List.getElem?_cons_succ, List.getElem?_cons_zero]; with_reducible rfl)
            case hdT98 => rfl
            case hwT98 => rfl
            case hyT98 => (intro w hSw; (try dsimp only at hSw); go_simp; first | done | with_reducible rfl)
            try simp only [Act.put, List.setIfInBounds_toArray, List.set_cons_zero, List.set_cons_succ]
            refine wpAnyH_done (by kernel_rfl) ?_ _
            refine NoPanic.normal ?_
            go_wp2_with fail
            go_meet
            have hF := HFIN.out wn7 (.slice A11 n14 c11) (.slice A16 nS c16) hB7 (hP7.get 1 rfl).bytes (hP7.get 0 rfl).bytes
            exact ⟨_, rfl, rfl, rfl, Lib.hid hF.1, Lib.hid hF.2⟩
          refine stepOf 12 (o := ?oT99) ?hiT99 ?hwT99 (fun K hK => ?_) AllReadyH.nil
          case hiT99 => (simp only [List.getElem?_toArray, List.getElem?_cons_succ, List.getElem?_cons_zero]; with_reducible rfl)
          case hwT99 => rfl
          go_simp
          have hP2 := hP1.nil
          have hB2 := hB1.alloc hP1.1 (.cells #[] 5)
          obtain ⟨g12, hg⟩ : ∃ g, wn1.heap.size = g := ⟨_, rfl⟩
          obtain ⟨wn2, hwm⟩ : ∃ wm, wn1.alloc (.cells #[] 5) = wm := ⟨_, rfl⟩
          rw [hwm] at hP2 hB2 ⊢
          rw [hg] at hP2 ⊢
          clear hwm hg hP1 hB1
          refine hK.out _ _ ?_ (fun hHeld => ?_)
          · trivial
          clear hK K
          try simp only [Act.put, List.setIfInBounds_toArray, List.set_cons_zero, List.set_cons_succ]
          refine stepOne 6 (o := ?oT100) ?hiT100 (by kernel_rfl) ?hwT100 (fun K hK => ?_)
          case hiT100 => (simp only [List.getElem?_toArray, List.getElem?_cons_succ, List.getElem?_cons_zero]; with_reducible rfl)
          case hwT100 => rfl
          go_simp
          have hP3 := hP2.nil
          have hB3 := hB2.alloc hP2.1 (.cells #[] 5)
          obtain ⟨g6, hg⟩ : ∃ g, wn2.heap.size = g := ⟨_, rfl⟩
          obtain ⟨wn3, hwm⟩ : ∃ wm, wn2.alloc (.cells #[] 5) = wm := ⟨_, rfl⟩
          rw [hwm] at hP3 hB3 ⊢
          rw [hg] at hP3 ⊢
          clear hwm hg hP2 hB2
          refine hK.out _ _ ?_ (fun hHeld => ?_)
          · trivial
          clear hK K
          try simp only [Act.put, List.setIfInBounds_toArray, List.set_cons_zero, List.set_cons_succ]
          refine stepOne 8 (o := ?oT101) ?hiT101 (by kernel_rfl) ?hwT101 (fun K hK => ?_)
          case hiT101 => (simp only [List.getElem?_toArray, List.getElem?_cons_succ, List.getElem?_cons_zero]; with_reducible rfl)
          case hwT101 => rfl
          refine wp_append_bytes (.tmp 64) (.tmp 65) rfl w9.heap.size _ _ _ _ rfl (hP3.get 0 rfl) rfl (HB0.out wn3 hB3).2.1 ?_ hP3.1 T rfl ?_
          · have := HLT.out; have := HTL.out; simp; omega
          rintro v8 wn4 hgr
          have hP4 : Pool wn4 w9.heap.size [(v8, T), ((.slice (some ⟨g12, 0, none⟩) 0 0), []), ((.slice (some ⟨g10, 0, none⟩) 1 1), [y])] := hP3.app 0 rfl hgr
          have hB4 := hB3.trans hgr.2.2.2
          clear hgr hP3 hB3
          refine hK.out _ _ ?_ (fun hHeld => ?_)
          · trivial
          clear hK K
          try simp only [Act.put, List.setIfInBounds_toArray, List.set_cons_zero, List.set_cons_succ]
          refine stepOne 11 (o := ?oT102) ?hiT102 (by kernel_rfl) ?hwT102 (fun K hK => ?_)
          case hiT102 => (simp only [List.getElem?_toArray, List.getElem?_cons_succ, List.getElem?_cons_zero]; with_reducible rfl)
          case hwT102 => rfl
          refine wp_append_bytes (.tmp 66) (.tmp 68) rfl w9.heap.size _ _ _ _ rfl (hP4.get 0 rfl) rfl (hP4.get 2 rfl).bytes ?_ hP4.1 (T ++ [y]) rfl ?_
          · have := HLT.out; have := HTL.out; simp; omega
          rintro v11 wn5 hgr
          obtain ⟨_, _, A11, c11, hv, _, _⟩ := hgr.1.bytes.parts
          rw [HN14.out] at hv
          subst hv
          have hP5 : Pool wn5 w9.heap.size [((.slice A11 n14 c11), (T ++ [y])), ((.slice (some ⟨g12, 0, none⟩) 0 0), []), ((.slice (some ⟨g10, 0, none⟩) 1 1), [y])] := hP4.app 0 rfl hgr
          have hB5 := hB4.trans hgr.2.2.2
          clear hgr hP4 hB4
          refine hK.out _ _ ?_ (fun hHeld => ?_)
          · trivial
          clear hK K
          try simp only [Act.put, List.setIfInBounds_toArray, List.set_cons_zero, List.set_cons_succ]
          refine stepOne 14 (o := ?oT103) ?hiT103 (by kernel_rfl) ?hwT103 (fun K hK => ?_)
          case hiT103 => (simp only [List.getElem?_toArray, List.getElem?_cons_succ, List.getElem?_cons_zero]; with_reducible rfl)
          case hwT103 => rfl
          refine wp_append_bytes (.tmp 70) (.tmp 71) rfl w9.heap.size _ _ _ _ rfl (hP5.get 1 rfl) rfl (HB0.out wn5 hB5).2.1 ?_ hP5.1 T rfl ?_
          · have := HLT.out; have := HTL.out; simp; omega
          rintro v14 wn6 hgr
          have hP6 : Pool wn6 w9.heap.size [((.slice A11 n14 c11), (T ++ [y])), (v14, T), ((.slice (some ⟨g10, 0, none⟩) 1 1), [y])] := hP5.app 1 rfl hgr
          have hB6 := hB5.trans hgr.2.2.2
          clear hgr hP5 hB5
          refine hK.out _ _ ?_ (fun hHeld => ?_)
          · trivial
          clear hK K
          try simp only [Act.put, List.setIfInBounds_toArray, List.set_cons_zero, List.set_cons_succ]
          refine stepOne 16 (o := ?oT104) ?hiT104 (by kernel_rfl) ?hwT104 (fun K hK => ?_)
          case hiT104 => (simp only [List.getElem?_toArray, List.getElem?_cons_succ, List.getElem?_cons_zero]; with_reducible rfl)
          case hwT104 => rfl
          refine wp_append_bytes (.tmp 72) (.tmp 73) rfl w9.heap.size _ _ _ _ rfl (hP6.get 1 rfl) rfl (HB0.out wn6 hB6).2.1 ?_ hP6.1 (T ++ T) rfl ?_
          · have := HLT.out; have := HTL.out; simp; omega
          rintro v16 wn7 hgr
          obtain ⟨_, _, A16, c16, hv, _, _⟩ := hgr.1.bytes.parts
          rw [HNS.out] at hv
          subst hv
          have hP7 : Pool wn7 w9.heap.size [((.slice A11 n14 c11), (T ++ [y])), ((.slice A16 nS c16), (T ++ T)), ((.slice (some ⟨g10, 0, none⟩) 1 1), [y])] := hP6.app 1 rfl hgr
          have hB7 := hB6.trans hgr.2.2.2
          clear hgr hP6 hB6
          refine hK.out _ _ ?_ (fun hHeld => ?_)
          · trivial
          clear hK K
          try simp only [Act.put, List.setIfInBounds_toArray, List.set_cons_zero, List.set_cons_succ]
          refine stepOne 17 (o := ?oT105) ?hiT105 (by kernel_rfl) ?hwT105 (fun K hK => ?_)
          case hiT105 => (simp only [List.getElem?_toArray, List.getElem?_cons_succ, List.getElem?_cons_zero]; with_reducible rfl)
          case hwT105 => rfl
          go_simp
          refine hK.out _ _ ?_ (fun hHeld => ?_)
          · trivial
          clear hK K
          try simp only [Act.put, List.setIfInBounds_toArray, List.set_cons_zero, List.set_cons_succ]
          refine takeW 18 (some 76) (oi := ?oT106) (v := ?vT106) ?hiT106 ?hdT106 (by kernel_rfl) (by kernel_rfl) (by kernel_rfl) (fun _ _ _ h => h) ?hwT106 ?hyT106 hHeld ?_
          case hiT106 => (simp only [List.getElem?_toArray, List.getElem?_cons_succ, List.getElem?_cons_zero]; with_reducible rfl)
          case hdT106 => rfl
          case hwT106 => rfl
          case hyT106 => (intro w hSw; (try dsimp only at hSw); go_simp; first | done | with_reducible rfl)
          try simp only [Act.put, List.setIfInBounds_toArray, List.set_cons_zero, List.set_cons_succ]
          refine wpAnyH_done (by kernel_rfl) ?_ _
          refine NoPanic.normal ?_
          go_wp2_with fail
          go_meet
          have hF := HFIN.out wn7 (.slice A11 n14 c11) (.slice A16 nS c16) hB7 (hP7.get 0 rfl).bytes (hP7.get 1 rfl).bytes
          exact ⟨_, rfl, rfl, rfl, Lib.hid hF.1, Lib.hid hF.2⟩
        refine stepOf 12 (o := ?oT107) ?hiT107 ?hwT107 (fun K hK => ?_) AllReadyH.nil
        case hiT107 => (simp only [List.getElem?_toArray, List.getElem?_cons_succ, List.getElem?_cons_zero]; with_reducible rfl)
        case hwT107 => rfl
        go_simp
        have hP1 := hP0.nil
        have hB1 := hB0.alloc hP0.1 (.cells #[] 5)
        obtain ⟨g12, hg⟩ : ∃ g, wn0.heap.size = g := ⟨_, rfl⟩
        obtain ⟨wn1, hwm⟩ : ∃ wm, wn0.alloc (.cells #[] 5) = wm := ⟨_, rfl⟩
        rw [hwm] at hP1 hB1 ⊢
        rw [hg] at hP1 ⊢
        clear hwm hg hP0 hB0
        refine hK.out _ _ ?_ (fun hHeld => ?_)
        · trivial
        clear hK K
        try simp only [Act.put, List.setIfInBounds_toArray, List.set_cons_zero, List.set_cons_succ]
        refine wpAnyH_ready (rs := [6, 10]) (by kernel_rfl) (by simp) ?_
        refine stepOf 6 (o := ?oT108) ?hiT108 ?hwT108 (fun K hK => ?_) ?_
        case hiT108 => (simp only [List.getElem?_toArray, List.getElem?_cons_succ, List.getElem?_cons_zero]; with_reducible rfl)
        case hwT108 => rfl
        · skip
          go_simp
          have hP2 := hP1.nil
          have hB2 := hB1.alloc hP1.1 (.cells #[] 5)
          obtain ⟨g6, hg⟩ : ∃ g, wn1.heap.size = g := ⟨_, rfl⟩
          obtain ⟨wn2, hwm⟩ : ∃ wm, wn1.alloc (.cells #[] 5) = wm := ⟨_, rfl⟩
          rw [hwm] at hP2 hB2 ⊢
          rw [hg] at hP2 ⊢
          clear hwm hg hP1 hB1
          refine hK.out _ _ ?_ (fun hHeld => ?_)
          · trivial
          clear hK K
          try simp only [Act.put, List.setIfInBounds_toArray, List.set_cons_zero, List.set_cons_succ]
          refine wpAnyH_ready (rs := [8, 10]) (by kernel_rfl) (by simp) ?_
          refine stepOf 8 (o := ?oT109) ?hiT109 ?hwT109 (fun K hK => ?_) ?_
          case hiT109 => (simp only [List.getElem?_toArray, List.getElem?_cons_succ, List.getElem?_cons_zero]; with_reducible rfl)
          case hwT109 => rfl
          · skip
            refine wp_append_bytes (.tmp 64) (.tmp 65) rfl w9.heap.size _ _ _ _ rfl (hP2.get 0 rfl) rfl (HB0.out wn2 hB2).2.1 ?_ hP2.1 T rfl ?_
            · have := HLT.out; have := HTL.out; simp; omega
            rintro v8 wn3 hgr
            have hP3 : Pool wn3 w9.heap.size [(v8, T), ((.slice (some ⟨g12, 0, none⟩) 0 0), [])] := hP2.app 0 rfl hgr
            have hB3 := hB2.trans hgr.2.2.2
            clear hgr hP2 hB2
            refine hK.out _ _ ?_ (fun hHeld => ?_)
            · trivial
            clear hK K
            try simp only [Act.put, List.setIfInBounds_toArray, List.set_cons_zero, List.set_cons_succ]
            refine stepOne 10 (o := ?oT110) ?hiT110 (by kernel_rfl) ?hwT110 (fun K hK => ?_)
            case hiT110 => (simp only [List.getElem?_toArray, List.getElem?_cons_succ, List.getElem?_cons_zero]; with_reducible rfl)
            case hwT110 => rfl
            go_simp
            have hP4 := hP3.one y hy
            have hB4 := hB3.alloc hP3.1 (.cells #[.int .u8 (y : Int)] 5)
            obtain ⟨g10, hg⟩ : ∃ g, wn3.heap.size = g := ⟨_, rfl⟩
            obtain ⟨wn4, hwm⟩ : ∃ wm, wn3.alloc (.cells #[.int .u8 (y : Int)] 5) = wm := ⟨_, rfl⟩
            rw [hwm] at hP4 hB4 ⊢
            rw [hg] at hP4 ⊢
            clear hwm hg hP3 hB3
            refine hK.out _ _ ?_ (fun hHeld => ?_)
            · trivial
            clear hK K
            try simp only [Act.put, List.setIfInBounds_toArray, List.set_cons_zero, List.set_cons_succ]
            refine stepOne 11 (o := ?oT111) ?hiT111 (by kernel_rfl) ?hwT111 (fun K hK => ?_)
            case hiT111 => (simp only [List.getElem?_toArray, List.getElem?_cons_succ, List.getElem?_cons_zero]; with_reducible rfl)
            case hwT111 => rfl
            refine wp_append_bytes (.tmp 66) (.tmp 68) rfl w9.heap.size _ _ _ _ rfl (hP4.get 1 rfl) rfl (hP4.get 0 rfl).bytes ?_ hP4.1 (T ++ [y]) rfl ?_
            · have := HLT.out; have := HTL.out; simp; omega
            rintro v11 wn5 hgr
            obtain ⟨_, _, A11, c11, hv, _, _⟩ := hgr.1.bytes.parts
            rw [HN14.out] at hv
            subst hv
            have hP5 : Pool wn5 w9.heap.size [((.slice (some ⟨g10, 0, none⟩) 1 1), [y]), ((.slice A11 n14 c11), (T ++ [y])), ((.slice (some ⟨g12, 0, none⟩) 0 0), [])] := hP4.app 1 rfl hgr
            have hB5 := hB4.trans hgr.2.2.2
            clear hgr hP4 hB4
            refine hK.out _ _ ?_ (fun hHeld => ?_)
            · trivial
            clear hK K
            try simp only [Act.put, List.setIfInBounds_toArray, List.set_cons_zero, List.set_cons_succ]
            refine stepOne 14 (o := ?oT112) ?hiT112 (by kernel_rfl) ?hwT112 (fun K hK => ?_)
            case hiT112 => (simp only [List.getElem?_toArray, List.getElem?_cons_succ, List.getElem?_cons_zero]; with_reducible rfl)
            case hwT112 => rfl
            refine wp_append_bytes (.tmp 70) (.tmp 71) rfl w9.heap.size _ _ _ _ rfl (hP5.get 2 rfl) rfl (HB0.out wn5 hB5).2.1 ?_ hP5.1 T rfl ?_
            · have := HLT.out; have := HTL.out; simp; omega
            rintro v14 wn6 hgr
            have hP6 : Pool wn6 w9.heap.size [((.slice (some ⟨g10, 0, none⟩) 1 1), [y]), ((.slice A11 n14 c11), (T ++ [y])), (v14, T)] := hP5.app 2 rfl hgr
            have hB6 := hB5.trans hgr.2.2.2
            clear hgr hP5 hB5
            refine hK.out _ _ ?_ (fun hHeld => ?_)
            · trivial
            clear hK K
            try simp only [Act.put, List.setIfInBounds_toArray, List.set_cons_zero, List.set_cons_succ]
            refine stepOne 16 (o := ?oT113) ?hiT113 (by kernel_rfl) ?hwT113 (fun K hK => ?_)
            case hiT113 => (simp only [List.getElem?_toArray, List.getElem?_cons_succ, List.getElem?_cons_zero]; with_reducible rfl)
            case hwT113 => rfl
            refine wp_append_bytes (.tmp 72) (.tmp 73) rfl w9.heap.size _ _ _ _ rfl (hP6.get 2 rfl) rfl (HB0.out wn6 hB6).2.1 ?_ hP6.1 (T ++ T) rfl ?_
            · have := HLT.out; have := HTL.out; simp; omega
            rintro v16 wn7 hgr
            obtain ⟨_, _, A16, c16, hv, _, _⟩ := hgr.1.bytes.parts
            rw [HNS.out] at hv
            subst hv
            have hP7 : Pool wn7 w9.heap.size [((.slice (some ⟨g10, 0, none⟩) 1 1), [y]), ((.slice A11 n14 c11), (T ++ [y])), ((.slice A16 nS c16), (T ++ T))] := hP6.app 2 rfl hgr
            have hB7 := hB6.trans hgr.2.2.2
            clear hgr hP6 hB6
            refine hK.out _ _ ?_ (fun hHeld => ?_)
            · trivial
            clear hK K
            try simp only [Act.put, List.setIfInBounds_toArray, List.set_cons_zero, List.set_cons_succ]
            refine stepOne 17 (o := ?oT114) ?hiT114 (by kernel_rfl) ?hwT114 (fun K hK => ?_)
            case hiT114 => (simp only [List.getElem?_toArray, List.getElem?_cons_succ, List.getElem?_cons_zero]; with_reducible rfl)
            case hwT114 => rfl
            go_simp
            refine hK.out _ _ ?_ (fun hHeld => ?_)
            · trivial
            clear hK K
            try simp only [Act.put, List.setIfInBounds_toArray, List.set_cons_zero, List.set_cons_succ]
            refine takeW 18 (some 76) (oi := ?oT115) (v := ?vT115) ?hiT115 ?hdT115 (by kernel_rfl) (by kernel_rfl) (by kernel_rfl) (fun _ _ _ h => h) ?hwT115 ?hyT115 hHeld ?_
            case hiT115 => (simp only [List.getElem?_toArray, List.getElem?_cons_succ, List.getElem?_cons_zero]; with_reducible rfl)
            case hdT115 => rfl
            case hwT115 => rfl
            case hyT115 => (intro w hSw; (try dsimp only at hSw); go_simp; first | done | with_reducible rfl)
            try simp only [Act.put, List.setIfInBounds_toArray, List.set_cons_zero, List.set_cons_succ]
            refine wpAnyH_done (by kernel_rfl) ?_ _
            refine NoPanic.normal ?_
            go_wp2_with fail
            go_meet
            have hF := HFIN.out wn7 (.slice A11 n14 c11) (.slice A16 nS c16) hB7 (hP7.get 1 rfl).bytes (hP7.get 2 rfl).bytes
            exact ⟨_, rfl, rfl, rfl, Lib.hid hF.1, Lib.hid hF.2⟩
          refine stepOf 10 (o := ?oT116) ?hiT116 ?hwT116 (fun K hK => ?_) AllReadyH.nil
          case hiT116 => (simp only [List.getElem?_toArray, List.getElem?_cons_succ, List.getElem?_cons_zero]; with_reducible rfl)
          case hwT116 => rfl
          go_simp
          have hP3 := hP2.one y hy
          have hB3 := hB2.alloc hP2.1 (.cells #[.int .u8 (y : Int)] 5)
          obtain ⟨g10, hg⟩ : ∃ g, wn2.heap.size = g := ⟨_, rfl⟩
          obtain ⟨wn3, hwm⟩ : ∃ wm, wn2.alloc (.cells #[.int .u8 (y : Int)] 5) = wm := ⟨_, rfl⟩
          rw [hwm] at hP3 hB3 ⊢
          rw [hg] at hP3 ⊢
          clear hwm hg hP2 hB2
          refine hK.out _ _ ?_ (fun hHeld => ?_)
          · trivial
          clear hK K
          try simp only [Act.put, List.setIfInBounds_toArray, List.set_cons_zero, List.set_cons_succ]
          refine stepOne 8 (o := ?oT117) ?hiT117 (by kernel_rfl) ?hwT117 (fun K hK => ?_)
          case hiT117 => (simp only [List.getElem?_toArray, List.getElem?_cons_succ, List.getElem?_cons_zero]; with_reducible rfl)
          case hwT117 => rfl
          refine wp_append_bytes (.tmp 64) (.tmp 65) rfl w9.heap.size _ _ _ _ rfl (hP3.get 1 rfl) rfl (HB0.out wn3 hB3).2.1 ?_ hP3.1 T rfl ?_
          · have := HLT.out; have := HTL.out; simp; omega
          rintro v8 wn4 hgr
          have hP4 : Pool wn4 w9.heap.size [((.slice (some ⟨g10, 0, none⟩) 1 1), [y]), (v8, T), ((.slice (some ⟨g12, 0, none⟩) 0 0), [])] := hP3.app 1 rfl hgr
          have hB4 := hB3.trans hgr.2.2.2
          clear hgr hP3 hB3
          refine hK.out _ _ ?_ (fun hHeld => ?_)
          · trivial
          clear hK K
          try simp only [Act.put, List.setIfInBounds_toArray, List.set_cons_zero, List.set_cons_succ]
          refine stepOne 11 (o := ?oT118) ?hiT118 (by kernel_rfl) ?hwT118 (fun K hK => ?_)
          case hiT118 => (simp only [List.getElem?_toArray, List.getElem?_cons_succ, List.getElem?_cons_zero]; with_reducible rfl)
          case hwT118 => rfl
          refine wp_append_bytes (.tmp 66) (.tmp 68) rfl w9.heap.size _ _ _ _ rfl (hP4.get 1 rfl) rfl (hP4.get 0 rfl).bytes ?_ hP4.1 (T ++ [y]) rfl ?_
          · have := HLT.out; have := HTL.out; simp; omega
          rintro v11 wn5 hgr
          obtain ⟨_, _, A11, c11, hv, _, _⟩ := hgr.1.bytes.parts
          rw [HN14.out] at hv
          subst hv
          have hP5 : Pool wn5 w9.heap.size [((.slice (some ⟨g10, 0, none⟩) 1 1), [y]), ((.slice A11 n14 c11), (T ++ [y])), ((.slice (some ⟨g12, 0, none⟩) 0 0), [])] := hP4.app 1 rfl hgr
          have hB5 := hB4.trans hgr.2.2.2
          clear hgr hP4 hB4
          refine hK.out _ _ ?_ (fun hHeld => ?_)
          · trivial
          clear hK K
          try simp only [Act.put, List.setIfInBounds_toArray, List.set_cons_zero, List.set_cons_succ]
          refine stepOne 14 (o := ?oT119) ?hiT119 (by kernel_rfl) ?hwT119 (fun K hK => ?_)
          case hiT119 => (simp only [List.getElem?_toArray, List.getElem?_cons_succ, List.getElem?_cons_zero]; with_reducible rfl)
          case hwT119 => rfl
          refine wp_append_bytes (.tmp 70) (.tmp 71) rfl w9.heap.size _ _ _ _ rfl (hP5.get 2 rfl) rfl (HB0.out wn5 hB5).2.1 ?_ hP5.1 T rfl ?_
          · have := HLT.out; have := HTL.out; simp; omega
          rintro v14 wn6 hgr
          have hP6 : Pool wn6 w9.heap.size [((.slice (some ⟨g10, 0, none⟩) 1 1), [y]), ((.slice A11 n14 c11), (T ++ [y])), (v14, T)] := hP5.app 2 rfl hgr
          have hB6 := hB5.trans hgr.2.2.2
          clear hgr hP5 hB5
          refine hK.out _ _ ?_ (fun hHeld => ?_)
          · trivial
          clear hK K
          try simp only [Act.put, List.setIfInBounds_toArray, List.set_cons_zero, List.set_cons_succ]
          refine stepOne 16 (o := ?oT120) ?hiT120 (by kernel_rfl) ?hwT120 (fun K hK => ?_)
          case hiT120 => (simp only [List.getElem?_toArray, List.getElem?_cons_succ, List.getElem?_cons_zero]; with_reducible rfl)
          case hwT120 => rfl
          refine wp_append_bytes (.tmp 72) (.tmp 73) rfl w9.heap.size _ _ _ _ rfl (hP6.get 2 rfl) rfl (HB0.out wn6 hB6).2.1 ?_ hP6.1 (T ++ T) rfl ?_
          · have := HLT.out; have := HTL.out; simp; omega
          rintro v16 wn7 hgr
          obtain ⟨_, _, A16, c16, hv, _, _⟩ := hgr.1.bytes.parts
          rw [HNS.out] at hv
          subst hv
          have hP7 : Pool wn7 w9.heap.size [((.slice (some ⟨g10, 0, none⟩) 1 1), [y]), ((.slice A11 n14 c11), (T ++ [y])), ((.slice A16 nS c16), (T ++ T))] := hP6.app 2 rfl hgr
          have hB7 := hB6.trans hgr.2.2.2
          clear hgr hP6 hB6
          refine hK.out _ _ ?_ (fun hHeld => ?_)
          · trivial
          clear hK K
          try simp only [Act.put, List.setIfInBounds_toArray, List.set_cons_zero, List.set_cons_succ]
          refine stepOne 17 (o := ?oT121) ?hiT121 (by kernel_rfl) ?hwT121 (fun K hK => ?_)
          case hiT121 => (simp only [List.getElem?_toArray, List.getElem?_cons_succ, List.getElem?_cons_zero]; with_reducible rfl)
          case hwT121 => rfl
          go_simp
          refine hK.out _ _ ?_ (fun hHeld => ?_)
          · trivial
          clear hK K
          try simp only [Act.put, List.setIfInBounds_toArray, List.set_cons_zero, List.set_cons_succ]
          refine takeW 18 (some 76) (oi := ?oT122) (v := ?vT122) ?hiT122 ?hdT122 (by kernel_rfl) (by kernel_rfl) (by kernel_rfl) (fun _ _ _ h => h) ?hwT122 ?hyT122 hHeld ?_
          case hiT122 => (simp only [List.getElem?_toArray, List.getElem?_cons_succ, List.getElem?_cons_zero]; with_reducible rfl)
          case hdT122 => rfl
          case hwT122 => rfl
          case hyT122 => (intro w hSw; (try dsimp only at hSw); go_simp; first | done | with_reducible rfl)
          try simp only [Act.put, List.setIfInBounds_toArray, List.set_cons_zero, List.set_cons_succ]
          refine wpAnyH_done (by kernel_rfl) ?_ _
          refine NoPanic.normal ?_
          go_wp2_with fail
          go_meet
          have hF := HFIN.out wn7 (.slice A11 n14 c11) (.slice A16 nS c16) hB7 (hP7.get 1 rfl).bytes (hP7.get 2 rfl).bytes
          exact ⟨_, rfl, rfl, rfl, Lib.hid hF.1, Lib.hid hF.2⟩
        refine stepOf 10 (o := ?oT123) ?hiT123 ?hwT123 (fun K hK => ?_) AllReadyH.nil
        case hiT123 => (simp only [List.getElem?_toArray, List.getElem?_cons_succ, List.getElem?_cons_zero]; with_reducible rfl)
        case hwT123 => rfl
        go_simp
        have hP2 := hP1.one y hy
        have hB2 := hB1.alloc hP1.1 (.cells #[.int .u8 (y : Int)] 5)
        obtain ⟨g10, hg⟩ : ∃ g, wn1.heap.size = g := ⟨_, rfl⟩
        obtain ⟨wn2, hwm⟩ : ∃ wm, wn1.alloc (.cells #[.int .u8 (y : Int)] 5) = wm := ⟨_, rfl⟩
        rw [hwm] at hP2 hB2 ⊢
        rw [hg] at hP2 ⊢
        clear hwm hg hP1 hB1
        refine hK.out _ _ ?_ (fun hHeld => ?_)
        · trivial
        clear hK K
        try simp only [Act.put, List.setIfInBounds_toArray, List.set_cons_zero, List.set_cons_succ]
        refine stepOne 6 (o := ?oT124) ?hiT124 (by kernel_rfl) ?hwT124 (fun K hK => ?_)
        case hiT124 => (simp only [List.getElem?_toArray, List.getElem?_cons_succ, List.getElem?_cons_zero]; with_reducible rfl)
        case hwT124 => rfl
        go_simp
        have hP3 := hP2.nil
        have hB3 := hB2.alloc hP2.1 (.cells #[] 5)
        obtain ⟨g6, hg⟩ : ∃ g, wn2.heap.size = g := ⟨_, rfl⟩
        obtain ⟨wn3, hwm⟩ : ∃ wm, wn2.alloc (.cells #[] 5) = wm := ⟨_, rfl⟩
        rw [hwm] at hP3 hB3 ⊢
        rw [hg] at hP3 ⊢
        clear hwm hg hP2 hB2
        refine hK.out _ _ ?_ (fun hHeld => ?_)
        · trivial
        clear hK K
        try simp only [Act.put, List.setIfInBounds_toArray, List.set_cons_zero, List.set_cons_succ]
        refine stepOne 8 (o := ?oT125) ?hiT125 (by kernel_rfl) ?hwT125 (fun K hK => ?_)
        case hiT125 => (simp only [List.getElem?_toArray, List.getElem?_cons_succ, List.getElem?_cons_zero]; with_reducible rfl)
        case hwT125 => rfl
        refine wp_append_bytes (.tmp 64) (.tmp 65) rfl w9.heap.size _ _ _ _ rfl (hP3.get 0 rfl) rfl (HB0.out wn3 hB3).2.1 ?_ hP3.1 T rfl ?_
        · have := HLT.out; have := HTL.out; simp; omega
        rintro v8 wn4 hgr
        have hP4 : Pool wn4 w9.heap.size [(v8, T), ((.slice (some ⟨g10, 0, none⟩) 1 1), [y]), ((.slice (some ⟨g12, 0, none⟩) 0 0), [])] := hP3.app 0 rfl hgr
        have hB4 := hB3.trans hgr.2.2.2
        clear hgr hP3 hB3
        refine hK.out _ _ ?_ (fun hHeld => ?_)
        · trivial
        clear hK K
        try simp only [Act.put, List.setIfInBounds_toArray, List.set_cons_zero, List.set_cons_succ]
        refine stepOne 11 (o := ?oT126) ?hiT126 (by kernel_rfl) ?hwT126 (fun K hK => ?_)
        case hiT126 => (simp only [List.getElem?_toArray, List.getElem?_cons_succ, List.getElem?_cons_zero]; with_reducible rfl)
        case hwT126 => rfl
        refine wp_append_bytes (.tmp 66) (.tmp 68) rfl w9.heap.size _ _ _ _ rfl (hP4.get 0 rfl) rfl (hP4.get 1 rfl).bytes ?_ hP4.1 (T ++ [y]) rfl ?_
        · have := HLT.out; have := HTL.out; simp; omega
        rintro v11 wn5 hgr
        obtain ⟨_, _, A11, c11, hv, _, _⟩ := hgr.1.bytes.parts
        rw [HN14.out] at hv
        subst hv
        have hP5 : Pool wn5 w9.heap.size [((.slice A11 n14 c11), (T ++ [y])), ((.slice (some ⟨g10, 0, none⟩) 1 1), [y]), ((.slice (some ⟨g12, 0, none⟩) 0 0), [])] := hP4.app 0 rfl hgr
        have hB5 := hB4.trans hgr.2.2.2
        clear hgr hP4 hB4
        refine hK.out _ _ ?_ (fun hHeld => ?_)
        · trivial
        clear hK K
        try simp only [Act.put, List.setIfInBounds_toArray, List.set_cons_zero, List.set_cons_succ]
        refine stepOne 14 (o := ?oT127) ?hiT127 (by kernel_rfl) ?hwT127 (fun K hK => ?_)
        case hiT127 => (simp only [List.getElem?_toArray, List.getElem?_cons_succ, List.getElem?_cons_zero]; with_reducible rfl)
        case hwT127 => rfl
        refine wp_append_bytes (.tmp 70) (.tmp 71) rfl w9.heap.size _ _ _ _ rfl (hP5.get 2 rfl) rfl (HB0.out wn5 hB5).2.1 ?_ hP5.1 T rfl ?_
        · have := HLT.out; have := HTL.out; simp; omega
        rintro v14 wn6 hgr
        have hP6 : Pool wn6 w9.heap.size [((.slice A11 n14 c11), (T ++ [y])), ((.slice (some ⟨g10, 0, none⟩) 1 1), [y]), (v14, T)] := hP5.app 2 rfl hgr
        have hB6 := hB5.trans hgr.2.2.2
        clear hgr hP5 hB5
        refine hK.out _ _ ?_ (fun hHeld => ?_)
        · trivial
        clear hK K
        try simp only [Act.put, List.setIfInBounds_toArray, List.set_cons_zero, List.set_cons_succ]
        refine stepOne 16 (o := ?oT128) ?hiT128 (by kernel_rfl) ?hwT128 (fun K hK => ?_)
        case hiT128 => (simp only [List.getElem?_toArray, List.getElem?_cons_succ, List.getElem?_cons_zero]; with_reducible rfl)
        case hwT128 => rfl
        refine wp_append_bytes (.tmp 72) (.tmp 73) rfl w9.heap.size _ _ _ _ rfl (hP6.get 2 rfl) rfl (HB0.out wn6 hB6).2.1 ?_ hP6.1 (T ++ T) rfl ?_
        · have := HLT.out; have := HTL.out; simp; omega
        rintro v16 wn7 hgr
        obtain ⟨_, _, A16, c16, hv, _, _⟩ := hgr.1.bytes.parts
        rw [HNS.out] at hv
        subst hv
        have hP7 : Pool wn7 w9.heap.size [((.slice A11 n14 c11), (T ++ [y])), ((.slice (some ⟨g10, 0, none⟩) 1 1), [y]), ((.slice A16 nS c16), (T ++ T))] := hP6.app 2 rfl hgr
        have hB7 := hB6.trans hgr.2.2.2
        clear hgr hP6 hB6
        refine hK.out _ _ ?_ (fun hHeld => ?_)
        · trivial
        clear hK K
        try simp only [Act.put, List.setIfInBounds_toArray, List.set_cons_zero, List.set_cons_succ]
        refine stepOne 17 (o := ?oT129) ?hiT129 (by kernel_rfl) ?hwT129 (fun K hK => ?_)
        case hiT129 => (simp only [List.getElem?_toArray, List.getElem?_cons_succ, List.getElem?_cons_zero]; with_reducible rfl)
        case hwT129 => rfl
        go_simp
        refine hK.out _ _ ?_ (fun hHeld => ?_)
        · trivial
        clear hK K
        try simp only [Act.put, List.setIfInBounds_toArray, List.set_cons_zero, List.set_cons_succ]
        refine takeW 18 (some 76) (oi := ?oT130) (v := ?vT130) ?hiT130 ?hdT130 (by kernel_rfl) (by kernel_rfl) (by kernel_rfl) (fun _ _ _ h => h) ?hwT130 ?hyT130 hHeld ?_
        case hiT130 => (simp only [List.getElem?_toArray, List.getElem?_cons_succ, List.getElem?_cons_zero]; with_reducible rfl)
        case hdT130 => rfl
        case hwT130 => rfl
        case hyT130 => (intro w hSw; (try dsimp only at hSw); go_simp; first | done | with_reducible rfl)
        try simp only [Act.put, List.setIfInBounds_toArray, List.set_cons_zero, List.set_cons_succ]
        refine wpAnyH_done (by kernel_rfl) ?_ _
        refine NoPanic.normal ?_
        go_wp2_with fail
        go_meet
        have hF := HFIN.out wn7 (.slice A11 n14 c11) (.slice A16 nS c16) hB7 (hP7.get 0 rfl).bytes (hP7.get 2 rfl).bytes
        exact ⟨_, rfl, rfl, rfl, Lib.hid hF.1, Lib.hid hF.2⟩
      case rest =>
        obtain ⟨g, rfl, rfl, rfl, HX, HBX⟩ := hcut
        obtain ⟨wx, rfl⟩ : ∃ wy : World, wy = wc := ⟨_, rfl⟩
        have HALL : Hid (∀ i, i < 6 → (([b, T, T.set k y, T.take k, T ++ [y], T ++ T] : List (List Nat)).getD i []).length ≤ 10000) := Lib.hid (fun i hi => by
          have hb := HN3.out
          have ht := HTL.out
          have hb3 := HNN.out
          have : i = 0 ∨ i = 1 ∨ i = 2 ∨ i = 3 ∨ i = 4 ∨ i = 5 := by omega
          rcases this with rfl | rfl | rfl | rfl | rfl | rfl
          · show b.length ≤ _; omega
          · show T.length ≤ _; omega
          · show (T.set k y).length ≤ _; rw [List.length_set]; omega
          · show (T.take k).length ≤ _; rw [List.length_take]; omega
          · show (T ++ [y]).length ≤ _; rw [List.length_append]; simp; omega
          · show (T ++ T).length ≤ _; rw [List.length_append]; omega)
        obtain ⟨X, hX⟩ : ∃ X, ([b, T, T.set k y, T.take k, T ++ [y], T ++ T] : List (List Nat)) = X := ⟨_, rfl⟩
        rw [hX] at HX HALL
        have HWX := Lib.hid (HW9.out.trans (HBX.out.mono HW9.out.size))
        clear hX HU9 HT9 HW9 HBX
        go_wp2_with fail
        go_loopg [77] 6 (fun gg iv wr => ∃ j : Nat, j ≤ 6 ∧ 6 - j ≤ gg ∧ iv = .int .i64 (j : Int) ∧ Hid (Below wx.heap.size wx wr))
        case atStart => exact ⟨0, by omega, by omega, rfl, Lib.hid (Below.refl _ _)⟩
        case round =>
          obtain ⟨j, hj, hg, rfl, hB⟩ := hrel
          obtain ⟨wz, rfl⟩ : ∃ wy : World, wy = wr := ⟨_, rfl⟩
          by_cases hlt : j < 6
          · have hjI : (j : Int) < 6 := by omega
            obtain ⟨bb, off, u, he, hcu, hbu⟩ := (HX.out.under hB.out).at hlt
            injection he with he1
            injection he1 with he3 he4
            subst he3 he4
            rw [Nat.zero_add] at hcu
            have HXL := Lib.hid (HALL.out j hlt)
            obtain ⟨x, hx⟩ : ∃ x, X.getD j [] = x := ⟨_, rfl⟩
            rw [hx] at hbu HXL
            have HU := Lib.hid hbu
            obtain ⟨R, hR⟩ : ∃ R, Ar.opn x = R := ⟨_, rfl⟩
            have HR := Lib.hid hR
            clear hx hbu hR
            go_wp2_with fail
            refine (aopen_any u x wz HU.out (by have := HXL.out; omega) R HR.out).mono ?_
            intro e x1 hx1
            obtain ⟨hb1, a1, p1, rfl, ha1, hp1, -, -⟩ := hx1.says
            have HU1 := Lib.hid (HU.out.under hb1)
            have HZ1 := Lib.hid hb1
            have HA1 := Lib.hid ha1
            have HP1 := Lib.hid hp1
            clear hx1 ha1 hp1 hb1
            go_wp2_with fail
            refine (refaopen_any u x x1 HU1.out (by have := HXL.out; omega) R HR.out).mono ?_
            rintro e x2 ⟨hb2, a2, p2, rfl, ha2, hp2, -, -⟩
            have HZ2 := Lib.hid (HZ1.out.trans (hb2.mono HZ1.out.size))
            have ra1 := run_text (HA1.out.under hb2)
            have rp1 := run_text (HP1.out.under hb2)
            have ra2 := run_text ha2
            have rp2 := run_text hp2
            clear ha2 hp2 hb2 HU HU1 HA1 HP1
            obtain ⟨s, hs⟩ : ∃ s, R.isSome = s := ⟨_, rfl⟩
            obtain ⟨ta, hta⟩ : ∃ s, (R.getD ([], [])).1 = s := ⟨_, rfl⟩
            obtain ⟨tp, htp⟩ : ∃ s, (R.getD ([], [])).2 = s := ⟨_, rfl⟩
            rw [hta] at ra1 ra2
            rw [htp] at rp1 rp2
            rw [hs]
            clear hs hta htp
            have ea : ((str ta).toList != (str ta).toList) = false := by simp
            have ep : ((str tp).toList != (str tp).toList) = false := by simp
            have es : (s != s) = false := by simp
            go_wp2
            go_roundg (6 - (j + 1))
            case measure => omega
            case rel => exact ⟨j + 1, hlt, by omega, by go_num, Lib.hid (hB.out.trans (HZ2.out.mono hB.out.size))⟩
          · obtain rfl : j = 6 := by omega
            go_wp2_with fail
            refine (aawake_any _).mono ?_
            rintro e x3 ⟨rfl, hb3⟩
            go_wp2
            go_ret
            have h1 := HWX.out.trans (hB.out.mono HWX.out.size)
            exact ⟨rfl, h1.trans (hb3.mono h1.size)⟩
end Go.Proofs.Ytldnpedegcbglaa
