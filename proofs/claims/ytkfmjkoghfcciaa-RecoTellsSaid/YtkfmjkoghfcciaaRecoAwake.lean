/- What layer 12's statements ask beside: the known answers of package reco. -/
import Derived.Test.YtkfmjkoghfcciaaRecoTrace
import Derived.Test.YtkfmjkoghfcciaaRecoDone
import Derived.Test.YtkfmjkoghfcciaaPool
import Derived.Test.YtkfmjkoghfcciaaFramAwake
import Derived.Test.YtkfmjkoghfcciaaArtiAwake
namespace Go.Proofs.Ytkfmjkoghfcciaa
set_option maxRecDepth 100000
open Go.ChangeShapes Go.WideShapes Go.ChangeAt Go.RowKit

theorem Pool.two {w : World} {base : Nat} {L : List (Value × List Nat)} (h : Pool w base L) (x y : Nat) (hx : x < 256) (hy : y < 256) : Pool (w.alloc (.cells #[.int .u8 (x : Int), .int .u8 (y : Int)] 5)) base ((.slice (some ⟨w.heap.size, 0, none⟩) 2 2, [x, y]) :: L) :=
  h.made ((Below.refl _ _).alloc (Nat.le_refl _) _) (own_new w w.heap.size [x, y] (by intro c hc; simp at hc; omega) (by simp [maxLen]) (Nat.le_refl _))
def rawT : List Nat := [97, 46, 111]
def rawD : List Nat := Rc.done rawT [112] 1 2
def rawF1 : List Nat := [] ++ Fr.frm rawD
def rawF2 : List Nat := rawF1 ++ Fr.frm rawD
def rawF3 : List Nat := rawF2 ++ [7, 7]
def rawL : List Nat := Rc.lock 1 2 3 400
theorem raw_len : rawD.length = 28 := by decide +kernel
theorem raw_open : Rc.openD rawD = some (rawT, [112], 1, 2) := Rc.done_ok (by decide +kernel)
theorem rawF3_len : rawF3.length = 78 := by decide +kernel
theorem rawF3_scn : Fr.Scn rawF3 2 := scn_two _ (by decide +kernel) (by decide +kernel) (by decide +kernel)
theorem rawF3_rows : Fr.rows rawF3 2 = [rawD, rawD] := by decide +kernel
theorem raw_lead : Rc.lead [rawD, rawD] = [(rawT, [112], 1, 2), (rawT, [112], 1, 2)] := by
  rw [Rc.lead, Rc.leadBy_some raw_open, Rc.leadBy_some raw_open]
  rfl
theorem raw_ends : Rc.ends [rawD, rawD] = 76 := by
  rw [Rc.ends, raw_lead]
  show Rc.size [rawD, rawD] = 76
  simp [Rc.size, raw_len]
theorem rawL_open : Rc.openL rawL = some (1, 2, 3, 400) := Rc.openL_lock _ _ _ _ (by decide) (by decide) (by decide) (by decide)
theorem rawL_len : rawL.length = 34 := Rc.lock_length _ _ _ _
theorem rawN_nil : Rc.done [] [] 0 0 = [] := by decide +kernel
theorem rawT_str : str rawT = ⟨#[97, 46, 111]⟩ := rfl

set_option maxRecDepth 100000 in
set_option maxHeartbeats 8000000 in
theorem rawake_any (w : World) : Calls Try.prog 47 #[] w fun e w' => e = .returned (.bool true) ∧ Below w.heap.size w w' := by
  have kc := fun (w : World) (C : Array Value) (n c : Nat) => Lib.run_convert_bytes_const (P := Try.prog) w 30 5 C n c Try.underlying30 Try.underlying5
  have kc2 := fun (w : World) (O : Obj) (C : Array Value) (n c : Nat) => aconvert_second (P := Try.prog) w O 30 5 C n c Try.underlying30 Try.underlying5
  go_enter Try.func47, Try.ntmps47
  obtain ⟨w1, hw1⟩ : ∃ w1, w.alloc (.cells #[.int .i64 1, .int .i64 2, .int .i64 3, .int .i64 400] 66) = w1 := ⟨_, rfl⟩
  obtain ⟨g1, hg1⟩ : ∃ g, w.heap.size = g := ⟨_, rfl⟩
  have HB1 : Hid (Below w.heap.size w w1) := Lib.hid (by rw [← hw1]; exact (Below.refl _ _).alloc (Nat.le_refl _) _)
  have HK1 : Hid (Blk w1 g1 66 #[.int .i64 1, .int .i64 2, .int .i64 3, .int .i64 400]) := Lib.hid (by rw [← hw1, ← hg1]; exact heap_alloc_new w _)
  have HW1 := Lib.hid hw1
  have HG1 := Lib.hid hg1
  clear hw1 hg1
  go_upto_region 2 with fail
  rw [HW1.out, HG1.out]
  have l0 := HK1.out.at 0
  have l1 := HK1.out.at 1
  have l2 := HK1.out.at 2
  have l3 := HK1.out.at 3
  clear HW1 HG1
  go_wp2_with fail
  refine (rlock_is 1 2 3 400 rawL w1 rfl).mono ?_
  rintro e w2 ⟨v2, rfl, ho2, hb2⟩
  have HB2 := Lib.hid hb2
  have HO2 := Lib.hid ho2.bytes
  clear ho2 hb2 l0 l1 l2 l3
  go_wp2_with fail
  refine (ropenL_any v2 rawL w2 HO2.out (by rw [rawL_len]; decide) _ rawL_open).mono ?_
  rintro e w3 ⟨rfl, hb3⟩
  rw [show lockOf (some (1, 2, 3, 400)) = .tuple #[.agg #[.int .i64 1, .int .i64 2, .int .i64 3, .int .i64 400], .bool true] from rfl]
  have HB3 := Lib.hid (HB2.out.trans (hb3.mono HB2.out.size))
  clear hb3 HB2 HO2
  obtain ⟨w4, hw4⟩ : ∃ w4, ((w3.alloc (.cells #[.int .i64 1, .int .i64 2, .int .i64 3, .int .i64 400] 66)).alloc (.cells #[.int .u8 112] 5 (1, 2))).alloc (.cells #[.string ⟨#[97, 46, 111]⟩, .int .i64 1, .int .i64 2, .slice (some ⟨w3.heap.size + 1, 0, none⟩) 1 1] 59) = w4 := ⟨_, rfl⟩
  obtain ⟨g2, hg2⟩ : ∃ g, w3.heap.size = g := ⟨_, rfl⟩
  have hz3 : (w3.alloc (.cells #[.int .i64 1, .int .i64 2, .int .i64 3, .int .i64 400] 66)).heap.size = g2 + 1 := by rw [← hg2]; simp
  have hz3' : ((w3.alloc (.cells #[.int .i64 1, .int .i64 2, .int .i64 3, .int .i64 400] 66)).alloc (.cells #[.int .u8 112] 5 (1, 2))).heap.size = g2 + 2 := by rw [← hg2]; simp
  have HB4 : Hid (Below w1.heap.size w1 w4) := Lib.hid (by rw [← hw4]; exact ((HB3.out.alloc HB3.out.size _).alloc (Nat.le_trans HB3.out.size (by simp)) _).alloc (Nat.le_trans HB3.out.size (by simp; omega)) _)
  have HD : Hid (Blk w4 (g2 + 2) 59 #[.string ⟨#[97, 46, 111]⟩, .int .i64 1, .int .i64 2, .slice (some ⟨g2 + 1, 0, none⟩) 1 1]) := Lib.hid (by
    have := heap_alloc_new ((w3.alloc (.cells #[.int .i64 1, .int .i64 2, .int .i64 3, .int .i64 400] 66)).alloc (.cells #[.int .u8 112] 5 (1, 2))) (.cells #[.string ⟨#[97, 46, 111]⟩, .int .i64 1, .int .i64 2, .slice (some ⟨w3.heap.size + 1, 0, none⟩) 1 1] 59)
    rw [hw4, hz3', hg2] at this
    exact this)
  have HM : Hid (Blk w4 g2 66 #[.int .i64 1, .int .i64 2, .int .i64 3, .int .i64 400]) := Lib.hid (by
    have := heap_alloc_new w3 (.cells #[.int .i64 1, .int .i64 2, .int .i64 3, .int .i64 400] 66)
    rw [hg2] at this
    rw [← hw4]
    exact Blk.alloc (Blk.alloc this _) _)
  have HP : Hid (Bytes w4 (.slice (some ⟨g2 + 1, 0, none⟩) 1 1) [112]) := Lib.hid (by
    rw [← hw4]
    exact (bytes_new _ _ hz3.symm [112] _ _ (by decide) (by decide)).alloc _)
  have HW4 := Lib.hid hw4
  have HG2 := Lib.hid hg2
  clear hw4 hg2 hz3 hz3' HB3
  go_upto_region 4 with fail
  rw [HW4.out, HG2.out]
  clear HW4 HG2 kc kc2
  have HK : Hid (∀ w', Below w4.heap.size w4 w' → w'.cell? ⟨g2 + 2, 0, none⟩ = some (.string ⟨#[97, 46, 111]⟩) ∧ w'.cell? ⟨g2 + 2, 1, none⟩ = some (.int .i64 1) ∧ w'.cell? ⟨g2 + 2, 2, none⟩ = some (.int .i64 2) ∧ w'.cell? ⟨g2 + 2, 3, none⟩ = some (.slice (some ⟨g2 + 1, 0, none⟩) 1 1)) := Lib.hid fun W hb => by
    have k := HD.out.under hb
    exact ⟨k.at 0, k.at 1, k.at 2, k.at 3⟩
  have C1 : Hid (∀ W, Below w4.heap.size w4 W → Calls Try.prog 42 #[.agg #[.string ⟨#[97, 46, 111]⟩, .int .i64 1, .int .i64 2, .slice (some ⟨g2 + 1, 0, none⟩) 1 1]] W (Made W.heap.size rawD W)) := Lib.hid fun W hb => rdone_is rawT [112] 1 2 _ rawD W (HP.out.under hb) (by decide) (by decide) (by decide) rfl
  have d4 := HK.out w4 (Below.refl _ _)
  obtain ⟨d0, d1, d2, d3⟩ := d4
  go_wp2_with fail
  refine (C1.out w4 (Below.refl _ _)).mono ?_
  rintro e w5 ⟨v5, rfl, ho5, hb5⟩
  have HB5 := Lib.hid hb5
  have HO5 := Lib.hid ho5.bytes
  clear ho5 hb5 d0 d1 d2 d3
  go_wp2_with fail
  refine (ropenD_any v5 rawD w5 HO5.out (by rw [raw_len]; decide) _ raw_open).mono ?_
  rintro e w6 ⟨hb6, x6, rfl, ho6⟩
  have HB6 := Lib.hid (HB5.out.trans (hb6.mono HB5.out.size))
  have HO6 := Lib.hid ho6.bytes
  obtain ⟨_, _, A6, c6, rfl, _, _⟩ := ho6.bytes.parts
  rw [rawT_str]
  clear ho6 hb6 HB5 HO5
  obtain ⟨g5, hg5⟩ : ∃ g, w6.heap.size = g := ⟨_, rfl⟩
  obtain ⟨w7, hw7⟩ : ∃ w7, w6.alloc (.cells #[.string ⟨#[97, 46, 111]⟩, .int .i64 1, .int .i64 2, .slice A6 1 c6] 59) = w7 := ⟨_, rfl⟩
  have HB7 : Hid (Below w4.heap.size w4 w7) := Lib.hid (by rw [← hw7]; exact HB6.out.alloc HB6.out.size _)
  have HE : Hid (Blk w7 g5 59 #[.string ⟨#[97, 46, 111]⟩, .int .i64 1, .int .i64 2, .slice A6 1 c6]) := Lib.hid (by rw [← hw7, ← hg5]; exact heap_alloc_new w6 _)
  have HP6 : Hid (Bytes w7 (.slice A6 1 c6) [112]) := Lib.hid (by rw [← hw7]; exact HO6.out.alloc _)
  have HW7 := Lib.hid hw7
  have HG5 := Lib.hid hg5
  have hn1 : ((1 : Nat) : Int) = 1 := rfl
  have hn2 : ((2 : Nat) : Int) = 2 := rfl
  have hl1 : ([112] : List Nat).length = 1 := rfl
  clear hw7 hg5 HB6 HO6
  go_upto_region 5 with fail
  rw [HW7.out, HG5.out]
  clear HW7 HG5 hn1 hn2 hl1
  have C2 : Hid (∀ W u, Bytes W u rawD → Calls Try.prog 38 #[.slice none 0 0, u] W (Made W.heap.size rawF1 W)) := Lib.hid fun W u h => refput_is _ u [] rawD rawF1 W (bytes_none W) h (by simp) (by rw [raw_len]; decide) rfl
  have C3 : Hid (∀ W u y, Bytes W u rawF1 → Bytes W y rawD → Calls Try.prog 38 #[u, y] W (Made W.heap.size rawF2 W)) := Lib.hid fun W u y h h' => refput_is u y rawF1 rawD rawF2 W h h' (by decide +kernel) (by rw [raw_len]; decide) rfl
  go_cut [7] (fun q wx => Hid (Own wx w7.heap.size q rawF3) ∧ Hid (Below w7.heap.size w7 wx))
  case first =>
    have k0 := HK.out w7.drew HB7.out.drew
    refine wp_region_noPanic ?_
    refine wp_region_held_drew (S := fun w' => w'.cell? ⟨g2 + 2, 0, none⟩ = some (.string ⟨#[97, 46, 111]⟩) ∧ w'.cell? ⟨g2 + 2, 1, none⟩ = some (.int .i64 1) ∧ w'.cell? ⟨g2 + 2, 2, none⟩ = some (.int .i64 2) ∧ w'.cell? ⟨g2 + 2, 3, none⟩ = some (.slice (some ⟨g2 + 1, 0, none⟩) 1 1)) (by kernel_rfl) (k0) (fun hHeld => ?_)
    obtain ⟨wn0, hwn⟩ : ∃ wn, w7.drew = wn := ⟨_, rfl⟩
    have hB0 : Below w7.heap.size w7 wn0 := by rw [← hwn]; exact (Below.refl _ _).drew
    have hP0 : Pool wn0 w7.heap.size [] := pool_none hB0.size
    rw [hwn] at hHeld ⊢
    clear hwn
    refine takeW 0 (some 26) (oi := ?oT1) (v := ?vT1) ?hiT1 ?hdT1 (by kernel_rfl) (by kernel_rfl) (by kernel_rfl) (fun _ _ _ h => h) ?hwT1 ?hyT1 hHeld ?_
    case hiT1 => (simp only [List.getElem?_toArray, List.getElem?_cons_zero]; with_reducible rfl)
    case hdT1 => rfl
    case hwT1 => rfl
    case hyT1 => (intro w hSw; (try dsimp only at hSw); go_simp; first | done | with_reducible rfl)
    try simp only [Act.put]
    try simp only [List.setIfInBounds_toArray, List.set_cons_zero, List.set_cons_succ]
    refine takeW 3 (some 29) (oi := ?oT2) (v := ?vT2) ?hiT2 ?hdT2 (by kernel_rfl) (by kernel_rfl) (by kernel_rfl) (fun _ _ _ h => h) ?hwT2 ?hyT2 hHeld ?_
    case hiT2 => (simp only [List.getElem?_toArray, List.getElem?_cons_succ, List.getElem?_cons_zero]; with_reducible rfl)
    case hdT2 => rfl
    case hwT2 => rfl
    case hyT2 => (intro w hSw; (try dsimp only at hSw); go_simp; first | done | with_reducible rfl)
    try simp only [Act.put]
    try simp only [List.setIfInBounds_toArray, List.set_cons_zero, List.set_cons_succ]
    refine wpAnyH_ready (rs := [1, 6]) (by kernel_rfl) (by simp) ?_
    refine stepOf 1 (o := ?oT3) ?hiT3 ?hwT3 (fun K hK => ?_) ?_
    case hiT3 => (simp only [List.getElem?_toArray, List.getElem?_cons_succ, List.getElem?_cons_zero]; with_reducible rfl)
    case hwT3 => rfl
    · skip
      go_simp
      go_at_call 42
      refine (C1.out _ (HB7.out.trans (hB0.mono HB7.out.size))).mono ?_
      rintro e wn1 ⟨v27, rfl, ho, hb⟩
      have hP1 : Pool wn1 w7.heap.size [(v27, rawD)] := hP0.made hb ho
      have hB1 := hB0.trans (hb.mono hB0.size)
      clear ho hb hP0 hB0
      refine hK.out _ _ ?_ (fun hHeld => ?_)
      · exact HK.out _ (HB7.out.trans (hB1.mono HB7.out.size))
      clear hK K
      try simp only [Act.put]
      try simp only [List.setIfInBounds_toArray, List.set_cons_zero, List.set_cons_succ]
      refine wpAnyH_ready (rs := [2, 6]) (by kernel_rfl) (by simp) ?_
      refine stepOf 2 (o := ?oT4) ?hiT4 ?hwT4 (fun K hK => ?_) ?_
      case hiT4 => (simp only [List.getElem?_toArray, List.getElem?_cons_succ, List.getElem?_cons_zero]; with_reducible rfl)
      case hwT4 => rfl
      · skip
        go_simp
        go_at_call 38
        refine (C2.out _ _ (hP1.get 0 rfl).bytes).mono ?_
        rintro e wn2 ⟨v28, rfl, ho, hb⟩
        have hP2 : Pool wn2 w7.heap.size [(v28, rawF1), (v27, rawD)] := hP1.made hb ho
        have hB2 := hB1.trans (hb.mono hB1.size)
        clear ho hb hP1 hB1
        refine hK.out _ _ ?_ (fun hHeld => ?_)
        · exact HK.out _ (HB7.out.trans (hB2.mono HB7.out.size))
        clear hK K
        try simp only [Act.put]
        try simp only [List.setIfInBounds_toArray, List.set_cons_zero, List.set_cons_succ]
        refine wpAnyH_ready (rs := [4, 6]) (by kernel_rfl) (by simp) ?_
        refine stepOf 4 (o := ?oT5) ?hiT5 ?hwT5 (fun K hK => ?_) ?_
        case hiT5 => (simp only [List.getElem?_toArray, List.getElem?_cons_succ, List.getElem?_cons_zero]; with_reducible rfl)
        case hwT5 => rfl
        · skip
          go_simp
          go_at_call 42
          refine (C1.out _ (HB7.out.trans (hB2.mono HB7.out.size))).mono ?_
          rintro e wn3 ⟨v30, rfl, ho, hb⟩
          have hP3 : Pool wn3 w7.heap.size [(v30, rawD), (v28, rawF1), (v27, rawD)] := hP2.made hb ho
          have hB3 := hB2.trans (hb.mono hB2.size)
          clear ho hb hP2 hB2
          refine hK.out _ _ ?_ (fun hHeld => ?_)
          · exact HK.out _ (HB7.out.trans (hB3.mono HB7.out.size))
          clear hK K
          try simp only [Act.put]
          try simp only [List.setIfInBounds_toArray, List.set_cons_zero, List.set_cons_succ]
          refine wpAnyH_ready (rs := [5, 6]) (by kernel_rfl) (by simp) ?_
          refine stepOf 5 (o := ?oT6) ?hiT6 ?hwT6 (fun K hK => ?_) ?_
          case hiT6 => (simp only [List.getElem?_toArray, List.getElem?_cons_succ, List.getElem?_cons_zero]; with_reducible rfl)
          case hwT6 => rfl
          · skip
            go_simp
            go_at_call 38
            refine (C3.out _ _ _ (hP3.get 1 rfl).bytes (hP3.get 0 rfl).bytes).mono ?_
            rintro e wn4 ⟨v31, rfl, ho, hb⟩
            have hP4 : Pool wn4 w7.heap.size [(v31, rawF2), (v30, rawD), (v28, rawF1), (v27, rawD)] := hP3.made hb ho
            have hB4 := hB3.trans (hb.mono hB3.size)
            clear ho hb hP3 hB3
            refine hK.out _ _ ?_ (fun hHeld => ?_)
            · exact HK.out _ (HB7.out.trans (hB4.mono HB7.out.size))
            clear hK K
            try simp only [Act.put]
            try simp only [List.setIfInBounds_toArray, List.set_cons_zero, List.set_cons_succ]
            refine stepOne 6 (o := ?oT7) ?hiT7 (by kernel_rfl) ?hwT7 (fun K hK => ?_)
            case hiT7 => (simp only [List.getElem?_toArray, List.getElem?_cons_succ, List.getElem?_cons_zero]; with_reducible rfl)
            case hwT7 => rfl
            go_simp
            have hPx := hP4.two 7 7 (by decide) (by decide)
            have hBx := hB4.alloc hP4.1 (.cells #[.int .u8 7, .int .u8 7] 5)
            obtain ⟨g32, hg⟩ : ∃ g, wn4.heap.size = g := ⟨_, rfl⟩
            obtain ⟨wn5, hwm⟩ : ∃ wm, wn4.alloc (.cells #[.int .u8 7, .int .u8 7] 5) = wm := ⟨_, rfl⟩
            have hP5 : Pool wn5 w7.heap.size [((.slice (some ⟨g32, 0, none⟩) 2 2), [7, 7]), (v31, rawF2), (v30, rawD), (v28, rawF1), (v27, rawD)] := by rw [← hwm, ← hg]; exact hPx
            have hB5 : Below w7.heap.size w7 wn5 := by rw [← hwm]; exact hBx
            rw [hwm]
            rw [hg]
            clear hwm hg hPx hBx hP4 hB4
            refine hK.out _ _ ?_ (fun hHeld => ?_)
            · exact HK.out _ (HB7.out.trans (hB5.mono HB7.out.size))
            clear hK K
            try simp only [Act.put]
            try simp only [List.setIfInBounds_toArray, List.set_cons_zero, List.set_cons_succ]
            refine stepOne 7 (o := ?oT8) ?hiT8 (by kernel_rfl) ?hwT8 (fun K hK => ?_)
            case hiT8 => (simp only [List.getElem?_toArray, List.getElem?_cons_succ, List.getElem?_cons_zero]; with_reducible rfl)
            case hwT8 => rfl
            refine wp_append_bytes (.tmp 31) (.tmp 32) rfl w7.heap.size _ _ _ _ rfl (hP5.get 1 rfl) rfl (hP5.get 0 rfl).bytes (by decide +kernel) hP5.1 rawF3 rfl ?_
            rintro v33 wn6 hgr
            have hP6 : Pool wn6 w7.heap.size [((.slice (some ⟨g32, 0, none⟩) 2 2), [7, 7]), (v33, rawF3), (v30, rawD), (v28, rawF1), (v27, rawD)] := hP5.app 1 rfl hgr
            have hB6 := hB5.trans hgr.2.2.2
            clear hgr hP5 hB5
            refine hK.out _ _ ?_ (fun hHeld => ?_)
            · exact HK.out _ (HB7.out.trans (hB6.mono HB7.out.size))
            clear hK K
            try simp only [Act.put]
            try simp only [List.setIfInBounds_toArray, List.set_cons_zero, List.set_cons_succ]
            refine takeW 8 (some 7) (oi := ?oT9) (v := ?vT9) ?hiT9 ?hdT9 (by kernel_rfl) (by kernel_rfl) (by kernel_rfl) (fun _ _ _ h => h) ?hwT9 ?hyT9 hHeld ?_
            case hiT9 => (simp only [List.getElem?_toArray, List.getElem?_cons_succ, List.getElem?_cons_zero]; with_reducible rfl)
            case hdT9 => rfl
            case hwT9 => rfl
            case hyT9 => (intro w hSw; (try dsimp only at hSw); go_simp; first | done | with_reducible rfl)
            try simp only [Act.put]
            try simp only [List.setIfInBounds_toArray, List.set_cons_zero, List.set_cons_succ]
            refine wpAnyH_done (by kernel_rfl) ?_ _
            refine NoPanic.normal ?_
            go_wp2
            go_meet
            exact ⟨Lib.hid (hP6.get 1 rfl), Lib.hid hB6⟩
          refine stepOf 6 (o := ?oT10) ?hiT10 ?hwT10 (fun K hK => ?_) AllReadyH.nil
          case hiT10 => (simp only [List.getElem?_toArray, List.getElem?_cons_succ, List.getElem?_cons_zero]; with_reducible rfl)
          case hwT10 => rfl
          go_simp
          have hPx := hP3.two 7 7 (by decide) (by decide)
          have hBx := hB3.alloc hP3.1 (.cells #[.int .u8 7, .int .u8 7] 5)
          obtain ⟨g32, hg⟩ : ∃ g, wn3.heap.size = g := ⟨_, rfl⟩
          obtain ⟨wn4, hwm⟩ : ∃ wm, wn3.alloc (.cells #[.int .u8 7, .int .u8 7] 5) = wm := ⟨_, rfl⟩
          have hP4 : Pool wn4 w7.heap.size [((.slice (some ⟨g32, 0, none⟩) 2 2), [7, 7]), (v30, rawD), (v28, rawF1), (v27, rawD)] := by rw [← hwm, ← hg]; exact hPx
          have hB4 : Below w7.heap.size w7 wn4 := by rw [← hwm]; exact hBx
          rw [hwm]
          rw [hg]
          clear hwm hg hPx hBx hP3 hB3
          refine hK.out _ _ ?_ (fun hHeld => ?_)
          · exact HK.out _ (HB7.out.trans (hB4.mono HB7.out.size))
          clear hK K
          try simp only [Act.put]
          try simp only [List.setIfInBounds_toArray, List.set_cons_zero, List.set_cons_succ]
          refine stepOne 5 (o := ?oT11) ?hiT11 (by kernel_rfl) ?hwT11 (fun K hK => ?_)
          case hiT11 => (simp only [List.getElem?_toArray, List.getElem?_cons_succ, List.getElem?_cons_zero]; with_reducible rfl)
          case hwT11 => rfl
          go_simp
          go_at_call 38
          refine (C3.out _ _ _ (hP4.get 2 rfl).bytes (hP4.get 1 rfl).bytes).mono ?_
          rintro e wn5 ⟨v31, rfl, ho, hb⟩
          have hP5 : Pool wn5 w7.heap.size [(v31, rawF2), ((.slice (some ⟨g32, 0, none⟩) 2 2), [7, 7]), (v30, rawD), (v28, rawF1), (v27, rawD)] := hP4.made hb ho
          have hB5 := hB4.trans (hb.mono hB4.size)
          clear ho hb hP4 hB4
          refine hK.out _ _ ?_ (fun hHeld => ?_)
          · exact HK.out _ (HB7.out.trans (hB5.mono HB7.out.size))
          clear hK K
          try simp only [Act.put]
          try simp only [List.setIfInBounds_toArray, List.set_cons_zero, List.set_cons_succ]
          refine stepOne 7 (o := ?oT12) ?hiT12 (by kernel_rfl) ?hwT12 (fun K hK => ?_)
          case hiT12 => (simp only [List.getElem?_toArray, List.getElem?_cons_succ, List.getElem?_cons_zero]; with_reducible rfl)
          case hwT12 => rfl
          refine wp_append_bytes (.tmp 31) (.tmp 32) rfl w7.heap.size _ _ _ _ rfl (hP5.get 0 rfl) rfl (hP5.get 1 rfl).bytes (by decide +kernel) hP5.1 rawF3 rfl ?_
          rintro v33 wn6 hgr
          have hP6 : Pool wn6 w7.heap.size [(v33, rawF3), ((.slice (some ⟨g32, 0, none⟩) 2 2), [7, 7]), (v30, rawD), (v28, rawF1), (v27, rawD)] := hP5.app 0 rfl hgr
          have hB6 := hB5.trans hgr.2.2.2
          clear hgr hP5 hB5
          refine hK.out _ _ ?_ (fun hHeld => ?_)
          · exact HK.out _ (HB7.out.trans (hB6.mono HB7.out.size))
          clear hK K
          try simp only [Act.put]
          try simp only [List.setIfInBounds_toArray, List.set_cons_zero, List.set_cons_succ]
          refine takeW 8 (some 7) (oi := ?oT13) (v := ?vT13) ?hiT13 ?hdT13 (by kernel_rfl) (by kernel_rfl) (by kernel_rfl) (fun _ _ _ h => h) ?hwT13 ?hyT13 hHeld ?_
          case hiT13 => (simp only [List.getElem?_toArray, List.getElem?_cons_succ, List.getElem?_cons_zero]; with_reducible rfl)
          case hdT13 => rfl
          case hwT13 => rfl
          case hyT13 => (intro w hSw; (try dsimp only at hSw); go_simp; first | done | with_reducible rfl)
          try simp only [Act.put]
          try simp only [List.setIfInBounds_toArray, List.set_cons_zero, List.set_cons_succ]
          refine wpAnyH_done (by kernel_rfl) ?_ _
          refine NoPanic.normal ?_
          go_wp2
          go_meet
          exact ⟨Lib.hid (hP6.get 0 rfl), Lib.hid hB6⟩
        refine stepOf 6 (o := ?oT14) ?hiT14 ?hwT14 (fun K hK => ?_) AllReadyH.nil
        case hiT14 => (simp only [List.getElem?_toArray, List.getElem?_cons_succ, List.getElem?_cons_zero]; with_reducible rfl)
        case hwT14 => rfl
        go_simp
        have hPx := hP2.two 7 7 (by decide) (by decide)
        have hBx := hB2.alloc hP2.1 (.cells #[.int .u8 7, .int .u8 7] 5)
        obtain ⟨g32, hg⟩ : ∃ g, wn2.heap.size = g := ⟨_, rfl⟩
        obtain ⟨wn3, hwm⟩ : ∃ wm, wn2.alloc (.cells #[.int .u8 7, .int .u8 7] 5) = wm := ⟨_, rfl⟩
        have hP3 : Pool wn3 w7.heap.size [((.slice (some ⟨g32, 0, none⟩) 2 2), [7, 7]), (v28, rawF1), (v27, rawD)] := by rw [← hwm, ← hg]; exact hPx
        have hB3 : Below w7.heap.size w7 wn3 := by rw [← hwm]; exact hBx
        rw [hwm]
        rw [hg]
        clear hwm hg hPx hBx hP2 hB2
        refine hK.out _ _ ?_ (fun hHeld => ?_)
        · exact HK.out _ (HB7.out.trans (hB3.mono HB7.out.size))
        clear hK K
        try simp only [Act.put]
        try simp only [List.setIfInBounds_toArray, List.set_cons_zero, List.set_cons_succ]
        refine stepOne 4 (o := ?oT15) ?hiT15 (by kernel_rfl) ?hwT15 (fun K hK => ?_)
        case hiT15 => (simp only [List.getElem?_toArray, List.getElem?_cons_succ, List.getElem?_cons_zero]; with_reducible rfl)
        case hwT15 => rfl
        go_simp
        go_at_call 42
        refine (C1.out _ (HB7.out.trans (hB3.mono HB7.out.size))).mono ?_
        rintro e wn4 ⟨v30, rfl, ho, hb⟩
        have hP4 : Pool wn4 w7.heap.size [(v30, rawD), ((.slice (some ⟨g32, 0, none⟩) 2 2), [7, 7]), (v28, rawF1), (v27, rawD)] := hP3.made hb ho
        have hB4 := hB3.trans (hb.mono hB3.size)
        clear ho hb hP3 hB3
        refine hK.out _ _ ?_ (fun hHeld => ?_)
        · exact HK.out _ (HB7.out.trans (hB4.mono HB7.out.size))
        clear hK K
        try simp only [Act.put]
        try simp only [List.setIfInBounds_toArray, List.set_cons_zero, List.set_cons_succ]
        refine stepOne 5 (o := ?oT16) ?hiT16 (by kernel_rfl) ?hwT16 (fun K hK => ?_)
        case hiT16 => (simp only [List.getElem?_toArray, List.getElem?_cons_succ, List.getElem?_cons_zero]; with_reducible rfl)
        case hwT16 => rfl
        go_simp
        go_at_call 38
        refine (C3.out _ _ _ (hP4.get 2 rfl).bytes (hP4.get 0 rfl).bytes).mono ?_
        rintro e wn5 ⟨v31, rfl, ho, hb⟩
        have hP5 : Pool wn5 w7.heap.size [(v31, rawF2), (v30, rawD), ((.slice (some ⟨g32, 0, none⟩) 2 2), [7, 7]), (v28, rawF1), (v27, rawD)] := hP4.made hb ho
        have hB5 := hB4.trans (hb.mono hB4.size)
        clear ho hb hP4 hB4
        refine hK.out _ _ ?_ (fun hHeld => ?_)
        · exact HK.out _ (HB7.out.trans (hB5.mono HB7.out.size))
        clear hK K
        try simp only [Act.put]
        try simp only [List.setIfInBounds_toArray, List.set_cons_zero, List.set_cons_succ]
        refine stepOne 7 (o := ?oT17) ?hiT17 (by kernel_rfl) ?hwT17 (fun K hK => ?_)
        case hiT17 => (simp only [List.getElem?_toArray, List.getElem?_cons_succ, List.getElem?_cons_zero]; with_reducible rfl)
        case hwT17 => rfl
        refine wp_append_bytes (.tmp 31) (.tmp 32) rfl w7.heap.size _ _ _ _ rfl (hP5.get 0 rfl) rfl (hP5.get 2 rfl).bytes (by decide +kernel) hP5.1 rawF3 rfl ?_
        rintro v33 wn6 hgr
        have hP6 : Pool wn6 w7.heap.size [(v33, rawF3), (v30, rawD), ((.slice (some ⟨g32, 0, none⟩) 2 2), [7, 7]), (v28, rawF1), (v27, rawD)] := hP5.app 0 rfl hgr
        have hB6 := hB5.trans hgr.2.2.2
        clear hgr hP5 hB5
        refine hK.out _ _ ?_ (fun hHeld => ?_)
        · exact HK.out _ (HB7.out.trans (hB6.mono HB7.out.size))
        clear hK K
        try simp only [Act.put]
        try simp only [List.setIfInBounds_toArray, List.set_cons_zero, List.set_cons_succ]
        refine takeW 8 (some 7) (oi := ?oT18) (v := ?vT18) ?hiT18 ?hdT18 (by kernel_rfl) (by kernel_rfl) (by kernel_rfl) (fun _ _ _ h => h) ?hwT18 ?hyT18 hHeld ?_
        case hiT18 => (simp only [List.getElem?_toArray, List.getElem?_cons_succ, List.getElem?_cons_zero]; with_reducible rfl)
        case hdT18 => rfl
        case hwT18 => rfl
        case hyT18 => (intro w hSw; (try dsimp only at hSw); go_simp; first | done | with_reducible rfl)
        try simp only [Act.put]
        try simp only [List.setIfInBounds_toArray, List.set_cons_zero, List.set_cons_succ]
        refine wpAnyH_done (by kernel_rfl) ?_ _
        refine NoPanic.normal ?_
        go_wp2
        go_meet
        exact ⟨Lib.hid (hP6.get 0 rfl), Lib.hid hB6⟩
      refine stepOf 6 (o := ?oT19) ?hiT19 ?hwT19 (fun K hK => ?_) AllReadyH.nil
      case hiT19 => (simp only [List.getElem?_toArray, List.getElem?_cons_succ, List.getElem?_cons_zero]; with_reducible rfl)
      case hwT19 => rfl
      go_simp
      have hPx := hP1.two 7 7 (by decide) (by decide)
      have hBx := hB1.alloc hP1.1 (.cells #[.int .u8 7, .int .u8 7] 5)
      obtain ⟨g32, hg⟩ : ∃ g, wn1.heap.size = g := ⟨_, rfl⟩
      obtain ⟨wn2, hwm⟩ : ∃ wm, wn1.alloc (.cells #[.int .u8 7, .int .u8 7] 5) = wm := ⟨_, rfl⟩
      have hP2 : Pool wn2 w7.heap.size [((.slice (some ⟨g32, 0, none⟩) 2 2), [7, 7]), (v27, rawD)] := by rw [← hwm, ← hg]; exact hPx
      have hB2 : Below w7.heap.size w7 wn2 := by rw [← hwm]; exact hBx
      rw [hwm]
      rw [hg]
      clear hwm hg hPx hBx hP1 hB1
      refine hK.out _ _ ?_ (fun hHeld => ?_)
      · exact HK.out _ (HB7.out.trans (hB2.mono HB7.out.size))
      clear hK K
      try simp only [Act.put]
      try simp only [List.setIfInBounds_toArray, List.set_cons_zero, List.set_cons_succ]
      refine stepOne 2 (o := ?oT20) ?hiT20 (by kernel_rfl) ?hwT20 (fun K hK => ?_)
      case hiT20 => (simp only [List.getElem?_toArray, List.getElem?_cons_succ, List.getElem?_cons_zero]; with_reducible rfl)
      case hwT20 => rfl
      go_simp
      go_at_call 38
      refine (C2.out _ _ (hP2.get 1 rfl).bytes).mono ?_
      rintro e wn3 ⟨v28, rfl, ho, hb⟩
      have hP3 : Pool wn3 w7.heap.size [(v28, rawF1), ((.slice (some ⟨g32, 0, none⟩) 2 2), [7, 7]), (v27, rawD)] := hP2.made hb ho
      have hB3 := hB2.trans (hb.mono hB2.size)
      clear ho hb hP2 hB2
      refine hK.out _ _ ?_ (fun hHeld => ?_)
      · exact HK.out _ (HB7.out.trans (hB3.mono HB7.out.size))
      clear hK K
      try simp only [Act.put]
      try simp only [List.setIfInBounds_toArray, List.set_cons_zero, List.set_cons_succ]
      refine stepOne 4 (o := ?oT21) ?hiT21 (by kernel_rfl) ?hwT21 (fun K hK => ?_)
      case hiT21 => (simp only [List.getElem?_toArray, List.getElem?_cons_succ, List.getElem?_cons_zero]; with_reducible rfl)
      case hwT21 => rfl
      go_simp
      go_at_call 42
      refine (C1.out _ (HB7.out.trans (hB3.mono HB7.out.size))).mono ?_
      rintro e wn4 ⟨v30, rfl, ho, hb⟩
      have hP4 : Pool wn4 w7.heap.size [(v30, rawD), (v28, rawF1), ((.slice (some ⟨g32, 0, none⟩) 2 2), [7, 7]), (v27, rawD)] := hP3.made hb ho
      have hB4 := hB3.trans (hb.mono hB3.size)
      clear ho hb hP3 hB3
      refine hK.out _ _ ?_ (fun hHeld => ?_)
      · exact HK.out _ (HB7.out.trans (hB4.mono HB7.out.size))
      clear hK K
      try simp only [Act.put]
      try simp only [List.setIfInBounds_toArray, List.set_cons_zero, List.set_cons_succ]
      refine stepOne 5 (o := ?oT22) ?hiT22 (by kernel_rfl) ?hwT22 (fun K hK => ?_)
      case hiT22 => (simp only [List.getElem?_toArray, List.getElem?_cons_succ, List.getElem?_cons_zero]; with_reducible rfl)
      case hwT22 => rfl
      go_simp
      go_at_call 38
      refine (C3.out _ _ _ (hP4.get 1 rfl).bytes (hP4.get 0 rfl).bytes).mono ?_
      rintro e wn5 ⟨v31, rfl, ho, hb⟩
      have hP5 : Pool wn5 w7.heap.size [(v31, rawF2), (v30, rawD), (v28, rawF1), ((.slice (some ⟨g32, 0, none⟩) 2 2), [7, 7]), (v27, rawD)] := hP4.made hb ho
      have hB5 := hB4.trans (hb.mono hB4.size)
      clear ho hb hP4 hB4
      refine hK.out _ _ ?_ (fun hHeld => ?_)
      · exact HK.out _ (HB7.out.trans (hB5.mono HB7.out.size))
      clear hK K
      try simp only [Act.put]
      try simp only [List.setIfInBounds_toArray, List.set_cons_zero, List.set_cons_succ]
      refine stepOne 7 (o := ?oT23) ?hiT23 (by kernel_rfl) ?hwT23 (fun K hK => ?_)
      case hiT23 => (simp only [List.getElem?_toArray, List.getElem?_cons_succ, List.getElem?_cons_zero]; with_reducible rfl)
      case hwT23 => rfl
      refine wp_append_bytes (.tmp 31) (.tmp 32) rfl w7.heap.size _ _ _ _ rfl (hP5.get 0 rfl) rfl (hP5.get 3 rfl).bytes (by decide +kernel) hP5.1 rawF3 rfl ?_
      rintro v33 wn6 hgr
      have hP6 : Pool wn6 w7.heap.size [(v33, rawF3), (v30, rawD), (v28, rawF1), ((.slice (some ⟨g32, 0, none⟩) 2 2), [7, 7]), (v27, rawD)] := hP5.app 0 rfl hgr
      have hB6 := hB5.trans hgr.2.2.2
      clear hgr hP5 hB5
      refine hK.out _ _ ?_ (fun hHeld => ?_)
      · exact HK.out _ (HB7.out.trans (hB6.mono HB7.out.size))
      clear hK K
      try simp only [Act.put]
      try simp only [List.setIfInBounds_toArray, List.set_cons_zero, List.set_cons_succ]
      refine takeW 8 (some 7) (oi := ?oT24) (v := ?vT24) ?hiT24 ?hdT24 (by kernel_rfl) (by kernel_rfl) (by kernel_rfl) (fun _ _ _ h => h) ?hwT24 ?hyT24 hHeld ?_
      case hiT24 => (simp only [List.getElem?_toArray, List.getElem?_cons_succ, List.getElem?_cons_zero]; with_reducible rfl)
      case hdT24 => rfl
      case hwT24 => rfl
      case hyT24 => (intro w hSw; (try dsimp only at hSw); go_simp; first | done | with_reducible rfl)
      try simp only [Act.put]
      try simp only [List.setIfInBounds_toArray, List.set_cons_zero, List.set_cons_succ]
      refine wpAnyH_done (by kernel_rfl) ?_ _
      refine NoPanic.normal ?_
      go_wp2
      go_meet
      exact ⟨Lib.hid (hP6.get 0 rfl), Lib.hid hB6⟩
    refine stepOf 6 (o := ?oT25) ?hiT25 ?hwT25 (fun K hK => ?_) AllReadyH.nil
    case hiT25 => (simp only [List.getElem?_toArray, List.getElem?_cons_succ, List.getElem?_cons_zero]; with_reducible rfl)
    case hwT25 => rfl
    go_simp
    have hPx := hP0.two 7 7 (by decide) (by decide)
    have hBx := hB0.alloc hP0.1 (.cells #[.int .u8 7, .int .u8 7] 5)
    obtain ⟨g32, hg⟩ : ∃ g, wn0.heap.size = g := ⟨_, rfl⟩
    obtain ⟨wn1, hwm⟩ : ∃ wm, wn0.alloc (.cells #[.int .u8 7, .int .u8 7] 5) = wm := ⟨_, rfl⟩
    have hP1 : Pool wn1 w7.heap.size [((.slice (some ⟨g32, 0, none⟩) 2 2), [7, 7])] := by rw [← hwm, ← hg]; exact hPx
    have hB1 : Below w7.heap.size w7 wn1 := by rw [← hwm]; exact hBx
    rw [hwm]
    rw [hg]
    clear hwm hg hPx hBx hP0 hB0
    refine hK.out _ _ ?_ (fun hHeld => ?_)
    · exact HK.out _ (HB7.out.trans (hB1.mono HB7.out.size))
    clear hK K
    try simp only [Act.put]
    try simp only [List.setIfInBounds_toArray, List.set_cons_zero, List.set_cons_succ]
    refine stepOne 1 (o := ?oT26) ?hiT26 (by kernel_rfl) ?hwT26 (fun K hK => ?_)
    case hiT26 => (simp only [List.getElem?_toArray, List.getElem?_cons_succ, List.getElem?_cons_zero]; with_reducible rfl)
    case hwT26 => rfl
    go_simp
    go_at_call 42
    refine (C1.out _ (HB7.out.trans (hB1.mono HB7.out.size))).mono ?_
    rintro e wn2 ⟨v27, rfl, ho, hb⟩
    have hP2 : Pool wn2 w7.heap.size [(v27, rawD), ((.slice (some ⟨g32, 0, none⟩) 2 2), [7, 7])] := hP1.made hb ho
    have hB2 := hB1.trans (hb.mono hB1.size)
    clear ho hb hP1 hB1
    refine hK.out _ _ ?_ (fun hHeld => ?_)
    · exact HK.out _ (HB7.out.trans (hB2.mono HB7.out.size))
    clear hK K
    try simp only [Act.put]
    try simp only [List.setIfInBounds_toArray, List.set_cons_zero, List.set_cons_succ]
    refine stepOne 2 (o := ?oT27) ?hiT27 (by kernel_rfl) ?hwT27 (fun K hK => ?_)
    case hiT27 => (simp only [List.getElem?_toArray, List.getElem?_cons_succ, List.getElem?_cons_zero]; with_reducible rfl)
    case hwT27 => rfl
    go_simp
    go_at_call 38
    refine (C2.out _ _ (hP2.get 0 rfl).bytes).mono ?_
    rintro e wn3 ⟨v28, rfl, ho, hb⟩
    have hP3 : Pool wn3 w7.heap.size [(v28, rawF1), (v27, rawD), ((.slice (some ⟨g32, 0, none⟩) 2 2), [7, 7])] := hP2.made hb ho
    have hB3 := hB2.trans (hb.mono hB2.size)
    clear ho hb hP2 hB2
    refine hK.out _ _ ?_ (fun hHeld => ?_)
    · exact HK.out _ (HB7.out.trans (hB3.mono HB7.out.size))
    clear hK K
    try simp only [Act.put]
    try simp only [List.setIfInBounds_toArray, List.set_cons_zero, List.set_cons_succ]
    refine stepOne 4 (o := ?oT28) ?hiT28 (by kernel_rfl) ?hwT28 (fun K hK => ?_)
    case hiT28 => (simp only [List.getElem?_toArray, List.getElem?_cons_succ, List.getElem?_cons_zero]; with_reducible rfl)
    case hwT28 => rfl
    go_simp
    go_at_call 42
    refine (C1.out _ (HB7.out.trans (hB3.mono HB7.out.size))).mono ?_
    rintro e wn4 ⟨v30, rfl, ho, hb⟩
    have hP4 : Pool wn4 w7.heap.size [(v30, rawD), (v28, rawF1), (v27, rawD), ((.slice (some ⟨g32, 0, none⟩) 2 2), [7, 7])] := hP3.made hb ho
    have hB4 := hB3.trans (hb.mono hB3.size)
    clear ho hb hP3 hB3
    refine hK.out _ _ ?_ (fun hHeld => ?_)
    · exact HK.out _ (HB7.out.trans (hB4.mono HB7.out.size))
    clear hK K
    try simp only [Act.put]
    try simp only [List.setIfInBounds_toArray, List.set_cons_zero, List.set_cons_succ]
    refine stepOne 5 (o := ?oT29) ?hiT29 (by kernel_rfl) ?hwT29 (fun K hK => ?_)
    case hiT29 => (simp only [List.getElem?_toArray, List.getElem?_cons_succ, List.getElem?_cons_zero]; with_reducible rfl)
    case hwT29 => rfl
    go_simp
    go_at_call 38
    refine (C3.out _ _ _ (hP4.get 1 rfl).bytes (hP4.get 0 rfl).bytes).mono ?_
    rintro e wn5 ⟨v31, rfl, ho, hb⟩
    have hP5 : Pool wn5 w7.heap.size [(v31, rawF2), (v30, rawD), (v28, rawF1), (v27, rawD), ((.slice (some ⟨g32, 0, none⟩) 2 2), [7, 7])] := hP4.made hb ho
    have hB5 := hB4.trans (hb.mono hB4.size)
    clear ho hb hP4 hB4
    refine hK.out _ _ ?_ (fun hHeld => ?_)
    · exact HK.out _ (HB7.out.trans (hB5.mono HB7.out.size))
    clear hK K
    try simp only [Act.put]
    try simp only [List.setIfInBounds_toArray, List.set_cons_zero, List.set_cons_succ]
    refine stepOne 7 (o := ?oT30) ?hiT30 (by kernel_rfl) ?hwT30 (fun K hK => ?_)
    case hiT30 => (simp only [List.getElem?_toArray, List.getElem?_cons_succ, List.getElem?_cons_zero]; with_reducible rfl)
    case hwT30 => rfl
    refine wp_append_bytes (.tmp 31) (.tmp 32) rfl w7.heap.size _ _ _ _ rfl (hP5.get 0 rfl) rfl (hP5.get 4 rfl).bytes (by decide +kernel) hP5.1 rawF3 rfl ?_
    rintro v33 wn6 hgr
    have hP6 : Pool wn6 w7.heap.size [(v33, rawF3), (v30, rawD), (v28, rawF1), (v27, rawD), ((.slice (some ⟨g32, 0, none⟩) 2 2), [7, 7])] := hP5.app 0 rfl hgr
    have hB6 := hB5.trans hgr.2.2.2
    clear hgr hP5 hB5
    refine hK.out _ _ ?_ (fun hHeld => ?_)
    · exact HK.out _ (HB7.out.trans (hB6.mono HB7.out.size))
    clear hK K
    try simp only [Act.put]
    try simp only [List.setIfInBounds_toArray, List.set_cons_zero, List.set_cons_succ]
    refine takeW 8 (some 7) (oi := ?oT31) (v := ?vT31) ?hiT31 ?hdT31 (by kernel_rfl) (by kernel_rfl) (by kernel_rfl) (fun _ _ _ h => h) ?hwT31 ?hyT31 hHeld ?_
    case hiT31 => (simp only [List.getElem?_toArray, List.getElem?_cons_succ, List.getElem?_cons_zero]; with_reducible rfl)
    case hdT31 => rfl
    case hwT31 => rfl
    case hyT31 => (intro w hSw; (try dsimp only at hSw); go_simp; first | done | with_reducible rfl)
    try simp only [Act.put]
    try simp only [List.setIfInBounds_toArray, List.set_cons_zero, List.set_cons_succ]
    refine wpAnyH_done (by kernel_rfl) ?_ _
    refine NoPanic.normal ?_
    go_wp2
    go_meet
    exact ⟨Lib.hid (hP6.get 0 rfl), Lib.hid hB6⟩
  case rest =>
    obtain ⟨HF, HBc⟩ := hcut
    obtain ⟨w8, rfl⟩ : ∃ wy : World, wy = wc := ⟨_, rfl⟩
    obtain ⟨_, _, A8, c8, hv8, _, _⟩ := HF.out.bytes.parts
    rw [rawF3_len] at hv8
    subst hv8
    have HF8 := Lib.hid HF.out.bytes
    clear HF
    go_wp2_with fail
    refine (rtrace_any _ rawF3 2 _ w8 HF8.out rawF3_scn (by rw [rawF3_len]; decide) rawF3_rows).mono ?_
    rintro e w9 ⟨hb9, u9, rfl, ho9⟩
    rw [raw_lead] at ho9
    rw [raw_ends]
    obtain ⟨A9, c9, rfl, _⟩ := ho9.parts
    have HBE := Lib.hid (HBc.out.trans (hb9.mono HBc.out.size))
    have HB9 := Lib.hid (HB7.out.trans (HBE.out.mono HB7.out.size))
    have hl2 : ([(rawT, [112], 1, 2), (rawT, [112], 1, 2)] : List Rc.D).length = 2 := rfl
    rw [hl2]
    clear hb9 ho9 hl2 HBc
    obtain ⟨d0, d1, d2, d3⟩ := HK.out w9 HB9.out
    have kE := HE.out.under HBE.out
    have e0 := kE.at 0
    have e1 := kE.at 1
    have e2 := kE.at 2
    have e3 := kE.at 3
    have kM := HM.out.under HB9.out
    have m0 := kM.at 0
    have m1 := kM.at 1
    have m2 := kM.at 2
    have m3 := kM.at 3
    have HB91 := Lib.hid (HB4.out.trans (HB9.out.mono HB4.out.size))
    have kL := HK1.out.under HB91.out
    have l0 := kL.at 0
    have l1 := kL.at 1
    have l2 := kL.at 2
    have l3 := kL.at 3
    have C4 : Hid (Calls Try.prog 46 #[.agg #[.string ⟨#[97, 46, 111]⟩, .int .i64 1, .int .i64 2, .slice (some ⟨g2 + 1, 0, none⟩) 1 1], .agg #[.string ⟨#[97, 46, 111]⟩, .int .i64 1, .int .i64 2, .slice A6 1 c6]] w9 fun e w' => e = .returned (.bool true) ∧ Below w9.heap.size w9 w') := Lib.hid (sameD_any rawT rawT [112] [112] 1 1 2 2 _ _ w9 (HP.out.under HB9.out) (HP6.out.under HBE.out) (by decide) (by decide) true (by decide))
    have C5 : Hid (∀ W, Calls Try.prog 42 #[.agg #[.string ⟨#[]⟩, .int .i64 0, .int .i64 0, .slice none 0 0]] W (Made W.heap.size [] W)) := Lib.hid fun W => rdone_is [] [] 0 0 _ [] W (bytes_none W) (by simp) (by simp) (by simp) rawN_nil
    have h76 : ((76 : Nat) : Int) = 76 := rfl
    have h78 : ((78 : Nat) : Int) = 78 := rfl
    have h2 : ((2 : Nat) : Int) = 2 := rfl
    clear kE kM kL
    go_wp2_with fail
    refine C4.out.mono ?_
    rintro e w10 ⟨rfl, hb10⟩
    have HB10 := Lib.hid (HB91.out.trans (hb10.mono HB91.out.size))
    clear hb10 d0 d1 d2 d3 e0 e1 e2 e3 m0 m1 m2 m3 l0 l1 l2 l3
    go_wp2_with fail
    refine (C5.out w10).mono ?_
    rintro e w11 ⟨v11, rfl, ho11, hb11⟩
    obtain ⟨_, _, A11, c11, rfl, _, _⟩ := ho11.bytes.parts
    have HB11 := Lib.hid (HB10.out.trans (hb11.mono HB10.out.size))
    have hl0 : ([] : List Nat).length = 0 := rfl
    rw [hl0]
    clear ho11 hb11 hl0
    go_wp2
    go_ret
    exact ⟨rfl, HB1.out.trans (HB11.out.mono HB1.out.size)⟩
end Go.Proofs.Ytkfmjkoghfcciaa
