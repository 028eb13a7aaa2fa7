/- LockLost: whoever lost a lock to another one frees, and renews, nothing; the statement's walk. -/
import Derived.Test.YtlopabmndliggaaGreatDoorZLockWHeld
import Derived.Test.YtlopabmndliggaaGreatDoorZLockAwake
namespace Go.Proofs.YtlopabmndliggaaGreatDoor
set_option maxRecDepth 100000
open Go.ChangeShapes Go.WideShapes Go.ChangeAt Go.RowKit Go.ChangeMaps
open Sf Lk

abbrev tmpW (a c : Int) : List Nat := Nm.temp (Nm.held a 999) (Nm.held 1 99999) (Nm.held c 99999)
theorem nice_tmpW (a c : Int) : Nice (tmpW a c) := nice_temp _ _ _ (Nm.held_le _ _) (Nm.held_le _ _) (Nm.held_le _ _)
theorem file_tmpW (a c : Int) : Nm.file (tmpW a c) = true := Nm.temp_file (Nm.held_le _ _) (Nm.held_le _ _) (Nm.held_le _ _)
theorem clm_ltW (a c : Int) : clm < tmpW a c := lt_temp (by omega)
theorem list_clm (b : List Nat) (k : Nat) (r : Int) (n : Nat) (c : Int) : Sf.list (lkO clm b k r n c).l [116, 109, 112] = [] := by
  simp [Sf.list, Sf.folder, clm]
set_option maxRecDepth 100000 in
set_option maxHeartbeats 8000000 in
theorem lost_any (x y : Int) (fr : Bool) (late : Int) (w : World) (hT : Pow w) : Calls Tryz.prog 4 #[.int .i64 x, .int .i64 y, .bool fr, .int .i64 late] w fun e w' => e = .returned (.bool true) ∧ Below w.heap.size w w' := by
  obtain ⟨a, ha, hal⟩ := lk_and x 3 (by omega)
  obtain ⟨b', hb, hbl⟩ := lk_and y 3 (by omega)
  obtain ⟨m', hm, hml⟩ := lk_and late 255 (by omega)
  have ha' : bits .and .i64 x 3 = (a : Int) := ha
  have hb' : bits .and .i64 y 3 = (b' : Int) := hb
  have hm' : bits .and .i64 late 255 = (m' : Int) := hm
  obtain ⟨b, hbe⟩ : ∃ b, b' + 4 = b := ⟨_, rfl⟩
  obtain ⟨m, hme⟩ : ∃ m, 30 + m' = m := ⟨_, rfl⟩
  have wb : IntKind.i64.wrap ((b' : Int) + 4) = (b : Int) := by rw [IntWalk.i64_in _ (by omega)]; omega
  have wm : IntKind.i64.wrap (30 + (m' : Int)) = (m : Int) := by rw [IntWalk.i64_in _ (by omega)]; omega
  have HT := Lib.hid hT
  have HN : Hid (a ≤ 3 ∧ 4 ≤ b ∧ b ≤ 7 ∧ 30 ≤ m ∧ m ≤ 285) := Lib.hid (by omega)
  have kc : ({ data := #[99, 108, 97, 105, 109, 47, 97] } : ByteArray) = str clm := rfl
  have kt : ({ data := #[116, 109, 112] } : ByteArray) = str [116, 109, 112] := rfl
  clear hT ha hb hm hal hbl hml hbe hme
  go_enter Tryz.func4, Tryz.ntmps4
  go_wp2_with fail
  refine (fs_new 10000 w).mono ?_
  rintro e w1 ⟨p, rfl, h1⟩
  have H1 : Hid (Fk (fun _ => False) w w1 p (lkN 10000 0 (-1))) := Lib.hid h1.keep
  clear h1
  have HOK : Hid (OkL ⟨(a : Int), 1, 1, 0 + 30⟩) := Lib.hid (by have := HN.out; simp [OkL]; omega)
  have HOK2 : Hid (OkL ⟨(b : Int), 1, 1 + 1, (m : Int) + 30⟩) := Lib.hid (by have := HN.out; simp [OkL]; omega)
  have C2 := Lib.hid (taken_is (taken_new (r := 10000) (n := 0) (c := -1) (who := (a : Int)) (inc := 1) (now := 0) (by omega) (by omega) HOK.out) H1.out (HT.out.under H1.out.fs.below) (by decide) (by decide))
  go_wp2_with fail
  refine C2.out.mono ?_
  rintro e w2 ⟨rfl, h2, -⟩
  have H2 := Lib.hid h2
  clear h2 C2 H1
  unfold heldV
  go_wp2_with fail
  obtain ⟨w3, q10, q11, K3, hw3, hq10, hq11, h3, m10, m11, -, b10, b11, bb3⟩ := H2.out.boxes #[.string (str clm), .int .i64 1] #[.int .i64 (a : Int), .int .i64 1, .int .i64 1, .int .i64 30]
  rw [hw3, hq11, hq10]
  have H3 := Lib.hid h3
  have M3 : Hid (K3 q10 ∧ K3 q11 ∧ q10 < q11) := Lib.hid ⟨m10, m11, by omega⟩
  have B10 := Lib.hid b10
  have B11 := Lib.hid b11
  clear hw3 hq10 hq11 h3 m10 m11 b10 b11 bb3 H2
  have C4 := Lib.hid (taken_is (taken_open (L := ⟨(a : Int), 1, 1, 0 + 30⟩) (k := 0 + 1) (n := 0 + 1) (r := 10000) (c := -1) (who := (b : Int)) (inc := 1) (now := (m : Int)) HOK.out (by omega) (by have := HN.out; omega) (fun h => by have h2 : (m : Int) < 0 + 30 := h.2.2; have := HN.out; omega) (.inl (by show (0 : Int) + 30 ≤ m; have := HN.out; omega)) HOK2.out) H3.out (HT.out.under H3.out.fs.below) (by show (0 + 1 : Nat) ≤ 1000000; omega) (used_clm _))
  refine C4.out.mono ?_
  rintro e w4 ⟨rfl, h4, k4⟩
  have H4 := Lib.hid h4
  have D10 := Lib.hid (k4.blk M3.out.1 B10.out)
  have D11 := Lib.hid (k4.blk M3.out.2.1 B11.out)
  obtain ⟨z, hz⟩ : ∃ z, (m : Int) + 30 = z := ⟨_, rfl⟩
  rw [hz] at H4 HOK2 ⊢
  clear h4 k4 H3 B10 B11 C4
  unfold heldV
  obtain ⟨w5, q13, q14, K5, hw5, hq13, hq14, h5, m13, m14, n5, b13, b14, bb5⟩ := H4.out.boxes #[.string (str clm), .int .i64 3] #[.int .i64 (b : Int), .int .i64 1, .int .i64 2, .int .i64 z]
  obtain rfl : q14 = q13 + 1 := by omega
  have y10 := D10.out.under bb5
  have y11 := D11.out.under bb5
  have H5 : Hid (Fk K5 w w5 p (lkO clm (Lo.bytes ⟨(b : Int), 1, 2, z⟩) 3 10000 3 (-1))) := Lib.hid h5
  have M5 : Hid (K5 q10 ∧ K5 q11 ∧ K5 q13 ∧ K5 (q13 + 1) ∧ q11 < q13 ∧ q13 < q13 + 1 ∧ q10 < q11) := Lib.hid ⟨n5 _ M3.out.1, n5 _ M3.out.2.1, m13, m14, by have := D11.out.size; omega, by omega, M3.out.2.2⟩
  have B10 := Lib.hid y10
  have B11 := Lib.hid y11
  have B13 := Lib.hid b13
  have B14 := Lib.hid b14
  have l0 := y11.at 0
  have l1 := y11.at 1
  have l2 := y11.at 2
  have l3 := y11.at 3
  have i0 := y10.at 0
  have i1 := y10.at 1
  have j2 := b14.at 2
  clear h5 m13 m14 n5 b13 b14 bb5 y10 y11 H4 D10 D11 M3
  have HOKL : Hid (OkL ⟨(b : Int), 1, 2, z⟩) := Lib.hid HOK2.out
  have CR : Hid (∀ W, Below w.heap.size w W → Calls Tryz.prog 10 #[guardV clm 1, lockV (a : Int) 1 1 30, .int .i64 8, .int .i64 5000] W fun e w' => ∃ g, e = .returned (.pointer (some ⟨g, 0, none⟩)) ∧ W.heap.size ≤ g ∧ WrBlk w' g (write clm 1 ⟨(a : Int), 1, 1, 30⟩ 8 5000) false ∧ Below W.heap.size W w') := Lib.hid fun W hb => renew_any clm 1 ⟨(a : Int), 1, 1, 30⟩ 8 5000 W (HT.out.under hb)
  have CF : Hid (∀ W, Below w.heap.size w W → Calls Tryz.prog 8 #[guardV clm 1, lockV (a : Int) 1 1 30, .int .i64 8] W fun e w' => ∃ g, e = .returned (.pointer (some ⟨g, 0, none⟩)) ∧ W.heap.size ≤ g ∧ WrBlk w' g (write clm 1 ⟨(a : Int), 1, 1, 30⟩ 8 0) true ∧ Below W.heap.size W w') := Lib.hid fun W hb => free_any clm 1 ⟨(a : Int), 1, 1, 30⟩ 8 W (HT.out.under hb)
  go_wp2_with fail
  clear hw5 hq13 hq14 hz
  refine (CR.out w5 H5.out.fs.below).mono ?_
  rintro e w6 ⟨g, rfl, hg, hx, hb6⟩
  obtain ⟨K6, h6, m6, n6⟩ := H5.out.add hb6 hg (Blk.size hx)
  have H6 := Lib.hid h6
  have X6 := Lib.hid hx
  have Z6 : Hid (w.heap.size ≤ g) := Lib.hid (by have := H5.out.fs.below.size; omega)
  have M6 : Hid (K6 g ∧ K6 q10 ∧ K6 q11 ∧ K6 q13 ∧ K6 (q13 + 1) ∧ q13 + 1 < g ∧ q11 < q13 ∧ q10 < q11) := Lib.hid ⟨m6, n6 _ M5.out.1, n6 _ M5.out.2.1, n6 _ M5.out.2.2.1, n6 _ M5.out.2.2.2.1, by have := B14.out.size; omega, M5.out.2.2.2.2.1, M5.out.2.2.2.2.2.2⟩
  have y10 := B10.out.under hb6
  have y11 := B11.out.under hb6
  have D10 := Lib.hid y10
  have D11 := Lib.hid y11
  have D13 := Lib.hid (B13.out.under hb6)
  have D14 := Lib.hid (B14.out.under hb6)
  clear l0 l1 l2 l3 i0 i1 j2 hg hx hb6 h6 m6 n6 H5 M5 B10 B11 B13 B14
  have l0 := y11.at 0
  have l1 := y11.at 1
  have l2 := y11.at 2
  have l3 := y11.at 3
  have i0 := y10.at 0
  have i1 := y10.at 1
  clear y10 y11
  rcases fr with _ | _
  · obtain ⟨gw, hgw⟩ : ∃ gw, g = gw := ⟨_, rfl⟩
    rw [hgw] at X6 Z6 M6 ⊢
    clear hgw l0 l1 l2 l3 i0 i1
    have H7 := H6
    have X7 := X6
    have Z7 := Z6
    obtain ⟨K7, hK7⟩ : ∃ K, K6 = K := ⟨_, rfl⟩
    rw [hK7] at H7 M6
    have M7 : Hid (K7 gw ∧ K7 q13 ∧ K7 (q13 + 1) ∧ q13 + 1 < gw) := Lib.hid ⟨M6.out.1, M6.out.2.2.2.1, M6.out.2.2.2.2.1, M6.out.2.2.2.2.2.1⟩
    clear H6 X6 Z6 M6 hK7
    have CW : Hid (∀ W, Fk K7 w W p (lkO clm (Lo.bytes ⟨(b : Int), 1, 2, z⟩) 3 10000 3 (-1)) → WrBlk W gw (write clm 1 ⟨(a : Int), 1, 1, 30⟩ 8 5000) false → Calls Tryz.prog 9 #[.pointer (some ⟨p, 0, none⟩), .pointer (some ⟨gw, 0, none⟩), .int .i64 2] W fun e w' => e = .returned (.bool true) ∧ Fk K7 w w' p (lkO clm (Lo.bytes ⟨(b : Int), 1, 2, z⟩) 3 10000 4 (-1)) ∧ WrBlk w' gw ⟨clm, 1, ⟨(a : Int), 1, 1, 5000⟩, tmpW (a : Int) 8, 4, 2⟩ false ∧ Kept (fun k => K7 k ∧ k ≠ gw) W w') := Lib.hid fun W h hx => written_any 2 (wrun_off (fl := clm) (T := tmpW (a : Int) 8) (b := Lo.bytes ⟨(b : Int), 1, 2, z⟩) (k := 3) (n := 3) (r := 10000) (c := -1) (σ := 1) file_clm (file_tmpW _ _) (clm_ltW _ _) ⟨(a : Int), 1, 1, 5000⟩ (by decide) (by rw [Lo.bytes_len]; decide) 3) (by decide) h M7.out.1 Z7.out hx nice_clm (nice_tmpW _ _) (by show (3 : Nat) ≤ 1000000; omega) (used_clm _)
    go_wp2_with fail
    refine (CW.out _ H7.out X7.out).mono ?_
    rintro e w8 ⟨rfl, h8, x8, k8⟩
    have H8 := Lib.hid h8
    have X8 := Lib.hid x8
    have B13 := Lib.hid (k8.blk ⟨M7.out.2.1, by have := M7.out.2.2.2; omega⟩ D13.out)
    have B14 := Lib.hid (k8.blk ⟨M7.out.2.2.1, by have := M7.out.2.2.2; omega⟩ D14.out)
    clear h8 x8 k8 H7 X7 D13 D14 CW
    have C9 : Hid (Calls Tryz.prog 11 #[.pointer (some ⟨gw, 0, none⟩)] w8 fun e w' => e = .returned (.tuple #[guardV [] 0, lockV 0 0 0 0, .bool false]) ∧ Below w8.heap.size w8 w') := Lib.hid (wrheld_any ⟨clm, 1, ⟨(a : Int), 1, 1, 5000⟩, tmpW (a : Int) 8, 4, 2⟩ false X8.out)
    go_wp2_with fail
    refine C9.out.mono ?_
    rintro e w9 ⟨rfl, hb9⟩
    have e10 : ∀ o1 o2, Below w8.heap.size w8 ((w9.alloc o1).alloc o2) := fun o1 o2 => (hb9.alloc hb9.size _).alloc (by have := hb9.size; simp; omega) _
    have H10 := Lib.hid (fun o1 o2 => H8.out.under (e10 o1 o2))
    have D13 := Lib.hid (fun o1 o2 => B13.out.under (e10 o1 o2))
    have D14 := Lib.hid (fun o1 o2 => B14.out.under (e10 o1 o2))
    clear hb9 e10 H8 B13 B14 C9 X8
    go_wp2_with fail
    obtain ⟨w10, hw10⟩ : ∃ W, (w9.alloc (.cells #[.string (str []), .int .i64 0] 26)).alloc (.cells #[.int .i64 0, .int .i64 0, .int .i64 0, .int .i64 0] 28) = W := ⟨_, rfl⟩
    have G10 := Lib.hid (H10.out (.cells #[.string (str []), .int .i64 0] 26) (.cells #[.int .i64 0, .int .i64 0, .int .i64 0, .int .i64 0] 28))
    have G13 := Lib.hid (D13.out (.cells #[.string (str []), .int .i64 0] 26) (.cells #[.int .i64 0, .int .i64 0, .int .i64 0, .int .i64 0] 28))
    have G14 := Lib.hid (D14.out (.cells #[.string (str []), .int .i64 0] 26) (.cells #[.int .i64 0, .int .i64 0, .int .i64 0, .int .i64 0] 28))
    rw [hw10] at G10 G13 G14 ⊢
    clear hw10 H10 D13 D14
    have H10 := G10
    have D13 := G13
    have D14 := G14
    clear G10 G13 G14
    have C11 := Lib.hid (fs_read clm w w10 p _ H10.out.fs nice_clm (by have := used_clm (k := 3) (n := 4) (r := 10000) (c := -1) ⟨(b : Int), 1, 2, z⟩; omega))
    rw [Lk.read_one file_clm] at C11
    refine C11.out.mono ?_
    rintro e w11 ⟨v, rfl, ho, hb11⟩
    have H11 := Lib.hid (H10.out.under hb11)
    have B13 := Lib.hid (D13.out.under hb11)
    have B14 := Lib.hid (D14.out.under hb11)
    have C12 : Hid (Calls Tryz.prog 14 #[v] w11 fun e w' => e = .returned (.tuple #[lockV (b : Int) 1 2 z, .bool true]) ∧ Below w11.heap.size w11 w') := Lib.hid ((refopenL_any v _ w11 ho.bytes (by rw [Lo.bytes_len]; omega) _ rfl).mono fun e w' h => ⟨by
      have h1 := h.1
      rw [Lo.opens] at h1
      rw [h1]
      have h2 := held_ok HOKL.out
      injection h2 with e1 e2 e3 e4
      show Ending.returned (.tuple #[lockV _ _ _ _, _]) = _
      rw [e1, e2, e3, e4], h.2⟩)
    clear ho hb11 H10 C11 D13 D14
    go_wp2_with fail
    refine C12.out.mono ?_
    rintro e w12 ⟨rfl, hb12⟩
    have H12 := Lib.hid (fun o => (H11.out.under hb12).alloc o)
    have D13 := Lib.hid (fun o => (B13.out.under hb12).alloc o)
    have D14 := Lib.hid (fun o => (B14.out.under hb12).alloc o)
    clear hb12 H11 B13 B14 C12
    go_upto_region 17 with fail
    obtain ⟨wE, hwE⟩ : ∃ W, w12.alloc (.cells #[.int .i64 (b : Int), .int .i64 1, .int .i64 2, .int .i64 z] 28) = W := ⟨_, rfl⟩
    obtain ⟨q23, hq23⟩ : ∃ q, w12.heap.size = q := ⟨_, rfl⟩
    have D23 : Hid (Blk wE q23 28 #[.int .i64 (b : Int), .int .i64 1, .int .i64 2, .int .i64 z]) := Lib.hid (by rw [← hwE, ← hq23]; exact heap_alloc_new w12 _)
    have G12 := Lib.hid (H12.out (.cells #[.int .i64 (b : Int), .int .i64 1, .int .i64 2, .int .i64 z] 28))
    have G13 := Lib.hid (D13.out (.cells #[.int .i64 (b : Int), .int .i64 1, .int .i64 2, .int .i64 z] 28))
    have G14 := Lib.hid (D14.out (.cells #[.int .i64 (b : Int), .int .i64 1, .int .i64 2, .int .i64 z] 28))
    rw [hwE] at G12 G13 G14 ⊢
    rw [hq23]
    clear hwE hq23 H12 D13 D14
    have HST : Hid (∀ W, Below wE.heap.size wE W → W.cell? ⟨q13, 1, none⟩ = some (.int .i64 3) ∧ W.cell? ⟨q13 + 1, 0, none⟩ = some (.int .i64 (b : Int)) ∧ W.cell? ⟨q13 + 1, 1, none⟩ = some (.int .i64 1) ∧ W.cell? ⟨q13 + 1, 2, none⟩ = some (.int .i64 2) ∧ W.cell? ⟨q13 + 1, 3, none⟩ = some (.int .i64 z) ∧ W.cell? ⟨q23, 0, none⟩ = some (.int .i64 (b : Int)) ∧ W.cell? ⟨q23, 1, none⟩ = some (.int .i64 1) ∧ W.cell? ⟨q23, 2, none⟩ = some (.int .i64 2) ∧ W.cell? ⟨q23, 3, none⟩ = some (.int .i64 z)) := Lib.hid fun W hb => ⟨(G13.out.under hb).at 1, (G14.out.under hb).at 0, (G14.out.under hb).at 1, (G14.out.under hb).at 2, (G14.out.under hb).at 3, (D23.out.under hb).at 0, (D23.out.under hb).at 1, (D23.out.under hb).at 2, (D23.out.under hb).at 3⟩
    have CS : Hid (∀ W, Fk K7 w W p (lkO clm (Lo.bytes ⟨(b : Int), 1, 2, z⟩) 3 10000 4 (-1)) → Calls Tryz.prog 12 #[.pointer (some ⟨p, 0, none⟩), .string (str clm)] W fun e w' => e = .returned (.int .i64 3) ∧ W = w') := Lib.hid fun W h => fs_stamp clm w W p _ h.fs nice_clm
    have CLI : Hid (∀ W, Fk K7 w W p (lkO clm (Lo.bytes ⟨(b : Int), 1, 2, z⟩) 3 10000 4 (-1)) → Calls Tryz.prog 15 #[.pointer (some ⟨p, 0, none⟩), .string (str [116, 109, 112])] W fun e w' => (∃ A c, e = .returned (.slice A 0 c)) ∧ Below W.heap.size W w') := Lib.hid fun W h => (fs_list [116, 109, 112] w W p _ h.fs (by decide) (by show (4 : Nat) ≤ 1073741824; omega)).mono fun e w' ⟨v, he, ho, hb⟩ => by
      rw [list_clm] at ho
      refine ⟨?_, hb⟩
      rcases ho.2 with ⟨rfl, _⟩ | ⟨g, cap, cur, rfl, _⟩
      · exact ⟨_, _, he⟩
      · exact ⟨_, _, he⟩
    refine wp_region_noPanic ?_
    refine wp_region_held_drew (S := fun W => W.cell? ⟨q13, 1, none⟩ = some (.int .i64 3) ∧ W.cell? ⟨q13 + 1, 0, none⟩ = some (.int .i64 (b : Int)) ∧ W.cell? ⟨q13 + 1, 1, none⟩ = some (.int .i64 1) ∧ W.cell? ⟨q13 + 1, 2, none⟩ = some (.int .i64 2) ∧ W.cell? ⟨q13 + 1, 3, none⟩ = some (.int .i64 z) ∧ W.cell? ⟨q23, 0, none⟩ = some (.int .i64 (b : Int)) ∧ W.cell? ⟨q23, 1, none⟩ = some (.int .i64 1) ∧ W.cell? ⟨q23, 2, none⟩ = some (.int .i64 2) ∧ W.cell? ⟨q23, 3, none⟩ = some (.int .i64 z)) (by kernel_rfl) (HST.out _ (Below.refl _ _).drew) (fun hHeld => ?_)
    refine takeW 0 (some 93) (oi := ?oT1) (v := ?vT1) ?hiT1 ?hdT1 (by kernel_rfl) (by kernel_rfl) (by kernel_rfl) (fun _ _ _ h => h) ?hwT1 ?hyT1 hHeld ?_
    case hiT1 => (simp only [List.getElem?_toArray, List.getElem?_cons_zero]; with_reducible rfl)
    case hdT1 => rfl
    case hwT1 => rfl
    case hyT1 => (intro w hSw; (try dsimp only at hSw); go_simp; first | done | with_reducible rfl)
    try simp only [Act.put]
    try simp only [List.setIfInBounds_toArray, List.set_cons_zero, List.set_cons_succ]
    refine takeW 1 (some 94) (oi := ?oT2) (v := ?vT2) ?hiT2 ?hdT2 (by kernel_rfl) (by kernel_rfl) (by kernel_rfl) (fun _ _ _ h => h) ?hwT2 ?hyT2 hHeld ?_
    case hiT2 => (simp only [List.getElem?_toArray, List.getElem?_cons_succ, List.getElem?_cons_zero]; with_reducible rfl)
    case hdT2 => rfl
    case hwT2 => rfl
    case hyT2 => (intro w hSw; (try dsimp only at hSw); go_simp; first | done | with_reducible rfl)
    try simp only [Act.put]
    try simp only [List.setIfInBounds_toArray, List.set_cons_zero, List.set_cons_succ]
    refine takeW 2 (some 95) (oi := ?oT3) (v := ?vT3) ?hiT3 ?hdT3 (by kernel_rfl) (by kernel_rfl) (by kernel_rfl) (fun _ _ _ h => h) ?hwT3 ?hyT3 hHeld ?_
    case hiT3 => (simp only [List.getElem?_toArray, List.getElem?_cons_succ, List.getElem?_cons_zero]; with_reducible rfl)
    case hdT3 => rfl
    case hwT3 => rfl
    case hyT3 => (intro w hSw; (try dsimp only at hSw); go_simp; first | done | with_reducible rfl)
    try simp only [Act.put]
    try simp only [List.setIfInBounds_toArray, List.set_cons_zero, List.set_cons_succ]
    refine takeW 3 (some 96) (oi := ?oT4) (v := ?vT4) ?hiT4 ?hdT4 (by kernel_rfl) (by kernel_rfl) (by kernel_rfl) (fun _ _ _ h => h) ?hwT4 ?hyT4 hHeld ?_
    case hiT4 => (simp only [List.getElem?_toArray, List.getElem?_cons_succ, List.getElem?_cons_zero]; with_reducible rfl)
    case hdT4 => rfl
    case hwT4 => rfl
    case hyT4 => (intro w hSw; (try dsimp only at hSw); go_simp; first | done | with_reducible rfl)
    try simp only [Act.put]
    try simp only [List.setIfInBounds_toArray, List.set_cons_zero, List.set_cons_succ]
    refine takeW 5 (some 98) (oi := ?oT5) (v := ?vT5) ?hiT5 ?hdT5 (by kernel_rfl) (by kernel_rfl) (by kernel_rfl) (fun _ _ _ h => h) ?hwT5 ?hyT5 hHeld ?_
    case hiT5 => (simp only [List.getElem?_toArray, List.getElem?_cons_succ, List.getElem?_cons_zero]; with_reducible rfl)
    case hdT5 => rfl
    case hwT5 => rfl
    case hyT5 => (intro w hSw; (try dsimp only at hSw); go_simp; first | done | with_reducible rfl)
    try simp only [Act.put]
    try simp only [List.setIfInBounds_toArray, List.set_cons_zero, List.set_cons_succ]
    refine takeW 6 (some 99) (oi := ?oT6) (v := ?vT6) ?hiT6 ?hdT6 (by kernel_rfl) (by kernel_rfl) (by kernel_rfl) (fun _ _ _ h => h) ?hwT6 ?hyT6 hHeld ?_
    case hiT6 => (simp only [List.getElem?_toArray, List.getElem?_cons_succ, List.getElem?_cons_zero]; with_reducible rfl)
    case hdT6 => rfl
    case hwT6 => rfl
    case hyT6 => (intro w hSw; (try dsimp only at hSw); go_simp; first | done | with_reducible rfl)
    try simp only [Act.put]
    try simp only [List.setIfInBounds_toArray, List.set_cons_zero, List.set_cons_succ]
    refine stepOne 4 (o := ?oT7) ?hiT7 (by kernel_rfl) ?hwT7 (fun K hK => ?_)
    case hiT7 => (simp only [List.getElem?_toArray, List.getElem?_cons_succ, List.getElem?_cons_zero]; with_reducible rfl)
    case hwT7 => rfl
    go_simp
    go_at_call 12
    refine (CS.out wE.drew (G12.out.under (Below.refl _ _).drew)).mono ?_
    rintro e w13 ⟨rfl, rfl⟩
    refine hK.out _ _ ?_ (fun hHeld => ?_)
    · exact HST.out _ (Below.refl _ _).drew
    clear hK K
    try simp only [Act.put]
    try simp only [List.setIfInBounds_toArray, List.set_cons_zero, List.set_cons_succ]
    refine takeW 7 (some 100) (oi := ?oT8) (v := ?vT8) ?hiT8 ?hdT8 (by kernel_rfl) (by kernel_rfl) (by kernel_rfl) (fun _ _ _ h => h) ?hwT8 ?hyT8 hHeld ?_
    case hiT8 => (simp only [List.getElem?_toArray, List.getElem?_cons_succ, List.getElem?_cons_zero]; with_reducible rfl)
    case hdT8 => rfl
    case hwT8 => rfl
    case hyT8 => (intro w hSw; (try dsimp only at hSw); go_simp; first | done | with_reducible rfl)
    try simp only [Act.put]
    try simp only [List.setIfInBounds_toArray, List.set_cons_zero, List.set_cons_succ]
    refine takeW 8 (some 101) (oi := ?oT9) (v := ?vT9) ?hiT9 ?hdT9 (by kernel_rfl) (by kernel_rfl) (by kernel_rfl) (fun _ _ _ h => h) ?hwT9 ?hyT9 hHeld ?_
    case hiT9 => (simp only [List.getElem?_toArray, List.getElem?_cons_succ, List.getElem?_cons_zero]; with_reducible rfl)
    case hdT9 => rfl
    case hwT9 => rfl
    case hyT9 => (intro w hSw; (try dsimp only at hSw); go_simp; first | done | with_reducible rfl)
    try simp only [Act.put]
    try simp only [List.setIfInBounds_toArray, List.set_cons_zero, List.set_cons_succ]
    refine takeW 9 (some 102) (oi := ?oT10) (v := ?vT10) ?hiT10 ?hdT10 (by kernel_rfl) (by kernel_rfl) (by kernel_rfl) (fun _ _ _ h => h) ?hwT10 ?hyT10 hHeld ?_
    case hiT10 => (simp only [List.getElem?_toArray, List.getElem?_cons_succ, List.getElem?_cons_zero]; with_reducible rfl)
    case hdT10 => rfl
    case hwT10 => rfl
    case hyT10 => (intro w hSw; (try dsimp only at hSw); go_simp; first | done | with_reducible rfl)
    try simp only [Act.put]
    try simp only [List.setIfInBounds_toArray, List.set_cons_zero, List.set_cons_succ]
    refine takeW 10 (some 103) (oi := ?oT11) (v := ?vT11) ?hiT11 ?hdT11 (by kernel_rfl) (by kernel_rfl) (by kernel_rfl) (fun _ _ _ h => h) ?hwT11 ?hyT11 hHeld ?_
    case hiT11 => (simp only [List.getElem?_toArray, List.getElem?_cons_succ, List.getElem?_cons_zero]; with_reducible rfl)
    case hdT11 => rfl
    case hwT11 => rfl
    case hyT11 => (intro w hSw; (try dsimp only at hSw); go_simp; first | done | with_reducible rfl)
    try simp only [Act.put]
    try simp only [List.setIfInBounds_toArray, List.set_cons_zero, List.set_cons_succ]
    refine takeW 11 (some 104) (oi := ?oT12) (v := ?vT12) ?hiT12 ?hdT12 (by kernel_rfl) (by kernel_rfl) (by kernel_rfl) (fun _ _ _ h => h) ?hwT12 ?hyT12 hHeld ?_
    case hiT12 => (simp only [List.getElem?_toArray, List.getElem?_cons_succ, List.getElem?_cons_zero]; with_reducible rfl)
    case hdT12 => rfl
    case hwT12 => rfl
    case hyT12 => (intro w hSw; (try dsimp only at hSw); go_simp; first | done | with_reducible rfl)
    try simp only [Act.put]
    try simp only [List.setIfInBounds_toArray, List.set_cons_zero, List.set_cons_succ]
    refine takeW 12 (some 105) (oi := ?oT13) (v := ?vT13) ?hiT13 ?hdT13 (by kernel_rfl) (by kernel_rfl) (by kernel_rfl) (fun _ _ _ h => h) ?hwT13 ?hyT13 hHeld ?_
    case hiT13 => (simp only [List.getElem?_toArray, List.getElem?_cons_succ, List.getElem?_cons_zero]; with_reducible rfl)
    case hdT13 => rfl
    case hwT13 => rfl
    case hyT13 => (intro w hSw; (try dsimp only at hSw); go_simp; first | done | with_reducible rfl)
    try simp only [Act.put]
    try simp only [List.setIfInBounds_toArray, List.set_cons_zero, List.set_cons_succ]
    refine takeW 13 (some 106) (oi := ?oT14) (v := ?vT14) ?hiT14 ?hdT14 (by kernel_rfl) (by kernel_rfl) (by kernel_rfl) (fun _ _ _ h => h) ?hwT14 ?hyT14 hHeld ?_
    case hiT14 => (simp only [List.getElem?_toArray, List.getElem?_cons_succ, List.getElem?_cons_zero]; with_reducible rfl)
    case hdT14 => rfl
    case hwT14 => rfl
    case hyT14 => (intro w hSw; (try dsimp only at hSw); go_simp; first | done | with_reducible rfl)
    try simp only [Act.put]
    try simp only [List.setIfInBounds_toArray, List.set_cons_zero, List.set_cons_succ]
    refine takeW 14 (some 107) (oi := ?oT15) (v := ?vT15) ?hiT15 ?hdT15 (by kernel_rfl) (by kernel_rfl) (by kernel_rfl) (fun _ _ _ h => h) ?hwT15 ?hyT15 hHeld ?_
    case hiT15 => (simp only [List.getElem?_toArray, List.getElem?_cons_succ, List.getElem?_cons_zero]; with_reducible rfl)
    case hdT15 => rfl
    case hwT15 => rfl
    case hyT15 => (intro w hSw; (try dsimp only at hSw); go_simp; first | done | with_reducible rfl)
    try simp only [Act.put]
    try simp only [List.setIfInBounds_toArray, List.set_cons_zero, List.set_cons_succ]
    refine takeW 15 (some 108) (oi := ?oT16) (v := ?vT16) ?hiT16 ?hdT16 (by kernel_rfl) (by kernel_rfl) (by kernel_rfl) (fun _ _ _ h => h) ?hwT16 ?hyT16 hHeld ?_
    case hiT16 => (simp only [List.getElem?_toArray, List.getElem?_cons_succ, List.getElem?_cons_zero]; with_reducible rfl)
    case hdT16 => rfl
    case hwT16 => rfl
    case hyT16 => (intro w hSw; (try dsimp only at hSw); go_simp; first | done | with_reducible rfl)
    try simp only [Act.put]
    try simp only [List.setIfInBounds_toArray, List.set_cons_zero, List.set_cons_succ]
    refine takeW 16 (some 109) (oi := ?oT17) (v := ?vT17) ?hiT17 ?hdT17 (by kernel_rfl) (by kernel_rfl) (by kernel_rfl) (fun _ _ _ h => h) ?hwT17 ?hyT17 hHeld ?_
    case hiT17 => (simp only [List.getElem?_toArray, List.getElem?_cons_succ, List.getElem?_cons_zero]; with_reducible rfl)
    case hdT17 => rfl
    case hwT17 => rfl
    case hyT17 => (intro w hSw; (try dsimp only at hSw); go_simp; first | done | with_reducible rfl)
    try simp only [Act.put]
    try simp only [List.setIfInBounds_toArray, List.set_cons_zero, List.set_cons_succ]
    refine takeW 17 (some 110) (oi := ?oT18) (v := ?vT18) ?hiT18 ?hdT18 (by kernel_rfl) (by kernel_rfl) (by kernel_rfl) (fun _ _ _ h => h) ?hwT18 ?hyT18 hHeld ?_
    case hiT18 => (simp only [List.getElem?_toArray, List.getElem?_cons_succ, List.getElem?_cons_zero]; with_reducible rfl)
    case hdT18 => rfl
    case hwT18 => rfl
    case hyT18 => (intro w hSw; (try dsimp only at hSw); go_simp; first | done | with_reducible rfl)
    try simp only [Act.put]
    try simp only [List.setIfInBounds_toArray, List.set_cons_zero, List.set_cons_succ]
    refine takeW 18 (some 111) (oi := ?oT19) (v := ?vT19) ?hiT19 ?hdT19 (by kernel_rfl) (by kernel_rfl) (by kernel_rfl) (fun _ _ _ h => h) ?hwT19 ?hyT19 hHeld ?_
    case hiT19 => (simp only [List.getElem?_toArray, List.getElem?_cons_succ, List.getElem?_cons_zero]; with_reducible rfl)
    case hdT19 => rfl
    case hwT19 => rfl
    case hyT19 => (intro w hSw; (try dsimp only at hSw); go_simp; first | done | with_reducible rfl)
    try simp only [Act.put]
    try simp only [List.setIfInBounds_toArray, List.set_cons_zero, List.set_cons_succ]
    refine stepOne 19 (o := ?oT20) ?hiT20 (by kernel_rfl) ?hwT20 (fun K hK => ?_)
    case hiT20 => (simp only [List.getElem?_toArray, List.getElem?_cons_succ, List.getElem?_cons_zero]; with_reducible rfl)
    case hwT20 => rfl
    go_simp
    go_at_call 15
    refine (CLI.out wE.drew (G12.out.under (Below.refl _ _).drew)).mono ?_
    rintro e w14 ⟨⟨A0, c0, rfl⟩, hb14⟩
    have HB14 : Hid (Below wE.heap.size wE w14) := Lib.hid ((Below.refl wE.heap.size wE).drew.trans hb14)
    clear hb14
    refine hK.out _ _ ?_ (fun hHeld => ?_)
    · exact HST.out _ HB14.out
    clear hK K
    try simp only [Act.put]
    try simp only [List.setIfInBounds_toArray, List.set_cons_zero, List.set_cons_succ]
    refine takeW 20 (some 113) (oi := ?oT21) (v := ?vT21) ?hiT21 ?hdT21 (by kernel_rfl) (by kernel_rfl) (by kernel_rfl) (fun _ _ _ h => h) ?hwT21 ?hyT21 hHeld ?_
    case hiT21 => (simp only [List.getElem?_toArray, List.getElem?_cons_succ, List.getElem?_cons_zero]; with_reducible rfl)
    case hdT21 => rfl
    case hwT21 => rfl
    case hyT21 => (intro w hSw; (try dsimp only at hSw); go_simp; first | done | with_reducible rfl)
    try simp only [Act.put]
    try simp only [List.setIfInBounds_toArray, List.set_cons_zero, List.set_cons_succ]
    refine takeW 21 (some 114) (oi := ?oT22) (v := ?vT22) ?hiT22 ?hdT22 (by kernel_rfl) (by kernel_rfl) (by kernel_rfl) (fun _ _ _ h => h) ?hwT22 ?hyT22 hHeld ?_
    case hiT22 => (simp only [List.getElem?_toArray, List.getElem?_cons_succ, List.getElem?_cons_zero]; with_reducible rfl)
    case hdT22 => rfl
    case hwT22 => rfl
    case hyT22 => (intro w hSw; (try dsimp only at hSw); go_simp; first | done | with_reducible rfl)
    try simp only [Act.put]
    try simp only [List.setIfInBounds_toArray, List.set_cons_zero, List.set_cons_succ]
    refine takeW 22 (some 115) (oi := ?oT23) (v := ?vT23) ?hiT23 ?hdT23 (by kernel_rfl) (by kernel_rfl) (by kernel_rfl) (fun _ _ _ h => h) ?hwT23 ?hyT23 hHeld ?_
    case hiT23 => (simp only [List.getElem?_toArray, List.getElem?_cons_succ, List.getElem?_cons_zero]; with_reducible rfl)
    case hdT23 => rfl
    case hwT23 => rfl
    case hyT23 => (intro w hSw; (try dsimp only at hSw); go_simp; first | done | with_reducible rfl)
    try simp only [Act.put]
    try simp only [List.setIfInBounds_toArray, List.set_cons_zero, List.set_cons_succ]
    refine takeW 23 (some 116) (oi := ?oT24) (v := ?vT24) ?hiT24 ?hdT24 (by kernel_rfl) (by kernel_rfl) (by kernel_rfl) (fun _ _ _ h => h) ?hwT24 ?hyT24 hHeld ?_
    case hiT24 => (simp only [List.getElem?_toArray, List.getElem?_cons_succ, List.getElem?_cons_zero]; with_reducible rfl)
    case hdT24 => rfl
    case hwT24 => rfl
    case hyT24 => (intro w hSw; (try dsimp only at hSw); go_simp; first | done | with_reducible rfl)
    try simp only [Act.put]
    try simp only [List.setIfInBounds_toArray, List.set_cons_zero, List.set_cons_succ]
    refine stepOne 24 (o := ?oT25) ?hiT25 (by kernel_rfl) ?hwT25 (fun K hK => ?_)
    case hiT25 => (simp only [List.getElem?_toArray, List.getElem?_cons_succ, List.getElem?_cons_zero]; with_reducible rfl)
    case hwT25 => rfl
    go_simp
    go_at_call 16
    refine (lawake_any w14 (HT.out.under (G12.out.fs.below.trans (HB14.out.mono G12.out.fs.below.size)))).mono ?_
    rintro e w15 ⟨rfl, hb15⟩
    have HB15 := Lib.hid (HB14.out.trans (hb15.mono HB14.out.size))
    clear hb15
    refine hK.out _ _ ?_ (fun hHeld => ?_)
    · exact HST.out _ HB15.out
    clear hK K
    try simp only [Act.put]
    try simp only [List.setIfInBounds_toArray, List.set_cons_zero, List.set_cons_succ]
    refine takeW 25 (some 118) (oi := ?oT26) (v := ?vT26) ?hiT26 ?hdT26 (by kernel_rfl) (by kernel_rfl) (by kernel_rfl) (fun _ _ _ h => h) ?hwT26 ?hyT26 hHeld ?_
    case hiT26 => (simp only [List.getElem?_toArray, List.getElem?_cons_succ, List.getElem?_cons_zero]; with_reducible rfl)
    case hdT26 => rfl
    case hwT26 => rfl
    case hyT26 => (intro w hSw; (try dsimp only at hSw); go_simp; first | done | with_reducible rfl)
    try simp only [Act.put]
    try simp only [List.setIfInBounds_toArray, List.set_cons_zero, List.set_cons_succ]
    refine takeW 26 (some 8) (oi := ?oT27) (v := ?vT27) ?hiT27 ?hdT27 (by kernel_rfl) (by kernel_rfl) (by kernel_rfl) (fun _ _ _ h => h) ?hwT27 ?hyT27 hHeld ?_
    case hiT27 => (simp only [List.getElem?_toArray, List.getElem?_cons_succ, List.getElem?_cons_zero]; with_reducible rfl)
    case hdT27 => rfl
    case hwT27 => rfl
    case hyT27 => (intro w hSw; (try dsimp only at hSw); go_simp; first | done | with_reducible rfl)
    try simp only [Act.put]
    try simp only [List.setIfInBounds_toArray, List.set_cons_zero, List.set_cons_succ]
    refine wpAnyH_done (by kernel_rfl) ?_ _
    refine NoPanic.normal ?_
    skip
    go_wp2
    go_ret
    exact ⟨rfl, G12.out.fs.below.trans (HB15.out.mono G12.out.fs.below.size)⟩
  · go_wp2_with fail
    refine (CF.out w6 H6.out.fs.below).mono ?_
    rintro e w7 ⟨gw, rfl, hg, hx, hb7⟩
    obtain ⟨K7, h7, m7, n7⟩ := H6.out.add hb7 hg (Blk.size hx)
    have H7 := Lib.hid h7
    have X7 := Lib.hid hx
    have Z7 : Hid (w.heap.size ≤ gw) := Lib.hid (by have := H6.out.fs.below.size; omega)
    have M7 : Hid (K7 gw ∧ K7 q13 ∧ K7 (q13 + 1) ∧ q13 + 1 < gw) := Lib.hid ⟨m7, n7 _ M6.out.2.2.2.1, n7 _ M6.out.2.2.2.2.1, by have := D14.out.size; omega⟩
    have E13 := Lib.hid (D13.out.under hb7)
    have E14 := Lib.hid (D14.out.under hb7)
    clear hg hx hb7 h7 m7 n7 H6 X6 Z6 M6 D10 D11 D13 D14 l0 l1 l2 l3 i0 i1
    have D13 := E13
    have D14 := E14
    clear E13 E14
    have CW : Hid (∀ W, Fk K7 w W p (lkO clm (Lo.bytes ⟨(b : Int), 1, 2, z⟩) 3 10000 3 (-1)) → WrBlk W gw (write clm 1 ⟨(a : Int), 1, 1, 30⟩ 8 0) true → Calls Tryz.prog 9 #[.pointer (some ⟨p, 0, none⟩), .pointer (some ⟨gw, 0, none⟩), .int .i64 2] W fun e w' => e = .returned (.bool true) ∧ Fk K7 w w' p (lkO clm (Lo.bytes ⟨(b : Int), 1, 2, z⟩) 3 10000 4 (-1)) ∧ WrBlk w' gw ⟨clm, 1, ⟨(a : Int), 1, 1, 0⟩, tmpW (a : Int) 8, 4, 2⟩ true ∧ Kept (fun k => K7 k ∧ k ≠ gw) W w') := Lib.hid fun W h hx => written_any 2 (wrun_off (fl := clm) (T := tmpW (a : Int) 8) (b := Lo.bytes ⟨(b : Int), 1, 2, z⟩) (k := 3) (n := 3) (r := 10000) (c := -1) (σ := 1) file_clm (file_tmpW _ _) (clm_ltW _ _) ⟨(a : Int), 1, 1, 0⟩ (by decide) (by rw [Lo.bytes_len]; decide) 3) (by decide) h M7.out.1 Z7.out hx nice_clm (nice_tmpW _ _) (by show (3 : Nat) ≤ 1000000; omega) (used_clm _)
    go_wp2_with fail
    refine (CW.out _ H7.out X7.out).mono ?_
    rintro e w8 ⟨rfl, h8, x8, k8⟩
    have H8 := Lib.hid h8
    have X8 := Lib.hid x8
    have B13 := Lib.hid (k8.blk ⟨M7.out.2.1, by have := M7.out.2.2.2; omega⟩ D13.out)
    have B14 := Lib.hid (k8.blk ⟨M7.out.2.2.1, by have := M7.out.2.2.2; omega⟩ D14.out)
    clear h8 x8 k8 H7 X7 D13 D14 CW
    have C9 : Hid (Calls Tryz.prog 11 #[.pointer (some ⟨gw, 0, none⟩)] w8 fun e w' => e = .returned (.tuple #[guardV [] 0, lockV 0 0 0 0, .bool false]) ∧ Below w8.heap.size w8 w') := Lib.hid (wrheld_any ⟨clm, 1, ⟨(a : Int), 1, 1, 0⟩, tmpW (a : Int) 8, 4, 2⟩ true X8.out)
    go_wp2_with fail
    refine C9.out.mono ?_
    rintro e w9 ⟨rfl, hb9⟩
    have e10 : ∀ o1 o2, Below w8.heap.size w8 ((w9.alloc o1).alloc o2) := fun o1 o2 => (hb9.alloc hb9.size _).alloc (by have := hb9.size; simp; omega) _
    have H10 := Lib.hid (fun o1 o2 => H8.out.under (e10 o1 o2))
    have D13 := Lib.hid (fun o1 o2 => B13.out.under (e10 o1 o2))
    have D14 := Lib.hid (fun o1 o2 => B14.out.under (e10 o1 o2))
    clear hb9 e10 H8 B13 B14 C9 X8
    go_wp2_with fail
    obtain ⟨w10, hw10⟩ : ∃ W, (w9.alloc (.cells #[.string (str []), .int .i64 0] 26)).alloc (.cells #[.int .i64 0, .int .i64 0, .int .i64 0, .int .i64 0] 28) = W := ⟨_, rfl⟩
    have G10 := Lib.hid (H10.out (.cells #[.string (str []), .int .i64 0] 26) (.cells #[.int .i64 0, .int .i64 0, .int .i64 0, .int .i64 0] 28))
    have G13 := Lib.hid (D13.out (.cells #[.string (str []), .int .i64 0] 26) (.cells #[.int .i64 0, .int .i64 0, .int .i64 0, .int .i64 0] 28))
    have G14 := Lib.hid (D14.out (.cells #[.string (str []), .int .i64 0] 26) (.cells #[.int .i64 0, .int .i64 0, .int .i64 0, .int .i64 0] 28))
    rw [hw10] at G10 G13 G14 ⊢
    clear hw10 H10 D13 D14
    have H10 := G10
    have D13 := G13
    have D14 := G14
    clear G10 G13 G14
    have C11 := Lib.hid (fs_read clm w w10 p _ H10.out.fs nice_clm (by have := used_clm (k := 3) (n := 4) (r := 10000) (c := -1) ⟨(b : Int), 1, 2, z⟩; omega))
    rw [Lk.read_one file_clm] at C11
    refine C11.out.mono ?_
    rintro e w11 ⟨v, rfl, ho, hb11⟩
    have H11 := Lib.hid (H10.out.under hb11)
    have B13 := Lib.hid (D13.out.under hb11)
    have B14 := Lib.hid (D14.out.under hb11)
    have C12 : Hid (Calls Tryz.prog 14 #[v] w11 fun e w' => e = .returned (.tuple #[lockV (b : Int) 1 2 z, .bool true]) ∧ Below w11.heap.size w11 w') := Lib.hid ((refopenL_any v _ w11 ho.bytes (by rw [Lo.bytes_len]; omega) _ rfl).mono fun e w' h => ⟨by
      have h1 := h.1
      rw [Lo.opens] at h1
      rw [h1]
      have h2 := held_ok HOKL.out
      injection h2 with e1 e2 e3 e4
      show Ending.returned (.tuple #[lockV _ _ _ _, _]) = _
      rw [e1, e2, e3, e4], h.2⟩)
    clear ho hb11 H10 C11 D13 D14
    go_wp2_with fail
    refine C12.out.mono ?_
    rintro e w12 ⟨rfl, hb12⟩
    have H12 := Lib.hid (fun o => (H11.out.under hb12).alloc o)
    have D13 := Lib.hid (fun o => (B13.out.under hb12).alloc o)
    have D14 := Lib.hid (fun o => (B14.out.under hb12).alloc o)
    clear hb12 H11 B13 B14 C12
    go_upto_region 17 with fail
    obtain ⟨wE, hwE⟩ : ∃ W, w12.alloc (.cells #[.int .i64 (b : Int), .int .i64 1, .int .i64 2, .int .i64 z] 28) = W := ⟨_, rfl⟩
    obtain ⟨q23, hq23⟩ : ∃ q, w12.heap.size = q := ⟨_, rfl⟩
    have D23 : Hid (Blk wE q23 28 #[.int .i64 (b : Int), .int .i64 1, .int .i64 2, .int .i64 z]) := Lib.hid (by rw [← hwE, ← hq23]; exact heap_alloc_new w12 _)
    have G12 := Lib.hid (H12.out (.cells #[.int .i64 (b : Int), .int .i64 1, .int .i64 2, .int .i64 z] 28))
    have G13 := Lib.hid (D13.out (.cells #[.int .i64 (b : Int), .int .i64 1, .int .i64 2, .int .i64 z] 28))
    have G14 := Lib.hid (D14.out (.cells #[.int .i64 (b : Int), .int .i64 1, .int .i64 2, .int .i64 z] 28))
    rw [hwE] at G12 G13 G14 ⊢
    rw [hq23]
    clear hwE hq23 H12 D13 D14
    have HST : Hid (∀ W, Below wE.heap.size wE W → W.cell? ⟨q13, 1, none⟩ = some (.int .i64 3) ∧ W.cell? ⟨q13 + 1, 0, none⟩ = some (.int .i64 (b : Int)) ∧ W.cell? ⟨q13 + 1, 1, none⟩ = some (.int .i64 1) ∧ W.cell? ⟨q13 + 1, 2, none⟩ = some (.int .i64 2) ∧ W.cell? ⟨q13 + 1, 3, none⟩ = some (.int .i64 z) ∧ W.cell? ⟨q23, 0, none⟩ = some (.int .i64 (b : Int)) ∧ W.cell? ⟨q23, 1, none⟩ = some (.int .i64 1) ∧ W.cell? ⟨q23, 2, none⟩ = some (.int .i64 2) ∧ W.cell? ⟨q23, 3, none⟩ = some (.int .i64 z)) := Lib.hid fun W hb => ⟨(G13.out.under hb).at 1, (G14.out.under hb).at 0, (G14.out.under hb).at 1, (G14.out.under hb).at 2, (G14.out.under hb).at 3, (D23.out.under hb).at 0, (D23.out.under hb).at 1, (D23.out.under hb).at 2, (D23.out.under hb).at 3⟩
    have CS : Hid (∀ W, Fk K7 w W p (lkO clm (Lo.bytes ⟨(b : Int), 1, 2, z⟩) 3 10000 4 (-1)) → Calls Tryz.prog 12 #[.pointer (some ⟨p, 0, none⟩), .string (str clm)] W fun e w' => e = .returned (.int .i64 3) ∧ W = w') := Lib.hid fun W h => fs_stamp clm w W p _ h.fs nice_clm
    have CLI : Hid (∀ W, Fk K7 w W p (lkO clm (Lo.bytes ⟨(b : Int), 1, 2, z⟩) 3 10000 4 (-1)) → Calls Tryz.prog 15 #[.pointer (some ⟨p, 0, none⟩), .string (str [116, 109, 112])] W fun e w' => (∃ A c, e = .returned (.slice A 0 c)) ∧ Below W.heap.size W w') := Lib.hid fun W h => (fs_list [116, 109, 112] w W p _ h.fs (by decide) (by show (4 : Nat) ≤ 1073741824; omega)).mono fun e w' ⟨v, he, ho, hb⟩ => by
      rw [list_clm] at ho
      refine ⟨?_, hb⟩
      rcases ho.2 with ⟨rfl, _⟩ | ⟨g, cap, cur, rfl, _⟩
      · exact ⟨_, _, he⟩
      · exact ⟨_, _, he⟩
    refine wp_region_noPanic ?_
    refine wp_region_held_drew (S := fun W => W.cell? ⟨q13, 1, none⟩ = some (.int .i64 3) ∧ W.cell? ⟨q13 + 1, 0, none⟩ = some (.int .i64 (b : Int)) ∧ W.cell? ⟨q13 + 1, 1, none⟩ = some (.int .i64 1) ∧ W.cell? ⟨q13 + 1, 2, none⟩ = some (.int .i64 2) ∧ W.cell? ⟨q13 + 1, 3, none⟩ = some (.int .i64 z) ∧ W.cell? ⟨q23, 0, none⟩ = some (.int .i64 (b : Int)) ∧ W.cell? ⟨q23, 1, none⟩ = some (.int .i64 1) ∧ W.cell? ⟨q23, 2, none⟩ = some (.int .i64 2) ∧ W.cell? ⟨q23, 3, none⟩ = some (.int .i64 z)) (by kernel_rfl) (HST.out _ (Below.refl _ _).drew) (fun hHeld => ?_)
    refine takeW 0 (some 93) (oi := ?oT28) (v := ?vT28) ?hiT28 ?hdT28 (by kernel_rfl) (by kernel_rfl) (by kernel_rfl) (fun _ _ _ h => h) ?hwT28 ?hyT28 hHeld ?_
    case hiT28 => (simp only [List.getElem?_toArray, List.getElem?_cons_zero]; with_reducible rfl)
    case hdT28 => rfl
    case hwT28 => rfl
    case hyT28 => (intro w hSw; (try dsimp only at hSw); go_simp; first | done | with_reducible rfl)
    try simp only [Act.put]
    try simp only [List.setIfInBounds_toArray, List.set_cons_zero, List.set_cons_succ]
    refine takeW 1 (some 94) (oi := ?oT29) (v := ?vT29) ?hiT29 ?hdT29 (by kernel_rfl) (by kernel_rfl) (by kernel_rfl) (fun _ _ _ h => h) ?hwT29 ?hyT29 hHeld ?_
    case hiT29 => (simp only [List.getElem?_toArray, List.getElem?_cons_succ, List.getElem?_cons_zero]; with_reducible rfl)
    case hdT29 => rfl
    case hwT29 => rfl
    case hyT29 => (intro w hSw; (try dsimp only at hSw); go_simp; first | done | with_reducible rfl)
    try simp only [Act.put]
    try simp only [List.setIfInBounds_toArray, List.set_cons_zero, List.set_cons_succ]
    refine takeW 2 (some 95) (oi := ?oT30) (v := ?vT30) ?hiT30 ?hdT30 (by kernel_rfl) (by kernel_rfl) (by kernel_rfl) (fun _ _ _ h => h) ?hwT30 ?hyT30 hHeld ?_
    case hiT30 => (simp only [List.getElem?_toArray, List.getElem?_cons_succ, List.getElem?_cons_zero]; with_reducible rfl)
    case hdT30 => rfl
    case hwT30 => rfl
    case hyT30 => (intro w hSw; (try dsimp only at hSw); go_simp; first | done | with_reducible rfl)
    try simp only [Act.put]
    try simp only [List.setIfInBounds_toArray, List.set_cons_zero, List.set_cons_succ]
    refine takeW 3 (some 96) (oi := ?oT31) (v := ?vT31) ?hiT31 ?hdT31 (by kernel_rfl) (by kernel_rfl) (by kernel_rfl) (fun _ _ _ h => h) ?hwT31 ?hyT31 hHeld ?_
    case hiT31 => (simp only [List.getElem?_toArray, List.getElem?_cons_succ, List.getElem?_cons_zero]; with_reducible rfl)
    case hdT31 => rfl
    case hwT31 => rfl
    case hyT31 => (intro w hSw; (try dsimp only at hSw); go_simp; first | done | with_reducible rfl)
    try simp only [Act.put]
    try simp only [List.setIfInBounds_toArray, List.set_cons_zero, List.set_cons_succ]
    refine takeW 5 (some 98) (oi := ?oT32) (v := ?vT32) ?hiT32 ?hdT32 (by kernel_rfl) (by kernel_rfl) (by kernel_rfl) (fun _ _ _ h => h) ?hwT32 ?hyT32 hHeld ?_
    case hiT32 => (simp only [List.getElem?_toArray, List.getElem?_cons_succ, List.getElem?_cons_zero]; with_reducible rfl)
    case hdT32 => rfl
    case hwT32 => rfl
    case hyT32 => (intro w hSw; (try dsimp only at hSw); go_simp; first | done | with_reducible rfl)
    try simp only [Act.put]
    try simp only [List.setIfInBounds_toArray, List.set_cons_zero, List.set_cons_succ]
    refine takeW 6 (some 99) (oi := ?oT33) (v := ?vT33) ?hiT33 ?hdT33 (by kernel_rfl) (by kernel_rfl) (by kernel_rfl) (fun _ _ _ h => h) ?hwT33 ?hyT33 hHeld ?_
    case hiT33 => (simp only [List.getElem?_toArray, List.getElem?_cons_succ, List.getElem?_cons_zero]; with_reducible rfl)
    case hdT33 => rfl
    case hwT33 => rfl
    case hyT33 => (intro w hSw; (try dsimp only at hSw); go_simp; first | done | with_reducible rfl)
    try simp only [Act.put]
    try simp only [List.setIfInBounds_toArray, List.set_cons_zero, List.set_cons_succ]
    refine stepOne 4 (o := ?oT34) ?hiT34 (by kernel_rfl) ?hwT34 (fun K hK => ?_)
    case hiT34 => (simp only [List.getElem?_toArray, List.getElem?_cons_succ, List.getElem?_cons_zero]; with_reducible rfl)
    case hwT34 => rfl
    go_simp
    go_at_call 12
    refine (CS.out wE.drew (G12.out.under (Below.refl _ _).drew)).mono ?_
    rintro e w13 ⟨rfl, rfl⟩
    refine hK.out _ _ ?_ (fun hHeld => ?_)
    · exact HST.out _ (Below.refl _ _).drew
    clear hK K
    try simp only [Act.put]
    try simp only [List.setIfInBounds_toArray, List.set_cons_zero, List.set_cons_succ]
    refine takeW 7 (some 100) (oi := ?oT35) (v := ?vT35) ?hiT35 ?hdT35 (by kernel_rfl) (by kernel_rfl) (by kernel_rfl) (fun _ _ _ h => h) ?hwT35 ?hyT35 hHeld ?_
    case hiT35 => (simp only [List.getElem?_toArray, List.getElem?_cons_succ, List.getElem?_cons_zero]; with_reducible rfl)
    case hdT35 => rfl
    case hwT35 => rfl
    case hyT35 => (intro w hSw; (try dsimp only at hSw); go_simp; first | done | with_reducible rfl)
    try simp only [Act.put]
    try simp only [List.setIfInBounds_toArray, List.set_cons_zero, List.set_cons_succ]
    refine takeW 8 (some 101) (oi := ?oT36) (v := ?vT36) ?hiT36 ?hdT36 (by kernel_rfl) (by kernel_rfl) (by kernel_rfl) (fun _ _ _ h => h) ?hwT36 ?hyT36 hHeld ?_
    case hiT36 => (simp only [List.getElem?_toArray, List.getElem?_cons_succ, List.getElem?_cons_zero]; with_reducible rfl)
    case hdT36 => rfl
    case hwT36 => rfl
    case hyT36 => (intro w hSw; (try dsimp only at hSw); go_simp; first | done | with_reducible rfl)
    try simp only [Act.put]
    try simp only [List.setIfInBounds_toArray, List.set_cons_zero, List.set_cons_succ]
    refine takeW 9 (some 102) (oi := ?oT37) (v := ?vT37) ?hiT37 ?hdT37 (by kernel_rfl) (by kernel_rfl) (by kernel_rfl) (fun _ _ _ h => h) ?hwT37 ?hyT37 hHeld ?_
    case hiT37 => (simp only [List.getElem?_toArray, List.getElem?_cons_succ, List.getElem?_cons_zero]; with_reducible rfl)
    case hdT37 => rfl
    case hwT37 => rfl
    case hyT37 => (intro w hSw; (try dsimp only at hSw); go_simp; first | done | with_reducible rfl)
    try simp only [Act.put]
    try simp only [List.setIfInBounds_toArray, List.set_cons_zero, List.set_cons_succ]
    refine takeW 10 (some 103) (oi := ?oT38) (v := ?vT38) ?hiT38 ?hdT38 (by kernel_rfl) (by kernel_rfl) (by kernel_rfl) (fun _ _ _ h => h) ?hwT38 ?hyT38 hHeld ?_
    case hiT38 => (simp only [List.getElem?_toArray, List.getElem?_cons_succ, List.getElem?_cons_zero]; with_reducible rfl)
    case hdT38 => rfl
    case hwT38 => rfl
    case hyT38 => (intro w hSw; (try dsimp only at hSw); go_simp; first | done | with_reducible rfl)
    try simp only [Act.put]
    try simp only [List.setIfInBounds_toArray, List.set_cons_zero, List.set_cons_succ]
    refine takeW 11 (some 104) (oi := ?oT39) (v := ?vT39) ?hiT39 ?hdT39 (by kernel_rfl) (by kernel_rfl) (by kernel_rfl) (fun _ _ _ h => h) ?hwT39 ?hyT39 hHeld ?_
    case hiT39 => (simp only [List.getElem?_toArray, List.getElem?_cons_succ, List.getElem?_cons_zero]; with_reducible rfl)
    case hdT39 => rfl
    case hwT39 => rfl
    case hyT39 => (intro w hSw; (try dsimp only at hSw); go_simp; first | done | with_reducible rfl)
    try simp only [Act.put]
    try simp only [List.setIfInBounds_toArray, List.set_cons_zero, List.set_cons_succ]
    refine takeW 12 (some 105) (oi := ?oT40) (v := ?vT40) ?hiT40 ?hdT40 (by kernel_rfl) (by kernel_rfl) (by kernel_rfl) (fun _ _ _ h => h) ?hwT40 ?hyT40 hHeld ?_
    case hiT40 => (simp only [List.getElem?_toArray, List.getElem?_cons_succ, List.getElem?_cons_zero]; with_reducible rfl)
    case hdT40 => rfl
    case hwT40 => rfl
    case hyT40 => (intro w hSw; (try dsimp only at hSw); go_simp; first | done | with_reducible rfl)
    try simp only [Act.put]
    try simp only [List.setIfInBounds_toArray, List.set_cons_zero, List.set_cons_succ]
    refine takeW 13 (some 106) (oi := ?oT41) (v := ?vT41) ?hiT41 ?hdT41 (by kernel_rfl) (by kernel_rfl) (by kernel_rfl) (fun _ _ _ h => h) ?hwT41 ?hyT41 hHeld ?_
    case hiT41 => (simp only [List.getElem?_toArray, List.getElem?_cons_succ, List.getElem?_cons_zero]; with_reducible rfl)
    case hdT41 => rfl
    case hwT41 => rfl
    case hyT41 => (intro w hSw; (try dsimp only at hSw); go_simp; first | done | with_reducible rfl)
    try simp only [Act.put]
    try simp only [List.setIfInBounds_toArray, List.set_cons_zero, List.set_cons_succ]
    refine takeW 14 (some 107) (oi := ?oT42) (v := ?vT42) ?hiT42 ?hdT42 (by kernel_rfl) (by kernel_rfl) (by kernel_rfl) (fun _ _ _ h => h) ?hwT42 ?hyT42 hHeld ?_
    case hiT42 => (simp only [List.getElem?_toArray, List.getElem?_cons_succ, List.getElem?_cons_zero]; with_reducible rfl)
    case hdT42 => rfl
    case hwT42 => rfl
    case hyT42 => (intro w hSw; (try dsimp only at hSw); go_simp; first | done | with_reducible rfl)
    try simp only [Act.put]
    try simp only [List.setIfInBounds_toArray, List.set_cons_zero, List.set_cons_succ]
    refine takeW 15 (some 108) (oi := ?oT43) (v := ?vT43) ?hiT43 ?hdT43 (by kernel_rfl) (by kernel_rfl) (by kernel_rfl) (fun _ _ _ h => h) ?hwT43 ?hyT43 hHeld ?_
    case hiT43 => (simp only [List.getElem?_toArray, List.getElem?_cons_succ, List.getElem?_cons_zero]; with_reducible rfl)
    case hdT43 => rfl
    case hwT43 => rfl
    case hyT43 => (intro w hSw; (try dsimp only at hSw); go_simp; first | done | with_reducible rfl)
    try simp only [Act.put]
    try simp only [List.setIfInBounds_toArray, List.set_cons_zero, List.set_cons_succ]
    refine takeW 16 (some 109) (oi := ?oT44) (v := ?vT44) ?hiT44 ?hdT44 (by kernel_rfl) (by kernel_rfl) (by kernel_rfl) (fun _ _ _ h => h) ?hwT44 ?hyT44 hHeld ?_
    case hiT44 => (simp only [List.getElem?_toArray, List.getElem?_cons_succ, List.getElem?_cons_zero]; with_reducible rfl)
    case hdT44 => rfl
    case hwT44 => rfl
    case hyT44 => (intro w hSw; (try dsimp only at hSw); go_simp; first | done | with_reducible rfl)
    try simp only [Act.put]
    try simp only [List.setIfInBounds_toArray, List.set_cons_zero, List.set_cons_succ]
    refine takeW 17 (some 110) (oi := ?oT45) (v := ?vT45) ?hiT45 ?hdT45 (by kernel_rfl) (by kernel_rfl) (by kernel_rfl) (fun _ _ _ h => h) ?hwT45 ?hyT45 hHeld ?_
    case hiT45 => (simp only [List.getElem?_toArray, List.getElem?_cons_succ, List.getElem?_cons_zero]; with_reducible rfl)
    case hdT45 => rfl
    case hwT45 => rfl
    case hyT45 => (intro w hSw; (try dsimp only at hSw); go_simp; first | done | with_reducible rfl)
    try simp only [Act.put]
    try simp only [List.setIfInBounds_toArray, List.set_cons_zero, List.set_cons_succ]
    refine takeW 18 (some 111) (oi := ?oT46) (v := ?vT46) ?hiT46 ?hdT46 (by kernel_rfl) (by kernel_rfl) (by kernel_rfl) (fun _ _ _ h => h) ?hwT46 ?hyT46 hHeld ?_
    case hiT46 => (simp only [List.getElem?_toArray, List.getElem?_cons_succ, List.getElem?_cons_zero]; with_reducible rfl)
    case hdT46 => rfl
    case hwT46 => rfl
    case hyT46 => (intro w hSw; (try dsimp only at hSw); go_simp; first | done | with_reducible rfl)
    try simp only [Act.put]
    try simp only [List.setIfInBounds_toArray, List.set_cons_zero, List.set_cons_succ]
    refine stepOne 19 (o := ?oT47) ?hiT47 (by kernel_rfl) ?hwT47 (fun K hK => ?_)
    case hiT47 => (simp only [List.getElem?_toArray, List.getElem?_cons_succ, List.getElem?_cons_zero]; with_reducible rfl)
    case hwT47 => rfl
    go_simp
    go_at_call 15
    refine (CLI.out wE.drew (G12.out.under (Below.refl _ _).drew)).mono ?_
    rintro e w14 ⟨⟨A0, c0, rfl⟩, hb14⟩
    have HB14 : Hid (Below wE.heap.size wE w14) := Lib.hid ((Below.refl wE.heap.size wE).drew.trans hb14)
    clear hb14
    refine hK.out _ _ ?_ (fun hHeld => ?_)
    · exact HST.out _ HB14.out
    clear hK K
    try simp only [Act.put]
    try simp only [List.setIfInBounds_toArray, List.set_cons_zero, List.set_cons_succ]
    refine takeW 20 (some 113) (oi := ?oT48) (v := ?vT48) ?hiT48 ?hdT48 (by kernel_rfl) (by kernel_rfl) (by kernel_rfl) (fun _ _ _ h => h) ?hwT48 ?hyT48 hHeld ?_
    case hiT48 => (simp only [List.getElem?_toArray, List.getElem?_cons_succ, List.getElem?_cons_zero]; with_reducible rfl)
    case hdT48 => rfl
    case hwT48 => rfl
    case hyT48 => (intro w hSw; (try dsimp only at hSw); go_simp; first | done | with_reducible rfl)
    try simp only [Act.put]
    try simp only [List.setIfInBounds_toArray, List.set_cons_zero, List.set_cons_succ]
    refine takeW 21 (some 114) (oi := ?oT49) (v := ?vT49) ?hiT49 ?hdT49 (by kernel_rfl) (by kernel_rfl) (by kernel_rfl) (fun _ _ _ h => h) ?hwT49 ?hyT49 hHeld ?_
    case hiT49 => (simp only [List.getElem?_toArray, List.getElem?_cons_succ, List.getElem?_cons_zero]; with_reducible rfl)
    case hdT49 => rfl
    case hwT49 => rfl
    case hyT49 => (intro w hSw; (try dsimp only at hSw); go_simp; first | done | with_reducible rfl)
    try simp only [Act.put]
    try simp only [List.setIfInBounds_toArray, List.set_cons_zero, List.set_cons_succ]
    refine takeW 22 (some 115) (oi := ?oT50) (v := ?vT50) ?hiT50 ?hdT50 (by kernel_rfl) (by kernel_rfl) (by kernel_rfl) (fun _ _ _ h => h) ?hwT50 ?hyT50 hHeld ?_
    case hiT50 => (simp only [List.getElem?_toArray, List.getElem?_cons_succ, List.getElem?_cons_zero]; with_reducible rfl)
    case hdT50 => rfl
    case hwT50 => rfl
    case hyT50 => (intro w hSw; (try dsimp only at hSw); go_simp; first | done | with_reducible rfl)
    try simp only [Act.put]
    try simp only [List.setIfInBounds_toArray, List.set_cons_zero, List.set_cons_succ]
    refine takeW 23 (some 116) (oi := ?oT51) (v := ?vT51) ?hiT51 ?hdT51 (by kernel_rfl) (by kernel_rfl) (by kernel_rfl) (fun _ _ _ h => h) ?hwT51 ?hyT51 hHeld ?_
    case hiT51 => (simp only [List.getElem?_toArray, List.getElem?_cons_succ, List.getElem?_cons_zero]; with_reducible rfl)
    case hdT51 => rfl
    case hwT51 => rfl
    case hyT51 => (intro w hSw; (try dsimp only at hSw); go_simp; first | done | with_reducible rfl)
    try simp only [Act.put]
    try simp only [List.setIfInBounds_toArray, List.set_cons_zero, List.set_cons_succ]
    refine stepOne 24 (o := ?oT52) ?hiT52 (by kernel_rfl) ?hwT52 (fun K hK => ?_)
    case hiT52 => (simp only [List.getElem?_toArray, List.getElem?_cons_succ, List.getElem?_cons_zero]; with_reducible rfl)
    case hwT52 => rfl
    go_simp
    go_at_call 16
    refine (lawake_any w14 (HT.out.under (G12.out.fs.below.trans (HB14.out.mono G12.out.fs.below.size)))).mono ?_
    rintro e w15 ⟨rfl, hb15⟩
    have HB15 := Lib.hid (HB14.out.trans (hb15.mono HB14.out.size))
    clear hb15
    refine hK.out _ _ ?_ (fun hHeld => ?_)
    · exact HST.out _ HB15.out
    clear hK K
    try simp only [Act.put]
    try simp only [List.setIfInBounds_toArray, List.set_cons_zero, List.set_cons_succ]
    refine takeW 25 (some 118) (oi := ?oT53) (v := ?vT53) ?hiT53 ?hdT53 (by kernel_rfl) (by kernel_rfl) (by kernel_rfl) (fun _ _ _ h => h) ?hwT53 ?hyT53 hHeld ?_
    case hiT53 => (simp only [List.getElem?_toArray, List.getElem?_cons_succ, List.getElem?_cons_zero]; with_reducible rfl)
    case hdT53 => rfl
    case hwT53 => rfl
    case hyT53 => (intro w hSw; (try dsimp only at hSw); go_simp; first | done | with_reducible rfl)
    try simp only [Act.put]
    try simp only [List.setIfInBounds_toArray, List.set_cons_zero, List.set_cons_succ]
    refine takeW 26 (some 8) (oi := ?oT54) (v := ?vT54) ?hiT54 ?hdT54 (by kernel_rfl) (by kernel_rfl) (by kernel_rfl) (fun _ _ _ h => h) ?hwT54 ?hyT54 hHeld ?_
    case hiT54 => (simp only [List.getElem?_toArray, List.getElem?_cons_succ, List.getElem?_cons_zero]; with_reducible rfl)
    case hdT54 => rfl
    case hwT54 => rfl
    case hyT54 => (intro w hSw; (try dsimp only at hSw); go_simp; first | done | with_reducible rfl)
    try simp only [Act.put]
    try simp only [List.setIfInBounds_toArray, List.set_cons_zero, List.set_cons_succ]
    refine wpAnyH_done (by kernel_rfl) ?_ _
    refine NoPanic.normal ?_
    skip
    go_wp2
    go_ret
    exact ⟨rfl, G12.out.fs.below.trans (HB15.out.mono G12.out.fs.below.size)⟩
end Go.Proofs.YtlopabmndliggaaGreatDoor
