/- ArtiForms: bytes that are artifacts, and bytes that are none, are told: rows of such, made of one that is, by hand. -/
import Derived.Test.YtkfmjkoghfcciaaArtiFormsA
namespace Go.Proofs.Ytkfmjkoghfcciaa
set_option maxRecDepth 100000
open Go.ChangeShapes Go.WideShapes Go.ChangeAt Go.RowKit

set_option maxRecDepth 100000 in
set_option maxHeartbeats 16000000 in
theorem aforms_any (which : Int) (w : World) :
    Calls Try.prog 4 #[.int .i64 which] w fun e w' => e = .returned (.bool true) ∧ Below w.heap.size w w' := by
  go_enter Try.func4, Try.ntmps4
  have hP0 : Hid (Pool w w.heap.size []) := Lib.hid (pool_none (Nat.le_refl _))
  have hB0 : Hid (Below w.heap.size w w) := Lib.hid (Below.refl _ _)
  go_wp2_with fail
  refine (anum_is 1 _ w (by decide) rfl).mono ?_
  rintro e w1 ⟨b1, rfl, ho, hb⟩
  have hP1 : Hid (Pool w1 w.heap.size [(b1, (Cd.enc 1))]) := Lib.hid (hP0.out.made hb ho)
  have hB1 : Hid (Below w.heap.size w w1) := Lib.hid (hB0.out.trans (hb.mono hB0.out.size))
  clear ho hb hP0 hB0
  go_wp2_with (at_builtin; refine wpList_append_bytes rfl _ _ rfl w.heap.size _ _ _ [112] rfl ((hP1.out.get 0 rfl).alloc _) rfl (bytes_one w1 112 112 5 (0, 0) rfl (by decide)) (by decide +kernel) ?_ (Cd.enc 1 ++ [112]) rfl ?_)
  case refine_1 => have := hP1.out.1; simp; omega
  case refine_2 =>
    rintro b2 w2 hgr
    have hba : Below w1.heap.size w1 (w1.alloc (.cells #[.int .u8 112] 5)) := (Below.refl _ _).alloc (Nat.le_refl _) _
    have hP2 : Hid (Pool w2 w.heap.size [(b2, (Cd.enc 1 ++ [112]))]) := Lib.hid ((hP1.out.under hba).app 0 rfl hgr)
    have hB2 : Hid (Below w.heap.size w w2) := Lib.hid ((hB1.out.trans (hba.mono hB1.out.size)).trans hgr.2.2.2)
    clear hgr hba hP1 hB1
    go_wp2_with fail
    refine (anum_is 2 _ w2 (by decide) rfl).mono ?_
    rintro e w3 ⟨b3, rfl, ho, hb⟩
    have hP3 : Hid (Pool w3 w.heap.size [(b3, (Cd.enc 2)), (b2, (Cd.enc 1 ++ [112]))]) := Lib.hid (hP2.out.made hb ho)
    have hB3 : Hid (Below w.heap.size w w3) := Lib.hid (hB2.out.trans (hb.mono hB2.out.size))
    clear ho hb hP2 hB2
    go_wp2_with (at_builtin; refine wpList_append_bytes rfl _ _ rfl w.heap.size _ _ _ (Cd.enc 2) rfl (hP3.out.get 1 rfl) rfl (hP3.out.get 0 rfl).bytes (by decide +kernel) ?_ (Cd.enc 1 ++ [112] ++ Cd.enc 2) rfl ?_)
    case refine_1 => exact hP3.out.1
    case refine_2 =>
      rintro b4 w4 hgr
      have hP4 : Hid (Pool w4 w.heap.size [(b3, (Cd.enc 2)), (b4, (Cd.enc 1 ++ [112] ++ Cd.enc 2))]) := Lib.hid (hP3.out.app 1 rfl hgr)
      have hB4 : Hid (Below w.heap.size w w4) := Lib.hid (hB3.out.trans hgr.2.2.2)
      clear hgr hP3 hB3
      go_wp2_with (at_builtin; refine wpList_append_bytes rfl _ _ rfl w.heap.size _ _ _ [118, 119] rfl ((hP4.out.get 1 rfl).alloc _) rfl (bytes_new w4 _ rfl [118, 119] _ _ (by decide) (by decide)) (by decide +kernel) ?_ Ar.fB rfl ?_)
      case refine_1 => have := hP4.out.1; simp; omega
      case refine_2 =>
        rintro b5 w5 hgr
        have hba : Below w4.heap.size w4 (w4.alloc (.cells #[.int .u8 118, .int .u8 119] 5)) := (Below.refl _ _).alloc (Nat.le_refl _) _
        have hP5 : Hid (Pool w5 w.heap.size [(b3, (Cd.enc 2)), (b5, Ar.fB)]) := Lib.hid ((hP4.out.under hba).app 1 rfl hgr)
        have hB5 : Hid (Below w.heap.size w w5) := Lib.hid ((hB4.out.trans (hba.mono hB4.out.size)).trans hgr.2.2.2)
        clear hgr hba hP4 hB4
        obtain ⟨_, _, AB, cAB, hv, hABc, _⟩ := (hP5.out.get 1 rfl).bytes.parts
        subst hv
        obtain ⟨nB, hnB⟩ : ∃ n, (Ar.fB).length = n := ⟨_, rfl⟩
        have HnB := Lib.hid hnB
        rw [hnB] at hP5 hABc
        try rw [hnB]
        clear hnB
        have hnB : nB = 15 := by rw [← HnB.out]; rfl
        subst hnB
        have HBY : Hid (∀ W : World, Below w5.heap.size w5 W → Bytes W (.slice AB 15 cAB) Ar.fB) := Lib.hid (fun W hb => (hP5.out.get 1 rfl).bytes.under hb)
        obtain ⟨wa, hwa⟩ : ∃ wa, wa = w5 := ⟨_, rfl⟩
        rw [← hwa] at HBY hB5 ⊢
        clear hwa hP5
        have HBA := hB5
        clear hB5
        have hw14 : IntKind.i64.wrap (14 : Int) = 14 := by decide
        have hcA : (14 : Int) ≤ (cAB : Int) := by omega
        go_upto_region 3 with fail
        go_cut [5] (fun q wx => ∃ g, q = .slice (some ⟨g, 0, none⟩) 12 12 ∧ Hid (∀ k, k < 12 → ∃ u l ok, wx.cell? ⟨g, k * 2, none⟩ = some u ∧ wx.cell? ⟨g, k * 2 + 1, none⟩ = some (.bool ok) ∧ Bytes wx u l ∧ Ar.FGood l ok) ∧ Hid (Below wa.heap.size wa wx))
        case first =>
          obtain ⟨n20, hn⟩ : ∃ n, (([] ++ Fr.frm Ar.fB)).length = n := ⟨_, rfl⟩
          have HL20 := Lib.hid hn
          clear hn
          obtain ⟨n25, hn⟩ : ∃ n, (([] ++ Fr.frm [])).length = n := ⟨_, rfl⟩
          have HL25 := Lib.hid hn
          clear hn
          obtain ⟨n32, hn⟩ : ∃ n, (([] ++ Fr.frm (Ar.fB.take 14))).length = n := ⟨_, rfl⟩
          have HL32 := Lib.hid hn
          clear hn
          obtain ⟨n39, hn⟩ : ∃ n, (([] ++ Fr.frm (Ar.fB ++ [0]))).length = n := ⟨_, rfl⟩
          have HL39 := Lib.hid hn
          clear hn
          obtain ⟨n42, hn⟩ : ∃ n, (([] ++ Fr.frm Ar.fB)).length = n := ⟨_, rfl⟩
          have HL42 := Lib.hid hn
          clear hn
          obtain ⟨n44, hn⟩ : ∃ n, ((([] ++ Fr.frm Ar.fB) ++ Fr.frm Ar.fB)).length = n := ⟨_, rfl⟩
          have HL44 := Lib.hid hn
          clear hn
          obtain ⟨n51, hn⟩ : ∃ n, (([] ++ Fr.frm (Cd.enc 0 ++ Cd.enc 0))).length = n := ⟨_, rfl⟩
          have HL51 := Lib.hid hn
          clear hn
          obtain ⟨n59, hn⟩ : ∃ n, (([] ++ Fr.frm Ar.z8)).length = n := ⟨_, rfl⟩
          have HL59 := Lib.hid hn
          clear hn
          obtain ⟨n67, hn⟩ : ∃ n, (([] ++ Fr.frm Ar.z9)).length = n := ⟨_, rfl⟩
          have HL67 := Lib.hid hn
          clear hn
          obtain ⟨n75, hn⟩ : ∃ n, (([] ++ Fr.frm Ar.z10)).length = n := ⟨_, rfl⟩
          have HL75 := Lib.hid hn
          clear hn
          obtain ⟨n83, hn⟩ : ∃ n, (([] ++ Fr.frm Ar.z11)).length = n := ⟨_, rfl⟩
          have HL83 := Lib.hid hn
          clear hn
          refine wp_region_noPanic ?_
          refine wp_region_held_drew (S := fun _ => True) (by kernel_rfl) (trivial) (fun hHeld => ?_)
          obtain ⟨wn0, hwn⟩ : ∃ wn, wa.drew = wn := ⟨_, rfl⟩
          have hB0 : Below wa.heap.size wa wn0 := by rw [← hwn]; exact (Below.refl _ _).drew
          have hP0 : Pool wn0 wa.heap.size [] := pool_none hB0.size
          rw [hwn]
          clear hwn
          simp only [List.append_eq, List.cons_append, List.nil_append]
          refine named2 (opsOf Try.f4 3) (by kernel_rfl) (fun X hto hfrom => ?_)
          have HT : ∀ (f : Nat) (l : Array Bool) (a : Act) (W : World) (A20 : Option Addr) (c20 : Nat) (A25 : Option Addr) (c25 : Nat) (A32 : Option Addr) (c32 : Nat) (v38 : Value), f = 36 → l = #[true, true, true, true, true, true, true, true, true, true, true, true, true, true, true, true, true, true, true, true, false, false, true, false, true, false, false, true, false, true, false, false, false, false, true, false, true, false, false, false, false, false, true, false, true, false, false, false, false, false, true, false, false, true, false, false, false, false, true, false, false, true, false, false, false, false, false, false] → a.defers = [] → a.tmps.size = 133 → a.tmps.getD 0 undef = .int .i64 which → a.tmps.getD 1 undef = undef → a.tmps.getD 2 undef = .bool false → a.tmps.getD 6 undef = undef → a.tmps.getD 7 undef = undef → a.tmps.getD 8 undef = undef → a.tmps.getD 9 undef = undef → a.tmps.getD 3 undef = .func (.func 36) #[] #[] → a.tmps.getD 4 undef = .slice AB 15 cAB → a.tmps.getD 38 undef = v38 → a.tmps.getD 21 undef = .agg #[.slice A20 n20 c20, .bool true] → a.tmps.getD 23 undef = .agg #[.slice AB 15 cAB, .bool false] → a.tmps.getD 24 undef = .agg #[.slice none 0 0, .bool false] → a.tmps.getD 26 undef = .agg #[.slice A25 n25 c25, .bool false] → a.tmps.getD 33 undef = .agg #[.slice A32 n32 c32, .bool false] → a.tmps.getD 41 undef = .slice AB 15 cAB → a.tmps.getD 43 undef = .slice AB 15 cAB → a.tmps.getD 46 undef = .func (.func 36) #[] #[] → a.tmps.getD 48 undef = .func (.func 36) #[] #[] → a.tmps.getD 53 undef = .func (.func 36) #[] #[] → a.tmps.getD 55 undef = .func (.func 36) #[] #[] → a.tmps.getD 61 undef = .func (.func 36) #[] #[] → a.tmps.getD 63 undef = .func (.func 36) #[] #[] → a.tmps.getD 69 undef = .func (.func 36) #[] #[] → a.tmps.getD 72 undef = .func (.func 36) #[] #[] → a.tmps.getD 77 undef = .func (.func 36) #[] #[] → a.tmps.getD 80 undef = .func (.func 36) #[] #[] → Pool W wa.heap.size [((.slice A20 n20 c20), ([] ++ Fr.frm Ar.fB)), ((.slice A25 n25 c25), ([] ++ Fr.frm [])), ((.slice A32 n32 c32), ([] ++ Fr.frm (Ar.fB.take 14))), (v38, (Ar.fB ++ [0]))] → Below wa.heap.size wa W → X f l a W := by
            rintro f l a W A20 c20 A25 c25 A32 c32 v38 hf hl hdf hsz h0 h1 h2 h6 h7 h8 h9 h3 h4 h38 h21 h23 h24 h26 h33 h41 h43 h46 h48 h53 h55 h61 h63 h69 h72 h77 h80 hP0 hB0
            refine hto _ _ _ _ (aforms_tail which AB cAB wa HBY n20 n25 n32 n39 n42 n44 n51 n59 n67 n75 n83 HL39 HL42 HL44 HL51 HL59 HL67 HL75 HL83 ?_ f l a W A20 c20 A25 c25 A32 c32 v38 hf hl hdf hsz h0 h1 h2 h6 h7 h8 h9 h3 h4 h38 h21 h23 h24 h26 h33 h41 h43 h46 h48 h53 h55 h61 h63 h69 h72 h77 h80 hP0 hB0)
            clear hto hfrom hf hl hdf hsz h0 h1 h2 h6 h7 h8 h9 h3 h4 h38 h21 h23 h24 h26 h33 h41 h43 h46 h48 h53 h55 h61 h63 h69 h72 h77 h80 hP0 hB0
            rintro ⟨tm, df⟩ W g hdf hsz h0 h1 h2 h3 h4 h5 h6 h7 h8 h9 hF hBw
            dsimp only at hdf hsz h0 h1 h2 h3 h4 h5 h6 h7 h8 h9
            subst hdf
            have hout := slots_out tm 133 hsz
            obtain ⟨y, hy⟩ : ∃ y : Nat → Value, (fun i => tm.getD i undef) = y := ⟨_, rfl⟩
            rw [hy] at hout
            have h0' : y 0 = .int .i64 which := by rw [← hy]; exact h0
            have h1' : y 1 = undef := by rw [← hy]; exact h1
            have h2' : y 2 = .bool false := by rw [← hy]; exact h2
            have h3' : y 3 = .func (.func 36) #[] #[] := by rw [← hy]; exact h3
            have h4' : y 4 = .slice AB 15 cAB := by rw [← hy]; exact h4
            have h5' : y 5 = .slice (some ⟨g, 0, none⟩) 12 12 := by rw [← hy]; exact h5
            have h6' : y 6 = undef := by rw [← hy]; exact h6
            have h7' : y 7 = undef := by rw [← hy]; exact h7
            have h8' : y 8 = undef := by rw [← hy]; exact h8
            have h9' : y 9 = undef := by rw [← hy]; exact h9
            have hlit : tm = #[y 0, y 1, y 2, y 3, y 4, y 5, y 6, y 7, y 8, y 9, y 10, y 11, y 12, y 13, y 14, y 15, y 16, y 17, y 18, y 19, y 20, y 21, y 22, y 23, y 24, y 25, y 26, y 27, y 28, y 29, y 30, y 31, y 32, y 33, y 34, y 35, y 36, y 37, y 38, y 39, y 40, y 41, y 42, y 43, y 44, y 45, y 46, y 47, y 48, y 49, y 50, y 51, y 52, y 53, y 54, y 55, y 56, y 57, y 58, y 59, y 60, y 61, y 62, y 63, y 64, y 65, y 66, y 67, y 68, y 69, y 70, y 71, y 72, y 73, y 74, y 75, y 76, y 77, y 78, y 79, y 80, y 81, y 82, y 83, y 84, y 85, y 86, y 87, y 88, y 89, y 90, y 91, y 92, y 93, y 94, y 95, y 96, y 97, y 98, y 99, y 100, y 101, y 102, y 103, y 104, y 105, y 106, y 107, y 108, y 109, y 110, y 111, y 112, y 113, y 114, y 115, y 116, y 117, y 118, y 119, y 120, y 121, y 122, y 123, y 124, y 125, y 126, y 127, y 128, y 129, y 130, y 131, y 132] := by rw [hout]; kernel_rfl
            rw [h0', h1', h2', h3', h4', h5', h6', h7', h8', h9'] at hlit
            clear hout hsz h0 h1 h2 h3 h4 h5 h6 h7 h8 h9 h0' h1' h2' h3' h4' h5' h6' h7' h8' h9' hy
            subst hlit
            have HFW := Lib.hid hF
            have HBW := Lib.hid hBw
            clear hF hBw
            go_wp2_with fail
            go_meet
            exact ⟨_, rfl, HFW, HBW⟩
          refine takeW 0 (some 19) (oi := ?oT173) (v := ?vT173) ?hiT173 ?hdT173 (by kernel_rfl) (by kernel_rfl) (by kernel_rfl) (fun _ _ _ h => h) ?hwT173 ?hyT173 hHeld ?_
          case hiT173 => (simp only [List.getElem?_toArray, List.getElem?_cons_zero]; with_reducible rfl)
          case hdT173 => rfl
          case hwT173 => rfl
          case hyT173 => (intro w hSw; (try dsimp only at hSw); go_simp; first | done | with_reducible rfl)
          try simp only [Act.put]
          try simp only [List.setIfInBounds_toArray, List.set_cons_zero, List.set_cons_succ]
          refine takeW 3 (some 22) (oi := ?oT174) (v := ?vT174) ?hiT174 ?hdT174 (by kernel_rfl) (by kernel_rfl) (by kernel_rfl) (fun _ _ _ h => h) ?hwT174 ?hyT174 hHeld ?_
          case hiT174 => (simp only [List.getElem?_toArray, List.getElem?_cons_succ, List.getElem?_cons_zero]; with_reducible rfl)
          case hdT174 => rfl
          case hwT174 => rfl
          case hyT174 => (intro w hSw; (try dsimp only at hSw); go_simp; first | done | with_reducible rfl)
          try simp only [Act.put]
          try simp only [List.setIfInBounds_toArray, List.set_cons_zero, List.set_cons_succ]
          refine takeW 4 (some 23) (oi := ?oT175) (v := ?vT175) ?hiT175 ?hdT175 (by kernel_rfl) (by kernel_rfl) (by kernel_rfl) (fun _ _ _ h => h) ?hwT175 ?hyT175 hHeld ?_
          case hiT175 => (simp only [List.getElem?_toArray, List.getElem?_cons_succ, List.getElem?_cons_zero]; with_reducible rfl)
          case hdT175 => rfl
          case hwT175 => rfl
          case hyT175 => (intro w hSw; (try dsimp only at hSw); go_simp; first | done | with_reducible rfl)
          try simp only [Act.put]
          try simp only [List.setIfInBounds_toArray, List.set_cons_zero, List.set_cons_succ]
          refine takeW 5 (some 24) (oi := ?oT176) (v := ?vT176) ?hiT176 ?hdT176 (by kernel_rfl) (by kernel_rfl) (by kernel_rfl) (fun _ _ _ h => h) ?hwT176 ?hyT176 hHeld ?_
          case hiT176 => (simp only [List.getElem?_toArray, List.getElem?_cons_succ, List.getElem?_cons_zero]; with_reducible rfl)
          case hdT176 => rfl
          case hwT176 => rfl
          case hyT176 => (intro w hSw; (try dsimp only at hSw); go_simp; first | done | with_reducible rfl)
          try simp only [Act.put]
          try simp only [List.setIfInBounds_toArray, List.set_cons_zero, List.set_cons_succ]
          refine takeW 8 (some 27) (oi := ?oT177) (v := ?vT177) ?hiT177 ?hdT177 (by kernel_rfl) (by kernel_rfl) (by kernel_rfl) (fun _ _ _ h => h) ?hwT177 ?hyT177 hHeld ?_
          case hiT177 => (simp only [List.getElem?_toArray, List.getElem?_cons_succ, List.getElem?_cons_zero]; with_reducible rfl)
          case hdT177 => rfl
          case hwT177 => rfl
          case hyT177 => (intro w hSw; (try dsimp only at hSw); go_simp; first | done | with_reducible rfl)
          try simp only [Act.put]
          try simp only [List.setIfInBounds_toArray, List.set_cons_zero, List.set_cons_succ]
          refine takeW 9 (some 28) (oi := ?oT178) (v := ?vT178) ?hiT178 ?hdT178 (by kernel_rfl) (by kernel_rfl) (by kernel_rfl) (fun _ _ _ h => h) ?hwT178 ?hyT178 hHeld ?_
          case hiT178 => (simp only [List.getElem?_toArray, List.getElem?_cons_succ, List.getElem?_cons_zero]; with_reducible rfl)
          case hdT178 => rfl
          case hwT178 => rfl
          case hyT178 => (intro w hSw; (try dsimp only at hSw); go_simp; first | done | with_reducible rfl)
          try simp only [Act.put]
          try simp only [List.setIfInBounds_toArray, List.set_cons_zero, List.set_cons_succ]
          refine takeW 10 (some 29) (oi := ?oT179) (v := ?vT179) ?hiT179 ?hdT179 (by kernel_rfl) (by kernel_rfl) (by kernel_rfl) (fun _ _ _ h => h) ?hwT179 ?hyT179 hHeld ?_
          case hiT179 => (simp only [List.getElem?_toArray, List.getElem?_cons_succ, List.getElem?_cons_zero]; with_reducible rfl)
          case hdT179 => rfl
          case hwT179 => rfl
          case hyT179 => (intro w hSw; (try dsimp only at hSw); go_simp; first | done | with_reducible rfl)
          try simp only [Act.put]
          try simp only [List.setIfInBounds_toArray, List.set_cons_zero, List.set_cons_succ]
          refine takeW 11 (some 30) (oi := ?oT180) (v := ?vT180) ?hiT180 ?hdT180 (by kernel_rfl) (by kernel_rfl) (by kernel_rfl) (fun _ _ _ h => h) ?hwT180 ?hyT180 hHeld ?_
          case hiT180 => (simp only [List.getElem?_toArray, List.getElem?_cons_succ, List.getElem?_cons_zero]; with_reducible rfl)
          case hdT180 => rfl
          case hwT180 => rfl
          case hyT180 => (intro w hSw; (try dsimp only at hSw); go_simp; first | done | with_reducible rfl)
          try simp only [Act.put]
          try simp only [List.setIfInBounds_toArray, List.set_cons_zero, List.set_cons_succ]
          refine takeW 12 (some 31) (oi := ?oT181) (v := ?vT181) ?hiT181 ?hdT181 (by kernel_rfl) (by kernel_rfl) (by kernel_rfl) (fun _ _ _ h => h) ?hwT181 ?hyT181 hHeld ?_
          case hiT181 => (simp only [List.getElem?_toArray, List.getElem?_cons_succ, List.getElem?_cons_zero]; with_reducible rfl)
          case hdT181 => rfl
          case hwT181 => rfl
          case hyT181 => (intro w hSw; (try dsimp only at hSw); go_simp; first | done | with_reducible rfl)
          try simp only [Act.put]
          try simp only [List.setIfInBounds_toArray, List.set_cons_zero, List.set_cons_succ]
          refine takeW 16 (some 35) (oi := ?oT182) (v := ?vT182) ?hiT182 ?hdT182 (by kernel_rfl) (by kernel_rfl) (by kernel_rfl) (fun _ _ _ h => h) ?hwT182 ?hyT182 hHeld ?_
          case hiT182 => (simp only [List.getElem?_toArray, List.getElem?_cons_succ, List.getElem?_cons_zero]; with_reducible rfl)
          case hdT182 => rfl
          case hwT182 => rfl
          case hyT182 => (intro w hSw; (try dsimp only at hSw); go_simp; first | done | with_reducible rfl)
          try simp only [Act.put]
          try simp only [List.setIfInBounds_toArray, List.set_cons_zero, List.set_cons_succ]
          refine takeW 22 (some 41) (oi := ?oT183) (v := ?vT183) ?hiT183 ?hdT183 (by kernel_rfl) (by kernel_rfl) (by kernel_rfl) (fun _ _ _ h => h) ?hwT183 ?hyT183 hHeld ?_
          case hiT183 => (simp only [List.getElem?_toArray, List.getElem?_cons_succ, List.getElem?_cons_zero]; with_reducible rfl)
          case hdT183 => rfl
          case hwT183 => rfl
          case hyT183 => (intro w hSw; (try dsimp only at hSw); go_simp; first | done | with_reducible rfl)
          try simp only [Act.put]
          try simp only [List.setIfInBounds_toArray, List.set_cons_zero, List.set_cons_succ]
          refine takeW 24 (some 43) (oi := ?oT184) (v := ?vT184) ?hiT184 ?hdT184 (by kernel_rfl) (by kernel_rfl) (by kernel_rfl) (fun _ _ _ h => h) ?hwT184 ?hyT184 hHeld ?_
          case hiT184 => (simp only [List.getElem?_toArray, List.getElem?_cons_succ, List.getElem?_cons_zero]; with_reducible rfl)
          case hdT184 => rfl
          case hwT184 => rfl
          case hyT184 => (intro w hSw; (try dsimp only at hSw); go_simp; first | done | with_reducible rfl)
          try simp only [Act.put]
          try simp only [List.setIfInBounds_toArray, List.set_cons_zero, List.set_cons_succ]
          refine takeW 27 (some 46) (oi := ?oT185) (v := ?vT185) ?hiT185 ?hdT185 (by kernel_rfl) (by kernel_rfl) (by kernel_rfl) (fun _ _ _ h => h) ?hwT185 ?hyT185 hHeld ?_
          case hiT185 => (simp only [List.getElem?_toArray, List.getElem?_cons_succ, List.getElem?_cons_zero]; with_reducible rfl)
          case hdT185 => rfl
          case hwT185 => rfl
          case hyT185 => (intro w hSw; (try dsimp only at hSw); go_simp; first | done | with_reducible rfl)
          try simp only [Act.put]
          try simp only [List.setIfInBounds_toArray, List.set_cons_zero, List.set_cons_succ]
          refine takeW 29 (some 48) (oi := ?oT186) (v := ?vT186) ?hiT186 ?hdT186 (by kernel_rfl) (by kernel_rfl) (by kernel_rfl) (fun _ _ _ h => h) ?hwT186 ?hyT186 hHeld ?_
          case hiT186 => (simp only [List.getElem?_toArray, List.getElem?_cons_succ, List.getElem?_cons_zero]; with_reducible rfl)
          case hdT186 => rfl
          case hwT186 => rfl
          case hyT186 => (intro w hSw; (try dsimp only at hSw); go_simp; first | done | with_reducible rfl)
          try simp only [Act.put]
          try simp only [List.setIfInBounds_toArray, List.set_cons_zero, List.set_cons_succ]
          refine takeW 34 (some 53) (oi := ?oT187) (v := ?vT187) ?hiT187 ?hdT187 (by kernel_rfl) (by kernel_rfl) (by kernel_rfl) (fun _ _ _ h => h) ?hwT187 ?hyT187 hHeld ?_
          case hiT187 => (simp only [List.getElem?_toArray, List.getElem?_cons_succ, List.getElem?_cons_zero]; with_reducible rfl)
          case hdT187 => rfl
          case hwT187 => rfl
          case hyT187 => (intro w hSw; (try dsimp only at hSw); go_simp; first | done | with_reducible rfl)
          try simp only [Act.put]
          try simp only [List.setIfInBounds_toArray, List.set_cons_zero, List.set_cons_succ]
          refine takeW 36 (some 55) (oi := ?oT188) (v := ?vT188) ?hiT188 ?hdT188 (by kernel_rfl) (by kernel_rfl) (by kernel_rfl) (fun _ _ _ h => h) ?hwT188 ?hyT188 hHeld ?_
          case hiT188 => (simp only [List.getElem?_toArray, List.getElem?_cons_succ, List.getElem?_cons_zero]; with_reducible rfl)
          case hdT188 => rfl
          case hwT188 => rfl
          case hyT188 => (intro w hSw; (try dsimp only at hSw); go_simp; first | done | with_reducible rfl)
          try simp only [Act.put]
          try simp only [List.setIfInBounds_toArray, List.set_cons_zero, List.set_cons_succ]
          refine takeW 42 (some 61) (oi := ?oT189) (v := ?vT189) ?hiT189 ?hdT189 (by kernel_rfl) (by kernel_rfl) (by kernel_rfl) (fun _ _ _ h => h) ?hwT189 ?hyT189 hHeld ?_
          case hiT189 => (simp only [List.getElem?_toArray, List.getElem?_cons_succ, List.getElem?_cons_zero]; with_reducible rfl)
          case hdT189 => rfl
          case hwT189 => rfl
          case hyT189 => (intro w hSw; (try dsimp only at hSw); go_simp; first | done | with_reducible rfl)
          try simp only [Act.put]
          try simp only [List.setIfInBounds_toArray, List.set_cons_zero, List.set_cons_succ]
          refine takeW 44 (some 63) (oi := ?oT190) (v := ?vT190) ?hiT190 ?hdT190 (by kernel_rfl) (by kernel_rfl) (by kernel_rfl) (fun _ _ _ h => h) ?hwT190 ?hyT190 hHeld ?_
          case hiT190 => (simp only [List.getElem?_toArray, List.getElem?_cons_succ, List.getElem?_cons_zero]; with_reducible rfl)
          case hdT190 => rfl
          case hwT190 => rfl
          case hyT190 => (intro w hSw; (try dsimp only at hSw); go_simp; first | done | with_reducible rfl)
          try simp only [Act.put]
          try simp only [List.setIfInBounds_toArray, List.set_cons_zero, List.set_cons_succ]
          refine takeW 50 (some 69) (oi := ?oT191) (v := ?vT191) ?hiT191 ?hdT191 (by kernel_rfl) (by kernel_rfl) (by kernel_rfl) (fun _ _ _ h => h) ?hwT191 ?hyT191 hHeld ?_
          case hiT191 => (simp only [List.getElem?_toArray, List.getElem?_cons_succ, List.getElem?_cons_zero]; with_reducible rfl)
          case hdT191 => rfl
          case hwT191 => rfl
          case hyT191 => (intro w hSw; (try dsimp only at hSw); go_simp; first | done | with_reducible rfl)
          try simp only [Act.put]
          try simp only [List.setIfInBounds_toArray, List.set_cons_zero, List.set_cons_succ]
          refine takeW 53 (some 72) (oi := ?oT192) (v := ?vT192) ?hiT192 ?hdT192 (by kernel_rfl) (by kernel_rfl) (by kernel_rfl) (fun _ _ _ h => h) ?hwT192 ?hyT192 hHeld ?_
          case hiT192 => (simp only [List.getElem?_toArray, List.getElem?_cons_succ, List.getElem?_cons_zero]; with_reducible rfl)
          case hdT192 => rfl
          case hwT192 => rfl
          case hyT192 => (intro w hSw; (try dsimp only at hSw); go_simp; first | done | with_reducible rfl)
          try simp only [Act.put]
          try simp only [List.setIfInBounds_toArray, List.set_cons_zero, List.set_cons_succ]
          refine takeW 58 (some 77) (oi := ?oT193) (v := ?vT193) ?hiT193 ?hdT193 (by kernel_rfl) (by kernel_rfl) (by kernel_rfl) (fun _ _ _ h => h) ?hwT193 ?hyT193 hHeld ?_
          case hiT193 => (simp only [List.getElem?_toArray, List.getElem?_cons_succ, List.getElem?_cons_zero]; with_reducible rfl)
          case hdT193 => rfl
          case hwT193 => rfl
          case hyT193 => (intro w hSw; (try dsimp only at hSw); go_simp; first | done | with_reducible rfl)
          try simp only [Act.put]
          try simp only [List.setIfInBounds_toArray, List.set_cons_zero, List.set_cons_succ]
          refine takeW 61 (some 80) (oi := ?oT194) (v := ?vT194) ?hiT194 ?hdT194 (by kernel_rfl) (by kernel_rfl) (by kernel_rfl) (fun _ _ _ h => h) ?hwT194 ?hyT194 hHeld ?_
          case hiT194 => (simp only [List.getElem?_toArray, List.getElem?_cons_succ, List.getElem?_cons_zero]; with_reducible rfl)
          case hdT194 => rfl
          case hwT194 => rfl
          case hyT194 => (intro w hSw; (try dsimp only at hSw); go_simp; first | done | with_reducible rfl)
          try simp only [Act.put]
          try simp only [List.setIfInBounds_toArray, List.set_cons_zero, List.set_cons_succ]
          refine wpAnyH_ready (rs := [1, 15, 18]) (by kernel_rfl) (by simp) ?_
          refine stepOf 1 (o := ?oT195) ?hiT195 ?hwT195 (fun K hK => ?_) ?_
          case hiT195 => (simp only [List.getElem?_toArray, List.getElem?_cons_succ, List.getElem?_cons_zero]; with_reducible rfl)
          case hwT195 => rfl
          · as_aux_lemma =>
              go_simp
              go_at_call 38
              refine (refput_is _ _ [] Ar.fB _ _ (bytes_none _) (HBY.out _ hB0) (by decide +kernel) (by decide +kernel) rfl).mono ?_
              rintro e wn1 ⟨v20, rfl, ho, hb⟩
              obtain ⟨_, _, A20, c20, hv, _, _⟩ := ho.bytes.parts
              rw [HL20.out] at hv
              subst hv
              have hP1 : Pool wn1 wa.heap.size [((.slice A20 n20 c20), ([] ++ Fr.frm Ar.fB))] := hP0.made hb ho
              have hB1 := hB0.trans (hb.mono hB0.size)
              clear ho hb hP0 hB0
              refine hK.out _ _ ?_ (fun hHeld => ?_)
              · trivial
              clear hK K
              try simp only [Act.put]
              try simp only [List.setIfInBounds_toArray, List.set_cons_zero, List.set_cons_succ]
              refine takeW 2 (some 21) (oi := ?oT196) (v := ?vT196) ?hiT196 ?hdT196 (by kernel_rfl) (by kernel_rfl) (by kernel_rfl) (fun _ _ _ h => h) ?hwT196 ?hyT196 hHeld ?_
              case hiT196 => (simp only [List.getElem?_toArray, List.getElem?_cons_succ, List.getElem?_cons_zero]; with_reducible rfl)
              case hdT196 => rfl
              case hwT196 => rfl
              case hyT196 => (intro w hSw; (try dsimp only at hSw); go_simp; first | done | with_reducible rfl)
              try simp only [Act.put]
              try simp only [List.setIfInBounds_toArray, List.set_cons_zero, List.set_cons_succ]
              refine wpAnyH_ready (rs := [6, 15, 18]) (by kernel_rfl) (by simp) ?_
              refine stepOf 6 (o := ?oT197) ?hiT197 ?hwT197 (fun K hK => ?_) ?_
              case hiT197 => (simp only [List.getElem?_toArray, List.getElem?_cons_succ, List.getElem?_cons_zero]; with_reducible rfl)
              case hwT197 => rfl
              · as_aux_lemma =>
                  go_simp
                  go_at_call 38
                  refine (refput_is _ _ [] [] _ _ (bytes_none _) (bytes_none _) (by decide +kernel) (by decide +kernel) rfl).mono ?_
                  rintro e wn2 ⟨v25, rfl, ho, hb⟩
                  obtain ⟨_, _, A25, c25, hv, _, _⟩ := ho.bytes.parts
                  rw [HL25.out] at hv
                  subst hv
                  have hP2 : Pool wn2 wa.heap.size [((.slice A25 n25 c25), ([] ++ Fr.frm [])), ((.slice A20 n20 c20), ([] ++ Fr.frm Ar.fB))] := hP1.made hb ho
                  have hB2 := hB1.trans (hb.mono hB1.size)
                  clear ho hb hP1 hB1
                  refine hK.out _ _ ?_ (fun hHeld => ?_)
                  · trivial
                  clear hK K
                  try simp only [Act.put]
                  try simp only [List.setIfInBounds_toArray, List.set_cons_zero, List.set_cons_succ]
                  refine takeW 7 (some 26) (oi := ?oT198) (v := ?vT198) ?hiT198 ?hdT198 (by kernel_rfl) (by kernel_rfl) (by kernel_rfl) (fun _ _ _ h => h) ?hwT198 ?hyT198 hHeld ?_
                  case hiT198 => (simp only [List.getElem?_toArray, List.getElem?_cons_succ, List.getElem?_cons_zero]; with_reducible rfl)
                  case hdT198 => rfl
                  case hwT198 => rfl
                  case hyT198 => (intro w hSw; (try dsimp only at hSw); go_simp; first | done | with_reducible rfl)
                  try simp only [Act.put]
                  try simp only [List.setIfInBounds_toArray, List.set_cons_zero, List.set_cons_succ]
                  refine wpAnyH_ready (rs := [13, 15, 18]) (by kernel_rfl) (by simp) ?_
                  refine stepOf 13 (o := ?oT199) ?hiT199 ?hwT199 (fun K hK => ?_) ?_
                  case hiT199 => (simp only [List.getElem?_toArray, List.getElem?_cons_succ, List.getElem?_cons_zero]; with_reducible rfl)
                  case hwT199 => rfl
                  · skip
                    go_simp
                    go_at_call 38
                    refine (refput_is _ _ [] (Ar.fB.take 14) _ _ (bytes_none _) ((HBY.out _ hB2).head (k := 14) (by decide) (by omega)) (by decide +kernel) (by decide +kernel) rfl).mono ?_
                    rintro e wn3 ⟨v32, rfl, ho, hb⟩
                    obtain ⟨_, _, A32, c32, hv, _, _⟩ := ho.bytes.parts
                    rw [HL32.out] at hv
                    subst hv
                    have hP3 : Pool wn3 wa.heap.size [((.slice A32 n32 c32), ([] ++ Fr.frm (Ar.fB.take 14))), ((.slice A25 n25 c25), ([] ++ Fr.frm [])), ((.slice A20 n20 c20), ([] ++ Fr.frm Ar.fB))] := hP2.made hb ho
                    have hB3 := hB2.trans (hb.mono hB2.size)
                    clear ho hb hP2 hB2
                    refine hK.out _ _ ?_ (fun hHeld => ?_)
                    · trivial
                    clear hK K
                    try simp only [Act.put]
                    try simp only [List.setIfInBounds_toArray, List.set_cons_zero, List.set_cons_succ]
                    refine takeW 14 (some 33) (oi := ?oT200) (v := ?vT200) ?hiT200 ?hdT200 (by kernel_rfl) (by kernel_rfl) (by kernel_rfl) (fun _ _ _ h => h) ?hwT200 ?hyT200 hHeld ?_
                    case hiT200 => (simp only [List.getElem?_toArray, List.getElem?_cons_succ, List.getElem?_cons_zero]; with_reducible rfl)
                    case hdT200 => rfl
                    case hwT200 => rfl
                    case hyT200 => (intro w hSw; (try dsimp only at hSw); go_simp; first | done | with_reducible rfl)
                    try simp only [Act.put]
                    try simp only [List.setIfInBounds_toArray, List.set_cons_zero, List.set_cons_succ]
                    refine wpAnyH_ready (rs := [15, 18]) (by kernel_rfl) (by simp) ?_
                    refine stepOf 15 (o := ?oT201) ?hiT201 ?hwT201 (fun K hK => ?_) ?_
                    case hiT201 => (simp only [List.getElem?_toArray, List.getElem?_cons_succ, List.getElem?_cons_zero]; with_reducible rfl)
                    case hwT201 => rfl
                    · skip
                      go_simp
                      have hP4 := hP3.nil
                      have hB4 := hB3.alloc hP3.1 (.cells #[] 5)
                      obtain ⟨g34, hg⟩ : ∃ g, wn3.heap.size = g := ⟨_, rfl⟩
                      obtain ⟨wn4, hwm⟩ : ∃ wm, wn3.alloc (.cells #[] 5) = wm := ⟨_, rfl⟩
                      have hP4' : Pool wn4 wa.heap.size [((.slice (some ⟨g34, 0, none⟩) 0 0), []), ((.slice A32 n32 c32), ([] ++ Fr.frm (Ar.fB.take 14))), ((.slice A25 n25 c25), ([] ++ Fr.frm [])), ((.slice A20 n20 c20), ([] ++ Fr.frm Ar.fB))] := by rw [← hwm, ← hg]; exact hP4
                      rw [hwm] at hB4 ⊢
                      rw [hg]
                      clear hwm hg hP4 hP3 hB3
                      have hP4 := hP4'
                      clear hP4'
                      refine hK.out _ _ ?_ (fun hHeld => ?_)
                      · trivial
                      clear hK K
                      try simp only [Act.put]
                      try simp only [List.setIfInBounds_toArray, List.set_cons_zero, List.set_cons_succ]
                      refine wpAnyH_ready (rs := [17, 18]) (by kernel_rfl) (by simp) ?_
                      refine stepOf 17 (o := ?oT202) ?hiT202 ?hwT202 (fun K hK => ?_) ?_
                      case hiT202 => (simp only [List.getElem?_toArray, List.getElem?_cons_succ, List.getElem?_cons_zero]; with_reducible rfl)
                      case hwT202 => rfl
                      · skip
                        refine wp_append_bytes (.tmp 34) (.tmp 35) rfl wa.heap.size _ _ _ _ rfl (hP4.get 0 rfl) rfl (HBY.out _ hB4) (by decide +kernel) hP4.1 Ar.fB rfl ?_
                        rintro v36 wn5 hgr
                        have hP5 : Pool wn5 wa.heap.size [(v36, Ar.fB), ((.slice A32 n32 c32), ([] ++ Fr.frm (Ar.fB.take 14))), ((.slice A25 n25 c25), ([] ++ Fr.frm [])), ((.slice A20 n20 c20), ([] ++ Fr.frm Ar.fB))] := hP4.app 0 rfl hgr
                        have hB5 := hB4.trans hgr.2.2.2
                        clear hgr hP4 hB4
                        refine hK.out _ _ ?_ (fun hHeld => ?_)
                        · trivial
                        clear hK K
                        try simp only [Act.put]
                        try simp only [List.setIfInBounds_toArray, List.set_cons_zero, List.set_cons_succ]
                        refine stepOne 18 (o := ?oT203) ?hiT203 (by kernel_rfl) ?hwT203 (fun K hK => ?_)
                        case hiT203 => (simp only [List.getElem?_toArray, List.getElem?_cons_succ, List.getElem?_cons_zero]; with_reducible rfl)
                        case hwT203 => rfl
                        go_simp
                        have hP6 := hP5.one 0 (by decide)
                        have hB6 := hB5.alloc hP5.1 (.cells #[.int .u8 0] 5)
                        obtain ⟨g37, hg⟩ : ∃ g, wn5.heap.size = g := ⟨_, rfl⟩
                        obtain ⟨wn6, hwm⟩ : ∃ wm, wn5.alloc (.cells #[.int .u8 0] 5) = wm := ⟨_, rfl⟩
                        have hP6' : Pool wn6 wa.heap.size [((.slice (some ⟨g37, 0, none⟩) 1 1), [0]), (v36, Ar.fB), ((.slice A32 n32 c32), ([] ++ Fr.frm (Ar.fB.take 14))), ((.slice A25 n25 c25), ([] ++ Fr.frm [])), ((.slice A20 n20 c20), ([] ++ Fr.frm Ar.fB))] := by rw [← hwm, ← hg]; exact hP6
                        rw [hwm] at hB6 ⊢
                        rw [hg]
                        clear hwm hg hP6 hP5 hB5
                        have hP6 := hP6'
                        clear hP6'
                        refine hK.out _ _ ?_ (fun hHeld => ?_)
                        · trivial
                        clear hK K
                        try simp only [Act.put]
                        try simp only [List.setIfInBounds_toArray, List.set_cons_zero, List.set_cons_succ]
                        refine stepOne 19 (o := ?oT204) ?hiT204 (by kernel_rfl) ?hwT204 (fun K hK => ?_)
                        case hiT204 => (simp only [List.getElem?_toArray, List.getElem?_cons_succ, List.getElem?_cons_zero]; with_reducible rfl)
                        case hwT204 => rfl
                        refine wp_append_bytes (.tmp 36) (.tmp 37) rfl wa.heap.size _ _ _ _ rfl (hP6.get 1 rfl) rfl (hP6.get 0 rfl).bytes (by decide +kernel) hP6.1 (Ar.fB ++ [0]) rfl ?_
                        rintro v38 wn7 hgr
                        have hP7 : Pool wn7 wa.heap.size [((.slice (some ⟨g37, 0, none⟩) 1 1), [0]), (v38, (Ar.fB ++ [0])), ((.slice A32 n32 c32), ([] ++ Fr.frm (Ar.fB.take 14))), ((.slice A25 n25 c25), ([] ++ Fr.frm [])), ((.slice A20 n20 c20), ([] ++ Fr.frm Ar.fB))] := hP6.app 1 rfl hgr
                        have hB7 := hB6.trans hgr.2.2.2
                        clear hgr hP6 hB6
                        refine hK.out _ _ ?_ (fun hHeld => ?_)
                        · trivial
                        clear hK K
                        try simp only [Act.put]
                        try simp only [List.setIfInBounds_toArray, List.set_cons_zero, List.set_cons_succ]
                        exact hfrom _ _ _ _ (HT _ _ _ _ A20 c20 A25 c25 A32 c32 v38 rfl (by kernel_rfl) rfl rfl rfl rfl rfl rfl rfl rfl rfl rfl rfl rfl rfl rfl rfl rfl rfl rfl rfl rfl rfl rfl rfl rfl rfl rfl rfl rfl rfl (hP7.pick [4, 3, 2, 1] (by decide) (by intro i hi; simp at hi ⊢; omega)) hB7)
                      refine stepOf 18 (o := ?oT205) ?hiT205 ?hwT205 (fun K hK => ?_) AllReadyH.nil
                      case hiT205 => (simp only [List.getElem?_toArray, List.getElem?_cons_succ, List.getElem?_cons_zero]; with_reducible rfl)
                      case hwT205 => rfl
                      go_simp
                      have hP5 := hP4.one 0 (by decide)
                      have hB5 := hB4.alloc hP4.1 (.cells #[.int .u8 0] 5)
                      obtain ⟨g37, hg⟩ : ∃ g, wn4.heap.size = g := ⟨_, rfl⟩
                      obtain ⟨wn5, hwm⟩ : ∃ wm, wn4.alloc (.cells #[.int .u8 0] 5) = wm := ⟨_, rfl⟩
                      have hP5' : Pool wn5 wa.heap.size [((.slice (some ⟨g37, 0, none⟩) 1 1), [0]), ((.slice (some ⟨g34, 0, none⟩) 0 0), []), ((.slice A32 n32 c32), ([] ++ Fr.frm (Ar.fB.take 14))), ((.slice A25 n25 c25), ([] ++ Fr.frm [])), ((.slice A20 n20 c20), ([] ++ Fr.frm Ar.fB))] := by rw [← hwm, ← hg]; exact hP5
                      rw [hwm] at hB5 ⊢
                      rw [hg]
                      clear hwm hg hP5 hP4 hB4
                      have hP5 := hP5'
                      clear hP5'
                      refine hK.out _ _ ?_ (fun hHeld => ?_)
                      · trivial
                      clear hK K
                      try simp only [Act.put]
                      try simp only [List.setIfInBounds_toArray, List.set_cons_zero, List.set_cons_succ]
                      refine stepOne 17 (o := ?oT206) ?hiT206 (by kernel_rfl) ?hwT206 (fun K hK => ?_)
                      case hiT206 => (simp only [List.getElem?_toArray, List.getElem?_cons_succ, List.getElem?_cons_zero]; with_reducible rfl)
                      case hwT206 => rfl
                      refine wp_append_bytes (.tmp 34) (.tmp 35) rfl wa.heap.size _ _ _ _ rfl (hP5.get 1 rfl) rfl (HBY.out _ hB5) (by decide +kernel) hP5.1 Ar.fB rfl ?_
                      rintro v36 wn6 hgr
                      have hP6 : Pool wn6 wa.heap.size [((.slice (some ⟨g37, 0, none⟩) 1 1), [0]), (v36, Ar.fB), ((.slice A32 n32 c32), ([] ++ Fr.frm (Ar.fB.take 14))), ((.slice A25 n25 c25), ([] ++ Fr.frm [])), ((.slice A20 n20 c20), ([] ++ Fr.frm Ar.fB))] := hP5.app 1 rfl hgr
                      have hB6 := hB5.trans hgr.2.2.2
                      clear hgr hP5 hB5
                      refine hK.out _ _ ?_ (fun hHeld => ?_)
                      · trivial
                      clear hK K
                      try simp only [Act.put]
                      try simp only [List.setIfInBounds_toArray, List.set_cons_zero, List.set_cons_succ]
                      refine stepOne 19 (o := ?oT207) ?hiT207 (by kernel_rfl) ?hwT207 (fun K hK => ?_)
                      case hiT207 => (simp only [List.getElem?_toArray, List.getElem?_cons_succ, List.getElem?_cons_zero]; with_reducible rfl)
                      case hwT207 => rfl
                      refine wp_append_bytes (.tmp 36) (.tmp 37) rfl wa.heap.size _ _ _ _ rfl (hP6.get 1 rfl) rfl (hP6.get 0 rfl).bytes (by decide +kernel) hP6.1 (Ar.fB ++ [0]) rfl ?_
                      rintro v38 wn7 hgr
                      have hP7 : Pool wn7 wa.heap.size [((.slice (some ⟨g37, 0, none⟩) 1 1), [0]), (v38, (Ar.fB ++ [0])), ((.slice A32 n32 c32), ([] ++ Fr.frm (Ar.fB.take 14))), ((.slice A25 n25 c25), ([] ++ Fr.frm [])), ((.slice A20 n20 c20), ([] ++ Fr.frm Ar.fB))] := hP6.app 1 rfl hgr
                      have hB7 := hB6.trans hgr.2.2.2
                      clear hgr hP6 hB6
                      refine hK.out _ _ ?_ (fun hHeld => ?_)
                      · trivial
                      clear hK K
                      try simp only [Act.put]
                      try simp only [List.setIfInBounds_toArray, List.set_cons_zero, List.set_cons_succ]
                      exact hfrom _ _ _ _ (HT _ _ _ _ A20 c20 A25 c25 A32 c32 v38 rfl (by kernel_rfl) rfl rfl rfl rfl rfl rfl rfl rfl rfl rfl rfl rfl rfl rfl rfl rfl rfl rfl rfl rfl rfl rfl rfl rfl rfl rfl rfl rfl rfl (hP7.pick [4, 3, 2, 1] (by decide) (by intro i hi; simp at hi ⊢; omega)) hB7)
                    refine stepOf 18 (o := ?oT208) ?hiT208 ?hwT208 (fun K hK => ?_) AllReadyH.nil
                    case hiT208 => (simp only [List.getElem?_toArray, List.getElem?_cons_succ, List.getElem?_cons_zero]; with_reducible rfl)
                    case hwT208 => rfl
                    go_simp
                    have hP4 := hP3.one 0 (by decide)
                    have hB4 := hB3.alloc hP3.1 (.cells #[.int .u8 0] 5)
                    obtain ⟨g37, hg⟩ : ∃ g, wn3.heap.size = g := ⟨_, rfl⟩
                    obtain ⟨wn4, hwm⟩ : ∃ wm, wn3.alloc (.cells #[.int .u8 0] 5) = wm := ⟨_, rfl⟩
                    have hP4' : Pool wn4 wa.heap.size [((.slice (some ⟨g37, 0, none⟩) 1 1), [0]), ((.slice A32 n32 c32), ([] ++ Fr.frm (Ar.fB.take 14))), ((.slice A25 n25 c25), ([] ++ Fr.frm [])), ((.slice A20 n20 c20), ([] ++ Fr.frm Ar.fB))] := by rw [← hwm, ← hg]; exact hP4
                    rw [hwm] at hB4 ⊢
                    rw [hg]
                    clear hwm hg hP4 hP3 hB3
                    have hP4 := hP4'
                    clear hP4'
                    refine hK.out _ _ ?_ (fun hHeld => ?_)
                    · trivial
                    clear hK K
                    try simp only [Act.put]
                    try simp only [List.setIfInBounds_toArray, List.set_cons_zero, List.set_cons_succ]
                    refine stepOne 15 (o := ?oT209) ?hiT209 (by kernel_rfl) ?hwT209 (fun K hK => ?_)
                    case hiT209 => (simp only [List.getElem?_toArray, List.getElem?_cons_succ, List.getElem?_cons_zero]; with_reducible rfl)
                    case hwT209 => rfl
                    go_simp
                    have hP5 := hP4.nil
                    have hB5 := hB4.alloc hP4.1 (.cells #[] 5)
                    obtain ⟨g34, hg⟩ : ∃ g, wn4.heap.size = g := ⟨_, rfl⟩
                    obtain ⟨wn5, hwm⟩ : ∃ wm, wn4.alloc (.cells #[] 5) = wm := ⟨_, rfl⟩
                    have hP5' : Pool wn5 wa.heap.size [((.slice (some ⟨g34, 0, none⟩) 0 0), []), ((.slice (some ⟨g37, 0, none⟩) 1 1), [0]), ((.slice A32 n32 c32), ([] ++ Fr.frm (Ar.fB.take 14))), ((.slice A25 n25 c25), ([] ++ Fr.frm [])), ((.slice A20 n20 c20), ([] ++ Fr.frm Ar.fB))] := by rw [← hwm, ← hg]; exact hP5
                    rw [hwm] at hB5 ⊢
                    rw [hg]
                    clear hwm hg hP5 hP4 hB4
                    have hP5 := hP5'
                    clear hP5'
                    refine hK.out _ _ ?_ (fun hHeld => ?_)
                    · trivial
                    clear hK K
                    try simp only [Act.put]
                    try simp only [List.setIfInBounds_toArray, List.set_cons_zero, List.set_cons_succ]
                    refine stepOne 17 (o := ?oT210) ?hiT210 (by kernel_rfl) ?hwT210 (fun K hK => ?_)
                    case hiT210 => (simp only [List.getElem?_toArray, List.getElem?_cons_succ, List.getElem?_cons_zero]; with_reducible rfl)
                    case hwT210 => rfl
                    refine wp_append_bytes (.tmp 34) (.tmp 35) rfl wa.heap.size _ _ _ _ rfl (hP5.get 0 rfl) rfl (HBY.out _ hB5) (by decide +kernel) hP5.1 Ar.fB rfl ?_
                    rintro v36 wn6 hgr
                    have hP6 : Pool wn6 wa.heap.size [(v36, Ar.fB), ((.slice (some ⟨g37, 0, none⟩) 1 1), [0]), ((.slice A32 n32 c32), ([] ++ Fr.frm (Ar.fB.take 14))), ((.slice A25 n25 c25), ([] ++ Fr.frm [])), ((.slice A20 n20 c20), ([] ++ Fr.frm Ar.fB))] := hP5.app 0 rfl hgr
                    have hB6 := hB5.trans hgr.2.2.2
                    clear hgr hP5 hB5
                    refine hK.out _ _ ?_ (fun hHeld => ?_)
                    · trivial
                    clear hK K
                    try simp only [Act.put]
                    try simp only [List.setIfInBounds_toArray, List.set_cons_zero, List.set_cons_succ]
                    refine stepOne 19 (o := ?oT211) ?hiT211 (by kernel_rfl) ?hwT211 (fun K hK => ?_)
                    case hiT211 => (simp only [List.getElem?_toArray, List.getElem?_cons_succ, List.getElem?_cons_zero]; with_reducible rfl)
                    case hwT211 => rfl
                    refine wp_append_bytes (.tmp 36) (.tmp 37) rfl wa.heap.size _ _ _ _ rfl (hP6.get 0 rfl) rfl (hP6.get 1 rfl).bytes (by decide +kernel) hP6.1 (Ar.fB ++ [0]) rfl ?_
                    rintro v38 wn7 hgr
                    have hP7 : Pool wn7 wa.heap.size [(v38, (Ar.fB ++ [0])), ((.slice (some ⟨g37, 0, none⟩) 1 1), [0]), ((.slice A32 n32 c32), ([] ++ Fr.frm (Ar.fB.take 14))), ((.slice A25 n25 c25), ([] ++ Fr.frm [])), ((.slice A20 n20 c20), ([] ++ Fr.frm Ar.fB))] := hP6.app 0 rfl hgr
                    have hB7 := hB6.trans hgr.2.2.2
                    clear hgr hP6 hB6
                    refine hK.out _ _ ?_ (fun hHeld => ?_)
                    · trivial
                    clear hK K
                    try simp only [Act.put]
                    try simp only [List.setIfInBounds_toArray, List.set_cons_zero, List.set_cons_succ]
                    exact hfrom _ _ _ _ (HT _ _ _ _ A20 c20 A25 c25 A32 c32 v38 rfl (by kernel_rfl) rfl rfl rfl rfl rfl rfl rfl rfl rfl rfl rfl rfl rfl rfl rfl rfl rfl rfl rfl rfl rfl rfl rfl rfl rfl rfl rfl rfl rfl (hP7.pick [4, 3, 2, 0] (by decide) (by intro i hi; simp at hi ⊢; omega)) hB7)
                  refine stepOf 15 (o := ?oT212) ?hiT212 ?hwT212 (fun K hK => ?_) ?_
                  case hiT212 => (simp only [List.getElem?_toArray, List.getElem?_cons_succ, List.getElem?_cons_zero]; with_reducible rfl)
                  case hwT212 => rfl
                  · skip
                    go_simp
                    have hP3 := hP2.nil
                    have hB3 := hB2.alloc hP2.1 (.cells #[] 5)
                    obtain ⟨g34, hg⟩ : ∃ g, wn2.heap.size = g := ⟨_, rfl⟩
                    obtain ⟨wn3, hwm⟩ : ∃ wm, wn2.alloc (.cells #[] 5) = wm := ⟨_, rfl⟩
                    have hP3' : Pool wn3 wa.heap.size [((.slice (some ⟨g34, 0, none⟩) 0 0), []), ((.slice A25 n25 c25), ([] ++ Fr.frm [])), ((.slice A20 n20 c20), ([] ++ Fr.frm Ar.fB))] := by rw [← hwm, ← hg]; exact hP3
                    rw [hwm] at hB3 ⊢
                    rw [hg]
                    clear hwm hg hP3 hP2 hB2
                    have hP3 := hP3'
                    clear hP3'
                    refine hK.out _ _ ?_ (fun hHeld => ?_)
                    · trivial
                    clear hK K
                    try simp only [Act.put]
                    try simp only [List.setIfInBounds_toArray, List.set_cons_zero, List.set_cons_succ]
                    refine wpAnyH_ready (rs := [13, 18]) (by kernel_rfl) (by simp) ?_
                    refine stepOf 13 (o := ?oT213) ?hiT213 ?hwT213 (fun K hK => ?_) ?_
                    case hiT213 => (simp only [List.getElem?_toArray, List.getElem?_cons_succ, List.getElem?_cons_zero]; with_reducible rfl)
                    case hwT213 => rfl
                    · skip
                      go_simp
                      go_at_call 38
                      refine (refput_is _ _ [] (Ar.fB.take 14) _ _ (bytes_none _) ((HBY.out _ hB3).head (k := 14) (by decide) (by omega)) (by decide +kernel) (by decide +kernel) rfl).mono ?_
                      rintro e wn4 ⟨v32, rfl, ho, hb⟩
                      obtain ⟨_, _, A32, c32, hv, _, _⟩ := ho.bytes.parts
                      rw [HL32.out] at hv
                      subst hv
                      have hP4 : Pool wn4 wa.heap.size [((.slice A32 n32 c32), ([] ++ Fr.frm (Ar.fB.take 14))), ((.slice (some ⟨g34, 0, none⟩) 0 0), []), ((.slice A25 n25 c25), ([] ++ Fr.frm [])), ((.slice A20 n20 c20), ([] ++ Fr.frm Ar.fB))] := hP3.made hb ho
                      have hB4 := hB3.trans (hb.mono hB3.size)
                      clear ho hb hP3 hB3
                      refine hK.out _ _ ?_ (fun hHeld => ?_)
                      · trivial
                      clear hK K
                      try simp only [Act.put]
                      try simp only [List.setIfInBounds_toArray, List.set_cons_zero, List.set_cons_succ]
                      refine takeW 14 (some 33) (oi := ?oT214) (v := ?vT214) ?hiT214 ?hdT214 (by kernel_rfl) (by kernel_rfl) (by kernel_rfl) (fun _ _ _ h => h) ?hwT214 ?hyT214 hHeld ?_
                      case hiT214 => (simp only [List.getElem?_toArray, List.getElem?_cons_succ, List.getElem?_cons_zero]; with_reducible rfl)
                      case hdT214 => rfl
                      case hwT214 => rfl
                      case hyT214 => (intro w hSw; (try dsimp only at hSw); go_simp; first | done | with_reducible rfl)
                      try simp only [Act.put]
                      try simp only [List.setIfInBounds_toArray, List.set_cons_zero, List.set_cons_succ]
                      refine wpAnyH_ready (rs := [17, 18]) (by kernel_rfl) (by simp) ?_
                      refine stepOf 17 (o := ?oT215) ?hiT215 ?hwT215 (fun K hK => ?_) ?_
                      case hiT215 => (simp only [List.getElem?_toArray, List.getElem?_cons_succ, List.getElem?_cons_zero]; with_reducible rfl)
                      case hwT215 => rfl
                      · skip
                        refine wp_append_bytes (.tmp 34) (.tmp 35) rfl wa.heap.size _ _ _ _ rfl (hP4.get 1 rfl) rfl (HBY.out _ hB4) (by decide +kernel) hP4.1 Ar.fB rfl ?_
                        rintro v36 wn5 hgr
                        have hP5 : Pool wn5 wa.heap.size [((.slice A32 n32 c32), ([] ++ Fr.frm (Ar.fB.take 14))), (v36, Ar.fB), ((.slice A25 n25 c25), ([] ++ Fr.frm [])), ((.slice A20 n20 c20), ([] ++ Fr.frm Ar.fB))] := hP4.app 1 rfl hgr
                        have hB5 := hB4.trans hgr.2.2.2
                        clear hgr hP4 hB4
                        refine hK.out _ _ ?_ (fun hHeld => ?_)
                        · trivial
                        clear hK K
                        try simp only [Act.put]
                        try simp only [List.setIfInBounds_toArray, List.set_cons_zero, List.set_cons_succ]
                        refine stepOne 18 (o := ?oT216) ?hiT216 (by kernel_rfl) ?hwT216 (fun K hK => ?_)
                        case hiT216 => (simp only [List.getElem?_toArray, List.getElem?_cons_succ, List.getElem?_cons_zero]; with_reducible rfl)
                        case hwT216 => rfl
                        go_simp
                        have hP6 := hP5.one 0 (by decide)
                        have hB6 := hB5.alloc hP5.1 (.cells #[.int .u8 0] 5)
                        obtain ⟨g37, hg⟩ : ∃ g, wn5.heap.size = g := ⟨_, rfl⟩
                        obtain ⟨wn6, hwm⟩ : ∃ wm, wn5.alloc (.cells #[.int .u8 0] 5) = wm := ⟨_, rfl⟩
                        have hP6' : Pool wn6 wa.heap.size [((.slice (some ⟨g37, 0, none⟩) 1 1), [0]), ((.slice A32 n32 c32), ([] ++ Fr.frm (Ar.fB.take 14))), (v36, Ar.fB), ((.slice A25 n25 c25), ([] ++ Fr.frm [])), ((.slice A20 n20 c20), ([] ++ Fr.frm Ar.fB))] := by rw [← hwm, ← hg]; exact hP6
                        rw [hwm] at hB6 ⊢
                        rw [hg]
                        clear hwm hg hP6 hP5 hB5
                        have hP6 := hP6'
                        clear hP6'
                        refine hK.out _ _ ?_ (fun hHeld => ?_)
                        · trivial
                        clear hK K
                        try simp only [Act.put]
                        try simp only [List.setIfInBounds_toArray, List.set_cons_zero, List.set_cons_succ]
                        refine stepOne 19 (o := ?oT217) ?hiT217 (by kernel_rfl) ?hwT217 (fun K hK => ?_)
                        case hiT217 => (simp only [List.getElem?_toArray, List.getElem?_cons_succ, List.getElem?_cons_zero]; with_reducible rfl)
                        case hwT217 => rfl
                        refine wp_append_bytes (.tmp 36) (.tmp 37) rfl wa.heap.size _ _ _ _ rfl (hP6.get 2 rfl) rfl (hP6.get 0 rfl).bytes (by decide +kernel) hP6.1 (Ar.fB ++ [0]) rfl ?_
                        rintro v38 wn7 hgr
                        have hP7 : Pool wn7 wa.heap.size [((.slice (some ⟨g37, 0, none⟩) 1 1), [0]), ((.slice A32 n32 c32), ([] ++ Fr.frm (Ar.fB.take 14))), (v38, (Ar.fB ++ [0])), ((.slice A25 n25 c25), ([] ++ Fr.frm [])), ((.slice A20 n20 c20), ([] ++ Fr.frm Ar.fB))] := hP6.app 2 rfl hgr
                        have hB7 := hB6.trans hgr.2.2.2
                        clear hgr hP6 hB6
                        refine hK.out _ _ ?_ (fun hHeld => ?_)
                        · trivial
                        clear hK K
                        try simp only [Act.put]
                        try simp only [List.setIfInBounds_toArray, List.set_cons_zero, List.set_cons_succ]
                        exact hfrom _ _ _ _ (HT _ _ _ _ A20 c20 A25 c25 A32 c32 v38 rfl (by kernel_rfl) rfl rfl rfl rfl rfl rfl rfl rfl rfl rfl rfl rfl rfl rfl rfl rfl rfl rfl rfl rfl rfl rfl rfl rfl rfl rfl rfl rfl rfl (hP7.pick [4, 3, 1, 2] (by decide) (by intro i hi; simp at hi ⊢; omega)) hB7)
                      refine stepOf 18 (o := ?oT218) ?hiT218 ?hwT218 (fun K hK => ?_) AllReadyH.nil
                      case hiT218 => (simp only [List.getElem?_toArray, List.getElem?_cons_succ, List.getElem?_cons_zero]; with_reducible rfl)
                      case hwT218 => rfl
                      go_simp
                      have hP5 := hP4.one 0 (by decide)
                      have hB5 := hB4.alloc hP4.1 (.cells #[.int .u8 0] 5)
                      obtain ⟨g37, hg⟩ : ∃ g, wn4.heap.size = g := ⟨_, rfl⟩
                      obtain ⟨wn5, hwm⟩ : ∃ wm, wn4.alloc (.cells #[.int .u8 0] 5) = wm := ⟨_, rfl⟩
                      have hP5' : Pool wn5 wa.heap.size [((.slice (some ⟨g37, 0, none⟩) 1 1), [0]), ((.slice A32 n32 c32), ([] ++ Fr.frm (Ar.fB.take 14))), ((.slice (some ⟨g34, 0, none⟩) 0 0), []), ((.slice A25 n25 c25), ([] ++ Fr.frm [])), ((.slice A20 n20 c20), ([] ++ Fr.frm Ar.fB))] := by rw [← hwm, ← hg]; exact hP5
                      rw [hwm] at hB5 ⊢
                      rw [hg]
                      clear hwm hg hP5 hP4 hB4
                      have hP5 := hP5'
                      clear hP5'
                      refine hK.out _ _ ?_ (fun hHeld => ?_)
                      · trivial
                      clear hK K
                      try simp only [Act.put]
                      try simp only [List.setIfInBounds_toArray, List.set_cons_zero, List.set_cons_succ]
                      refine stepOne 17 (o := ?oT219) ?hiT219 (by kernel_rfl) ?hwT219 (fun K hK => ?_)
                      case hiT219 => (simp only [List.getElem?_toArray, List.getElem?_cons_succ, List.getElem?_cons_zero]; with_reducible rfl)
                      case hwT219 => rfl
                      refine wp_append_bytes (.tmp 34) (.tmp 35) rfl wa.heap.size _ _ _ _ rfl (hP5.get 2 rfl) rfl (HBY.out _ hB5) (by decide +kernel) hP5.1 Ar.fB rfl ?_
                      rintro v36 wn6 hgr
                      have hP6 : Pool wn6 wa.heap.size [((.slice (some ⟨g37, 0, none⟩) 1 1), [0]), ((.slice A32 n32 c32), ([] ++ Fr.frm (Ar.fB.take 14))), (v36, Ar.fB), ((.slice A25 n25 c25), ([] ++ Fr.frm [])), ((.slice A20 n20 c20), ([] ++ Fr.frm Ar.fB))] := hP5.app 2 rfl hgr
                      have hB6 := hB5.trans hgr.2.2.2
                      clear hgr hP5 hB5
                      refine hK.out _ _ ?_ (fun hHeld => ?_)
                      · trivial
                      clear hK K
                      try simp only [Act.put]
                      try simp only [List.setIfInBounds_toArray, List.set_cons_zero, List.set_cons_succ]
                      refine stepOne 19 (o := ?oT220) ?hiT220 (by kernel_rfl) ?hwT220 (fun K hK => ?_)
                      case hiT220 => (simp only [List.getElem?_toArray, List.getElem?_cons_succ, List.getElem?_cons_zero]; with_reducible rfl)
                      case hwT220 => rfl
                      refine wp_append_bytes (.tmp 36) (.tmp 37) rfl wa.heap.size _ _ _ _ rfl (hP6.get 2 rfl) rfl (hP6.get 0 rfl).bytes (by decide +kernel) hP6.1 (Ar.fB ++ [0]) rfl ?_
                      rintro v38 wn7 hgr
                      have hP7 : Pool wn7 wa.heap.size [((.slice (some ⟨g37, 0, none⟩) 1 1), [0]), ((.slice A32 n32 c32), ([] ++ Fr.frm (Ar.fB.take 14))), (v38, (Ar.fB ++ [0])), ((.slice A25 n25 c25), ([] ++ Fr.frm [])), ((.slice A20 n20 c20), ([] ++ Fr.frm Ar.fB))] := hP6.app 2 rfl hgr
                      have hB7 := hB6.trans hgr.2.2.2
                      clear hgr hP6 hB6
                      refine hK.out _ _ ?_ (fun hHeld => ?_)
                      · trivial
                      clear hK K
                      try simp only [Act.put]
                      try simp only [List.setIfInBounds_toArray, List.set_cons_zero, List.set_cons_succ]
                      exact hfrom _ _ _ _ (HT _ _ _ _ A20 c20 A25 c25 A32 c32 v38 rfl (by kernel_rfl) rfl rfl rfl rfl rfl rfl rfl rfl rfl rfl rfl rfl rfl rfl rfl rfl rfl rfl rfl rfl rfl rfl rfl rfl rfl rfl rfl rfl rfl (hP7.pick [4, 3, 1, 2] (by decide) (by intro i hi; simp at hi ⊢; omega)) hB7)
                    refine stepOf 18 (o := ?oT221) ?hiT221 ?hwT221 (fun K hK => ?_) AllReadyH.nil
                    case hiT221 => (simp only [List.getElem?_toArray, List.getElem?_cons_succ, List.getElem?_cons_zero]; with_reducible rfl)
                    case hwT221 => rfl
                    go_simp
                    have hP4 := hP3.one 0 (by decide)
                    have hB4 := hB3.alloc hP3.1 (.cells #[.int .u8 0] 5)
                    obtain ⟨g37, hg⟩ : ∃ g, wn3.heap.size = g := ⟨_, rfl⟩
                    obtain ⟨wn4, hwm⟩ : ∃ wm, wn3.alloc (.cells #[.int .u8 0] 5) = wm := ⟨_, rfl⟩
                    have hP4' : Pool wn4 wa.heap.size [((.slice (some ⟨g37, 0, none⟩) 1 1), [0]), ((.slice (some ⟨g34, 0, none⟩) 0 0), []), ((.slice A25 n25 c25), ([] ++ Fr.frm [])), ((.slice A20 n20 c20), ([] ++ Fr.frm Ar.fB))] := by rw [← hwm, ← hg]; exact hP4
                    rw [hwm] at hB4 ⊢
                    rw [hg]
                    clear hwm hg hP4 hP3 hB3
                    have hP4 := hP4'
                    clear hP4'
                    refine hK.out _ _ ?_ (fun hHeld => ?_)
                    · trivial
                    clear hK K
                    try simp only [Act.put]
                    try simp only [List.setIfInBounds_toArray, List.set_cons_zero, List.set_cons_succ]
                    refine stepOne 13 (o := ?oT222) ?hiT222 (by kernel_rfl) ?hwT222 (fun K hK => ?_)
                    case hiT222 => (simp only [List.getElem?_toArray, List.getElem?_cons_succ, List.getElem?_cons_zero]; with_reducible rfl)
                    case hwT222 => rfl
                    go_simp
                    go_at_call 38
                    refine (refput_is _ _ [] (Ar.fB.take 14) _ _ (bytes_none _) ((HBY.out _ hB4).head (k := 14) (by decide) (by omega)) (by decide +kernel) (by decide +kernel) rfl).mono ?_
                    rintro e wn5 ⟨v32, rfl, ho, hb⟩
                    obtain ⟨_, _, A32, c32, hv, _, _⟩ := ho.bytes.parts
                    rw [HL32.out] at hv
                    subst hv
                    have hP5 : Pool wn5 wa.heap.size [((.slice A32 n32 c32), ([] ++ Fr.frm (Ar.fB.take 14))), ((.slice (some ⟨g37, 0, none⟩) 1 1), [0]), ((.slice (some ⟨g34, 0, none⟩) 0 0), []), ((.slice A25 n25 c25), ([] ++ Fr.frm [])), ((.slice A20 n20 c20), ([] ++ Fr.frm Ar.fB))] := hP4.made hb ho
                    have hB5 := hB4.trans (hb.mono hB4.size)
                    clear ho hb hP4 hB4
                    refine hK.out _ _ ?_ (fun hHeld => ?_)
                    · trivial
                    clear hK K
                    try simp only [Act.put]
                    try simp only [List.setIfInBounds_toArray, List.set_cons_zero, List.set_cons_succ]
                    refine takeW 14 (some 33) (oi := ?oT223) (v := ?vT223) ?hiT223 ?hdT223 (by kernel_rfl) (by kernel_rfl) (by kernel_rfl) (fun _ _ _ h => h) ?hwT223 ?hyT223 hHeld ?_
                    case hiT223 => (simp only [List.getElem?_toArray, List.getElem?_cons_succ, List.getElem?_cons_zero]; with_reducible rfl)
                    case hdT223 => rfl
                    case hwT223 => rfl
                    case hyT223 => (intro w hSw; (try dsimp only at hSw); go_simp; first | done | with_reducible rfl)
                    try simp only [Act.put]
                    try simp only [List.setIfInBounds_toArray, List.set_cons_zero, List.set_cons_succ]
                    refine stepOne 17 (o := ?oT224) ?hiT224 (by kernel_rfl) ?hwT224 (fun K hK => ?_)
                    case hiT224 => (simp only [List.getElem?_toArray, List.getElem?_cons_succ, List.getElem?_cons_zero]; with_reducible rfl)
                    case hwT224 => rfl
                    refine wp_append_bytes (.tmp 34) (.tmp 35) rfl wa.heap.size _ _ _ _ rfl (hP5.get 2 rfl) rfl (HBY.out _ hB5) (by decide +kernel) hP5.1 Ar.fB rfl ?_
                    rintro v36 wn6 hgr
                    have hP6 : Pool wn6 wa.heap.size [((.slice A32 n32 c32), ([] ++ Fr.frm (Ar.fB.take 14))), ((.slice (some ⟨g37, 0, none⟩) 1 1), [0]), (v36, Ar.fB), ((.slice A25 n25 c25), ([] ++ Fr.frm [])), ((.slice A20 n20 c20), ([] ++ Fr.frm Ar.fB))] := hP5.app 2 rfl hgr
                    have hB6 := hB5.trans hgr.2.2.2
                    clear hgr hP5 hB5
                    refine hK.out _ _ ?_ (fun hHeld => ?_)
                    · trivial
                    clear hK K
                    try simp only [Act.put]
                    try simp only [List.setIfInBounds_toArray, List.set_cons_zero, List.set_cons_succ]
                    refine stepOne 19 (o := ?oT225) ?hiT225 (by kernel_rfl) ?hwT225 (fun K hK => ?_)
                    case hiT225 => (simp only [List.getElem?_toArray, List.getElem?_cons_succ, List.getElem?_cons_zero]; with_reducible rfl)
                    case hwT225 => rfl
                    refine wp_append_bytes (.tmp 36) (.tmp 37) rfl wa.heap.size _ _ _ _ rfl (hP6.get 2 rfl) rfl (hP6.get 1 rfl).bytes (by decide +kernel) hP6.1 (Ar.fB ++ [0]) rfl ?_
                    rintro v38 wn7 hgr
                    have hP7 : Pool wn7 wa.heap.size [((.slice A32 n32 c32), ([] ++ Fr.frm (Ar.fB.take 14))), ((.slice (some ⟨g37, 0, none⟩) 1 1), [0]), (v38, (Ar.fB ++ [0])), ((.slice A25 n25 c25), ([] ++ Fr.frm [])), ((.slice A20 n20 c20), ([] ++ Fr.frm Ar.fB))] := hP6.app 2 rfl hgr
                    have hB7 := hB6.trans hgr.2.2.2
                    clear hgr hP6 hB6
                    refine hK.out _ _ ?_ (fun hHeld => ?_)
                    · trivial
                    clear hK K
                    try simp only [Act.put]
                    try simp only [List.setIfInBounds_toArray, List.set_cons_zero, List.set_cons_succ]
                    exact hfrom _ _ _ _ (HT _ _ _ _ A20 c20 A25 c25 A32 c32 v38 rfl (by kernel_rfl) rfl rfl rfl rfl rfl rfl rfl rfl rfl rfl rfl rfl rfl rfl rfl rfl rfl rfl rfl rfl rfl rfl rfl rfl rfl rfl rfl rfl rfl (hP7.pick [4, 3, 0, 2] (by decide) (by intro i hi; simp at hi ⊢; omega)) hB7)
                  refine stepOf 18 (o := ?oT226) ?hiT226 ?hwT226 (fun K hK => ?_) AllReadyH.nil
                  case hiT226 => (simp only [List.getElem?_toArray, List.getElem?_cons_succ, List.getElem?_cons_zero]; with_reducible rfl)
                  case hwT226 => rfl
                  go_simp
                  have hP3 := hP2.one 0 (by decide)
                  have hB3 := hB2.alloc hP2.1 (.cells #[.int .u8 0] 5)
                  obtain ⟨g37, hg⟩ : ∃ g, wn2.heap.size = g := ⟨_, rfl⟩
                  obtain ⟨wn3, hwm⟩ : ∃ wm, wn2.alloc (.cells #[.int .u8 0] 5) = wm := ⟨_, rfl⟩
                  have hP3' : Pool wn3 wa.heap.size [((.slice (some ⟨g37, 0, none⟩) 1 1), [0]), ((.slice A25 n25 c25), ([] ++ Fr.frm [])), ((.slice A20 n20 c20), ([] ++ Fr.frm Ar.fB))] := by rw [← hwm, ← hg]; exact hP3
                  rw [hwm] at hB3 ⊢
                  rw [hg]
                  clear hwm hg hP3 hP2 hB2
                  have hP3 := hP3'
                  clear hP3'
                  refine hK.out _ _ ?_ (fun hHeld => ?_)
                  · trivial
                  clear hK K
                  try simp only [Act.put]
                  try simp only [List.setIfInBounds_toArray, List.set_cons_zero, List.set_cons_succ]
                  refine wpAnyH_ready (rs := [13, 15]) (by kernel_rfl) (by simp) ?_
                  refine stepOf 13 (o := ?oT227) ?hiT227 ?hwT227 (fun K hK => ?_) ?_
                  case hiT227 => (simp only [List.getElem?_toArray, List.getElem?_cons_succ, List.getElem?_cons_zero]; with_reducible rfl)
                  case hwT227 => rfl
                  · skip
                    go_simp
                    go_at_call 38
                    refine (refput_is _ _ [] (Ar.fB.take 14) _ _ (bytes_none _) ((HBY.out _ hB3).head (k := 14) (by decide) (by omega)) (by decide +kernel) (by decide +kernel) rfl).mono ?_
                    rintro e wn4 ⟨v32, rfl, ho, hb⟩
                    obtain ⟨_, _, A32, c32, hv, _, _⟩ := ho.bytes.parts
                    rw [HL32.out] at hv
                    subst hv
                    have hP4 : Pool wn4 wa.heap.size [((.slice A32 n32 c32), ([] ++ Fr.frm (Ar.fB.take 14))), ((.slice (some ⟨g37, 0, none⟩) 1 1), [0]), ((.slice A25 n25 c25), ([] ++ Fr.frm [])), ((.slice A20 n20 c20), ([] ++ Fr.frm Ar.fB))] := hP3.made hb ho
                    have hB4 := hB3.trans (hb.mono hB3.size)
                    clear ho hb hP3 hB3
                    refine hK.out _ _ ?_ (fun hHeld => ?_)
                    · trivial
                    clear hK K
                    try simp only [Act.put]
                    try simp only [List.setIfInBounds_toArray, List.set_cons_zero, List.set_cons_succ]
                    refine takeW 14 (some 33) (oi := ?oT228) (v := ?vT228) ?hiT228 ?hdT228 (by kernel_rfl) (by kernel_rfl) (by kernel_rfl) (fun _ _ _ h => h) ?hwT228 ?hyT228 hHeld ?_
                    case hiT228 => (simp only [List.getElem?_toArray, List.getElem?_cons_succ, List.getElem?_cons_zero]; with_reducible rfl)
                    case hdT228 => rfl
                    case hwT228 => rfl
                    case hyT228 => (intro w hSw; (try dsimp only at hSw); go_simp; first | done | with_reducible rfl)
                    try simp only [Act.put]
                    try simp only [List.setIfInBounds_toArray, List.set_cons_zero, List.set_cons_succ]
                    refine stepOne 15 (o := ?oT229) ?hiT229 (by kernel_rfl) ?hwT229 (fun K hK => ?_)
                    case hiT229 => (simp only [List.getElem?_toArray, List.getElem?_cons_succ, List.getElem?_cons_zero]; with_reducible rfl)
                    case hwT229 => rfl
                    go_simp
                    have hP5 := hP4.nil
                    have hB5 := hB4.alloc hP4.1 (.cells #[] 5)
                    obtain ⟨g34, hg⟩ : ∃ g, wn4.heap.size = g := ⟨_, rfl⟩
                    obtain ⟨wn5, hwm⟩ : ∃ wm, wn4.alloc (.cells #[] 5) = wm := ⟨_, rfl⟩
                    have hP5' : Pool wn5 wa.heap.size [((.slice (some ⟨g34, 0, none⟩) 0 0), []), ((.slice A32 n32 c32), ([] ++ Fr.frm (Ar.fB.take 14))), ((.slice (some ⟨g37, 0, none⟩) 1 1), [0]), ((.slice A25 n25 c25), ([] ++ Fr.frm [])), ((.slice A20 n20 c20), ([] ++ Fr.frm Ar.fB))] := by rw [← hwm, ← hg]; exact hP5
                    rw [hwm] at hB5 ⊢
                    rw [hg]
                    clear hwm hg hP5 hP4 hB4
                    have hP5 := hP5'
                    clear hP5'
                    refine hK.out _ _ ?_ (fun hHeld => ?_)
                    · trivial
                    clear hK K
                    try simp only [Act.put]
                    try simp only [List.setIfInBounds_toArray, List.set_cons_zero, List.set_cons_succ]
                    refine stepOne 17 (o := ?oT230) ?hiT230 (by kernel_rfl) ?hwT230 (fun K hK => ?_)
                    case hiT230 => (simp only [List.getElem?_toArray, List.getElem?_cons_succ, List.getElem?_cons_zero]; with_reducible rfl)
                    case hwT230 => rfl
                    refine wp_append_bytes (.tmp 34) (.tmp 35) rfl wa.heap.size _ _ _ _ rfl (hP5.get 0 rfl) rfl (HBY.out _ hB5) (by decide +kernel) hP5.1 Ar.fB rfl ?_
                    rintro v36 wn6 hgr
                    have hP6 : Pool wn6 wa.heap.size [(v36, Ar.fB), ((.slice A32 n32 c32), ([] ++ Fr.frm (Ar.fB.take 14))), ((.slice (some ⟨g37, 0, none⟩) 1 1), [0]), ((.slice A25 n25 c25), ([] ++ Fr.frm [])), ((.slice A20 n20 c20), ([] ++ Fr.frm Ar.fB))] := hP5.app 0 rfl hgr
                    have hB6 := hB5.trans hgr.2.2.2
                    clear hgr hP5 hB5
                    refine hK.out _ _ ?_ (fun hHeld => ?_)
                    · trivial
                    clear hK K
                    try simp only [Act.put]
                    try simp only [List.setIfInBounds_toArray, List.set_cons_zero, List.set_cons_succ]
                    refine stepOne 19 (o := ?oT231) ?hiT231 (by kernel_rfl) ?hwT231 (fun K hK => ?_)
                    case hiT231 => (simp only [List.getElem?_toArray, List.getElem?_cons_succ, List.getElem?_cons_zero]; with_reducible rfl)
                    case hwT231 => rfl
                    refine wp_append_bytes (.tmp 36) (.tmp 37) rfl wa.heap.size _ _ _ _ rfl (hP6.get 0 rfl) rfl (hP6.get 2 rfl).bytes (by decide +kernel) hP6.1 (Ar.fB ++ [0]) rfl ?_
                    rintro v38 wn7 hgr
                    have hP7 : Pool wn7 wa.heap.size [(v38, (Ar.fB ++ [0])), ((.slice A32 n32 c32), ([] ++ Fr.frm (Ar.fB.take 14))), ((.slice (some ⟨g37, 0, none⟩) 1 1), [0]), ((.slice A25 n25 c25), ([] ++ Fr.frm [])), ((.slice A20 n20 c20), ([] ++ Fr.frm Ar.fB))] := hP6.app 0 rfl hgr
                    have hB7 := hB6.trans hgr.2.2.2
                    clear hgr hP6 hB6
                    refine hK.out _ _ ?_ (fun hHeld => ?_)
                    · trivial
                    clear hK K
                    try simp only [Act.put]
                    try simp only [List.setIfInBounds_toArray, List.set_cons_zero, List.set_cons_succ]
                    exact hfrom _ _ _ _ (HT _ _ _ _ A20 c20 A25 c25 A32 c32 v38 rfl (by kernel_rfl) rfl rfl rfl rfl rfl rfl rfl rfl rfl rfl rfl rfl rfl rfl rfl rfl rfl rfl rfl rfl rfl rfl rfl rfl rfl rfl rfl rfl rfl (hP7.pick [4, 3, 1, 0] (by decide) (by intro i hi; simp at hi ⊢; omega)) hB7)
                  refine stepOf 15 (o := ?oT232) ?hiT232 ?hwT232 (fun K hK => ?_) AllReadyH.nil
                  case hiT232 => (simp only [List.getElem?_toArray, List.getElem?_cons_succ, List.getElem?_cons_zero]; with_reducible rfl)
                  case hwT232 => rfl
                  go_simp
                  have hP4 := hP3.nil
                  have hB4 := hB3.alloc hP3.1 (.cells #[] 5)
                  obtain ⟨g34, hg⟩ : ∃ g, wn3.heap.size = g := ⟨_, rfl⟩
                  obtain ⟨wn4, hwm⟩ : ∃ wm, wn3.alloc (.cells #[] 5) = wm := ⟨_, rfl⟩
                  have hP4' : Pool wn4 wa.heap.size [((.slice (some ⟨g34, 0, none⟩) 0 0), []), ((.slice (some ⟨g37, 0, none⟩) 1 1), [0]), ((.slice A25 n25 c25), ([] ++ Fr.frm [])), ((.slice A20 n20 c20), ([] ++ Fr.frm Ar.fB))] := by rw [← hwm, ← hg]; exact hP4
                  rw [hwm] at hB4 ⊢
                  rw [hg]
                  clear hwm hg hP4 hP3 hB3
                  have hP4 := hP4'
                  clear hP4'
                  refine hK.out _ _ ?_ (fun hHeld => ?_)
                  · trivial
                  clear hK K
                  try simp only [Act.put]
                  try simp only [List.setIfInBounds_toArray, List.set_cons_zero, List.set_cons_succ]
                  refine stepOne 13 (o := ?oT233) ?hiT233 (by kernel_rfl) ?hwT233 (fun K hK => ?_)
                  case hiT233 => (simp only [List.getElem?_toArray, List.getElem?_cons_succ, List.getElem?_cons_zero]; with_reducible rfl)
                  case hwT233 => rfl
                  go_simp
                  go_at_call 38
                  refine (refput_is _ _ [] (Ar.fB.take 14) _ _ (bytes_none _) ((HBY.out _ hB4).head (k := 14) (by decide) (by omega)) (by decide +kernel) (by decide +kernel) rfl).mono ?_
                  rintro e wn5 ⟨v32, rfl, ho, hb⟩
                  obtain ⟨_, _, A32, c32, hv, _, _⟩ := ho.bytes.parts
                  rw [HL32.out] at hv
                  subst hv
                  have hP5 : Pool wn5 wa.heap.size [((.slice A32 n32 c32), ([] ++ Fr.frm (Ar.fB.take 14))), ((.slice (some ⟨g34, 0, none⟩) 0 0), []), ((.slice (some ⟨g37, 0, none⟩) 1 1), [0]), ((.slice A25 n25 c25), ([] ++ Fr.frm [])), ((.slice A20 n20 c20), ([] ++ Fr.frm Ar.fB))] := hP4.made hb ho
                  have hB5 := hB4.trans (hb.mono hB4.size)
                  clear ho hb hP4 hB4
                  refine hK.out _ _ ?_ (fun hHeld => ?_)
                  · trivial
                  clear hK K
                  try simp only [Act.put]
                  try simp only [List.setIfInBounds_toArray, List.set_cons_zero, List.set_cons_succ]
                  refine takeW 14 (some 33) (oi := ?oT234) (v := ?vT234) ?hiT234 ?hdT234 (by kernel_rfl) (by kernel_rfl) (by kernel_rfl) (fun _ _ _ h => h) ?hwT234 ?hyT234 hHeld ?_
                  case hiT234 => (simp only [List.getElem?_toArray, List.getElem?_cons_succ, List.getElem?_cons_zero]; with_reducible rfl)
                  case hdT234 => rfl
                  case hwT234 => rfl
                  case hyT234 => (intro w hSw; (try dsimp only at hSw); go_simp; first | done | with_reducible rfl)
                  try simp only [Act.put]
                  try simp only [List.setIfInBounds_toArray, List.set_cons_zero, List.set_cons_succ]
                  refine stepOne 17 (o := ?oT235) ?hiT235 (by kernel_rfl) ?hwT235 (fun K hK => ?_)
                  case hiT235 => (simp only [List.getElem?_toArray, List.getElem?_cons_succ, List.getElem?_cons_zero]; with_reducible rfl)
                  case hwT235 => rfl
                  refine wp_append_bytes (.tmp 34) (.tmp 35) rfl wa.heap.size _ _ _ _ rfl (hP5.get 1 rfl) rfl (HBY.out _ hB5) (by decide +kernel) hP5.1 Ar.fB rfl ?_
                  rintro v36 wn6 hgr
                  have hP6 : Pool wn6 wa.heap.size [((.slice A32 n32 c32), ([] ++ Fr.frm (Ar.fB.take 14))), (v36, Ar.fB), ((.slice (some ⟨g37, 0, none⟩) 1 1), [0]), ((.slice A25 n25 c25), ([] ++ Fr.frm [])), ((.slice A20 n20 c20), ([] ++ Fr.frm Ar.fB))] := hP5.app 1 rfl hgr
                  have hB6 := hB5.trans hgr.2.2.2
                  clear hgr hP5 hB5
                  refine hK.out _ _ ?_ (fun hHeld => ?_)
                  · trivial
                  clear hK K
                  try simp only [Act.put]
                  try simp only [List.setIfInBounds_toArray, List.set_cons_zero, List.set_cons_succ]
                  refine stepOne 19 (o := ?oT236) ?hiT236 (by kernel_rfl) ?hwT236 (fun K hK => ?_)
                  case hiT236 => (simp only [List.getElem?_toArray, List.getElem?_cons_succ, List.getElem?_cons_zero]; with_reducible rfl)
                  case hwT236 => rfl
                  refine wp_append_bytes (.tmp 36) (.tmp 37) rfl wa.heap.size _ _ _ _ rfl (hP6.get 1 rfl) rfl (hP6.get 2 rfl).bytes (by decide +kernel) hP6.1 (Ar.fB ++ [0]) rfl ?_
                  rintro v38 wn7 hgr
                  have hP7 : Pool wn7 wa.heap.size [((.slice A32 n32 c32), ([] ++ Fr.frm (Ar.fB.take 14))), (v38, (Ar.fB ++ [0])), ((.slice (some ⟨g37, 0, none⟩) 1 1), [0]), ((.slice A25 n25 c25), ([] ++ Fr.frm [])), ((.slice A20 n20 c20), ([] ++ Fr.frm Ar.fB))] := hP6.app 1 rfl hgr
                  have hB7 := hB6.trans hgr.2.2.2
                  clear hgr hP6 hB6
                  refine hK.out _ _ ?_ (fun hHeld => ?_)
                  · trivial
                  clear hK K
                  try simp only [Act.put]
                  try simp only [List.setIfInBounds_toArray, List.set_cons_zero, List.set_cons_succ]
                  exact hfrom _ _ _ _ (HT _ _ _ _ A20 c20 A25 c25 A32 c32 v38 rfl (by kernel_rfl) rfl rfl rfl rfl rfl rfl rfl rfl rfl rfl rfl rfl rfl rfl rfl rfl rfl rfl rfl rfl rfl rfl rfl rfl rfl rfl rfl rfl rfl (hP7.pick [4, 3, 0, 1] (by decide) (by intro i hi; simp at hi ⊢; omega)) hB7)
              refine stepOf 15 (o := ?oT237) ?hiT237 ?hwT237 (fun K hK => ?_) ?_
              case hiT237 => (simp only [List.getElem?_toArray, List.getElem?_cons_succ, List.getElem?_cons_zero]; with_reducible rfl)
              case hwT237 => rfl
              · as_aux_lemma =>
                  go_simp
                  have hP2 := hP1.nil
                  have hB2 := hB1.alloc hP1.1 (.cells #[] 5)
                  obtain ⟨g34, hg⟩ : ∃ g, wn1.heap.size = g := ⟨_, rfl⟩
                  obtain ⟨wn2, hwm⟩ : ∃ wm, wn1.alloc (.cells #[] 5) = wm := ⟨_, rfl⟩
                  have hP2' : Pool wn2 wa.heap.size [((.slice (some ⟨g34, 0, none⟩) 0 0), []), ((.slice A20 n20 c20), ([] ++ Fr.frm Ar.fB))] := by rw [← hwm, ← hg]; exact hP2
                  rw [hwm] at hB2 ⊢
                  rw [hg]
                  clear hwm hg hP2 hP1 hB1
                  have hP2 := hP2'
                  clear hP2'
                  refine hK.out _ _ ?_ (fun hHeld => ?_)
                  · trivial
                  clear hK K
                  try simp only [Act.put]
                  try simp only [List.setIfInBounds_toArray, List.set_cons_zero, List.set_cons_succ]
                  refine wpAnyH_ready (rs := [6, 18]) (by kernel_rfl) (by simp) ?_
                  refine stepOf 6 (o := ?oT238) ?hiT238 ?hwT238 (fun K hK => ?_) ?_
                  case hiT238 => (simp only [List.getElem?_toArray, List.getElem?_cons_succ, List.getElem?_cons_zero]; with_reducible rfl)
                  case hwT238 => rfl
                  · skip
                    go_simp
                    go_at_call 38
                    refine (refput_is _ _ [] [] _ _ (bytes_none _) (bytes_none _) (by decide +kernel) (by decide +kernel) rfl).mono ?_
                    rintro e wn3 ⟨v25, rfl, ho, hb⟩
                    obtain ⟨_, _, A25, c25, hv, _, _⟩ := ho.bytes.parts
                    rw [HL25.out] at hv
                    subst hv
                    have hP3 : Pool wn3 wa.heap.size [((.slice A25 n25 c25), ([] ++ Fr.frm [])), ((.slice (some ⟨g34, 0, none⟩) 0 0), []), ((.slice A20 n20 c20), ([] ++ Fr.frm Ar.fB))] := hP2.made hb ho
                    have hB3 := hB2.trans (hb.mono hB2.size)
                    clear ho hb hP2 hB2
                    refine hK.out _ _ ?_ (fun hHeld => ?_)
                    · trivial
                    clear hK K
                    try simp only [Act.put]
                    try simp only [List.setIfInBounds_toArray, List.set_cons_zero, List.set_cons_succ]
                    refine takeW 7 (some 26) (oi := ?oT239) (v := ?vT239) ?hiT239 ?hdT239 (by kernel_rfl) (by kernel_rfl) (by kernel_rfl) (fun _ _ _ h => h) ?hwT239 ?hyT239 hHeld ?_
                    case hiT239 => (simp only [List.getElem?_toArray, List.getElem?_cons_succ, List.getElem?_cons_zero]; with_reducible rfl)
                    case hdT239 => rfl
                    case hwT239 => rfl
                    case hyT239 => (intro w hSw; (try dsimp only at hSw); go_simp; first | done | with_reducible rfl)
                    try simp only [Act.put]
                    try simp only [List.setIfInBounds_toArray, List.set_cons_zero, List.set_cons_succ]
                    refine wpAnyH_ready (rs := [13, 18]) (by kernel_rfl) (by simp) ?_
                    refine stepOf 13 (o := ?oT240) ?hiT240 ?hwT240 (fun K hK => ?_) ?_
                    case hiT240 => (simp only [List.getElem?_toArray, List.getElem?_cons_succ, List.getElem?_cons_zero]; with_reducible rfl)
                    case hwT240 => rfl
                    · skip
                      go_simp
                      go_at_call 38
                      refine (refput_is _ _ [] (Ar.fB.take 14) _ _ (bytes_none _) ((HBY.out _ hB3).head (k := 14) (by decide) (by omega)) (by decide +kernel) (by decide +kernel) rfl).mono ?_
                      rintro e wn4 ⟨v32, rfl, ho, hb⟩
                      obtain ⟨_, _, A32, c32, hv, _, _⟩ := ho.bytes.parts
                      rw [HL32.out] at hv
                      subst hv
                      have hP4 : Pool wn4 wa.heap.size [((.slice A32 n32 c32), ([] ++ Fr.frm (Ar.fB.take 14))), ((.slice A25 n25 c25), ([] ++ Fr.frm [])), ((.slice (some ⟨g34, 0, none⟩) 0 0), []), ((.slice A20 n20 c20), ([] ++ Fr.frm Ar.fB))] := hP3.made hb ho
                      have hB4 := hB3.trans (hb.mono hB3.size)
                      clear ho hb hP3 hB3
                      refine hK.out _ _ ?_ (fun hHeld => ?_)
                      · trivial
                      clear hK K
                      try simp only [Act.put]
                      try simp only [List.setIfInBounds_toArray, List.set_cons_zero, List.set_cons_succ]
                      refine takeW 14 (some 33) (oi := ?oT241) (v := ?vT241) ?hiT241 ?hdT241 (by kernel_rfl) (by kernel_rfl) (by kernel_rfl) (fun _ _ _ h => h) ?hwT241 ?hyT241 hHeld ?_
                      case hiT241 => (simp only [List.getElem?_toArray, List.getElem?_cons_succ, List.getElem?_cons_zero]; with_reducible rfl)
                      case hdT241 => rfl
                      case hwT241 => rfl
                      case hyT241 => (intro w hSw; (try dsimp only at hSw); go_simp; first | done | with_reducible rfl)
                      try simp only [Act.put]
                      try simp only [List.setIfInBounds_toArray, List.set_cons_zero, List.set_cons_succ]
                      refine wpAnyH_ready (rs := [17, 18]) (by kernel_rfl) (by simp) ?_
                      refine stepOf 17 (o := ?oT242) ?hiT242 ?hwT242 (fun K hK => ?_) ?_
                      case hiT242 => (simp only [List.getElem?_toArray, List.getElem?_cons_succ, List.getElem?_cons_zero]; with_reducible rfl)
                      case hwT242 => rfl
                      · skip
                        refine wp_append_bytes (.tmp 34) (.tmp 35) rfl wa.heap.size _ _ _ _ rfl (hP4.get 2 rfl) rfl (HBY.out _ hB4) (by decide +kernel) hP4.1 Ar.fB rfl ?_
                        rintro v36 wn5 hgr
                        have hP5 : Pool wn5 wa.heap.size [((.slice A32 n32 c32), ([] ++ Fr.frm (Ar.fB.take 14))), ((.slice A25 n25 c25), ([] ++ Fr.frm [])), (v36, Ar.fB), ((.slice A20 n20 c20), ([] ++ Fr.frm Ar.fB))] := hP4.app 2 rfl hgr
                        have hB5 := hB4.trans hgr.2.2.2
                        clear hgr hP4 hB4
                        refine hK.out _ _ ?_ (fun hHeld => ?_)
                        · trivial
                        clear hK K
                        try simp only [Act.put]
                        try simp only [List.setIfInBounds_toArray, List.set_cons_zero, List.set_cons_succ]
                        refine stepOne 18 (o := ?oT243) ?hiT243 (by kernel_rfl) ?hwT243 (fun K hK => ?_)
                        case hiT243 => (simp only [List.getElem?_toArray, List.getElem?_cons_succ, List.getElem?_cons_zero]; with_reducible rfl)
                        case hwT243 => rfl
                        go_simp
                        have hP6 := hP5.one 0 (by decide)
                        have hB6 := hB5.alloc hP5.1 (.cells #[.int .u8 0] 5)
                        obtain ⟨g37, hg⟩ : ∃ g, wn5.heap.size = g := ⟨_, rfl⟩
                        obtain ⟨wn6, hwm⟩ : ∃ wm, wn5.alloc (.cells #[.int .u8 0] 5) = wm := ⟨_, rfl⟩
                        have hP6' : Pool wn6 wa.heap.size [((.slice (some ⟨g37, 0, none⟩) 1 1), [0]), ((.slice A32 n32 c32), ([] ++ Fr.frm (Ar.fB.take 14))), ((.slice A25 n25 c25), ([] ++ Fr.frm [])), (v36, Ar.fB), ((.slice A20 n20 c20), ([] ++ Fr.frm Ar.fB))] := by rw [← hwm, ← hg]; exact hP6
                        rw [hwm] at hB6 ⊢
                        rw [hg]
                        clear hwm hg hP6 hP5 hB5
                        have hP6 := hP6'
                        clear hP6'
                        refine hK.out _ _ ?_ (fun hHeld => ?_)
                        · trivial
                        clear hK K
                        try simp only [Act.put]
                        try simp only [List.setIfInBounds_toArray, List.set_cons_zero, List.set_cons_succ]
                        refine stepOne 19 (o := ?oT244) ?hiT244 (by kernel_rfl) ?hwT244 (fun K hK => ?_)
                        case hiT244 => (simp only [List.getElem?_toArray, List.getElem?_cons_succ, List.getElem?_cons_zero]; with_reducible rfl)
                        case hwT244 => rfl
                        refine wp_append_bytes (.tmp 36) (.tmp 37) rfl wa.heap.size _ _ _ _ rfl (hP6.get 3 rfl) rfl (hP6.get 0 rfl).bytes (by decide +kernel) hP6.1 (Ar.fB ++ [0]) rfl ?_
                        rintro v38 wn7 hgr
                        have hP7 : Pool wn7 wa.heap.size [((.slice (some ⟨g37, 0, none⟩) 1 1), [0]), ((.slice A32 n32 c32), ([] ++ Fr.frm (Ar.fB.take 14))), ((.slice A25 n25 c25), ([] ++ Fr.frm [])), (v38, (Ar.fB ++ [0])), ((.slice A20 n20 c20), ([] ++ Fr.frm Ar.fB))] := hP6.app 3 rfl hgr
                        have hB7 := hB6.trans hgr.2.2.2
                        clear hgr hP6 hB6
                        refine hK.out _ _ ?_ (fun hHeld => ?_)
                        · trivial
                        clear hK K
                        try simp only [Act.put]
                        try simp only [List.setIfInBounds_toArray, List.set_cons_zero, List.set_cons_succ]
                        exact hfrom _ _ _ _ (HT _ _ _ _ A20 c20 A25 c25 A32 c32 v38 rfl (by kernel_rfl) rfl rfl rfl rfl rfl rfl rfl rfl rfl rfl rfl rfl rfl rfl rfl rfl rfl rfl rfl rfl rfl rfl rfl rfl rfl rfl rfl rfl rfl (hP7.pick [4, 2, 1, 3] (by decide) (by intro i hi; simp at hi ⊢; omega)) hB7)
                      refine stepOf 18 (o := ?oT245) ?hiT245 ?hwT245 (fun K hK => ?_) AllReadyH.nil
                      case hiT245 => (simp only [List.getElem?_toArray, List.getElem?_cons_succ, List.getElem?_cons_zero]; with_reducible rfl)
                      case hwT245 => rfl
                      go_simp
                      have hP5 := hP4.one 0 (by decide)
                      have hB5 := hB4.alloc hP4.1 (.cells #[.int .u8 0] 5)
                      obtain ⟨g37, hg⟩ : ∃ g, wn4.heap.size = g := ⟨_, rfl⟩
                      obtain ⟨wn5, hwm⟩ : ∃ wm, wn4.alloc (.cells #[.int .u8 0] 5) = wm := ⟨_, rfl⟩
                      have hP5' : Pool wn5 wa.heap.size [((.slice (some ⟨g37, 0, none⟩) 1 1), [0]), ((.slice A32 n32 c32), ([] ++ Fr.frm (Ar.fB.take 14))), ((.slice A25 n25 c25), ([] ++ Fr.frm [])), ((.slice (some ⟨g34, 0, none⟩) 0 0), []), ((.slice A20 n20 c20), ([] ++ Fr.frm Ar.fB))] := by rw [← hwm, ← hg]; exact hP5
                      rw [hwm] at hB5 ⊢
                      rw [hg]
                      clear hwm hg hP5 hP4 hB4
                      have hP5 := hP5'
                      clear hP5'
                      refine hK.out _ _ ?_ (fun hHeld => ?_)
                      · trivial
                      clear hK K
                      try simp only [Act.put]
                      try simp only [List.setIfInBounds_toArray, List.set_cons_zero, List.set_cons_succ]
                      refine stepOne 17 (o := ?oT246) ?hiT246 (by kernel_rfl) ?hwT246 (fun K hK => ?_)
                      case hiT246 => (simp only [List.getElem?_toArray, List.getElem?_cons_succ, List.getElem?_cons_zero]; with_reducible rfl)
                      case hwT246 => rfl
                      refine wp_append_bytes (.tmp 34) (.tmp 35) rfl wa.heap.size _ _ _ _ rfl (hP5.get 3 rfl) rfl (HBY.out _ hB5) (by decide +kernel) hP5.1 Ar.fB rfl ?_
                      rintro v36 wn6 hgr
                      have hP6 : Pool wn6 wa.heap.size [((.slice (some ⟨g37, 0, none⟩) 1 1), [0]), ((.slice A32 n32 c32), ([] ++ Fr.frm (Ar.fB.take 14))), ((.slice A25 n25 c25), ([] ++ Fr.frm [])), (v36, Ar.fB), ((.slice A20 n20 c20), ([] ++ Fr.frm Ar.fB))] := hP5.app 3 rfl hgr
                      have hB6 := hB5.trans hgr.2.2.2
                      clear hgr hP5 hB5
                      refine hK.out _ _ ?_ (fun hHeld => ?_)
                      · trivial
                      clear hK K
                      try simp only [Act.put]
                      try simp only [List.setIfInBounds_toArray, List.set_cons_zero, List.set_cons_succ]
                      refine stepOne 19 (o := ?oT247) ?hiT247 (by kernel_rfl) ?hwT247 (fun K hK => ?_)
                      case hiT247 => (simp only [List.getElem?_toArray, List.getElem?_cons_succ, List.getElem?_cons_zero]; with_reducible rfl)
                      case hwT247 => rfl
                      refine wp_append_bytes (.tmp 36) (.tmp 37) rfl wa.heap.size _ _ _ _ rfl (hP6.get 3 rfl) rfl (hP6.get 0 rfl).bytes (by decide +kernel) hP6.1 (Ar.fB ++ [0]) rfl ?_
                      rintro v38 wn7 hgr
                      have hP7 : Pool wn7 wa.heap.size [((.slice (some ⟨g37, 0, none⟩) 1 1), [0]), ((.slice A32 n32 c32), ([] ++ Fr.frm (Ar.fB.take 14))), ((.slice A25 n25 c25), ([] ++ Fr.frm [])), (v38, (Ar.fB ++ [0])), ((.slice A20 n20 c20), ([] ++ Fr.frm Ar.fB))] := hP6.app 3 rfl hgr
                      have hB7 := hB6.trans hgr.2.2.2
                      clear hgr hP6 hB6
                      refine hK.out _ _ ?_ (fun hHeld => ?_)
                      · trivial
                      clear hK K
                      try simp only [Act.put]
                      try simp only [List.setIfInBounds_toArray, List.set_cons_zero, List.set_cons_succ]
                      exact hfrom _ _ _ _ (HT _ _ _ _ A20 c20 A25 c25 A32 c32 v38 rfl (by kernel_rfl) rfl rfl rfl rfl rfl rfl rfl rfl rfl rfl rfl rfl rfl rfl rfl rfl rfl rfl rfl rfl rfl rfl rfl rfl rfl rfl rfl rfl rfl (hP7.pick [4, 2, 1, 3] (by decide) (by intro i hi; simp at hi ⊢; omega)) hB7)
                    refine stepOf 18 (o := ?oT248) ?hiT248 ?hwT248 (fun K hK => ?_) AllReadyH.nil
                    case hiT248 => (simp only [List.getElem?_toArray, List.getElem?_cons_succ, List.getElem?_cons_zero]; with_reducible rfl)
                    case hwT248 => rfl
                    go_simp
                    have hP4 := hP3.one 0 (by decide)
                    have hB4 := hB3.alloc hP3.1 (.cells #[.int .u8 0] 5)
                    obtain ⟨g37, hg⟩ : ∃ g, wn3.heap.size = g := ⟨_, rfl⟩
                    obtain ⟨wn4, hwm⟩ : ∃ wm, wn3.alloc (.cells #[.int .u8 0] 5) = wm := ⟨_, rfl⟩
                    have hP4' : Pool wn4 wa.heap.size [((.slice (some ⟨g37, 0, none⟩) 1 1), [0]), ((.slice A25 n25 c25), ([] ++ Fr.frm [])), ((.slice (some ⟨g34, 0, none⟩) 0 0), []), ((.slice A20 n20 c20), ([] ++ Fr.frm Ar.fB))] := by rw [← hwm, ← hg]; exact hP4
                    rw [hwm] at hB4 ⊢
                    rw [hg]
                    clear hwm hg hP4 hP3 hB3
                    have hP4 := hP4'
                    clear hP4'
                    refine hK.out _ _ ?_ (fun hHeld => ?_)
                    · trivial
                    clear hK K
                    try simp only [Act.put]
                    try simp only [List.setIfInBounds_toArray, List.set_cons_zero, List.set_cons_succ]
                    refine stepOne 13 (o := ?oT249) ?hiT249 (by kernel_rfl) ?hwT249 (fun K hK => ?_)
                    case hiT249 => (simp only [List.getElem?_toArray, List.getElem?_cons_succ, List.getElem?_cons_zero]; with_reducible rfl)
                    case hwT249 => rfl
                    go_simp
                    go_at_call 38
                    refine (refput_is _ _ [] (Ar.fB.take 14) _ _ (bytes_none _) ((HBY.out _ hB4).head (k := 14) (by decide) (by omega)) (by decide +kernel) (by decide +kernel) rfl).mono ?_
                    rintro e wn5 ⟨v32, rfl, ho, hb⟩
                    obtain ⟨_, _, A32, c32, hv, _, _⟩ := ho.bytes.parts
                    rw [HL32.out] at hv
                    subst hv
                    have hP5 : Pool wn5 wa.heap.size [((.slice A32 n32 c32), ([] ++ Fr.frm (Ar.fB.take 14))), ((.slice (some ⟨g37, 0, none⟩) 1 1), [0]), ((.slice A25 n25 c25), ([] ++ Fr.frm [])), ((.slice (some ⟨g34, 0, none⟩) 0 0), []), ((.slice A20 n20 c20), ([] ++ Fr.frm Ar.fB))] := hP4.made hb ho
                    have hB5 := hB4.trans (hb.mono hB4.size)
                    clear ho hb hP4 hB4
                    refine hK.out _ _ ?_ (fun hHeld => ?_)
                    · trivial
                    clear hK K
                    try simp only [Act.put]
                    try simp only [List.setIfInBounds_toArray, List.set_cons_zero, List.set_cons_succ]
                    refine takeW 14 (some 33) (oi := ?oT250) (v := ?vT250) ?hiT250 ?hdT250 (by kernel_rfl) (by kernel_rfl) (by kernel_rfl) (fun _ _ _ h => h) ?hwT250 ?hyT250 hHeld ?_
                    case hiT250 => (simp only [List.getElem?_toArray, List.getElem?_cons_succ, List.getElem?_cons_zero]; with_reducible rfl)
                    case hdT250 => rfl
                    case hwT250 => rfl
                    case hyT250 => (intro w hSw; (try dsimp only at hSw); go_simp; first | done | with_reducible rfl)
                    try simp only [Act.put]
                    try simp only [List.setIfInBounds_toArray, List.set_cons_zero, List.set_cons_succ]
                    refine stepOne 17 (o := ?oT251) ?hiT251 (by kernel_rfl) ?hwT251 (fun K hK => ?_)
                    case hiT251 => (simp only [List.getElem?_toArray, List.getElem?_cons_succ, List.getElem?_cons_zero]; with_reducible rfl)
                    case hwT251 => rfl
                    refine wp_append_bytes (.tmp 34) (.tmp 35) rfl wa.heap.size _ _ _ _ rfl (hP5.get 3 rfl) rfl (HBY.out _ hB5) (by decide +kernel) hP5.1 Ar.fB rfl ?_
                    rintro v36 wn6 hgr
                    have hP6 : Pool wn6 wa.heap.size [((.slice A32 n32 c32), ([] ++ Fr.frm (Ar.fB.take 14))), ((.slice (some ⟨g37, 0, none⟩) 1 1), [0]), ((.slice A25 n25 c25), ([] ++ Fr.frm [])), (v36, Ar.fB), ((.slice A20 n20 c20), ([] ++ Fr.frm Ar.fB))] := hP5.app 3 rfl hgr
                    have hB6 := hB5.trans hgr.2.2.2
                    clear hgr hP5 hB5
                    refine hK.out _ _ ?_ (fun hHeld => ?_)
                    · trivial
                    clear hK K
                    try simp only [Act.put]
                    try simp only [List.setIfInBounds_toArray, List.set_cons_zero, List.set_cons_succ]
                    refine stepOne 19 (o := ?oT252) ?hiT252 (by kernel_rfl) ?hwT252 (fun K hK => ?_)
                    case hiT252 => (simp only [List.getElem?_toArray, List.getElem?_cons_succ, List.getElem?_cons_zero]; with_reducible rfl)
                    case hwT252 => rfl
                    refine wp_append_bytes (.tmp 36) (.tmp 37) rfl wa.heap.size _ _ _ _ rfl (hP6.get 3 rfl) rfl (hP6.get 1 rfl).bytes (by decide +kernel) hP6.1 (Ar.fB ++ [0]) rfl ?_
                    rintro v38 wn7 hgr
                    have hP7 : Pool wn7 wa.heap.size [((.slice A32 n32 c32), ([] ++ Fr.frm (Ar.fB.take 14))), ((.slice (some ⟨g37, 0, none⟩) 1 1), [0]), ((.slice A25 n25 c25), ([] ++ Fr.frm [])), (v38, (Ar.fB ++ [0])), ((.slice A20 n20 c20), ([] ++ Fr.frm Ar.fB))] := hP6.app 3 rfl hgr
                    have hB7 := hB6.trans hgr.2.2.2
                    clear hgr hP6 hB6
                    refine hK.out _ _ ?_ (fun hHeld => ?_)
                    · trivial
                    clear hK K
                    try simp only [Act.put]
                    try simp only [List.setIfInBounds_toArray, List.set_cons_zero, List.set_cons_succ]
                    exact hfrom _ _ _ _ (HT _ _ _ _ A20 c20 A25 c25 A32 c32 v38 rfl (by kernel_rfl) rfl rfl rfl rfl rfl rfl rfl rfl rfl rfl rfl rfl rfl rfl rfl rfl rfl rfl rfl rfl rfl rfl rfl rfl rfl rfl rfl rfl rfl (hP7.pick [4, 2, 0, 3] (by decide) (by intro i hi; simp at hi ⊢; omega)) hB7)
                  refine stepOf 18 (o := ?oT253) ?hiT253 ?hwT253 (fun K hK => ?_) AllReadyH.nil
                  case hiT253 => (simp only [List.getElem?_toArray, List.getElem?_cons_succ, List.getElem?_cons_zero]; with_reducible rfl)
                  case hwT253 => rfl
                  go_simp
                  have hP3 := hP2.one 0 (by decide)
                  have hB3 := hB2.alloc hP2.1 (.cells #[.int .u8 0] 5)
                  obtain ⟨g37, hg⟩ : ∃ g, wn2.heap.size = g := ⟨_, rfl⟩
                  obtain ⟨wn3, hwm⟩ : ∃ wm, wn2.alloc (.cells #[.int .u8 0] 5) = wm := ⟨_, rfl⟩
                  have hP3' : Pool wn3 wa.heap.size [((.slice (some ⟨g37, 0, none⟩) 1 1), [0]), ((.slice (some ⟨g34, 0, none⟩) 0 0), []), ((.slice A20 n20 c20), ([] ++ Fr.frm Ar.fB))] := by rw [← hwm, ← hg]; exact hP3
                  rw [hwm] at hB3 ⊢
                  rw [hg]
                  clear hwm hg hP3 hP2 hB2
                  have hP3 := hP3'
                  clear hP3'
                  refine hK.out _ _ ?_ (fun hHeld => ?_)
                  · trivial
                  clear hK K
                  try simp only [Act.put]
                  try simp only [List.setIfInBounds_toArray, List.set_cons_zero, List.set_cons_succ]
                  refine stepOne 6 (o := ?oT254) ?hiT254 (by kernel_rfl) ?hwT254 (fun K hK => ?_)
                  case hiT254 => (simp only [List.getElem?_toArray, List.getElem?_cons_succ, List.getElem?_cons_zero]; with_reducible rfl)
                  case hwT254 => rfl
                  go_simp
                  go_at_call 38
                  refine (refput_is _ _ [] [] _ _ (bytes_none _) (bytes_none _) (by decide +kernel) (by decide +kernel) rfl).mono ?_
                  rintro e wn4 ⟨v25, rfl, ho, hb⟩
                  obtain ⟨_, _, A25, c25, hv, _, _⟩ := ho.bytes.parts
                  rw [HL25.out] at hv
                  subst hv
                  have hP4 : Pool wn4 wa.heap.size [((.slice A25 n25 c25), ([] ++ Fr.frm [])), ((.slice (some ⟨g37, 0, none⟩) 1 1), [0]), ((.slice (some ⟨g34, 0, none⟩) 0 0), []), ((.slice A20 n20 c20), ([] ++ Fr.frm Ar.fB))] := hP3.made hb ho
                  have hB4 := hB3.trans (hb.mono hB3.size)
                  clear ho hb hP3 hB3
                  refine hK.out _ _ ?_ (fun hHeld => ?_)
                  · trivial
                  clear hK K
                  try simp only [Act.put]
                  try simp only [List.setIfInBounds_toArray, List.set_cons_zero, List.set_cons_succ]
                  refine takeW 7 (some 26) (oi := ?oT255) (v := ?vT255) ?hiT255 ?hdT255 (by kernel_rfl) (by kernel_rfl) (by kernel_rfl) (fun _ _ _ h => h) ?hwT255 ?hyT255 hHeld ?_
                  case hiT255 => (simp only [List.getElem?_toArray, List.getElem?_cons_succ, List.getElem?_cons_zero]; with_reducible rfl)
                  case hdT255 => rfl
                  case hwT255 => rfl
                  case hyT255 => (intro w hSw; (try dsimp only at hSw); go_simp; first | done | with_reducible rfl)
                  try simp only [Act.put]
                  try simp only [List.setIfInBounds_toArray, List.set_cons_zero, List.set_cons_succ]
                  refine stepOne 13 (o := ?oT256) ?hiT256 (by kernel_rfl) ?hwT256 (fun K hK => ?_)
                  case hiT256 => (simp only [List.getElem?_toArray, List.getElem?_cons_succ, List.getElem?_cons_zero]; with_reducible rfl)
                  case hwT256 => rfl
                  go_simp
                  go_at_call 38
                  refine (refput_is _ _ [] (Ar.fB.take 14) _ _ (bytes_none _) ((HBY.out _ hB4).head (k := 14) (by decide) (by omega)) (by decide +kernel) (by decide +kernel) rfl).mono ?_
                  rintro e wn5 ⟨v32, rfl, ho, hb⟩
                  obtain ⟨_, _, A32, c32, hv, _, _⟩ := ho.bytes.parts
                  rw [HL32.out] at hv
                  subst hv
                  have hP5 : Pool wn5 wa.heap.size [((.slice A32 n32 c32), ([] ++ Fr.frm (Ar.fB.take 14))), ((.slice A25 n25 c25), ([] ++ Fr.frm [])), ((.slice (some ⟨g37, 0, none⟩) 1 1), [0]), ((.slice (some ⟨g34, 0, none⟩) 0 0), []), ((.slice A20 n20 c20), ([] ++ Fr.frm Ar.fB))] := hP4.made hb ho
                  have hB5 := hB4.trans (hb.mono hB4.size)
                  clear ho hb hP4 hB4
                  refine hK.out _ _ ?_ (fun hHeld => ?_)
                  · trivial
                  clear hK K
                  try simp only [Act.put]
                  try simp only [List.setIfInBounds_toArray, List.set_cons_zero, List.set_cons_succ]
                  refine takeW 14 (some 33) (oi := ?oT257) (v := ?vT257) ?hiT257 ?hdT257 (by kernel_rfl) (by kernel_rfl) (by kernel_rfl) (fun _ _ _ h => h) ?hwT257 ?hyT257 hHeld ?_
                  case hiT257 => (simp only [List.getElem?_toArray, List.getElem?_cons_succ, List.getElem?_cons_zero]; with_reducible rfl)
                  case hdT257 => rfl
                  case hwT257 => rfl
                  case hyT257 => (intro w hSw; (try dsimp only at hSw); go_simp; first | done | with_reducible rfl)
                  try simp only [Act.put]
                  try simp only [List.setIfInBounds_toArray, List.set_cons_zero, List.set_cons_succ]
                  refine stepOne 17 (o := ?oT258) ?hiT258 (by kernel_rfl) ?hwT258 (fun K hK => ?_)
                  case hiT258 => (simp only [List.getElem?_toArray, List.getElem?_cons_succ, List.getElem?_cons_zero]; with_reducible rfl)
                  case hwT258 => rfl
                  refine wp_append_bytes (.tmp 34) (.tmp 35) rfl wa.heap.size _ _ _ _ rfl (hP5.get 3 rfl) rfl (HBY.out _ hB5) (by decide +kernel) hP5.1 Ar.fB rfl ?_
                  rintro v36 wn6 hgr
                  have hP6 : Pool wn6 wa.heap.size [((.slice A32 n32 c32), ([] ++ Fr.frm (Ar.fB.take 14))), ((.slice A25 n25 c25), ([] ++ Fr.frm [])), ((.slice (some ⟨g37, 0, none⟩) 1 1), [0]), (v36, Ar.fB), ((.slice A20 n20 c20), ([] ++ Fr.frm Ar.fB))] := hP5.app 3 rfl hgr
                  have hB6 := hB5.trans hgr.2.2.2
                  clear hgr hP5 hB5
                  refine hK.out _ _ ?_ (fun hHeld => ?_)
                  · trivial
                  clear hK K
                  try simp only [Act.put]
                  try simp only [List.setIfInBounds_toArray, List.set_cons_zero, List.set_cons_succ]
                  refine stepOne 19 (o := ?oT259) ?hiT259 (by kernel_rfl) ?hwT259 (fun K hK => ?_)
                  case hiT259 => (simp only [List.getElem?_toArray, List.getElem?_cons_succ, List.getElem?_cons_zero]; with_reducible rfl)
                  case hwT259 => rfl
                  refine wp_append_bytes (.tmp 36) (.tmp 37) rfl wa.heap.size _ _ _ _ rfl (hP6.get 3 rfl) rfl (hP6.get 2 rfl).bytes (by decide +kernel) hP6.1 (Ar.fB ++ [0]) rfl ?_
                  rintro v38 wn7 hgr
                  have hP7 : Pool wn7 wa.heap.size [((.slice A32 n32 c32), ([] ++ Fr.frm (Ar.fB.take 14))), ((.slice A25 n25 c25), ([] ++ Fr.frm [])), ((.slice (some ⟨g37, 0, none⟩) 1 1), [0]), (v38, (Ar.fB ++ [0])), ((.slice A20 n20 c20), ([] ++ Fr.frm Ar.fB))] := hP6.app 3 rfl hgr
                  have hB7 := hB6.trans hgr.2.2.2
                  clear hgr hP6 hB6
                  refine hK.out _ _ ?_ (fun hHeld => ?_)
                  · trivial
                  clear hK K
                  try simp only [Act.put]
                  try simp only [List.setIfInBounds_toArray, List.set_cons_zero, List.set_cons_succ]
                  exact hfrom _ _ _ _ (HT _ _ _ _ A20 c20 A25 c25 A32 c32 v38 rfl (by kernel_rfl) rfl rfl rfl rfl rfl rfl rfl rfl rfl rfl rfl rfl rfl rfl rfl rfl rfl rfl rfl rfl rfl rfl rfl rfl rfl rfl rfl rfl rfl (hP7.pick [4, 1, 0, 3] (by decide) (by intro i hi; simp at hi ⊢; omega)) hB7)
              refine stepOf 18 (o := ?oT260) ?hiT260 ?hwT260 (fun K hK => ?_) AllReadyH.nil
              case hiT260 => (simp only [List.getElem?_toArray, List.getElem?_cons_succ, List.getElem?_cons_zero]; with_reducible rfl)
              case hwT260 => rfl
              · as_aux_lemma =>
                  go_simp
                  have hP2 := hP1.one 0 (by decide)
                  have hB2 := hB1.alloc hP1.1 (.cells #[.int .u8 0] 5)
                  obtain ⟨g37, hg⟩ : ∃ g, wn1.heap.size = g := ⟨_, rfl⟩
                  obtain ⟨wn2, hwm⟩ : ∃ wm, wn1.alloc (.cells #[.int .u8 0] 5) = wm := ⟨_, rfl⟩
                  have hP2' : Pool wn2 wa.heap.size [((.slice (some ⟨g37, 0, none⟩) 1 1), [0]), ((.slice A20 n20 c20), ([] ++ Fr.frm Ar.fB))] := by rw [← hwm, ← hg]; exact hP2
                  rw [hwm] at hB2 ⊢
                  rw [hg]
                  clear hwm hg hP2 hP1 hB1
                  have hP2 := hP2'
                  clear hP2'
                  refine hK.out _ _ ?_ (fun hHeld => ?_)
                  · trivial
                  clear hK K
                  try simp only [Act.put]
                  try simp only [List.setIfInBounds_toArray, List.set_cons_zero, List.set_cons_succ]
                  refine wpAnyH_ready (rs := [6, 15]) (by kernel_rfl) (by simp) ?_
                  refine stepOf 6 (o := ?oT261) ?hiT261 ?hwT261 (fun K hK => ?_) ?_
                  case hiT261 => (simp only [List.getElem?_toArray, List.getElem?_cons_succ, List.getElem?_cons_zero]; with_reducible rfl)
                  case hwT261 => rfl
                  · skip
                    go_simp
                    go_at_call 38
                    refine (refput_is _ _ [] [] _ _ (bytes_none _) (bytes_none _) (by decide +kernel) (by decide +kernel) rfl).mono ?_
                    rintro e wn3 ⟨v25, rfl, ho, hb⟩
                    obtain ⟨_, _, A25, c25, hv, _, _⟩ := ho.bytes.parts
                    rw [HL25.out] at hv
                    subst hv
                    have hP3 : Pool wn3 wa.heap.size [((.slice A25 n25 c25), ([] ++ Fr.frm [])), ((.slice (some ⟨g37, 0, none⟩) 1 1), [0]), ((.slice A20 n20 c20), ([] ++ Fr.frm Ar.fB))] := hP2.made hb ho
                    have hB3 := hB2.trans (hb.mono hB2.size)
                    clear ho hb hP2 hB2
                    refine hK.out _ _ ?_ (fun hHeld => ?_)
                    · trivial
                    clear hK K
                    try simp only [Act.put]
                    try simp only [List.setIfInBounds_toArray, List.set_cons_zero, List.set_cons_succ]
                    refine takeW 7 (some 26) (oi := ?oT262) (v := ?vT262) ?hiT262 ?hdT262 (by kernel_rfl) (by kernel_rfl) (by kernel_rfl) (fun _ _ _ h => h) ?hwT262 ?hyT262 hHeld ?_
                    case hiT262 => (simp only [List.getElem?_toArray, List.getElem?_cons_succ, List.getElem?_cons_zero]; with_reducible rfl)
                    case hdT262 => rfl
                    case hwT262 => rfl
                    case hyT262 => (intro w hSw; (try dsimp only at hSw); go_simp; first | done | with_reducible rfl)
                    try simp only [Act.put]
                    try simp only [List.setIfInBounds_toArray, List.set_cons_zero, List.set_cons_succ]
                    refine wpAnyH_ready (rs := [13, 15]) (by kernel_rfl) (by simp) ?_
                    refine stepOf 13 (o := ?oT263) ?hiT263 ?hwT263 (fun K hK => ?_) ?_
                    case hiT263 => (simp only [List.getElem?_toArray, List.getElem?_cons_succ, List.getElem?_cons_zero]; with_reducible rfl)
                    case hwT263 => rfl
                    · skip
                      go_simp
                      go_at_call 38
                      refine (refput_is _ _ [] (Ar.fB.take 14) _ _ (bytes_none _) ((HBY.out _ hB3).head (k := 14) (by decide) (by omega)) (by decide +kernel) (by decide +kernel) rfl).mono ?_
                      rintro e wn4 ⟨v32, rfl, ho, hb⟩
                      obtain ⟨_, _, A32, c32, hv, _, _⟩ := ho.bytes.parts
                      rw [HL32.out] at hv
                      subst hv
                      have hP4 : Pool wn4 wa.heap.size [((.slice A32 n32 c32), ([] ++ Fr.frm (Ar.fB.take 14))), ((.slice A25 n25 c25), ([] ++ Fr.frm [])), ((.slice (some ⟨g37, 0, none⟩) 1 1), [0]), ((.slice A20 n20 c20), ([] ++ Fr.frm Ar.fB))] := hP3.made hb ho
                      have hB4 := hB3.trans (hb.mono hB3.size)
                      clear ho hb hP3 hB3
                      refine hK.out _ _ ?_ (fun hHeld => ?_)
                      · trivial
                      clear hK K
                      try simp only [Act.put]
                      try simp only [List.setIfInBounds_toArray, List.set_cons_zero, List.set_cons_succ]
                      refine takeW 14 (some 33) (oi := ?oT264) (v := ?vT264) ?hiT264 ?hdT264 (by kernel_rfl) (by kernel_rfl) (by kernel_rfl) (fun _ _ _ h => h) ?hwT264 ?hyT264 hHeld ?_
                      case hiT264 => (simp only [List.getElem?_toArray, List.getElem?_cons_succ, List.getElem?_cons_zero]; with_reducible rfl)
                      case hdT264 => rfl
                      case hwT264 => rfl
                      case hyT264 => (intro w hSw; (try dsimp only at hSw); go_simp; first | done | with_reducible rfl)
                      try simp only [Act.put]
                      try simp only [List.setIfInBounds_toArray, List.set_cons_zero, List.set_cons_succ]
                      refine stepOne 15 (o := ?oT265) ?hiT265 (by kernel_rfl) ?hwT265 (fun K hK => ?_)
                      case hiT265 => (simp only [List.getElem?_toArray, List.getElem?_cons_succ, List.getElem?_cons_zero]; with_reducible rfl)
                      case hwT265 => rfl
                      go_simp
                      have hP5 := hP4.nil
                      have hB5 := hB4.alloc hP4.1 (.cells #[] 5)
                      obtain ⟨g34, hg⟩ : ∃ g, wn4.heap.size = g := ⟨_, rfl⟩
                      obtain ⟨wn5, hwm⟩ : ∃ wm, wn4.alloc (.cells #[] 5) = wm := ⟨_, rfl⟩
                      have hP5' : Pool wn5 wa.heap.size [((.slice (some ⟨g34, 0, none⟩) 0 0), []), ((.slice A32 n32 c32), ([] ++ Fr.frm (Ar.fB.take 14))), ((.slice A25 n25 c25), ([] ++ Fr.frm [])), ((.slice (some ⟨g37, 0, none⟩) 1 1), [0]), ((.slice A20 n20 c20), ([] ++ Fr.frm Ar.fB))] := by rw [← hwm, ← hg]; exact hP5
                      rw [hwm] at hB5 ⊢
                      rw [hg]
                      clear hwm hg hP5 hP4 hB4
                      have hP5 := hP5'
                      clear hP5'
                      refine hK.out _ _ ?_ (fun hHeld => ?_)
                      · trivial
                      clear hK K
                      try simp only [Act.put]
                      try simp only [List.setIfInBounds_toArray, List.set_cons_zero, List.set_cons_succ]
                      refine stepOne 17 (o := ?oT266) ?hiT266 (by kernel_rfl) ?hwT266 (fun K hK => ?_)
                      case hiT266 => (simp only [List.getElem?_toArray, List.getElem?_cons_succ, List.getElem?_cons_zero]; with_reducible rfl)
                      case hwT266 => rfl
                      refine wp_append_bytes (.tmp 34) (.tmp 35) rfl wa.heap.size _ _ _ _ rfl (hP5.get 0 rfl) rfl (HBY.out _ hB5) (by decide +kernel) hP5.1 Ar.fB rfl ?_
                      rintro v36 wn6 hgr
                      have hP6 : Pool wn6 wa.heap.size [(v36, Ar.fB), ((.slice A32 n32 c32), ([] ++ Fr.frm (Ar.fB.take 14))), ((.slice A25 n25 c25), ([] ++ Fr.frm [])), ((.slice (some ⟨g37, 0, none⟩) 1 1), [0]), ((.slice A20 n20 c20), ([] ++ Fr.frm Ar.fB))] := hP5.app 0 rfl hgr
                      have hB6 := hB5.trans hgr.2.2.2
                      clear hgr hP5 hB5
                      refine hK.out _ _ ?_ (fun hHeld => ?_)
                      · trivial
                      clear hK K
                      try simp only [Act.put]
                      try simp only [List.setIfInBounds_toArray, List.set_cons_zero, List.set_cons_succ]
                      refine stepOne 19 (o := ?oT267) ?hiT267 (by kernel_rfl) ?hwT267 (fun K hK => ?_)
                      case hiT267 => (simp only [List.getElem?_toArray, List.getElem?_cons_succ, List.getElem?_cons_zero]; with_reducible rfl)
                      case hwT267 => rfl
                      refine wp_append_bytes (.tmp 36) (.tmp 37) rfl wa.heap.size _ _ _ _ rfl (hP6.get 0 rfl) rfl (hP6.get 3 rfl).bytes (by decide +kernel) hP6.1 (Ar.fB ++ [0]) rfl ?_
                      rintro v38 wn7 hgr
                      have hP7 : Pool wn7 wa.heap.size [(v38, (Ar.fB ++ [0])), ((.slice A32 n32 c32), ([] ++ Fr.frm (Ar.fB.take 14))), ((.slice A25 n25 c25), ([] ++ Fr.frm [])), ((.slice (some ⟨g37, 0, none⟩) 1 1), [0]), ((.slice A20 n20 c20), ([] ++ Fr.frm Ar.fB))] := hP6.app 0 rfl hgr
                      have hB7 := hB6.trans hgr.2.2.2
                      clear hgr hP6 hB6
                      refine hK.out _ _ ?_ (fun hHeld => ?_)
                      · trivial
                      clear hK K
                      try simp only [Act.put]
                      try simp only [List.setIfInBounds_toArray, List.set_cons_zero, List.set_cons_succ]
                      exact hfrom _ _ _ _ (HT _ _ _ _ A20 c20 A25 c25 A32 c32 v38 rfl (by kernel_rfl) rfl rfl rfl rfl rfl rfl rfl rfl rfl rfl rfl rfl rfl rfl rfl rfl rfl rfl rfl rfl rfl rfl rfl rfl rfl rfl rfl rfl rfl (hP7.pick [4, 2, 1, 0] (by decide) (by intro i hi; simp at hi ⊢; omega)) hB7)
                    refine stepOf 15 (o := ?oT268) ?hiT268 ?hwT268 (fun K hK => ?_) AllReadyH.nil
                    case hiT268 => (simp only [List.getElem?_toArray, List.getElem?_cons_succ, List.getElem?_cons_zero]; with_reducible rfl)
                    case hwT268 => rfl
                    go_simp
                    have hP4 := hP3.nil
                    have hB4 := hB3.alloc hP3.1 (.cells #[] 5)
                    obtain ⟨g34, hg⟩ : ∃ g, wn3.heap.size = g := ⟨_, rfl⟩
                    obtain ⟨wn4, hwm⟩ : ∃ wm, wn3.alloc (.cells #[] 5) = wm := ⟨_, rfl⟩
                    have hP4' : Pool wn4 wa.heap.size [((.slice (some ⟨g34, 0, none⟩) 0 0), []), ((.slice A25 n25 c25), ([] ++ Fr.frm [])), ((.slice (some ⟨g37, 0, none⟩) 1 1), [0]), ((.slice A20 n20 c20), ([] ++ Fr.frm Ar.fB))] := by rw [← hwm, ← hg]; exact hP4
                    rw [hwm] at hB4 ⊢
                    rw [hg]
                    clear hwm hg hP4 hP3 hB3
                    have hP4 := hP4'
                    clear hP4'
                    refine hK.out _ _ ?_ (fun hHeld => ?_)
                    · trivial
                    clear hK K
                    try simp only [Act.put]
                    try simp only [List.setIfInBounds_toArray, List.set_cons_zero, List.set_cons_succ]
                    refine stepOne 13 (o := ?oT269) ?hiT269 (by kernel_rfl) ?hwT269 (fun K hK => ?_)
                    case hiT269 => (simp only [List.getElem?_toArray, List.getElem?_cons_succ, List.getElem?_cons_zero]; with_reducible rfl)
                    case hwT269 => rfl
                    go_simp
                    go_at_call 38
                    refine (refput_is _ _ [] (Ar.fB.take 14) _ _ (bytes_none _) ((HBY.out _ hB4).head (k := 14) (by decide) (by omega)) (by decide +kernel) (by decide +kernel) rfl).mono ?_
                    rintro e wn5 ⟨v32, rfl, ho, hb⟩
                    obtain ⟨_, _, A32, c32, hv, _, _⟩ := ho.bytes.parts
                    rw [HL32.out] at hv
                    subst hv
                    have hP5 : Pool wn5 wa.heap.size [((.slice A32 n32 c32), ([] ++ Fr.frm (Ar.fB.take 14))), ((.slice (some ⟨g34, 0, none⟩) 0 0), []), ((.slice A25 n25 c25), ([] ++ Fr.frm [])), ((.slice (some ⟨g37, 0, none⟩) 1 1), [0]), ((.slice A20 n20 c20), ([] ++ Fr.frm Ar.fB))] := hP4.made hb ho
                    have hB5 := hB4.trans (hb.mono hB4.size)
                    clear ho hb hP4 hB4
                    refine hK.out _ _ ?_ (fun hHeld => ?_)
                    · trivial
                    clear hK K
                    try simp only [Act.put]
                    try simp only [List.setIfInBounds_toArray, List.set_cons_zero, List.set_cons_succ]
                    refine takeW 14 (some 33) (oi := ?oT270) (v := ?vT270) ?hiT270 ?hdT270 (by kernel_rfl) (by kernel_rfl) (by kernel_rfl) (fun _ _ _ h => h) ?hwT270 ?hyT270 hHeld ?_
                    case hiT270 => (simp only [List.getElem?_toArray, List.getElem?_cons_succ, List.getElem?_cons_zero]; with_reducible rfl)
                    case hdT270 => rfl
                    case hwT270 => rfl
                    case hyT270 => (intro w hSw; (try dsimp only at hSw); go_simp; first | done | with_reducible rfl)
                    try simp only [Act.put]
                    try simp only [List.setIfInBounds_toArray, List.set_cons_zero, List.set_cons_succ]
                    refine stepOne 17 (o := ?oT271) ?hiT271 (by kernel_rfl) ?hwT271 (fun K hK => ?_)
                    case hiT271 => (simp only [List.getElem?_toArray, List.getElem?_cons_succ, List.getElem?_cons_zero]; with_reducible rfl)
                    case hwT271 => rfl
                    refine wp_append_bytes (.tmp 34) (.tmp 35) rfl wa.heap.size _ _ _ _ rfl (hP5.get 1 rfl) rfl (HBY.out _ hB5) (by decide +kernel) hP5.1 Ar.fB rfl ?_
                    rintro v36 wn6 hgr
                    have hP6 : Pool wn6 wa.heap.size [((.slice A32 n32 c32), ([] ++ Fr.frm (Ar.fB.take 14))), (v36, Ar.fB), ((.slice A25 n25 c25), ([] ++ Fr.frm [])), ((.slice (some ⟨g37, 0, none⟩) 1 1), [0]), ((.slice A20 n20 c20), ([] ++ Fr.frm Ar.fB))] := hP5.app 1 rfl hgr
                    have hB6 := hB5.trans hgr.2.2.2
                    clear hgr hP5 hB5
                    refine hK.out _ _ ?_ (fun hHeld => ?_)
                    · trivial
                    clear hK K
                    try simp only [Act.put]
                    try simp only [List.setIfInBounds_toArray, List.set_cons_zero, List.set_cons_succ]
                    refine stepOne 19 (o := ?oT272) ?hiT272 (by kernel_rfl) ?hwT272 (fun K hK => ?_)
                    case hiT272 => (simp only [List.getElem?_toArray, List.getElem?_cons_succ, List.getElem?_cons_zero]; with_reducible rfl)
                    case hwT272 => rfl
                    refine wp_append_bytes (.tmp 36) (.tmp 37) rfl wa.heap.size _ _ _ _ rfl (hP6.get 1 rfl) rfl (hP6.get 3 rfl).bytes (by decide +kernel) hP6.1 (Ar.fB ++ [0]) rfl ?_
                    rintro v38 wn7 hgr
                    have hP7 : Pool wn7 wa.heap.size [((.slice A32 n32 c32), ([] ++ Fr.frm (Ar.fB.take 14))), (v38, (Ar.fB ++ [0])), ((.slice A25 n25 c25), ([] ++ Fr.frm [])), ((.slice (some ⟨g37, 0, none⟩) 1 1), [0]), ((.slice A20 n20 c20), ([] ++ Fr.frm Ar.fB))] := hP6.app 1 rfl hgr
                    have hB7 := hB6.trans hgr.2.2.2
                    clear hgr hP6 hB6
                    refine hK.out _ _ ?_ (fun hHeld => ?_)
                    · trivial
                    clear hK K
                    try simp only [Act.put]
                    try simp only [List.setIfInBounds_toArray, List.set_cons_zero, List.set_cons_succ]
                    exact hfrom _ _ _ _ (HT _ _ _ _ A20 c20 A25 c25 A32 c32 v38 rfl (by kernel_rfl) rfl rfl rfl rfl rfl rfl rfl rfl rfl rfl rfl rfl rfl rfl rfl rfl rfl rfl rfl rfl rfl rfl rfl rfl rfl rfl rfl rfl rfl (hP7.pick [4, 2, 0, 1] (by decide) (by intro i hi; simp at hi ⊢; omega)) hB7)
                  refine stepOf 15 (o := ?oT273) ?hiT273 ?hwT273 (fun K hK => ?_) AllReadyH.nil
                  case hiT273 => (simp only [List.getElem?_toArray, List.getElem?_cons_succ, List.getElem?_cons_zero]; with_reducible rfl)
                  case hwT273 => rfl
                  go_simp
                  have hP3 := hP2.nil
                  have hB3 := hB2.alloc hP2.1 (.cells #[] 5)
                  obtain ⟨g34, hg⟩ : ∃ g, wn2.heap.size = g := ⟨_, rfl⟩
                  obtain ⟨wn3, hwm⟩ : ∃ wm, wn2.alloc (.cells #[] 5) = wm := ⟨_, rfl⟩
                  have hP3' : Pool wn3 wa.heap.size [((.slice (some ⟨g34, 0, none⟩) 0 0), []), ((.slice (some ⟨g37, 0, none⟩) 1 1), [0]), ((.slice A20 n20 c20), ([] ++ Fr.frm Ar.fB))] := by rw [← hwm, ← hg]; exact hP3
                  rw [hwm] at hB3 ⊢
                  rw [hg]
                  clear hwm hg hP3 hP2 hB2
                  have hP3 := hP3'
                  clear hP3'
                  refine hK.out _ _ ?_ (fun hHeld => ?_)
                  · trivial
                  clear hK K
                  try simp only [Act.put]
                  try simp only [List.setIfInBounds_toArray, List.set_cons_zero, List.set_cons_succ]
                  refine stepOne 6 (o := ?oT274) ?hiT274 (by kernel_rfl) ?hwT274 (fun K hK => ?_)
                  case hiT274 => (simp only [List.getElem?_toArray, List.getElem?_cons_succ, List.getElem?_cons_zero]; with_reducible rfl)
                  case hwT274 => rfl
                  go_simp
                  go_at_call 38
                  refine (refput_is _ _ [] [] _ _ (bytes_none _) (bytes_none _) (by decide +kernel) (by decide +kernel) rfl).mono ?_
                  rintro e wn4 ⟨v25, rfl, ho, hb⟩
                  obtain ⟨_, _, A25, c25, hv, _, _⟩ := ho.bytes.parts
                  rw [HL25.out] at hv
                  subst hv
                  have hP4 : Pool wn4 wa.heap.size [((.slice A25 n25 c25), ([] ++ Fr.frm [])), ((.slice (some ⟨g34, 0, none⟩) 0 0), []), ((.slice (some ⟨g37, 0, none⟩) 1 1), [0]), ((.slice A20 n20 c20), ([] ++ Fr.frm Ar.fB))] := hP3.made hb ho
                  have hB4 := hB3.trans (hb.mono hB3.size)
                  clear ho hb hP3 hB3
                  refine hK.out _ _ ?_ (fun hHeld => ?_)
                  · trivial
                  clear hK K
                  try simp only [Act.put]
                  try simp only [List.setIfInBounds_toArray, List.set_cons_zero, List.set_cons_succ]
                  refine takeW 7 (some 26) (oi := ?oT275) (v := ?vT275) ?hiT275 ?hdT275 (by kernel_rfl) (by kernel_rfl) (by kernel_rfl) (fun _ _ _ h => h) ?hwT275 ?hyT275 hHeld ?_
                  case hiT275 => (simp only [List.getElem?_toArray, List.getElem?_cons_succ, List.getElem?_cons_zero]; with_reducible rfl)
                  case hdT275 => rfl
                  case hwT275 => rfl
                  case hyT275 => (intro w hSw; (try dsimp only at hSw); go_simp; first | done | with_reducible rfl)
                  try simp only [Act.put]
                  try simp only [List.setIfInBounds_toArray, List.set_cons_zero, List.set_cons_succ]
                  refine stepOne 13 (o := ?oT276) ?hiT276 (by kernel_rfl) ?hwT276 (fun K hK => ?_)
                  case hiT276 => (simp only [List.getElem?_toArray, List.getElem?_cons_succ, List.getElem?_cons_zero]; with_reducible rfl)
                  case hwT276 => rfl
                  go_simp
                  go_at_call 38
                  refine (refput_is _ _ [] (Ar.fB.take 14) _ _ (bytes_none _) ((HBY.out _ hB4).head (k := 14) (by decide) (by omega)) (by decide +kernel) (by decide +kernel) rfl).mono ?_
                  rintro e wn5 ⟨v32, rfl, ho, hb⟩
                  obtain ⟨_, _, A32, c32, hv, _, _⟩ := ho.bytes.parts
                  rw [HL32.out] at hv
                  subst hv
                  have hP5 : Pool wn5 wa.heap.size [((.slice A32 n32 c32), ([] ++ Fr.frm (Ar.fB.take 14))), ((.slice A25 n25 c25), ([] ++ Fr.frm [])), ((.slice (some ⟨g34, 0, none⟩) 0 0), []), ((.slice (some ⟨g37, 0, none⟩) 1 1), [0]), ((.slice A20 n20 c20), ([] ++ Fr.frm Ar.fB))] := hP4.made hb ho
                  have hB5 := hB4.trans (hb.mono hB4.size)
                  clear ho hb hP4 hB4
                  refine hK.out _ _ ?_ (fun hHeld => ?_)
                  · trivial
                  clear hK K
                  try simp only [Act.put]
                  try simp only [List.setIfInBounds_toArray, List.set_cons_zero, List.set_cons_succ]
                  refine takeW 14 (some 33) (oi := ?oT277) (v := ?vT277) ?hiT277 ?hdT277 (by kernel_rfl) (by kernel_rfl) (by kernel_rfl) (fun _ _ _ h => h) ?hwT277 ?hyT277 hHeld ?_
                  case hiT277 => (simp only [List.getElem?_toArray, List.getElem?_cons_succ, List.getElem?_cons_zero]; with_reducible rfl)
                  case hdT277 => rfl
                  case hwT277 => rfl
                  case hyT277 => (intro w hSw; (try dsimp only at hSw); go_simp; first | done | with_reducible rfl)
                  try simp only [Act.put]
                  try simp only [List.setIfInBounds_toArray, List.set_cons_zero, List.set_cons_succ]
                  refine stepOne 17 (o := ?oT278) ?hiT278 (by kernel_rfl) ?hwT278 (fun K hK => ?_)
                  case hiT278 => (simp only [List.getElem?_toArray, List.getElem?_cons_succ, List.getElem?_cons_zero]; with_reducible rfl)
                  case hwT278 => rfl
                  refine wp_append_bytes (.tmp 34) (.tmp 35) rfl wa.heap.size _ _ _ _ rfl (hP5.get 2 rfl) rfl (HBY.out _ hB5) (by decide +kernel) hP5.1 Ar.fB rfl ?_
                  rintro v36 wn6 hgr
                  have hP6 : Pool wn6 wa.heap.size [((.slice A32 n32 c32), ([] ++ Fr.frm (Ar.fB.take 14))), ((.slice A25 n25 c25), ([] ++ Fr.frm [])), (v36, Ar.fB), ((.slice (some ⟨g37, 0, none⟩) 1 1), [0]), ((.slice A20 n20 c20), ([] ++ Fr.frm Ar.fB))] := hP5.app 2 rfl hgr
                  have hB6 := hB5.trans hgr.2.2.2
                  clear hgr hP5 hB5
                  refine hK.out _ _ ?_ (fun hHeld => ?_)
                  · trivial
                  clear hK K
                  try simp only [Act.put]
                  try simp only [List.setIfInBounds_toArray, List.set_cons_zero, List.set_cons_succ]
                  refine stepOne 19 (o := ?oT279) ?hiT279 (by kernel_rfl) ?hwT279 (fun K hK => ?_)
                  case hiT279 => (simp only [List.getElem?_toArray, List.getElem?_cons_succ, List.getElem?_cons_zero]; with_reducible rfl)
                  case hwT279 => rfl
                  refine wp_append_bytes (.tmp 36) (.tmp 37) rfl wa.heap.size _ _ _ _ rfl (hP6.get 2 rfl) rfl (hP6.get 3 rfl).bytes (by decide +kernel) hP6.1 (Ar.fB ++ [0]) rfl ?_
                  rintro v38 wn7 hgr
                  have hP7 : Pool wn7 wa.heap.size [((.slice A32 n32 c32), ([] ++ Fr.frm (Ar.fB.take 14))), ((.slice A25 n25 c25), ([] ++ Fr.frm [])), (v38, (Ar.fB ++ [0])), ((.slice (some ⟨g37, 0, none⟩) 1 1), [0]), ((.slice A20 n20 c20), ([] ++ Fr.frm Ar.fB))] := hP6.app 2 rfl hgr
                  have hB7 := hB6.trans hgr.2.2.2
                  clear hgr hP6 hB6
                  refine hK.out _ _ ?_ (fun hHeld => ?_)
                  · trivial
                  clear hK K
                  try simp only [Act.put]
                  try simp only [List.setIfInBounds_toArray, List.set_cons_zero, List.set_cons_succ]
                  exact hfrom _ _ _ _ (HT _ _ _ _ A20 c20 A25 c25 A32 c32 v38 rfl (by kernel_rfl) rfl rfl rfl rfl rfl rfl rfl rfl rfl rfl rfl rfl rfl rfl rfl rfl rfl rfl rfl rfl rfl rfl rfl rfl rfl rfl rfl rfl rfl (hP7.pick [4, 1, 0, 2] (by decide) (by intro i hi; simp at hi ⊢; omega)) hB7)
          refine stepOf 15 (o := ?oT280) ?hiT280 ?hwT280 (fun K hK => ?_) ?_
          case hiT280 => (simp only [List.getElem?_toArray, List.getElem?_cons_succ, List.getElem?_cons_zero]; with_reducible rfl)
          case hwT280 => rfl
          · as_aux_lemma =>
              go_simp
              have hP1 := hP0.nil
              have hB1 := hB0.alloc hP0.1 (.cells #[] 5)
              obtain ⟨g34, hg⟩ : ∃ g, wn0.heap.size = g := ⟨_, rfl⟩
              obtain ⟨wn1, hwm⟩ : ∃ wm, wn0.alloc (.cells #[] 5) = wm := ⟨_, rfl⟩
              have hP1' : Pool wn1 wa.heap.size [((.slice (some ⟨g34, 0, none⟩) 0 0), [])] := by rw [← hwm, ← hg]; exact hP1
              rw [hwm] at hB1 ⊢
              rw [hg]
              clear hwm hg hP1 hP0 hB0
              have hP1 := hP1'
              clear hP1'
              refine hK.out _ _ ?_ (fun hHeld => ?_)
              · trivial
              clear hK K
              try simp only [Act.put]
              try simp only [List.setIfInBounds_toArray, List.set_cons_zero, List.set_cons_succ]
              refine wpAnyH_ready (rs := [1, 18]) (by kernel_rfl) (by simp) ?_
              refine stepOf 1 (o := ?oT281) ?hiT281 ?hwT281 (fun K hK => ?_) ?_
              case hiT281 => (simp only [List.getElem?_toArray, List.getElem?_cons_succ, List.getElem?_cons_zero]; with_reducible rfl)
              case hwT281 => rfl
              · as_aux_lemma =>
                  go_simp
                  go_at_call 38
                  refine (refput_is _ _ [] Ar.fB _ _ (bytes_none _) (HBY.out _ hB1) (by decide +kernel) (by decide +kernel) rfl).mono ?_
                  rintro e wn2 ⟨v20, rfl, ho, hb⟩
                  obtain ⟨_, _, A20, c20, hv, _, _⟩ := ho.bytes.parts
                  rw [HL20.out] at hv
                  subst hv
                  have hP2 : Pool wn2 wa.heap.size [((.slice A20 n20 c20), ([] ++ Fr.frm Ar.fB)), ((.slice (some ⟨g34, 0, none⟩) 0 0), [])] := hP1.made hb ho
                  have hB2 := hB1.trans (hb.mono hB1.size)
                  clear ho hb hP1 hB1
                  refine hK.out _ _ ?_ (fun hHeld => ?_)
                  · trivial
                  clear hK K
                  try simp only [Act.put]
                  try simp only [List.setIfInBounds_toArray, List.set_cons_zero, List.set_cons_succ]
                  refine takeW 2 (some 21) (oi := ?oT282) (v := ?vT282) ?hiT282 ?hdT282 (by kernel_rfl) (by kernel_rfl) (by kernel_rfl) (fun _ _ _ h => h) ?hwT282 ?hyT282 hHeld ?_
                  case hiT282 => (simp only [List.getElem?_toArray, List.getElem?_cons_succ, List.getElem?_cons_zero]; with_reducible rfl)
                  case hdT282 => rfl
                  case hwT282 => rfl
                  case hyT282 => (intro w hSw; (try dsimp only at hSw); go_simp; first | done | with_reducible rfl)
                  try simp only [Act.put]
                  try simp only [List.setIfInBounds_toArray, List.set_cons_zero, List.set_cons_succ]
                  refine wpAnyH_ready (rs := [6, 18]) (by kernel_rfl) (by simp) ?_
                  refine stepOf 6 (o := ?oT283) ?hiT283 ?hwT283 (fun K hK => ?_) ?_
                  case hiT283 => (simp only [List.getElem?_toArray, List.getElem?_cons_succ, List.getElem?_cons_zero]; with_reducible rfl)
                  case hwT283 => rfl
                  · skip
                    go_simp
                    go_at_call 38
                    refine (refput_is _ _ [] [] _ _ (bytes_none _) (bytes_none _) (by decide +kernel) (by decide +kernel) rfl).mono ?_
                    rintro e wn3 ⟨v25, rfl, ho, hb⟩
                    obtain ⟨_, _, A25, c25, hv, _, _⟩ := ho.bytes.parts
                    rw [HL25.out] at hv
                    subst hv
                    have hP3 : Pool wn3 wa.heap.size [((.slice A25 n25 c25), ([] ++ Fr.frm [])), ((.slice A20 n20 c20), ([] ++ Fr.frm Ar.fB)), ((.slice (some ⟨g34, 0, none⟩) 0 0), [])] := hP2.made hb ho
                    have hB3 := hB2.trans (hb.mono hB2.size)
                    clear ho hb hP2 hB2
                    refine hK.out _ _ ?_ (fun hHeld => ?_)
                    · trivial
                    clear hK K
                    try simp only [Act.put]
                    try simp only [List.setIfInBounds_toArray, List.set_cons_zero, List.set_cons_succ]
                    refine takeW 7 (some 26) (oi := ?oT284) (v := ?vT284) ?hiT284 ?hdT284 (by kernel_rfl) (by kernel_rfl) (by kernel_rfl) (fun _ _ _ h => h) ?hwT284 ?hyT284 hHeld ?_
                    case hiT284 => (simp only [List.getElem?_toArray, List.getElem?_cons_succ, List.getElem?_cons_zero]; with_reducible rfl)
                    case hdT284 => rfl
                    case hwT284 => rfl
                    case hyT284 => (intro w hSw; (try dsimp only at hSw); go_simp; first | done | with_reducible rfl)
                    try simp only [Act.put]
                    try simp only [List.setIfInBounds_toArray, List.set_cons_zero, List.set_cons_succ]
                    refine wpAnyH_ready (rs := [13, 18]) (by kernel_rfl) (by simp) ?_
                    refine stepOf 13 (o := ?oT285) ?hiT285 ?hwT285 (fun K hK => ?_) ?_
                    case hiT285 => (simp only [List.getElem?_toArray, List.getElem?_cons_succ, List.getElem?_cons_zero]; with_reducible rfl)
                    case hwT285 => rfl
                    · skip
                      go_simp
                      go_at_call 38
                      refine (refput_is _ _ [] (Ar.fB.take 14) _ _ (bytes_none _) ((HBY.out _ hB3).head (k := 14) (by decide) (by omega)) (by decide +kernel) (by decide +kernel) rfl).mono ?_
                      rintro e wn4 ⟨v32, rfl, ho, hb⟩
                      obtain ⟨_, _, A32, c32, hv, _, _⟩ := ho.bytes.parts
                      rw [HL32.out] at hv
                      subst hv
                      have hP4 : Pool wn4 wa.heap.size [((.slice A32 n32 c32), ([] ++ Fr.frm (Ar.fB.take 14))), ((.slice A25 n25 c25), ([] ++ Fr.frm [])), ((.slice A20 n20 c20), ([] ++ Fr.frm Ar.fB)), ((.slice (some ⟨g34, 0, none⟩) 0 0), [])] := hP3.made hb ho
                      have hB4 := hB3.trans (hb.mono hB3.size)
                      clear ho hb hP3 hB3
                      refine hK.out _ _ ?_ (fun hHeld => ?_)
                      · trivial
                      clear hK K
                      try simp only [Act.put]
                      try simp only [List.setIfInBounds_toArray, List.set_cons_zero, List.set_cons_succ]
                      refine takeW 14 (some 33) (oi := ?oT286) (v := ?vT286) ?hiT286 ?hdT286 (by kernel_rfl) (by kernel_rfl) (by kernel_rfl) (fun _ _ _ h => h) ?hwT286 ?hyT286 hHeld ?_
                      case hiT286 => (simp only [List.getElem?_toArray, List.getElem?_cons_succ, List.getElem?_cons_zero]; with_reducible rfl)
                      case hdT286 => rfl
                      case hwT286 => rfl
                      case hyT286 => (intro w hSw; (try dsimp only at hSw); go_simp; first | done | with_reducible rfl)
                      try simp only [Act.put]
                      try simp only [List.setIfInBounds_toArray, List.set_cons_zero, List.set_cons_succ]
                      refine wpAnyH_ready (rs := [17, 18]) (by kernel_rfl) (by simp) ?_
                      refine stepOf 17 (o := ?oT287) ?hiT287 ?hwT287 (fun K hK => ?_) ?_
                      case hiT287 => (simp only [List.getElem?_toArray, List.getElem?_cons_succ, List.getElem?_cons_zero]; with_reducible rfl)
                      case hwT287 => rfl
                      · skip
                        refine wp_append_bytes (.tmp 34) (.tmp 35) rfl wa.heap.size _ _ _ _ rfl (hP4.get 3 rfl) rfl (HBY.out _ hB4) (by decide +kernel) hP4.1 Ar.fB rfl ?_
                        rintro v36 wn5 hgr
                        have hP5 : Pool wn5 wa.heap.size [((.slice A32 n32 c32), ([] ++ Fr.frm (Ar.fB.take 14))), ((.slice A25 n25 c25), ([] ++ Fr.frm [])), ((.slice A20 n20 c20), ([] ++ Fr.frm Ar.fB)), (v36, Ar.fB)] := hP4.app 3 rfl hgr
                        have hB5 := hB4.trans hgr.2.2.2
                        clear hgr hP4 hB4
                        refine hK.out _ _ ?_ (fun hHeld => ?_)
                        · trivial
                        clear hK K
                        try simp only [Act.put]
                        try simp only [List.setIfInBounds_toArray, List.set_cons_zero, List.set_cons_succ]
                        refine stepOne 18 (o := ?oT288) ?hiT288 (by kernel_rfl) ?hwT288 (fun K hK => ?_)
                        case hiT288 => (simp only [List.getElem?_toArray, List.getElem?_cons_succ, List.getElem?_cons_zero]; with_reducible rfl)
                        case hwT288 => rfl
                        go_simp
                        have hP6 := hP5.one 0 (by decide)
                        have hB6 := hB5.alloc hP5.1 (.cells #[.int .u8 0] 5)
                        obtain ⟨g37, hg⟩ : ∃ g, wn5.heap.size = g := ⟨_, rfl⟩
                        obtain ⟨wn6, hwm⟩ : ∃ wm, wn5.alloc (.cells #[.int .u8 0] 5) = wm := ⟨_, rfl⟩
                        have hP6' : Pool wn6 wa.heap.size [((.slice (some ⟨g37, 0, none⟩) 1 1), [0]), ((.slice A32 n32 c32), ([] ++ Fr.frm (Ar.fB.take 14))), ((.slice A25 n25 c25), ([] ++ Fr.frm [])), ((.slice A20 n20 c20), ([] ++ Fr.frm Ar.fB)), (v36, Ar.fB)] := by rw [← hwm, ← hg]; exact hP6
                        rw [hwm] at hB6 ⊢
                        rw [hg]
                        clear hwm hg hP6 hP5 hB5
                        have hP6 := hP6'
                        clear hP6'
                        refine hK.out _ _ ?_ (fun hHeld => ?_)
                        · trivial
                        clear hK K
                        try simp only [Act.put]
                        try simp only [List.setIfInBounds_toArray, List.set_cons_zero, List.set_cons_succ]
                        refine stepOne 19 (o := ?oT289) ?hiT289 (by kernel_rfl) ?hwT289 (fun K hK => ?_)
                        case hiT289 => (simp only [List.getElem?_toArray, List.getElem?_cons_succ, List.getElem?_cons_zero]; with_reducible rfl)
                        case hwT289 => rfl
                        refine wp_append_bytes (.tmp 36) (.tmp 37) rfl wa.heap.size _ _ _ _ rfl (hP6.get 4 rfl) rfl (hP6.get 0 rfl).bytes (by decide +kernel) hP6.1 (Ar.fB ++ [0]) rfl ?_
                        rintro v38 wn7 hgr
                        have hP7 : Pool wn7 wa.heap.size [((.slice (some ⟨g37, 0, none⟩) 1 1), [0]), ((.slice A32 n32 c32), ([] ++ Fr.frm (Ar.fB.take 14))), ((.slice A25 n25 c25), ([] ++ Fr.frm [])), ((.slice A20 n20 c20), ([] ++ Fr.frm Ar.fB)), (v38, (Ar.fB ++ [0]))] := hP6.app 4 rfl hgr
                        have hB7 := hB6.trans hgr.2.2.2
                        clear hgr hP6 hB6
                        refine hK.out _ _ ?_ (fun hHeld => ?_)
                        · trivial
                        clear hK K
                        try simp only [Act.put]
                        try simp only [List.setIfInBounds_toArray, List.set_cons_zero, List.set_cons_succ]
                        exact hfrom _ _ _ _ (HT _ _ _ _ A20 c20 A25 c25 A32 c32 v38 rfl (by kernel_rfl) rfl rfl rfl rfl rfl rfl rfl rfl rfl rfl rfl rfl rfl rfl rfl rfl rfl rfl rfl rfl rfl rfl rfl rfl rfl rfl rfl rfl rfl (hP7.pick [3, 2, 1, 4] (by decide) (by intro i hi; simp at hi ⊢; omega)) hB7)
                      refine stepOf 18 (o := ?oT290) ?hiT290 ?hwT290 (fun K hK => ?_) AllReadyH.nil
                      case hiT290 => (simp only [List.getElem?_toArray, List.getElem?_cons_succ, List.getElem?_cons_zero]; with_reducible rfl)
                      case hwT290 => rfl
                      go_simp
                      have hP5 := hP4.one 0 (by decide)
                      have hB5 := hB4.alloc hP4.1 (.cells #[.int .u8 0] 5)
                      obtain ⟨g37, hg⟩ : ∃ g, wn4.heap.size = g := ⟨_, rfl⟩
                      obtain ⟨wn5, hwm⟩ : ∃ wm, wn4.alloc (.cells #[.int .u8 0] 5) = wm := ⟨_, rfl⟩
                      have hP5' : Pool wn5 wa.heap.size [((.slice (some ⟨g37, 0, none⟩) 1 1), [0]), ((.slice A32 n32 c32), ([] ++ Fr.frm (Ar.fB.take 14))), ((.slice A25 n25 c25), ([] ++ Fr.frm [])), ((.slice A20 n20 c20), ([] ++ Fr.frm Ar.fB)), ((.slice (some ⟨g34, 0, none⟩) 0 0), [])] := by rw [← hwm, ← hg]; exact hP5
                      rw [hwm] at hB5 ⊢
                      rw [hg]
                      clear hwm hg hP5 hP4 hB4
                      have hP5 := hP5'
                      clear hP5'
                      refine hK.out _ _ ?_ (fun hHeld => ?_)
                      · trivial
                      clear hK K
                      try simp only [Act.put]
                      try simp only [List.setIfInBounds_toArray, List.set_cons_zero, List.set_cons_succ]
                      refine stepOne 17 (o := ?oT291) ?hiT291 (by kernel_rfl) ?hwT291 (fun K hK => ?_)
                      case hiT291 => (simp only [List.getElem?_toArray, List.getElem?_cons_succ, List.getElem?_cons_zero]; with_reducible rfl)
                      case hwT291 => rfl
                      refine wp_append_bytes (.tmp 34) (.tmp 35) rfl wa.heap.size _ _ _ _ rfl (hP5.get 4 rfl) rfl (HBY.out _ hB5) (by decide +kernel) hP5.1 Ar.fB rfl ?_
                      rintro v36 wn6 hgr
                      have hP6 : Pool wn6 wa.heap.size [((.slice (some ⟨g37, 0, none⟩) 1 1), [0]), ((.slice A32 n32 c32), ([] ++ Fr.frm (Ar.fB.take 14))), ((.slice A25 n25 c25), ([] ++ Fr.frm [])), ((.slice A20 n20 c20), ([] ++ Fr.frm Ar.fB)), (v36, Ar.fB)] := hP5.app 4 rfl hgr
                      have hB6 := hB5.trans hgr.2.2.2
                      clear hgr hP5 hB5
                      refine hK.out _ _ ?_ (fun hHeld => ?_)
                      · trivial
                      clear hK K
                      try simp only [Act.put]
                      try simp only [List.setIfInBounds_toArray, List.set_cons_zero, List.set_cons_succ]
                      refine stepOne 19 (o := ?oT292) ?hiT292 (by kernel_rfl) ?hwT292 (fun K hK => ?_)
                      case hiT292 => (simp only [List.getElem?_toArray, List.getElem?_cons_succ, List.getElem?_cons_zero]; with_reducible rfl)
                      case hwT292 => rfl
                      refine wp_append_bytes (.tmp 36) (.tmp 37) rfl wa.heap.size _ _ _ _ rfl (hP6.get 4 rfl) rfl (hP6.get 0 rfl).bytes (by decide +kernel) hP6.1 (Ar.fB ++ [0]) rfl ?_
                      rintro v38 wn7 hgr
                      have hP7 : Pool wn7 wa.heap.size [((.slice (some ⟨g37, 0, none⟩) 1 1), [0]), ((.slice A32 n32 c32), ([] ++ Fr.frm (Ar.fB.take 14))), ((.slice A25 n25 c25), ([] ++ Fr.frm [])), ((.slice A20 n20 c20), ([] ++ Fr.frm Ar.fB)), (v38, (Ar.fB ++ [0]))] := hP6.app 4 rfl hgr
                      have hB7 := hB6.trans hgr.2.2.2
                      clear hgr hP6 hB6
                      refine hK.out _ _ ?_ (fun hHeld => ?_)
                      · trivial
                      clear hK K
                      try simp only [Act.put]
                      try simp only [List.setIfInBounds_toArray, List.set_cons_zero, List.set_cons_succ]
                      exact hfrom _ _ _ _ (HT _ _ _ _ A20 c20 A25 c25 A32 c32 v38 rfl (by kernel_rfl) rfl rfl rfl rfl rfl rfl rfl rfl rfl rfl rfl rfl rfl rfl rfl rfl rfl rfl rfl rfl rfl rfl rfl rfl rfl rfl rfl rfl rfl (hP7.pick [3, 2, 1, 4] (by decide) (by intro i hi; simp at hi ⊢; omega)) hB7)
                    refine stepOf 18 (o := ?oT293) ?hiT293 ?hwT293 (fun K hK => ?_) AllReadyH.nil
                    case hiT293 => (simp only [List.getElem?_toArray, List.getElem?_cons_succ, List.getElem?_cons_zero]; with_reducible rfl)
                    case hwT293 => rfl
                    go_simp
                    have hP4 := hP3.one 0 (by decide)
                    have hB4 := hB3.alloc hP3.1 (.cells #[.int .u8 0] 5)
                    obtain ⟨g37, hg⟩ : ∃ g, wn3.heap.size = g := ⟨_, rfl⟩
                    obtain ⟨wn4, hwm⟩ : ∃ wm, wn3.alloc (.cells #[.int .u8 0] 5) = wm := ⟨_, rfl⟩
                    have hP4' : Pool wn4 wa.heap.size [((.slice (some ⟨g37, 0, none⟩) 1 1), [0]), ((.slice A25 n25 c25), ([] ++ Fr.frm [])), ((.slice A20 n20 c20), ([] ++ Fr.frm Ar.fB)), ((.slice (some ⟨g34, 0, none⟩) 0 0), [])] := by rw [← hwm, ← hg]; exact hP4
                    rw [hwm] at hB4 ⊢
                    rw [hg]
                    clear hwm hg hP4 hP3 hB3
                    have hP4 := hP4'
                    clear hP4'
                    refine hK.out _ _ ?_ (fun hHeld => ?_)
                    · trivial
                    clear hK K
                    try simp only [Act.put]
                    try simp only [List.setIfInBounds_toArray, List.set_cons_zero, List.set_cons_succ]
                    refine stepOne 13 (o := ?oT294) ?hiT294 (by kernel_rfl) ?hwT294 (fun K hK => ?_)
                    case hiT294 => (simp only [List.getElem?_toArray, List.getElem?_cons_succ, List.getElem?_cons_zero]; with_reducible rfl)
                    case hwT294 => rfl
                    go_simp
                    go_at_call 38
                    refine (refput_is _ _ [] (Ar.fB.take 14) _ _ (bytes_none _) ((HBY.out _ hB4).head (k := 14) (by decide) (by omega)) (by decide +kernel) (by decide +kernel) rfl).mono ?_
                    rintro e wn5 ⟨v32, rfl, ho, hb⟩
                    obtain ⟨_, _, A32, c32, hv, _, _⟩ := ho.bytes.parts
                    rw [HL32.out] at hv
                    subst hv
                    have hP5 : Pool wn5 wa.heap.size [((.slice A32 n32 c32), ([] ++ Fr.frm (Ar.fB.take 14))), ((.slice (some ⟨g37, 0, none⟩) 1 1), [0]), ((.slice A25 n25 c25), ([] ++ Fr.frm [])), ((.slice A20 n20 c20), ([] ++ Fr.frm Ar.fB)), ((.slice (some ⟨g34, 0, none⟩) 0 0), [])] := hP4.made hb ho
                    have hB5 := hB4.trans (hb.mono hB4.size)
                    clear ho hb hP4 hB4
                    refine hK.out _ _ ?_ (fun hHeld => ?_)
                    · trivial
                    clear hK K
                    try simp only [Act.put]
                    try simp only [List.setIfInBounds_toArray, List.set_cons_zero, List.set_cons_succ]
                    refine takeW 14 (some 33) (oi := ?oT295) (v := ?vT295) ?hiT295 ?hdT295 (by kernel_rfl) (by kernel_rfl) (by kernel_rfl) (fun _ _ _ h => h) ?hwT295 ?hyT295 hHeld ?_
                    case hiT295 => (simp only [List.getElem?_toArray, List.getElem?_cons_succ, List.getElem?_cons_zero]; with_reducible rfl)
                    case hdT295 => rfl
                    case hwT295 => rfl
                    case hyT295 => (intro w hSw; (try dsimp only at hSw); go_simp; first | done | with_reducible rfl)
                    try simp only [Act.put]
                    try simp only [List.setIfInBounds_toArray, List.set_cons_zero, List.set_cons_succ]
                    refine stepOne 17 (o := ?oT296) ?hiT296 (by kernel_rfl) ?hwT296 (fun K hK => ?_)
                    case hiT296 => (simp only [List.getElem?_toArray, List.getElem?_cons_succ, List.getElem?_cons_zero]; with_reducible rfl)
                    case hwT296 => rfl
                    refine wp_append_bytes (.tmp 34) (.tmp 35) rfl wa.heap.size _ _ _ _ rfl (hP5.get 4 rfl) rfl (HBY.out _ hB5) (by decide +kernel) hP5.1 Ar.fB rfl ?_
                    rintro v36 wn6 hgr
                    have hP6 : Pool wn6 wa.heap.size [((.slice A32 n32 c32), ([] ++ Fr.frm (Ar.fB.take 14))), ((.slice (some ⟨g37, 0, none⟩) 1 1), [0]), ((.slice A25 n25 c25), ([] ++ Fr.frm [])), ((.slice A20 n20 c20), ([] ++ Fr.frm Ar.fB)), (v36, Ar.fB)] := hP5.app 4 rfl hgr
                    have hB6 := hB5.trans hgr.2.2.2
                    clear hgr hP5 hB5
                    refine hK.out _ _ ?_ (fun hHeld => ?_)
                    · trivial
                    clear hK K
                    try simp only [Act.put]
                    try simp only [List.setIfInBounds_toArray, List.set_cons_zero, List.set_cons_succ]
                    refine stepOne 19 (o := ?oT297) ?hiT297 (by kernel_rfl) ?hwT297 (fun K hK => ?_)
                    case hiT297 => (simp only [List.getElem?_toArray, List.getElem?_cons_succ, List.getElem?_cons_zero]; with_reducible rfl)
                    case hwT297 => rfl
                    refine wp_append_bytes (.tmp 36) (.tmp 37) rfl wa.heap.size _ _ _ _ rfl (hP6.get 4 rfl) rfl (hP6.get 1 rfl).bytes (by decide +kernel) hP6.1 (Ar.fB ++ [0]) rfl ?_
                    rintro v38 wn7 hgr
                    have hP7 : Pool wn7 wa.heap.size [((.slice A32 n32 c32), ([] ++ Fr.frm (Ar.fB.take 14))), ((.slice (some ⟨g37, 0, none⟩) 1 1), [0]), ((.slice A25 n25 c25), ([] ++ Fr.frm [])), ((.slice A20 n20 c20), ([] ++ Fr.frm Ar.fB)), (v38, (Ar.fB ++ [0]))] := hP6.app 4 rfl hgr
                    have hB7 := hB6.trans hgr.2.2.2
                    clear hgr hP6 hB6
                    refine hK.out _ _ ?_ (fun hHeld => ?_)
                    · trivial
                    clear hK K
                    try simp only [Act.put]
                    try simp only [List.setIfInBounds_toArray, List.set_cons_zero, List.set_cons_succ]
                    exact hfrom _ _ _ _ (HT _ _ _ _ A20 c20 A25 c25 A32 c32 v38 rfl (by kernel_rfl) rfl rfl rfl rfl rfl rfl rfl rfl rfl rfl rfl rfl rfl rfl rfl rfl rfl rfl rfl rfl rfl rfl rfl rfl rfl rfl rfl rfl rfl (hP7.pick [3, 2, 0, 4] (by decide) (by intro i hi; simp at hi ⊢; omega)) hB7)
                  refine stepOf 18 (o := ?oT298) ?hiT298 ?hwT298 (fun K hK => ?_) AllReadyH.nil
                  case hiT298 => (simp only [List.getElem?_toArray, List.getElem?_cons_succ, List.getElem?_cons_zero]; with_reducible rfl)
                  case hwT298 => rfl
                  go_simp
                  have hP3 := hP2.one 0 (by decide)
                  have hB3 := hB2.alloc hP2.1 (.cells #[.int .u8 0] 5)
                  obtain ⟨g37, hg⟩ : ∃ g, wn2.heap.size = g := ⟨_, rfl⟩
                  obtain ⟨wn3, hwm⟩ : ∃ wm, wn2.alloc (.cells #[.int .u8 0] 5) = wm := ⟨_, rfl⟩
                  have hP3' : Pool wn3 wa.heap.size [((.slice (some ⟨g37, 0, none⟩) 1 1), [0]), ((.slice A20 n20 c20), ([] ++ Fr.frm Ar.fB)), ((.slice (some ⟨g34, 0, none⟩) 0 0), [])] := by rw [← hwm, ← hg]; exact hP3
                  rw [hwm] at hB3 ⊢
                  rw [hg]
                  clear hwm hg hP3 hP2 hB2
                  have hP3 := hP3'
                  clear hP3'
                  refine hK.out _ _ ?_ (fun hHeld => ?_)
                  · trivial
                  clear hK K
                  try simp only [Act.put]
                  try simp only [List.setIfInBounds_toArray, List.set_cons_zero, List.set_cons_succ]
                  refine stepOne 6 (o := ?oT299) ?hiT299 (by kernel_rfl) ?hwT299 (fun K hK => ?_)
                  case hiT299 => (simp only [List.getElem?_toArray, List.getElem?_cons_succ, List.getElem?_cons_zero]; with_reducible rfl)
                  case hwT299 => rfl
                  go_simp
                  go_at_call 38
                  refine (refput_is _ _ [] [] _ _ (bytes_none _) (bytes_none _) (by decide +kernel) (by decide +kernel) rfl).mono ?_
                  rintro e wn4 ⟨v25, rfl, ho, hb⟩
                  obtain ⟨_, _, A25, c25, hv, _, _⟩ := ho.bytes.parts
                  rw [HL25.out] at hv
                  subst hv
                  have hP4 : Pool wn4 wa.heap.size [((.slice A25 n25 c25), ([] ++ Fr.frm [])), ((.slice (some ⟨g37, 0, none⟩) 1 1), [0]), ((.slice A20 n20 c20), ([] ++ Fr.frm Ar.fB)), ((.slice (some ⟨g34, 0, none⟩) 0 0), [])] := hP3.made hb ho
                  have hB4 := hB3.trans (hb.mono hB3.size)
                  clear ho hb hP3 hB3
                  refine hK.out _ _ ?_ (fun hHeld => ?_)
                  · trivial
                  clear hK K
                  try simp only [Act.put]
                  try simp only [List.setIfInBounds_toArray, List.set_cons_zero, List.set_cons_succ]
                  refine takeW 7 (some 26) (oi := ?oT300) (v := ?vT300) ?hiT300 ?hdT300 (by kernel_rfl) (by kernel_rfl) (by kernel_rfl) (fun _ _ _ h => h) ?hwT300 ?hyT300 hHeld ?_
                  case hiT300 => (simp only [List.getElem?_toArray, List.getElem?_cons_succ, List.getElem?_cons_zero]; with_reducible rfl)
                  case hdT300 => rfl
                  case hwT300 => rfl
                  case hyT300 => (intro w hSw; (try dsimp only at hSw); go_simp; first | done | with_reducible rfl)
                  try simp only [Act.put]
                  try simp only [List.setIfInBounds_toArray, List.set_cons_zero, List.set_cons_succ]
                  refine stepOne 13 (o := ?oT301) ?hiT301 (by kernel_rfl) ?hwT301 (fun K hK => ?_)
                  case hiT301 => (simp only [List.getElem?_toArray, List.getElem?_cons_succ, List.getElem?_cons_zero]; with_reducible rfl)
                  case hwT301 => rfl
                  go_simp
                  go_at_call 38
                  refine (refput_is _ _ [] (Ar.fB.take 14) _ _ (bytes_none _) ((HBY.out _ hB4).head (k := 14) (by decide) (by omega)) (by decide +kernel) (by decide +kernel) rfl).mono ?_
                  rintro e wn5 ⟨v32, rfl, ho, hb⟩
                  obtain ⟨_, _, A32, c32, hv, _, _⟩ := ho.bytes.parts
                  rw [HL32.out] at hv
                  subst hv
                  have hP5 : Pool wn5 wa.heap.size [((.slice A32 n32 c32), ([] ++ Fr.frm (Ar.fB.take 14))), ((.slice A25 n25 c25), ([] ++ Fr.frm [])), ((.slice (some ⟨g37, 0, none⟩) 1 1), [0]), ((.slice A20 n20 c20), ([] ++ Fr.frm Ar.fB)), ((.slice (some ⟨g34, 0, none⟩) 0 0), [])] := hP4.made hb ho
                  have hB5 := hB4.trans (hb.mono hB4.size)
                  clear ho hb hP4 hB4
                  refine hK.out _ _ ?_ (fun hHeld => ?_)
                  · trivial
                  clear hK K
                  try simp only [Act.put]
                  try simp only [List.setIfInBounds_toArray, List.set_cons_zero, List.set_cons_succ]
                  refine takeW 14 (some 33) (oi := ?oT302) (v := ?vT302) ?hiT302 ?hdT302 (by kernel_rfl) (by kernel_rfl) (by kernel_rfl) (fun _ _ _ h => h) ?hwT302 ?hyT302 hHeld ?_
                  case hiT302 => (simp only [List.getElem?_toArray, List.getElem?_cons_succ, List.getElem?_cons_zero]; with_reducible rfl)
                  case hdT302 => rfl
                  case hwT302 => rfl
                  case hyT302 => (intro w hSw; (try dsimp only at hSw); go_simp; first | done | with_reducible rfl)
                  try simp only [Act.put]
                  try simp only [List.setIfInBounds_toArray, List.set_cons_zero, List.set_cons_succ]
                  refine stepOne 17 (o := ?oT303) ?hiT303 (by kernel_rfl) ?hwT303 (fun K hK => ?_)
                  case hiT303 => (simp only [List.getElem?_toArray, List.getElem?_cons_succ, List.getElem?_cons_zero]; with_reducible rfl)
                  case hwT303 => rfl
                  refine wp_append_bytes (.tmp 34) (.tmp 35) rfl wa.heap.size _ _ _ _ rfl (hP5.get 4 rfl) rfl (HBY.out _ hB5) (by decide +kernel) hP5.1 Ar.fB rfl ?_
                  rintro v36 wn6 hgr
                  have hP6 : Pool wn6 wa.heap.size [((.slice A32 n32 c32), ([] ++ Fr.frm (Ar.fB.take 14))), ((.slice A25 n25 c25), ([] ++ Fr.frm [])), ((.slice (some ⟨g37, 0, none⟩) 1 1), [0]), ((.slice A20 n20 c20), ([] ++ Fr.frm Ar.fB)), (v36, Ar.fB)] := hP5.app 4 rfl hgr
                  have hB6 := hB5.trans hgr.2.2.2
                  clear hgr hP5 hB5
                  refine hK.out _ _ ?_ (fun hHeld => ?_)
                  · trivial
                  clear hK K
                  try simp only [Act.put]
                  try simp only [List.setIfInBounds_toArray, List.set_cons_zero, List.set_cons_succ]
                  refine stepOne 19 (o := ?oT304) ?hiT304 (by kernel_rfl) ?hwT304 (fun K hK => ?_)
                  case hiT304 => (simp only [List.getElem?_toArray, List.getElem?_cons_succ, List.getElem?_cons_zero]; with_reducible rfl)
                  case hwT304 => rfl
                  refine wp_append_bytes (.tmp 36) (.tmp 37) rfl wa.heap.size _ _ _ _ rfl (hP6.get 4 rfl) rfl (hP6.get 2 rfl).bytes (by decide +kernel) hP6.1 (Ar.fB ++ [0]) rfl ?_
                  rintro v38 wn7 hgr
                  have hP7 : Pool wn7 wa.heap.size [((.slice A32 n32 c32), ([] ++ Fr.frm (Ar.fB.take 14))), ((.slice A25 n25 c25), ([] ++ Fr.frm [])), ((.slice (some ⟨g37, 0, none⟩) 1 1), [0]), ((.slice A20 n20 c20), ([] ++ Fr.frm Ar.fB)), (v38, (Ar.fB ++ [0]))] := hP6.app 4 rfl hgr
                  have hB7 := hB6.trans hgr.2.2.2
                  clear hgr hP6 hB6
                  refine hK.out _ _ ?_ (fun hHeld => ?_)
                  · trivial
                  clear hK K
                  try simp only [Act.put]
                  try simp only [List.setIfInBounds_toArray, List.set_cons_zero, List.set_cons_succ]
                  exact hfrom _ _ _ _ (HT _ _ _ _ A20 c20 A25 c25 A32 c32 v38 rfl (by kernel_rfl) rfl rfl rfl rfl rfl rfl rfl rfl rfl rfl rfl rfl rfl rfl rfl rfl rfl rfl rfl rfl rfl rfl rfl rfl rfl rfl rfl rfl rfl (hP7.pick [3, 1, 0, 4] (by decide) (by intro i hi; simp at hi ⊢; omega)) hB7)
              refine stepOf 18 (o := ?oT305) ?hiT305 ?hwT305 (fun K hK => ?_) AllReadyH.nil
              case hiT305 => (simp only [List.getElem?_toArray, List.getElem?_cons_succ, List.getElem?_cons_zero]; with_reducible rfl)
              case hwT305 => rfl
              · as_aux_lemma =>
                  go_simp
                  have hP2 := hP1.one 0 (by decide)
                  have hB2 := hB1.alloc hP1.1 (.cells #[.int .u8 0] 5)
                  obtain ⟨g37, hg⟩ : ∃ g, wn1.heap.size = g := ⟨_, rfl⟩
                  obtain ⟨wn2, hwm⟩ : ∃ wm, wn1.alloc (.cells #[.int .u8 0] 5) = wm := ⟨_, rfl⟩
                  have hP2' : Pool wn2 wa.heap.size [((.slice (some ⟨g37, 0, none⟩) 1 1), [0]), ((.slice (some ⟨g34, 0, none⟩) 0 0), [])] := by rw [← hwm, ← hg]; exact hP2
                  rw [hwm] at hB2 ⊢
                  rw [hg]
                  clear hwm hg hP2 hP1 hB1
                  have hP2 := hP2'
                  clear hP2'
                  refine hK.out _ _ ?_ (fun hHeld => ?_)
                  · trivial
                  clear hK K
                  try simp only [Act.put]
                  try simp only [List.setIfInBounds_toArray, List.set_cons_zero, List.set_cons_succ]
                  refine stepOne 1 (o := ?oT306) ?hiT306 (by kernel_rfl) ?hwT306 (fun K hK => ?_)
                  case hiT306 => (simp only [List.getElem?_toArray, List.getElem?_cons_succ, List.getElem?_cons_zero]; with_reducible rfl)
                  case hwT306 => rfl
                  go_simp
                  go_at_call 38
                  refine (refput_is _ _ [] Ar.fB _ _ (bytes_none _) (HBY.out _ hB2) (by decide +kernel) (by decide +kernel) rfl).mono ?_
                  rintro e wn3 ⟨v20, rfl, ho, hb⟩
                  obtain ⟨_, _, A20, c20, hv, _, _⟩ := ho.bytes.parts
                  rw [HL20.out] at hv
                  subst hv
                  have hP3 : Pool wn3 wa.heap.size [((.slice A20 n20 c20), ([] ++ Fr.frm Ar.fB)), ((.slice (some ⟨g37, 0, none⟩) 1 1), [0]), ((.slice (some ⟨g34, 0, none⟩) 0 0), [])] := hP2.made hb ho
                  have hB3 := hB2.trans (hb.mono hB2.size)
                  clear ho hb hP2 hB2
                  refine hK.out _ _ ?_ (fun hHeld => ?_)
                  · trivial
                  clear hK K
                  try simp only [Act.put]
                  try simp only [List.setIfInBounds_toArray, List.set_cons_zero, List.set_cons_succ]
                  refine takeW 2 (some 21) (oi := ?oT307) (v := ?vT307) ?hiT307 ?hdT307 (by kernel_rfl) (by kernel_rfl) (by kernel_rfl) (fun _ _ _ h => h) ?hwT307 ?hyT307 hHeld ?_
                  case hiT307 => (simp only [List.getElem?_toArray, List.getElem?_cons_succ, List.getElem?_cons_zero]; with_reducible rfl)
                  case hdT307 => rfl
                  case hwT307 => rfl
                  case hyT307 => (intro w hSw; (try dsimp only at hSw); go_simp; first | done | with_reducible rfl)
                  try simp only [Act.put]
                  try simp only [List.setIfInBounds_toArray, List.set_cons_zero, List.set_cons_succ]
                  refine stepOne 6 (o := ?oT308) ?hiT308 (by kernel_rfl) ?hwT308 (fun K hK => ?_)
                  case hiT308 => (simp only [List.getElem?_toArray, List.getElem?_cons_succ, List.getElem?_cons_zero]; with_reducible rfl)
                  case hwT308 => rfl
                  go_simp
                  go_at_call 38
                  refine (refput_is _ _ [] [] _ _ (bytes_none _) (bytes_none _) (by decide +kernel) (by decide +kernel) rfl).mono ?_
                  rintro e wn4 ⟨v25, rfl, ho, hb⟩
                  obtain ⟨_, _, A25, c25, hv, _, _⟩ := ho.bytes.parts
                  rw [HL25.out] at hv
                  subst hv
                  have hP4 : Pool wn4 wa.heap.size [((.slice A25 n25 c25), ([] ++ Fr.frm [])), ((.slice A20 n20 c20), ([] ++ Fr.frm Ar.fB)), ((.slice (some ⟨g37, 0, none⟩) 1 1), [0]), ((.slice (some ⟨g34, 0, none⟩) 0 0), [])] := hP3.made hb ho
                  have hB4 := hB3.trans (hb.mono hB3.size)
                  clear ho hb hP3 hB3
                  refine hK.out _ _ ?_ (fun hHeld => ?_)
                  · trivial
                  clear hK K
                  try simp only [Act.put]
                  try simp only [List.setIfInBounds_toArray, List.set_cons_zero, List.set_cons_succ]
                  refine takeW 7 (some 26) (oi := ?oT309) (v := ?vT309) ?hiT309 ?hdT309 (by kernel_rfl) (by kernel_rfl) (by kernel_rfl) (fun _ _ _ h => h) ?hwT309 ?hyT309 hHeld ?_
                  case hiT309 => (simp only [List.getElem?_toArray, List.getElem?_cons_succ, List.getElem?_cons_zero]; with_reducible rfl)
                  case hdT309 => rfl
                  case hwT309 => rfl
                  case hyT309 => (intro w hSw; (try dsimp only at hSw); go_simp; first | done | with_reducible rfl)
                  try simp only [Act.put]
                  try simp only [List.setIfInBounds_toArray, List.set_cons_zero, List.set_cons_succ]
                  refine stepOne 13 (o := ?oT310) ?hiT310 (by kernel_rfl) ?hwT310 (fun K hK => ?_)
                  case hiT310 => (simp only [List.getElem?_toArray, List.getElem?_cons_succ, List.getElem?_cons_zero]; with_reducible rfl)
                  case hwT310 => rfl
                  go_simp
                  go_at_call 38
                  refine (refput_is _ _ [] (Ar.fB.take 14) _ _ (bytes_none _) ((HBY.out _ hB4).head (k := 14) (by decide) (by omega)) (by decide +kernel) (by decide +kernel) rfl).mono ?_
                  rintro e wn5 ⟨v32, rfl, ho, hb⟩
                  obtain ⟨_, _, A32, c32, hv, _, _⟩ := ho.bytes.parts
                  rw [HL32.out] at hv
                  subst hv
                  have hP5 : Pool wn5 wa.heap.size [((.slice A32 n32 c32), ([] ++ Fr.frm (Ar.fB.take 14))), ((.slice A25 n25 c25), ([] ++ Fr.frm [])), ((.slice A20 n20 c20), ([] ++ Fr.frm Ar.fB)), ((.slice (some ⟨g37, 0, none⟩) 1 1), [0]), ((.slice (some ⟨g34, 0, none⟩) 0 0), [])] := hP4.made hb ho
                  have hB5 := hB4.trans (hb.mono hB4.size)
                  clear ho hb hP4 hB4
                  refine hK.out _ _ ?_ (fun hHeld => ?_)
                  · trivial
                  clear hK K
                  try simp only [Act.put]
                  try simp only [List.setIfInBounds_toArray, List.set_cons_zero, List.set_cons_succ]
                  refine takeW 14 (some 33) (oi := ?oT311) (v := ?vT311) ?hiT311 ?hdT311 (by kernel_rfl) (by kernel_rfl) (by kernel_rfl) (fun _ _ _ h => h) ?hwT311 ?hyT311 hHeld ?_
                  case hiT311 => (simp only [List.getElem?_toArray, List.getElem?_cons_succ, List.getElem?_cons_zero]; with_reducible rfl)
                  case hdT311 => rfl
                  case hwT311 => rfl
                  case hyT311 => (intro w hSw; (try dsimp only at hSw); go_simp; first | done | with_reducible rfl)
                  try simp only [Act.put]
                  try simp only [List.setIfInBounds_toArray, List.set_cons_zero, List.set_cons_succ]
                  refine stepOne 17 (o := ?oT312) ?hiT312 (by kernel_rfl) ?hwT312 (fun K hK => ?_)
                  case hiT312 => (simp only [List.getElem?_toArray, List.getElem?_cons_succ, List.getElem?_cons_zero]; with_reducible rfl)
                  case hwT312 => rfl
                  refine wp_append_bytes (.tmp 34) (.tmp 35) rfl wa.heap.size _ _ _ _ rfl (hP5.get 4 rfl) rfl (HBY.out _ hB5) (by decide +kernel) hP5.1 Ar.fB rfl ?_
                  rintro v36 wn6 hgr
                  have hP6 : Pool wn6 wa.heap.size [((.slice A32 n32 c32), ([] ++ Fr.frm (Ar.fB.take 14))), ((.slice A25 n25 c25), ([] ++ Fr.frm [])), ((.slice A20 n20 c20), ([] ++ Fr.frm Ar.fB)), ((.slice (some ⟨g37, 0, none⟩) 1 1), [0]), (v36, Ar.fB)] := hP5.app 4 rfl hgr
                  have hB6 := hB5.trans hgr.2.2.2
                  clear hgr hP5 hB5
                  refine hK.out _ _ ?_ (fun hHeld => ?_)
                  · trivial
                  clear hK K
                  try simp only [Act.put]
                  try simp only [List.setIfInBounds_toArray, List.set_cons_zero, List.set_cons_succ]
                  refine stepOne 19 (o := ?oT313) ?hiT313 (by kernel_rfl) ?hwT313 (fun K hK => ?_)
                  case hiT313 => (simp only [List.getElem?_toArray, List.getElem?_cons_succ, List.getElem?_cons_zero]; with_reducible rfl)
                  case hwT313 => rfl
                  refine wp_append_bytes (.tmp 36) (.tmp 37) rfl wa.heap.size _ _ _ _ rfl (hP6.get 4 rfl) rfl (hP6.get 3 rfl).bytes (by decide +kernel) hP6.1 (Ar.fB ++ [0]) rfl ?_
                  rintro v38 wn7 hgr
                  have hP7 : Pool wn7 wa.heap.size [((.slice A32 n32 c32), ([] ++ Fr.frm (Ar.fB.take 14))), ((.slice A25 n25 c25), ([] ++ Fr.frm [])), ((.slice A20 n20 c20), ([] ++ Fr.frm Ar.fB)), ((.slice (some ⟨g37, 0, none⟩) 1 1), [0]), (v38, (Ar.fB ++ [0]))] := hP6.app 4 rfl hgr
                  have hB7 := hB6.trans hgr.2.2.2
                  clear hgr hP6 hB6
                  refine hK.out _ _ ?_ (fun hHeld => ?_)
                  · trivial
                  clear hK K
                  try simp only [Act.put]
                  try simp only [List.setIfInBounds_toArray, List.set_cons_zero, List.set_cons_succ]
                  exact hfrom _ _ _ _ (HT _ _ _ _ A20 c20 A25 c25 A32 c32 v38 rfl (by kernel_rfl) rfl rfl rfl rfl rfl rfl rfl rfl rfl rfl rfl rfl rfl rfl rfl rfl rfl rfl rfl rfl rfl rfl rfl rfl rfl rfl rfl rfl rfl (hP7.pick [2, 1, 0, 4] (by decide) (by intro i hi; simp at hi ⊢; omega)) hB7)
          refine stepOf 18 (o := ?oT314) ?hiT314 ?hwT314 (fun K hK => ?_) AllReadyH.nil
          case hiT314 => (simp only [List.getElem?_toArray, List.getElem?_cons_succ, List.getElem?_cons_zero]; with_reducible rfl)
          case hwT314 => rfl
          · as_aux_lemma =>
              go_simp
              have hP1 := hP0.one 0 (by decide)
              have hB1 := hB0.alloc hP0.1 (.cells #[.int .u8 0] 5)
              obtain ⟨g37, hg⟩ : ∃ g, wn0.heap.size = g := ⟨_, rfl⟩
              obtain ⟨wn1, hwm⟩ : ∃ wm, wn0.alloc (.cells #[.int .u8 0] 5) = wm := ⟨_, rfl⟩
              have hP1' : Pool wn1 wa.heap.size [((.slice (some ⟨g37, 0, none⟩) 1 1), [0])] := by rw [← hwm, ← hg]; exact hP1
              rw [hwm] at hB1 ⊢
              rw [hg]
              clear hwm hg hP1 hP0 hB0
              have hP1 := hP1'
              clear hP1'
              refine hK.out _ _ ?_ (fun hHeld => ?_)
              · trivial
              clear hK K
              try simp only [Act.put]
              try simp only [List.setIfInBounds_toArray, List.set_cons_zero, List.set_cons_succ]
              refine wpAnyH_ready (rs := [1, 15]) (by kernel_rfl) (by simp) ?_
              refine stepOf 1 (o := ?oT315) ?hiT315 ?hwT315 (fun K hK => ?_) ?_
              case hiT315 => (simp only [List.getElem?_toArray, List.getElem?_cons_succ, List.getElem?_cons_zero]; with_reducible rfl)
              case hwT315 => rfl
              · as_aux_lemma =>
                  go_simp
                  go_at_call 38
                  refine (refput_is _ _ [] Ar.fB _ _ (bytes_none _) (HBY.out _ hB1) (by decide +kernel) (by decide +kernel) rfl).mono ?_
                  rintro e wn2 ⟨v20, rfl, ho, hb⟩
                  obtain ⟨_, _, A20, c20, hv, _, _⟩ := ho.bytes.parts
                  rw [HL20.out] at hv
                  subst hv
                  have hP2 : Pool wn2 wa.heap.size [((.slice A20 n20 c20), ([] ++ Fr.frm Ar.fB)), ((.slice (some ⟨g37, 0, none⟩) 1 1), [0])] := hP1.made hb ho
                  have hB2 := hB1.trans (hb.mono hB1.size)
                  clear ho hb hP1 hB1
                  refine hK.out _ _ ?_ (fun hHeld => ?_)
                  · trivial
                  clear hK K
                  try simp only [Act.put]
                  try simp only [List.setIfInBounds_toArray, List.set_cons_zero, List.set_cons_succ]
                  refine takeW 2 (some 21) (oi := ?oT316) (v := ?vT316) ?hiT316 ?hdT316 (by kernel_rfl) (by kernel_rfl) (by kernel_rfl) (fun _ _ _ h => h) ?hwT316 ?hyT316 hHeld ?_
                  case hiT316 => (simp only [List.getElem?_toArray, List.getElem?_cons_succ, List.getElem?_cons_zero]; with_reducible rfl)
                  case hdT316 => rfl
                  case hwT316 => rfl
                  case hyT316 => (intro w hSw; (try dsimp only at hSw); go_simp; first | done | with_reducible rfl)
                  try simp only [Act.put]
                  try simp only [List.setIfInBounds_toArray, List.set_cons_zero, List.set_cons_succ]
                  refine wpAnyH_ready (rs := [6, 15]) (by kernel_rfl) (by simp) ?_
                  refine stepOf 6 (o := ?oT317) ?hiT317 ?hwT317 (fun K hK => ?_) ?_
                  case hiT317 => (simp only [List.getElem?_toArray, List.getElem?_cons_succ, List.getElem?_cons_zero]; with_reducible rfl)
                  case hwT317 => rfl
                  · skip
                    go_simp
                    go_at_call 38
                    refine (refput_is _ _ [] [] _ _ (bytes_none _) (bytes_none _) (by decide +kernel) (by decide +kernel) rfl).mono ?_
                    rintro e wn3 ⟨v25, rfl, ho, hb⟩
                    obtain ⟨_, _, A25, c25, hv, _, _⟩ := ho.bytes.parts
                    rw [HL25.out] at hv
                    subst hv
                    have hP3 : Pool wn3 wa.heap.size [((.slice A25 n25 c25), ([] ++ Fr.frm [])), ((.slice A20 n20 c20), ([] ++ Fr.frm Ar.fB)), ((.slice (some ⟨g37, 0, none⟩) 1 1), [0])] := hP2.made hb ho
                    have hB3 := hB2.trans (hb.mono hB2.size)
                    clear ho hb hP2 hB2
                    refine hK.out _ _ ?_ (fun hHeld => ?_)
                    · trivial
                    clear hK K
                    try simp only [Act.put]
                    try simp only [List.setIfInBounds_toArray, List.set_cons_zero, List.set_cons_succ]
                    refine takeW 7 (some 26) (oi := ?oT318) (v := ?vT318) ?hiT318 ?hdT318 (by kernel_rfl) (by kernel_rfl) (by kernel_rfl) (fun _ _ _ h => h) ?hwT318 ?hyT318 hHeld ?_
                    case hiT318 => (simp only [List.getElem?_toArray, List.getElem?_cons_succ, List.getElem?_cons_zero]; with_reducible rfl)
                    case hdT318 => rfl
                    case hwT318 => rfl
                    case hyT318 => (intro w hSw; (try dsimp only at hSw); go_simp; first | done | with_reducible rfl)
                    try simp only [Act.put]
                    try simp only [List.setIfInBounds_toArray, List.set_cons_zero, List.set_cons_succ]
                    refine wpAnyH_ready (rs := [13, 15]) (by kernel_rfl) (by simp) ?_
                    refine stepOf 13 (o := ?oT319) ?hiT319 ?hwT319 (fun K hK => ?_) ?_
                    case hiT319 => (simp only [List.getElem?_toArray, List.getElem?_cons_succ, List.getElem?_cons_zero]; with_reducible rfl)
                    case hwT319 => rfl
                    · skip
                      go_simp
                      go_at_call 38
                      refine (refput_is _ _ [] (Ar.fB.take 14) _ _ (bytes_none _) ((HBY.out _ hB3).head (k := 14) (by decide) (by omega)) (by decide +kernel) (by decide +kernel) rfl).mono ?_
                      rintro e wn4 ⟨v32, rfl, ho, hb⟩
                      obtain ⟨_, _, A32, c32, hv, _, _⟩ := ho.bytes.parts
                      rw [HL32.out] at hv
                      subst hv
                      have hP4 : Pool wn4 wa.heap.size [((.slice A32 n32 c32), ([] ++ Fr.frm (Ar.fB.take 14))), ((.slice A25 n25 c25), ([] ++ Fr.frm [])), ((.slice A20 n20 c20), ([] ++ Fr.frm Ar.fB)), ((.slice (some ⟨g37, 0, none⟩) 1 1), [0])] := hP3.made hb ho
                      have hB4 := hB3.trans (hb.mono hB3.size)
                      clear ho hb hP3 hB3
                      refine hK.out _ _ ?_ (fun hHeld => ?_)
                      · trivial
                      clear hK K
                      try simp only [Act.put]
                      try simp only [List.setIfInBounds_toArray, List.set_cons_zero, List.set_cons_succ]
                      refine takeW 14 (some 33) (oi := ?oT320) (v := ?vT320) ?hiT320 ?hdT320 (by kernel_rfl) (by kernel_rfl) (by kernel_rfl) (fun _ _ _ h => h) ?hwT320 ?hyT320 hHeld ?_
                      case hiT320 => (simp only [List.getElem?_toArray, List.getElem?_cons_succ, List.getElem?_cons_zero]; with_reducible rfl)
                      case hdT320 => rfl
                      case hwT320 => rfl
                      case hyT320 => (intro w hSw; (try dsimp only at hSw); go_simp; first | done | with_reducible rfl)
                      try simp only [Act.put]
                      try simp only [List.setIfInBounds_toArray, List.set_cons_zero, List.set_cons_succ]
                      refine stepOne 15 (o := ?oT321) ?hiT321 (by kernel_rfl) ?hwT321 (fun K hK => ?_)
                      case hiT321 => (simp only [List.getElem?_toArray, List.getElem?_cons_succ, List.getElem?_cons_zero]; with_reducible rfl)
                      case hwT321 => rfl
                      go_simp
                      have hP5 := hP4.nil
                      have hB5 := hB4.alloc hP4.1 (.cells #[] 5)
                      obtain ⟨g34, hg⟩ : ∃ g, wn4.heap.size = g := ⟨_, rfl⟩
                      obtain ⟨wn5, hwm⟩ : ∃ wm, wn4.alloc (.cells #[] 5) = wm := ⟨_, rfl⟩
                      have hP5' : Pool wn5 wa.heap.size [((.slice (some ⟨g34, 0, none⟩) 0 0), []), ((.slice A32 n32 c32), ([] ++ Fr.frm (Ar.fB.take 14))), ((.slice A25 n25 c25), ([] ++ Fr.frm [])), ((.slice A20 n20 c20), ([] ++ Fr.frm Ar.fB)), ((.slice (some ⟨g37, 0, none⟩) 1 1), [0])] := by rw [← hwm, ← hg]; exact hP5
                      rw [hwm] at hB5 ⊢
                      rw [hg]
                      clear hwm hg hP5 hP4 hB4
                      have hP5 := hP5'
                      clear hP5'
                      refine hK.out _ _ ?_ (fun hHeld => ?_)
                      · trivial
                      clear hK K
                      try simp only [Act.put]
                      try simp only [List.setIfInBounds_toArray, List.set_cons_zero, List.set_cons_succ]
                      refine stepOne 17 (o := ?oT322) ?hiT322 (by kernel_rfl) ?hwT322 (fun K hK => ?_)
                      case hiT322 => (simp only [List.getElem?_toArray, List.getElem?_cons_succ, List.getElem?_cons_zero]; with_reducible rfl)
                      case hwT322 => rfl
                      refine wp_append_bytes (.tmp 34) (.tmp 35) rfl wa.heap.size _ _ _ _ rfl (hP5.get 0 rfl) rfl (HBY.out _ hB5) (by decide +kernel) hP5.1 Ar.fB rfl ?_
                      rintro v36 wn6 hgr
                      have hP6 : Pool wn6 wa.heap.size [(v36, Ar.fB), ((.slice A32 n32 c32), ([] ++ Fr.frm (Ar.fB.take 14))), ((.slice A25 n25 c25), ([] ++ Fr.frm [])), ((.slice A20 n20 c20), ([] ++ Fr.frm Ar.fB)), ((.slice (some ⟨g37, 0, none⟩) 1 1), [0])] := hP5.app 0 rfl hgr
                      have hB6 := hB5.trans hgr.2.2.2
                      clear hgr hP5 hB5
                      refine hK.out _ _ ?_ (fun hHeld => ?_)
                      · trivial
                      clear hK K
                      try simp only [Act.put]
                      try simp only [List.setIfInBounds_toArray, List.set_cons_zero, List.set_cons_succ]
                      refine stepOne 19 (o := ?oT323) ?hiT323 (by kernel_rfl) ?hwT323 (fun K hK => ?_)
                      case hiT323 => (simp only [List.getElem?_toArray, List.getElem?_cons_succ, List.getElem?_cons_zero]; with_reducible rfl)
                      case hwT323 => rfl
                      refine wp_append_bytes (.tmp 36) (.tmp 37) rfl wa.heap.size _ _ _ _ rfl (hP6.get 0 rfl) rfl (hP6.get 4 rfl).bytes (by decide +kernel) hP6.1 (Ar.fB ++ [0]) rfl ?_
                      rintro v38 wn7 hgr
                      have hP7 : Pool wn7 wa.heap.size [(v38, (Ar.fB ++ [0])), ((.slice A32 n32 c32), ([] ++ Fr.frm (Ar.fB.take 14))), ((.slice A25 n25 c25), ([] ++ Fr.frm [])), ((.slice A20 n20 c20), ([] ++ Fr.frm Ar.fB)), ((.slice (some ⟨g37, 0, none⟩) 1 1), [0])] := hP6.app 0 rfl hgr
                      have hB7 := hB6.trans hgr.2.2.2
                      clear hgr hP6 hB6
                      refine hK.out _ _ ?_ (fun hHeld => ?_)
                      · trivial
                      clear hK K
                      try simp only [Act.put]
                      try simp only [List.setIfInBounds_toArray, List.set_cons_zero, List.set_cons_succ]
                      exact hfrom _ _ _ _ (HT _ _ _ _ A20 c20 A25 c25 A32 c32 v38 rfl (by kernel_rfl) rfl rfl rfl rfl rfl rfl rfl rfl rfl rfl rfl rfl rfl rfl rfl rfl rfl rfl rfl rfl rfl rfl rfl rfl rfl rfl rfl rfl rfl (hP7.pick [3, 2, 1, 0] (by decide) (by intro i hi; simp at hi ⊢; omega)) hB7)
                    refine stepOf 15 (o := ?oT324) ?hiT324 ?hwT324 (fun K hK => ?_) AllReadyH.nil
                    case hiT324 => (simp only [List.getElem?_toArray, List.getElem?_cons_succ, List.getElem?_cons_zero]; with_reducible rfl)
                    case hwT324 => rfl
                    go_simp
                    have hP4 := hP3.nil
                    have hB4 := hB3.alloc hP3.1 (.cells #[] 5)
                    obtain ⟨g34, hg⟩ : ∃ g, wn3.heap.size = g := ⟨_, rfl⟩
                    obtain ⟨wn4, hwm⟩ : ∃ wm, wn3.alloc (.cells #[] 5) = wm := ⟨_, rfl⟩
                    have hP4' : Pool wn4 wa.heap.size [((.slice (some ⟨g34, 0, none⟩) 0 0), []), ((.slice A25 n25 c25), ([] ++ Fr.frm [])), ((.slice A20 n20 c20), ([] ++ Fr.frm Ar.fB)), ((.slice (some ⟨g37, 0, none⟩) 1 1), [0])] := by rw [← hwm, ← hg]; exact hP4
                    rw [hwm] at hB4 ⊢
                    rw [hg]
                    clear hwm hg hP4 hP3 hB3
                    have hP4 := hP4'
                    clear hP4'
                    refine hK.out _ _ ?_ (fun hHeld => ?_)
                    · trivial
                    clear hK K
                    try simp only [Act.put]
                    try simp only [List.setIfInBounds_toArray, List.set_cons_zero, List.set_cons_succ]
                    refine stepOne 13 (o := ?oT325) ?hiT325 (by kernel_rfl) ?hwT325 (fun K hK => ?_)
                    case hiT325 => (simp only [List.getElem?_toArray, List.getElem?_cons_succ, List.getElem?_cons_zero]; with_reducible rfl)
                    case hwT325 => rfl
                    go_simp
                    go_at_call 38
                    refine (refput_is _ _ [] (Ar.fB.take 14) _ _ (bytes_none _) ((HBY.out _ hB4).head (k := 14) (by decide) (by omega)) (by decide +kernel) (by decide +kernel) rfl).mono ?_
                    rintro e wn5 ⟨v32, rfl, ho, hb⟩
                    obtain ⟨_, _, A32, c32, hv, _, _⟩ := ho.bytes.parts
                    rw [HL32.out] at hv
                    subst hv
                    have hP5 : Pool wn5 wa.heap.size [((.slice A32 n32 c32), ([] ++ Fr.frm (Ar.fB.take 14))), ((.slice (some ⟨g34, 0, none⟩) 0 0), []), ((.slice A25 n25 c25), ([] ++ Fr.frm [])), ((.slice A20 n20 c20), ([] ++ Fr.frm Ar.fB)), ((.slice (some ⟨g37, 0, none⟩) 1 1), [0])] := hP4.made hb ho
                    have hB5 := hB4.trans (hb.mono hB4.size)
                    clear ho hb hP4 hB4
                    refine hK.out _ _ ?_ (fun hHeld => ?_)
                    · trivial
                    clear hK K
                    try simp only [Act.put]
                    try simp only [List.setIfInBounds_toArray, List.set_cons_zero, List.set_cons_succ]
                    refine takeW 14 (some 33) (oi := ?oT326) (v := ?vT326) ?hiT326 ?hdT326 (by kernel_rfl) (by kernel_rfl) (by kernel_rfl) (fun _ _ _ h => h) ?hwT326 ?hyT326 hHeld ?_
                    case hiT326 => (simp only [List.getElem?_toArray, List.getElem?_cons_succ, List.getElem?_cons_zero]; with_reducible rfl)
                    case hdT326 => rfl
                    case hwT326 => rfl
                    case hyT326 => (intro w hSw; (try dsimp only at hSw); go_simp; first | done | with_reducible rfl)
                    try simp only [Act.put]
                    try simp only [List.setIfInBounds_toArray, List.set_cons_zero, List.set_cons_succ]
                    refine stepOne 17 (o := ?oT327) ?hiT327 (by kernel_rfl) ?hwT327 (fun K hK => ?_)
                    case hiT327 => (simp only [List.getElem?_toArray, List.getElem?_cons_succ, List.getElem?_cons_zero]; with_reducible rfl)
                    case hwT327 => rfl
                    refine wp_append_bytes (.tmp 34) (.tmp 35) rfl wa.heap.size _ _ _ _ rfl (hP5.get 1 rfl) rfl (HBY.out _ hB5) (by decide +kernel) hP5.1 Ar.fB rfl ?_
                    rintro v36 wn6 hgr
                    have hP6 : Pool wn6 wa.heap.size [((.slice A32 n32 c32), ([] ++ Fr.frm (Ar.fB.take 14))), (v36, Ar.fB), ((.slice A25 n25 c25), ([] ++ Fr.frm [])), ((.slice A20 n20 c20), ([] ++ Fr.frm Ar.fB)), ((.slice (some ⟨g37, 0, none⟩) 1 1), [0])] := hP5.app 1 rfl hgr
                    have hB6 := hB5.trans hgr.2.2.2
                    clear hgr hP5 hB5
                    refine hK.out _ _ ?_ (fun hHeld => ?_)
                    · trivial
                    clear hK K
                    try simp only [Act.put]
                    try simp only [List.setIfInBounds_toArray, List.set_cons_zero, List.set_cons_succ]
                    refine stepOne 19 (o := ?oT328) ?hiT328 (by kernel_rfl) ?hwT328 (fun K hK => ?_)
                    case hiT328 => (simp only [List.getElem?_toArray, List.getElem?_cons_succ, List.getElem?_cons_zero]; with_reducible rfl)
                    case hwT328 => rfl
                    refine wp_append_bytes (.tmp 36) (.tmp 37) rfl wa.heap.size _ _ _ _ rfl (hP6.get 1 rfl) rfl (hP6.get 4 rfl).bytes (by decide +kernel) hP6.1 (Ar.fB ++ [0]) rfl ?_
                    rintro v38 wn7 hgr
                    have hP7 : Pool wn7 wa.heap.size [((.slice A32 n32 c32), ([] ++ Fr.frm (Ar.fB.take 14))), (v38, (Ar.fB ++ [0])), ((.slice A25 n25 c25), ([] ++ Fr.frm [])), ((.slice A20 n20 c20), ([] ++ Fr.frm Ar.fB)), ((.slice (some ⟨g37, 0, none⟩) 1 1), [0])] := hP6.app 1 rfl hgr
                    have hB7 := hB6.trans hgr.2.2.2
                    clear hgr hP6 hB6
                    refine hK.out _ _ ?_ (fun hHeld => ?_)
                    · trivial
                    clear hK K
                    try simp only [Act.put]
                    try simp only [List.setIfInBounds_toArray, List.set_cons_zero, List.set_cons_succ]
                    exact hfrom _ _ _ _ (HT _ _ _ _ A20 c20 A25 c25 A32 c32 v38 rfl (by kernel_rfl) rfl rfl rfl rfl rfl rfl rfl rfl rfl rfl rfl rfl rfl rfl rfl rfl rfl rfl rfl rfl rfl rfl rfl rfl rfl rfl rfl rfl rfl (hP7.pick [3, 2, 0, 1] (by decide) (by intro i hi; simp at hi ⊢; omega)) hB7)
                  refine stepOf 15 (o := ?oT329) ?hiT329 ?hwT329 (fun K hK => ?_) AllReadyH.nil
                  case hiT329 => (simp only [List.getElem?_toArray, List.getElem?_cons_succ, List.getElem?_cons_zero]; with_reducible rfl)
                  case hwT329 => rfl
                  go_simp
                  have hP3 := hP2.nil
                  have hB3 := hB2.alloc hP2.1 (.cells #[] 5)
                  obtain ⟨g34, hg⟩ : ∃ g, wn2.heap.size = g := ⟨_, rfl⟩
                  obtain ⟨wn3, hwm⟩ : ∃ wm, wn2.alloc (.cells #[] 5) = wm := ⟨_, rfl⟩
                  have hP3' : Pool wn3 wa.heap.size [((.slice (some ⟨g34, 0, none⟩) 0 0), []), ((.slice A20 n20 c20), ([] ++ Fr.frm Ar.fB)), ((.slice (some ⟨g37, 0, none⟩) 1 1), [0])] := by rw [← hwm, ← hg]; exact hP3
                  rw [hwm] at hB3 ⊢
                  rw [hg]
                  clear hwm hg hP3 hP2 hB2
                  have hP3 := hP3'
                  clear hP3'
                  refine hK.out _ _ ?_ (fun hHeld => ?_)
                  · trivial
                  clear hK K
                  try simp only [Act.put]
                  try simp only [List.setIfInBounds_toArray, List.set_cons_zero, List.set_cons_succ]
                  refine stepOne 6 (o := ?oT330) ?hiT330 (by kernel_rfl) ?hwT330 (fun K hK => ?_)
                  case hiT330 => (simp only [List.getElem?_toArray, List.getElem?_cons_succ, List.getElem?_cons_zero]; with_reducible rfl)
                  case hwT330 => rfl
                  go_simp
                  go_at_call 38
                  refine (refput_is _ _ [] [] _ _ (bytes_none _) (bytes_none _) (by decide +kernel) (by decide +kernel) rfl).mono ?_
                  rintro e wn4 ⟨v25, rfl, ho, hb⟩
                  obtain ⟨_, _, A25, c25, hv, _, _⟩ := ho.bytes.parts
                  rw [HL25.out] at hv
                  subst hv
                  have hP4 : Pool wn4 wa.heap.size [((.slice A25 n25 c25), ([] ++ Fr.frm [])), ((.slice (some ⟨g34, 0, none⟩) 0 0), []), ((.slice A20 n20 c20), ([] ++ Fr.frm Ar.fB)), ((.slice (some ⟨g37, 0, none⟩) 1 1), [0])] := hP3.made hb ho
                  have hB4 := hB3.trans (hb.mono hB3.size)
                  clear ho hb hP3 hB3
                  refine hK.out _ _ ?_ (fun hHeld => ?_)
                  · trivial
                  clear hK K
                  try simp only [Act.put]
                  try simp only [List.setIfInBounds_toArray, List.set_cons_zero, List.set_cons_succ]
                  refine takeW 7 (some 26) (oi := ?oT331) (v := ?vT331) ?hiT331 ?hdT331 (by kernel_rfl) (by kernel_rfl) (by kernel_rfl) (fun _ _ _ h => h) ?hwT331 ?hyT331 hHeld ?_
                  case hiT331 => (simp only [List.getElem?_toArray, List.getElem?_cons_succ, List.getElem?_cons_zero]; with_reducible rfl)
                  case hdT331 => rfl
                  case hwT331 => rfl
                  case hyT331 => (intro w hSw; (try dsimp only at hSw); go_simp; first | done | with_reducible rfl)
                  try simp only [Act.put]
                  try simp only [List.setIfInBounds_toArray, List.set_cons_zero, List.set_cons_succ]
                  refine stepOne 13 (o := ?oT332) ?hiT332 (by kernel_rfl) ?hwT332 (fun K hK => ?_)
                  case hiT332 => (simp only [List.getElem?_toArray, List.getElem?_cons_succ, List.getElem?_cons_zero]; with_reducible rfl)
                  case hwT332 => rfl
                  go_simp
                  go_at_call 38
                  refine (refput_is _ _ [] (Ar.fB.take 14) _ _ (bytes_none _) ((HBY.out _ hB4).head (k := 14) (by decide) (by omega)) (by decide +kernel) (by decide +kernel) rfl).mono ?_
                  rintro e wn5 ⟨v32, rfl, ho, hb⟩
                  obtain ⟨_, _, A32, c32, hv, _, _⟩ := ho.bytes.parts
                  rw [HL32.out] at hv
                  subst hv
                  have hP5 : Pool wn5 wa.heap.size [((.slice A32 n32 c32), ([] ++ Fr.frm (Ar.fB.take 14))), ((.slice A25 n25 c25), ([] ++ Fr.frm [])), ((.slice (some ⟨g34, 0, none⟩) 0 0), []), ((.slice A20 n20 c20), ([] ++ Fr.frm Ar.fB)), ((.slice (some ⟨g37, 0, none⟩) 1 1), [0])] := hP4.made hb ho
                  have hB5 := hB4.trans (hb.mono hB4.size)
                  clear ho hb hP4 hB4
                  refine hK.out _ _ ?_ (fun hHeld => ?_)
                  · trivial
                  clear hK K
                  try simp only [Act.put]
                  try simp only [List.setIfInBounds_toArray, List.set_cons_zero, List.set_cons_succ]
                  refine takeW 14 (some 33) (oi := ?oT333) (v := ?vT333) ?hiT333 ?hdT333 (by kernel_rfl) (by kernel_rfl) (by kernel_rfl) (fun _ _ _ h => h) ?hwT333 ?hyT333 hHeld ?_
                  case hiT333 => (simp only [List.getElem?_toArray, List.getElem?_cons_succ, List.getElem?_cons_zero]; with_reducible rfl)
                  case hdT333 => rfl
                  case hwT333 => rfl
                  case hyT333 => (intro w hSw; (try dsimp only at hSw); go_simp; first | done | with_reducible rfl)
                  try simp only [Act.put]
                  try simp only [List.setIfInBounds_toArray, List.set_cons_zero, List.set_cons_succ]
                  refine stepOne 17 (o := ?oT334) ?hiT334 (by kernel_rfl) ?hwT334 (fun K hK => ?_)
                  case hiT334 => (simp only [List.getElem?_toArray, List.getElem?_cons_succ, List.getElem?_cons_zero]; with_reducible rfl)
                  case hwT334 => rfl
                  refine wp_append_bytes (.tmp 34) (.tmp 35) rfl wa.heap.size _ _ _ _ rfl (hP5.get 2 rfl) rfl (HBY.out _ hB5) (by decide +kernel) hP5.1 Ar.fB rfl ?_
                  rintro v36 wn6 hgr
                  have hP6 : Pool wn6 wa.heap.size [((.slice A32 n32 c32), ([] ++ Fr.frm (Ar.fB.take 14))), ((.slice A25 n25 c25), ([] ++ Fr.frm [])), (v36, Ar.fB), ((.slice A20 n20 c20), ([] ++ Fr.frm Ar.fB)), ((.slice (some ⟨g37, 0, none⟩) 1 1), [0])] := hP5.app 2 rfl hgr
                  have hB6 := hB5.trans hgr.2.2.2
                  clear hgr hP5 hB5
                  refine hK.out _ _ ?_ (fun hHeld => ?_)
                  · trivial
                  clear hK K
                  try simp only [Act.put]
                  try simp only [List.setIfInBounds_toArray, List.set_cons_zero, List.set_cons_succ]
                  refine stepOne 19 (o := ?oT335) ?hiT335 (by kernel_rfl) ?hwT335 (fun K hK => ?_)
                  case hiT335 => (simp only [List.getElem?_toArray, List.getElem?_cons_succ, List.getElem?_cons_zero]; with_reducible rfl)
                  case hwT335 => rfl
                  refine wp_append_bytes (.tmp 36) (.tmp 37) rfl wa.heap.size _ _ _ _ rfl (hP6.get 2 rfl) rfl (hP6.get 4 rfl).bytes (by decide +kernel) hP6.1 (Ar.fB ++ [0]) rfl ?_
                  rintro v38 wn7 hgr
                  have hP7 : Pool wn7 wa.heap.size [((.slice A32 n32 c32), ([] ++ Fr.frm (Ar.fB.take 14))), ((.slice A25 n25 c25), ([] ++ Fr.frm [])), (v38, (Ar.fB ++ [0])), ((.slice A20 n20 c20), ([] ++ Fr.frm Ar.fB)), ((.slice (some ⟨g37, 0, none⟩) 1 1), [0])] := hP6.app 2 rfl hgr
                  have hB7 := hB6.trans hgr.2.2.2
                  clear hgr hP6 hB6
                  refine hK.out _ _ ?_ (fun hHeld => ?_)
                  · trivial
                  clear hK K
                  try simp only [Act.put]
                  try simp only [List.setIfInBounds_toArray, List.set_cons_zero, List.set_cons_succ]
                  exact hfrom _ _ _ _ (HT _ _ _ _ A20 c20 A25 c25 A32 c32 v38 rfl (by kernel_rfl) rfl rfl rfl rfl rfl rfl rfl rfl rfl rfl rfl rfl rfl rfl rfl rfl rfl rfl rfl rfl rfl rfl rfl rfl rfl rfl rfl rfl rfl (hP7.pick [3, 1, 0, 2] (by decide) (by intro i hi; simp at hi ⊢; omega)) hB7)
              refine stepOf 15 (o := ?oT336) ?hiT336 ?hwT336 (fun K hK => ?_) AllReadyH.nil
              case hiT336 => (simp only [List.getElem?_toArray, List.getElem?_cons_succ, List.getElem?_cons_zero]; with_reducible rfl)
              case hwT336 => rfl
              · as_aux_lemma =>
                  go_simp
                  have hP2 := hP1.nil
                  have hB2 := hB1.alloc hP1.1 (.cells #[] 5)
                  obtain ⟨g34, hg⟩ : ∃ g, wn1.heap.size = g := ⟨_, rfl⟩
                  obtain ⟨wn2, hwm⟩ : ∃ wm, wn1.alloc (.cells #[] 5) = wm := ⟨_, rfl⟩
                  have hP2' : Pool wn2 wa.heap.size [((.slice (some ⟨g34, 0, none⟩) 0 0), []), ((.slice (some ⟨g37, 0, none⟩) 1 1), [0])] := by rw [← hwm, ← hg]; exact hP2
                  rw [hwm] at hB2 ⊢
                  rw [hg]
                  clear hwm hg hP2 hP1 hB1
                  have hP2 := hP2'
                  clear hP2'
                  refine hK.out _ _ ?_ (fun hHeld => ?_)
                  · trivial
                  clear hK K
                  try simp only [Act.put]
                  try simp only [List.setIfInBounds_toArray, List.set_cons_zero, List.set_cons_succ]
                  refine stepOne 1 (o := ?oT337) ?hiT337 (by kernel_rfl) ?hwT337 (fun K hK => ?_)
                  case hiT337 => (simp only [List.getElem?_toArray, List.getElem?_cons_succ, List.getElem?_cons_zero]; with_reducible rfl)
                  case hwT337 => rfl
                  go_simp
                  go_at_call 38
                  refine (refput_is _ _ [] Ar.fB _ _ (bytes_none _) (HBY.out _ hB2) (by decide +kernel) (by decide +kernel) rfl).mono ?_
                  rintro e wn3 ⟨v20, rfl, ho, hb⟩
                  obtain ⟨_, _, A20, c20, hv, _, _⟩ := ho.bytes.parts
                  rw [HL20.out] at hv
                  subst hv
                  have hP3 : Pool wn3 wa.heap.size [((.slice A20 n20 c20), ([] ++ Fr.frm Ar.fB)), ((.slice (some ⟨g34, 0, none⟩) 0 0), []), ((.slice (some ⟨g37, 0, none⟩) 1 1), [0])] := hP2.made hb ho
                  have hB3 := hB2.trans (hb.mono hB2.size)
                  clear ho hb hP2 hB2
                  refine hK.out _ _ ?_ (fun hHeld => ?_)
                  · trivial
                  clear hK K
                  try simp only [Act.put]
                  try simp only [List.setIfInBounds_toArray, List.set_cons_zero, List.set_cons_succ]
                  refine takeW 2 (some 21) (oi := ?oT338) (v := ?vT338) ?hiT338 ?hdT338 (by kernel_rfl) (by kernel_rfl) (by kernel_rfl) (fun _ _ _ h => h) ?hwT338 ?hyT338 hHeld ?_
                  case hiT338 => (simp only [List.getElem?_toArray, List.getElem?_cons_succ, List.getElem?_cons_zero]; with_reducible rfl)
                  case hdT338 => rfl
                  case hwT338 => rfl
                  case hyT338 => (intro w hSw; (try dsimp only at hSw); go_simp; first | done | with_reducible rfl)
                  try simp only [Act.put]
                  try simp only [List.setIfInBounds_toArray, List.set_cons_zero, List.set_cons_succ]
                  refine stepOne 6 (o := ?oT339) ?hiT339 (by kernel_rfl) ?hwT339 (fun K hK => ?_)
                  case hiT339 => (simp only [List.getElem?_toArray, List.getElem?_cons_succ, List.getElem?_cons_zero]; with_reducible rfl)
                  case hwT339 => rfl
                  go_simp
                  go_at_call 38
                  refine (refput_is _ _ [] [] _ _ (bytes_none _) (bytes_none _) (by decide +kernel) (by decide +kernel) rfl).mono ?_
                  rintro e wn4 ⟨v25, rfl, ho, hb⟩
                  obtain ⟨_, _, A25, c25, hv, _, _⟩ := ho.bytes.parts
                  rw [HL25.out] at hv
                  subst hv
                  have hP4 : Pool wn4 wa.heap.size [((.slice A25 n25 c25), ([] ++ Fr.frm [])), ((.slice A20 n20 c20), ([] ++ Fr.frm Ar.fB)), ((.slice (some ⟨g34, 0, none⟩) 0 0), []), ((.slice (some ⟨g37, 0, none⟩) 1 1), [0])] := hP3.made hb ho
                  have hB4 := hB3.trans (hb.mono hB3.size)
                  clear ho hb hP3 hB3
                  refine hK.out _ _ ?_ (fun hHeld => ?_)
                  · trivial
                  clear hK K
                  try simp only [Act.put]
                  try simp only [List.setIfInBounds_toArray, List.set_cons_zero, List.set_cons_succ]
                  refine takeW 7 (some 26) (oi := ?oT340) (v := ?vT340) ?hiT340 ?hdT340 (by kernel_rfl) (by kernel_rfl) (by kernel_rfl) (fun _ _ _ h => h) ?hwT340 ?hyT340 hHeld ?_
                  case hiT340 => (simp only [List.getElem?_toArray, List.getElem?_cons_succ, List.getElem?_cons_zero]; with_reducible rfl)
                  case hdT340 => rfl
                  case hwT340 => rfl
                  case hyT340 => (intro w hSw; (try dsimp only at hSw); go_simp; first | done | with_reducible rfl)
                  try simp only [Act.put]
                  try simp only [List.setIfInBounds_toArray, List.set_cons_zero, List.set_cons_succ]
                  refine stepOne 13 (o := ?oT341) ?hiT341 (by kernel_rfl) ?hwT341 (fun K hK => ?_)
                  case hiT341 => (simp only [List.getElem?_toArray, List.getElem?_cons_succ, List.getElem?_cons_zero]; with_reducible rfl)
                  case hwT341 => rfl
                  go_simp
                  go_at_call 38
                  refine (refput_is _ _ [] (Ar.fB.take 14) _ _ (bytes_none _) ((HBY.out _ hB4).head (k := 14) (by decide) (by omega)) (by decide +kernel) (by decide +kernel) rfl).mono ?_
                  rintro e wn5 ⟨v32, rfl, ho, hb⟩
                  obtain ⟨_, _, A32, c32, hv, _, _⟩ := ho.bytes.parts
                  rw [HL32.out] at hv
                  subst hv
                  have hP5 : Pool wn5 wa.heap.size [((.slice A32 n32 c32), ([] ++ Fr.frm (Ar.fB.take 14))), ((.slice A25 n25 c25), ([] ++ Fr.frm [])), ((.slice A20 n20 c20), ([] ++ Fr.frm Ar.fB)), ((.slice (some ⟨g34, 0, none⟩) 0 0), []), ((.slice (some ⟨g37, 0, none⟩) 1 1), [0])] := hP4.made hb ho
                  have hB5 := hB4.trans (hb.mono hB4.size)
                  clear ho hb hP4 hB4
                  refine hK.out _ _ ?_ (fun hHeld => ?_)
                  · trivial
                  clear hK K
                  try simp only [Act.put]
                  try simp only [List.setIfInBounds_toArray, List.set_cons_zero, List.set_cons_succ]
                  refine takeW 14 (some 33) (oi := ?oT342) (v := ?vT342) ?hiT342 ?hdT342 (by kernel_rfl) (by kernel_rfl) (by kernel_rfl) (fun _ _ _ h => h) ?hwT342 ?hyT342 hHeld ?_
                  case hiT342 => (simp only [List.getElem?_toArray, List.getElem?_cons_succ, List.getElem?_cons_zero]; with_reducible rfl)
                  case hdT342 => rfl
                  case hwT342 => rfl
                  case hyT342 => (intro w hSw; (try dsimp only at hSw); go_simp; first | done | with_reducible rfl)
                  try simp only [Act.put]
                  try simp only [List.setIfInBounds_toArray, List.set_cons_zero, List.set_cons_succ]
                  refine stepOne 17 (o := ?oT343) ?hiT343 (by kernel_rfl) ?hwT343 (fun K hK => ?_)
                  case hiT343 => (simp only [List.getElem?_toArray, List.getElem?_cons_succ, List.getElem?_cons_zero]; with_reducible rfl)
                  case hwT343 => rfl
                  refine wp_append_bytes (.tmp 34) (.tmp 35) rfl wa.heap.size _ _ _ _ rfl (hP5.get 3 rfl) rfl (HBY.out _ hB5) (by decide +kernel) hP5.1 Ar.fB rfl ?_
                  rintro v36 wn6 hgr
                  have hP6 : Pool wn6 wa.heap.size [((.slice A32 n32 c32), ([] ++ Fr.frm (Ar.fB.take 14))), ((.slice A25 n25 c25), ([] ++ Fr.frm [])), ((.slice A20 n20 c20), ([] ++ Fr.frm Ar.fB)), (v36, Ar.fB), ((.slice (some ⟨g37, 0, none⟩) 1 1), [0])] := hP5.app 3 rfl hgr
                  have hB6 := hB5.trans hgr.2.2.2
                  clear hgr hP5 hB5
                  refine hK.out _ _ ?_ (fun hHeld => ?_)
                  · trivial
                  clear hK K
                  try simp only [Act.put]
                  try simp only [List.setIfInBounds_toArray, List.set_cons_zero, List.set_cons_succ]
                  refine stepOne 19 (o := ?oT344) ?hiT344 (by kernel_rfl) ?hwT344 (fun K hK => ?_)
                  case hiT344 => (simp only [List.getElem?_toArray, List.getElem?_cons_succ, List.getElem?_cons_zero]; with_reducible rfl)
                  case hwT344 => rfl
                  refine wp_append_bytes (.tmp 36) (.tmp 37) rfl wa.heap.size _ _ _ _ rfl (hP6.get 3 rfl) rfl (hP6.get 4 rfl).bytes (by decide +kernel) hP6.1 (Ar.fB ++ [0]) rfl ?_
                  rintro v38 wn7 hgr
                  have hP7 : Pool wn7 wa.heap.size [((.slice A32 n32 c32), ([] ++ Fr.frm (Ar.fB.take 14))), ((.slice A25 n25 c25), ([] ++ Fr.frm [])), ((.slice A20 n20 c20), ([] ++ Fr.frm Ar.fB)), (v38, (Ar.fB ++ [0])), ((.slice (some ⟨g37, 0, none⟩) 1 1), [0])] := hP6.app 3 rfl hgr
                  have hB7 := hB6.trans hgr.2.2.2
                  clear hgr hP6 hB6
                  refine hK.out _ _ ?_ (fun hHeld => ?_)
                  · trivial
                  clear hK K
                  try simp only [Act.put]
                  try simp only [List.setIfInBounds_toArray, List.set_cons_zero, List.set_cons_succ]
                  exact hfrom _ _ _ _ (HT _ _ _ _ A20 c20 A25 c25 A32 c32 v38 rfl (by kernel_rfl) rfl rfl rfl rfl rfl rfl rfl rfl rfl rfl rfl rfl rfl rfl rfl rfl rfl rfl rfl rfl rfl rfl rfl rfl rfl rfl rfl rfl rfl (hP7.pick [2, 1, 0, 3] (by decide) (by intro i hi; simp at hi ⊢; omega)) hB7)
        case rest =>
          obtain ⟨g, rfl, HX, HB⟩ := hcut
          obtain ⟨wx1, rfl⟩ : ∃ wy : World, wy = wc := ⟨_, rfl⟩
          obtain ⟨z, hz0, hz1⟩ : ∃ z : Nat, z ≤ 255 ∧ bits .and .i64 which 255 = (z : Int) := ⟨_, Ar.and_low8 which⟩
          obtain ⟨k, hk0, hk1⟩ := Ar.rem_of z 12 (by decide)
          have hk2 : (z : Int).tmod 12 = (k : Int) := hk1
          obtain ⟨u, l, ok, hc1, hc2, hbu, hgd⟩ := HX.out k hk0
          have HBU := Lib.hid hbu
          have HGD := Lib.hid hgd
          obtain ⟨_, _, Au, cu, rfl, _, _⟩ := hbu.parts
          clear hbu hgd HX hk1
          obtain ⟨nl, hnl⟩ : ∃ n, l.length = n := ⟨_, rfl⟩
          rw [hnl] at HBU hc1
          have HNL := Lib.hid hnl
          clear hnl
          have HB1 := Lib.hid (HBA.out.trans (HB.out.mono HBA.out.size))
          have hba : Below wx1.heap.size wx1 (wx1.alloc (.cells #[.slice Au nl cu, .bool ok] 53)) := (Below.refl _ _).alloc (Nat.le_refl _) _
          have HB6 := Lib.hid (show Blk (wx1.alloc (.cells #[.slice Au nl cu, .bool ok] 53)) wx1.heap.size 53 #[.slice Au nl cu, .bool ok] from heap_alloc_new wx1 _)
          have HBU2 := Lib.hid (HBU.out.under hba)
          have HB2 := Lib.hid (HB1.out.trans (hba.mono HB1.out.size))
          clear hba HBU HB HB1
          go_wp2_with fail
          obtain ⟨g6, hg6⟩ : ∃ g, wx1.heap.size = g := ⟨_, rfl⟩
          obtain ⟨w2, hw2⟩ : ∃ w2, wx1.alloc (.cells #[.slice Au nl cu, .bool ok] 53) = w2 := ⟨_, rfl⟩
          rw [hw2] at HB6 HBU2 HB2 ⊢
          rw [hg6] at HB6 ⊢
          clear hw2 hg6 hc1 hc2
          rcases ok with _ | _
          · refine (aopen_any _ l w2 HBU2.out (by have := HGD.out.2.1; omega) none (HGD.out.2.2.2 rfl)).mono ?_
            rintro e w3 ⟨hb3, rfl⟩
            have HB3 := Lib.hid (HB2.out.trans (hb3.mono HB2.out.size))
            have HB63 := Lib.hid (HB6.out.under hb3)
            have hs0 : w3.cell? ⟨g6, 1, none⟩ = some (.bool false) := HB63.out.at 1
            have hs1 : w3.drew.cell? ⟨g6, 1, none⟩ = some (.bool false) := hs0
            have hw0 : IntKind.i64.wrap (0 : Int) = 0 := by decide
            clear hb3 HB6 HBU2 HB2
            go_wp2_with fail
            refine wp_region_noPanic ?_
            refine wp_region_held_drew (S := fun w' => w'.cell? ⟨g6, 1, none⟩ = some (.bool false)) (by kernel_rfl) (hs1) (fun hHeld => ?_)
            refine takeW 0 (some 101) (oi := ?oT381) (v := ?vT381) ?hiT381 ?hdT381 (by kernel_rfl) (by kernel_rfl) (by kernel_rfl) (fun _ _ _ h => h) ?hwT381 ?hyT381 hHeld ?_
            case hiT381 => (simp only [List.getElem?_toArray, List.getElem?_cons_zero]; with_reducible rfl)
            case hdT381 => rfl
            case hwT381 => rfl
            case hyT381 => (intro w hSw; (try dsimp only at hSw); go_simp; first | done | with_reducible rfl)
            try simp only [Act.put]
            try simp only [List.setIfInBounds_toArray, List.set_cons_zero, List.set_cons_succ]
            refine takeW 1 (some 102) (oi := ?oT382) (v := ?vT382) ?hiT382 ?hdT382 (by kernel_rfl) (by kernel_rfl) (by kernel_rfl) (fun _ _ _ h => h) ?hwT382 ?hyT382 hHeld ?_
            case hiT382 => (simp only [List.getElem?_toArray, List.getElem?_cons_succ, List.getElem?_cons_zero]; with_reducible rfl)
            case hdT382 => rfl
            case hwT382 => rfl
            case hyT382 => (intro w hSw; (try dsimp only at hSw); go_simp; first | done | with_reducible rfl)
            try simp only [Act.put]
            try simp only [List.setIfInBounds_toArray, List.set_cons_zero, List.set_cons_succ]
            refine takeW 2 (some 103) (oi := ?oT383) (v := ?vT383) ?hiT383 ?hdT383 (by kernel_rfl) (by kernel_rfl) (by kernel_rfl) (fun _ _ _ h => h) ?hwT383 ?hyT383 hHeld ?_
            case hiT383 => (simp only [List.getElem?_toArray, List.getElem?_cons_succ, List.getElem?_cons_zero]; with_reducible rfl)
            case hdT383 => rfl
            case hwT383 => rfl
            case hyT383 => (intro w hSw; (try dsimp only at hSw); go_simp; first | done | with_reducible rfl)
            try simp only [Act.put]
            try simp only [List.setIfInBounds_toArray, List.set_cons_zero, List.set_cons_succ]
            refine takeW 3 (some 104) (oi := ?oT384) (v := ?vT384) ?hiT384 ?hdT384 (by kernel_rfl) (by kernel_rfl) (by kernel_rfl) (fun _ _ _ h => h) ?hwT384 ?hyT384 hHeld ?_
            case hiT384 => (simp only [List.getElem?_toArray, List.getElem?_cons_succ, List.getElem?_cons_zero]; with_reducible rfl)
            case hdT384 => rfl
            case hwT384 => rfl
            case hyT384 => (intro w hSw; (try dsimp only at hSw); go_simp; first | done | with_reducible rfl)
            try simp only [Act.put]
            try simp only [List.setIfInBounds_toArray, List.set_cons_zero, List.set_cons_succ]
            refine takeW 4 (some 105) (oi := ?oT385) (v := ?vT385) ?hiT385 ?hdT385 (by kernel_rfl) (by kernel_rfl) (by kernel_rfl) (fun _ _ _ h => h) ?hwT385 ?hyT385 hHeld ?_
            case hiT385 => (simp only [List.getElem?_toArray, List.getElem?_cons_succ, List.getElem?_cons_zero]; with_reducible rfl)
            case hdT385 => rfl
            case hwT385 => rfl
            case hyT385 => (intro w hSw; (try dsimp only at hSw); go_simp; first | done | with_reducible rfl)
            try simp only [Act.put]
            try simp only [List.setIfInBounds_toArray, List.set_cons_zero, List.set_cons_succ]
            refine takeW 5 (some 106) (oi := ?oT386) (v := ?vT386) ?hiT386 ?hdT386 (by kernel_rfl) (by kernel_rfl) (by kernel_rfl) (fun _ _ _ h => h) ?hwT386 ?hyT386 hHeld ?_
            case hiT386 => (simp only [List.getElem?_toArray, List.getElem?_cons_succ, List.getElem?_cons_zero]; with_reducible rfl)
            case hdT386 => rfl
            case hwT386 => rfl
            case hyT386 => (intro w hSw; (try dsimp only at hSw); go_simp; first | done | with_reducible rfl)
            try simp only [Act.put]
            try simp only [List.setIfInBounds_toArray, List.set_cons_zero, List.set_cons_succ]
            refine takeW 6 (some 107) (oi := ?oT387) (v := ?vT387) ?hiT387 ?hdT387 (by kernel_rfl) (by kernel_rfl) (by kernel_rfl) (fun _ _ _ h => h) ?hwT387 ?hyT387 hHeld ?_
            case hiT387 => (simp only [List.getElem?_toArray, List.getElem?_cons_succ, List.getElem?_cons_zero]; with_reducible rfl)
            case hdT387 => rfl
            case hwT387 => rfl
            case hyT387 => (intro w hSw; (try dsimp only at hSw); go_simp; first | done | with_reducible rfl)
            try simp only [Act.put]
            try simp only [List.setIfInBounds_toArray, List.set_cons_zero, List.set_cons_succ]
            refine takeW 7 (some 108) (oi := ?oT388) (v := ?vT388) ?hiT388 ?hdT388 (by kernel_rfl) (by kernel_rfl) (by kernel_rfl) (fun _ _ _ h => h) ?hwT388 ?hyT388 hHeld ?_
            case hiT388 => (simp only [List.getElem?_toArray, List.getElem?_cons_succ, List.getElem?_cons_zero]; with_reducible rfl)
            case hdT388 => rfl
            case hwT388 => rfl
            case hyT388 => (intro w hSw; (try dsimp only at hSw); go_simp; first | done | with_reducible rfl)
            try simp only [Act.put]
            try simp only [List.setIfInBounds_toArray, List.set_cons_zero, List.set_cons_succ]
            refine takeW 8 (some 109) (oi := ?oT389) (v := ?vT389) ?hiT389 ?hdT389 (by kernel_rfl) (by kernel_rfl) (by kernel_rfl) (fun _ _ _ h => h) ?hwT389 ?hyT389 hHeld ?_
            case hiT389 => (simp only [List.getElem?_toArray, List.getElem?_cons_succ, List.getElem?_cons_zero]; with_reducible rfl)
            case hdT389 => rfl
            case hwT389 => rfl
            case hyT389 => (intro w hSw; (try dsimp only at hSw); go_simp; first | done | with_reducible rfl)
            try simp only [Act.put]
            try simp only [List.setIfInBounds_toArray, List.set_cons_zero, List.set_cons_succ]
            refine takeW 9 (some 110) (oi := ?oT390) (v := ?vT390) ?hiT390 ?hdT390 (by kernel_rfl) (by kernel_rfl) (by kernel_rfl) (fun _ _ _ h => h) ?hwT390 ?hyT390 hHeld ?_
            case hiT390 => (simp only [List.getElem?_toArray, List.getElem?_cons_succ, List.getElem?_cons_zero]; with_reducible rfl)
            case hdT390 => rfl
            case hwT390 => rfl
            case hyT390 => (intro w hSw; (try dsimp only at hSw); go_simp; first | done | with_reducible rfl)
            try simp only [Act.put]
            try simp only [List.setIfInBounds_toArray, List.set_cons_zero, List.set_cons_succ]
            refine takeW 10 (some 111) (oi := ?oT391) (v := ?vT391) ?hiT391 ?hdT391 (by kernel_rfl) (by kernel_rfl) (by kernel_rfl) (fun _ _ _ h => h) ?hwT391 ?hyT391 hHeld ?_
            case hiT391 => (simp only [List.getElem?_toArray, List.getElem?_cons_succ, List.getElem?_cons_zero]; with_reducible rfl)
            case hdT391 => rfl
            case hwT391 => rfl
            case hyT391 => (intro w hSw; (try dsimp only at hSw); go_simp; first | done | with_reducible rfl)
            try simp only [Act.put]
            try simp only [List.setIfInBounds_toArray, List.set_cons_zero, List.set_cons_succ]
            refine takeW 11 (some 112) (oi := ?oT392) (v := ?vT392) ?hiT392 ?hdT392 (by kernel_rfl) (by kernel_rfl) (by kernel_rfl) (fun _ _ _ h => h) ?hwT392 ?hyT392 hHeld ?_
            case hiT392 => (simp only [List.getElem?_toArray, List.getElem?_cons_succ, List.getElem?_cons_zero]; with_reducible rfl)
            case hdT392 => rfl
            case hwT392 => rfl
            case hyT392 => (intro w hSw; (try dsimp only at hSw); go_simp; first | done | with_reducible rfl)
            try simp only [Act.put]
            try simp only [List.setIfInBounds_toArray, List.set_cons_zero, List.set_cons_succ]
            refine takeW 12 (some 113) (oi := ?oT393) (v := ?vT393) ?hiT393 ?hdT393 (by kernel_rfl) (by kernel_rfl) (by kernel_rfl) (fun _ _ _ h => h) ?hwT393 ?hyT393 hHeld ?_
            case hiT393 => (simp only [List.getElem?_toArray, List.getElem?_cons_succ, List.getElem?_cons_zero]; with_reducible rfl)
            case hdT393 => rfl
            case hwT393 => rfl
            case hyT393 => (intro w hSw; (try dsimp only at hSw); go_simp; first | done | with_reducible rfl)
            try simp only [Act.put]
            try simp only [List.setIfInBounds_toArray, List.set_cons_zero, List.set_cons_succ]
            refine takeW 13 (some 114) (oi := ?oT394) (v := ?vT394) ?hiT394 ?hdT394 (by kernel_rfl) (by kernel_rfl) (by kernel_rfl) (fun _ _ _ h => h) ?hwT394 ?hyT394 hHeld ?_
            case hiT394 => (simp only [List.getElem?_toArray, List.getElem?_cons_succ, List.getElem?_cons_zero]; with_reducible rfl)
            case hdT394 => rfl
            case hwT394 => rfl
            case hyT394 => (intro w hSw; (try dsimp only at hSw); go_simp; first | done | with_reducible rfl)
            try simp only [Act.put]
            try simp only [List.setIfInBounds_toArray, List.set_cons_zero, List.set_cons_succ]
            refine takeW 14 (some 115) (oi := ?oT395) (v := ?vT395) ?hiT395 ?hdT395 (by kernel_rfl) (by kernel_rfl) (by kernel_rfl) (fun _ _ _ h => h) ?hwT395 ?hyT395 hHeld ?_
            case hiT395 => (simp only [List.getElem?_toArray, List.getElem?_cons_succ, List.getElem?_cons_zero]; with_reducible rfl)
            case hdT395 => rfl
            case hwT395 => rfl
            case hyT395 => (intro w hSw; (try dsimp only at hSw); go_simp; first | done | with_reducible rfl)
            try simp only [Act.put]
            try simp only [List.setIfInBounds_toArray, List.set_cons_zero, List.set_cons_succ]
            refine takeW 15 (some 116) (oi := ?oT396) (v := ?vT396) ?hiT396 ?hdT396 (by kernel_rfl) (by kernel_rfl) (by kernel_rfl) (fun _ _ _ h => h) ?hwT396 ?hyT396 hHeld ?_
            case hiT396 => (simp only [List.getElem?_toArray, List.getElem?_cons_succ, List.getElem?_cons_zero]; with_reducible rfl)
            case hdT396 => rfl
            case hwT396 => rfl
            case hyT396 => (intro w hSw; (try dsimp only at hSw); go_simp; first | done | with_reducible rfl)
            try simp only [Act.put]
            try simp only [List.setIfInBounds_toArray, List.set_cons_zero, List.set_cons_succ]
            refine takeU 16 (some 117) (oi := ?oT397) ?hiT397 ?hdT397 (by kernel_rfl) (by kernel_rfl) (by kernel_rfl) (fun _ _ _ h => h) ?hwT397 hHeld ?_
            case hiT397 => (simp only [List.getElem?_toArray, List.getElem?_cons_succ, List.getElem?_cons_zero]; with_reducible rfl)
            case hdT397 => rfl
            case hwT397 => rfl
            try simp only [Act.put]
            try simp only [List.setIfInBounds_toArray, List.set_cons_zero, List.set_cons_succ]
            refine takeU 17 (some 118) (oi := ?oT398) ?hiT398 ?hdT398 (by kernel_rfl) (by kernel_rfl) (by kernel_rfl) (fun _ _ _ h => h) ?hwT398 hHeld ?_
            case hiT398 => (simp only [List.getElem?_toArray, List.getElem?_cons_succ, List.getElem?_cons_zero]; with_reducible rfl)
            case hdT398 => rfl
            case hwT398 => rfl
            try simp only [Act.put]
            try simp only [List.setIfInBounds_toArray, List.set_cons_zero, List.set_cons_succ]
            refine takeU 18 (some 119) (oi := ?oT399) ?hiT399 ?hdT399 (by kernel_rfl) (by kernel_rfl) (by kernel_rfl) (fun _ _ _ h => h) ?hwT399 hHeld ?_
            case hiT399 => (simp only [List.getElem?_toArray, List.getElem?_cons_succ, List.getElem?_cons_zero]; with_reducible rfl)
            case hdT399 => rfl
            case hwT399 => rfl
            try simp only [Act.put]
            try simp only [List.setIfInBounds_toArray, List.set_cons_zero, List.set_cons_succ]
            refine takeU 19 (some 120) (oi := ?oT400) ?hiT400 ?hdT400 (by kernel_rfl) (by kernel_rfl) (by kernel_rfl) (fun _ _ _ h => h) ?hwT400 hHeld ?_
            case hiT400 => (simp only [List.getElem?_toArray, List.getElem?_cons_succ, List.getElem?_cons_zero]; with_reducible rfl)
            case hdT400 => rfl
            case hwT400 => rfl
            try simp only [Act.put]
            try simp only [List.setIfInBounds_toArray, List.set_cons_zero, List.set_cons_succ]
            refine takeU 20 (some 121) (oi := ?oT401) ?hiT401 ?hdT401 (by kernel_rfl) (by kernel_rfl) (by kernel_rfl) (fun _ _ _ h => h) ?hwT401 hHeld ?_
            case hiT401 => (simp only [List.getElem?_toArray, List.getElem?_cons_succ, List.getElem?_cons_zero]; with_reducible rfl)
            case hdT401 => rfl
            case hwT401 => rfl
            try simp only [Act.put]
            try simp only [List.setIfInBounds_toArray, List.set_cons_zero, List.set_cons_succ]
            refine takeU 21 (some 122) (oi := ?oT402) ?hiT402 ?hdT402 (by kernel_rfl) (by kernel_rfl) (by kernel_rfl) (fun _ _ _ h => h) ?hwT402 hHeld ?_
            case hiT402 => (simp only [List.getElem?_toArray, List.getElem?_cons_succ, List.getElem?_cons_zero]; with_reducible rfl)
            case hdT402 => rfl
            case hwT402 => rfl
            try simp only [Act.put]
            try simp only [List.setIfInBounds_toArray, List.set_cons_zero, List.set_cons_succ]
            refine takeU 22 (some 123) (oi := ?oT403) ?hiT403 ?hdT403 (by kernel_rfl) (by kernel_rfl) (by kernel_rfl) (fun _ _ _ h => h) ?hwT403 hHeld ?_
            case hiT403 => (simp only [List.getElem?_toArray, List.getElem?_cons_succ, List.getElem?_cons_zero]; with_reducible rfl)
            case hdT403 => rfl
            case hwT403 => rfl
            try simp only [Act.put]
            try simp only [List.setIfInBounds_toArray, List.set_cons_zero, List.set_cons_succ]
            refine takeU 23 (some 124) (oi := ?oT404) ?hiT404 ?hdT404 (by kernel_rfl) (by kernel_rfl) (by kernel_rfl) (fun _ _ _ h => h) ?hwT404 hHeld ?_
            case hiT404 => (simp only [List.getElem?_toArray, List.getElem?_cons_succ, List.getElem?_cons_zero]; with_reducible rfl)
            case hdT404 => rfl
            case hwT404 => rfl
            try simp only [Act.put]
            try simp only [List.setIfInBounds_toArray, List.set_cons_zero, List.set_cons_succ]
            refine takeU 24 (some 125) (oi := ?oT405) ?hiT405 ?hdT405 (by kernel_rfl) (by kernel_rfl) (by kernel_rfl) (fun _ _ _ h => h) ?hwT405 hHeld ?_
            case hiT405 => (simp only [List.getElem?_toArray, List.getElem?_cons_succ, List.getElem?_cons_zero]; with_reducible rfl)
            case hdT405 => rfl
            case hwT405 => rfl
            try simp only [Act.put]
            try simp only [List.setIfInBounds_toArray, List.set_cons_zero, List.set_cons_succ]
            refine takeU 25 (some 126) (oi := ?oT406) ?hiT406 ?hdT406 (by kernel_rfl) (by kernel_rfl) (by kernel_rfl) (fun _ _ _ h => h) ?hwT406 hHeld ?_
            case hiT406 => (simp only [List.getElem?_toArray, List.getElem?_cons_succ, List.getElem?_cons_zero]; with_reducible rfl)
            case hdT406 => rfl
            case hwT406 => rfl
            try simp only [Act.put]
            try simp only [List.setIfInBounds_toArray, List.set_cons_zero, List.set_cons_succ]
            refine takeU 26 (some 127) (oi := ?oT407) ?hiT407 ?hdT407 (by kernel_rfl) (by kernel_rfl) (by kernel_rfl) (fun _ _ _ h => h) ?hwT407 hHeld ?_
            case hiT407 => (simp only [List.getElem?_toArray, List.getElem?_cons_succ, List.getElem?_cons_zero]; with_reducible rfl)
            case hdT407 => rfl
            case hwT407 => rfl
            try simp only [Act.put]
            try simp only [List.setIfInBounds_toArray, List.set_cons_zero, List.set_cons_succ]
            refine takeW 27 (some 128) (oi := ?oT408) (v := ?vT408) ?hiT408 ?hdT408 (by kernel_rfl) (by kernel_rfl) (by kernel_rfl) (fun _ _ _ h => h) ?hwT408 ?hyT408 hHeld ?_
            case hiT408 => (simp only [List.getElem?_toArray, List.getElem?_cons_succ, List.getElem?_cons_zero]; with_reducible rfl)
            case hdT408 => rfl
            case hwT408 => rfl
            case hyT408 => (intro w hSw; (try dsimp only at hSw); go_simp; first | done | with_reducible rfl)
            try simp only [Act.put]
            try simp only [List.setIfInBounds_toArray, List.set_cons_zero, List.set_cons_succ]
            refine takeW 28 (some 129) (oi := ?oT409) (v := ?vT409) ?hiT409 ?hdT409 (by kernel_rfl) (by kernel_rfl) (by kernel_rfl) (fun _ _ _ h => h) ?hwT409 ?hyT409 hHeld ?_
            case hiT409 => (simp only [List.getElem?_toArray, List.getElem?_cons_succ, List.getElem?_cons_zero]; with_reducible rfl)
            case hdT409 => rfl
            case hwT409 => rfl
            case hyT409 => (intro w hSw; (try dsimp only at hSw); go_simp; first | done | with_reducible rfl)
            try simp only [Act.put]
            try simp only [List.setIfInBounds_toArray, List.set_cons_zero, List.set_cons_succ]
            refine takeW 29 (some 130) (oi := ?oT410) (v := ?vT410) ?hiT410 ?hdT410 (by kernel_rfl) (by kernel_rfl) (by kernel_rfl) (fun _ _ _ h => h) ?hwT410 ?hyT410 hHeld ?_
            case hiT410 => (simp only [List.getElem?_toArray, List.getElem?_cons_succ, List.getElem?_cons_zero]; with_reducible rfl)
            case hdT410 => rfl
            case hwT410 => rfl
            case hyT410 => (intro w hSw; (try dsimp only at hSw); go_simp; first | done | with_reducible rfl)
            try simp only [Act.put]
            try simp only [List.setIfInBounds_toArray, List.set_cons_zero, List.set_cons_succ]
            refine stepOne 30 (o := ?oT411) ?hiT411 (by kernel_rfl) ?hwT411 (fun K hK => ?_)
            case hiT411 => (simp only [List.getElem?_toArray, List.getElem?_cons_succ, List.getElem?_cons_zero]; with_reducible rfl)
            case hwT411 => rfl
            go_simp
            go_at_call 41
            refine (aawake_any _).mono ?_
            rintro e w7 ⟨rfl, hb7⟩
            have hb7' : Below w3.heap.size w3 w7 := (Below.refl _ w3).drew.trans (hb7.mono (by simp))
            have hs7 := (HB63.out.under hb7').at 1
            have HB7 := Lib.hid (HB3.out.trans (hb7'.mono HB3.out.size))
            clear hb7 hb7'
            refine hK.out _ _ ?_ (fun hHeld => ?_)
            · exact hs7
            clear hK K
            try simp only [Act.put]
            try simp only [List.setIfInBounds_toArray, List.set_cons_zero, List.set_cons_succ]
            refine takeW 31 (some 132) (oi := ?oT412) (v := ?vT412) ?hiT412 ?hdT412 (by kernel_rfl) (by kernel_rfl) (by kernel_rfl) (fun _ _ _ h => h) ?hwT412 ?hyT412 hHeld ?_
            case hiT412 => (simp only [List.getElem?_toArray, List.getElem?_cons_succ, List.getElem?_cons_zero]; with_reducible rfl)
            case hdT412 => rfl
            case hwT412 => rfl
            case hyT412 => (intro w hSw; (try dsimp only at hSw); go_simp; first | done | with_reducible rfl)
            try simp only [Act.put]
            try simp only [List.setIfInBounds_toArray, List.set_cons_zero, List.set_cons_succ]
            refine takeW 32 (some 2) (oi := ?oT413) (v := ?vT413) ?hiT413 ?hdT413 (by kernel_rfl) (by kernel_rfl) (by kernel_rfl) (fun _ _ _ h => h) ?hwT413 ?hyT413 hHeld ?_
            case hiT413 => (simp only [List.getElem?_toArray, List.getElem?_cons_succ, List.getElem?_cons_zero]; with_reducible rfl)
            case hdT413 => rfl
            case hwT413 => rfl
            case hyT413 => (intro w hSw; (try dsimp only at hSw); go_simp; first | done | with_reducible rfl)
            try simp only [Act.put]
            try simp only [List.setIfInBounds_toArray, List.set_cons_zero, List.set_cons_succ]
            refine wpAnyH_done (by kernel_rfl) ?_ _
            refine NoPanic.normal ?_
            go_wp2
            go_ret
            exact ⟨rfl, HB7.out⟩
          · obtain ⟨p, q, ho, hm, hp, hq⟩ := HGD.out.2.2.1 rfl
            have HM := Lib.hid hm
            have HPQ := Lib.hid (And.intro hp hq)
            refine (aopen_any _ l w2 HBU2.out (by have := HGD.out.2.1; omega) (some (p, q)) ho).mono ?_
            rintro e w3 ⟨hb3, m3, x3, y3, rfl, -, -, hx3, -, hy3⟩
            have HB3 := Lib.hid (HB2.out.trans (hb3.mono HB2.out.size))
            have HB63 := Lib.hid (HB6.out.under hb3)
            have HU3 := Lib.hid (HBU2.out.under hb3)
            have HX3 := Lib.hid hx3.bytes
            have HY3 := Lib.hid hy3.bytes
            have HS : Hid (∀ W : World, Below w3.heap.size w3 W → AFRead W g6 Au nl cu l) := Lib.hid (fun W hb => ⟨(HB63.out.under hb).at 0, (HB63.out.under hb).at 1, run_text (HU3.out.under hb)⟩)
            have hs0 := HS.out w3 (Below.refl _ _)
            have hs1 := HS.out w3.drew (Below.refl _ _).drew
            have e1 : ((str l).toList == (str l).toList) = true := by rw [str_eq HU3.out.1 HU3.out.1]; exact decide_eq_true rfl
            clear hb3 HB6 HBU2 HB2 hx3 hy3 ho hm hp hq
            go_wp2_with fail
            refine wp_region_noPanic ?_
            refine wp_region_held_drew (S := fun w' => AFRead w' g6 Au nl cu l) (by kernel_rfl) (hs1) (fun hHeld => ?_)
            refine takeW 0 (some 101) (oi := ?oT414) (v := ?vT414) ?hiT414 ?hdT414 (by kernel_rfl) (by kernel_rfl) (by kernel_rfl) (fun _ _ _ h => h) ?hwT414 ?hyT414 hHeld ?_
            case hiT414 => (simp only [List.getElem?_toArray, List.getElem?_cons_zero]; with_reducible rfl)
            case hdT414 => rfl
            case hwT414 => rfl
            case hyT414 => (intro w hSw; (try dsimp only at hSw); go_simp; first | done | with_reducible rfl)
            try simp only [Act.put]
            try simp only [List.setIfInBounds_toArray, List.set_cons_zero, List.set_cons_succ]
            refine takeW 1 (some 102) (oi := ?oT415) (v := ?vT415) ?hiT415 ?hdT415 (by kernel_rfl) (by kernel_rfl) (by kernel_rfl) (fun _ _ _ h => h) ?hwT415 ?hyT415 hHeld ?_
            case hiT415 => (simp only [List.getElem?_toArray, List.getElem?_cons_succ, List.getElem?_cons_zero]; with_reducible rfl)
            case hdT415 => rfl
            case hwT415 => rfl
            case hyT415 => (intro w hSw; (try dsimp only at hSw); go_simp; first | done | with_reducible rfl)
            try simp only [Act.put]
            try simp only [List.setIfInBounds_toArray, List.set_cons_zero, List.set_cons_succ]
            refine takeW 2 (some 103) (oi := ?oT416) (v := ?vT416) ?hiT416 ?hdT416 (by kernel_rfl) (by kernel_rfl) (by kernel_rfl) (fun _ _ _ h => h) ?hwT416 ?hyT416 hHeld ?_
            case hiT416 => (simp only [List.getElem?_toArray, List.getElem?_cons_succ, List.getElem?_cons_zero]; with_reducible rfl)
            case hdT416 => rfl
            case hwT416 => rfl
            case hyT416 => (intro w hSw; (try dsimp only at hSw); go_simp; first | done | with_reducible rfl)
            try simp only [Act.put]
            try simp only [List.setIfInBounds_toArray, List.set_cons_zero, List.set_cons_succ]
            refine takeW 3 (some 104) (oi := ?oT417) (v := ?vT417) ?hiT417 ?hdT417 (by kernel_rfl) (by kernel_rfl) (by kernel_rfl) (fun _ _ _ h => h) ?hwT417 ?hyT417 hHeld ?_
            case hiT417 => (simp only [List.getElem?_toArray, List.getElem?_cons_succ, List.getElem?_cons_zero]; with_reducible rfl)
            case hdT417 => rfl
            case hwT417 => rfl
            case hyT417 => (intro w hSw; (try dsimp only at hSw); go_simp; first | done | with_reducible rfl)
            try simp only [Act.put]
            try simp only [List.setIfInBounds_toArray, List.set_cons_zero, List.set_cons_succ]
            refine takeW 4 (some 105) (oi := ?oT418) (v := ?vT418) ?hiT418 ?hdT418 (by kernel_rfl) (by kernel_rfl) (by kernel_rfl) (fun _ _ _ h => h) ?hwT418 ?hyT418 hHeld ?_
            case hiT418 => (simp only [List.getElem?_toArray, List.getElem?_cons_succ, List.getElem?_cons_zero]; with_reducible rfl)
            case hdT418 => rfl
            case hwT418 => rfl
            case hyT418 => (intro w hSw; (try dsimp only at hSw); go_simp; first | done | with_reducible rfl)
            try simp only [Act.put]
            try simp only [List.setIfInBounds_toArray, List.set_cons_zero, List.set_cons_succ]
            refine takeW 5 (some 106) (oi := ?oT419) (v := ?vT419) ?hiT419 ?hdT419 (by kernel_rfl) (by kernel_rfl) (by kernel_rfl) (fun _ _ _ h => h) ?hwT419 ?hyT419 hHeld ?_
            case hiT419 => (simp only [List.getElem?_toArray, List.getElem?_cons_succ, List.getElem?_cons_zero]; with_reducible rfl)
            case hdT419 => rfl
            case hwT419 => rfl
            case hyT419 => (intro w hSw; (try dsimp only at hSw); go_simp; first | done | with_reducible rfl)
            try simp only [Act.put]
            try simp only [List.setIfInBounds_toArray, List.set_cons_zero, List.set_cons_succ]
            refine takeW 6 (some 107) (oi := ?oT420) (v := ?vT420) ?hiT420 ?hdT420 (by kernel_rfl) (by kernel_rfl) (by kernel_rfl) (fun _ _ _ h => h) ?hwT420 ?hyT420 hHeld ?_
            case hiT420 => (simp only [List.getElem?_toArray, List.getElem?_cons_succ, List.getElem?_cons_zero]; with_reducible rfl)
            case hdT420 => rfl
            case hwT420 => rfl
            case hyT420 => (intro w hSw; (try dsimp only at hSw); go_simp; first | done | with_reducible rfl)
            try simp only [Act.put]
            try simp only [List.setIfInBounds_toArray, List.set_cons_zero, List.set_cons_succ]
            refine takeW 7 (some 108) (oi := ?oT421) (v := ?vT421) ?hiT421 ?hdT421 (by kernel_rfl) (by kernel_rfl) (by kernel_rfl) (fun _ _ _ h => h) ?hwT421 ?hyT421 hHeld ?_
            case hiT421 => (simp only [List.getElem?_toArray, List.getElem?_cons_succ, List.getElem?_cons_zero]; with_reducible rfl)
            case hdT421 => rfl
            case hwT421 => rfl
            case hyT421 => (intro w hSw; (try dsimp only at hSw); go_simp; first | done | with_reducible rfl)
            try simp only [Act.put]
            try simp only [List.setIfInBounds_toArray, List.set_cons_zero, List.set_cons_succ]
            refine takeU 8 (some 109) (oi := ?oT422) ?hiT422 ?hdT422 (by kernel_rfl) (by kernel_rfl) (by kernel_rfl) (fun _ _ _ h => h) ?hwT422 hHeld ?_
            case hiT422 => (simp only [List.getElem?_toArray, List.getElem?_cons_succ, List.getElem?_cons_zero]; with_reducible rfl)
            case hdT422 => rfl
            case hwT422 => rfl
            try simp only [Act.put]
            try simp only [List.setIfInBounds_toArray, List.set_cons_zero, List.set_cons_succ]
            refine takeU 9 (some 110) (oi := ?oT423) ?hiT423 ?hdT423 (by kernel_rfl) (by kernel_rfl) (by kernel_rfl) (fun _ _ _ h => h) ?hwT423 hHeld ?_
            case hiT423 => (simp only [List.getElem?_toArray, List.getElem?_cons_succ, List.getElem?_cons_zero]; with_reducible rfl)
            case hdT423 => rfl
            case hwT423 => rfl
            try simp only [Act.put]
            try simp only [List.setIfInBounds_toArray, List.set_cons_zero, List.set_cons_succ]
            refine takeU 10 (some 111) (oi := ?oT424) ?hiT424 ?hdT424 (by kernel_rfl) (by kernel_rfl) (by kernel_rfl) (fun _ _ _ h => h) ?hwT424 hHeld ?_
            case hiT424 => (simp only [List.getElem?_toArray, List.getElem?_cons_succ, List.getElem?_cons_zero]; with_reducible rfl)
            case hdT424 => rfl
            case hwT424 => rfl
            try simp only [Act.put]
            try simp only [List.setIfInBounds_toArray, List.set_cons_zero, List.set_cons_succ]
            refine takeU 11 (some 112) (oi := ?oT425) ?hiT425 ?hdT425 (by kernel_rfl) (by kernel_rfl) (by kernel_rfl) (fun _ _ _ h => h) ?hwT425 hHeld ?_
            case hiT425 => (simp only [List.getElem?_toArray, List.getElem?_cons_succ, List.getElem?_cons_zero]; with_reducible rfl)
            case hdT425 => rfl
            case hwT425 => rfl
            try simp only [Act.put]
            try simp only [List.setIfInBounds_toArray, List.set_cons_zero, List.set_cons_succ]
            refine takeU 12 (some 113) (oi := ?oT426) ?hiT426 ?hdT426 (by kernel_rfl) (by kernel_rfl) (by kernel_rfl) (fun _ _ _ h => h) ?hwT426 hHeld ?_
            case hiT426 => (simp only [List.getElem?_toArray, List.getElem?_cons_succ, List.getElem?_cons_zero]; with_reducible rfl)
            case hdT426 => rfl
            case hwT426 => rfl
            try simp only [Act.put]
            try simp only [List.setIfInBounds_toArray, List.set_cons_zero, List.set_cons_succ]
            refine takeU 13 (some 114) (oi := ?oT427) ?hiT427 ?hdT427 (by kernel_rfl) (by kernel_rfl) (by kernel_rfl) (fun _ _ _ h => h) ?hwT427 hHeld ?_
            case hiT427 => (simp only [List.getElem?_toArray, List.getElem?_cons_succ, List.getElem?_cons_zero]; with_reducible rfl)
            case hdT427 => rfl
            case hwT427 => rfl
            try simp only [Act.put]
            try simp only [List.setIfInBounds_toArray, List.set_cons_zero, List.set_cons_succ]
            refine takeW 14 (some 115) (oi := ?oT428) (v := ?vT428) ?hiT428 ?hdT428 (by kernel_rfl) (by kernel_rfl) (by kernel_rfl) (fun _ _ _ h => h) ?hwT428 ?hyT428 hHeld ?_
            case hiT428 => (simp only [List.getElem?_toArray, List.getElem?_cons_succ, List.getElem?_cons_zero]; with_reducible rfl)
            case hdT428 => rfl
            case hwT428 => rfl
            case hyT428 => (intro w hSw; (try dsimp only at hSw); go_simp; first | done | with_reducible rfl)
            try simp only [Act.put]
            try simp only [List.setIfInBounds_toArray, List.set_cons_zero, List.set_cons_succ]
            refine takeW 15 (some 116) (oi := ?oT429) (v := ?vT429) ?hiT429 ?hdT429 (by kernel_rfl) (by kernel_rfl) (by kernel_rfl) (fun _ _ _ h => h) ?hwT429 ?hyT429 hHeld ?_
            case hiT429 => (simp only [List.getElem?_toArray, List.getElem?_cons_succ, List.getElem?_cons_zero]; with_reducible rfl)
            case hdT429 => rfl
            case hwT429 => rfl
            case hyT429 => (intro w hSw; (try dsimp only at hSw); go_simp; first | done | with_reducible rfl)
            try simp only [Act.put]
            try simp only [List.setIfInBounds_toArray, List.set_cons_zero, List.set_cons_succ]
            refine takeW 16 (some 117) (oi := ?oT430) (v := ?vT430) ?hiT430 ?hdT430 (by kernel_rfl) (by kernel_rfl) (by kernel_rfl) (fun _ _ _ h => h) ?hwT430 ?hyT430 hHeld ?_
            case hiT430 => (simp only [List.getElem?_toArray, List.getElem?_cons_succ, List.getElem?_cons_zero]; with_reducible rfl)
            case hdT430 => rfl
            case hwT430 => rfl
            case hyT430 => (intro w hSw; (try dsimp only at hSw); go_simp; first | done | with_reducible rfl)
            try simp only [Act.put]
            try simp only [List.setIfInBounds_toArray, List.set_cons_zero, List.set_cons_succ]
            refine takeW 17 (some 118) (oi := ?oT431) (v := ?vT431) ?hiT431 ?hdT431 (by kernel_rfl) (by kernel_rfl) (by kernel_rfl) (fun _ _ _ h => h) ?hwT431 ?hyT431 hHeld ?_
            case hiT431 => (simp only [List.getElem?_toArray, List.getElem?_cons_succ, List.getElem?_cons_zero]; with_reducible rfl)
            case hdT431 => rfl
            case hwT431 => rfl
            case hyT431 => (intro w hSw; (try dsimp only at hSw); go_simp; first | done | with_reducible rfl)
            try simp only [Act.put]
            try simp only [List.setIfInBounds_toArray, List.set_cons_zero, List.set_cons_succ]
            refine takeW 18 (some 119) (oi := ?oT432) (v := ?vT432) ?hiT432 ?hdT432 (by kernel_rfl) (by kernel_rfl) (by kernel_rfl) (fun _ _ _ h => h) ?hwT432 ?hyT432 hHeld ?_
            case hiT432 => (simp only [List.getElem?_toArray, List.getElem?_cons_succ, List.getElem?_cons_zero]; with_reducible rfl)
            case hdT432 => rfl
            case hwT432 => rfl
            case hyT432 => (intro w hSw; (try dsimp only at hSw); go_simp; first | done | with_reducible rfl)
            try simp only [Act.put]
            try simp only [List.setIfInBounds_toArray, List.set_cons_zero, List.set_cons_succ]
            refine takeW 19 (some 120) (oi := ?oT433) (v := ?vT433) ?hiT433 ?hdT433 (by kernel_rfl) (by kernel_rfl) (by kernel_rfl) (fun _ _ _ h => h) ?hwT433 ?hyT433 hHeld ?_
            case hiT433 => (simp only [List.getElem?_toArray, List.getElem?_cons_succ, List.getElem?_cons_zero]; with_reducible rfl)
            case hdT433 => rfl
            case hwT433 => rfl
            case hyT433 => (intro w hSw; (try dsimp only at hSw); go_simp; first | done | with_reducible rfl)
            try simp only [Act.put]
            try simp only [List.setIfInBounds_toArray, List.set_cons_zero, List.set_cons_succ]
            refine takeW 22 (some 123) (oi := ?oT434) (v := ?vT434) ?hiT434 ?hdT434 (by kernel_rfl) (by kernel_rfl) (by kernel_rfl) (fun _ _ _ h => h) ?hwT434 ?hyT434 hHeld ?_
            case hiT434 => (simp only [List.getElem?_toArray, List.getElem?_cons_succ, List.getElem?_cons_zero]; with_reducible rfl)
            case hdT434 => rfl
            case hwT434 => rfl
            case hyT434 => (intro w hSw; (try dsimp only at hSw); go_simp; first | done | with_reducible rfl)
            try simp only [Act.put]
            try simp only [List.setIfInBounds_toArray, List.set_cons_zero, List.set_cons_succ]
            refine takeW 23 (some 124) (oi := ?oT435) (v := ?vT435) ?hiT435 ?hdT435 (by kernel_rfl) (by kernel_rfl) (by kernel_rfl) (fun _ _ _ h => h) ?hwT435 ?hyT435 hHeld ?_
            case hiT435 => (simp only [List.getElem?_toArray, List.getElem?_cons_succ, List.getElem?_cons_zero]; with_reducible rfl)
            case hdT435 => rfl
            case hwT435 => rfl
            case hyT435 => (intro w hSw; (try dsimp only at hSw); go_simp; first | done | with_reducible rfl)
            try simp only [Act.put]
            try simp only [List.setIfInBounds_toArray, List.set_cons_zero, List.set_cons_succ]
            refine takeW 24 (some 125) (oi := ?oT436) (v := ?vT436) ?hiT436 ?hdT436 (by kernel_rfl) (by kernel_rfl) (by kernel_rfl) (fun _ _ _ h => h) ?hwT436 ?hyT436 hHeld ?_
            case hiT436 => (simp only [List.getElem?_toArray, List.getElem?_cons_succ, List.getElem?_cons_zero]; with_reducible rfl)
            case hdT436 => rfl
            case hwT436 => rfl
            case hyT436 => (intro w hSw; (try dsimp only at hSw); go_simp; first | done | with_reducible rfl)
            try simp only [Act.put]
            try simp only [List.setIfInBounds_toArray, List.set_cons_zero, List.set_cons_succ]
            refine stepOne 20 (o := ?oT437) ?hiT437 (by kernel_rfl) ?hwT437 (fun K hK => ?_)
            case hiT437 => (simp only [List.getElem?_toArray, List.getElem?_cons_succ, List.getElem?_cons_zero]; with_reducible rfl)
            case hwT437 => rfl
            go_simp
            go_at_call 40
            refine (amake_is _ _ p q l _ ?_ ?_ (by have := HPQ.out.1; omega) (by have := HPQ.out.2; omega) HM.out).mono ?_
            · exact HX3.out.heap rfl
            · exact HY3.out.heap rfl
            rintro e w6 ⟨v6, rfl, ho6, hb6⟩
            have hb6' : Below w3.heap.size w3 w6 := (Below.refl _ w3).drew.trans (hb6.mono (by simp))
            have rt6 := run_text ho6.bytes
            have hs6 := HS.out w6 hb6'
            have HB66 := Lib.hid hb6'
            clear ho6 hb6 hb6'
            refine hK.out _ _ ?_ (fun hHeld => ?_)
            · exact hs6
            clear hK K
            try simp only [Act.put]
            try simp only [List.setIfInBounds_toArray, List.set_cons_zero, List.set_cons_succ]
            refine stepOne 21 (o := ?oT438) ?hiT438 (by kernel_rfl) ?hwT438 (fun K hK => ?_)
            case hiT438 => (simp only [List.getElem?_toArray, List.getElem?_cons_succ, List.getElem?_cons_zero]; with_reducible rfl)
            case hwT438 => rfl
            go_simp
            refine hK.out _ _ ?_ (fun hHeld => ?_)
            · exact hs6
            clear hK K
            try simp only [Act.put]
            try simp only [List.setIfInBounds_toArray, List.set_cons_zero, List.set_cons_succ]
            refine takeW 25 (some 126) (oi := ?oT439) (v := ?vT439) ?hiT439 ?hdT439 (by kernel_rfl) (by kernel_rfl) (by kernel_rfl) (fun _ _ _ h => h) ?hwT439 ?hyT439 hHeld ?_
            case hiT439 => (simp only [List.getElem?_toArray, List.getElem?_cons_succ, List.getElem?_cons_zero]; with_reducible rfl)
            case hdT439 => rfl
            case hwT439 => rfl
            case hyT439 => (intro w hSw; (try dsimp only at hSw); go_simp; first | done | with_reducible rfl)
            try simp only [Act.put]
            try simp only [List.setIfInBounds_toArray, List.set_cons_zero, List.set_cons_succ]
            refine takeW 26 (some 127) (oi := ?oT440) (v := ?vT440) ?hiT440 ?hdT440 (by kernel_rfl) (by kernel_rfl) (by kernel_rfl) (fun _ _ _ h => h) ?hwT440 ?hyT440 hHeld ?_
            case hiT440 => (simp only [List.getElem?_toArray, List.getElem?_cons_succ, List.getElem?_cons_zero]; with_reducible rfl)
            case hdT440 => rfl
            case hwT440 => rfl
            case hyT440 => (intro w hSw; (try dsimp only at hSw); go_simp; first | done | with_reducible rfl)
            try simp only [Act.put]
            try simp only [List.setIfInBounds_toArray, List.set_cons_zero, List.set_cons_succ]
            refine takeW 27 (some 128) (oi := ?oT441) (v := ?vT441) ?hiT441 ?hdT441 (by kernel_rfl) (by kernel_rfl) (by kernel_rfl) (fun _ _ _ h => h) ?hwT441 ?hyT441 hHeld ?_
            case hiT441 => (simp only [List.getElem?_toArray, List.getElem?_cons_succ, List.getElem?_cons_zero]; with_reducible rfl)
            case hdT441 => rfl
            case hwT441 => rfl
            case hyT441 => (intro w hSw; (try dsimp only at hSw); go_simp; first | done | with_reducible rfl)
            try simp only [Act.put]
            try simp only [List.setIfInBounds_toArray, List.set_cons_zero, List.set_cons_succ]
            refine takeW 28 (some 129) (oi := ?oT442) (v := ?vT442) ?hiT442 ?hdT442 (by kernel_rfl) (by kernel_rfl) (by kernel_rfl) (fun _ _ _ h => h) ?hwT442 ?hyT442 hHeld ?_
            case hiT442 => (simp only [List.getElem?_toArray, List.getElem?_cons_succ, List.getElem?_cons_zero]; with_reducible rfl)
            case hdT442 => rfl
            case hwT442 => rfl
            case hyT442 => (intro w hSw; (try dsimp only at hSw); go_simp; first | done | with_reducible rfl)
            try simp only [Act.put]
            try simp only [List.setIfInBounds_toArray, List.set_cons_zero, List.set_cons_succ]
            refine takeW 29 (some 130) (oi := ?oT443) (v := ?vT443) ?hiT443 ?hdT443 (by kernel_rfl) (by kernel_rfl) (by kernel_rfl) (fun _ _ _ h => h) ?hwT443 ?hyT443 hHeld ?_
            case hiT443 => (simp only [List.getElem?_toArray, List.getElem?_cons_succ, List.getElem?_cons_zero]; with_reducible rfl)
            case hdT443 => rfl
            case hwT443 => rfl
            case hyT443 => (intro w hSw; (try dsimp only at hSw); go_simp; first | done | with_reducible rfl)
            try simp only [Act.put]
            try simp only [List.setIfInBounds_toArray, List.set_cons_zero, List.set_cons_succ]
            refine stepOne 30 (o := ?oT444) ?hiT444 (by kernel_rfl) ?hwT444 (fun K hK => ?_)
            case hiT444 => (simp only [List.getElem?_toArray, List.getElem?_cons_succ, List.getElem?_cons_zero]; with_reducible rfl)
            case hwT444 => rfl
            go_simp
            go_at_call 41
            refine (aawake_any _).mono ?_
            rintro e w7 ⟨rfl, hb7⟩
            have hb7' : Below w3.heap.size w3 w7 := HB66.out.trans (hb7.mono HB66.out.size)
            have hs7 := HS.out w7 hb7'
            have HB7 := Lib.hid (HB3.out.trans (hb7'.mono HB3.out.size))
            clear hb7 hb7'
            refine hK.out _ _ ?_ (fun hHeld => ?_)
            · exact hs7
            clear hK K
            try simp only [Act.put]
            try simp only [List.setIfInBounds_toArray, List.set_cons_zero, List.set_cons_succ]
            refine takeW 31 (some 132) (oi := ?oT445) (v := ?vT445) ?hiT445 ?hdT445 (by kernel_rfl) (by kernel_rfl) (by kernel_rfl) (fun _ _ _ h => h) ?hwT445 ?hyT445 hHeld ?_
            case hiT445 => (simp only [List.getElem?_toArray, List.getElem?_cons_succ, List.getElem?_cons_zero]; with_reducible rfl)
            case hdT445 => rfl
            case hwT445 => rfl
            case hyT445 => (intro w hSw; (try dsimp only at hSw); go_simp; first | done | with_reducible rfl)
            try simp only [Act.put]
            try simp only [List.setIfInBounds_toArray, List.set_cons_zero, List.set_cons_succ]
            refine takeW 32 (some 2) (oi := ?oT446) (v := ?vT446) ?hiT446 ?hdT446 (by kernel_rfl) (by kernel_rfl) (by kernel_rfl) (fun _ _ _ h => h) ?hwT446 ?hyT446 hHeld ?_
            case hiT446 => (simp only [List.getElem?_toArray, List.getElem?_cons_succ, List.getElem?_cons_zero]; with_reducible rfl)
            case hdT446 => rfl
            case hwT446 => rfl
            case hyT446 => (intro w hSw; (try dsimp only at hSw); go_simp; first | done | with_reducible rfl)
            try simp only [Act.put]
            try simp only [List.setIfInBounds_toArray, List.set_cons_zero, List.set_cons_succ]
            refine wpAnyH_done (by kernel_rfl) ?_ _
            refine NoPanic.normal ?_
            go_wp2
            go_ret
            exact ⟨rfl, HB7.out⟩
end Go.Proofs.Ytkfmjkoghfcciaa
