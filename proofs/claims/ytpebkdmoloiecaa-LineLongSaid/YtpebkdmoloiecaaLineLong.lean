/- LineLong: words are as long as may be, and no longer, quoted, too; what is longer is told at its beginning. -/
import Derived.Test.YtpebkdmoloiecaaLineAwake
import Derived.Test.YtpebkdmoloiecaaLineLongMath
import Derived.Deep.DeepCutAuto
namespace Go.Proofs.Ytpebkdmoloiecaa
open Go.ChangeShapes Go.WideShapes Go.ChangeAt Go.RowKit

theorem small_of {n ah : Nat} {q : Bool} (hn : n ≤ 128) (ha : ah ≤ 7) : (∀ c ∈ Ln.longText n ah q, c < 256) ∧ (Ln.longText n ah q).length ≤ 200 := by
  unfold Ln.longText
  refine ⟨fun c hc => ?_, ?_⟩
  · simp only [List.mem_append, List.mem_replicate] at hc
    cases q <;> simp at hc <;> omega
  · simp only [List.length_append, List.length_replicate]
    cases q <;> simp <;> omega
set_option maxRecDepth 100000 in
set_option maxHeartbeats 8000000 in
theorem long_at (q : Bool) (a b : Int) (M AH : Nat) (hm : bits .and .i64 a 127 = (M : Int)) (hM : M ≤ 127) (hb : bits .and .i64 b 7 = (AH : Int)) (hA : AH ≤ 7) (w : World) :
    Calls Try.prog 7 #[.int .i64 a, .bool q, .int .i64 b] w fun e w' => e = .returned (.bool true) ∧ Below w.heap.size w w' := by
  obtain ⟨N, hN⟩ : ∃ N : Nat, (M : Int) + 1 = (N : Int) := ⟨M + 1, by omega⟩
  have hN1 : 1 ≤ N := by omega
  have hN2 : N ≤ 128 := by omega
  have kb := fun (w : World) (s : ByteArray) => run_bytes_of_string (P := Try.prog) w 9 22 5 s Try.underlying9 Try.underlying22 Try.underlying5
  have s0 : ({ data := #[] } : ByteArray) = str [] := rfl
  go_enter Try.func7, Try.ntmps7
  go_wp2_with fail
  go_loop [7, 8] (fun tv iv => ∃ j : Nat, j ≤ N ∧ tv = .string (str (List.replicate j 97)) ∧ iv = .int .i64 (j : Int)) (fun _ iv => N - (intOf iv).toNat)
  case atStart => exact ⟨0, by omega, rfl, rfl⟩
  case round =>
    obtain ⟨j, hj, rfl, rfl⟩ := hrel
    by_cases hlt : j < N
    · have hjN : (j : Int) < (N : Int) := by omega
      have hf := str_fits (l := List.replicate j 97) (m := [97]) (by simp; omega)
      have hadd : str (List.replicate j 97) ++ { data := #[97] } = str (List.replicate (j + 1) 97) := by
        rw [List.replicate_succ']
        exact str_add _ [97]
      clear kb
      go_wp2_with fail
      case roundEnd =>
        exact ⟨⟨j + 1, by omega, rfl, rfl⟩, by simp [intOf]; omega⟩
    · obtain rfl : j = N := by omega
      obtain ⟨X, hX⟩ : ∃ X, List.replicate j 97 = X := ⟨_, rfl⟩
      have HX : Hid (List.replicate j 97 = X) := Lib.hid hX
      have HXL : Hid (X.length = j) := Lib.hid (by rw [← hX, List.length_replicate])
      rw [hX]
      clear hX
      obtain ⟨Y, hY⟩ : ∃ Y, Y = (if q then [34] else []) ++ (X ++ (if q then [34] else [])) := ⟨_, rfl⟩
      have HY := Lib.hid hY
      have HYL : Hid (Y.length ≤ 130) := Lib.hid (by rw [hY]; have := HXL.out; cases q <;> simp <;> omega)
      clear hY
      rcases q with _ | _
      · have hYX : Y = X := by rw [HY.out]; simp
        subst hYX
        have sB : ({ data := #[120, 10] } : ByteArray) = str ([120, 10] ++ List.replicate 0 32) := rfl
        go_wp2_with fail
        go_loop [9, 10] (fun tv iv => ∃ i : Nat, i ≤ AH ∧ tv = .string (str ([120, 10] ++ List.replicate i 32)) ∧ iv = .int .i64 (i : Int)) (fun _ iv => AH - (intOf iv).toNat)
        case atStart => exact ⟨0, by omega, rfl, rfl⟩
        case round =>
          clear sB
          obtain ⟨i, hi, rfl, rfl⟩ := hrel
          by_cases hlt : i < AH
          · have hiA : (i : Int) < (AH : Int) := by omega
            have hf := str_fits (l := [120, 10] ++ List.replicate i 32) (m := [32]) (by simp; omega)
            have hadd : str ([120, 10] ++ List.replicate i 32) ++ { data := #[32] } = str ([120, 10] ++ List.replicate (i + 1) 32) := by
              rw [List.replicate_succ', ← List.append_assoc]
              exact str_add _ [32]
            clear kb
            obtain ⟨Z, hZ⟩ : ∃ Z, [120, 10] ++ List.replicate i 32 = Z := ⟨_, rfl⟩
            obtain ⟨Z', hZ'⟩ : ∃ Z', [120, 10] ++ List.replicate (i + 1) 32 = Z' := ⟨_, rfl⟩
            rw [hZ] at hf hadd ⊢
            rw [hZ'] at hadd
            have HZ' := Lib.hid hZ'
            clear hZ hZ'
            go_wp2_with fail
            case roundEnd =>
              exact ⟨⟨i + 1, by omega, by rw [HZ'.out], rfl⟩, by simp [intOf]; omega⟩
          · obtain rfl : i = AH := by omega
            obtain ⟨Z, hZ⟩ : ∃ Z, [120, 10] ++ List.replicate i 32 = Z := ⟨_, rfl⟩
            have HZL : Hid (Z.length ≤ 9) := Lib.hid (by rw [← hZ]; simp; omega)
            have HZZ : Hid (Z ++ Y ++ [32, 98] = Ln.longText j i false) := Lib.hid (by
              rw [← hZ, HY.out, ← HX.out]
              unfold Ln.longText
              simp only [List.append_assoc])
            rw [hZ]
            obtain ⟨L, hL⟩ : ∃ L, Ln.longText j i false = L := ⟨_, rfl⟩
            have hsm := small_of (q := false) hN2 hA
            rw [hL] at hsm
            have HSM := Lib.hid hsm
            have hf1 := str_fits (l := Z) (m := Y) (by have := HZL.out; have := HYL.out; omega)
            have hf2 := str_fits (l := Z ++ Y) (m := [32, 98]) (by have := HZL.out; have := HYL.out; simp; omega)
            have ha1 : str Z ++ str Y = str (Z ++ Y) := str_add Z Y
            have ha2 : str (Z ++ Y) ++ { data := #[32, 98] } = str L := by rw [← hL, ← HZZ.out]; exact str_add (Z ++ Y) [32, 98]
            have hLI := Ln.long_is j i false hN1
            rw [hL] at hLI
            have HLI := Lib.hid hLI
            have hl : (str L).data.toList.map (·.toNat) = L := by rw [str_data, str_nat HSM.out.1]
            have HL := Lib.hid hl
            clear hZ hL hsm hLI hl
            go_wp2_with fail
            refine (split_any _ L _ (Bytes.drew (bytes_of_text w (str L) L _ rfl _ _ HL.out (grownCap_ge _ _ _ _) (by rw [str_size]; have := HSM.out.2; omega) _)) (by have := HSM.out.2; omega)).mono ?_
            rintro e w1 ⟨ht, hb1⟩
            have hX : Below w.heap.size w w1 := (((Below.refl _ w).alloc (Nat.le_refl _) _).drew).trans (hb1.mono (by simp))
            have HXB := Lib.hid hX
            clear hX hb1 hf1 hf2 ha1 ha2
            rcases Nat.lt_or_ge 64 j with hL | hL
            · rw [HLI.out.trans (if_pos hL)] at ht
              obtain ⟨A1, c1, rfl⟩ := ht
              have hj64 : (64 : Int) < (j : Int) := by omega
              clear hL
              go_wp2_with fail
              refine (awake_any _).mono ?_
              rintro e w2 ⟨rfl, hb2⟩
              have hb3 := (HXB.out.alloc HXB.out.size _).trans (hb2.mono (HXB.out.alloc HXB.out.size _).size)
              go_wp2
              go_ret
              exact ⟨rfl, hb3⟩
            · rw [HLI.out.trans (if_neg (by omega))] at ht
              obtain ⟨v1, rfl, hl⟩ := ht
              have hR3 := hl.rd
              have hj64 : ¬ (64 : Int) < (j : Int) := by omega
              clear hL hl
              obtain ⟨A1, c1, rfl⟩ := hR3.parts
              obtain ⟨b1, o1, u1, rfl, k1, hw1⟩ := hR3.at 1 (by simp)
              obtain ⟨B1, d1, rfl, hd1⟩ := hw1.parts
              obtain ⟨x1, y1, rfl, p0, p1, p2, p3⟩ := hw1.at 0 (by simp)
              have k1' : w1.cell? ⟨b1, o1 + 1, none⟩ = some (.slice (some ⟨x1, y1, none⟩) 2 d1) := k1
              have p0' : w1.cell? ⟨x1, y1, none⟩ = some (.string (str Y)) := by rw [← HX.out]; simpa using p0
              have p2' : w1.cell? ⟨x1, y1 + 2, none⟩ = some (.int .i64 ((i + 1 : Nat) : Int)) := by simpa using p2
              have p3' : w1.cell? ⟨x1, y1 + 3, none⟩ = some (.bool false) := by simpa using p3
              have hd1' : 2 ≤ d1 := hd1
              have old : ∀ {a : Addr} {v : Value}, w1.cell? a = some v → ∀ o, (w1.alloc o).cell? a = some v := fun {a v} h o => (World.cell?_alloc_lt w1 o a (World.block_lt_of_cell? _ _ h)).trans h
              have z1 := old k1'
              have z2 := old p0'
              have z3 := old p2'
              have z4 := old p3'
              have hsz : (str Y).size = j := by rw [str_size, HXL.out]
              clear hw1 hR3 k1 p0 p1 p2 p3 hd1 old k1' p0' p2' p3'
              go_wp2_with fail
              refine (awake_any _).mono ?_
              rintro e w2 ⟨rfl, hb2⟩
              have hb3 := (HXB.out.alloc HXB.out.size _).trans (hb2.mono (HXB.out.alloc HXB.out.size _).size)
              clear z1 z2 z3 z4
              go_wp2
              go_ret
              exact ⟨rfl, hb3⟩
      · have hg1 := str_fits (l := [34]) (m := X) (by have := HXL.out; simp; omega)
        have hg2 := str_fits (l := 34 :: X) (m := [34]) (by have := HXL.out; simp; omega)
        have hc1 : ({ data := #[34] } : ByteArray) ++ str X = str (34 :: X) := str_add [34] X
        have hc2 : str (34 :: X) ++ { data := #[34] } = str Y := by rw [HY.out]; exact str_add (34 :: X) [34]
        have sB : ({ data := #[120, 10] } : ByteArray) = str ([120, 10] ++ List.replicate 0 32) := rfl
        go_wp2_with fail
        go_loop [9, 10] (fun tv iv => ∃ i : Nat, i ≤ AH ∧ tv = .string (str ([120, 10] ++ List.replicate i 32)) ∧ iv = .int .i64 (i : Int)) (fun _ iv => AH - (intOf iv).toNat)
        case atStart => exact ⟨0, by omega, rfl, rfl⟩
        case round =>
          clear sB
          obtain ⟨i, hi, rfl, rfl⟩ := hrel
          by_cases hlt : i < AH
          · have hiA : (i : Int) < (AH : Int) := by omega
            have hf := str_fits (l := [120, 10] ++ List.replicate i 32) (m := [32]) (by simp; omega)
            have hadd : str ([120, 10] ++ List.replicate i 32) ++ { data := #[32] } = str ([120, 10] ++ List.replicate (i + 1) 32) := by
              rw [List.replicate_succ', ← List.append_assoc]
              exact str_add _ [32]
            clear kb
            obtain ⟨Z, hZ⟩ : ∃ Z, [120, 10] ++ List.replicate i 32 = Z := ⟨_, rfl⟩
            obtain ⟨Z', hZ'⟩ : ∃ Z', [120, 10] ++ List.replicate (i + 1) 32 = Z' := ⟨_, rfl⟩
            rw [hZ] at hf hadd ⊢
            rw [hZ'] at hadd
            have HZ' := Lib.hid hZ'
            clear hZ hZ'
            go_wp2_with fail
            case roundEnd =>
              exact ⟨⟨i + 1, by omega, by rw [HZ'.out], rfl⟩, by simp [intOf]; omega⟩
          · obtain rfl : i = AH := by omega
            obtain ⟨Z, hZ⟩ : ∃ Z, [120, 10] ++ List.replicate i 32 = Z := ⟨_, rfl⟩
            have HZL : Hid (Z.length ≤ 9) := Lib.hid (by rw [← hZ]; simp; omega)
            have HZZ : Hid (Z ++ Y ++ [32, 98] = Ln.longText j i true) := Lib.hid (by
              rw [← hZ, HY.out, ← HX.out]
              unfold Ln.longText
              simp only [List.append_assoc])
            rw [hZ]
            obtain ⟨L, hL⟩ : ∃ L, Ln.longText j i true = L := ⟨_, rfl⟩
            have hsm := small_of (q := true) hN2 hA
            rw [hL] at hsm
            have HSM := Lib.hid hsm
            have hf1 := str_fits (l := Z) (m := Y) (by have := HZL.out; have := HYL.out; omega)
            have hf2 := str_fits (l := Z ++ Y) (m := [32, 98]) (by have := HZL.out; have := HYL.out; simp; omega)
            have ha1 : str Z ++ str Y = str (Z ++ Y) := str_add Z Y
            have ha2 : str (Z ++ Y) ++ { data := #[32, 98] } = str L := by rw [← hL, ← HZZ.out]; exact str_add (Z ++ Y) [32, 98]
            have hLI := Ln.long_is j i true hN1
            rw [hL] at hLI
            have HLI := Lib.hid hLI
            have hl : (str L).data.toList.map (·.toNat) = L := by rw [str_data, str_nat HSM.out.1]
            have HL := Lib.hid hl
            clear hZ hL hsm hLI hl
            go_wp2_with fail
            refine (split_any _ L _ (Bytes.drew (bytes_of_text w (str L) L _ rfl _ _ HL.out (grownCap_ge _ _ _ _) (by rw [str_size]; have := HSM.out.2; omega) _)) (by have := HSM.out.2; omega)).mono ?_
            rintro e w1 ⟨ht, hb1⟩
            have hX : Below w.heap.size w w1 := (((Below.refl _ w).alloc (Nat.le_refl _) _).drew).trans (hb1.mono (by simp))
            have HXB := Lib.hid hX
            clear hX hb1 hf1 hf2 ha1 ha2 hg1 hg2 hc1 hc2
            rcases Nat.lt_or_ge 64 j with hL | hL
            · rw [HLI.out.trans (if_pos hL)] at ht
              obtain ⟨A1, c1, rfl⟩ := ht
              have hj64 : (64 : Int) < (j : Int) := by omega
              clear hL
              go_wp2_with fail
              refine (awake_any _).mono ?_
              rintro e w2 ⟨rfl, hb2⟩
              have hb3 := (HXB.out.alloc HXB.out.size _).trans (hb2.mono (HXB.out.alloc HXB.out.size _).size)
              go_wp2
              go_ret
              exact ⟨rfl, hb3⟩
            · rw [HLI.out.trans (if_neg (by omega))] at ht
              obtain ⟨v1, rfl, hl⟩ := ht
              have hR3 := hl.rd
              have hj64 : ¬ (64 : Int) < (j : Int) := by omega
              clear hL hl
              obtain ⟨A1, c1, rfl⟩ := hR3.parts
              obtain ⟨b1, o1, u1, rfl, k1, hw1⟩ := hR3.at 1 (by simp)
              obtain ⟨B1, d1, rfl, hd1⟩ := hw1.parts
              obtain ⟨x1, y1, rfl, p0, p1, p2, p3⟩ := hw1.at 0 (by simp)
              have k1' : w1.cell? ⟨b1, o1 + 1, none⟩ = some (.slice (some ⟨x1, y1, none⟩) 2 d1) := k1
              have p0' : w1.cell? ⟨x1, y1, none⟩ = some (.string (str X)) := by rw [← HX.out]; simpa using p0
              have p2' : w1.cell? ⟨x1, y1 + 2, none⟩ = some (.int .i64 ((i + 1 : Nat) : Int)) := by simpa using p2
              have p3' : w1.cell? ⟨x1, y1 + 3, none⟩ = some (.bool true) := by simpa using p3
              have hd1' : 2 ≤ d1 := hd1
              have old : ∀ {a : Addr} {v : Value}, w1.cell? a = some v → ∀ o, (w1.alloc o).cell? a = some v := fun {a v} h o => (World.cell?_alloc_lt w1 o a (World.block_lt_of_cell? _ _ h)).trans h
              have z1 := old k1'
              have z2 := old p0'
              have z3 := old p2'
              have z4 := old p3'
              have hsz : (str X).size = j := by rw [str_size, HXL.out]
              clear hw1 hR3 k1 p0 p1 p2 p3 hd1 old k1' p0' p2' p3'
              go_wp2_with fail
              refine (awake_any _).mono ?_
              rintro e w2 ⟨rfl, hb2⟩
              have hb3 := (HXB.out.alloc HXB.out.size _).trans (hb2.mono (HXB.out.alloc HXB.out.size _).size)
              clear z1 z2 z3 z4
              go_wp2
              go_ret
              exact ⟨rfl, hb3⟩
theorem and_small (a : Int) (k : Nat) (hk : k < 4294967296) : ∃ m : Nat, bits .and .i64 a (k : Int) = (m : Int) ∧ m ≤ k := by
  have h : bits .and .i64 a (k : Int) = IntKind.i64.wrap ((BitVec.ofInt 64 a &&& BitVec.ofInt 64 (k : Int)).toNat : Int) := rfl
  have hx : (BitVec.ofInt 64 a &&& BitVec.ofInt 64 (k : Int)).toNat ≤ k := by
    rw [BitVec.toNat_and]
    refine Nat.le_trans Nat.and_le_right ?_
    rw [BitVec.ofInt_natCast, BitVec.toNat_ofNat]
    exact Nat.mod_le _ _
  refine ⟨(BitVec.ofInt 64 a &&& BitVec.ofInt 64 (k : Int)).toNat, ?_, hx⟩
  rw [h, IntKind.wrap_i64]
  omega
theorem long_any (q : Bool) (a b : Int) (w : World) : Calls Try.prog 7 #[.int .i64 a, .bool q, .int .i64 b] w fun e w' => e = .returned (.bool true) ∧ Below w.heap.size w w' := by
  obtain ⟨M, hm, hM⟩ := and_small a 127 (by decide)
  obtain ⟨AH, hb, hA⟩ := and_small b 7 (by decide)
  exact long_at q a b M AH hm hM hb hA w
end Go.Proofs.Ytpebkdmoloiecaa
