/- What a temp is called: name.Temp, at a seat whose rows list the table of powers alone. -/
import Derived.Test.YtfheaognfocofaaGreatDoorShelf
import Derived.Test.YtfheaognfocofaaGreatDoorZ03
import Derived.Lib.ItoaNum
import Derived.Lib.LaidTab
import Derived.RegionTactic
namespace Go.Proofs.YtfheaognfocofaaGreatDoor
set_option maxRecDepth 100000
open Go.ChangeShapes Go.WideShapes Go.ChangeAt Go.RowKit

def Pow (w : World) : Prop := Lib.TabIs Tryz.prog w "internal/strconv.uint64pow10" .u64 Lib.pow10Tab
theorem ptab_kept {P : Program} {w w' : World} {n : String} {k : IntKind} {zs : List Int} (hb : Below w.heap.size w w') (h : Lib.TabIs P w n k zs) : Lib.TabIs P w' n k zs := by
  unfold Lib.TabIs World.var? at h ⊢
  cases hg : P.globalNamed n with
  | none => simp [hg] at h
  | some g =>
    simp only [hg, Option.bind_some] at h ⊢
    have hlt : g < w.heap.size := by
      rcases Nat.lt_or_ge g w.heap.size with h' | h'
      · exact h'
      · simp [Array.getElem?_eq_none h'] at h
    rw [hb.block g hlt]
    exact h
theorem Pow.under {w w' : World} (h : Pow w) (hb : Below w.heap.size w w') : Pow w' := ptab_kept hb h
theorem Pow.alloc {w : World} (h : Pow w) (o : Obj) : Pow (w.alloc o) := h.under ((Below.refl _ _).alloc (Nat.le_refl _) _)
theorem Pow.drewN {w : World} (h : Pow w) (n : Nat) : Pow (w.drewN n) := h
theorem pbelow_grow (w : World) (k : Nat) (os : Array Obj) : Below w.heap.size w (Sort.grow (w.drewN k) os) := by
  refine ⟨rfl, rfl, rfl, ?_, fun i hi => ?_⟩
  · show w.heap.size ≤ (w.heap ++ os).size
    simp
  · show (w.heap ++ os)[i]? = w.heap[i]?
    exact Array.getElem?_append_left hi
namespace Nm
theorem pdec_digits : ∀ n : Nat, Lib.decDigits n = (dec n).map UInt8.ofNat := by
  intro n
  induction n using Nat.strongRecOn with
  | _ n ih =>
    rw [Lib.decDigits]
    split
    · rename_i h
      by_cases h0 : n = 0
      · subst h0; rfl
      · rw [dec, if_neg h0, digs_pos h0, show n / 10 = 0 from by omega, digs_zero, show n % 10 = n from by omega]
        rfl
    · rename_i h
      rw [ih (n / 10) (by omega), dec, if_neg (by omega), dec, if_neg (by omega), digs_pos (n := n) (by omega), List.map_append]
      rfl
end Nm
theorem pitoa_dec (n : Nat) : (⟨(Lib.itoa (n : Int)).toArray⟩ : ByteArray) = str (Nm.dec n) := by
  unfold Lib.itoa
  rw [if_neg (by omega), show ((n : Int)).toNat = n from by omega, Nm.pdec_digits]
  rfl
theorem pitoa_any (n : Nat) (hn : n ≤ 99999) (w : World) (hT : Pow w) : Calls Tryz.prog 48 #[.int .i64 n] w fun e w' => e = .returned (.string (str (Nm.dec n))) ∧ Below w.heap.size w w' := by
  refine (Tryz.strconv_Itoa n (by omega) (by omega) w hT).mono fun e w' ⟨he, k, os, hw⟩ => ⟨?_, ?_⟩
  · rw [he, pitoa_dec]
  · rw [hw]; exact pbelow_grow w k os
set_option maxHeartbeats 1000000 in
theorem pdecimal_any (n : Int) (m : Nat) (hm : m ≤ 99999) (w : World) (hT : Pow w) :
    Calls Tryz.prog 32 #[.int .i64 n, .int .i64 m] w fun e w' => e = .returned (.string (str (Nm.dec (Nm.held n m)))) ∧ Below w.heap.size w w' := by
  obtain ⟨a, ha⟩ : ∃ a, Nm.held n m = a := ⟨_, rfl⟩
  obtain ⟨M1, hM1⟩ : ∃ M, max n 0 = M := ⟨_, rfl⟩
  have x1 := fun (W : World) ts t => run_top2 (P := Tryz.prog) W ts t n 0 M1 hM1
  have y1 := fun (W : World) ts t => run_low2 (P := Tryz.prog) W ts t M1 m a (by rw [← ha, ← Nm.held_eq, hM1])
  have HA := Lib.hid (show a ≤ 99999 from by have := Nm.held_le n m; omega)
  have HT := Lib.hid hT
  rw [ha]
  clear ha hM1 hm hT
  go_enter Tryz.func32, Tryz.ntmps32
  go_wp2_with fail
  refine (pitoa_any a HA.out w HT.out).mono ?_
  rintro e w' ⟨rfl, hb⟩
  go_wp2
  go_ret
  exact ⟨rfl, hb⟩
set_option maxRecDepth 100000 in
set_option maxHeartbeats 2000000 in
theorem ptemp_any (who inc n : Int) (w : World) (hT : Pow w) :
    Calls Tryz.prog 18 #[.int .i64 who, .int .i64 inc, .int .i64 n] w fun e w' => e = .returned (.string (str (Nm.temp (Nm.held who 999) (Nm.held inc 99999) (Nm.held n 99999)))) ∧ Below w.heap.size w w' := by
  have d1 := fun (W : World) (h : Pow W) => pdecimal_any who 999 (by omega) W h
  have d2 := fun (W : World) (h : Pow W) => pdecimal_any inc 99999 (by omega) W h
  have d3 := fun (W : World) (h : Pow W) => pdecimal_any n 99999 (by omega) W h
  have la := Nm.held_le who 999
  have lb := Nm.held_le inc 99999
  have lc := Nm.held_le n 99999
  obtain ⟨a, ha⟩ : ∃ a, Nm.held who 999 = a := ⟨_, rfl⟩
  obtain ⟨b, hb⟩ : ∃ b, Nm.held inc 99999 = b := ⟨_, rfl⟩
  obtain ⟨c, hc⟩ : ∃ c, Nm.held n 99999 = c := ⟨_, rfl⟩
  simp only [ha, hb, hc] at d1 d2 d3 la lb lc ⊢
  clear ha hb hc
  have k1 : ({ data := #[116, 109, 112, 47] } : ByteArray) = str [116, 109, 112, 47] := rfl
  have k2 : ({ data := #[46] } : ByteArray) = str [46] := rfl
  have hadd := str_add
  obtain ⟨D1, hD1⟩ : ∃ D, Nm.dec a = D := ⟨_, rfl⟩
  obtain ⟨D2, hD2⟩ : ∃ D, Nm.dec b = D := ⟨_, rfl⟩
  obtain ⟨D3, hD3⟩ : ∃ D, Nm.dec c = D := ⟨_, rfl⟩
  have L1 : D1.length ≤ 5 := hD1 ▸ Nm.dec_len (by omega) (by omega)
  have L2 : D2.length ≤ 5 := hD2 ▸ Nm.dec_len (by omega) (by omega)
  have L3 : D3.length ≤ 5 := hD3 ▸ Nm.dec_len (by omega) (by omega)
  have F1 := str_fits (l := [116, 109, 112, 47]) (m := D1) (by simp only [List.length_cons, List.length_nil]; omega)
  have F2 := str_fits (l := 116 :: 109 :: 112 :: 47 :: D1) (m := [46]) (by simp only [List.length_cons, List.length_nil]; omega)
  have F3 := str_fits (l := 116 :: 109 :: 112 :: 47 :: (D1 ++ [46])) (m := D2) (by simp only [List.length_cons, List.length_nil, List.length_append]; omega)
  have F4 := str_fits (l := 116 :: 109 :: 112 :: 47 :: (D1 ++ 46 :: D2)) (m := [46]) (by simp only [List.length_cons, List.length_nil, List.length_append]; omega)
  have F5 := str_fits (l := 116 :: 109 :: 112 :: 47 :: (D1 ++ 46 :: (D2 ++ [46]))) (m := D3) (by simp only [List.length_cons, List.length_nil, List.length_append]; omega)
  have HT : Hid (Nm.temp a b c = 116 :: 109 :: 112 :: 47 :: (D1 ++ 46 :: (D2 ++ 46 :: D3))) := Lib.hid (by rw [← hD1, ← hD2, ← hD3]; simp [Nm.temp])
  rw [hD1] at d1
  rw [hD2] at d2
  rw [hD3] at d3
  have E1 := Lib.hid d1
  have E2 := Lib.hid d2
  have E3 := Lib.hid d3
  have HTT := Lib.hid hT
  clear L1 L2 L3 hD1 hD2 hD3 d1 d2 d3 la lb lc hT
  go_enter Tryz.func18, Tryz.ntmps18
  go_wp2_with fail
  refine (E1.out w HTT.out).mono ?_
  rintro e w1 ⟨rfl, hb1⟩
  go_wp2_with fail
  refine (E2.out w1 (HTT.out.under hb1)).mono ?_
  rintro e w2 ⟨rfl, hb2⟩
  have hb12 := hb1.trans (hb2.mono hb1.size)
  clear hb1 hb2
  go_wp2_with fail
  refine (E3.out w2 (HTT.out.under hb12)).mono ?_
  rintro e w3 ⟨rfl, hb3⟩
  have hb13 := hb12.trans (hb3.mono hb12.size)
  clear hb12 hb3
  go_wp2
  go_ret
  exact ⟨by rw [HT.out]; rfl, hb13⟩
end Go.Proofs.YtfheaognfocofaaGreatDoor
