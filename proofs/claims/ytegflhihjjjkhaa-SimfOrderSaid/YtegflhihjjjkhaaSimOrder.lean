/- SimfOrder: which error of a call comes first, row by row. -/
import Derived.Test.YtegflhihjjjkhaaSimKeep
namespace Go.Proofs.Ytegflhihjjjkhaa
set_option maxRecDepth 100000
open Go.ChangeShapes Go.WideShapes Go.ChangeAt Go.RowKit Go.ChangeMaps
open Sf

theorem sand_low (a : Int) (k : Nat) (hk : k < 4294967296) : ∃ m : Nat, bits .and .i64 a (k : Int) = (m : Int) ∧ m ≤ k := by
  have h : bits .and .i64 a (k : Int) = IntKind.i64.wrap ((BitVec.ofInt 64 a &&& BitVec.ofInt 64 (k : Int)).toNat : Int) := rfl
  have hx : (BitVec.ofInt 64 a &&& BitVec.ofInt 64 (k : Int)).toNat ≤ k := by
    rw [BitVec.toNat_and]
    refine Nat.le_trans Nat.and_le_right ?_
    rw [BitVec.ofInt_natCast, BitVec.toNat_ofNat]
    exact Nat.mod_le _ _
  refine ⟨(BitVec.ofInt 64 a &&& BitVec.ofInt 64 (k : Int)).toNat, ?_, hx⟩
  rw [h, IntKind.wrap_i64]
  omega
def so0 : S := ⟨[⟨[97], [49, 50, 51, 52, 53], 1⟩], 5, 1, -1⟩
def soL : List Nat := [1, 3, 2, 1, 2, 1, 5, 2, 1, 1, 5, 4, 1, 5, 4]
theorem so_put : putS (new 5) [97] [49, 50, 51, 52, 53] = (so0, 1, 0) := by rfl
theorem nice_A : Nice [65] := by constructor <;> simp
theorem nice_b : Nice [98] := by constructor <;> simp
theorem nice_z : Nice [122, 122] := by constructor <;> simp
def soBig : List Nat := [49, 50, 51, 52, 53, 54]
theorem so1 : make so0 [65] soBig = (so0, 0, 1) := by rfl
theorem so2 : make so0 [97] soBig = (so0, 0, 3) := by rfl
theorem so3 : make so0 [98] soBig = (so0, 0, 2) := by rfl
theorem so4 : putS so0 [65] soBig = (so0, 0, 1) := by rfl
theorem so5 : putS so0 [97] soBig = (so0, 0, 2) := by rfl
theorem so6 : app so0 [65] soBig [([97], 99)] = (so0, 0, 1) := by rfl
theorem so7 : app so0 [97] soBig [([97], 99)] = (so0, 0, 5) := by rfl
theorem so8 : app so0 [97] soBig [] = (so0, 0, 2) := by rfl
theorem so9 : Sf.move so0 [65] [97] [([97], 99)] = (so0, 0, 1) := by rfl
theorem so10 : Sf.move so0 [97] [97] [([97], 99)] = (so0, 0, 1) := by rfl
theorem so11 : Sf.move so0 [122, 122] [97] [([97], 99)] = (so0, 0, 5) := by rfl
theorem so12 : Sf.move so0 [122, 122] [97] [] = (so0, 0, 4) := by rfl
theorem so13 : Sf.drop so0 [65] [([97], 99)] = (so0, 1) := by rfl
theorem so14 : Sf.drop so0 [122, 122] [([97], 99)] = (so0, 5) := by rfl
theorem so15 : Sf.drop so0 [122, 122] [] = (so0, 4) := by rfl

def soC : Array Value := #[.int .i64 1, .int .i64 3, .int .i64 2, .int .i64 1, .int .i64 2, .int .i64 1, .int .i64 5, .int .i64 2, .int .i64 1, .int .i64 1, .int .i64 5, .int .i64 4, .int .i64 1, .int .i64 5, .int .i64 4]
theorem so_cell (k : Nat) (hk : k < 15) : soC[k]? = some (.int .i64 ((soL.getD k 0 : Nat) : Int)) := by
  have e : soC = (soL.map fun (n : Nat) => Value.int .i64 (n : Int)).toArray := rfl
  rw [e, List.getElem?_toArray, List.getElem?_map, List.getD_eq_getElem?_getD, List.getElem?_eq_getElem (show k < soL.length from hk)]
  rfl
set_option maxHeartbeats 2000000 in
theorem code_any (a b : Int) (w : World) : Calls Try.prog 20 #[.int .i64 a, .int .i64 b] w fun e w' => e = .returned (.int .i64 b) ∧ w = w' := by
  go_enter Try.func20, Try.ntmps20
  go_wp2
  go_ret
  exact ⟨rfl, rfl⟩

set_option maxHeartbeats 8000000 in
theorem order_any (a : Int) (w : World) : Calls Try.prog 5 #[.int .i64 a] w fun e w' => e = .returned (.bool true) ∧ Below w.heap.size w w' := by
  have hcv2 := fun (W : World) (O : Obj) (C : Array Value) (n c : Nat) => convert_second (P := Try.prog) W O 27 5 C n c Try.underlying27 Try.underlying5
  have hcv := fun (W : World) (C : Array Value) (n c : Nat) => Lib.run_convert_bytes_const (P := Try.prog) W 27 5 C n c Try.underlying27 Try.underlying5
  obtain ⟨M, hM, hM2⟩ := sand_low a 255 (by omega)
  change bits .and .i64 a 255 = (M : Int) at hM
  go_enter Try.func5, Try.ntmps5
  go_wp2_with fail
  refine (fs_new 5 w).mono ?_
  rintro e w1 ⟨p, rfl, h1⟩
  have H1 := Lib.hid h1
  clear h1
  go_wp2_with fail
  refine (fs_put [97] [49, 50, 51, 52, 53] _ w _ p (new 5) (H1.out.alloc _) nice_a (bytes_new w1 _ rfl [49, 50, 51, 52, 53] _ _ (by simp) (by simp)) (by simp [new]) (by simp [new, used])).mono ?_
  rw [so_put]
  rintro e w2 ⟨rfl, h2⟩
  have H2 := Lib.hid h2
  clear h2
  have hcw : ∀ (O : Obj) (C : Array Value) (n c : Nat), (convert 27 27 (.slice (some ⟨w2.heap.size + 1, 0, none⟩) n c)).run Try.prog ((w2.alloc O).alloc (.cells C 5)) = .ok (.slice (some ⟨w2.heap.size + 1, 0, none⟩) n c) ((w2.alloc O).alloc (.cells C 5 (C.size, C.size + 1))) := hcv2 w2
  clear hcv2
  go_wp2_with fail
  obtain ⟨g1, hg1⟩ : ∃ g1, w2.heap.size = g1 := ⟨_, rfl⟩
  obtain ⟨w3, hw3⟩ : ∃ w3, w3 = (w2.alloc (.cells #[.string (str [97]), .int .i64 99] 39)).alloc (.cells #[.int .u8 49, .int .u8 50, .int .u8 51, .int .u8 52, .int .u8 53, .int .u8 54] 5 (6, 7)) := ⟨_, rfl⟩
  have hs1 : (w2.alloc (.cells #[.string (str [97]), .int .i64 99] 39)).heap.size = g1 + 1 := by simp [hg1]
  have HG3 : Hid (RdG w3 (.slice (some ⟨g1, 0, none⟩) 1 1) [([97], 99)]) := Lib.hid (by rw [hw3, ← hg1]; exact (rdG_one w2 [97] 99).alloc _)
  have HB3 : Hid (Bytes w3 (.slice (some ⟨g1 + 1, 0, none⟩) 6 6) soBig) := Lib.hid (by rw [hw3, ← hs1]; exact bytes_new _ _ rfl soBig _ _ (by simp [soBig]) (by simp [soBig]))
  have HK3 : Hid (Fk (fun k => k = g1 ∨ k = g1 + 1) w w3 p so0) := Lib.hid (by
    refine (Fs.keep H2.out).grow (w1 := w3) ?_ _ fun k hk => .inr ?_
    · rw [hw3]
      exact ((Below.refl _ _).alloc (Nat.le_refl _) _).alloc (by simp) _
    · rw [hw3]
      simp only [World.size_alloc]
      omega)
  change Calls _ _ _ ((w2.alloc (.cells #[.string (str [97]), .int .i64 99] 39)).alloc (.cells #[.int .u8 49, .int .u8 50, .int .u8 51, .int .u8 52, .int .u8 53, .int .u8 54] 5 (6, 7))) _
  rw [← hw3, hg1]
  clear hw3 hs1 hcw hcv
  have hKg : ∀ k, (Value.slice (some ⟨g1, 0, none⟩) 1 1).ownBlock = some k → k = g1 ∨ k = g1 + 1 := fun k h => by simp [Value.ownBlock] at h; exact .inl h.symm
  have hKb : ∀ k, (Value.slice (some ⟨g1 + 1, 0, none⟩) 6 6).ownBlock = some k → k = g1 ∨ k = g1 + 1 := fun k h => by simp [Value.ownBlock] at h; exact .inr h.symm
  have HKG := Lib.hid hKg
  have HKB := Lib.hid hKb
  have HGA : Hid (∀ x ∈ [(([97] : List Nat), (99 : Int))], Nice x.1) := Lib.hid (by simpa using nice_a)
  have HS0 : Hid (so0.next ≤ 1073741824 ∧ used so0.l + soBig.length ≤ 274877906944 ∧ used so0.l ≤ 274877906944) := Lib.hid (by simp [so0, soBig, used])
  clear hKg hKb
  refine (fk_make [65] soBig _ HK3.out nice_A HB3.out HS0.out.1 HS0.out.2.1).mono ?_
  rw [so1]
  rintro e w4 ⟨rfl, hk, hkk⟩
  have HK4 := Lib.hid hk
  have HG4 := Lib.hid (HG3.out.kept hkk HKG.out)
  have HB4 := Lib.hid (HB3.out.kept hkk HKB.out)
  clear hk hkk HG3 HB3 HK3
  go_wp2_with fail
  refine (code_any 0 1 _).mono ?_
  rintro e wx ⟨rfl, rfl⟩
  go_wp2_with fail
  refine (fk_make [97] soBig _ HK4.out nice_a HB4.out HS0.out.1 HS0.out.2.1).mono ?_
  rw [so2]
  rintro e w5 ⟨rfl, hk, hkk⟩
  have HK5 := Lib.hid hk
  have HG5 := Lib.hid (HG4.out.kept hkk HKG.out)
  have HB5 := Lib.hid (HB4.out.kept hkk HKB.out)
  clear hk hkk HG4 HB4 HK4
  go_wp2_with fail
  refine (code_any 0 3 _).mono ?_
  rintro e wx ⟨rfl, rfl⟩
  go_wp2_with fail
  refine (fk_make [98] soBig _ HK5.out nice_b HB5.out HS0.out.1 HS0.out.2.1).mono ?_
  rw [so3]
  rintro e w6 ⟨rfl, hk, hkk⟩
  have HK6 := Lib.hid hk
  have HG6 := Lib.hid (HG5.out.kept hkk HKG.out)
  have HB6 := Lib.hid (HB5.out.kept hkk HKB.out)
  clear hk hkk HG5 HB5 HK5
  go_wp2_with fail
  refine (code_any 0 2 _).mono ?_
  rintro e wx ⟨rfl, rfl⟩
  go_wp2_with fail
  refine (fk_put [65] soBig _ HK6.out nice_A HB6.out HS0.out.1 HS0.out.2.1).mono ?_
  rw [so4]
  rintro e w7 ⟨rfl, hk, hkk⟩
  have HK7 := Lib.hid hk
  have HG7 := Lib.hid (HG6.out.kept hkk HKG.out)
  have HB7 := Lib.hid (HB6.out.kept hkk HKB.out)
  clear hk hkk HG6 HB6 HK6
  go_wp2_with fail
  refine (code_any 0 1 _).mono ?_
  rintro e wx ⟨rfl, rfl⟩
  go_wp2_with fail
  refine (fk_put [97] soBig _ HK7.out nice_a HB7.out HS0.out.1 HS0.out.2.1).mono ?_
  rw [so5]
  rintro e w8 ⟨rfl, hk, hkk⟩
  have HK8 := Lib.hid hk
  have HG8 := Lib.hid (HG7.out.kept hkk HKG.out)
  have HB8 := Lib.hid (HB7.out.kept hkk HKB.out)
  clear hk hkk HG7 HB7 HK7
  go_wp2_with fail
  refine (code_any 0 2 _).mono ?_
  rintro e wx ⟨rfl, rfl⟩
  go_wp2_with fail
  refine (fk_app [65] soBig [([97], 99)] _ _ HK8.out nice_A HB8.out (fun k hk => .inl (HKB.out k hk)) HG8.out HGA.out HS0.out.1 HS0.out.2.1).mono ?_
  rw [so6]
  rintro e w9 ⟨rfl, hk, hkk⟩
  have HK9 := Lib.hid hk
  have HG9 := Lib.hid (HG8.out.kept hkk HKG.out)
  have HB9 := Lib.hid (HB8.out.kept hkk HKB.out)
  clear hk hkk HG8 HB8 HK8
  go_wp2_with fail
  refine (code_any 0 1 _).mono ?_
  rintro e wx ⟨rfl, rfl⟩
  go_wp2_with fail
  refine (fk_app [97] soBig [([97], 99)] _ _ HK9.out nice_a HB9.out (fun k hk => .inl (HKB.out k hk)) HG9.out HGA.out HS0.out.1 HS0.out.2.1).mono ?_
  rw [so7]
  rintro e w10 ⟨rfl, hk, hkk⟩
  have HK10 := Lib.hid hk
  have HG10 := Lib.hid (HG9.out.kept hkk HKG.out)
  have HB10 := Lib.hid (HB9.out.kept hkk HKB.out)
  clear hk hkk HG9 HB9 HK9
  go_wp2_with fail
  refine (code_any 0 5 _).mono ?_
  rintro e wx ⟨rfl, rfl⟩
  go_wp2_with fail
  refine (fk_app [97] soBig [] _ _ HK10.out nice_a HB10.out (fun k hk => .inl (HKB.out k hk)) (rdG_none _ 0 none) (by simp) HS0.out.1 HS0.out.2.1).mono ?_
  rw [so8]
  rintro e w11 ⟨rfl, hk, hkk⟩
  have HK11 := Lib.hid hk
  have HG11 := Lib.hid (HG10.out.kept hkk HKG.out)
  have HB11 := Lib.hid (HB10.out.kept hkk HKB.out)
  clear hk hkk HG10 HB10 HK10
  go_wp2_with fail
  refine (code_any 0 2 _).mono ?_
  rintro e wx ⟨rfl, rfl⟩
  go_wp2_with fail
  refine (fk_move [65] [97] [([97], 99)] _ HK11.out nice_A nice_a HG11.out HGA.out HS0.out.1 HS0.out.2.2).mono ?_
  rw [so9]
  rintro e w12 ⟨rfl, hk, hkk⟩
  have HK12 := Lib.hid hk
  have HG12 := Lib.hid (HG11.out.kept hkk HKG.out)
  have HB12 := Lib.hid (HB11.out.kept hkk HKB.out)
  clear hk hkk HG11 HB11 HK11
  go_wp2_with fail
  refine (code_any 0 1 _).mono ?_
  rintro e wx ⟨rfl, rfl⟩
  go_wp2_with fail
  refine (fk_move [97] [97] [([97], 99)] _ HK12.out nice_a nice_a HG12.out HGA.out HS0.out.1 HS0.out.2.2).mono ?_
  rw [so10]
  rintro e w13 ⟨rfl, hk, hkk⟩
  have HK13 := Lib.hid hk
  have HG13 := Lib.hid (HG12.out.kept hkk HKG.out)
  have HB13 := Lib.hid (HB12.out.kept hkk HKB.out)
  clear hk hkk HG12 HB12 HK12
  go_wp2_with fail
  refine (code_any 0 1 _).mono ?_
  rintro e wx ⟨rfl, rfl⟩
  go_wp2_with fail
  refine (fk_move [122, 122] [97] [([97], 99)] _ HK13.out nice_z nice_a HG13.out HGA.out HS0.out.1 HS0.out.2.2).mono ?_
  rw [so11]
  rintro e w14 ⟨rfl, hk, hkk⟩
  have HK14 := Lib.hid hk
  have HG14 := Lib.hid (HG13.out.kept hkk HKG.out)
  have HB14 := Lib.hid (HB13.out.kept hkk HKB.out)
  clear hk hkk HG13 HB13 HK13
  go_wp2_with fail
  refine (code_any 0 5 _).mono ?_
  rintro e wx ⟨rfl, rfl⟩
  go_wp2_with fail
  refine (fk_move [122, 122] [97] [] _ HK14.out nice_z nice_a (rdG_none _ 0 none) (by simp) HS0.out.1 HS0.out.2.2).mono ?_
  rw [so12]
  rintro e w15 ⟨rfl, hk, hkk⟩
  have HK15 := Lib.hid hk
  have HG15 := Lib.hid (HG14.out.kept hkk HKG.out)
  have HB15 := Lib.hid (HB14.out.kept hkk HKB.out)
  clear hk hkk HG14 HB14 HK14
  go_wp2_with fail
  refine (code_any 0 4 _).mono ?_
  rintro e wx ⟨rfl, rfl⟩
  go_wp2_with fail
  refine (fk_drop [65] [([97], 99)] _ HK15.out nice_A HG15.out HGA.out HS0.out.2.2).mono ?_
  rw [so13]
  rintro e w16 ⟨rfl, hk, hkk⟩
  have HK16 := Lib.hid hk
  have HG16 := Lib.hid (HG15.out.kept hkk HKG.out)
  have HB16 := Lib.hid (HB15.out.kept hkk HKB.out)
  clear hk hkk HG15 HB15 HK15
  go_wp2_with fail
  refine (fk_drop [122, 122] [([97], 99)] _ HK16.out nice_z HG16.out HGA.out HS0.out.2.2).mono ?_
  rw [so14]
  rintro e w17 ⟨rfl, hk, hkk⟩
  have HK17 := Lib.hid hk
  have HG17 := Lib.hid (HG16.out.kept hkk HKG.out)
  have HB17 := Lib.hid (HB16.out.kept hkk HKB.out)
  clear hk hkk HG16 HB16 HK16
  go_wp2_with fail
  refine (fk_drop [122, 122] [] _ HK17.out nice_z (rdG_none _ 0 none) (by simp) HS0.out.2.2).mono ?_
  rw [so15]
  rintro e w18 ⟨rfl, hk, hkk⟩
  have HK18 := Lib.hid hk
  have HG18 := Lib.hid (HG17.out.kept hkk HKG.out)
  have HB18 := Lib.hid (HB17.out.kept hkk HKB.out)
  clear hk hkk HG17 HB17 HK17
  go_wp2_with fail
  obtain ⟨k, hk, hk2⟩ : ∃ k : Nat, (M : Int) % 15 = (k : Int) ∧ k < 15 := ⟨M % 15, by omega, by omega⟩
  rw [hk]
  obtain ⟨g2, hg2⟩ : ∃ g2, w18.heap.size = g2 := ⟨_, rfl⟩
  obtain ⟨W, hW⟩ : ∃ W, W = (w18.alloc (.cells soC 24)).alloc (.cells soC 24) := ⟨_, rfl⟩
  have hs2 : (w18.alloc (.cells soC 24)).heap.size = g2 + 1 := by simp [hg2]
  obtain ⟨x, hx⟩ : ∃ x : Nat, soL.getD k 0 = x := ⟨_, rfl⟩
  have c1 : W.cell? ⟨g2, k, none⟩ = some (.int .i64 (x : Int)) := by
    rw [hW, ← hx, ← so_cell k hk2]
    refine cell_of_row _ g2 k soC 24 (0, 0) ?_
    rw [Below.heap_alloc _ _ _ (by omega), ← hg2]
    exact heap_alloc_new w18 _
  have c2 : W.cell? ⟨g2 + 1, k, none⟩ = some (.int .i64 (x : Int)) := by
    rw [hW, ← hx, ← so_cell k hk2]
    refine cell_of_row _ (g2 + 1) k soC 24 (0, 0) ?_
    rw [← hs2]
    exact heap_alloc_new _ _
  have HW : Hid (Fs w W.drew p so0) := Lib.hid (by
    refine (HK18.out.fs).under ?_
    rw [hW]
    exact Below.trans (((Below.refl _ _).alloc (Nat.le_refl _) _).alloc (by simp) _) ⟨rfl, rfl, rfl, Nat.le_refl _, fun _ _ => rfl⟩)
  change Code.wp _ _ _ _ ((w18.alloc (.cells soC 24)).alloc (.cells soC 24))
  rw [← hW, hg2]
  have hki : (k : Int) < 15 := by omega
  clear hW hs2 hg2 hx hk hk2 hM hM2
  go_region_with (first
    | (go_at_call 13; refine (fs_used w _ p so0 HW.out).mono ?_; rintro e w19 ⟨rfl, rfl⟩)
    | (go_at_call 11; refine (fs_stamp [97] w _ p so0 HW.out nice_a).mono ?_; rintro e w19 ⟨rfl, rfl⟩)
    | (go_at_call 17; refine (fawake_any _).mono ?_; rintro e w20 ⟨rfl, hb⟩; have HB20 := Lib.hid (HW.out.below.trans (hb.mono HW.out.below.size)); clear hb))
  all_goals
    go_wp2
    go_ret
    exact ⟨rfl, HB20.out⟩
end Go.Proofs.Ytegflhihjjjkhaa
