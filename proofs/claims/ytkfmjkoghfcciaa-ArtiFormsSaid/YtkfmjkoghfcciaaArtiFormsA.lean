/- ArtiForms, its first part: the rows of the table, and how the table ends, from where its orders meet. -/
import Derived.Test.YtkfmjkoghfcciaaArtiAwake
import Derived.Test.YtkfmjkoghfcciaaArtiRef
import Derived.Test.YtkfmjkoghfcciaaArtiTurned
import Derived.Test.YtkfmjkoghfcciaaPool
import Derived.Test.YtkfmjkoghfcciaaZeros
import Derived.Test.YtkfmjkoghfcciaaPool2
import Derived.Test.YtkfmjkoghfcciaaRegion2
import Derived.Test.YtkfmjkoghfcciaaOpsOf
namespace Go.Proofs.Ytkfmjkoghfcciaa
set_option maxRecDepth 100000
open Go.ChangeShapes Go.WideShapes Go.ChangeAt Go.RowKit

namespace Ar
def fB : List Nat := Cd.enc 1 ++ [112] ++ Cd.enc 2 ++ [118, 119]
/-- What a row of the table says. -/
def FGood (l : List Nat) (ok : Bool) : Prop := (∀ c ∈ l, c < 256) ∧ l.length ≤ 100000 ∧ (ok = true → ∃ p q, opn l = some (p, q) ∧ make p q = l ∧ p.length ≤ 4000 ∧ q.length ≤ 256) ∧ (ok = false → opn l = none)
theorem and_low8 (a : Int) : (bits .and .i64 a 255).toNat ≤ 255 ∧ bits .and .i64 a 255 = ((bits .and .i64 a 255).toNat : Int) := by
  have h : bits .and .i64 a 255 = IntKind.i64.wrap ((BitVec.ofInt 64 a &&& BitVec.ofInt 64 255).toNat : Int) := rfl
  have hx : (BitVec.ofInt 64 a &&& BitVec.ofInt 64 255).toNat ≤ 255 := by
    rw [BitVec.toNat_and]
    exact Nat.le_trans Nat.and_le_right (by decide)
  rw [h, IntKind.wrap_i64]
  omega
theorem good_no {l : List Nat} (h : (l.all fun c => decide (c < 256)) = true) (hl : l.length ≤ 100000) (ho : opn l = none) : FGood l false :=
  ⟨fun c hc => by simpa using List.all_eq_true.1 h c hc, hl, fun h => Bool.noConfusion h, fun _ => ho⟩
theorem good_yes {l p q : List Nat} (hm : l = make p q) (hp : p.length ≤ 4000) (hq : q.length ≤ 256) (hbp : (p.all fun c => decide (c < 256)) = true) (hbq : (q.all fun c => decide (c < 256)) = true) : FGood l true := by
  subst hm
  refine ⟨make_lt (fun c hc => by simpa using List.all_eq_true.1 hbp c hc) (fun c hc => by simpa using List.all_eq_true.1 hbq c hc), ?_, fun _ => ⟨p, q, opn_make p q hp hq, rfl, hp, hq⟩, fun h => Bool.noConfusion h⟩
  rw [make_length]
  omega
theorem frm_no {x : List Nat} (hx : ∀ c ∈ x, c < 256) (hl : x.length ≤ 10000) (h : Cd.endB (s2 (some x)) = false) : FGood ([] ++ Fr.frm x) false := by
  rw [List.nil_append]
  exact ⟨frm_lt hx, by rw [Fr.frm_length]; omega, fun h => Bool.noConfusion h, fun _ => by rw [opn_frm x hl, h]; rfl⟩
theorem f0 : FGood ([] ++ Fr.frm fB) true := good_yes (p := [112]) (q := [118, 119]) (by rfl) (by decide) (by decide) (by decide) (by decide)
theorem f1 : FGood fB false := good_no (by decide +kernel) (by decide +kernel) (by decide +kernel)
theorem f2 : FGood [] false := good_no (by decide +kernel) (by decide +kernel) (by decide +kernel)
theorem f3 : FGood ([] ++ Fr.frm []) false := frm_no (by simp) (by decide) (by decide +kernel)
theorem all_of {l : List Nat} (h : (l.all fun c => decide (c < 256)) = true) : ∀ c ∈ l, c < 256 := fun c hc => by simpa using List.all_eq_true.1 h c hc
theorem f4 : FGood ([] ++ Fr.frm (fB.take 14)) false := frm_no (all_of (by decide +kernel)) (by decide +kernel) (by decide +kernel)
theorem f5 : FGood ([] ++ Fr.frm (fB ++ [0])) false := frm_no (all_of (by decide +kernel)) (by decide +kernel) (by decide +kernel)
theorem f6 : FGood (([] ++ Fr.frm fB) ++ Fr.frm fB) false := good_no (by decide +kernel) (by decide +kernel) (by decide +kernel)
theorem f7 : FGood ([] ++ Fr.frm (Cd.enc 0 ++ Cd.enc 0)) true := good_yes (p := []) (q := []) (by rfl) (by decide) (by decide) (by decide) (by decide)
def z8 : List Nat := Cd.enc 0 ++ Cd.enc 257 ++ List.replicate 257 0
def z9 : List Nat := Cd.enc 0 ++ Cd.enc 256 ++ List.replicate 256 0
def z10 : List Nat := Cd.enc 4001 ++ List.replicate 4001 0 ++ Cd.enc 0
def z11 : List Nat := Cd.enc 4000 ++ List.replicate 4000 0 ++ Cd.enc 0
theorem f8 : FGood ([] ++ Fr.frm z8) false := frm_no (all_of (by decide +kernel)) (by decide +kernel) (by decide +kernel)
theorem f9 : FGood ([] ++ Fr.frm z9) true := good_yes (p := []) (q := List.replicate 256 0) (by rw [make, body, z9]; simp) (by simp) (by simp) (by decide +kernel) (by decide +kernel)
theorem f10 : FGood ([] ++ Fr.frm z10) false := frm_no (all_of (by decide +kernel)) (by decide +kernel) (by decide +kernel)
theorem f11 : FGood ([] ++ Fr.frm z11) true := good_yes (p := List.replicate 4000 0) (q := []) (by rw [make, body, z11]; simp) (by simp) (by simp) (by decide +kernel) (by decide +kernel)
end Ar

set_option maxHeartbeats 1000000 in
theorem anum_is (n : Nat) (l : List Nat) (w : World) (hn : n ≤ 1099511627776) (hl : Cd.enc n = l) :
    Calls Try.prog 36 #[.int .i64 (n : Int)] w (Made w.heap.size l w) := by
  subst hl
  have hh : Cd.held (n : Int) = n := by unfold Cd.held; omega
  have HH := Lib.hid hh
  clear hh
  go_enter Try.func36, Try.ntmps36
  go_wp2_with fail
  refine (refnum_any _ [] (n : Int) w (bytes_none w) (by simp)).mono ?_
  rintro e w1 ⟨v1, rfl, ho1, hb1⟩
  rw [HH.out, List.nil_append] at ho1
  have HO := Lib.hid ho1
  clear ho1
  go_wp2
  go_ret
  exact ⟨_, rfl, HO.out, hb1⟩

/-- What the statement's last line reads: the row's two fields, and its bytes as a text. -/
abbrev AFRead (w : World) (g : Nat) (A : Option Addr) (n c : Nat) (l : List Nat) : Prop :=
  w.cell? ⟨g, 0, none⟩ = some (.slice A n c) ∧ w.cell? ⟨g, 1, none⟩ = some (.bool true) ∧ (convert 30 9 (.slice A n c)).run Try.prog w = .ok (.string (str l)) w

set_option maxRecDepth 100000 in
set_option maxHeartbeats 16000000 in
/-- From where the table's orders meet to its end. -/
theorem aforms_tail {Q : Exit → Act → World → Prop} (which : Int) (AB : Option Addr) (cAB : Nat) (wa : World) (HBY : Hid (∀ W : World, Below wa.heap.size wa W → Bytes W (.slice AB 15 cAB) Ar.fB)) (n20 : Nat) (n25 : Nat) (n32 : Nat) (n39 : Nat) (n42 : Nat) (n44 : Nat) (n51 : Nat) (n59 : Nat) (n67 : Nat) (n75 : Nat) (n83 : Nat) (HL39 : Hid ((([] ++ Fr.frm (Ar.fB ++ [0]))).length = n39)) (HL42 : Hid ((([] ++ Fr.frm Ar.fB)).length = n42)) (HL44 : Hid (((([] ++ Fr.frm Ar.fB) ++ Fr.frm Ar.fB)).length = n44)) (HL51 : Hid ((([] ++ Fr.frm (Cd.enc 0 ++ Cd.enc 0))).length = n51)) (HL59 : Hid ((([] ++ Fr.frm Ar.z8)).length = n59)) (HL67 : Hid ((([] ++ Fr.frm Ar.z9)).length = n67)) (HL75 : Hid ((([] ++ Fr.frm Ar.z10)).length = n75)) (HL83 : Hid ((([] ++ Fr.frm Ar.z11)).length = n83))
    (hQ : ∀ (a : Act) (W : World) (g : Nat), a.defers = [] → a.tmps.size = 133 → a.tmps.getD 0 undef = .int .i64 which → a.tmps.getD 1 undef = undef → a.tmps.getD 2 undef = .bool false → a.tmps.getD 3 undef = .func (.func 36) #[] #[] → a.tmps.getD 4 undef = .slice AB 15 cAB → a.tmps.getD 5 undef = .slice (some ⟨g, 0, none⟩) 12 12 → a.tmps.getD 6 undef = undef → a.tmps.getD 7 undef = undef → a.tmps.getD 8 undef = undef → a.tmps.getD 9 undef = undef → (∀ k, k < 12 → ∃ u l ok, W.cell? ⟨g, k * 2, none⟩ = some u ∧ W.cell? ⟨g, k * 2 + 1, none⟩ = some (.bool ok) ∧ Bytes W u l ∧ Ar.FGood l ok) → Below wa.heap.size wa W → Q .normal a W)
    (f : Nat) (l : Array Bool) (a : Act) (W : World) (A20 : Option Addr) (c20 : Nat) (A25 : Option Addr) (c25 : Nat) (A32 : Option Addr) (c32 : Nat) (v38 : Value) : f = 36 → l = #[true, true, true, true, true, true, true, true, true, true, true, true, true, true, true, true, true, true, true, true, false, false, true, false, true, false, false, true, false, true, false, false, false, false, true, false, true, false, false, false, false, false, true, false, true, false, false, false, false, false, true, false, false, true, false, false, false, false, true, false, false, true, false, false, false, false, false, false] → a.defers = [] → a.tmps.size = 133 → a.tmps.getD 0 undef = .int .i64 which → a.tmps.getD 1 undef = undef → a.tmps.getD 2 undef = .bool false → a.tmps.getD 6 undef = undef → a.tmps.getD 7 undef = undef → a.tmps.getD 8 undef = undef → a.tmps.getD 9 undef = undef → a.tmps.getD 3 undef = .func (.func 36) #[] #[] → a.tmps.getD 4 undef = .slice AB 15 cAB → a.tmps.getD 38 undef = v38 → a.tmps.getD 21 undef = .agg #[.slice A20 n20 c20, .bool true] → a.tmps.getD 23 undef = .agg #[.slice AB 15 cAB, .bool false] → a.tmps.getD 24 undef = .agg #[.slice none 0 0, .bool false] → a.tmps.getD 26 undef = .agg #[.slice A25 n25 c25, .bool false] → a.tmps.getD 33 undef = .agg #[.slice A32 n32 c32, .bool false] → a.tmps.getD 41 undef = .slice AB 15 cAB → a.tmps.getD 43 undef = .slice AB 15 cAB → a.tmps.getD 46 undef = .func (.func 36) #[] #[] → a.tmps.getD 48 undef = .func (.func 36) #[] #[] → a.tmps.getD 53 undef = .func (.func 36) #[] #[] → a.tmps.getD 55 undef = .func (.func 36) #[] #[] → a.tmps.getD 61 undef = .func (.func 36) #[] #[] → a.tmps.getD 63 undef = .func (.func 36) #[] #[] → a.tmps.getD 69 undef = .func (.func 36) #[] #[] → a.tmps.getD 72 undef = .func (.func 36) #[] #[] → a.tmps.getD 77 undef = .func (.func 36) #[] #[] → a.tmps.getD 80 undef = .func (.func 36) #[] #[] → Pool W wa.heap.size [((.slice A20 n20 c20), ([] ++ Fr.frm Ar.fB)), ((.slice A25 n25 c25), ([] ++ Fr.frm [])), ((.slice A32 n32 c32), ([] ++ Fr.frm (Ar.fB.take 14))), (v38, (Ar.fB ++ [0]))] → Below wa.heap.size wa W → wpAnyH Try.prog .any (opsOf Try.f4 3) (NoPanic Q) (fun _ => True) f l a W := by
  rintro rfl rfl hdf hsz h0 h1 h2 h6 h7 h8 h9 h3 h4 h38 h21 h23 h24 h26 h33 h41 h43 h46 h48 h53 h55 h61 h63 h69 h72 h77 h80 hP0 hB0
  obtain ⟨tm, df⟩ := a
  dsimp only at hdf hsz h0 h1 h2 h6 h7 h8 h9 h3 h4 h38 h21 h23 h24 h26 h33 h41 h43 h46 h48 h53 h55 h61 h63 h69 h72 h77 h80
  subst hdf
  have hout := slots_out tm 133 hsz
  obtain ⟨y, hy⟩ : ∃ y : Nat → Value, (fun i => tm.getD i undef) = y := ⟨_, rfl⟩
  rw [hy] at hout
  have h0' : y 0 = .int .i64 which := by rw [← hy]; exact h0
  have h1' : y 1 = undef := by rw [← hy]; exact h1
  have h2' : y 2 = .bool false := by rw [← hy]; exact h2
  have h6' : y 6 = undef := by rw [← hy]; exact h6
  have h7' : y 7 = undef := by rw [← hy]; exact h7
  have h8' : y 8 = undef := by rw [← hy]; exact h8
  have h9' : y 9 = undef := by rw [← hy]; exact h9
  have h3' : y 3 = .func (.func 36) #[] #[] := by rw [← hy]; exact h3
  have h4' : y 4 = .slice AB 15 cAB := by rw [← hy]; exact h4
  have h38' : y 38 = v38 := by rw [← hy]; exact h38
  have h21' : y 21 = .agg #[.slice A20 n20 c20, .bool true] := by rw [← hy]; exact h21
  have h23' : y 23 = .agg #[.slice AB 15 cAB, .bool false] := by rw [← hy]; exact h23
  have h24' : y 24 = .agg #[.slice none 0 0, .bool false] := by rw [← hy]; exact h24
  have h26' : y 26 = .agg #[.slice A25 n25 c25, .bool false] := by rw [← hy]; exact h26
  have h33' : y 33 = .agg #[.slice A32 n32 c32, .bool false] := by rw [← hy]; exact h33
  have h41' : y 41 = .slice AB 15 cAB := by rw [← hy]; exact h41
  have h43' : y 43 = .slice AB 15 cAB := by rw [← hy]; exact h43
  have h46' : y 46 = .func (.func 36) #[] #[] := by rw [← hy]; exact h46
  have h48' : y 48 = .func (.func 36) #[] #[] := by rw [← hy]; exact h48
  have h53' : y 53 = .func (.func 36) #[] #[] := by rw [← hy]; exact h53
  have h55' : y 55 = .func (.func 36) #[] #[] := by rw [← hy]; exact h55
  have h61' : y 61 = .func (.func 36) #[] #[] := by rw [← hy]; exact h61
  have h63' : y 63 = .func (.func 36) #[] #[] := by rw [← hy]; exact h63
  have h69' : y 69 = .func (.func 36) #[] #[] := by rw [← hy]; exact h69
  have h72' : y 72 = .func (.func 36) #[] #[] := by rw [← hy]; exact h72
  have h77' : y 77 = .func (.func 36) #[] #[] := by rw [← hy]; exact h77
  have h80' : y 80 = .func (.func 36) #[] #[] := by rw [← hy]; exact h80
  have hlit : tm = #[y 0, y 1, y 2, y 3, y 4, y 5, y 6, y 7, y 8, y 9, y 10, y 11, y 12, y 13, y 14, y 15, y 16, y 17, y 18, y 19, y 20, y 21, y 22, y 23, y 24, y 25, y 26, y 27, y 28, y 29, y 30, y 31, y 32, y 33, y 34, y 35, y 36, y 37, y 38, y 39, y 40, y 41, y 42, y 43, y 44, y 45, y 46, y 47, y 48, y 49, y 50, y 51, y 52, y 53, y 54, y 55, y 56, y 57, y 58, y 59, y 60, y 61, y 62, y 63, y 64, y 65, y 66, y 67, y 68, y 69, y 70, y 71, y 72, y 73, y 74, y 75, y 76, y 77, y 78, y 79, y 80, y 81, y 82, y 83, y 84, y 85, y 86, y 87, y 88, y 89, y 90, y 91, y 92, y 93, y 94, y 95, y 96, y 97, y 98, y 99, y 100, y 101, y 102, y 103, y 104, y 105, y 106, y 107, y 108, y 109, y 110, y 111, y 112, y 113, y 114, y 115, y 116, y 117, y 118, y 119, y 120, y 121, y 122, y 123, y 124, y 125, y 126, y 127, y 128, y 129, y 130, y 131, y 132] := by rw [hout]; kernel_rfl
  rw [h0', h1', h2', h6', h7', h8', h9', h3', h4', h38', h21', h23', h24', h26', h33', h41', h43', h46', h48', h53', h55', h61', h63', h69', h72', h77', h80'] at hlit
  clear hout hsz h0 h1 h2 h6 h7 h8 h9 h3 h4 h38 h21 h23 h24 h26 h33 h41 h43 h46 h48 h53 h55 h61 h63 h69 h72 h77 h80 h0' h1' h2' h6' h7' h8' h9' h3' h4' h38' h21' h23' h24' h26' h33' h41' h43' h46' h48' h53' h55' h61' h63' h69' h72' h77' h80' hy
  subst hlit
  obtain ⟨wn0, rfl⟩ : ∃ wn : World, wn = W := ⟨_, rfl⟩
  simp only [opsOf, Try.f4, regionOf, Nat.reduceEqDiff, Option.getD_some, List.append_eq, List.cons_append, List.nil_append, ↓reduceIte, reduceCtorEq]
  have hw14 : IntKind.i64.wrap (14 : Int) = 14 := by decide
  have hHeld : True := trivial
  refine stepOne 20 (o := ?oT345) ?hiT345 (by kernel_rfl) ?hwT345 (fun K hK => ?_)
  case hiT345 => (simp only [List.getElem?_toArray, List.getElem?_cons_succ, List.getElem?_cons_zero]; with_reducible rfl)
  case hwT345 => rfl
  go_simp
  go_at_call 38
  refine (refput_is _ _ [] (Ar.fB ++ [0]) _ _ (bytes_none _) (hP0.get 3 rfl).bytes (by decide +kernel) (by decide +kernel) rfl).mono ?_
  rintro e wn1 ⟨v39, rfl, ho, hb⟩
  obtain ⟨_, _, A39, c39, hv, _, _⟩ := ho.bytes.parts
  rw [HL39.out] at hv
  subst hv
  have hP1 : Pool wn1 wa.heap.size [((.slice A39 n39 c39), ([] ++ Fr.frm (Ar.fB ++ [0]))), ((.slice A20 n20 c20), ([] ++ Fr.frm Ar.fB)), ((.slice A25 n25 c25), ([] ++ Fr.frm [])), ((.slice A32 n32 c32), ([] ++ Fr.frm (Ar.fB.take 14))), (v38, (Ar.fB ++ [0]))] := hP0.made hb ho
  have hB1 := hB0.trans (hb.mono hB0.size)
  clear ho hb hP0 hB0
  refine hK.out _ _ ?_ (fun hHeld => ?_)
  · exact trivial
  clear hK K
  try simp only [List.setIfInBounds_toArray, List.set_cons_zero, List.set_cons_succ]
  refine takeW 21 (some 40) (oi := ?oT346) (v := ?vT346) ?hiT346 ?hdT346 (by kernel_rfl) (by kernel_rfl) (by kernel_rfl) (fun _ _ _ h => h) ?hwT346 ?hyT346 hHeld ?_
  case hiT346 => (simp only [List.getElem?_toArray, List.getElem?_cons_succ, List.getElem?_cons_zero]; with_reducible rfl)
  case hdT346 => rfl
  case hwT346 => rfl
  case hyT346 => (intro w hSw; (try dsimp only at hSw); go_simp; first | done | with_reducible rfl)
  try simp only [Act.put]
  try simp only [List.setIfInBounds_toArray, List.set_cons_zero, List.set_cons_succ]
  refine stepOne 23 (o := ?oT347) ?hiT347 (by kernel_rfl) ?hwT347 (fun K hK => ?_)
  case hiT347 => (simp only [List.getElem?_toArray, List.getElem?_cons_succ, List.getElem?_cons_zero]; with_reducible rfl)
  case hwT347 => rfl
  go_simp
  go_at_call 38
  refine (refput_is _ _ [] Ar.fB _ _ (bytes_none _) (HBY.out _ hB1) (by decide +kernel) (by decide +kernel) rfl).mono ?_
  rintro e wn2 ⟨v42, rfl, ho, hb⟩
  obtain ⟨_, _, A42, c42, hv, _, _⟩ := ho.bytes.parts
  rw [HL42.out] at hv
  subst hv
  have hP2 : Pool wn2 wa.heap.size [((.slice A42 n42 c42), ([] ++ Fr.frm Ar.fB)), ((.slice A39 n39 c39), ([] ++ Fr.frm (Ar.fB ++ [0]))), ((.slice A20 n20 c20), ([] ++ Fr.frm Ar.fB)), ((.slice A25 n25 c25), ([] ++ Fr.frm [])), ((.slice A32 n32 c32), ([] ++ Fr.frm (Ar.fB.take 14))), (v38, (Ar.fB ++ [0]))] := hP1.made hb ho
  have hB2 := hB1.trans (hb.mono hB1.size)
  clear ho hb hP1 hB1
  refine hK.out _ _ ?_ (fun hHeld => ?_)
  · exact trivial
  clear hK K
  try simp only [Act.put]
  try simp only [List.setIfInBounds_toArray, List.set_cons_zero, List.set_cons_succ]
  refine stepOne 25 (o := ?oT348) ?hiT348 (by kernel_rfl) ?hwT348 (fun K hK => ?_)
  case hiT348 => (simp only [List.getElem?_toArray, List.getElem?_cons_succ, List.getElem?_cons_zero]; with_reducible rfl)
  case hwT348 => rfl
  go_simp
  go_at_call 38
  refine (refput_is _ _ ([] ++ Fr.frm Ar.fB) Ar.fB _ _ (hP2.get 0 rfl).bytes (HBY.out _ hB2) (by decide +kernel) (by decide +kernel) rfl).mono ?_
  rintro e wn3 ⟨v44, rfl, ho, hb⟩
  obtain ⟨_, _, A44, c44, hv, _, _⟩ := ho.bytes.parts
  rw [HL44.out] at hv
  subst hv
  have hP3 : Pool wn3 wa.heap.size [((.slice A44 n44 c44), (([] ++ Fr.frm Ar.fB) ++ Fr.frm Ar.fB)), ((.slice A42 n42 c42), ([] ++ Fr.frm Ar.fB)), ((.slice A39 n39 c39), ([] ++ Fr.frm (Ar.fB ++ [0]))), ((.slice A20 n20 c20), ([] ++ Fr.frm Ar.fB)), ((.slice A25 n25 c25), ([] ++ Fr.frm [])), ((.slice A32 n32 c32), ([] ++ Fr.frm (Ar.fB.take 14))), (v38, (Ar.fB ++ [0]))] := hP2.made hb ho
  have hB3 := hB2.trans (hb.mono hB2.size)
  clear ho hb hP2 hB2
  refine hK.out _ _ ?_ (fun hHeld => ?_)
  · exact trivial
  clear hK K
  try simp only [Act.put]
  try simp only [List.setIfInBounds_toArray, List.set_cons_zero, List.set_cons_succ]
  refine takeW 26 (some 45) (oi := ?oT349) (v := ?vT349) ?hiT349 ?hdT349 (by kernel_rfl) (by kernel_rfl) (by kernel_rfl) (fun _ _ _ h => h) ?hwT349 ?hyT349 hHeld ?_
  case hiT349 => (simp only [List.getElem?_toArray, List.getElem?_cons_succ, List.getElem?_cons_zero]; with_reducible rfl)
  case hdT349 => rfl
  case hwT349 => rfl
  case hyT349 => (intro w hSw; (try dsimp only at hSw); go_simp; first | done | with_reducible rfl)
  try simp only [Act.put]
  try simp only [List.setIfInBounds_toArray, List.set_cons_zero, List.set_cons_succ]
  refine stepOne 28 (o := ?oT350) ?hiT350 (by kernel_rfl) ?hwT350 (fun K hK => ?_)
  case hiT350 => (simp only [List.getElem?_toArray, List.getElem?_cons_succ, List.getElem?_cons_zero]; with_reducible rfl)
  case hwT350 => rfl
  go_simp
  go_at_call 36
  refine (anum_is 0 _ _ (by decide) rfl).mono ?_
  rintro e wn4 ⟨v47, rfl, ho, hb⟩
  have hP4 : Pool wn4 wa.heap.size [(v47, (Cd.enc 0)), ((.slice A44 n44 c44), (([] ++ Fr.frm Ar.fB) ++ Fr.frm Ar.fB)), ((.slice A42 n42 c42), ([] ++ Fr.frm Ar.fB)), ((.slice A39 n39 c39), ([] ++ Fr.frm (Ar.fB ++ [0]))), ((.slice A20 n20 c20), ([] ++ Fr.frm Ar.fB)), ((.slice A25 n25 c25), ([] ++ Fr.frm [])), ((.slice A32 n32 c32), ([] ++ Fr.frm (Ar.fB.take 14))), (v38, (Ar.fB ++ [0]))] := hP3.made hb ho
  have hB4 := hB3.trans (hb.mono hB3.size)
  clear ho hb hP3 hB3
  refine hK.out _ _ ?_ (fun hHeld => ?_)
  · exact trivial
  clear hK K
  try simp only [Act.put]
  try simp only [List.setIfInBounds_toArray, List.set_cons_zero, List.set_cons_succ]
  refine stepOne 30 (o := ?oT351) ?hiT351 (by kernel_rfl) ?hwT351 (fun K hK => ?_)
  case hiT351 => (simp only [List.getElem?_toArray, List.getElem?_cons_succ, List.getElem?_cons_zero]; with_reducible rfl)
  case hwT351 => rfl
  go_simp
  go_at_call 36
  refine (anum_is 0 _ _ (by decide) rfl).mono ?_
  rintro e wn5 ⟨v49, rfl, ho, hb⟩
  have hP5 : Pool wn5 wa.heap.size [(v49, (Cd.enc 0)), (v47, (Cd.enc 0)), ((.slice A44 n44 c44), (([] ++ Fr.frm Ar.fB) ++ Fr.frm Ar.fB)), ((.slice A42 n42 c42), ([] ++ Fr.frm Ar.fB)), ((.slice A39 n39 c39), ([] ++ Fr.frm (Ar.fB ++ [0]))), ((.slice A20 n20 c20), ([] ++ Fr.frm Ar.fB)), ((.slice A25 n25 c25), ([] ++ Fr.frm [])), ((.slice A32 n32 c32), ([] ++ Fr.frm (Ar.fB.take 14))), (v38, (Ar.fB ++ [0]))] := hP4.made hb ho
  have hB5 := hB4.trans (hb.mono hB4.size)
  clear ho hb hP4 hB4
  refine hK.out _ _ ?_ (fun hHeld => ?_)
  · exact trivial
  clear hK K
  try simp only [Act.put]
  try simp only [List.setIfInBounds_toArray, List.set_cons_zero, List.set_cons_succ]
  refine stepOne 31 (o := ?oT352) ?hiT352 (by kernel_rfl) ?hwT352 (fun K hK => ?_)
  case hiT352 => (simp only [List.getElem?_toArray, List.getElem?_cons_succ, List.getElem?_cons_zero]; with_reducible rfl)
  case hwT352 => rfl
  refine wp_append_bytes (.tmp 47) (.tmp 49) rfl wa.heap.size _ _ _ _ rfl (hP5.get 1 rfl) rfl (hP5.get 0 rfl).bytes (by decide +kernel) hP5.1 (Cd.enc 0 ++ Cd.enc 0) rfl ?_
  rintro v50 wn6 hgr
  have hP6 : Pool wn6 wa.heap.size [(v49, (Cd.enc 0)), (v50, (Cd.enc 0 ++ Cd.enc 0)), ((.slice A44 n44 c44), (([] ++ Fr.frm Ar.fB) ++ Fr.frm Ar.fB)), ((.slice A42 n42 c42), ([] ++ Fr.frm Ar.fB)), ((.slice A39 n39 c39), ([] ++ Fr.frm (Ar.fB ++ [0]))), ((.slice A20 n20 c20), ([] ++ Fr.frm Ar.fB)), ((.slice A25 n25 c25), ([] ++ Fr.frm [])), ((.slice A32 n32 c32), ([] ++ Fr.frm (Ar.fB.take 14))), (v38, (Ar.fB ++ [0]))] := hP5.app 1 rfl hgr
  have hB6 := hB5.trans hgr.2.2.2
  clear hgr hP5 hB5
  refine hK.out _ _ ?_ (fun hHeld => ?_)
  · exact trivial
  clear hK K
  try simp only [Act.put]
  try simp only [List.setIfInBounds_toArray, List.set_cons_zero, List.set_cons_succ]
  refine stepOne 32 (o := ?oT353) ?hiT353 (by kernel_rfl) ?hwT353 (fun K hK => ?_)
  case hiT353 => (simp only [List.getElem?_toArray, List.getElem?_cons_succ, List.getElem?_cons_zero]; with_reducible rfl)
  case hwT353 => rfl
  go_simp
  go_at_call 38
  refine (refput_is _ _ [] (Cd.enc 0 ++ Cd.enc 0) _ _ (bytes_none _) (hP6.get 1 rfl).bytes (by decide +kernel) (by decide +kernel) rfl).mono ?_
  rintro e wn7 ⟨v51, rfl, ho, hb⟩
  obtain ⟨_, _, A51, c51, hv, _, _⟩ := ho.bytes.parts
  rw [HL51.out] at hv
  subst hv
  have hP7 : Pool wn7 wa.heap.size [((.slice A51 n51 c51), ([] ++ Fr.frm (Cd.enc 0 ++ Cd.enc 0))), (v49, (Cd.enc 0)), (v50, (Cd.enc 0 ++ Cd.enc 0)), ((.slice A44 n44 c44), (([] ++ Fr.frm Ar.fB) ++ Fr.frm Ar.fB)), ((.slice A42 n42 c42), ([] ++ Fr.frm Ar.fB)), ((.slice A39 n39 c39), ([] ++ Fr.frm (Ar.fB ++ [0]))), ((.slice A20 n20 c20), ([] ++ Fr.frm Ar.fB)), ((.slice A25 n25 c25), ([] ++ Fr.frm [])), ((.slice A32 n32 c32), ([] ++ Fr.frm (Ar.fB.take 14))), (v38, (Ar.fB ++ [0]))] := hP6.made hb ho
  have hB7 := hB6.trans (hb.mono hB6.size)
  clear ho hb hP6 hB6
  refine hK.out _ _ ?_ (fun hHeld => ?_)
  · exact trivial
  clear hK K
  try simp only [Act.put]
  try simp only [List.setIfInBounds_toArray, List.set_cons_zero, List.set_cons_succ]
  refine takeW 33 (some 52) (oi := ?oT354) (v := ?vT354) ?hiT354 ?hdT354 (by kernel_rfl) (by kernel_rfl) (by kernel_rfl) (fun _ _ _ h => h) ?hwT354 ?hyT354 hHeld ?_
  case hiT354 => (simp only [List.getElem?_toArray, List.getElem?_cons_succ, List.getElem?_cons_zero]; with_reducible rfl)
  case hdT354 => rfl
  case hwT354 => rfl
  case hyT354 => (intro w hSw; (try dsimp only at hSw); go_simp; first | done | with_reducible rfl)
  try simp only [Act.put]
  try simp only [List.setIfInBounds_toArray, List.set_cons_zero, List.set_cons_succ]
  refine stepOne 35 (o := ?oT355) ?hiT355 (by kernel_rfl) ?hwT355 (fun K hK => ?_)
  case hiT355 => (simp only [List.getElem?_toArray, List.getElem?_cons_succ, List.getElem?_cons_zero]; with_reducible rfl)
  case hwT355 => rfl
  go_simp
  go_at_call 36
  refine (anum_is 0 _ _ (by decide) rfl).mono ?_
  rintro e wn8 ⟨v54, rfl, ho, hb⟩
  have hP8 : Pool wn8 wa.heap.size [(v54, (Cd.enc 0)), ((.slice A51 n51 c51), ([] ++ Fr.frm (Cd.enc 0 ++ Cd.enc 0))), (v49, (Cd.enc 0)), (v50, (Cd.enc 0 ++ Cd.enc 0)), ((.slice A44 n44 c44), (([] ++ Fr.frm Ar.fB) ++ Fr.frm Ar.fB)), ((.slice A42 n42 c42), ([] ++ Fr.frm Ar.fB)), ((.slice A39 n39 c39), ([] ++ Fr.frm (Ar.fB ++ [0]))), ((.slice A20 n20 c20), ([] ++ Fr.frm Ar.fB)), ((.slice A25 n25 c25), ([] ++ Fr.frm [])), ((.slice A32 n32 c32), ([] ++ Fr.frm (Ar.fB.take 14))), (v38, (Ar.fB ++ [0]))] := hP7.made hb ho
  have hB8 := hB7.trans (hb.mono hB7.size)
  clear ho hb hP7 hB7
  refine hK.out _ _ ?_ (fun hHeld => ?_)
  · exact trivial
  clear hK K
  try simp only [Act.put]
  try simp only [List.setIfInBounds_toArray, List.set_cons_zero, List.set_cons_succ]
  refine stepOne 37 (o := ?oT356) ?hiT356 (by kernel_rfl) ?hwT356 (fun K hK => ?_)
  case hiT356 => (simp only [List.getElem?_toArray, List.getElem?_cons_succ, List.getElem?_cons_zero]; with_reducible rfl)
  case hwT356 => rfl
  go_simp
  go_at_call 36
  refine (anum_is 257 _ _ (by decide) rfl).mono ?_
  rintro e wn9 ⟨v56, rfl, ho, hb⟩
  have hP9 : Pool wn9 wa.heap.size [(v56, (Cd.enc 257)), (v54, (Cd.enc 0)), ((.slice A51 n51 c51), ([] ++ Fr.frm (Cd.enc 0 ++ Cd.enc 0))), (v49, (Cd.enc 0)), (v50, (Cd.enc 0 ++ Cd.enc 0)), ((.slice A44 n44 c44), (([] ++ Fr.frm Ar.fB) ++ Fr.frm Ar.fB)), ((.slice A42 n42 c42), ([] ++ Fr.frm Ar.fB)), ((.slice A39 n39 c39), ([] ++ Fr.frm (Ar.fB ++ [0]))), ((.slice A20 n20 c20), ([] ++ Fr.frm Ar.fB)), ((.slice A25 n25 c25), ([] ++ Fr.frm [])), ((.slice A32 n32 c32), ([] ++ Fr.frm (Ar.fB.take 14))), (v38, (Ar.fB ++ [0]))] := hP8.made hb ho
  have hB9 := hB8.trans (hb.mono hB8.size)
  clear ho hb hP8 hB8
  refine hK.out _ _ ?_ (fun hHeld => ?_)
  · exact trivial
  clear hK K
  try simp only [Act.put]
  try simp only [List.setIfInBounds_toArray, List.set_cons_zero, List.set_cons_succ]
  refine stepOne 38 (o := ?oT357) ?hiT357 (by kernel_rfl) ?hwT357 (fun K hK => ?_)
  case hiT357 => (simp only [List.getElem?_toArray, List.getElem?_cons_succ, List.getElem?_cons_zero]; with_reducible rfl)
  case hwT357 => rfl
  refine wp_append_bytes (.tmp 54) (.tmp 56) rfl wa.heap.size _ _ _ _ rfl (hP9.get 1 rfl) rfl (hP9.get 0 rfl).bytes (by decide +kernel) hP9.1 (Cd.enc 0 ++ Cd.enc 257) rfl ?_
  rintro v57 wn10 hgr
  have hP10 : Pool wn10 wa.heap.size [(v56, (Cd.enc 257)), (v57, (Cd.enc 0 ++ Cd.enc 257)), ((.slice A51 n51 c51), ([] ++ Fr.frm (Cd.enc 0 ++ Cd.enc 0))), (v49, (Cd.enc 0)), (v50, (Cd.enc 0 ++ Cd.enc 0)), ((.slice A44 n44 c44), (([] ++ Fr.frm Ar.fB) ++ Fr.frm Ar.fB)), ((.slice A42 n42 c42), ([] ++ Fr.frm Ar.fB)), ((.slice A39 n39 c39), ([] ++ Fr.frm (Ar.fB ++ [0]))), ((.slice A20 n20 c20), ([] ++ Fr.frm Ar.fB)), ((.slice A25 n25 c25), ([] ++ Fr.frm [])), ((.slice A32 n32 c32), ([] ++ Fr.frm (Ar.fB.take 14))), (v38, (Ar.fB ++ [0]))] := hP9.app 1 rfl hgr
  have hB10 := hB9.trans hgr.2.2.2
  clear hgr hP9 hB9
  refine hK.out _ _ ?_ (fun hHeld => ?_)
  · exact trivial
  clear hK K
  try simp only [Act.put]
  try simp only [List.setIfInBounds_toArray, List.set_cons_zero, List.set_cons_succ]
  refine stepOne 39 (o := ?oT358) ?hiT358 (by kernel_rfl) ?hwT358 (fun K hK => ?_)
  case hiT358 => (simp only [List.getElem?_toArray, List.getElem?_cons_succ, List.getElem?_cons_zero]; with_reducible rfl)
  case hwT358 => rfl
  obtain ⟨v58, wn11, hrz, hgr⟩ := run_append_zeros (ty := 30) (k := 257) (hP10.get 1 rfl) (by decide) (by decide +kernel) hP10.1
  refine Lib.wp_append_run _ (.tmp 57) _ _ _ rfl _ _ rfl rfl _ _ hrz ?_
  have hP11 : Pool wn11 wa.heap.size [(v56, (Cd.enc 257)), (v58, Ar.z8), ((.slice A51 n51 c51), ([] ++ Fr.frm (Cd.enc 0 ++ Cd.enc 0))), (v49, (Cd.enc 0)), (v50, (Cd.enc 0 ++ Cd.enc 0)), ((.slice A44 n44 c44), (([] ++ Fr.frm Ar.fB) ++ Fr.frm Ar.fB)), ((.slice A42 n42 c42), ([] ++ Fr.frm Ar.fB)), ((.slice A39 n39 c39), ([] ++ Fr.frm (Ar.fB ++ [0]))), ((.slice A20 n20 c20), ([] ++ Fr.frm Ar.fB)), ((.slice A25 n25 c25), ([] ++ Fr.frm [])), ((.slice A32 n32 c32), ([] ++ Fr.frm (Ar.fB.take 14))), (v38, (Ar.fB ++ [0]))] := hP10.app 1 rfl hgr
  have hB11 := hB10.trans hgr.2.2.2
  clear hgr hrz hP10 hB10
  refine hK.out _ _ ?_ (fun hHeld => ?_)
  · exact trivial
  clear hK K
  try simp only [Act.put]
  try simp only [List.setIfInBounds_toArray, List.set_cons_zero, List.set_cons_succ]
  refine stepOne 40 (o := ?oT359) ?hiT359 (by kernel_rfl) ?hwT359 (fun K hK => ?_)
  case hiT359 => (simp only [List.getElem?_toArray, List.getElem?_cons_succ, List.getElem?_cons_zero]; with_reducible rfl)
  case hwT359 => rfl
  go_simp
  go_at_call 38
  refine (refput_is _ _ [] Ar.z8 _ _ (bytes_none _) (hP11.get 1 rfl).bytes (by decide +kernel) (by decide +kernel) rfl).mono ?_
  rintro e wn12 ⟨v59, rfl, ho, hb⟩
  obtain ⟨_, _, A59, c59, hv, _, _⟩ := ho.bytes.parts
  rw [HL59.out] at hv
  subst hv
  have hP12 : Pool wn12 wa.heap.size [((.slice A59 n59 c59), ([] ++ Fr.frm Ar.z8)), (v56, (Cd.enc 257)), (v58, Ar.z8), ((.slice A51 n51 c51), ([] ++ Fr.frm (Cd.enc 0 ++ Cd.enc 0))), (v49, (Cd.enc 0)), (v50, (Cd.enc 0 ++ Cd.enc 0)), ((.slice A44 n44 c44), (([] ++ Fr.frm Ar.fB) ++ Fr.frm Ar.fB)), ((.slice A42 n42 c42), ([] ++ Fr.frm Ar.fB)), ((.slice A39 n39 c39), ([] ++ Fr.frm (Ar.fB ++ [0]))), ((.slice A20 n20 c20), ([] ++ Fr.frm Ar.fB)), ((.slice A25 n25 c25), ([] ++ Fr.frm [])), ((.slice A32 n32 c32), ([] ++ Fr.frm (Ar.fB.take 14))), (v38, (Ar.fB ++ [0]))] := hP11.made hb ho
  have hB12 := hB11.trans (hb.mono hB11.size)
  clear ho hb hP11 hB11
  refine hK.out _ _ ?_ (fun hHeld => ?_)
  · exact trivial
  clear hK K
  try simp only [Act.put]
  try simp only [List.setIfInBounds_toArray, List.set_cons_zero, List.set_cons_succ]
  refine takeW 41 (some 60) (oi := ?oT360) (v := ?vT360) ?hiT360 ?hdT360 (by kernel_rfl) (by kernel_rfl) (by kernel_rfl) (fun _ _ _ h => h) ?hwT360 ?hyT360 hHeld ?_
  case hiT360 => (simp only [List.getElem?_toArray, List.getElem?_cons_succ, List.getElem?_cons_zero]; with_reducible rfl)
  case hdT360 => rfl
  case hwT360 => rfl
  case hyT360 => (intro w hSw; (try dsimp only at hSw); go_simp; first | done | with_reducible rfl)
  try simp only [Act.put]
  try simp only [List.setIfInBounds_toArray, List.set_cons_zero, List.set_cons_succ]
  refine stepOne 43 (o := ?oT361) ?hiT361 (by kernel_rfl) ?hwT361 (fun K hK => ?_)
  case hiT361 => (simp only [List.getElem?_toArray, List.getElem?_cons_succ, List.getElem?_cons_zero]; with_reducible rfl)
  case hwT361 => rfl
  go_simp
  go_at_call 36
  refine (anum_is 0 _ _ (by decide) rfl).mono ?_
  rintro e wn13 ⟨v62, rfl, ho, hb⟩
  have hP13 : Pool wn13 wa.heap.size [(v62, (Cd.enc 0)), ((.slice A59 n59 c59), ([] ++ Fr.frm Ar.z8)), (v56, (Cd.enc 257)), (v58, Ar.z8), ((.slice A51 n51 c51), ([] ++ Fr.frm (Cd.enc 0 ++ Cd.enc 0))), (v49, (Cd.enc 0)), (v50, (Cd.enc 0 ++ Cd.enc 0)), ((.slice A44 n44 c44), (([] ++ Fr.frm Ar.fB) ++ Fr.frm Ar.fB)), ((.slice A42 n42 c42), ([] ++ Fr.frm Ar.fB)), ((.slice A39 n39 c39), ([] ++ Fr.frm (Ar.fB ++ [0]))), ((.slice A20 n20 c20), ([] ++ Fr.frm Ar.fB)), ((.slice A25 n25 c25), ([] ++ Fr.frm [])), ((.slice A32 n32 c32), ([] ++ Fr.frm (Ar.fB.take 14))), (v38, (Ar.fB ++ [0]))] := hP12.made hb ho
  have hB13 := hB12.trans (hb.mono hB12.size)
  clear ho hb hP12 hB12
  refine hK.out _ _ ?_ (fun hHeld => ?_)
  · exact trivial
  clear hK K
  try simp only [Act.put]
  try simp only [List.setIfInBounds_toArray, List.set_cons_zero, List.set_cons_succ]
  refine stepOne 45 (o := ?oT362) ?hiT362 (by kernel_rfl) ?hwT362 (fun K hK => ?_)
  case hiT362 => (simp only [List.getElem?_toArray, List.getElem?_cons_succ, List.getElem?_cons_zero]; with_reducible rfl)
  case hwT362 => rfl
  go_simp
  go_at_call 36
  refine (anum_is 256 _ _ (by decide) rfl).mono ?_
  rintro e wn14 ⟨v64, rfl, ho, hb⟩
  have hP14 : Pool wn14 wa.heap.size [(v64, (Cd.enc 256)), (v62, (Cd.enc 0)), ((.slice A59 n59 c59), ([] ++ Fr.frm Ar.z8)), (v56, (Cd.enc 257)), (v58, Ar.z8), ((.slice A51 n51 c51), ([] ++ Fr.frm (Cd.enc 0 ++ Cd.enc 0))), (v49, (Cd.enc 0)), (v50, (Cd.enc 0 ++ Cd.enc 0)), ((.slice A44 n44 c44), (([] ++ Fr.frm Ar.fB) ++ Fr.frm Ar.fB)), ((.slice A42 n42 c42), ([] ++ Fr.frm Ar.fB)), ((.slice A39 n39 c39), ([] ++ Fr.frm (Ar.fB ++ [0]))), ((.slice A20 n20 c20), ([] ++ Fr.frm Ar.fB)), ((.slice A25 n25 c25), ([] ++ Fr.frm [])), ((.slice A32 n32 c32), ([] ++ Fr.frm (Ar.fB.take 14))), (v38, (Ar.fB ++ [0]))] := hP13.made hb ho
  have hB14 := hB13.trans (hb.mono hB13.size)
  clear ho hb hP13 hB13
  refine hK.out _ _ ?_ (fun hHeld => ?_)
  · exact trivial
  clear hK K
  try simp only [Act.put]
  try simp only [List.setIfInBounds_toArray, List.set_cons_zero, List.set_cons_succ]
  refine stepOne 46 (o := ?oT363) ?hiT363 (by kernel_rfl) ?hwT363 (fun K hK => ?_)
  case hiT363 => (simp only [List.getElem?_toArray, List.getElem?_cons_succ, List.getElem?_cons_zero]; with_reducible rfl)
  case hwT363 => rfl
  refine wp_append_bytes (.tmp 62) (.tmp 64) rfl wa.heap.size _ _ _ _ rfl (hP14.get 1 rfl) rfl (hP14.get 0 rfl).bytes (by decide +kernel) hP14.1 (Cd.enc 0 ++ Cd.enc 256) rfl ?_
  rintro v65 wn15 hgr
  have hP15 : Pool wn15 wa.heap.size [(v64, (Cd.enc 256)), (v65, (Cd.enc 0 ++ Cd.enc 256)), ((.slice A59 n59 c59), ([] ++ Fr.frm Ar.z8)), (v56, (Cd.enc 257)), (v58, Ar.z8), ((.slice A51 n51 c51), ([] ++ Fr.frm (Cd.enc 0 ++ Cd.enc 0))), (v49, (Cd.enc 0)), (v50, (Cd.enc 0 ++ Cd.enc 0)), ((.slice A44 n44 c44), (([] ++ Fr.frm Ar.fB) ++ Fr.frm Ar.fB)), ((.slice A42 n42 c42), ([] ++ Fr.frm Ar.fB)), ((.slice A39 n39 c39), ([] ++ Fr.frm (Ar.fB ++ [0]))), ((.slice A20 n20 c20), ([] ++ Fr.frm Ar.fB)), ((.slice A25 n25 c25), ([] ++ Fr.frm [])), ((.slice A32 n32 c32), ([] ++ Fr.frm (Ar.fB.take 14))), (v38, (Ar.fB ++ [0]))] := hP14.app 1 rfl hgr
  have hB15 := hB14.trans hgr.2.2.2
  clear hgr hP14 hB14
  refine hK.out _ _ ?_ (fun hHeld => ?_)
  · exact trivial
  clear hK K
  try simp only [Act.put]
  try simp only [List.setIfInBounds_toArray, List.set_cons_zero, List.set_cons_succ]
  refine stepOne 47 (o := ?oT364) ?hiT364 (by kernel_rfl) ?hwT364 (fun K hK => ?_)
  case hiT364 => (simp only [List.getElem?_toArray, List.getElem?_cons_succ, List.getElem?_cons_zero]; with_reducible rfl)
  case hwT364 => rfl
  obtain ⟨v66, wn16, hrz, hgr⟩ := run_append_zeros (ty := 30) (k := 256) (hP15.get 1 rfl) (by decide) (by decide +kernel) hP15.1
  refine Lib.wp_append_run _ (.tmp 65) _ _ _ rfl _ _ rfl rfl _ _ hrz ?_
  have hP16 : Pool wn16 wa.heap.size [(v64, (Cd.enc 256)), (v66, Ar.z9), ((.slice A59 n59 c59), ([] ++ Fr.frm Ar.z8)), (v56, (Cd.enc 257)), (v58, Ar.z8), ((.slice A51 n51 c51), ([] ++ Fr.frm (Cd.enc 0 ++ Cd.enc 0))), (v49, (Cd.enc 0)), (v50, (Cd.enc 0 ++ Cd.enc 0)), ((.slice A44 n44 c44), (([] ++ Fr.frm Ar.fB) ++ Fr.frm Ar.fB)), ((.slice A42 n42 c42), ([] ++ Fr.frm Ar.fB)), ((.slice A39 n39 c39), ([] ++ Fr.frm (Ar.fB ++ [0]))), ((.slice A20 n20 c20), ([] ++ Fr.frm Ar.fB)), ((.slice A25 n25 c25), ([] ++ Fr.frm [])), ((.slice A32 n32 c32), ([] ++ Fr.frm (Ar.fB.take 14))), (v38, (Ar.fB ++ [0]))] := hP15.app 1 rfl hgr
  have hB16 := hB15.trans hgr.2.2.2
  clear hgr hrz hP15 hB15
  refine hK.out _ _ ?_ (fun hHeld => ?_)
  · exact trivial
  clear hK K
  try simp only [Act.put]
  try simp only [List.setIfInBounds_toArray, List.set_cons_zero, List.set_cons_succ]
  refine stepOne 48 (o := ?oT365) ?hiT365 (by kernel_rfl) ?hwT365 (fun K hK => ?_)
  case hiT365 => (simp only [List.getElem?_toArray, List.getElem?_cons_succ, List.getElem?_cons_zero]; with_reducible rfl)
  case hwT365 => rfl
  go_simp
  go_at_call 38
  refine (refput_is _ _ [] Ar.z9 _ _ (bytes_none _) (hP16.get 1 rfl).bytes (by decide +kernel) (by decide +kernel) rfl).mono ?_
  rintro e wn17 ⟨v67, rfl, ho, hb⟩
  obtain ⟨_, _, A67, c67, hv, _, _⟩ := ho.bytes.parts
  rw [HL67.out] at hv
  subst hv
  have hP17 : Pool wn17 wa.heap.size [((.slice A67 n67 c67), ([] ++ Fr.frm Ar.z9)), (v64, (Cd.enc 256)), (v66, Ar.z9), ((.slice A59 n59 c59), ([] ++ Fr.frm Ar.z8)), (v56, (Cd.enc 257)), (v58, Ar.z8), ((.slice A51 n51 c51), ([] ++ Fr.frm (Cd.enc 0 ++ Cd.enc 0))), (v49, (Cd.enc 0)), (v50, (Cd.enc 0 ++ Cd.enc 0)), ((.slice A44 n44 c44), (([] ++ Fr.frm Ar.fB) ++ Fr.frm Ar.fB)), ((.slice A42 n42 c42), ([] ++ Fr.frm Ar.fB)), ((.slice A39 n39 c39), ([] ++ Fr.frm (Ar.fB ++ [0]))), ((.slice A20 n20 c20), ([] ++ Fr.frm Ar.fB)), ((.slice A25 n25 c25), ([] ++ Fr.frm [])), ((.slice A32 n32 c32), ([] ++ Fr.frm (Ar.fB.take 14))), (v38, (Ar.fB ++ [0]))] := hP16.made hb ho
  have hB17 := hB16.trans (hb.mono hB16.size)
  clear ho hb hP16 hB16
  refine hK.out _ _ ?_ (fun hHeld => ?_)
  · exact trivial
  clear hK K
  try simp only [Act.put]
  try simp only [List.setIfInBounds_toArray, List.set_cons_zero, List.set_cons_succ]
  refine takeW 49 (some 68) (oi := ?oT366) (v := ?vT366) ?hiT366 ?hdT366 (by kernel_rfl) (by kernel_rfl) (by kernel_rfl) (fun _ _ _ h => h) ?hwT366 ?hyT366 hHeld ?_
  case hiT366 => (simp only [List.getElem?_toArray, List.getElem?_cons_succ, List.getElem?_cons_zero]; with_reducible rfl)
  case hdT366 => rfl
  case hwT366 => rfl
  case hyT366 => (intro w hSw; (try dsimp only at hSw); go_simp; first | done | with_reducible rfl)
  try simp only [Act.put]
  try simp only [List.setIfInBounds_toArray, List.set_cons_zero, List.set_cons_succ]
  refine stepOne 51 (o := ?oT367) ?hiT367 (by kernel_rfl) ?hwT367 (fun K hK => ?_)
  case hiT367 => (simp only [List.getElem?_toArray, List.getElem?_cons_succ, List.getElem?_cons_zero]; with_reducible rfl)
  case hwT367 => rfl
  go_simp
  go_at_call 36
  refine (anum_is 4001 _ _ (by decide) rfl).mono ?_
  rintro e wn18 ⟨v70, rfl, ho, hb⟩
  have hP18 : Pool wn18 wa.heap.size [(v70, (Cd.enc 4001)), ((.slice A67 n67 c67), ([] ++ Fr.frm Ar.z9)), (v64, (Cd.enc 256)), (v66, Ar.z9), ((.slice A59 n59 c59), ([] ++ Fr.frm Ar.z8)), (v56, (Cd.enc 257)), (v58, Ar.z8), ((.slice A51 n51 c51), ([] ++ Fr.frm (Cd.enc 0 ++ Cd.enc 0))), (v49, (Cd.enc 0)), (v50, (Cd.enc 0 ++ Cd.enc 0)), ((.slice A44 n44 c44), (([] ++ Fr.frm Ar.fB) ++ Fr.frm Ar.fB)), ((.slice A42 n42 c42), ([] ++ Fr.frm Ar.fB)), ((.slice A39 n39 c39), ([] ++ Fr.frm (Ar.fB ++ [0]))), ((.slice A20 n20 c20), ([] ++ Fr.frm Ar.fB)), ((.slice A25 n25 c25), ([] ++ Fr.frm [])), ((.slice A32 n32 c32), ([] ++ Fr.frm (Ar.fB.take 14))), (v38, (Ar.fB ++ [0]))] := hP17.made hb ho
  have hB18 := hB17.trans (hb.mono hB17.size)
  clear ho hb hP17 hB17
  refine hK.out _ _ ?_ (fun hHeld => ?_)
  · exact trivial
  clear hK K
  try simp only [Act.put]
  try simp only [List.setIfInBounds_toArray, List.set_cons_zero, List.set_cons_succ]
  refine stepOne 52 (o := ?oT368) ?hiT368 (by kernel_rfl) ?hwT368 (fun K hK => ?_)
  case hiT368 => (simp only [List.getElem?_toArray, List.getElem?_cons_succ, List.getElem?_cons_zero]; with_reducible rfl)
  case hwT368 => rfl
  obtain ⟨v71, wn19, hrz, hgr⟩ := run_append_zeros (ty := 30) (k := 4001) (hP18.get 0 rfl) (by decide) (by decide +kernel) hP18.1
  refine Lib.wp_append_run _ (.tmp 70) _ _ _ rfl _ _ rfl rfl _ _ hrz ?_
  have hP19 : Pool wn19 wa.heap.size [(v71, (Cd.enc 4001 ++ List.replicate 4001 0)), ((.slice A67 n67 c67), ([] ++ Fr.frm Ar.z9)), (v64, (Cd.enc 256)), (v66, Ar.z9), ((.slice A59 n59 c59), ([] ++ Fr.frm Ar.z8)), (v56, (Cd.enc 257)), (v58, Ar.z8), ((.slice A51 n51 c51), ([] ++ Fr.frm (Cd.enc 0 ++ Cd.enc 0))), (v49, (Cd.enc 0)), (v50, (Cd.enc 0 ++ Cd.enc 0)), ((.slice A44 n44 c44), (([] ++ Fr.frm Ar.fB) ++ Fr.frm Ar.fB)), ((.slice A42 n42 c42), ([] ++ Fr.frm Ar.fB)), ((.slice A39 n39 c39), ([] ++ Fr.frm (Ar.fB ++ [0]))), ((.slice A20 n20 c20), ([] ++ Fr.frm Ar.fB)), ((.slice A25 n25 c25), ([] ++ Fr.frm [])), ((.slice A32 n32 c32), ([] ++ Fr.frm (Ar.fB.take 14))), (v38, (Ar.fB ++ [0]))] := hP18.app 0 rfl hgr
  have hB19 := hB18.trans hgr.2.2.2
  clear hgr hrz hP18 hB18
  refine hK.out _ _ ?_ (fun hHeld => ?_)
  · exact trivial
  clear hK K
  try simp only [Act.put]
  try simp only [List.setIfInBounds_toArray, List.set_cons_zero, List.set_cons_succ]
  refine stepOne 54 (o := ?oT369) ?hiT369 (by kernel_rfl) ?hwT369 (fun K hK => ?_)
  case hiT369 => (simp only [List.getElem?_toArray, List.getElem?_cons_succ, List.getElem?_cons_zero]; with_reducible rfl)
  case hwT369 => rfl
  go_simp
  go_at_call 36
  refine (anum_is 0 _ _ (by decide) rfl).mono ?_
  rintro e wn20 ⟨v73, rfl, ho, hb⟩
  have hP20 : Pool wn20 wa.heap.size [(v73, (Cd.enc 0)), (v71, (Cd.enc 4001 ++ List.replicate 4001 0)), ((.slice A67 n67 c67), ([] ++ Fr.frm Ar.z9)), (v64, (Cd.enc 256)), (v66, Ar.z9), ((.slice A59 n59 c59), ([] ++ Fr.frm Ar.z8)), (v56, (Cd.enc 257)), (v58, Ar.z8), ((.slice A51 n51 c51), ([] ++ Fr.frm (Cd.enc 0 ++ Cd.enc 0))), (v49, (Cd.enc 0)), (v50, (Cd.enc 0 ++ Cd.enc 0)), ((.slice A44 n44 c44), (([] ++ Fr.frm Ar.fB) ++ Fr.frm Ar.fB)), ((.slice A42 n42 c42), ([] ++ Fr.frm Ar.fB)), ((.slice A39 n39 c39), ([] ++ Fr.frm (Ar.fB ++ [0]))), ((.slice A20 n20 c20), ([] ++ Fr.frm Ar.fB)), ((.slice A25 n25 c25), ([] ++ Fr.frm [])), ((.slice A32 n32 c32), ([] ++ Fr.frm (Ar.fB.take 14))), (v38, (Ar.fB ++ [0]))] := hP19.made hb ho
  have hB20 := hB19.trans (hb.mono hB19.size)
  clear ho hb hP19 hB19
  refine hK.out _ _ ?_ (fun hHeld => ?_)
  · exact trivial
  clear hK K
  try simp only [Act.put]
  try simp only [List.setIfInBounds_toArray, List.set_cons_zero, List.set_cons_succ]
  refine stepOne 55 (o := ?oT370) ?hiT370 (by kernel_rfl) ?hwT370 (fun K hK => ?_)
  case hiT370 => (simp only [List.getElem?_toArray, List.getElem?_cons_succ, List.getElem?_cons_zero]; with_reducible rfl)
  case hwT370 => rfl
  refine wp_append_bytes (.tmp 71) (.tmp 73) rfl wa.heap.size _ _ _ _ rfl (hP20.get 1 rfl) rfl (hP20.get 0 rfl).bytes (by decide +kernel) hP20.1 Ar.z10 rfl ?_
  rintro v74 wn21 hgr
  have hP21 : Pool wn21 wa.heap.size [(v73, (Cd.enc 0)), (v74, Ar.z10), ((.slice A67 n67 c67), ([] ++ Fr.frm Ar.z9)), (v64, (Cd.enc 256)), (v66, Ar.z9), ((.slice A59 n59 c59), ([] ++ Fr.frm Ar.z8)), (v56, (Cd.enc 257)), (v58, Ar.z8), ((.slice A51 n51 c51), ([] ++ Fr.frm (Cd.enc 0 ++ Cd.enc 0))), (v49, (Cd.enc 0)), (v50, (Cd.enc 0 ++ Cd.enc 0)), ((.slice A44 n44 c44), (([] ++ Fr.frm Ar.fB) ++ Fr.frm Ar.fB)), ((.slice A42 n42 c42), ([] ++ Fr.frm Ar.fB)), ((.slice A39 n39 c39), ([] ++ Fr.frm (Ar.fB ++ [0]))), ((.slice A20 n20 c20), ([] ++ Fr.frm Ar.fB)), ((.slice A25 n25 c25), ([] ++ Fr.frm [])), ((.slice A32 n32 c32), ([] ++ Fr.frm (Ar.fB.take 14))), (v38, (Ar.fB ++ [0]))] := hP20.app 1 rfl hgr
  have hB21 := hB20.trans hgr.2.2.2
  clear hgr hP20 hB20
  refine hK.out _ _ ?_ (fun hHeld => ?_)
  · exact trivial
  clear hK K
  try simp only [Act.put]
  try simp only [List.setIfInBounds_toArray, List.set_cons_zero, List.set_cons_succ]
  refine stepOne 56 (o := ?oT371) ?hiT371 (by kernel_rfl) ?hwT371 (fun K hK => ?_)
  case hiT371 => (simp only [List.getElem?_toArray, List.getElem?_cons_succ, List.getElem?_cons_zero]; with_reducible rfl)
  case hwT371 => rfl
  go_simp
  go_at_call 38
  refine (refput_is _ _ [] Ar.z10 _ _ (bytes_none _) (hP21.get 1 rfl).bytes (by decide +kernel) (by decide +kernel) rfl).mono ?_
  rintro e wn22 ⟨v75, rfl, ho, hb⟩
  obtain ⟨_, _, A75, c75, hv, _, _⟩ := ho.bytes.parts
  rw [HL75.out] at hv
  subst hv
  have hP22 : Pool wn22 wa.heap.size [((.slice A75 n75 c75), ([] ++ Fr.frm Ar.z10)), (v73, (Cd.enc 0)), (v74, Ar.z10), ((.slice A67 n67 c67), ([] ++ Fr.frm Ar.z9)), (v64, (Cd.enc 256)), (v66, Ar.z9), ((.slice A59 n59 c59), ([] ++ Fr.frm Ar.z8)), (v56, (Cd.enc 257)), (v58, Ar.z8), ((.slice A51 n51 c51), ([] ++ Fr.frm (Cd.enc 0 ++ Cd.enc 0))), (v49, (Cd.enc 0)), (v50, (Cd.enc 0 ++ Cd.enc 0)), ((.slice A44 n44 c44), (([] ++ Fr.frm Ar.fB) ++ Fr.frm Ar.fB)), ((.slice A42 n42 c42), ([] ++ Fr.frm Ar.fB)), ((.slice A39 n39 c39), ([] ++ Fr.frm (Ar.fB ++ [0]))), ((.slice A20 n20 c20), ([] ++ Fr.frm Ar.fB)), ((.slice A25 n25 c25), ([] ++ Fr.frm [])), ((.slice A32 n32 c32), ([] ++ Fr.frm (Ar.fB.take 14))), (v38, (Ar.fB ++ [0]))] := hP21.made hb ho
  have hB22 := hB21.trans (hb.mono hB21.size)
  clear ho hb hP21 hB21
  refine hK.out _ _ ?_ (fun hHeld => ?_)
  · exact trivial
  clear hK K
  try simp only [Act.put]
  try simp only [List.setIfInBounds_toArray, List.set_cons_zero, List.set_cons_succ]
  refine takeW 57 (some 76) (oi := ?oT372) (v := ?vT372) ?hiT372 ?hdT372 (by kernel_rfl) (by kernel_rfl) (by kernel_rfl) (fun _ _ _ h => h) ?hwT372 ?hyT372 hHeld ?_
  case hiT372 => (simp only [List.getElem?_toArray, List.getElem?_cons_succ, List.getElem?_cons_zero]; with_reducible rfl)
  case hdT372 => rfl
  case hwT372 => rfl
  case hyT372 => (intro w hSw; (try dsimp only at hSw); go_simp; first | done | with_reducible rfl)
  try simp only [Act.put]
  try simp only [List.setIfInBounds_toArray, List.set_cons_zero, List.set_cons_succ]
  refine stepOne 59 (o := ?oT373) ?hiT373 (by kernel_rfl) ?hwT373 (fun K hK => ?_)
  case hiT373 => (simp only [List.getElem?_toArray, List.getElem?_cons_succ, List.getElem?_cons_zero]; with_reducible rfl)
  case hwT373 => rfl
  go_simp
  go_at_call 36
  refine (anum_is 4000 _ _ (by decide) rfl).mono ?_
  rintro e wn23 ⟨v78, rfl, ho, hb⟩
  have hP23 : Pool wn23 wa.heap.size [(v78, (Cd.enc 4000)), ((.slice A75 n75 c75), ([] ++ Fr.frm Ar.z10)), (v73, (Cd.enc 0)), (v74, Ar.z10), ((.slice A67 n67 c67), ([] ++ Fr.frm Ar.z9)), (v64, (Cd.enc 256)), (v66, Ar.z9), ((.slice A59 n59 c59), ([] ++ Fr.frm Ar.z8)), (v56, (Cd.enc 257)), (v58, Ar.z8), ((.slice A51 n51 c51), ([] ++ Fr.frm (Cd.enc 0 ++ Cd.enc 0))), (v49, (Cd.enc 0)), (v50, (Cd.enc 0 ++ Cd.enc 0)), ((.slice A44 n44 c44), (([] ++ Fr.frm Ar.fB) ++ Fr.frm Ar.fB)), ((.slice A42 n42 c42), ([] ++ Fr.frm Ar.fB)), ((.slice A39 n39 c39), ([] ++ Fr.frm (Ar.fB ++ [0]))), ((.slice A20 n20 c20), ([] ++ Fr.frm Ar.fB)), ((.slice A25 n25 c25), ([] ++ Fr.frm [])), ((.slice A32 n32 c32), ([] ++ Fr.frm (Ar.fB.take 14))), (v38, (Ar.fB ++ [0]))] := hP22.made hb ho
  have hB23 := hB22.trans (hb.mono hB22.size)
  clear ho hb hP22 hB22
  refine hK.out _ _ ?_ (fun hHeld => ?_)
  · exact trivial
  clear hK K
  try simp only [Act.put]
  try simp only [List.setIfInBounds_toArray, List.set_cons_zero, List.set_cons_succ]
  refine stepOne 60 (o := ?oT374) ?hiT374 (by kernel_rfl) ?hwT374 (fun K hK => ?_)
  case hiT374 => (simp only [List.getElem?_toArray, List.getElem?_cons_succ, List.getElem?_cons_zero]; with_reducible rfl)
  case hwT374 => rfl
  obtain ⟨v79, wn24, hrz, hgr⟩ := run_append_zeros (ty := 30) (k := 4000) (hP23.get 0 rfl) (by decide) (by decide +kernel) hP23.1
  refine Lib.wp_append_run _ (.tmp 78) _ _ _ rfl _ _ rfl rfl _ _ hrz ?_
  have hP24 : Pool wn24 wa.heap.size [(v79, (Cd.enc 4000 ++ List.replicate 4000 0)), ((.slice A75 n75 c75), ([] ++ Fr.frm Ar.z10)), (v73, (Cd.enc 0)), (v74, Ar.z10), ((.slice A67 n67 c67), ([] ++ Fr.frm Ar.z9)), (v64, (Cd.enc 256)), (v66, Ar.z9), ((.slice A59 n59 c59), ([] ++ Fr.frm Ar.z8)), (v56, (Cd.enc 257)), (v58, Ar.z8), ((.slice A51 n51 c51), ([] ++ Fr.frm (Cd.enc 0 ++ Cd.enc 0))), (v49, (Cd.enc 0)), (v50, (Cd.enc 0 ++ Cd.enc 0)), ((.slice A44 n44 c44), (([] ++ Fr.frm Ar.fB) ++ Fr.frm Ar.fB)), ((.slice A42 n42 c42), ([] ++ Fr.frm Ar.fB)), ((.slice A39 n39 c39), ([] ++ Fr.frm (Ar.fB ++ [0]))), ((.slice A20 n20 c20), ([] ++ Fr.frm Ar.fB)), ((.slice A25 n25 c25), ([] ++ Fr.frm [])), ((.slice A32 n32 c32), ([] ++ Fr.frm (Ar.fB.take 14))), (v38, (Ar.fB ++ [0]))] := hP23.app 0 rfl hgr
  have hB24 := hB23.trans hgr.2.2.2
  clear hgr hrz hP23 hB23
  refine hK.out _ _ ?_ (fun hHeld => ?_)
  · exact trivial
  clear hK K
  try simp only [Act.put]
  try simp only [List.setIfInBounds_toArray, List.set_cons_zero, List.set_cons_succ]
  refine stepOne 62 (o := ?oT375) ?hiT375 (by kernel_rfl) ?hwT375 (fun K hK => ?_)
  case hiT375 => (simp only [List.getElem?_toArray, List.getElem?_cons_succ, List.getElem?_cons_zero]; with_reducible rfl)
  case hwT375 => rfl
  go_simp
  go_at_call 36
  refine (anum_is 0 _ _ (by decide) rfl).mono ?_
  rintro e wn25 ⟨v81, rfl, ho, hb⟩
  have hP25 : Pool wn25 wa.heap.size [(v81, (Cd.enc 0)), (v79, (Cd.enc 4000 ++ List.replicate 4000 0)), ((.slice A75 n75 c75), ([] ++ Fr.frm Ar.z10)), (v73, (Cd.enc 0)), (v74, Ar.z10), ((.slice A67 n67 c67), ([] ++ Fr.frm Ar.z9)), (v64, (Cd.enc 256)), (v66, Ar.z9), ((.slice A59 n59 c59), ([] ++ Fr.frm Ar.z8)), (v56, (Cd.enc 257)), (v58, Ar.z8), ((.slice A51 n51 c51), ([] ++ Fr.frm (Cd.enc 0 ++ Cd.enc 0))), (v49, (Cd.enc 0)), (v50, (Cd.enc 0 ++ Cd.enc 0)), ((.slice A44 n44 c44), (([] ++ Fr.frm Ar.fB) ++ Fr.frm Ar.fB)), ((.slice A42 n42 c42), ([] ++ Fr.frm Ar.fB)), ((.slice A39 n39 c39), ([] ++ Fr.frm (Ar.fB ++ [0]))), ((.slice A20 n20 c20), ([] ++ Fr.frm Ar.fB)), ((.slice A25 n25 c25), ([] ++ Fr.frm [])), ((.slice A32 n32 c32), ([] ++ Fr.frm (Ar.fB.take 14))), (v38, (Ar.fB ++ [0]))] := hP24.made hb ho
  have hB25 := hB24.trans (hb.mono hB24.size)
  clear ho hb hP24 hB24
  refine hK.out _ _ ?_ (fun hHeld => ?_)
  · exact trivial
  clear hK K
  try simp only [Act.put]
  try simp only [List.setIfInBounds_toArray, List.set_cons_zero, List.set_cons_succ]
  refine stepOne 63 (o := ?oT376) ?hiT376 (by kernel_rfl) ?hwT376 (fun K hK => ?_)
  case hiT376 => (simp only [List.getElem?_toArray, List.getElem?_cons_succ, List.getElem?_cons_zero]; with_reducible rfl)
  case hwT376 => rfl
  refine wp_append_bytes (.tmp 79) (.tmp 81) rfl wa.heap.size _ _ _ _ rfl (hP25.get 1 rfl) rfl (hP25.get 0 rfl).bytes (by decide +kernel) hP25.1 Ar.z11 rfl ?_
  rintro v82 wn26 hgr
  have hP26 : Pool wn26 wa.heap.size [(v81, (Cd.enc 0)), (v82, Ar.z11), ((.slice A75 n75 c75), ([] ++ Fr.frm Ar.z10)), (v73, (Cd.enc 0)), (v74, Ar.z10), ((.slice A67 n67 c67), ([] ++ Fr.frm Ar.z9)), (v64, (Cd.enc 256)), (v66, Ar.z9), ((.slice A59 n59 c59), ([] ++ Fr.frm Ar.z8)), (v56, (Cd.enc 257)), (v58, Ar.z8), ((.slice A51 n51 c51), ([] ++ Fr.frm (Cd.enc 0 ++ Cd.enc 0))), (v49, (Cd.enc 0)), (v50, (Cd.enc 0 ++ Cd.enc 0)), ((.slice A44 n44 c44), (([] ++ Fr.frm Ar.fB) ++ Fr.frm Ar.fB)), ((.slice A42 n42 c42), ([] ++ Fr.frm Ar.fB)), ((.slice A39 n39 c39), ([] ++ Fr.frm (Ar.fB ++ [0]))), ((.slice A20 n20 c20), ([] ++ Fr.frm Ar.fB)), ((.slice A25 n25 c25), ([] ++ Fr.frm [])), ((.slice A32 n32 c32), ([] ++ Fr.frm (Ar.fB.take 14))), (v38, (Ar.fB ++ [0]))] := hP25.app 1 rfl hgr
  have hB26 := hB25.trans hgr.2.2.2
  clear hgr hP25 hB25
  refine hK.out _ _ ?_ (fun hHeld => ?_)
  · exact trivial
  clear hK K
  try simp only [Act.put]
  try simp only [List.setIfInBounds_toArray, List.set_cons_zero, List.set_cons_succ]
  refine stepOne 64 (o := ?oT377) ?hiT377 (by kernel_rfl) ?hwT377 (fun K hK => ?_)
  case hiT377 => (simp only [List.getElem?_toArray, List.getElem?_cons_succ, List.getElem?_cons_zero]; with_reducible rfl)
  case hwT377 => rfl
  go_simp
  go_at_call 38
  refine (refput_is _ _ [] Ar.z11 _ _ (bytes_none _) (hP26.get 1 rfl).bytes (by decide +kernel) (by decide +kernel) rfl).mono ?_
  rintro e wn27 ⟨v83, rfl, ho, hb⟩
  obtain ⟨_, _, A83, c83, hv, _, _⟩ := ho.bytes.parts
  rw [HL83.out] at hv
  subst hv
  have hP27 : Pool wn27 wa.heap.size [((.slice A83 n83 c83), ([] ++ Fr.frm Ar.z11)), (v81, (Cd.enc 0)), (v82, Ar.z11), ((.slice A75 n75 c75), ([] ++ Fr.frm Ar.z10)), (v73, (Cd.enc 0)), (v74, Ar.z10), ((.slice A67 n67 c67), ([] ++ Fr.frm Ar.z9)), (v64, (Cd.enc 256)), (v66, Ar.z9), ((.slice A59 n59 c59), ([] ++ Fr.frm Ar.z8)), (v56, (Cd.enc 257)), (v58, Ar.z8), ((.slice A51 n51 c51), ([] ++ Fr.frm (Cd.enc 0 ++ Cd.enc 0))), (v49, (Cd.enc 0)), (v50, (Cd.enc 0 ++ Cd.enc 0)), ((.slice A44 n44 c44), (([] ++ Fr.frm Ar.fB) ++ Fr.frm Ar.fB)), ((.slice A42 n42 c42), ([] ++ Fr.frm Ar.fB)), ((.slice A39 n39 c39), ([] ++ Fr.frm (Ar.fB ++ [0]))), ((.slice A20 n20 c20), ([] ++ Fr.frm Ar.fB)), ((.slice A25 n25 c25), ([] ++ Fr.frm [])), ((.slice A32 n32 c32), ([] ++ Fr.frm (Ar.fB.take 14))), (v38, (Ar.fB ++ [0]))] := hP26.made hb ho
  have hB27 := hB26.trans (hb.mono hB26.size)
  clear ho hb hP26 hB26
  refine hK.out _ _ ?_ (fun hHeld => ?_)
  · exact trivial
  clear hK K
  try simp only [Act.put]
  try simp only [List.setIfInBounds_toArray, List.set_cons_zero, List.set_cons_succ]
  refine takeW 65 (some 84) (oi := ?oT378) (v := ?vT378) ?hiT378 ?hdT378 (by kernel_rfl) (by kernel_rfl) (by kernel_rfl) (fun _ _ _ h => h) ?hwT378 ?hyT378 hHeld ?_
  case hiT378 => (simp only [List.getElem?_toArray, List.getElem?_cons_succ, List.getElem?_cons_zero]; with_reducible rfl)
  case hdT378 => rfl
  case hwT378 => rfl
  case hyT378 => (intro w hSw; (try dsimp only at hSw); go_simp; first | done | with_reducible rfl)
  try simp only [Act.put]
  try simp only [List.setIfInBounds_toArray, List.set_cons_zero, List.set_cons_succ]
  refine stepOne 66 (o := ?oT379) ?hiT379 (by kernel_rfl) ?hwT379 (fun K hK => ?_)
  case hiT379 => (simp only [List.getElem?_toArray, List.getElem?_cons_succ, List.getElem?_cons_zero]; with_reducible rfl)
  case hwT379 => rfl
  go_simp
  refine hK.out _ _ ?_ (fun hHeld => ?_)
  · exact trivial
  clear hK K
  try simp only [Act.put]
  try simp only [List.setIfInBounds_toArray, List.set_cons_zero, List.set_cons_succ]
  refine takeW 67 (some 5) (oi := ?oT380) (v := ?vT380) ?hiT380 ?hdT380 (by kernel_rfl) (by kernel_rfl) (by kernel_rfl) (fun _ _ _ h => h) ?hwT380 ?hyT380 hHeld ?_
  case hiT380 => (simp only [List.getElem?_toArray, List.getElem?_cons_succ, List.getElem?_cons_zero]; with_reducible rfl)
  case hdT380 => rfl
  case hwT380 => rfl
  case hyT380 => (intro w hSw; (try dsimp only at hSw); go_simp; first | done | with_reducible rfl)
  try simp only [Act.put]
  try simp only [List.setIfInBounds_toArray, List.set_cons_zero, List.set_cons_succ]
  refine wpAnyH_done (by kernel_rfl) ?_ _
  refine NoPanic.normal ?_
  have hblk : Blk (wn27.alloc (.cells #[.slice A20 n20 c20, .bool true, .slice AB 15 cAB, .bool false, .slice none 0 0, .bool false, .slice A25 n25 c25, .bool false, .slice A32 n32 c32, .bool false, .slice A39 n39 c39, .bool false, .slice A44 n44 c44, .bool false, .slice A51 n51 c51, .bool true, .slice A59 n59 c59, .bool false, .slice A67 n67 c67, .bool true, .slice A75 n75 c75, .bool false, .slice A83 n83 c83, .bool true] 53)) wn27.heap.size 53 #[.slice A20 n20 c20, .bool true, .slice AB 15 cAB, .bool false, .slice none 0 0, .bool false, .slice A25 n25 c25, .bool false, .slice A32 n32 c32, .bool false, .slice A39 n39 c39, .bool false, .slice A44 n44 c44, .bool false, .slice A51 n51 c51, .bool true, .slice A59 n59 c59, .bool false, .slice A67 n67 c67, .bool true, .slice A75 n75 c75, .bool false, .slice A83 n83 c83, .bool true] := heap_alloc_new wn27 _
  refine hQ _ _ _ rfl (by kernel_rfl) rfl rfl rfl rfl rfl rfl rfl rfl rfl rfl (fun k hk => ?_) (hB27.alloc hB27.size _)
  have hk12 : k = 0 ∨ k = 1 ∨ k = 2 ∨ k = 3 ∨ k = 4 ∨ k = 5 ∨ k = 6 ∨ k = 7 ∨ k = 8 ∨ k = 9 ∨ k = 10 ∨ k = 11 := by omega
  rcases hk12 with rfl | rfl | rfl | rfl | rfl | rfl | rfl | rfl | rfl | rfl | rfl | rfl
  · exact ⟨_, _, _, hblk.at 0, hblk.at 1, ((hP27.get 18 rfl).bytes.alloc _), Ar.f0⟩
  · exact ⟨_, _, _, hblk.at 2, hblk.at 3, ((HBY.out _ hB27).alloc _), Ar.f1⟩
  · exact ⟨_, _, _, hblk.at 4, hblk.at 5, (bytes_none _), Ar.f2⟩
  · exact ⟨_, _, _, hblk.at 6, hblk.at 7, ((hP27.get 19 rfl).bytes.alloc _), Ar.f3⟩
  · exact ⟨_, _, _, hblk.at 8, hblk.at 9, ((hP27.get 20 rfl).bytes.alloc _), Ar.f4⟩
  · exact ⟨_, _, _, hblk.at 10, hblk.at 11, ((hP27.get 17 rfl).bytes.alloc _), Ar.f5⟩
  · exact ⟨_, _, _, hblk.at 12, hblk.at 13, ((hP27.get 15 rfl).bytes.alloc _), Ar.f6⟩
  · exact ⟨_, _, _, hblk.at 14, hblk.at 15, ((hP27.get 12 rfl).bytes.alloc _), Ar.f7⟩
  · exact ⟨_, _, _, hblk.at 16, hblk.at 17, ((hP27.get 9 rfl).bytes.alloc _), Ar.f8⟩
  · exact ⟨_, _, _, hblk.at 18, hblk.at 19, ((hP27.get 6 rfl).bytes.alloc _), Ar.f9⟩
  · exact ⟨_, _, _, hblk.at 20, hblk.at 21, ((hP27.get 3 rfl).bytes.alloc _), Ar.f10⟩
  · exact ⟨_, _, _, hblk.at 22, hblk.at 23, ((hP27.get 0 rfl).bytes.alloc _), Ar.f11⟩
end Go.Proofs.Ytkfmjkoghfcciaa
