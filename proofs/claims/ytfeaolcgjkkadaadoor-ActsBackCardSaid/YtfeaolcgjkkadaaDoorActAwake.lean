/- What layer 6's statements ask beside: the known answers of package acts. -/
import Derived.Test.YtfeaolcgjkkadaaDoorActParsed
import Derived.Test.YtfeaolcgjkkadaaDoorActRun
import Derived.Test.YtfeaolcgjkkadaaDoorActWrite
namespace Go.Proofs.YtfeaolcgjkkadaaDoor
set_option maxRecDepth 100000
open Go.ChangeShapes Go.WideShapes Go.ChangeAt Go.RowKit

/-- Words, newly laid. -/
theorem rdW_lit (w : World) (R : List Ln.W) (C : Array Value) (n : Nat) (hn : R.length = n) (hC : C.toList = rowW R) (hm : R.length ≤ 1000000) : RdW (w.alloc (.cells C 30)) (.slice (some ⟨w.heap.size, 0, none⟩) n n) R := by
  subst hn
  have hl := rowW_len R
  have hs : C.size = R.length * 4 := by rw [← hl, ← hC]; simp
  refine OwnW.rd (base := 0) ⟨hl, .inr ⟨w.heap.size, R.length, C, rfl, Nat.zero_le _, heap_alloc_new w _, Nat.le_refl _, by unfold maxLen; omega, hs, by rw [hC, List.take_of_length_le (Nat.le_of_eq hl)]⟩⟩
/-- Two rows of bytes, newly laid. -/
theorem rows2_two {w : World} {g : Nat} {t : TypeId} {u1 u2 : Value} {l1 l2 : List Nat} (hg : w.heap[g]? = some (.cells #[u1, u2] t (0, 0))) (h1 : Bytes w u1 l1) (h2 : Bytes w u2 l2) : Rows2 w (.slice (some ⟨g, 0, none⟩) 2 2) [l1, l2] := by
  refine ⟨by simp, _, 2, rfl, Nat.le_refl _, fun _ => ⟨g, 0, rfl, fun i hi => ?_⟩⟩
  have hc : ∀ j, w.cell? ⟨g, j, none⟩ = (#[u1, u2] : Array Value)[j]? := fun j => cell_of_row w g j _ t (0, 0) hg
  have : i = 0 ∨ i = 1 := by simp at hi; omega
  rcases this with rfl | rfl
  · exact ⟨u1, hc 0, h1⟩
  · exact ⟨u2, hc 1, h2⟩
theorem two_ins (w : World) (l1 l2 : List Nat) (m1 m2 : Nat × Nat) (t : TypeId) (h1 : ∀ c ∈ l1, c < 256) (h2 : ∀ c ∈ l2, c < 256) (k1 : l1.length ≤ 1000000) (k2 : l2.length ≤ 1000000) (W : World)
    (hW : W = ((w.alloc (.cells (l1.map fun n : Nat => Value.int .u8 (n : Int)).toArray 5 m1)).alloc (.cells (l2.map fun n : Nat => Value.int .u8 (n : Int)).toArray 5 m2)).alloc (.cells #[.slice (some ⟨w.heap.size, 0, none⟩) l1.length l1.length, .slice (some ⟨w.heap.size + 1, 0, none⟩) l2.length l2.length] t)) :
    Rows2 W (.slice (some ⟨w.heap.size + 1 + 1, 0, none⟩) 2 2) [l1, l2] ∧ Below w.heap.size w W := by
  have e1 := bytes_new w _ rfl l1 5 m1 h1 (by omega)
  have e2 := bytes_new (w.alloc (.cells (l1.map fun n : Nat => Value.int .u8 (n : Int)).toArray 5 m1)) _ rfl l2 5 m2 h2 (by omega)
  rw [show (w.alloc (.cells (l1.map fun n : Nat => Value.int .u8 (n : Int)).toArray 5 m1)).heap.size = w.heap.size + 1 from by simp] at e2
  subst hW
  refine ⟨rows2_two (t := t) ?_ ((e1.alloc _).alloc _) (e2.alloc _), (((Below.refl _ _).alloc (Nat.le_refl _) _).alloc (by simp) _).alloc (by simp; omega) _⟩
  have := heap_alloc_new ((w.alloc (.cells (l1.map fun n : Nat => Value.int .u8 (n : Int)).toArray 5 m1)).alloc (.cells (l2.map fun n : Nat => Value.int .u8 (n : Int)).toArray 5 m2)) (.cells #[.slice (some ⟨w.heap.size, 0, none⟩) l1.length l1.length, .slice (some ⟨w.heap.size + 1, 0, none⟩) l2.length l2.length] t)
  simpa using this
def awL : List Ac.D := [⟨3, 0, []⟩, ⟨4, 0, []⟩, ⟨10, 0, [45]⟩]
theorem aw_run : Ac.run awL [[97, 98], [99]] = some [65, 45, 66, 45, 67] := by decide +kernel
def awR : List Ln.W := [⟨[105, 110], 0, 0, false⟩, ⟨[49], 0, 0, false⟩, ⟨[59], 0, 0, false⟩, ⟨[114, 101, 118], 0, 0, false⟩]
theorem aw_parse : Ac.parse awR = some [⟨2, 1, []⟩, ⟨6, 0, []⟩] := by decide +kernel
def awU : List Ln.W := [⟨[117, 112, 112, 101, 114], 0, 0, false⟩]
theorem aw_not : Ac.parse awU = none := by decide +kernel
theorem aw_none : Ac.run [⟨2, 2, []⟩] [] = none := by decide +kernel
set_option maxRecDepth 100000 in
set_option maxHeartbeats 8000000 in
theorem awake_any (w : World) (hTab : Tabs w) : Calls Tryd.prog 14 #[] w fun e w' => e = .returned (.bool true) ∧ Below w.heap.size w w' := by
  have HTab := Lib.hid hTab
  have kc := fun (w : World) (C : Array Value) (n c : Nat) => Lib.run_convert_bytes_const (P := Tryd.prog) w 39 5 C n c Tryd.underlying39 Tryd.underlying5
  have kc2 := fun (w : World) (O : Obj) (C : Array Value) (n c : Nat) => convert_second (P := Tryd.prog) w O 39 5 C n c Tryd.underlying39 Tryd.underlying5
  clear hTab
  go_enter Tryd.func14, Tryd.ntmps14
  go_upto_region 2 with fail
  obtain ⟨w1, hw1⟩ : ∃ w1, w1 = w.alloc (.cells #[.int .i64 3, .int .i64 0, .string ⟨#[]⟩, .int .i64 4, .int .i64 0, .string ⟨#[]⟩, .int .i64 10, .int .i64 0, .string ⟨#[45]⟩] 28) := ⟨_, rfl⟩
  have HO1 : Hid (OwnD w1 w.heap.size (.slice (some ⟨w.heap.size, 0, none⟩) 3 3) awL) := Lib.hid (by rw [hw1]; exact ownD_lit w w.heap.size awL _ 3 rfl rfl (Nat.le_refl _) (by decide))
  have HB1 : Hid (Below w.heap.size w w1) := Lib.hid (by rw [hw1]; exact (Below.refl _ _).alloc (Nat.le_refl _) _)
  have HLT : Hid (∀ d ∈ awL, d.kind ≤ 1000000 ∧ (∀ c ∈ d.text, c < 256) ∧ d.text.length ≤ 1099511627776) := Lib.hid (by decide)
  rw [← hw1]
  clear hw1
  go_wp2_with fail
  obtain ⟨hr1, hbx1⟩ := two_ins w1 [97, 98] [99] (2, 3) (1, 2) 39 (by decide) (by decide) (by decide) (by decide) _ rfl
  refine (run_any _ _ awL [[97, 98], [99]] _ ((HO1.out.rd).under hbx1) hr1 (by decide) (by decide) HLT.out _ aw_run.symm).mono ?_
  rintro e w2 ⟨⟨v2, rfl, hm2⟩, hb2⟩
  have hx : Below w1.heap.size w1 w2 := hbx1.trans (hb2.mono hbx1.size)
  have HB2 := Lib.hid (HB1.out.trans (hx.mono HB1.out.size))
  have HO2 := Lib.hid (HO1.out.under hx)
  have HM2 := Lib.hid hm2
  clear hbx1 hr1 hb2 hm2 HO1 HB1 hx kc kc2
  go_wp2_with fail
  refine (parse_any _ awR _ (rdW_lit w2 awR _ 4 rfl rfl (by decide)) (by decide) (by decide) (HTab.out.under (HB2.out.alloc HB2.out.size _)) _ aw_parse.symm).mono ?_
  rintro e w3 ⟨⟨v3, rfl, ho3⟩, hb3⟩
  have hx : Below w2.heap.size w2 w3 := ((Below.refl _ _).alloc (Nat.le_refl _) _).trans (hb3.mono (by simp))
  have HB3 := Lib.hid (HB2.out.trans (hx.mono HB2.out.size))
  have HO3 := Lib.hid (HO2.out.under hx)
  have HM3 := Lib.hid (HM2.out.under hx)
  have HP3 := Lib.hid ho3.rd
  clear hb3 ho3 HO2 HB2 HM2 hx
  go_wp2_with fail
  refine (parse_any _ awU _ (rdW_lit w3 awU _ 1 rfl rfl (by decide)) (by decide) (by decide) (HTab.out.under (HB3.out.alloc HB3.out.size _)) _ aw_not.symm).mono ?_
  rintro e w4 ⟨rfl, hb4⟩
  have hx : Below w3.heap.size w3 w4 := ((Below.refl _ _).alloc (Nat.le_refl _) _).trans (hb4.mono (by simp))
  have HB4 := Lib.hid (HB3.out.trans (hx.mono HB3.out.size))
  have HO4 := Lib.hid (HO3.out.under hx)
  have HM4 := Lib.hid (HM3.out.under hx)
  have HP4 := Lib.hid (HP3.out.under hx)
  clear hb4 HO3 HB3 HM3 HP3 hx
  go_wp2_with fail
  refine (run_any _ _ [⟨2, 2, []⟩] [] _ (ownD_lit w4 0 [⟨2, 2, []⟩] _ 1 rfl rfl (Nat.zero_le _) (by decide)).rd (rows2_none _) (by decide) (by decide) (by decide) _ aw_none.symm).mono ?_
  rintro e w5 ⟨rfl, hb5⟩
  have hx : Below w4.heap.size w4 w5 := ((Below.refl _ _).alloc (Nat.le_refl _) _).trans (hb5.mono (by simp))
  have HB5 := Lib.hid (HB4.out.trans (hx.mono HB4.out.size))
  have HO5 := Lib.hid (HO4.out.under hx)
  have HM5 := Lib.hid (HM4.out.under hx)
  have HP5 := Lib.hid (HP4.out.under hx)
  clear hb5 HO4 HB4 HM4 HP4 hx
  obtain ⟨A3, c3, rfl, hc3⟩ := HP5.out.parts
  obtain ⟨b, off, rfl, p0, p1, p2⟩ := HP5.out.at 0 (by decide)
  change w5.cell? ⟨b, off + 0 * 3, none⟩ = some (.int .i64 2) at p0
  change w5.cell? ⟨b, off + 0 * 3 + 1, none⟩ = some (.int .i64 1) at p1
  change w5.cell? ⟨b, off + 0 * 3 + 2, none⟩ = some (.string ⟨#[]⟩) at p2
  rw [Nat.zero_mul, Nat.add_zero] at p0 p1 p2
  change 2 ≤ c3 at hc3
  have rt := run_text HM5.out.bytes
  have s1 : str [65, 45, 66, 45, 67] = ⟨#[65, 45, 66, 45, 67]⟩ := rfl
  rw [s1] at rt
  have hsum : ([⟨2, 1, []⟩, ⟨6, 0, []⟩] : List Ac.D).length = 2 := rfl
  rw [hsum]
  clear hsum s1
  go_wp2_with fail
  refine (okact_any _ (awL.map Ac.D.e) _ HO5.out.rd.e (by decide)).mono ?_
  rintro e w6 ⟨rfl, hb6⟩
  rw [show Ac.okL (awL.map Ac.D.e) = true from by decide +kernel]
  have HB6 := Lib.hid (HB5.out.trans (hb6.mono HB5.out.size))
  clear hb6 rt p0 p1 p2
  go_wp2_with fail
  refine (okact_any _ [] _ (rdD_none w6).e (by simp)).mono ?_
  rintro e w7 ⟨rfl, hb7⟩
  rw [show Ac.okL [] = false from rfl]
  have HB7 := Lib.hid (HB6.out.trans (hb7.mono HB6.out.size))
  clear hb7
  go_wp2_with fail
  refine (write_any _ [] _ (rdD_none w7) (by simp) (by simp)).mono ?_
  rintro e w8 ⟨v8, rfl, ho8, hb8⟩
  have HB8 := Lib.hid (HB7.out.trans (hb8.mono HB7.out.size))
  obtain ⟨_, _, A8, c8, rfl, _, _⟩ := ho8.bytes.parts
  rw [show (Ac.bytes []).length = 6 from by decide +kernel]
  clear hb8 ho8
  go_wp2
  go_ret
  exact ⟨rfl, HB8.out⟩
end Go.Proofs.YtfeaolcgjkkadaaDoor
