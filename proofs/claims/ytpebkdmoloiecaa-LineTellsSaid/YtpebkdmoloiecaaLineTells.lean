/- LineTells: any bytes are the words that the document says, with their places, or wrong at the place that it says. -/
import Derived.Test.YtpebkdmoloiecaaLineAwake
import Derived.Test.YtpebkdmoloiecaaLineText
namespace Go.Proofs.Ytpebkdmoloiecaa
open Go.ChangeShapes Go.WideShapes Go.ChangeAt Go.RowKit

set_option maxRecDepth 100000 in
set_option maxHeartbeats 2000000 in
theorem tells_long (v0 v1 : Value) (raw : List Nat) (w : World) (hr : Bytes w v0 raw) (hl : 400 < raw.length) :
    Calls Try.prog 5 #[v0, v1] w fun e w' => e = .returned (.bool true) ∧ Below w.heap.size w w' := by
  obtain ⟨_, hm, A, c, rfl, hc, _⟩ := hr.parts
  have h4 : (400 : Int) < (raw.length : Int) := by omega
  clear hr
  go_enter Try.func5, Try.ntmps5
  go_wp2_with (go_at_call 8; refine (awake_any _).mono ?_; rintro e w' ⟨rfl, hbw⟩)
  go_ret
  exact ⟨rfl, hbw⟩
/-- Two that tell of one text tell the same. -/
theorem told_same {R : Ln.Res} {L1 L2 : List (List Ln.W)} {k1 l1 c1 k2 l2 c2 : Nat} (h1 : (R = .ok L1 ∧ k1 = 0 ∧ l1 = 0 ∧ c1 = 0) ∨ (R = .bad k1 l1 c1 ∧ L1 = [])) (h2 : (R = .ok L2 ∧ k2 = 0 ∧ l2 = 0 ∧ c2 = 0) ∨ (R = .bad k2 l2 c2 ∧ L2 = [])) : L2 = L1 ∧ k2 = k1 ∧ l2 = l1 ∧ c2 = c1 := by
  rcases h1 with ⟨rfl, rfl, rfl, rfl⟩ | ⟨rfl, rfl⟩
  · rcases h2 with ⟨e, rfl, rfl, rfl⟩ | ⟨e, _⟩
    · injection e with e
      exact ⟨e.symm, rfl, rfl, rfl⟩
    · cases e
  · rcases h2 with ⟨e, _⟩ | ⟨e, rfl⟩
    · cases e
    · injection e with e1 e2 e3
      exact ⟨rfl, e1.symm, e2.symm, e3.symm⟩
/-- Three slices of bytes. -/
def Three (g : Nat) (w : World) : Prop := ∀ j, j < 3 → ∃ x l, w.cell? ⟨g, j, none⟩ = some x ∧ Bytes w x l ∧ l.length ≤ 1000000
theorem Three.under {g : Nat} {w w' : World} (h : Three g w) (hb : Below w.heap.size w w') : Three g w' := fun j hj => by
  obtain ⟨x, l, h1, h2, h3⟩ := h j hj
  exact ⟨x, l, cell_later hb h1, h2.under hb, h3⟩
theorem three_of {w : World} {x0 x1 x2 : Value} {l0 l1 l2 : List Nat} (h0 : Bytes w x0 l0) (h1 : Bytes w x1 l1) (h2 : Bytes w x2 l2) (n0 : l0.length ≤ 1000000) (n1 : l1.length ≤ 1000000) (n2 : l2.length ≤ 1000000) : Three w.heap.size (w.alloc (.cells #[x0, x1, x2] 22)) := fun j hj => by
  have hB : Blk (w.alloc (.cells #[x0, x1, x2] 22)) w.heap.size 22 #[x0, x1, x2] := heap_alloc_new w _
  have : j = 0 ∨ j = 1 ∨ j = 2 := by omega
  rcases this with rfl | rfl | rfl
  · exact ⟨x0, l0, hB.at 0, h0.alloc _, n0⟩
  · exact ⟨x1, l1, hB.at 1, h1.alloc _, n1⟩
  · exact ⟨x2, l2, hB.at 2, h2.alloc _, n2⟩
set_option maxRecDepth 100000 in
set_option maxHeartbeats 8000000 in
theorem tells_short (v0 v1 : Value) (raw : List Nat) (zs : List Int) (w : World) (hr : Bytes w v0 raw) (hz : Ints w v1 zs) (hl : raw.length ≤ 400) :
    Calls Try.prog 5 #[v0, v1] w fun e w' => e = .returned (.bool true) ∧ Below w.heap.size w w' := by
  have HR := Lib.hid hr
  have HZ := Lib.hid hz
  obtain ⟨_, _, A0, c0, rfl, hc0, _⟩ := hr.parts
  obtain ⟨_, hzm, A1, c1, rfl, hc1, _⟩ := hz
  clear hr
  obtain ⟨R, hR⟩ : ∃ n, raw.length = n := ⟨_, rfl⟩
  obtain ⟨n1, hn1⟩ : ∃ n, zs.length = n := ⟨_, rfl⟩
  rw [hR] at HR hl hc0 ⊢
  rw [hn1] at HZ hzm hc1 ⊢
  have HRL := Lib.hid hR
  have r1 : ¬ (400 : Int) < (R : Int) := by omega
  clear hR hn1
  go_enter Try.func5, Try.ntmps5
  go_wp2_with fail
  refine (text_any _ zs _ HZ.out).mono ?_
  rintro e w1 ⟨T1, u1, rfl, hT1, hO1, hb1⟩
  go_wp2_with fail
  refine (text_any _ zs _ (HZ.out.under hb1)).mono ?_
  rintro e w2 ⟨T2, u2, rfl, hT2, hO2, hb2⟩
  have hB2 := hb1.trans (hb2.mono hb1.size)
  have H1 := Lib.hid (hO1.bytes.under hb2)
  have H0 := Lib.hid (HR.out.under hB2)
  have HO2 := Lib.hid hO2
  have HL1 := Lib.hid (fun k (hk : u1.ownBlock = some k) => (hO1.lt k hk).2)
  have hz1 := hb1.size
  clear hO1 hO2 hb1
  go_wp2_with (at_builtin; refine wpList_append_bytes rfl _ _ rfl w1.heap.size u2 _ T2 raw rfl HO2.out rfl H0.out (by rw [HRL.out]; omega) hb2.size _ rfl ?_)
  rintro u3 w3 ⟨hO3, -, -, hb3⟩
  have hB3 := hB2.trans (hb3.mono hz1)
  have hb1' := H1.out.below hb3 fun k hk _ => HL1.out k hk
  have hb3' := hO3.bytes
  obtain ⟨_, _, Aa, ca, rfl, _, _⟩ := hb1'.parts
  obtain ⟨_, _, Ab, cb, rfl, _, _⟩ := hb3'.parts
  have hT := three_of (HR.out.under hB3) hb1' hb3' (by rw [HRL.out]; omega) (by omega) (by rw [List.length_append, HRL.out]; omega)
  have HT := Lib.hid hT
  have hBl := hB3.alloc hB3.size (.cells #[.slice A0 R c0, .slice Aa T1.length ca, .slice Ab (T2 ++ raw).length cb] 22)
  have HBl := Lib.hid hBl
  obtain ⟨N1, hN1⟩ : ∃ N, T1.length = N := ⟨_, rfl⟩
  obtain ⟨N2, hN2⟩ : ∃ N, (T2 ++ raw).length = N := ⟨_, rfl⟩
  rw [hN1, hN2] at HT HBl ⊢
  clear hb1' hb3' hN1 hN2 hO3 hb3 hT hBl hB3 hB2 hb2 H0 H1 HO2 HL1 HR HZ
  go_wp2_with fail
  go_loopw [24] (fun i wr => ∃ j : Nat, j ≤ 3 ∧ i = .int .i64 j ∧ Below (w3.alloc (.cells #[.slice A0 R c0, .slice Aa N1 ca, .slice Ab N2 cb] 22)).heap.size (w3.alloc (.cells #[.slice A0 R c0, .slice Aa N1 ca, .slice Ab N2 cb] 22)) wr) (fun i _ => 3 - (intOf i).toNat)
  case atStart => exact ⟨0, by omega, rfl, Below.refl _ _⟩
  case round =>
    obtain ⟨j, hj, rfl, hbo⟩ := hrel
    by_cases hlt : j < 3
    · have hj3 : (j : Int) < 3 := by omega
      obtain ⟨x, l, hxc, hx, hll⟩ := (HT.out.under hbo) j hlt
      have HX := Lib.hid hx
      have HLL := Lib.hid hll
      clear hx hll
      go_wp2_with fail
      refine (split_any x l wr HX.out HLL.out).mono ?_
      rintro e w4 ⟨ht, hb4⟩
      obtain ⟨va, La, ka, la, ca, rfl, hra, hqa⟩ := ht.rd
      have HQA := Lib.hid hqa
      have hb5 := hbo.trans (hb4.mono hbo.size)
      have hX4 := HX.out.under hb4
      clear ht hqa hb4 hbo
      go_wp2_with fail
      refine (refsplit_any x l _ (hX4.alloc _) HLL.out).mono ?_
      rintro e w5 ⟨ht, hb6⟩
      obtain ⟨vb, Lb, kb, lb, cb, rfl, hrb, hqb⟩ := ht.rd
      obtain ⟨rfl, rfl, rfl, rfl⟩ := told_same HQA.out hqb
      have hF1 : Blk w5 w4.heap.size 29 #[.int .i64 kb, .int .i64 lb, .int .i64 cb] := Blk.under (heap_alloc_new w4 _) hb6
      have hra2 := (hra.under ((Below.refl _ _).alloc (Nat.le_refl _) (.cells #[.int .i64 kb, .int .i64 lb, .int .i64 cb] 29))).under hb6
      have hb7 := (hb5.alloc hb5.size _).trans (hb6.mono (hb5.alloc hb5.size _).size)
      have y0 := fun o => (hF1.alloc o).at 0
      have y1 := fun o => (hF1.alloc o).at 1
      have y2 := fun o => (hF1.alloc o).at 2
      have y0' : ∀ o, (w5.alloc o).cell? ⟨w4.heap.size, 0, none⟩ = some (.int .i64 kb) := y0
      have y1' : ∀ o, (w5.alloc o).cell? ⟨w4.heap.size, 1, none⟩ = some (.int .i64 lb) := y1
      have y2' : ∀ o, (w5.alloc o).cell? ⟨w4.heap.size, 2, none⟩ = some (.int .i64 cb) := y2
      have HRA := Lib.hid (fun o => hra2.under ((Below.refl _ w5).alloc (Nat.le_refl _) o)) 
      have HRB := Lib.hid (fun o => hrb.under ((Below.refl _ w5).alloc (Nat.le_refl _) o))
      clear ht hqb hb6 hF1 hra hra2 hrb y0 y1 y2 hb5 hX4
      go_wp2_with fail
      refine (refsame_any va vb Lb _ (HRA.out _) (HRB.out _)).mono ?_
      rintro e w6 ⟨rfl, nq, rfl⟩
      have hb8 := hb7.alloc hb7.size (.cells #[.int .i64 kb, .int .i64 lb, .int .i64 cb] 29)
      have hb9 : Below _ _ ((w5.alloc (.cells #[.int .i64 kb, .int .i64 lb, .int .i64 cb] 29)).drewN nq) := hb8.trans ⟨rfl, rfl, rfl, Nat.le_refl _, fun _ _ => rfl⟩
      clear hb7 hb8 y0' y1' y2' hxc
      go_wp2
      go_roundw
      case rel => exact ⟨j + 1, by omega, by go_num, hb9⟩
      case measure => simp [intOf]; omega
    · obtain rfl : j = 3 := by omega
      go_wp2_with fail
      refine (awake_any _).mono ?_
      rintro e w4 ⟨rfl, hb4⟩
      have hb5 := hbo.trans (hb4.mono hbo.size)
      go_wp2
      go_ret
      exact ⟨rfl, HBl.out.trans (hb5.mono HBl.out.size)⟩
theorem tells_any (v0 v1 : Value) (raw : List Nat) (zs : List Int) (w : World) (hr : Bytes w v0 raw) (hz : Ints w v1 zs) :
    Calls Try.prog 5 #[v0, v1] w fun e w' => e = .returned (.bool true) ∧ Below w.heap.size w w' := by
  rcases Nat.lt_or_ge 400 raw.length with h | h
  · exact tells_long v0 v1 raw w hr h
  · exact tells_short v0 v1 raw zs w hr hz h
end Go.Proofs.Ytpebkdmoloiecaa
