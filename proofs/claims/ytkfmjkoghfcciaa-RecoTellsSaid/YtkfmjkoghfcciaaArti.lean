/- What package arti answers: what is made beside what it was made of; opened again, or none. -/
import Derived.Test.YtkfmjkoghfcciaaArtiMath
import Derived.Test.YtkfmjkoghfcciaaFramScan
namespace Go.Proofs.Ytkfmjkoghfcciaa
set_option maxRecDepth 100000
open Go.ChangeShapes Go.WideShapes Go.ChangeAt Go.RowKit

/-- A call that opens an artifact: both its parts in rows of their own, the second one's blocks behind the first one's; or none. -/
def AOpenIs (R : Option (List Nat × List Nat)) (w : World) (e : Ending) (w' : World) : Prop :=
  Below w.heap.size w w' ∧ match R with
  | none => e = .returned (.tuple #[.slice none 0 0, .slice none 0 0, .bool false])
  | some (p, v) => ∃ m x y, e = .returned (.tuple #[x, y, .bool true]) ∧ w.heap.size ≤ m ∧ m ≤ w'.heap.size ∧ Own w' w.heap.size x p ∧ Between w.heap.size m x ∧ Own w' m y v
/-- The same without the rows' places: two texts, and whether. -/
def AOpenSays (base : Nat) (R : Option (List Nat × List Nat)) (w : World) (e : Ending) (w' : World) : Prop :=
  Below base w w' ∧ ∃ x y, e = .returned (.tuple #[x, y, .bool R.isSome]) ∧ Bytes w' x (R.getD ([], [])).1 ∧ Bytes w' y (R.getD ([], [])).2 ∧ Between base w'.heap.size x ∧ Between base w'.heap.size y
theorem between_none (lo hi : Nat) (n c : Nat) : Between lo hi (.slice none n c) := fun k hk => by cases hk
theorem AOpenIs.says {R : Option (List Nat × List Nat)} {w w' : World} {e : Ending} (h : AOpenIs R w e w') : AOpenSays w.heap.size R w e w' := by
  obtain ⟨hb, h⟩ := h
  rcases R with _ | ⟨p, v⟩
  · subst h
    exact ⟨hb, _, _, rfl, bytes_none _, bytes_none _, between_none _ _ _ _, between_none _ _ _ _⟩
  · obtain ⟨m, x, y, rfl, h1, h2, h3, h4, h5⟩ := h
    exact ⟨hb, x, y, rfl, h3.bytes, h5.bytes, h3.between, (h5.more h1).between⟩

set_option maxHeartbeats 1000000 in
theorem amake_is (v x : Value) (l m r : List Nat) (w : World) (h : Bytes w v l) (hx : Bytes w x m) (hl : l.length ≤ 100000000000) (hm : m.length ≤ 100000000000) (hr : Ar.make l m = r) :
    Calls Try.prog 40 #[v, x] w (Made w.heap.size r w) := by
  have HR := Lib.hid hr
  have H := Lib.hid h
  have HX := Lib.hid hx
  clear h hx hr
  go_enter Try.func40, Try.ntmps40
  go_wp2_with fail
  refine (bytes_any _ v [] l w (bytes_none w) H.out (by simp) (by omega)).mono ?_
  rintro e w1 ⟨v1, rfl, ho1, hb1⟩
  obtain ⟨L1, hL1⟩ : ∃ L1, [] ++ Cd.enc l.length ++ l = L1 := ⟨_, rfl⟩
  rw [hL1] at ho1
  have HO1 := Lib.hid ho1.bytes
  have HX1 := Lib.hid (HX.out.under hb1)
  have HB1 := Lib.hid hb1
  have hl1 : L1.length = l.length + 6 := by rw [← hL1]; simp [Cd.enc_length]; omega
  have HL1 := Lib.hid hL1
  clear ho1 hb1 hL1
  go_wp2_with fail
  refine (bytes_any v1 x L1 m w1 HO1.out HX1.out (by omega) (by omega)).mono ?_
  rintro e w2 ⟨v2, rfl, ho2, hb2⟩
  obtain ⟨L2, hL2⟩ : ∃ L2, L1 ++ Cd.enc m.length ++ m = L2 := ⟨_, rfl⟩
  rw [hL2] at ho2
  have HO2 := Lib.hid ho2.bytes
  have HB2 := Lib.hid (HB1.out.trans (hb2.mono HB1.out.size))
  have hl2 : L2.length = L1.length + m.length + 6 := by rw [← hL2]; simp [Cd.enc_length]; omega
  have HR2 : Hid ([] ++ Fr.frm L2 = r) := Lib.hid (by rw [← hL2, ← HL1.out]; exact HR.out)
  clear ho2 hb2 hL2 HB1 HX1 HO1
  go_wp2_with fail
  refine (put_is _ v2 [] L2 r w2 (bytes_none w2) HO2.out (by simp) (by omega) HR2.out).mono ?_
  rintro e w3 ⟨v3, rfl, ho3, hb3⟩
  have HO3 := Lib.hid (ho3.more (base' := w.heap.size) HB2.out.size)
  have HB3 := Lib.hid (HB2.out.trans (hb3.mono HB2.out.size))
  clear ho3 hb3
  go_wp2
  go_ret
  exact ⟨_, rfl, HO3.out, HB3.out⟩

set_option maxHeartbeats 4000000 in
theorem aopen_any (v : Value) (l : List Nat) (w : World) (h : Bytes w v l) (hl : l.length ≤ 1099511627776) (R : Option (List Nat × List Nat)) (hR : Ar.opn l = R) :
    Calls Try.prog 39 #[v] w (AOpenIs R w) := by
  have HR := Lib.hid hR
  obtain ⟨N, hS⟩ := Fr.ex_scan l
  have HS := Lib.hid hS
  have HONE := Lib.hid (Ar.one_scn hS)
  obtain ⟨_, _, A0, c0, rfl, _, _⟩ := h.parts
  obtain ⟨n, hn⟩ : ∃ n, l.length = n := ⟨_, rfl⟩
  have H := Lib.hid h
  rw [hn] at H HONE hl ⊢
  have HN := Lib.hid hn
  have hN := (hS.le (Nat.le_refl N)).2
  have hN2 := (hS.le (Nat.le_refl N)).1
  rw [hn] at hN2
  clear h hn hS hR
  go_enter Try.func39, Try.ntmps39
  go_wp2_with fail
  refine (scan_any _ l N w H.out HS.out (by rw [HN.out]; exact hl)).mono ?_
  rintro e w1 ⟨u, rfl, hou, hb1⟩
  have HB1 := Lib.hid hb1
  have HU := Lib.hid hou.rows
  obtain ⟨Au, cu, rfl, _⟩ := hou.parts
  have hrl := Fr.rows_length l N
  rw [hrl] at HU ⊢
  obtain ⟨q, hq⟩ : ∃ q, Fr.pos l N = q := ⟨_, rfl⟩
  rw [hq] at HONE hN hN2 ⊢
  clear hou hb1 hrl hq
  by_cases h1 : N = 1 ∧ q = n
  · obtain ⟨rfl, rfl⟩ := h1
    have ho : Ar.one l = true := by rw [HONE.out]; simp
    obtain ⟨b, off, u, rfl, hcu, hbu⟩ := HU.out.at (k := 0) (by omega)
    rw [Fr.rows_at _ _ _ (by omega)] at hbu
    have hd : Fr.held (l.drop (Fr.pos l 0)) = Fr.held l := rfl
    rw [hd] at hbu
    rw [Nat.add_zero] at hcu
    have hhl := Fr.held_length (b := l) (by simp only [Ar.one, Bool.and_eq_true] at ho; exact ho.1)
    have hht : Fr.told l ≤ 10000 := (Fr.whole_iff.1 (by simp only [Ar.one, Bool.and_eq_true] at ho; exact ho.1)).2.1
    obtain ⟨x, hx⟩ : ∃ x, Fr.held l = x := ⟨_, rfl⟩
    have HR2 : Hid (R = if Cd.endB (Ar.s2 (some x)) then some (Ar.p1 (some x), Ar.v1 (some x)) else none) := Lib.hid (by rw [← HR.out, Ar.opn, ho, hx, Bool.true_and])
    rw [hx] at hbu hhl
    have HBU := Lib.hid hbu
    have hxl : Hid (x.length ≤ 10000) := Lib.hid (by omega)
    obtain ⟨_, _, Ax, cx, rfl, _, _⟩ := hbu.parts
    obtain ⟨xl, hxe⟩ : ∃ k, x.length = k := ⟨_, rfl⟩
    rw [hxe] at HBU hcu
    clear hbu ho hd hhl hht hx hxe HR HONE
    go_wp2_with fail
    refine (read_any _ x w1 HBU.out (by have := hxl.out; omega)).mono ?_
    rintro e w2 ⟨g, rfl, hg1, hg2, hr2, hb2⟩
    have HG : Hid (w1.heap.size ≤ g ∧ g < w2.heap.size) := Lib.hid ⟨hg1, hg2⟩
    have HRD := Lib.hid hr2
    have HB2 := Lib.hid (HB1.out.trans (hb2.mono HB1.out.size))
    have HZ2 := Lib.hid (Nat.le_trans HB1.out.size hg1)
    obtain ⟨S1, hS1⟩ : ∃ s, Cd.bytesS (some x) 4000 = s := ⟨_, rfl⟩
    obtain ⟨P1, hP1⟩ : ∃ s, Cd.bytesL (some x) 4000 = s := ⟨_, rfl⟩
    obtain ⟨S2, hS2⟩ : ∃ s, Cd.bytesS S1 256 = s := ⟨_, rfl⟩
    obtain ⟨P2, hP2⟩ : ∃ s, Cd.bytesL S1 256 = s := ⟨_, rfl⟩
    obtain ⟨q, hq⟩ : ∃ q, Cd.endB S2 = q := ⟨_, rfl⟩
    have HR3 : Hid (R = if q then some (P1, P2) else none) := Lib.hid (by rw [HR2.out, Ar.s2, Ar.v1, Ar.s1, Ar.p1, hS1, hP1, hS2, hP2, hq])
    have HS1 := Lib.hid hS1
    have HS2 := Lib.hid hS2
    have HP1 := Lib.hid hP1
    have HP2 := Lib.hid hP2
    have HQ := Lib.hid hq
    clear hg1 hg2 hr2 hb2 hS1 hS2 hP1 hP2 hq HR2 HBU HU hcu HB1
    go_wp2_with fail
    refine (rbytes_is _ _ g _ S1 _ P1 w2 HRD.out HS1.out HP1.out).mono ?_
    rintro e w3 ⟨v3, rfl, ho3, hr3, hg3⟩
    have HRD3 := Lib.hid hr3
    have HO3 := Lib.hid (ho3.more (base' := w.heap.size) HB2.out.size)
    have HL3 : Hid (∀ k, v3.ownBlock = some k → w2.heap.size ≤ k ∧ k < w3.heap.size) := Lib.hid ho3.lt
    have HB3 := Lib.hid (HB2.out.trans (Below.ofGrown hg3 HZ2.out HB2.out.size))
    have HZ3 := Lib.hid hg3.size
    clear ho3 hr3 hg3 HRD HB2
    go_wp2_with fail
    refine (rbytes_is _ _ g S1 S2 _ P2 w3 HRD3.out HS2.out HP2.out).mono ?_
    rintro e w4 ⟨v4, rfl, ho4, hr4, hg4⟩
    have HRD4 := Lib.hid hr4
    have HO4 := Lib.hid ho4
    have HO34 := Lib.hid (HO3.out.grown hg4 (.inr (fun e => by have := (HL3.out g e).1; have := HG.out.2; omega)))
    have HB4 := Lib.hid (HB3.out.trans (Below.ofGrown hg4 HZ2.out HB3.out.size))
    have HZ4 := Lib.hid hg4.size
    clear ho4 hr4 hg4 HRD3 HB3 HO3
    go_wp2_with fail
    refine (end_is _ _ g S2 q w4 HRD4.out HQ.out).mono ?_
    rintro e w5 ⟨rfl, rfl⟩
    rcases q with _ | _
    · go_wp2
      go_ret3
      exact ⟨HB4.out, by rw [HR3.out]; rfl⟩
    · go_wp2
      go_ret3
      refine ⟨HB4.out, ?_⟩
      rw [HR3.out]
      exact ⟨w3.heap.size, v3, v4, rfl, by have := HZ2.out; have := HG.out; have := HZ3.out; omega, HZ4.out, HO34.out, fun k hk => ⟨(HO34.out.lt k hk).1, (HL3.out k hk).2⟩, HO4.out⟩
  · have HRN : Hid (R = none) := Lib.hid (by
      rw [← HR.out]
      refine Ar.opn_none_of ?_
      rw [HONE.out]
      by_cases hN1 : N = 1
      · have : q ≠ n := fun e => h1 ⟨hN1, e⟩
        simp [this]
      · simp [hN1])
    by_cases hN1 : N = 1
    · subst hN1
      have hqn : ¬ q = n := fun e => h1 ⟨rfl, e⟩
      have hqI : ((q : Int) != (n : Int)) = true := by rw [bne_iff_ne]; omega
      go_wp2
      go_ret3
      exact ⟨HB1.out, by rw [HRN.out]; rfl⟩
    · have hNI : ((N : Int) != 1) = true := by rw [bne_iff_ne]; omega
      go_wp2
      go_ret3
      exact ⟨HB1.out, by rw [HRN.out]; rfl⟩
end Go.Proofs.Ytkfmjkoghfcciaa
