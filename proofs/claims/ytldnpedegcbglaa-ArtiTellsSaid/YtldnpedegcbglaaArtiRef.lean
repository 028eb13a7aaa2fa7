/- What the document's own answer of layer 11 (fettleref10) is: an artifact made, and opened. -/
import Derived.Test.YtldnpedegcbglaaArti
import Derived.Test.YtldnpedegcbglaaFramRefScan
namespace Go.Proofs.Ytldnpedegcbglaa
set_option maxRecDepth 100000
open Go.ChangeShapes Go.WideShapes Go.ChangeAt Go.RowKit

theorem aref_new {w : World} {v : Value} {b : List Nat} (h : Bytes w v b) (hb : b.length ≤ 1099511627776) : Ref (w.alloc (.cells #[v, .bool false] 60)) w.heap.size w.heap.size (some b) :=
  ⟨Nat.le_refl _, v, heap_alloc_new w _, h.alloc _, fun h0 => h.between h0, hb⟩

set_option maxHeartbeats 1000000 in
theorem refamake_is (v x : Value) (l m r : List Nat) (w : World) (h : Bytes w v l) (hx : Bytes w x m) (hl : l.length ≤ 100000000000) (hm : m.length ≤ 100000000000) (hr : Ar.make l m = r) :
    Calls Try.prog 19 #[v, x] w (Made w.heap.size r w) := by
  have HR := Lib.hid hr
  have H := Lib.hid h
  have HX := Lib.hid hx
  clear h hx hr
  go_enter Try.func19, Try.ntmps19
  go_wp2_with fail
  refine (refbytes_any _ v [] l w (bytes_none w) H.out (by simp) (by omega)).mono ?_
  rintro e w1 ⟨v1, rfl, ho1, hb1⟩
  obtain ⟨L1, hL1⟩ : ∃ L1, [] ++ Cd.enc l.length ++ l = L1 := ⟨_, rfl⟩
  rw [hL1] at ho1
  have HO1 := Lib.hid ho1.bytes
  have HX1 := Lib.hid (HX.out.under hb1)
  have HB1 := Lib.hid hb1
  have hl1 : L1.length = l.length + 6 := by rw [← hL1]; simp [Cd.enc_length]; omega
  have HL1 := Lib.hid hL1
  clear ho1 hb1 hL1
  go_wp2_with fail
  refine (refbytes_any v1 x L1 m w1 HO1.out HX1.out (by omega) (by omega)).mono ?_
  rintro e w2 ⟨v2, rfl, ho2, hb2⟩
  obtain ⟨L2, hL2⟩ : ∃ L2, L1 ++ Cd.enc m.length ++ m = L2 := ⟨_, rfl⟩
  rw [hL2] at ho2
  have HO2 := Lib.hid ho2.bytes
  have HB2 := Lib.hid (HB1.out.trans (hb2.mono HB1.out.size))
  have hl2 : L2.length = L1.length + m.length + 6 := by rw [← hL2]; simp [Cd.enc_length]; omega
  have HR2 : Hid ([] ++ Fr.frm L2 = r) := Lib.hid (by rw [← hL2, ← HL1.out]; exact HR.out)
  clear ho2 hb2 hL2 HB1 HX1 HO1
  go_wp2_with fail
  refine (refput_is _ v2 [] L2 r w2 (bytes_none w2) HO2.out (by simp) (by omega) HR2.out).mono ?_
  rintro e w3 ⟨v3, rfl, ho3, hb3⟩
  have HO3 := Lib.hid (ho3.more (base' := w.heap.size) HB2.out.size)
  have HB3 := Lib.hid (HB2.out.trans (hb3.mono HB2.out.size))
  clear ho3 hb3
  go_wp2
  go_ret
  exact ⟨_, rfl, HO3.out, HB3.out⟩

/-- What the one frame that bytes are holds; nothing else. -/
def AWholeIs (l : List Nat) (w : World) (e : Ending) (w' : World) : Prop := ∃ x, e = .returned (.tuple #[x, .bool (Ar.one l)]) ∧ Bytes w' x (if Ar.one l then Fr.held l else []) ∧ Below w.heap.size w w'

set_option maxHeartbeats 2000000 in
theorem refwhole_any (v : Value) (l : List Nat) (w : World) (h : Bytes w v l) (hl : l.length ≤ 1099511627776) :
    Calls Try.prog 34 #[v] w (AWholeIs l w) := by
  obtain ⟨N, hS⟩ := Fr.ex_scan l
  have HS := Lib.hid hS
  have HONE := Lib.hid (Ar.one_scn hS)
  obtain ⟨_, _, A0, c0, rfl, _, _⟩ := h.parts
  obtain ⟨n, hn⟩ : ∃ n, l.length = n := ⟨_, rfl⟩
  have H := Lib.hid h
  rw [hn] at H HONE hl ⊢
  have HN := Lib.hid hn
  have hN := (hS.le (Nat.le_refl N)).2
  have hN2 := (hS.le (Nat.le_refl N)).1
  rw [hn] at hN2
  clear h hn hS
  go_enter Try.func34, Try.ntmps34
  go_wp2_with fail
  refine (refscan_any _ l N w H.out HS.out (by rw [HN.out]; exact hl)).mono ?_
  rintro e w1 ⟨u, rfl, hou, hb1⟩
  have HB1 := Lib.hid hb1
  have HU := Lib.hid hou.rows
  obtain ⟨Au, cu, rfl, _⟩ := hou.parts
  have hrl := Fr.rows_length l N
  rw [hrl] at HU ⊢
  obtain ⟨q, hq⟩ : ∃ q, Fr.pos l N = q := ⟨_, rfl⟩
  rw [hq] at HONE hN hN2 ⊢
  clear hou hb1 hrl hq
  by_cases h1 : N = 1 ∧ q = n
  · obtain ⟨rfl, rfl⟩ := h1
    have ho : Hid (Ar.one l = true) := Lib.hid (by rw [HONE.out]; simp)
    obtain ⟨b, off, u, rfl, hcu, hbu⟩ := HU.out.at (k := 0) (by omega)
    rw [Fr.rows_at _ _ _ (by omega)] at hbu
    have hd : Fr.held (l.drop (Fr.pos l 0)) = Fr.held l := rfl
    rw [hd] at hbu
    rw [Nat.add_zero] at hcu
    have HBU := Lib.hid hbu
    clear hbu HU hd HONE
    go_wp2
    go_ret2
    exact ⟨_, by rw [ho.out]; rfl, by rw [ho.out]; exact HBU.out, HB1.out⟩
  · have ho : Hid (Ar.one l = false) := Lib.hid (by
      rw [HONE.out]
      by_cases hN1 : N = 1
      · have : q ≠ n := fun e => h1 ⟨hN1, e⟩
        simp [this]
      · simp [hN1])
    by_cases hN1 : N = 1
    · subst hN1
      have hqn : ¬ q = n := fun e => h1 ⟨rfl, e⟩
      have hqI : ((q : Int) != (n : Int)) = true := by rw [bne_iff_ne]; omega
      clear h1 HONE
      go_wp2
      go_ret2
      exact ⟨_, by rw [ho.out]; rfl, by rw [ho.out]; exact bytes_none _, HB1.out⟩
    · have hNI : ((N : Int) != 1) = true := by rw [bne_iff_ne]; omega
      clear h1 HONE
      go_wp2
      go_ret2
      exact ⟨_, by rw [ho.out]; rfl, by rw [ho.out]; exact bytes_none _, HB1.out⟩

set_option maxHeartbeats 4000000 in
theorem refaopen_any (v : Value) (l : List Nat) (w : World) (h : Bytes w v l) (hl : l.length ≤ 1099511627776) (R : Option (List Nat × List Nat)) (hR : Ar.opn l = R) :
    Calls Try.prog 20 #[v] w (AOpenSays w.heap.size R w) := by
  have HR := Lib.hid hR
  have H := Lib.hid h
  clear h hR
  go_enter Try.func20, Try.ntmps20
  go_wp2_with fail
  refine (refwhole_any v l w H.out hl).mono ?_
  rintro e w1 ⟨x, rfl, hx, hb1⟩
  obtain ⟨o, ho⟩ : ∃ o, Ar.one l = o := ⟨_, rfl⟩
  rw [ho] at hx ⊢
  obtain ⟨X, hX⟩ : ∃ X, (if o then Fr.held l else []) = X := ⟨_, rfl⟩
  rw [hX] at hx
  obtain ⟨S1, hS1⟩ : ∃ s, Cd.bytesS (some X) 4000 = s := ⟨_, rfl⟩
  obtain ⟨P1, hP1⟩ : ∃ s, Cd.bytesL (some X) 4000 = s := ⟨_, rfl⟩
  obtain ⟨S2, hS2⟩ : ∃ s, Cd.bytesS S1 256 = s := ⟨_, rfl⟩
  obtain ⟨P2, hP2⟩ : ∃ s, Cd.bytesL S1 256 = s := ⟨_, rfl⟩
  obtain ⟨q, hq⟩ : ∃ q, Cd.endB S2 = q := ⟨_, rfl⟩
  have HXL : Hid (X.length ≤ 1099511627776) := Lib.hid (by
    rw [← hX]
    split
    · unfold Fr.held
      rw [List.length_take, List.length_drop]
      omega
    · simp)
  have HR3 : Hid (R = if o && q then some (P1, P2) else none) := Lib.hid (by
    rw [← HR.out, Ar.opn, ho]
    rcases o with _ | _
    · rfl
    · rw [show Fr.held l = X from hX, Ar.s2, Ar.v1, Ar.s1, Ar.p1, hS1, hP1, hS2, hP2, hq])
  have HS1 := Lib.hid hS1
  have HS2 := Lib.hid hS2
  have HP1 := Lib.hid hP1
  have HP2 := Lib.hid hP2
  have HQ := Lib.hid hq
  have HB1 := Lib.hid hb1
  obtain ⟨_, _, Ax, cx, rfl, _, _⟩ := hx.parts
  have HRF := Lib.hid (aref_new hx HXL.out)
  clear hx hb1 ho hX hS1 hP1 hS2 hP2 hq HR
  obtain ⟨g, hg⟩ : ∃ g, w1.heap.size = g := ⟨_, rfl⟩
  obtain ⟨w2, hw2⟩ : ∃ w2, w1.alloc (.cells #[.slice Ax X.length cx, .bool false] 60) = w2 := ⟨_, rfl⟩
  have HB2 : Hid (Below w.heap.size w w2) := Lib.hid (by rw [← hw2]; exact HB1.out.alloc HB1.out.size _)
  have HZ2 : Hid (w.heap.size ≤ g ∧ g < w2.heap.size) := Lib.hid (by rw [← hw2, ← hg]; have := HB1.out.size; simp; omega)
  rw [hg, hw2] at HRF
  have HW2 := Lib.hid hw2
  have HG := Lib.hid hg
  clear hw2 hg
  have HC : Hid (Calls Try.prog 35 #[.pointer (some ⟨g, 0, none⟩), .int .i64 4000] w2 (ToldBytes g g S1 P1 w2)) := Lib.hid (by rw [← HP1.out, ← HS1.out]; exact refrbytes_any g g _ 4000 w2 HRF.out)
  go_wp2_with fail
  rw [HW2.out, HG.out]
  refine HC.out.mono ?_
  rintro e w3 ⟨v3, rfl, ho3, hr3, hg3⟩
  have HRF3 := Lib.hid hr3
  have HO3 := Lib.hid (ho3.more (base' := w.heap.size) HB2.out.size)
  have HL3 : Hid (∀ k, v3.ownBlock = some k → w2.heap.size ≤ k ∧ k < w3.heap.size) := Lib.hid ho3.lt
  have HB3 := Lib.hid (HB2.out.trans (Below.ofGrown hg3 HZ2.out.1 HB2.out.size))
  have HZ3 := Lib.hid hg3.size
  have HC2 : Hid (Calls Try.prog 35 #[.pointer (some ⟨g, 0, none⟩), .int .i64 256] w3 (ToldBytes g g S2 P2 w3)) := Lib.hid (by rw [← HP2.out, ← HS2.out]; exact refrbytes_any g g _ 256 w3 HRF3.out)
  clear ho3 hr3 hg3 HRF HB2 HC HW2 HG
  go_wp2_with fail
  refine HC2.out.mono ?_
  rintro e w4 ⟨v4, rfl, ho4, hr4, hg4⟩
  have HRF4 := Lib.hid hr4
  have HO4 := Lib.hid (ho4.more (base' := w.heap.size) HB3.out.size)
  have HO34 := Lib.hid (HO3.out.grown hg4 (.inr (fun e => by have := (HL3.out g e).1; have := HZ2.out.2; omega)))
  have HB4 := Lib.hid (HB3.out.trans (Below.ofGrown hg4 HZ2.out.1 HB3.out.size))
  have HC4 : Hid (Calls Try.prog 36 #[.pointer (some ⟨g, 0, none⟩)] w4 fun e w' => e = .returned (.bool q) ∧ w4 = w') := Lib.hid (by rw [← HQ.out]; exact refend_any g g S2 w4 HRF4.out)
  clear ho4 hr4 hg4 HRF3 HB3 HO3 HC2
  rcases o with _ | _
  · go_wp2
    go_ret3
    exact ⟨HB4.out, _, _, by rw [HR3.out]; rfl, by rw [HR3.out]; exact bytes_none _, by rw [HR3.out]; exact bytes_none _, between_none _ _ _ _, between_none _ _ _ _⟩
  · go_wp2_with fail
    refine HC4.out.mono ?_
    rintro e w5 ⟨rfl, rfl⟩
    rcases q with _ | _
    · go_wp2
      go_ret3
      exact ⟨HB4.out, _, _, by rw [HR3.out]; rfl, by rw [HR3.out]; exact bytes_none _, by rw [HR3.out]; exact bytes_none _, between_none _ _ _ _, between_none _ _ _ _⟩
    · go_wp2
      go_ret3
      exact ⟨HB4.out, _, _, by rw [HR3.out]; rfl, by rw [HR3.out]; exact HO34.out.bytes, by rw [HR3.out]; exact HO4.out.bytes, HO34.out.between, HO4.out.between⟩
end Go.Proofs.Ytldnpedegcbglaa
