/- What the document's own calls on frames answer: the same. -/
import Derived.Test.YtoloidfkpfdboaaZConcat
import Derived.Test.YtoloidfkpfdboaaZ00
import Derived.Test.YtoloidfkpfdboaaZ02
import Derived.Test.YtoloidfkpfdboaaZ05
import Derived.Deep.RegionHeld
import Derived.BigQuiet
import Derived.Deep.QuietTactic
import Derived.RegionTactic
import Derived.Deep.DeepMust
namespace Go.Proofs.Ytoloidfkpfdboaa
set_option maxRecDepth 100000
open Go.ChangeShapes Go.WideShapes Go.ChangeAt Go.RowKit

theorem four_row (s : Nat) (h : s < 4294967296) : row8 (Fr.four s) = [.int .u8 ((s : Int) / 16777216), .int .u8 ((s : Int) / 65536 % 256), .int .u8 ((s : Int) / 256 % 256), .int .u8 ((s : Int) % 256)] := by
  simp [row8, Fr.four]
  omega
theorem four_new (w : World) (s : Nat) (h : s < 4294967296) (e : TypeId) (m : Nat × Nat) : Bytes (w.alloc (.cells #[.int .u8 ((s : Int) / 16777216), .int .u8 ((s : Int) / 65536 % 256), .int .u8 ((s : Int) / 256 % 256), .int .u8 ((s : Int) % 256)] e m)) (.slice (some ⟨w.heap.size, 0, none⟩) 4 4) (Fr.four s) := by
  have := bytes_new w _ rfl (Fr.four s) e m (Fr.four_lt s) (by simp [Fr.four])
  have e1 := four_row s h
  unfold row8 at e1
  rw [e1] at this
  exact this

set_option maxHeartbeats 2000000 in
theorem refput_is (v x : Value) (l m r : List Nat) (w : World) (h : Bytes w v l) (hx : Bytes w x m) (hl : l.length ≤ 549755813888) (hm : m.length ≤ 549755813888) (hr : l ++ Fr.frm m = r) :
    Calls Try.prog 34 #[v, x] w (Made w.heap.size r w) := by
  subst hr
  have H := Lib.hid h
  have HX := Lib.hid hx
  obtain ⟨F, hF⟩ : ∃ F, Cd.enc m.length ++ m = F := ⟨_, rfl⟩
  obtain ⟨s, hs⟩ : ∃ s, Crc.sum F = s := ⟨_, rfl⟩
  have hFl : F.length = 6 + m.length := by rw [← hF, List.length_append, Cd.enc_length]
  have hr : l ++ Fr.frm m = l ++ F ++ Fr.four s := by rw [Fr.frm, hF, Fr.sum4, hs, List.append_assoc]
  have hlt : s < 4294967296 := by
    rw [← hs]
    refine Crc.sum_lt _ fun c hc => ?_
    rw [← hF] at hc
    exact (List.mem_append.1 hc).elim (Cd.enc_lt _ c) (hx.1 c)
  rw [hr]
  have HF := Lib.hid hF
  have HS := Lib.hid hs
  have HL := Lib.hid hFl
  clear h hx hF hs hr hFl
  go_enter Try.func34, Try.ntmps34
  go_wp2_with fail
  refine (refbytes_any _ x [] m w (bytes_none w) HX.out (by simp) hm).mono ?_
  rintro e w1 ⟨v1, rfl, ho1, hb1⟩
  rw [List.nil_append, HF.out] at ho1
  have HO1 := Lib.hid ho1
  obtain ⟨_, _, A1, c1, rfl, _, _⟩ := ho1.bytes.parts
  have H1 := Lib.hid (H.out.under hb1)
  have hz1 := hb1.size
  clear ho1
  go_wp2_with fail
  refine (ref_is _ F _ (s : Int) HO1.out.bytes (by rw [HS.out])).mono ?_
  rintro e w' ⟨rfl, rfl⟩
  go_wp2_with (at_builtin; refine wpList_append_bytes rfl _ _ rfl w1.heap.size _ _ [] l rfl (own_empty w1 _ 0 #[] (Nat.le_refl _) (by unfold maxLen; omega) rfl) rfl (H1.out.alloc _) ?_ ?_ l rfl ?_)
  case refine_1 => simp; omega
  case refine_2 => simp
  case refine_3 =>
    intro v2 w2 hg2
    obtain ⟨ho2, _, _, hb2'⟩ := hg2
    have hb2 : Below w1.heap.size w1 w2 := ((Below.refl _ _).alloc (Nat.le_refl _) _).trans hb2'
    have HO2 := Lib.hid ho2
    have HF2 := Lib.hid (HO1.out.under hb2)
    have hz2 := hb2.size
    clear ho2 hb2'
    go_wp2_with (at_builtin; refine wpList_append_bytes rfl _ _ rfl w1.heap.size _ _ l F rfl HO2.out rfl HF2.out.bytes ?_ hz2 (l ++ F) rfl ?_)
    case refine_1 => have := HL.out; omega
    case refine_2 =>
      intro v3 w3 hg3
      obtain ⟨ho3, _, _, hb3⟩ := hg3
      have HO3 := Lib.hid ho3
      have hz3 := hb3.size
      clear ho3
      go_wp2_with (at_builtin; refine wpList_append_bytes rfl _ _ rfl w1.heap.size _ _ (l ++ F) (Fr.four s) rfl (HO3.out.alloc _) rfl (four_new w3 s hlt _ _) ?_ ?_ (l ++ F ++ Fr.four s) rfl ?_)
      case refine_1 => have := HL.out; simp [Fr.four]; omega
      case refine_2 => simp; omega
      case refine_3 =>
        intro v4 w4 hg4
        obtain ⟨ho4, _, _, hb4⟩ := hg4
        have HO4 := Lib.hid ho4
        clear ho4
        go_wp2
        go_ret
        have hb34 : Below w1.heap.size w3 w4 := ((Below.refl _ _).alloc (by omega) _).trans hb4
        exact ⟨_, rfl, by rw [List.append_assoc]; exact HO4.out.more hz1, hb1.trans ((hb2.trans (hb3.trans hb34)).mono hz1)⟩

/-- What the frame's call answers. -/
def FrameIs (l : List Nat) (p : Nat) (w : World) (e : Ending) (w' : World) : Prop :=
  Below w.heap.size w w' ∧ ((Fr.whole (l.drop p) = true ∧ ∃ x, e = .returned (.tuple #[x, .int .i64 ((p + (10 + Fr.told (l.drop p)) : Nat) : Int), .bool true]) ∧ Own w' w.heap.size x (Fr.held (l.drop p))) ∨
    (Fr.whole (l.drop p) = false ∧ ∃ x y, e = .returned (.tuple #[x, y, .bool false])))
theorem frameIs_not {l : List Nat} {p : Nat} {w w' : World} {x y : Value} (h : Fr.whole (l.drop p) = true → False) (hb : Below w.heap.size w w') : FrameIs l p w (.returned (.tuple #[x, y, .bool false])) w' :=
  ⟨hb, .inr ⟨Bool.eq_false_iff.2 h, x, y, rfl⟩⟩

theorem take_four (l : List Nat) (E : Nat) (h : E + 4 ≤ l.length) : (l.drop E).take 4 = [l.getD E 0, l.getD (E + 1) 0, l.getD (E + 2) 0, l.getD (E + 3) 0] := by
  apply List.ext_getElem?
  intro i
  rw [List.getElem?_take]
  rcases i with _ | _ | _ | _ | i
  · simp [List.getElem?_drop, List.getD_eq_getElem?_getD, List.getElem?_eq_getElem (show E < l.length by omega)]
  · simp [List.getElem?_drop, List.getD_eq_getElem?_getD, List.getElem?_eq_getElem (show E + 1 < l.length by omega)]
  · simp [List.getElem?_drop, List.getD_eq_getElem?_getD, List.getElem?_eq_getElem (show E + 2 < l.length by omega)]
  · simp [List.getElem?_drop, List.getD_eq_getElem?_getD, List.getElem?_eq_getElem (show E + 3 < l.length by omega)]
  · rw [if_neg (by omega)]
    simp
theorem frameIs_not' {l D : List Nat} {p : Nat} {w w' : World} {x y : Value} (hD : l.drop p = D) (h : Fr.whole D = true → False) (hb : Below w.heap.size w w') : Below w.heap.size w w' ∧ ((Fr.whole D = true ∧ ∃ x', Ending.returned (.tuple #[x, y, .bool false]) = .returned (.tuple #[x', .int .i64 ((p + (10 + Fr.told D) : Nat) : Int), .bool true]) ∧ Own w' w.heap.size x' (Fr.held D)) ∨
    (Fr.whole D = false ∧ ∃ x' y', Ending.returned (.tuple #[x, y, .bool false]) = .returned (.tuple #[x', y', .bool false]))) := by
  subst hD
  exact frameIs_not h hb

set_option maxRecDepth 100000 in
set_option maxHeartbeats 4000000 in
theorem frame_any (v : Value) (l : List Nat) (p : Nat) (w : World) (h : Bytes w v l) (hl : l.length ≤ 1099511627776) (hp : p ≤ l.length) :
    Calls Try.prog 51 #[v, .int .i64 (p : Int)] w (FrameIs l p w) := by
  have H := Lib.hid h
  have hlt0 : l ≠ [] → Between 0 w.heap.size v := h.between
  obtain ⟨_, _, A, c, rfl, hc, _⟩ := h.parts
  obtain ⟨n, hn⟩ : ∃ n, l.length = n := ⟨_, rfl⟩
  rw [hn] at H hl hc hp hlt0 ⊢
  have HN := Lib.hid hn
  have HBT := Lib.hid hlt0
  have hpI : (p : Int) ≤ (n : Int) := by omega
  clear h hn hlt0
  obtain ⟨D, hD⟩ : ∃ D, l.drop p = D := ⟨_, rfl⟩
  have hDl : D.length = n - p := by rw [← hD, List.length_drop, HN.out]
  have HD := Lib.hid hD
  have HDL := Lib.hid hDl
  unfold FrameIs
  rw [hD]
  clear hD hDl
  have start : ∀ (u : Value), Bytes w u D → (D ≠ [] → Between 0 w.heap.size u) → Ref (w.alloc (.cells #[u, .bool false] 75)) w.heap.size w.heap.size (some D) := fun u hu hub =>
    ⟨Nat.le_refl _, u, heap_alloc_new w _, hu.alloc _, hub, by rw [HDL.out]; omega⟩
  by_cases hcp : c = p
  · go_enter Try.func51, Try.ntmps51
    go_wp2_with fail
    refine (refrbytes_any w.heap.size w.heap.size (some D) 10000 _ (start _ ?_ ?_)).mono ?_
    · rw [← HD.out]
      first
      | exact Bytes.tail (n := n) (k := p) H.out (by omega) (by omega) (fun h => by omega)
      | exact Bytes.tail (n := n) (k := p) H.out (by omega) (by omega) (fun _ b' off' e => by subst e; rw [Option.map_some, add_plain])
    · intro h0
      have hl0 : l ≠ [] := by
        rintro rfl
        exact h0 (by rw [← HD.out]; simp)
      first
      | exact (HBT.out hl0).eq
      | exact (HBT.out hl0).add
    rintro e w1 ⟨x, rfl, hox, hrf, hg1⟩
    have hz1 : w.heap.size + 1 ≤ w1.heap.size := by have := hg1.size; simpa using this
    have hB1 : Below w.heap.size w w1 := ((Below.refl _ w).alloc (Nat.le_refl _) _).trans (Below.ofGrown hg1 (Nat.le_refl _) (by simp))
    have H1 := Lib.hid (H.out.under hB1)
    have HOX := Lib.hid (hox.more (base' := w.heap.size) (by simp))
    obtain ⟨_, _, Ax, cx, rfl, _, _⟩ := hox.bytes.parts
    clear hg1 start H hox
    have hfit : Cd.fitsB (some D) 10000 = false := by
      have hD0 : D.length = 0 := by rw [HDL.out]; omega
      simp [Cd.fitsB, Cd.fits, hD0]
    have e1 : Cd.bytesS (some D) 10000 = none := by simp [Cd.bytesS, hfit]
    rw [e1] at hrf
    obtain ⟨Ar, nr, cr, hblk⟩ := Ref.none_of hrf rfl
    have hy : w1.cell? ⟨w.heap.size, 1, none⟩ = some (.bool true) := hblk.at 1
    have HF := Lib.hid hfit
    clear hrf hblk e1 hfit
    go_wp2
    go_ret3
    refine frameIs_not' HD.out (fun hw => ?_) hB1
    have h1 := Fr.whole_iff.1 hw
    have h2 := HF.out
    have h3 : Cd.dec (D.take 6) = Fr.told D := rfl
    simp only [Cd.fitsB, Cd.fits, Cd.rest, Option.getD_some, h3] at h2
    simp at h2
    omega
  · go_enter Try.func51, Try.ntmps51
    go_wp2_with fail
    refine (refrbytes_any w.heap.size w.heap.size (some D) 10000 _ (start _ ?_ ?_)).mono ?_
    · rw [← HD.out]
      first
      | exact Bytes.tail (n := n) (k := p) H.out (by omega) (by omega) (fun h => by omega)
      | exact Bytes.tail (n := n) (k := p) H.out (by omega) (by omega) (fun _ b' off' e => by subst e; rw [Option.map_some, add_plain])
    · intro h0
      have hl0 : l ≠ [] := by
        rintro rfl
        exact h0 (by rw [← HD.out]; simp)
      first
      | exact (HBT.out hl0).eq
      | exact (HBT.out hl0).add
    rintro e w1 ⟨x, rfl, hox, hrf, hg1⟩
    have hz1 : w.heap.size + 1 ≤ w1.heap.size := by have := hg1.size; simpa using this
    have hB1 : Below w.heap.size w w1 := ((Below.refl _ w).alloc (Nat.le_refl _) _).trans (Below.ofGrown hg1 (Nat.le_refl _) (by simp))
    have H1 := Lib.hid (H.out.under hB1)
    have HOX := Lib.hid (hox.more (base' := w.heap.size) (by simp))
    obtain ⟨_, _, Ax, cx, rfl, _, _⟩ := hox.bytes.parts
    clear hg1 start H hox
    rcases hfit : Cd.fitsB (some D) 10000 with _ | _
    · have e1 : Cd.bytesS (some D) 10000 = none := by simp [Cd.bytesS, hfit]
      rw [e1] at hrf
      obtain ⟨Ar, nr, cr, hblk⟩ := Ref.none_of hrf rfl
      have hy : w1.cell? ⟨w.heap.size, 1, none⟩ = some (.bool true) := hblk.at 1
      have HF := Lib.hid hfit
      clear hrf hblk e1 hfit
      go_wp2
      go_ret3
      refine frameIs_not' HD.out (fun hw => ?_) hB1
      have h1 := Fr.whole_iff.1 hw
      have h2 := HF.out
      have h3 : Cd.dec (D.take 6) = Fr.told D := rfl
      simp only [Cd.fitsB, Cd.fits, Cd.rest, Option.getD_some, h3] at h2
      simp at h2
      omega
    · obtain ⟨T, hT⟩ : ∃ T, Fr.told D = T := ⟨_, rfl⟩
      have h3 : Cd.dec (D.take 6) = T := hT
      have hcond : 6 ≤ D.length ∧ T ≤ 10000 ∧ T ≤ D.length - 6 := by
        have h2 := hfit
        simp only [Cd.fitsB, Cd.fits, Cd.rest, Option.getD_some, h3] at h2
        simp at h2
        omega
      have e1 : Cd.bytesS (some D) 10000 = some (D.drop (6 + T)) := by simp only [Cd.bytesS, hfit, if_true, Cd.rest, Option.getD_some, h3]
      have e2 : Cd.bytesL (some D) 10000 = (D.drop 6).take T := by simp only [Cd.bytesL, hfit, if_true, Cd.rest, Option.getD_some, h3]
      have e3 : Fr.held D = (D.drop 6).take T := by rw [Fr.held, hT]
      obtain ⟨X, hX⟩ : ∃ X, (D.drop 6).take T = X := ⟨_, rfl⟩
      obtain ⟨R, hR⟩ : ∃ R, D.drop (6 + T) = R := ⟨_, rfl⟩
      rw [HDL.out] at hcond
      have hXl : X.length = T := by rw [← hX, List.length_take, List.length_drop, HDL.out]; omega
      have hRl : R.length = n - p - 6 - T := by rw [← hR, List.length_drop, HDL.out]; omega
      rw [e1, hR] at hrf
      rw [e2, hX] at HOX ⊢
      rw [hX] at e3
      rw [hXl] at HOX ⊢
      obtain ⟨A2, c2, hblk, _⟩ := Ref.some_of hrf rfl
      rw [hRl] at hblk
      obtain ⟨m, hm⟩ : ∃ m, n - p - 6 - T = m := ⟨_, rfl⟩
      rw [hm] at hblk
      have hx : w1.cell? ⟨w.heap.size, 0, none⟩ = some (.slice A2 m c2) := hblk.at 0
      have hy : w1.cell? ⟨w.heap.size, 1, none⟩ = some (.bool false) := hblk.at 1
      have HT := Lib.hid hT
      have HXE := Lib.hid e3
      have HRR := Lib.hid hR
      have hc1 := hcond.1
      have hc2 := hcond.2.1
      have hc3 := hcond.2.2
      clear hfit hT h3 e1 e2 e3 hX hR hRl hXl hrf hblk hcond
      by_cases hm4 : m < 4
      · have hm4' : (m : Int) < 4 := by omega
        go_wp2
        go_ret3
        refine frameIs_not' HD.out (fun hw => ?_) hB1
        have h1 := (Fr.whole_iff.1 hw).2.2.1
        rw [HDL.out, HT.out] at h1
        omega
      · have hm4' : ¬ (m : Int) < 4 := by omega
        obtain ⟨E, hE⟩ : ∃ E, p + 6 + T = E := ⟨_, rfl⟩
        have hE' : (p : Int) + 6 + (T : Int) = (E : Int) := by omega
        have hEn : E + 4 ≤ n := by omega
        have hEp : p ≤ E := by omega
        have hEn' : (E : Int) + 4 ≤ (n : Int) := by omega
        have hEp' : (p : Int) ≤ (E : Int) := by omega
        have hEc' : (E : Int) ≤ (c : Int) := by omega
        obtain ⟨_, _, A', c', e, _, hcell⟩ := H1.out.parts
        injection e with e4 e5 e6
        subst e4
        obtain ⟨b, off, rfl, hcl⟩ := hcell (by rw [HN.out]; omega)
        rw [HN.out] at hcl
        have hET : E - p = 6 + T := by omega
        have HS1 := Lib.hid (show Bytes w1 (.slice (some ⟨b, off + p, none⟩) (E - p) (c - p)) (D.take (6 + T)) from by
          rw [← HD.out, hET]
          exact (Bytes.tail (A' := some ⟨b, off + p, none⟩) (n := n) (k := p) (d := c - p) H1.out (by omega) (by omega) (fun _ b' off' e => by injection e with e; injection e with e1 e2; subst e1 e2; rfl)).head (by omega) (by omega))
        have hslt : Crc.sum (D.take (6 + T)) < 4294967296 := Crc.sum_lt _ HS1.out.1
        obtain ⟨s, hs⟩ : ∃ s, Crc.sum (D.take (6 + T)) = s := ⟨_, rfl⟩
        rw [hs] at hslt
        have HSS := Lib.hid hs
        have hsI : (s : Int) < 4294967296 := by omega
        have hw4 : Fr.whole D = true ↔ l.getD E 0 = s / 16777216 % 256 ∧ l.getD (E + 1) 0 = s / 65536 % 256 ∧ l.getD (E + 2) 0 = s / 256 % 256 ∧ l.getD (E + 3) 0 = s % 256 := by
          rw [Fr.whole_iff, HT.out, HDL.out, Fr.sum4, HSS.out, ← HD.out, List.drop_drop, show p + (6 + T) = E from by omega, take_four l E (by rw [HN.out]; exact hEn)]
          simp only [Fr.four, List.cons.injEq, and_true]
          constructor
          · exact fun h => h.2.2.2
          · exact fun h => ⟨by omega, hc2, by omega, h⟩
        have HW4 := Lib.hid hw4
        have b0 := u8_lt H1.out.1 E
        have b1 := u8_lt H1.out.1 (E + 1)
        have b2 := u8_lt H1.out.1 (E + 2)
        have b3 := u8_lt H1.out.1 (E + 3)
        have x0 := hcl E (by omega)
        have x1 := hcl (E + 1) (by omega)
        have x2 := hcl (E + 2) (by omega)
        have x3 := hcl (E + 3) (by omega)
        obtain ⟨y0, h0⟩ : ∃ y, l.getD E 0 = y := ⟨_, rfl⟩
        obtain ⟨y1, h1⟩ : ∃ y, l.getD (E + 1) 0 = y := ⟨_, rfl⟩
        obtain ⟨y2, h2⟩ : ∃ y, l.getD (E + 2) 0 = y := ⟨_, rfl⟩
        obtain ⟨y3, h3⟩ : ∃ y, l.getD (E + 3) 0 = y := ⟨_, rfl⟩
        rw [h0] at x0 b0 HW4
        rw [h1] at x1 b1 HW4
        rw [h2] at x2 b2 HW4
        rw [h3] at x3 b3 HW4
        have HE := Lib.hid hE
        have HEE := Lib.hid (show E + 4 ≤ n ∧ p ≤ E ∧ 6 ≤ n - p ∧ T ≤ n - p - 6 ∧ n - p - 6 - T = m from ⟨hEn, hEp, hc1, hc3, hm⟩)
        have HBS := Lib.hid (show y0 < 256 ∧ y1 < 256 ∧ y2 < 256 ∧ y3 < 256 ∧ s < 4294967296 from ⟨b0, b1, b2, b3, hslt⟩)
        clear hcell e5 e6 hs hw4 hcl h0 h1 h2 h3 hET hE hm hc1 hc3 hm4 hEn hEp b0 b1 b2 b3 hslt hsI
        go_wp2_with fail
        refine (ref_is _ (D.take (6 + T)) _ (s : Int) HS1.out (by rw [HSS.out])).mono ?_
        rintro e w' ⟨rfl, rfl⟩
        by_cases e0 : (y0 : Int) = (s : Int) / 16777216 % 256
        rotate_left
        · go_wp2
          go_ret3
          refine frameIs_not' HD.out (fun hw => ?_) hB1
          have h1 := HW4.out.1 hw
          have h2 := HBS.out
          omega
        rw [e0] at x0
        have E0 := Lib.hid e0
        clear e0
        by_cases e1 : (y1 : Int) = (s : Int) / 65536 % 256
        rotate_left
        · go_wp2
          go_ret3
          refine frameIs_not' HD.out (fun hw => ?_) hB1
          have h1 := HW4.out.1 hw
          have h2 := HBS.out
          omega
        rw [e1] at x1
        have E1 := Lib.hid e1
        clear e1
        by_cases e2 : (y2 : Int) = (s : Int) / 256 % 256
        rotate_left
        · go_wp2
          go_ret3
          refine frameIs_not' HD.out (fun hw => ?_) hB1
          have h1 := HW4.out.1 hw
          have h2 := HBS.out
          omega
        rw [e2] at x2
        have E2 := Lib.hid e2
        clear e2
        by_cases e3 : (y3 : Int) = (s : Int) % 256
        rotate_left
        · go_wp2
          go_ret3
          refine frameIs_not' HD.out (fun hw => ?_) hB1
          have h1 := HW4.out.1 hw
          have h2 := HBS.out
          omega
        rw [e3] at x3
        have E3 := Lib.hid e3
        clear e3
        have hw : Fr.whole D = true := HW4.out.2 (by have h2 := HBS.out; have := E0.out; have := E1.out; have := E2.out; have := E3.out; omega)
        have HW := Lib.hid hw
        have HEI := Lib.hid (show (E : Int) + 4 = ((p + (10 + T) : Nat) : Int) from by have := HE.out; omega)
        clear hw
        go_wp2
        go_ret3
        exact ⟨hB1, .inl ⟨HW.out, _, by rw [HT.out, ← HEI.out]; rfl, by rw [HXE.out]; exact HOX.out⟩⟩
end Go.Proofs.Ytoloidfkpfdboaa

/- What the document's own Scan answers; rows that are the same. -/
namespace Go.Proofs.Ytoloidfkpfdboaa
set_option maxRecDepth 100000
open Go.ChangeShapes Go.WideShapes Go.ChangeAt Go.RowKit

def RefScanIs (base : Nat) (l : List Nat) (N : Nat) (w : World) (e : Ending) (w' : World) : Prop :=
  ∃ u, e = .returned (.tuple #[u, .int .i64 ((Fr.pos l N : Nat) : Int)]) ∧ OwnR w' base u (Fr.rows l N) ∧ Below base w w'

set_option maxHeartbeats 2000000 in
theorem refscan_any (v : Value) (l : List Nat) (N : Nat) (w : World) (h : Bytes w v l) (hS : Fr.Scn l N) (hl : l.length ≤ 1099511627776) :
    Calls Try.prog 45 #[v] w (RefScanIs w.heap.size l N w) := by
  have H := Lib.hid h
  obtain ⟨_, _, A, c, rfl, _, _⟩ := h.parts
  obtain ⟨n, hn⟩ : ∃ n, l.length = n := ⟨_, rfl⟩
  rw [hn] at H hl ⊢
  have HN := Lib.hid hn
  have HS := Lib.hid hS
  clear h hn hS
  go_enter Try.func45, Try.ntmps45
  go_wp2_with fail
  go_loopw [4, 5] (fun u i wr => ∃ k : Nat, k ≤ N ∧ i = .int .i64 ((Fr.pos l k : Nat) : Int) ∧ OwnR wr w.heap.size u (Fr.rows l k) ∧ Below w.heap.size w wr) (fun _ i _ => n - (intOf i).toNat)
  case atStart => exact ⟨0, Nat.zero_le _, rfl, ownR_none _ _, Below.refl _ _⟩
  case round =>
    obtain ⟨k, hk, rfl, ho, hb⟩ := hrel
    have hle := (HS.out.le hk).1
    have hkl := (HS.out.le hk).2
    have HR := Lib.hid (Fr.rows_succ l k)
    have HLL := Lib.hid (Fr.rows_length l k)
    have HSK := Lib.hid (show k < N → Fr.whole (l.drop (Fr.pos l k)) = true from HS.out.1 k)
    have HSN := Lib.hid (show k = N → Fr.whole (l.drop (Fr.pos l k)) = false from fun e => by subst e; exact HS.out.2)
    have HNX := Lib.hid (show Fr.pos l (k + 1) = Fr.pos l k + (10 + Fr.told (l.drop (Fr.pos l k))) from rfl)
    have HTL := Lib.hid (show k < N → Fr.pos l k + 10 + Fr.told (l.drop (Fr.pos l k)) ≤ l.length from fun h => Fr.pos_next (HS.out.1 k h))
    obtain ⟨p, hp⟩ : ∃ p, Fr.pos l k = p := ⟨_, rfl⟩
    rw [hp] at hle hkl HSK HSN HNX HTL HR ⊢
    have HP := Lib.hid hp
    have HO := Lib.hid ho
    have hz := hb.size
    clear hp ho
    go_wp2_with fail
    refine (frame_any _ l p _ (H.out.under hb) (by rw [HN.out]; exact hl) hle).mono ?_
    rintro e w1 ⟨hb1, ⟨hw, x, rfl, hox⟩ | ⟨hw, x, y, rfl⟩⟩
    · have hlt : k < N := by
        rcases Nat.lt_or_ge k N with h | h
        · exact h
        · rw [HSN.out (by omega)] at hw
          cases hw
      have htl := HTL.out hlt
      rw [HN.out] at htl
      obtain ⟨T, hT⟩ : ∃ T, Fr.told (l.drop p) = T := ⟨_, rfl⟩
      rw [hT] at htl HNX ⊢
      have HX := Lib.hid (hox.more (base' := w.heap.size) hz)
      have HO1 := Lib.hid (HO.out.under hb1)
      have hb2 := hb.trans (hb1.mono hz)
      have hz1 := hb2.size
      obtain ⟨_, _, Ax, cx, rfl, _, _⟩ := hox.bytes.parts
      clear hw hT hox hb1
      go_wp2_with (at_builtin; refine wpList_append_row rfl _ _ rfl w.heap.size w1.heap.size _ (.slice Ax (Fr.held (l.drop p)).length cx) (Fr.rows l k) (Fr.held (l.drop p)) rfl ?_ rfl ?_ ?_ ?_ ?_ (Fr.rows l (k + 1)) HR.out.symm ?_)
      case refine_1 => exact HO1.out.under ((Below.refl _ _).alloc (Nat.le_refl _) _)
      case refine_2 => exact HX.out.alloc _
      case refine_3 => exact (show Blk _ w1.heap.size 25 #[.slice Ax (Fr.held (l.drop p)).length cx] from heap_alloc_new w1 _).at 0
      case refine_4 => rw [HLL.out]; have := HN.out; omega
      case refine_5 => simp; omega
      case refine_6 =>
        rintro v' w' ⟨ho', _, _, hb'⟩
        have HO' := Lib.hid ho'
        have hb3 : Below w.heap.size w w' := hb2.trans ((((Below.refl _ w1).alloc (Nat.le_refl _) (.cells #[.slice Ax (Fr.held (l.drop p)).length cx] 25)).mono hz1).trans hb')
        clear ho' hb' hb2
        go_wp2
        go_roundw
        case rel => exact ⟨k + 1, hlt, by rw [HNX.out]; simp, HO'.out, hb3⟩
        case measure => simp [intOf]; omega
    · have hkN : k = N := by
        rcases Nat.lt_or_ge k N with h | h
        · rw [HSK.out h] at hw
          cases hw
        · omega
      subst hkN
      have hB1 := hb.trans (hb1.mono hz)
      have HO1 := Lib.hid (HO.out.under hb1)
      obtain ⟨Au, cu, rfl, _⟩ := HO1.out.parts
      clear hw hb1 HSK HSN HTL
      go_wp2
      go_ret2
      exact ⟨_, by rw [HP.out]; rfl, HO1.out, hB1⟩

theorem drewN_add (w : World) (m q : Nat) : (w.drewN m).drewN q = w.drewN (m + q) := by
  simp [World.drewN, Nat.add_assoc]
set_option maxHeartbeats 2000000 in
theorem same_any (v u : Value) (L : List (List Nat)) (w : World) (n : Nat) (h1 : Rows2 w v L) (h2 : Rows2 w u L) :
    Calls Try.prog 13 #[v, u] (w.drewN n) fun e w' => e = .returned (.bool true) ∧ ∃ m, w' = w.drewN m := by
  have H1 := Lib.hid h1
  have H2 := Lib.hid h2
  obtain ⟨hm, A1, c1, rfl, _, _⟩ := h1
  obtain ⟨_, A2, c2, rfl, _, _⟩ := h2
  obtain ⟨N, hN⟩ : ∃ N, L.length = N := ⟨_, rfl⟩
  rw [hN] at H1 H2 hm ⊢
  clear hN
  go_enter Try.func13, Try.ntmps13
  go_wp2_with fail
  go_loopw [5] (fun i wr => ∃ (k m : Nat), k ≤ N ∧ i = .int .i64 k ∧ wr = w.drewN m) (fun i _ => N - (intOf i).toNat)
  case atStart => exact ⟨0, n, Nat.zero_le _, rfl, rfl⟩
  case round =>
    obtain ⟨k, m, hk, rfl, hwm⟩ := hrel
    have hheap : wr.heap = w.heap := by rw [hwm]; rfl
    have HM := Lib.hid hwm
    clear hwm
    by_cases hlt : k < N
    · obtain ⟨b1, o1, u1, rfl, x1, y1⟩ := (H1.out.heap hheap).at hlt
      obtain ⟨b2, o2, u2, rfl, x2, y2⟩ := (H2.out.heap hheap).at hlt
      have t1 := fun j : Nat => run_text_at y1 (wr.drewN j) rfl
      have t2 := fun j : Nat => run_text_at y2 (wr.drewN j) rfl
      clear y1 y2 hheap
      go_wp2_with fail
      go_quiet (fail)
      go_wp2
      go_roundw
      case rel => exact ⟨k + 1, m + nq, by omega, by go_num, by rw [HM.out]; exact drewN_add w m nq⟩
      case measure => simp [intOf]; omega
    · obtain rfl : k = N := by omega
      go_wp2
      go_ret
      exact ⟨rfl, m, HM.out⟩
theorem same_is (v u : Value) (L : List (List Nat)) (w : World) (h1 : Rows2 w v L) (h2 : Rows2 w u L) :
    Calls Try.prog 13 #[v, u] w fun e w' => e = .returned (.bool true) ∧ ∃ m, w' = w.drewN m :=
  same_any v u L w 0 h1 h2
end Go.Proofs.Ytoloidfkpfdboaa
