/- What package fram's plain calls answer: a sum in four bytes, a frame put, the first frame of bytes. -/
import Derived.Test.YtoloidfkpfdboaaZConcat
import Derived.Test.YtoloidfkpfdboaaZ00
import Derived.Test.YtoloidfkpfdboaaZ02
import Derived.Test.YtoloidfkpfdboaaZ05
import Derived.Deep.RegionHeld
import Derived.Deep.RegionHeld3
import Derived.Deep.CutBlock
import Derived.RegionTactic
namespace Go.Proofs.Ytoloidfkpfdboaa
set_option maxRecDepth 100000
open Go.ChangeShapes Go.WideShapes Go.ChangeAt Go.RowKit

theorem made_at {base : Nat} {l m : List Nat} {w w' : World} {e : Ending} (h : Made base l w e w') (e' : l = m) : Made base m w e w' := by rwa [← e']

set_option maxHeartbeats 1000000 in
theorem fsum_any (v : Value) (l : List Nat) (w : World) (h : Bytes w v l) :
    Calls Try.prog 70 #[v] w (Made w.heap.size (Fr.sum4 l) w) := by
  have H := Lib.hid h
  have hlt := Crc.sum_lt l h.1
  clear h
  go_enter Try.func70, Try.ntmps70
  go_wp2_with fail
  refine (sum_any v l w H.out).mono ?_
  rintro e w' ⟨rfl, rfl⟩
  obtain ⟨s, hs⟩ : ∃ s, Crc.sum l = s := ⟨_, rfl⟩
  rw [hs] at hlt ⊢
  have HS := Lib.hid hs
  clear hs
  go_wp2
  go_ret
  have e : row8 (Fr.four s) = [.int .u8 ((s : Int) / 16777216), .int .u8 ((s : Int) / 65536 % 256), .int .u8 ((s : Int) / 256 % 256), .int .u8 ((s : Int) % 256)] := by
    simp [row8, Fr.four]
    omega
  have ho := own_new w w.heap.size (Fr.four s) (Fr.four_lt s) (by unfold maxLen Fr.four; simp) (Nat.le_refl _)
  rw [e] at ho
  exact ⟨_, rfl, by rw [Fr.sum4, HS.out]; exact ho, (Below.refl _ _).alloc (Nat.le_refl _) _⟩

theorem fsum_is (v : Value) (l r : List Nat) (w : World) (h : Bytes w v l) (hr : Fr.sum4 l = r) :
    Calls Try.prog 70 #[v] w (Made w.heap.size r w) := by
  subst hr
  exact fsum_any v l w h

/-- Three rows of bytes, laid as a row. -/
theorem rows2_three (w : World) (x y z : Value) (l m r : List Nat) (e : TypeId) (hx : Bytes w x l) (hy : Bytes w y m) (hz : Bytes w z r) :
    Rows2 (w.alloc (.cells #[x, y, z] e)) (.slice (some ⟨w.heap.size, 0, none⟩) 3 3) [l, m, r] := by
  have hB : Blk (w.alloc (.cells #[x, y, z] e)) w.heap.size e #[x, y, z] := heap_alloc_new w _
  refine ⟨by simp, _, 3, rfl, by simp, fun _ => ⟨w.heap.size, 0, rfl, fun i hi => ?_⟩⟩
  have : i = 0 ∨ i = 1 ∨ i = 2 := by simp at hi; omega
  rcases this with rfl | rfl | rfl
  · exact ⟨x, hB.at 0, hx.alloc _⟩
  · exact ⟨y, hB.at 1, hy.alloc _⟩
  · exact ⟨z, hB.at 2, hz.alloc _⟩

theorem run_min_two {P : Program} (w : World) (ts : Array TypeId) (t : TypeId) (x y n : Int) (h : min x y = n) : (Builtin.min_ ts t #[.int .i64 x, .int .i64 y]).run P w = .ok (.int .i64 n) w := by
  have e : (if y < x then y else x) = n := by
    subst h
    simp only [Int.min_def]
    split <;> split <;> omega
  simp [Builtin.min_, Builtin.min2, e]

/-- What the first frame's call answers. -/
def FirstIs (l : List Nat) (w : World) (e : Ending) (w' : World) : Prop :=
  ∃ u, e = .returned (.tuple #[u, .bool (Fr.whole l)]) ∧ (Fr.whole l = true → ∃ A c, u = .slice A (Fr.told l) c ∧ Bytes w' u (Fr.held l)) ∧ Below w.heap.size w w'
theorem firstIs_not {l : List Nat} {w w' : World} {u : Value} (h : Fr.whole l = false) (hb : Below w.heap.size w w') : FirstIs l w (.returned (.tuple #[u, .bool false])) w' :=
  ⟨u, by rw [h], fun e => (by rw [h] at e; cases e), hb⟩

set_option maxHeartbeats 2000000 in
theorem first_any (v : Value) (l : List Nat) (w : World) (h : Bytes w v l) (hl : l.length ≤ 1099511627776) :
    Calls Try.prog 67 #[v] w (FirstIs l w) := by
  have H := Lib.hid h
  obtain ⟨_, _, A, c, rfl, hc, _⟩ := h.parts
  clear h
  obtain ⟨n, hn⟩ : ∃ n, l.length = n := ⟨_, rfl⟩
  rw [hn] at H hl hc ⊢
  have HN := Lib.hid hn
  clear hn
  by_cases h6 : n < 6
  · have hmin := fun (W : World) (ts : Array TypeId) (t : TypeId) => run_min_two (P := Try.prog) W ts t 6 (n : Int) (n : Int) (by omega)
    have HT := Lib.hid (H.out.head (k := n) (Nat.le_refl _) hc)
    have hw : Fr.whole l = false := by
      rcases hw : Fr.whole l with _ | _
      · rfl
      · have := (Fr.whole_iff.1 hw).1
        rw [HN.out] at this
        omega
    have HW := Lib.hid hw
    clear hw
    go_enter Try.func67, Try.ntmps67
    go_wp2_with fail
    refine (read_any _ (l.take n) w HT.out (by rw [List.length_take]; omega)).mono ?_
    rintro e w1 ⟨g, rfl, hg1, hg2, hr1, hb1⟩
    have hf := Cd.fits_short (l := l.take n) (most := 10000) (by rw [List.length_take]; omega)
    go_wp2_with fail
    refine (rnum_is _ _ g _ none 10000 0 _ hr1 (by simp [Cd.numS, hf]) (by simp [Cd.numN, hf])).mono ?_
    rintro e w2 ⟨rfl, hr2, hb2⟩
    go_wp2_with fail
    refine (ok_is _ _ g _ false _ hr2 rfl).mono ?_
    rintro e w' ⟨rfl, rfl⟩
    go_wp2
    go_ret2
    exact firstIs_not HW.out (hb1.trans (Below.ofGrown hb2 hg1 hb1.size))
  · have hmin := fun (W : World) (ts : Array TypeId) (t : TypeId) => run_min_two (P := Try.prog) W ts t 6 (n : Int) (6 : Int) (by omega)
    have hc6 : 6 ≤ c := by omega
    have HT := Lib.hid (H.out.head (k := 6) (by omega) hc6)
    have htl : (l.take 6).length = 6 := by rw [List.length_take, HN.out]; omega
    have htt : (l.take 6).take 6 = l.take 6 := by rw [List.take_take]; rfl
    by_cases hT : Fr.told l ≤ 10000
    · have hf : Cd.fits (some (l.take 6)) 10000 = true := Cd.fits_some.2 ⟨by omega, by rw [htt]; show ((Fr.told l : Nat) : Int) ≤ 10000; omega⟩
      have hs1 : Cd.numS (some (l.take 6)) 10000 = some [] := by simp [Cd.numS, hf, Cd.rest]
      have hs2 : Cd.numN (some (l.take 6)) 10000 = Fr.told l := by simp only [Cd.numN, hf, if_true, Cd.rest, Option.getD_some, htt]; rfl
      obtain ⟨T, hTe⟩ : ∃ T, Fr.told l = T := ⟨_, rfl⟩
      rw [hTe] at hT hs2
      have HTE := Lib.hid hTe
      obtain ⟨E, hE⟩ : ∃ E, 6 + T = E := ⟨_, rfl⟩
      have HE := Lib.hid hE
      have hE' : (6 : Int) + (T : Int) = (E : Int) := by omega
      have hE6 : 6 ≤ E := by omega
      have hE6' : (6 : Int) ≤ (E : Int) := by omega
      clear hTe hf htt htl hE
      go_enter Try.func67, Try.ntmps67
      go_wp2_with fail
      refine (read_any _ (l.take 6) w HT.out (by rw [List.length_take]; omega)).mono ?_
      rintro e w1 ⟨g, rfl, hg1, hg2, hr1, hb1⟩
      go_wp2_with fail
      refine (rnum_is _ _ g _ (some []) 10000 (T : Int) _ hr1 hs1 (by rw [hs2])).mono ?_
      rintro e w2 ⟨rfl, hr2, hb2⟩
      go_wp2_with fail
      refine (ok_is _ _ g _ true _ hr2 rfl).mono ?_
      rintro e w' ⟨rfl, rfl⟩
      have hB2 : Below w.heap.size w w2 := hb1.trans (Below.ofGrown hb2 hg1 hb1.size)
      have H2 := Lib.hid (H.out.under hB2)
      clear hr2 hr1 hb2 hb1 hs1 hs2 hmin hg1 hg2
      by_cases hlong : (n : Int) < (E : Int) + 4
      · go_wp2
        go_ret2
        refine firstIs_not ?_ hB2
        rcases hw : Fr.whole l with _ | _
        · rfl
        · have := (Fr.whole_iff.1 hw).2.2.1
          have h2 := HE.out
          rw [HN.out, HTE.out] at this
          omega
      · obtain ⟨_, _, A', c', e, _, hcell⟩ := H2.out.parts
        injection e with e1 e2 e3
        subst e1
        obtain ⟨b, off, rfl, _⟩ := hcell (by rw [HN.out]; omega)
        clear hcell e2 e3
        have hc1 : E + 4 ≤ c := by omega
        have hc2 : (E : Int) + 4 ≤ (c : Int) := by omega
        have hc3 : ¬ c = E := by omega
        have hwr : IntKind.i64.wrap ((E : Int) + 4) = (E : Int) + 4 := by rw [IntKind.wrap_i64]; omega
        have hc5 : (E : Int) ≤ (E : Int) + 4 := by omega
        have hc6' : 0 ≤ (E : Int) := by omega
        have hc7 : ((E : Int) + 4).toNat = E + 4 := by omega
        have hc8 : (E : Int) ≤ (c : Int) := by omega
        have hc9 : 0 ≤ (E : Int) + 4 := by omega
        have hc4 : ¬ c = 6 := by omega
        have HA := Lib.hid (H2.out.head (k := E) (by omega) (by omega))
        go_wp2_with fail
        obtain ⟨S4, hS4⟩ : ∃ S4, Fr.sum4 (l.take E) = S4 := ⟨_, rfl⟩
        have HS4 := Lib.hid hS4
        have hTl : Bytes w2 (.slice (some ⟨b, off + E, none⟩) 4 (c - E)) ((l.drop E).take 4) :=
          (Bytes.tail (A' := some ⟨b, off + E, none⟩) (n := n) (k := E) (d := c - E) H2.out (by omega) (by omega) (fun _ b' off' e => by injection e with e; injection e with e1 e2; subst e1 e2; rfl)).head (by omega) (by omega)
        have HTl := Lib.hid hTl
        clear hS4 hTl
        go_region_held (fun _ => True) (trivial)
          (first
          | (go_at_call 70; ((with_reducible refine (fsum_is _ (l.take E) S4 _ ?_ HS4.out).mono ?_); (exact HA.out.heap rfl); (rintro e w3 ⟨v3, rfl, ho3, hb3⟩)); (have hb3' : Below w2.heap.size w2 w3 := ⟨hb3.os, hb3.tape, hb3.output, hb3.size, hb3.block⟩); (have HO3 := Lib.hid ho3.bytes); (clear ho3))
          | (go_at_call 69; ((with_reducible refine (equal_any _ _ ((l.drop E).take 4) S4 _ ?_ ?_).mono ?_); (exact (HTl.out.under hb3').heap rfl); (exact HO3.out.heap rfl); (rintro e w4 ⟨rfl, rfl⟩))))
        have hB3 : Below w.heap.size w w3 := hB2.trans (hb3'.mono hB2.size)
        have H3 := Lib.hid (H2.out.under hb3')
        clear HTl HO3 hb3 hb3' H2 HA H HT hwr
        obtain ⟨q, hd⟩ : ∃ q : Bool, decide ((l.drop E).take 4 = S4) = q := ⟨_, rfl⟩
        rw [hd]
        rcases q with _ | _
        rotate_left
        · have hT6 : E - 6 = T := by have := HE.out; omega
          have HQ := Lib.hid (of_decide_eq_true hd)
          clear hd
          go_wp2
          go_ret2
          have hw : Fr.whole l = true := Fr.whole_iff.2 ⟨by rw [HN.out]; omega, by rw [HTE.out]; exact hT, by rw [HTE.out, HN.out, HE.out]; omega, by rw [HTE.out, HE.out, HQ.out, HS4.out]⟩
          refine ⟨_, by rw [hw]; rfl, fun _ => ⟨some ⟨b, off + 6, none⟩, c - 6, by rw [HTE.out]; rfl, ?_⟩, hB3⟩
          unfold Fr.held
          rw [HTE.out]
          exact (Bytes.tail (A' := some ⟨b, off + 6, none⟩) (n := n) (k := 6) (d := c - 6) H3.out (by omega) (by omega) (fun _ b' off' e => by injection e with e; injection e with e1 e2; subst e1 e2; rfl)).head (by omega) (by omega)
        · have HQ := Lib.hid (of_decide_eq_false hd)
          clear hd
          go_wp2
          go_ret2
          refine firstIs_not ?_ hB3
          rcases hw : Fr.whole l with _ | _
          · rfl
          · have := (Fr.whole_iff.1 hw).2.2.2
            rw [HTE.out, HE.out, HS4.out] at this
            exact absurd this HQ.out
    · have hf := Cd.fits_great (l := l.take 6) (most := 10000) (by rw [htt]; show (10000 : Int) < ((Fr.told l : Nat) : Int); omega)
      have hw : Fr.whole l = false := by
        rcases hw : Fr.whole l with _ | _
        · rfl
        · exact absurd (Fr.whole_iff.1 hw).2.1 hT
      have HW := Lib.hid hw
      clear hw htt htl
      go_enter Try.func67, Try.ntmps67
      go_wp2_with fail
      refine (read_any _ (l.take 6) w HT.out (by rw [List.length_take]; omega)).mono ?_
      rintro e w1 ⟨g, rfl, hg1, hg2, hr1, hb1⟩
      go_wp2_with fail
      refine (rnum_is _ _ g _ none 10000 0 _ hr1 (by simp [Cd.numS, hf]) (by simp [Cd.numN, hf])).mono ?_
      rintro e w2 ⟨rfl, hr2, hb2⟩
      go_wp2_with fail
      refine (ok_is _ _ g _ false _ hr2 rfl).mono ?_
      rintro e w' ⟨rfl, rfl⟩
      go_wp2
      go_ret2
      exact firstIs_not HW.out (hb1.trans (Below.ofGrown hb2 hg1 hb1.size))
end Go.Proofs.Ytoloidfkpfdboaa
