/- ArtiOwn: what is read of an artifact is one's own; two artifacts are alike just if both their parts are. -/
import Derived.Test.YtldnpedegcbglaaArtiAwake
import Derived.Test.YtldnpedegcbglaaMine
import Derived.Deep.CutBlock
import Derived.Deep.DeepCutAuto
import Derived.Deep.LoopGhost
import Derived.Test.YtldnpedegcbglaaRegion
namespace Go.Proofs.Ytldnpedegcbglaa
set_option maxRecDepth 100000
open Go.ChangeShapes Go.WideShapes Go.ChangeAt Go.RowKit

def aup (c : Nat) : Nat := (c + 1) % 256
theorem aup_int (x : Nat) : ((aup x : Nat) : Int) = ((x : Int) + 1) % 256 := by unfold aup; omega
theorem aup_lt (x : Nat) : aup x < 256 := Nat.mod_lt _ (by decide)

/-- The five texts that the statement's last line reads. -/
abbrev AReads (w : World) (A1 A2 A3 A4 : Option Addr) (b1 : Value) (n1 n2 n3 n4 c1 c2 c3 c4 : Nat) (p v q u P : List Nat) : Prop :=
  (convert 23 9 (.slice A1 n1 c1)).run Try.prog w = .ok (.string (str p)) w ∧ (convert 23 9 (.slice A2 n2 c2)).run Try.prog w = .ok (.string (str v)) w ∧
  (convert 23 9 (.slice A3 n3 c3)).run Try.prog w = .ok (.string (str q)) w ∧ (convert 23 9 (.slice A4 n4 c4)).run Try.prog w = .ok (.string (str u)) w ∧
  (convert 23 9 b1).run Try.prog w = .ok (.string (str P)) w

set_option maxRecDepth 100000 in
set_option maxHeartbeats 16000000 in
theorem aown_any (v1 v2 v3 v4 : Value) (p v q u : List Nat) (w : World) (h1 : Bytes w v1 p) (h2 : Bytes w v2 v) (h3 : Bytes w v3 q) (h4 : Bytes w v4 u)
    (m1 : p.length ≤ 1048576) (m2 : v.length ≤ 1048576) (m3 : q.length ≤ 1048576) (m4 : u.length ≤ 1048576) :
    Calls Try.prog 5 #[v1, v2, v3, v4] w fun e w' => e = .returned (.bool true) ∧ Below w.heap.size w w' := by
  have H1 := Lib.hid h1
  have H2 := Lib.hid h2
  have H3 := Lib.hid h3
  have H4 := Lib.hid h4
  obtain ⟨_, _, A1, c1, rfl, _, _⟩ := h1.parts
  obtain ⟨_, _, A2, c2, rfl, _, _⟩ := h2.parts
  obtain ⟨_, _, A3, c3, rfl, _, _⟩ := h3.parts
  obtain ⟨_, _, A4, c4, rfl, _, _⟩ := h4.parts
  obtain ⟨n1, hn1⟩ : ∃ n, p.length = n := ⟨_, rfl⟩
  obtain ⟨n2, hn2⟩ : ∃ n, v.length = n := ⟨_, rfl⟩
  obtain ⟨n3, hn3⟩ : ∃ n, q.length = n := ⟨_, rfl⟩
  obtain ⟨n4, hn4⟩ : ∃ n, u.length = n := ⟨_, rfl⟩
  rw [hn1] at H1 m1 ⊢
  rw [hn2] at H2 m2 ⊢
  rw [hn3] at H3 m3 ⊢
  rw [hn4] at H4 m4 ⊢
  have HN1 := Lib.hid hn1
  have HN2 := Lib.hid hn2
  have HN3 := Lib.hid hn3
  have HN4 := Lib.hid hn4
  clear h1 h2 h3 h4 hn1 hn2 hn3 hn4
  go_enter Try.func5, Try.ntmps5
  by_cases hbig : 400 < n1 + n2 + n3 + n4
  · have hI : (400 : Int) < (n1 : Int) + (n2 : Int) + (n3 : Int) + (n4 : Int) := by omega
    go_wp2_with fail
    refine (aawake_any _).mono ?_
    rintro e w2 ⟨rfl, hb2⟩
    go_wp2
    go_ret
    exact ⟨rfl, hb2⟩
  have hI : ¬ (400 : Int) < (n1 : Int) + (n2 : Int) + (n3 : Int) + (n4 : Int) := by omega
  by_cases hv : 256 < n2
  · have hvI : (256 : Int) < (n2 : Int) := by omega
    go_wp2_with fail
    refine (aawake_any _).mono ?_
    rintro e w2 ⟨rfl, hb2⟩
    go_wp2
    go_ret
    exact ⟨rfl, hb2⟩
  have hvI : ¬ (256 : Int) < (n2 : Int) := by omega
  by_cases hu : 256 < n4
  · have huI : (256 : Int) < (n4 : Int) := by omega
    go_wp2_with fail
    refine (aawake_any _).mono ?_
    rintro e w2 ⟨rfl, hb2⟩
    go_wp2
    go_ret
    exact ⟨rfl, hb2⟩
  have huI : ¬ (256 : Int) < (n4 : Int) := by omega
  obtain ⟨P, hP⟩ : ∃ P, Ar.make p v = P := ⟨_, rfl⟩
  obtain ⟨Q, hQ⟩ : ∃ Q, Ar.make q u = Q := ⟨_, rfl⟩
  obtain ⟨a, ha⟩ : ∃ a, decide (p = q) = a := ⟨_, rfl⟩
  obtain ⟨b, hb⟩ : ∃ b, decide (v = u) = b := ⟨_, rfl⟩
  have HPO : Hid (Ar.opn P = some (p, v)) := Lib.hid (by rw [← hP]; exact Ar.opn_make p v (by rw [HN1.out]; omega) (by rw [HN2.out]; omega))
  have HPL : Hid (P.length ≤ 1000) := Lib.hid (by rw [← hP, Ar.make_length, HN1.out, HN2.out]; omega)
  have HQP : Hid (decide (Q = P) = (a && b)) := Lib.hid (by
    have := Ar.make_inj (p := q) (v := u) (q := p) (u := v) (by rw [HN3.out]; omega) (by rw [HN4.out]; omega) (by rw [HN1.out]; omega) (by rw [HN2.out]; omega)
    rw [hP, hQ] at this
    rw [← ha, ← hb, Bool.eq_iff_iff]
    simp only [decide_eq_true_eq, Bool.and_eq_true]
    rw [this]
    exact ⟨fun h => ⟨h.1.symm, h.2.symm⟩, fun h => ⟨h.1.symm, h.2.symm⟩⟩)
  have HP := Lib.hid hP
  have HQ := Lib.hid hQ
  have HA := Lib.hid ha
  have HB := Lib.hid hb
  clear hP hQ ha hb
  go_wp2_with fail
  refine (amake_is _ _ p v P w H1.out H2.out (by rw [HN1.out]; omega) (by rw [HN2.out]; omega) HP.out).mono ?_
  rintro e w1 ⟨b1, rfl, ho1, hb1⟩
  have HB1 := Lib.hid hb1
  have HO1 := Lib.hid ho1.bytes
  have rt1 := run_text ho1.bytes
  clear ho1 hb1
  go_wp2_with fail
  refine (aopen_any b1 P w1 HO1.out (by have := HPL.out; omega) _ HPO.out).mono ?_
  rintro e w2 ⟨hb2, m, x, y, rfl, hm1, hm2, hx, hxb, hy⟩
  have HX := Lib.hid hx.mine
  have HXB := Lib.hid hxb
  have HY := Lib.hid hy.mine
  have HM1 := Lib.hid hm1
  have HB2 := Lib.hid hb2
  obtain ⟨Ax, cx, rfl, _, _⟩ := hx.mine.parts
  obtain ⟨Ay, cy, rfl, _, _⟩ := hy.mine.parts
  rw [HN1.out] at HX HXB ⊢
  rw [HN2.out] at HY ⊢
  clear hx hxb hy hm1 hm2 hb2 rt1
  go_wp2_with fail
  go_loopg [52] n1 (fun g iv wr => ∃ k : Nat, k ≤ n1 ∧ n1 - k ≤ g ∧ iv = .int .i64 (k : Int) ∧ Hid (∃ l', l'.length = n1 ∧ Mine wr w1.heap.size (.slice Ax n1 cx) l') ∧ Hid (Mine wr m (.slice Ay n2 cy) v) ∧ Hid (Below w1.heap.size w1 wr))
  case atStart => exact ⟨0, Nat.zero_le _, by omega, rfl, Lib.hid ⟨p, HN1.out, HX.out⟩, HY, HB2⟩
  case round =>
    obtain ⟨k, hk, hg, rfl, hM, hMY, hBW⟩ := hrel
    obtain ⟨wi, rfl⟩ : ∃ wx : World, wx = wr := ⟨_, rfl⟩
    by_cases hlt : k < n1
    · have hkI : (k : Int) < (n1 : Int) := by omega
      obtain ⟨l', hl', hm'⟩ := hM.out
      obtain ⟨_, g1, off, rfl, hgb, hgs, hfz, hcell⟩ := hm'.at (by omega)
      have hfk := hfz k hlt
      have hck := hcell k hlt
      obtain ⟨z, hz⟩ : ∃ z, l'.getD k 0 = z := ⟨_, rfl⟩
      have HSET : Hid (∃ l', l'.length = n1 ∧ Mine (wi.setCell ⟨g1, off + k, none⟩ (.int .u8 ((aup z : Nat) : Int))) w1.heap.size (.slice (some ⟨g1, off, none⟩) n1 cx) l') := Lib.hid ⟨_, by rw [List.length_set]; exact hl', hm'.set hlt (aup_lt z)⟩
      have HYS : Hid (Mine (wi.setCell ⟨g1, off + k, none⟩ (.int .u8 ((aup z : Nat) : Int))) m (.slice Ay n2 cy) v) := Lib.hid (hMY.out.same (by simp) fun j hj => Below.heap_setCell wi ⟨g1, off + k, none⟩ _ j fun e => by
        have h1 := (HXB.out g1 rfl).2
        have h2 := (hMY.out.lt j hj).1
        have h3 : j = g1 := e
        omega)
      rw [hz] at hck
      have HBS : Hid (Below w1.heap.size w1 (wi.setCell ⟨g1, off + k, none⟩ (.int .u8 ((aup z : Nat) : Int)))) := Lib.hid (hBW.out.setCell (p := ⟨g1, off + k, none⟩) hgb _)
      clear hcell hfz hz hM hm' hMY hBW HX HY HB2
      rw [aup_int] at HSET HYS HBS
      go_wp2
      go_roundg (n1 - (k + 1))
      case measure => omega
      case rel => exact ⟨k + 1, hlt, by omega, by go_num, HSET, HYS, HBS⟩
    · obtain rfl : k = n1 := by omega
      clear hlt hg hM HX HY HB2 hk
      go_wp2_with fail
      go_loopg [64] n2 (fun g iv wr => ∃ i : Nat, i ≤ n2 ∧ n2 - i ≤ g ∧ iv = .int .i64 (i : Int) ∧ Hid (∃ l', l'.length = n2 ∧ Mine wr m (.slice Ay n2 cy) l') ∧ Hid (Below w1.heap.size w1 wr))
      case atStart => exact ⟨0, Nat.zero_le _, by omega, rfl, Lib.hid ⟨v, HN2.out, hMY.out⟩, hBW⟩
      case round =>
        obtain ⟨i, hi, hg, rfl, hM, hBW2⟩ := hrel
        obtain ⟨wj, rfl⟩ : ∃ wx : World, wx = wr := ⟨_, rfl⟩
        by_cases hlt : i < n2
        · have hkI : (i : Int) < (n2 : Int) := by omega
          obtain ⟨l', hl', hm'⟩ := hM.out
          obtain ⟨_, g1, off, rfl, hgb, hgs, hfz, hcell⟩ := hm'.at (by omega)
          have hfk := hfz i hlt
          have hck := hcell i hlt
          obtain ⟨z, hz⟩ : ∃ z, l'.getD i 0 = z := ⟨_, rfl⟩
          have HSET : Hid (∃ l', l'.length = n2 ∧ Mine (wj.setCell ⟨g1, off + i, none⟩ (.int .u8 ((aup z : Nat) : Int))) m (.slice (some ⟨g1, off, none⟩) n2 cy) l') := Lib.hid ⟨_, by rw [List.length_set]; exact hl', hm'.set hlt (aup_lt z)⟩
          rw [hz] at hck
          have HBS : Hid (Below w1.heap.size w1 (wj.setCell ⟨g1, off + i, none⟩ (.int .u8 ((aup z : Nat) : Int)))) := Lib.hid (hBW2.out.setCell (p := ⟨g1, off + i, none⟩) (Nat.le_trans HM1.out hgb) _)
          clear hcell hfz hz hM hm' hMY hBW hBW2
          rw [aup_int] at HSET HBS
          go_wp2
          go_roundg (n2 - (i + 1))
          case measure => omega
          case rel => exact ⟨i + 1, hlt, by omega, by go_num, HSET, HBS⟩
        · obtain rfl : i = n2 := by omega
          have HO2 := Lib.hid (HO1.out.under hBW2.out)
          have HW := Lib.hid (HB1.out.trans (hBW2.out.mono HB1.out.size))
          have rt1 := run_text HO2.out
          have rtp := run_text (H1.out.under HW.out)
          have rtv := run_text (H2.out.under HW.out)
          have rtq := run_text (H3.out.under HW.out)
          have rtu := run_text (H4.out.under HW.out)
          have HQ3 := Lib.hid (H3.out.under HW.out)
          have HQ4 := Lib.hid (H4.out.under HW.out)
          have e1 : ((str P).toList == (str P).toList) = true := by rw [str_eq HO2.out.1 HO2.out.1]; exact decide_eq_true rfl
          have e3 : ((str p).toList == (str q).toList) = a := by rw [str_eq H1.out.1 H3.out.1]; exact HA.out
          have e4 : ((str v).toList == (str u).toList) = b := by rw [str_eq H2.out.1 H4.out.1]; exact HB.out
          have HW3 : Hid (∀ c ∈ Q, c < 256) := Lib.hid (by rw [← HQ.out]; exact Ar.make_lt H3.out.1 H4.out.1)
          have e2 : ((str Q).toList == (str P).toList) = (a && b) := by rw [str_eq HW3.out HO2.out.1]; exact HQP.out
          clear hlt hg hM hMY hBW hi
          have HP1 := Lib.hid (H1.out.under HW.out)
          have HP2 := Lib.hid (H2.out.under HW.out)
          have hq3 : q.length ≤ 100000000000 := by rw [HN3.out]; omega
          have hq4 : u.length ≤ 100000000000 := by rw [HN4.out]; omega
          have HL := Lib.hid (And.intro hq3 hq4)
          have HS : Hid (∀ W : World, Below wj.heap.size wj W → AReads W A1 A2 A3 A4 b1 k i n3 n4 c1 c2 c3 c4 p v q u P) := Lib.hid (fun W hb => ⟨run_text (HP1.out.under hb), run_text (HP2.out.under hb), run_text (HQ3.out.under hb), run_text (HQ4.out.under hb), run_text (HO2.out.under hb)⟩)
          have hs0 := HS.out wj (Below.refl _ _)
          have hs1 := HS.out wj.drew (Below.refl _ _).drew
          have HWZ := Lib.hid HW.out.size
          clear hq3 hq4
          rcases a with _ | _
          · rw [Bool.false_and] at e2
            clear e4 rt1 rtp rtq rtu rtv
            go_wp2_with fail
            refine wp_region_noPanic ?_
            refine wp_region_held_drew (S := fun w' => AReads w' A1 A2 A3 A4 b1 k i n3 n4 c1 c2 c3 c4 p v q u P) (by kernel_rfl) (hs1) (fun hHeld => ?_)
            refine takeW 0 (some 74) (oi := ?oT1) (v := ?vT1) ?hiT1 ?hdT1 (by kernel_rfl) (by kernel_rfl) (by kernel_rfl) (fun _ _ _ h => h) ?hwT1 ?hyT1 hHeld ?_
            case hiT1 => (simp only [List.getElem?_toArray, List.getElem?_cons_zero]; with_reducible rfl)
            case hdT1 => rfl
            case hwT1 => rfl
            case hyT1 => (intro w hSw; (try dsimp only at hSw); go_simp; first | done | with_reducible rfl)
            try simp only [Act.put, List.setIfInBounds_toArray, List.set_cons_zero, List.set_cons_succ]
            refine takeW 1 (some 75) (oi := ?oT2) (v := ?vT2) ?hiT2 ?hdT2 (by kernel_rfl) (by kernel_rfl) (by kernel_rfl) (fun _ _ _ h => h) ?hwT2 ?hyT2 hHeld ?_
            case hiT2 => (simp only [List.getElem?_toArray, List.getElem?_cons_succ, List.getElem?_cons_zero]; with_reducible rfl)
            case hdT2 => rfl
            case hwT2 => rfl
            case hyT2 => (intro w hSw; (try dsimp only at hSw); go_simp; first | done | with_reducible rfl)
            try simp only [Act.put, List.setIfInBounds_toArray, List.set_cons_zero, List.set_cons_succ]
            refine takeW 2 (some 76) (oi := ?oT3) (v := ?vT3) ?hiT3 ?hdT3 (by kernel_rfl) (by kernel_rfl) (by kernel_rfl) (fun _ _ _ h => h) ?hwT3 ?hyT3 hHeld ?_
            case hiT3 => (simp only [List.getElem?_toArray, List.getElem?_cons_succ, List.getElem?_cons_zero]; with_reducible rfl)
            case hdT3 => rfl
            case hwT3 => rfl
            case hyT3 => (intro w hSw; (try dsimp only at hSw); go_simp; first | done | with_reducible rfl)
            try simp only [Act.put, List.setIfInBounds_toArray, List.set_cons_zero, List.set_cons_succ]
            refine takeW 3 (some 77) (oi := ?oT4) (v := ?vT4) ?hiT4 ?hdT4 (by kernel_rfl) (by kernel_rfl) (by kernel_rfl) (fun _ _ _ h => h) ?hwT4 ?hyT4 hHeld ?_
            case hiT4 => (simp only [List.getElem?_toArray, List.getElem?_cons_succ, List.getElem?_cons_zero]; with_reducible rfl)
            case hdT4 => rfl
            case hwT4 => rfl
            case hyT4 => (intro w hSw; (try dsimp only at hSw); go_simp; first | done | with_reducible rfl)
            try simp only [Act.put, List.setIfInBounds_toArray, List.set_cons_zero, List.set_cons_succ]
            refine takeW 4 (some 78) (oi := ?oT5) (v := ?vT5) ?hiT5 ?hdT5 (by kernel_rfl) (by kernel_rfl) (by kernel_rfl) (fun _ _ _ h => h) ?hwT5 ?hyT5 hHeld ?_
            case hiT5 => (simp only [List.getElem?_toArray, List.getElem?_cons_succ, List.getElem?_cons_zero]; with_reducible rfl)
            case hdT5 => rfl
            case hwT5 => rfl
            case hyT5 => (intro w hSw; (try dsimp only at hSw); go_simp; first | done | with_reducible rfl)
            try simp only [Act.put, List.setIfInBounds_toArray, List.set_cons_zero, List.set_cons_succ]
            refine takeW 5 (some 79) (oi := ?oT6) (v := ?vT6) ?hiT6 ?hdT6 (by kernel_rfl) (by kernel_rfl) (by kernel_rfl) (fun _ _ _ h => h) ?hwT6 ?hyT6 hHeld ?_
            case hiT6 => (simp only [List.getElem?_toArray, List.getElem?_cons_succ, List.getElem?_cons_zero]; with_reducible rfl)
            case hdT6 => rfl
            case hwT6 => rfl
            case hyT6 => (intro w hSw; (try dsimp only at hSw); go_simp; first | done | with_reducible rfl)
            try simp only [Act.put, List.setIfInBounds_toArray, List.set_cons_zero, List.set_cons_succ]
            refine takeW 6 (some 80) (oi := ?oT7) (v := ?vT7) ?hiT7 ?hdT7 (by kernel_rfl) (by kernel_rfl) (by kernel_rfl) (fun _ _ _ h => h) ?hwT7 ?hyT7 hHeld ?_
            case hiT7 => (simp only [List.getElem?_toArray, List.getElem?_cons_succ, List.getElem?_cons_zero]; with_reducible rfl)
            case hdT7 => rfl
            case hwT7 => rfl
            case hyT7 => (intro w hSw; (try dsimp only at hSw); go_simp; first | done | with_reducible rfl)
            try simp only [Act.put, List.setIfInBounds_toArray, List.set_cons_zero, List.set_cons_succ]
            refine takeW 7 (some 81) (oi := ?oT8) (v := ?vT8) ?hiT8 ?hdT8 (by kernel_rfl) (by kernel_rfl) (by kernel_rfl) (fun _ _ _ h => h) ?hwT8 ?hyT8 hHeld ?_
            case hiT8 => (simp only [List.getElem?_toArray, List.getElem?_cons_succ, List.getElem?_cons_zero]; with_reducible rfl)
            case hdT8 => rfl
            case hwT8 => rfl
            case hyT8 => (intro w hSw; (try dsimp only at hSw); go_simp; first | done | with_reducible rfl)
            try simp only [Act.put, List.setIfInBounds_toArray, List.set_cons_zero, List.set_cons_succ]
            refine takeW 8 (some 82) (oi := ?oT9) (v := ?vT9) ?hiT9 ?hdT9 (by kernel_rfl) (by kernel_rfl) (by kernel_rfl) (fun _ _ _ h => h) ?hwT9 ?hyT9 hHeld ?_
            case hiT9 => (simp only [List.getElem?_toArray, List.getElem?_cons_succ, List.getElem?_cons_zero]; with_reducible rfl)
            case hdT9 => rfl
            case hwT9 => rfl
            case hyT9 => (intro w hSw; (try dsimp only at hSw); go_simp; first | done | with_reducible rfl)
            try simp only [Act.put, List.setIfInBounds_toArray, List.set_cons_zero, List.set_cons_succ]
            refine takeW 9 (some 83) (oi := ?oT10) (v := ?vT10) ?hiT10 ?hdT10 (by kernel_rfl) (by kernel_rfl) (by kernel_rfl) (fun _ _ _ h => h) ?hwT10 ?hyT10 hHeld ?_
            case hiT10 => (simp only [List.getElem?_toArray, List.getElem?_cons_succ, List.getElem?_cons_zero]; with_reducible rfl)
            case hdT10 => rfl
            case hwT10 => rfl
            case hyT10 => (intro w hSw; (try dsimp only at hSw); go_simp; first | done | with_reducible rfl)
            try simp only [Act.put, List.setIfInBounds_toArray, List.set_cons_zero, List.set_cons_succ]
            refine takeW 12 (some 86) (oi := ?oT11) (v := ?vT11) ?hiT11 ?hdT11 (by kernel_rfl) (by kernel_rfl) (by kernel_rfl) (fun _ _ _ h => h) ?hwT11 ?hyT11 hHeld ?_
            case hiT11 => (simp only [List.getElem?_toArray, List.getElem?_cons_succ, List.getElem?_cons_zero]; with_reducible rfl)
            case hdT11 => rfl
            case hwT11 => rfl
            case hyT11 => (intro w hSw; (try dsimp only at hSw); go_simp; first | done | with_reducible rfl)
            try simp only [Act.put, List.setIfInBounds_toArray, List.set_cons_zero, List.set_cons_succ]
            refine takeW 14 (some 88) (oi := ?oT12) (v := ?vT12) ?hiT12 ?hdT12 (by kernel_rfl) (by kernel_rfl) (by kernel_rfl) (fun _ _ _ h => h) ?hwT12 ?hyT12 hHeld ?_
            case hiT12 => (simp only [List.getElem?_toArray, List.getElem?_cons_succ, List.getElem?_cons_zero]; with_reducible rfl)
            case hdT12 => rfl
            case hwT12 => rfl
            case hyT12 => (intro w hSw; (try dsimp only at hSw); go_simp; first | done | with_reducible rfl)
            try simp only [Act.put, List.setIfInBounds_toArray, List.set_cons_zero, List.set_cons_succ]
            refine takeW 15 (some 89) (oi := ?oT13) (v := ?vT13) ?hiT13 ?hdT13 (by kernel_rfl) (by kernel_rfl) (by kernel_rfl) (fun _ _ _ h => h) ?hwT13 ?hyT13 hHeld ?_
            case hiT13 => (simp only [List.getElem?_toArray, List.getElem?_cons_succ, List.getElem?_cons_zero]; with_reducible rfl)
            case hdT13 => rfl
            case hwT13 => rfl
            case hyT13 => (intro w hSw; (try dsimp only at hSw); go_simp; first | done | with_reducible rfl)
            try simp only [Act.put, List.setIfInBounds_toArray, List.set_cons_zero, List.set_cons_succ]
            refine takeW 16 (some 90) (oi := ?oT14) (v := ?vT14) ?hiT14 ?hdT14 (by kernel_rfl) (by kernel_rfl) (by kernel_rfl) (fun _ _ _ h => h) ?hwT14 ?hyT14 hHeld ?_
            case hiT14 => (simp only [List.getElem?_toArray, List.getElem?_cons_succ, List.getElem?_cons_zero]; with_reducible rfl)
            case hdT14 => rfl
            case hwT14 => rfl
            case hyT14 => (intro w hSw; (try dsimp only at hSw); go_simp; first | done | with_reducible rfl)
            try simp only [Act.put, List.setIfInBounds_toArray, List.set_cons_zero, List.set_cons_succ]
            refine takeW 17 (some 91) (oi := ?oT15) (v := ?vT15) ?hiT15 ?hdT15 (by kernel_rfl) (by kernel_rfl) (by kernel_rfl) (fun _ _ _ h => h) ?hwT15 ?hyT15 hHeld ?_
            case hiT15 => (simp only [List.getElem?_toArray, List.getElem?_cons_succ, List.getElem?_cons_zero]; with_reducible rfl)
            case hdT15 => rfl
            case hwT15 => rfl
            case hyT15 => (intro w hSw; (try dsimp only at hSw); go_simp; first | done | with_reducible rfl)
            try simp only [Act.put, List.setIfInBounds_toArray, List.set_cons_zero, List.set_cons_succ]
            refine takeW 18 (some 92) (oi := ?oT16) (v := ?vT16) ?hiT16 ?hdT16 (by kernel_rfl) (by kernel_rfl) (by kernel_rfl) (fun _ _ _ h => h) ?hwT16 ?hyT16 hHeld ?_
            case hiT16 => (simp only [List.getElem?_toArray, List.getElem?_cons_succ, List.getElem?_cons_zero]; with_reducible rfl)
            case hdT16 => rfl
            case hwT16 => rfl
            case hyT16 => (intro w hSw; (try dsimp only at hSw); go_simp; first | done | with_reducible rfl)
            try simp only [Act.put, List.setIfInBounds_toArray, List.set_cons_zero, List.set_cons_succ]
            refine stepOne 10 (o := ?oT17) ?hiT17 (by kernel_rfl) ?hwT17 (fun K hK => ?_)
            case hiT17 => (simp only [List.getElem?_toArray, List.getElem?_cons_succ, List.getElem?_cons_zero]; with_reducible rfl)
            case hwT17 => rfl
            go_simp
            go_at_call 17
            refine (amake_is _ _ q u Q _ ?_ ?_ HL.out.1 HL.out.2 HQ.out).mono ?_
            · exact HQ3.out.heap rfl
            · exact HQ4.out.heap rfl
            rintro e w6 ⟨v6, rfl, ho6, hb6⟩
            have hb6' : Below wj.heap.size wj w6 := ⟨hb6.os, hb6.tape, hb6.output, hb6.size, fun j hj => hb6.block j hj⟩
            have rt6 := run_text ho6.bytes
            have hs6 := HS.out w6 hb6'
            have HB6 := Lib.hid hb6'
            clear ho6 hb6 hb6'
            refine hK.out _ _ ?_ (fun hHeld => ?_)
            · exact hs6
            clear hK K
            try simp only [Act.put, List.setIfInBounds_toArray, List.set_cons_zero, List.set_cons_succ]
            refine takeW 19 (some 93) (oi := ?oT18) (v := ?vT18) ?hiT18 ?hdT18 (by kernel_rfl) (by kernel_rfl) (by kernel_rfl) (fun _ _ _ h => h) ?hwT18 ?hyT18 hHeld ?_
            case hiT18 => (simp only [List.getElem?_toArray, List.getElem?_cons_succ, List.getElem?_cons_zero]; with_reducible rfl)
            case hdT18 => rfl
            case hwT18 => rfl
            case hyT18 => (intro w hSw; (try dsimp only at hSw); go_simp; first | done | with_reducible rfl)
            try simp only [Act.put, List.setIfInBounds_toArray, List.set_cons_zero, List.set_cons_succ]
            refine takeU 20 (some 94) (oi := ?oT19) ?hiT19 ?hdT19 (by kernel_rfl) (by kernel_rfl) (by kernel_rfl) (fun _ _ _ h => h) ?hwT19 hHeld ?_
            case hiT19 => (simp only [List.getElem?_toArray, List.getElem?_cons_succ, List.getElem?_cons_zero]; with_reducible rfl)
            case hdT19 => rfl
            case hwT19 => rfl
            try simp only [Act.put, List.setIfInBounds_toArray, List.set_cons_zero, List.set_cons_succ]
            refine takeU 21 (some 95) (oi := ?oT20) ?hiT20 ?hdT20 (by kernel_rfl) (by kernel_rfl) (by kernel_rfl) (fun _ _ _ h => h) ?hwT20 hHeld ?_
            case hiT20 => (simp only [List.getElem?_toArray, List.getElem?_cons_succ, List.getElem?_cons_zero]; with_reducible rfl)
            case hdT20 => rfl
            case hwT20 => rfl
            try simp only [Act.put, List.setIfInBounds_toArray, List.set_cons_zero, List.set_cons_succ]
            refine takeU 22 (some 96) (oi := ?oT21) ?hiT21 ?hdT21 (by kernel_rfl) (by kernel_rfl) (by kernel_rfl) (fun _ _ _ h => h) ?hwT21 hHeld ?_
            case hiT21 => (simp only [List.getElem?_toArray, List.getElem?_cons_succ, List.getElem?_cons_zero]; with_reducible rfl)
            case hdT21 => rfl
            case hwT21 => rfl
            try simp only [Act.put, List.setIfInBounds_toArray, List.set_cons_zero, List.set_cons_succ]
            refine takeU 23 (some 97) (oi := ?oT22) ?hiT22 ?hdT22 (by kernel_rfl) (by kernel_rfl) (by kernel_rfl) (fun _ _ _ h => h) ?hwT22 hHeld ?_
            case hiT22 => (simp only [List.getElem?_toArray, List.getElem?_cons_succ, List.getElem?_cons_zero]; with_reducible rfl)
            case hdT22 => rfl
            case hwT22 => rfl
            try simp only [Act.put, List.setIfInBounds_toArray, List.set_cons_zero, List.set_cons_succ]
            refine takeU 24 (some 98) (oi := ?oT23) ?hiT23 ?hdT23 (by kernel_rfl) (by kernel_rfl) (by kernel_rfl) (fun _ _ _ h => h) ?hwT23 hHeld ?_
            case hiT23 => (simp only [List.getElem?_toArray, List.getElem?_cons_succ, List.getElem?_cons_zero]; with_reducible rfl)
            case hdT23 => rfl
            case hwT23 => rfl
            try simp only [Act.put, List.setIfInBounds_toArray, List.set_cons_zero, List.set_cons_succ]
            refine takeW 25 (some 99) (oi := ?oT24) (v := ?vT24) ?hiT24 ?hdT24 (by kernel_rfl) (by kernel_rfl) (by kernel_rfl) (fun _ _ _ h => h) ?hwT24 ?hyT24 hHeld ?_
            case hiT24 => (simp only [List.getElem?_toArray, List.getElem?_cons_succ, List.getElem?_cons_zero]; with_reducible rfl)
            case hdT24 => rfl
            case hwT24 => rfl
            case hyT24 => (intro w hSw; (try dsimp only at hSw); go_simp; first | done | with_reducible rfl)
            try simp only [Act.put, List.setIfInBounds_toArray, List.set_cons_zero, List.set_cons_succ]
            refine stepOne 11 (o := ?oT25) ?hiT25 (by kernel_rfl) ?hwT25 (fun K hK => ?_)
            case hiT25 => (simp only [List.getElem?_toArray, List.getElem?_cons_succ, List.getElem?_cons_zero]; with_reducible rfl)
            case hwT25 => rfl
            go_simp
            refine hK.out _ _ ?_ (fun hHeld => ?_)
            · exact hs6
            clear hK K
            try simp only [Act.put, List.setIfInBounds_toArray, List.set_cons_zero, List.set_cons_succ]
            refine takeW 13 (some 87) (oi := ?oT26) (v := ?vT26) ?hiT26 ?hdT26 (by kernel_rfl) (by kernel_rfl) (by kernel_rfl) (fun _ _ _ h => h) ?hwT26 ?hyT26 hHeld ?_
            case hiT26 => (simp only [List.getElem?_toArray, List.getElem?_cons_succ, List.getElem?_cons_zero]; with_reducible rfl)
            case hdT26 => rfl
            case hwT26 => rfl
            case hyT26 => (intro w hSw; (try dsimp only at hSw); go_simp; first | done | with_reducible rfl)
            try simp only [Act.put, List.setIfInBounds_toArray, List.set_cons_zero, List.set_cons_succ]
            refine takeW 26 (some 100) (oi := ?oT27) (v := ?vT27) ?hiT27 ?hdT27 (by kernel_rfl) (by kernel_rfl) (by kernel_rfl) (fun _ _ _ h => h) ?hwT27 ?hyT27 hHeld ?_
            case hiT27 => (simp only [List.getElem?_toArray, List.getElem?_cons_succ, List.getElem?_cons_zero]; with_reducible rfl)
            case hdT27 => rfl
            case hwT27 => rfl
            case hyT27 => (intro w hSw; (try dsimp only at hSw); go_simp; first | done | with_reducible rfl)
            try simp only [Act.put, List.setIfInBounds_toArray, List.set_cons_zero, List.set_cons_succ]
            refine takeW 27 (some 101) (oi := ?oT28) (v := ?vT28) ?hiT28 ?hdT28 (by kernel_rfl) (by kernel_rfl) (by kernel_rfl) (fun _ _ _ h => h) ?hwT28 ?hyT28 hHeld ?_
            case hiT28 => (simp only [List.getElem?_toArray, List.getElem?_cons_succ, List.getElem?_cons_zero]; with_reducible rfl)
            case hdT28 => rfl
            case hwT28 => rfl
            case hyT28 => (intro w hSw; (try dsimp only at hSw); go_simp; first | done | with_reducible rfl)
            try simp only [Act.put, List.setIfInBounds_toArray, List.set_cons_zero, List.set_cons_succ]
            refine takeW 28 (some 102) (oi := ?oT29) (v := ?vT29) ?hiT29 ?hdT29 (by kernel_rfl) (by kernel_rfl) (by kernel_rfl) (fun _ _ _ h => h) ?hwT29 ?hyT29 hHeld ?_
            case hiT29 => (simp only [List.getElem?_toArray, List.getElem?_cons_succ, List.getElem?_cons_zero]; with_reducible rfl)
            case hdT29 => rfl
            case hwT29 => rfl
            case hyT29 => (intro w hSw; (try dsimp only at hSw); go_simp; first | done | with_reducible rfl)
            try simp only [Act.put, List.setIfInBounds_toArray, List.set_cons_zero, List.set_cons_succ]
            refine stepOne 29 (o := ?oT30) ?hiT30 (by kernel_rfl) ?hwT30 (fun K hK => ?_)
            case hiT30 => (simp only [List.getElem?_toArray, List.getElem?_cons_succ, List.getElem?_cons_zero]; with_reducible rfl)
            case hwT30 => rfl
            go_simp
            go_at_call 18
            refine (aawake_any _).mono ?_
            rintro e w7 ⟨rfl, hb7⟩
            have hs7 := HS.out w7 (HB6.out.trans (hb7.mono HB6.out.size))
            have HB7 := Lib.hid (HW.out.trans ((HB6.out.trans (hb7.mono HB6.out.size)).mono HWZ.out))
            clear hb7
            refine hK.out _ _ ?_ (fun hHeld => ?_)
            · exact hs7
            clear hK K
            try simp only [Act.put, List.setIfInBounds_toArray, List.set_cons_zero, List.set_cons_succ]
            refine takeW 30 (some 104) (oi := ?oT31) (v := ?vT31) ?hiT31 ?hdT31 (by kernel_rfl) (by kernel_rfl) (by kernel_rfl) (fun _ _ _ h => h) ?hwT31 ?hyT31 hHeld ?_
            case hiT31 => (simp only [List.getElem?_toArray, List.getElem?_cons_succ, List.getElem?_cons_zero]; with_reducible rfl)
            case hdT31 => rfl
            case hwT31 => rfl
            case hyT31 => (intro w hSw; (try dsimp only at hSw); go_simp; first | done | with_reducible rfl)
            try simp only [Act.put, List.setIfInBounds_toArray, List.set_cons_zero, List.set_cons_succ]
            refine takeW 31 (some 8) (oi := ?oT32) (v := ?vT32) ?hiT32 ?hdT32 (by kernel_rfl) (by kernel_rfl) (by kernel_rfl) (fun _ _ _ h => h) ?hwT32 ?hyT32 hHeld ?_
            case hiT32 => (simp only [List.getElem?_toArray, List.getElem?_cons_succ, List.getElem?_cons_zero]; with_reducible rfl)
            case hdT32 => rfl
            case hwT32 => rfl
            case hyT32 => (intro w hSw; (try dsimp only at hSw); go_simp; first | done | with_reducible rfl)
            try simp only [Act.put, List.setIfInBounds_toArray, List.set_cons_zero, List.set_cons_succ]
            refine wpAnyH_done (by kernel_rfl) ?_ _
            refine NoPanic.normal ?_
            go_wp2
            go_ret
            exact ⟨rfl, HB7.out⟩
          · rw [Bool.true_and] at e2
            clear rt1 rtp rtq rtu rtv
            go_wp2_with fail
            refine wp_region_noPanic ?_
            refine wp_region_held_drew (S := fun w' => AReads w' A1 A2 A3 A4 b1 k i n3 n4 c1 c2 c3 c4 p v q u P) (by kernel_rfl) (hs1) (fun hHeld => ?_)
            refine takeW 0 (some 74) (oi := ?oT33) (v := ?vT33) ?hiT33 ?hdT33 (by kernel_rfl) (by kernel_rfl) (by kernel_rfl) (fun _ _ _ h => h) ?hwT33 ?hyT33 hHeld ?_
            case hiT33 => (simp only [List.getElem?_toArray, List.getElem?_cons_zero]; with_reducible rfl)
            case hdT33 => rfl
            case hwT33 => rfl
            case hyT33 => (intro w hSw; (try dsimp only at hSw); go_simp; first | done | with_reducible rfl)
            try simp only [Act.put, List.setIfInBounds_toArray, List.set_cons_zero, List.set_cons_succ]
            refine takeW 1 (some 75) (oi := ?oT34) (v := ?vT34) ?hiT34 ?hdT34 (by kernel_rfl) (by kernel_rfl) (by kernel_rfl) (fun _ _ _ h => h) ?hwT34 ?hyT34 hHeld ?_
            case hiT34 => (simp only [List.getElem?_toArray, List.getElem?_cons_succ, List.getElem?_cons_zero]; with_reducible rfl)
            case hdT34 => rfl
            case hwT34 => rfl
            case hyT34 => (intro w hSw; (try dsimp only at hSw); go_simp; first | done | with_reducible rfl)
            try simp only [Act.put, List.setIfInBounds_toArray, List.set_cons_zero, List.set_cons_succ]
            refine takeW 2 (some 76) (oi := ?oT35) (v := ?vT35) ?hiT35 ?hdT35 (by kernel_rfl) (by kernel_rfl) (by kernel_rfl) (fun _ _ _ h => h) ?hwT35 ?hyT35 hHeld ?_
            case hiT35 => (simp only [List.getElem?_toArray, List.getElem?_cons_succ, List.getElem?_cons_zero]; with_reducible rfl)
            case hdT35 => rfl
            case hwT35 => rfl
            case hyT35 => (intro w hSw; (try dsimp only at hSw); go_simp; first | done | with_reducible rfl)
            try simp only [Act.put, List.setIfInBounds_toArray, List.set_cons_zero, List.set_cons_succ]
            refine takeW 3 (some 77) (oi := ?oT36) (v := ?vT36) ?hiT36 ?hdT36 (by kernel_rfl) (by kernel_rfl) (by kernel_rfl) (fun _ _ _ h => h) ?hwT36 ?hyT36 hHeld ?_
            case hiT36 => (simp only [List.getElem?_toArray, List.getElem?_cons_succ, List.getElem?_cons_zero]; with_reducible rfl)
            case hdT36 => rfl
            case hwT36 => rfl
            case hyT36 => (intro w hSw; (try dsimp only at hSw); go_simp; first | done | with_reducible rfl)
            try simp only [Act.put, List.setIfInBounds_toArray, List.set_cons_zero, List.set_cons_succ]
            refine takeW 4 (some 78) (oi := ?oT37) (v := ?vT37) ?hiT37 ?hdT37 (by kernel_rfl) (by kernel_rfl) (by kernel_rfl) (fun _ _ _ h => h) ?hwT37 ?hyT37 hHeld ?_
            case hiT37 => (simp only [List.getElem?_toArray, List.getElem?_cons_succ, List.getElem?_cons_zero]; with_reducible rfl)
            case hdT37 => rfl
            case hwT37 => rfl
            case hyT37 => (intro w hSw; (try dsimp only at hSw); go_simp; first | done | with_reducible rfl)
            try simp only [Act.put, List.setIfInBounds_toArray, List.set_cons_zero, List.set_cons_succ]
            refine takeW 5 (some 79) (oi := ?oT38) (v := ?vT38) ?hiT38 ?hdT38 (by kernel_rfl) (by kernel_rfl) (by kernel_rfl) (fun _ _ _ h => h) ?hwT38 ?hyT38 hHeld ?_
            case hiT38 => (simp only [List.getElem?_toArray, List.getElem?_cons_succ, List.getElem?_cons_zero]; with_reducible rfl)
            case hdT38 => rfl
            case hwT38 => rfl
            case hyT38 => (intro w hSw; (try dsimp only at hSw); go_simp; first | done | with_reducible rfl)
            try simp only [Act.put, List.setIfInBounds_toArray, List.set_cons_zero, List.set_cons_succ]
            refine takeW 6 (some 80) (oi := ?oT39) (v := ?vT39) ?hiT39 ?hdT39 (by kernel_rfl) (by kernel_rfl) (by kernel_rfl) (fun _ _ _ h => h) ?hwT39 ?hyT39 hHeld ?_
            case hiT39 => (simp only [List.getElem?_toArray, List.getElem?_cons_succ, List.getElem?_cons_zero]; with_reducible rfl)
            case hdT39 => rfl
            case hwT39 => rfl
            case hyT39 => (intro w hSw; (try dsimp only at hSw); go_simp; first | done | with_reducible rfl)
            try simp only [Act.put, List.setIfInBounds_toArray, List.set_cons_zero, List.set_cons_succ]
            refine takeW 7 (some 81) (oi := ?oT40) (v := ?vT40) ?hiT40 ?hdT40 (by kernel_rfl) (by kernel_rfl) (by kernel_rfl) (fun _ _ _ h => h) ?hwT40 ?hyT40 hHeld ?_
            case hiT40 => (simp only [List.getElem?_toArray, List.getElem?_cons_succ, List.getElem?_cons_zero]; with_reducible rfl)
            case hdT40 => rfl
            case hwT40 => rfl
            case hyT40 => (intro w hSw; (try dsimp only at hSw); go_simp; first | done | with_reducible rfl)
            try simp only [Act.put, List.setIfInBounds_toArray, List.set_cons_zero, List.set_cons_succ]
            refine takeW 8 (some 82) (oi := ?oT41) (v := ?vT41) ?hiT41 ?hdT41 (by kernel_rfl) (by kernel_rfl) (by kernel_rfl) (fun _ _ _ h => h) ?hwT41 ?hyT41 hHeld ?_
            case hiT41 => (simp only [List.getElem?_toArray, List.getElem?_cons_succ, List.getElem?_cons_zero]; with_reducible rfl)
            case hdT41 => rfl
            case hwT41 => rfl
            case hyT41 => (intro w hSw; (try dsimp only at hSw); go_simp; first | done | with_reducible rfl)
            try simp only [Act.put, List.setIfInBounds_toArray, List.set_cons_zero, List.set_cons_succ]
            refine takeW 9 (some 83) (oi := ?oT42) (v := ?vT42) ?hiT42 ?hdT42 (by kernel_rfl) (by kernel_rfl) (by kernel_rfl) (fun _ _ _ h => h) ?hwT42 ?hyT42 hHeld ?_
            case hiT42 => (simp only [List.getElem?_toArray, List.getElem?_cons_succ, List.getElem?_cons_zero]; with_reducible rfl)
            case hdT42 => rfl
            case hwT42 => rfl
            case hyT42 => (intro w hSw; (try dsimp only at hSw); go_simp; first | done | with_reducible rfl)
            try simp only [Act.put, List.setIfInBounds_toArray, List.set_cons_zero, List.set_cons_succ]
            refine takeW 12 (some 86) (oi := ?oT43) (v := ?vT43) ?hiT43 ?hdT43 (by kernel_rfl) (by kernel_rfl) (by kernel_rfl) (fun _ _ _ h => h) ?hwT43 ?hyT43 hHeld ?_
            case hiT43 => (simp only [List.getElem?_toArray, List.getElem?_cons_succ, List.getElem?_cons_zero]; with_reducible rfl)
            case hdT43 => rfl
            case hwT43 => rfl
            case hyT43 => (intro w hSw; (try dsimp only at hSw); go_simp; first | done | with_reducible rfl)
            try simp only [Act.put, List.setIfInBounds_toArray, List.set_cons_zero, List.set_cons_succ]
            refine takeW 14 (some 88) (oi := ?oT44) (v := ?vT44) ?hiT44 ?hdT44 (by kernel_rfl) (by kernel_rfl) (by kernel_rfl) (fun _ _ _ h => h) ?hwT44 ?hyT44 hHeld ?_
            case hiT44 => (simp only [List.getElem?_toArray, List.getElem?_cons_succ, List.getElem?_cons_zero]; with_reducible rfl)
            case hdT44 => rfl
            case hwT44 => rfl
            case hyT44 => (intro w hSw; (try dsimp only at hSw); go_simp; first | done | with_reducible rfl)
            try simp only [Act.put, List.setIfInBounds_toArray, List.set_cons_zero, List.set_cons_succ]
            refine takeW 15 (some 89) (oi := ?oT45) (v := ?vT45) ?hiT45 ?hdT45 (by kernel_rfl) (by kernel_rfl) (by kernel_rfl) (fun _ _ _ h => h) ?hwT45 ?hyT45 hHeld ?_
            case hiT45 => (simp only [List.getElem?_toArray, List.getElem?_cons_succ, List.getElem?_cons_zero]; with_reducible rfl)
            case hdT45 => rfl
            case hwT45 => rfl
            case hyT45 => (intro w hSw; (try dsimp only at hSw); go_simp; first | done | with_reducible rfl)
            try simp only [Act.put, List.setIfInBounds_toArray, List.set_cons_zero, List.set_cons_succ]
            refine takeW 16 (some 90) (oi := ?oT46) (v := ?vT46) ?hiT46 ?hdT46 (by kernel_rfl) (by kernel_rfl) (by kernel_rfl) (fun _ _ _ h => h) ?hwT46 ?hyT46 hHeld ?_
            case hiT46 => (simp only [List.getElem?_toArray, List.getElem?_cons_succ, List.getElem?_cons_zero]; with_reducible rfl)
            case hdT46 => rfl
            case hwT46 => rfl
            case hyT46 => (intro w hSw; (try dsimp only at hSw); go_simp; first | done | with_reducible rfl)
            try simp only [Act.put, List.setIfInBounds_toArray, List.set_cons_zero, List.set_cons_succ]
            refine takeW 17 (some 91) (oi := ?oT47) (v := ?vT47) ?hiT47 ?hdT47 (by kernel_rfl) (by kernel_rfl) (by kernel_rfl) (fun _ _ _ h => h) ?hwT47 ?hyT47 hHeld ?_
            case hiT47 => (simp only [List.getElem?_toArray, List.getElem?_cons_succ, List.getElem?_cons_zero]; with_reducible rfl)
            case hdT47 => rfl
            case hwT47 => rfl
            case hyT47 => (intro w hSw; (try dsimp only at hSw); go_simp; first | done | with_reducible rfl)
            try simp only [Act.put, List.setIfInBounds_toArray, List.set_cons_zero, List.set_cons_succ]
            refine takeW 18 (some 92) (oi := ?oT48) (v := ?vT48) ?hiT48 ?hdT48 (by kernel_rfl) (by kernel_rfl) (by kernel_rfl) (fun _ _ _ h => h) ?hwT48 ?hyT48 hHeld ?_
            case hiT48 => (simp only [List.getElem?_toArray, List.getElem?_cons_succ, List.getElem?_cons_zero]; with_reducible rfl)
            case hdT48 => rfl
            case hwT48 => rfl
            case hyT48 => (intro w hSw; (try dsimp only at hSw); go_simp; first | done | with_reducible rfl)
            try simp only [Act.put, List.setIfInBounds_toArray, List.set_cons_zero, List.set_cons_succ]
            refine stepOne 10 (o := ?oT49) ?hiT49 (by kernel_rfl) ?hwT49 (fun K hK => ?_)
            case hiT49 => (simp only [List.getElem?_toArray, List.getElem?_cons_succ, List.getElem?_cons_zero]; with_reducible rfl)
            case hwT49 => rfl
            go_simp
            go_at_call 17
            refine (amake_is _ _ q u Q _ ?_ ?_ HL.out.1 HL.out.2 HQ.out).mono ?_
            · exact HQ3.out.heap rfl
            · exact HQ4.out.heap rfl
            rintro e w6 ⟨v6, rfl, ho6, hb6⟩
            have hb6' : Below wj.heap.size wj w6 := ⟨hb6.os, hb6.tape, hb6.output, hb6.size, fun j hj => hb6.block j hj⟩
            have rt6 := run_text ho6.bytes
            have hs6 := HS.out w6 hb6'
            have HB6 := Lib.hid hb6'
            clear ho6 hb6 hb6'
            refine hK.out _ _ ?_ (fun hHeld => ?_)
            · exact hs6
            clear hK K
            try simp only [Act.put, List.setIfInBounds_toArray, List.set_cons_zero, List.set_cons_succ]
            refine takeW 19 (some 93) (oi := ?oT50) (v := ?vT50) ?hiT50 ?hdT50 (by kernel_rfl) (by kernel_rfl) (by kernel_rfl) (fun _ _ _ h => h) ?hwT50 ?hyT50 hHeld ?_
            case hiT50 => (simp only [List.getElem?_toArray, List.getElem?_cons_succ, List.getElem?_cons_zero]; with_reducible rfl)
            case hdT50 => rfl
            case hwT50 => rfl
            case hyT50 => (intro w hSw; (try dsimp only at hSw); go_simp; first | done | with_reducible rfl)
            try simp only [Act.put, List.setIfInBounds_toArray, List.set_cons_zero, List.set_cons_succ]
            refine takeW 20 (some 94) (oi := ?oT51) (v := ?vT51) ?hiT51 ?hdT51 (by kernel_rfl) (by kernel_rfl) (by kernel_rfl) (fun _ _ _ h => h) ?hwT51 ?hyT51 hHeld ?_
            case hiT51 => (simp only [List.getElem?_toArray, List.getElem?_cons_succ, List.getElem?_cons_zero]; with_reducible rfl)
            case hdT51 => rfl
            case hwT51 => rfl
            case hyT51 => (intro w hSw; (try dsimp only at hSw); go_simp; first | done | with_reducible rfl)
            try simp only [Act.put, List.setIfInBounds_toArray, List.set_cons_zero, List.set_cons_succ]
            refine takeW 21 (some 95) (oi := ?oT52) (v := ?vT52) ?hiT52 ?hdT52 (by kernel_rfl) (by kernel_rfl) (by kernel_rfl) (fun _ _ _ h => h) ?hwT52 ?hyT52 hHeld ?_
            case hiT52 => (simp only [List.getElem?_toArray, List.getElem?_cons_succ, List.getElem?_cons_zero]; with_reducible rfl)
            case hdT52 => rfl
            case hwT52 => rfl
            case hyT52 => (intro w hSw; (try dsimp only at hSw); go_simp; first | done | with_reducible rfl)
            try simp only [Act.put, List.setIfInBounds_toArray, List.set_cons_zero, List.set_cons_succ]
            refine takeW 22 (some 96) (oi := ?oT53) (v := ?vT53) ?hiT53 ?hdT53 (by kernel_rfl) (by kernel_rfl) (by kernel_rfl) (fun _ _ _ h => h) ?hwT53 ?hyT53 hHeld ?_
            case hiT53 => (simp only [List.getElem?_toArray, List.getElem?_cons_succ, List.getElem?_cons_zero]; with_reducible rfl)
            case hdT53 => rfl
            case hwT53 => rfl
            case hyT53 => (intro w hSw; (try dsimp only at hSw); go_simp; first | done | with_reducible rfl)
            try simp only [Act.put, List.setIfInBounds_toArray, List.set_cons_zero, List.set_cons_succ]
            refine takeW 23 (some 97) (oi := ?oT54) (v := ?vT54) ?hiT54 ?hdT54 (by kernel_rfl) (by kernel_rfl) (by kernel_rfl) (fun _ _ _ h => h) ?hwT54 ?hyT54 hHeld ?_
            case hiT54 => (simp only [List.getElem?_toArray, List.getElem?_cons_succ, List.getElem?_cons_zero]; with_reducible rfl)
            case hdT54 => rfl
            case hwT54 => rfl
            case hyT54 => (intro w hSw; (try dsimp only at hSw); go_simp; first | done | with_reducible rfl)
            try simp only [Act.put, List.setIfInBounds_toArray, List.set_cons_zero, List.set_cons_succ]
            refine takeW 24 (some 98) (oi := ?oT55) (v := ?vT55) ?hiT55 ?hdT55 (by kernel_rfl) (by kernel_rfl) (by kernel_rfl) (fun _ _ _ h => h) ?hwT55 ?hyT55 hHeld ?_
            case hiT55 => (simp only [List.getElem?_toArray, List.getElem?_cons_succ, List.getElem?_cons_zero]; with_reducible rfl)
            case hdT55 => rfl
            case hwT55 => rfl
            case hyT55 => (intro w hSw; (try dsimp only at hSw); go_simp; first | done | with_reducible rfl)
            try simp only [Act.put, List.setIfInBounds_toArray, List.set_cons_zero, List.set_cons_succ]
            refine takeW 25 (some 99) (oi := ?oT56) (v := ?vT56) ?hiT56 ?hdT56 (by kernel_rfl) (by kernel_rfl) (by kernel_rfl) (fun _ _ _ h => h) ?hwT56 ?hyT56 hHeld ?_
            case hiT56 => (simp only [List.getElem?_toArray, List.getElem?_cons_succ, List.getElem?_cons_zero]; with_reducible rfl)
            case hdT56 => rfl
            case hwT56 => rfl
            case hyT56 => (intro w hSw; (try dsimp only at hSw); go_simp; first | done | with_reducible rfl)
            try simp only [Act.put, List.setIfInBounds_toArray, List.set_cons_zero, List.set_cons_succ]
            refine stepOne 11 (o := ?oT57) ?hiT57 (by kernel_rfl) ?hwT57 (fun K hK => ?_)
            case hiT57 => (simp only [List.getElem?_toArray, List.getElem?_cons_succ, List.getElem?_cons_zero]; with_reducible rfl)
            case hwT57 => rfl
            go_simp
            refine hK.out _ _ ?_ (fun hHeld => ?_)
            · exact hs6
            clear hK K
            try simp only [Act.put, List.setIfInBounds_toArray, List.set_cons_zero, List.set_cons_succ]
            refine takeW 13 (some 87) (oi := ?oT58) (v := ?vT58) ?hiT58 ?hdT58 (by kernel_rfl) (by kernel_rfl) (by kernel_rfl) (fun _ _ _ h => h) ?hwT58 ?hyT58 hHeld ?_
            case hiT58 => (simp only [List.getElem?_toArray, List.getElem?_cons_succ, List.getElem?_cons_zero]; with_reducible rfl)
            case hdT58 => rfl
            case hwT58 => rfl
            case hyT58 => (intro w hSw; (try dsimp only at hSw); go_simp; first | done | with_reducible rfl)
            try simp only [Act.put, List.setIfInBounds_toArray, List.set_cons_zero, List.set_cons_succ]
            refine takeW 26 (some 100) (oi := ?oT59) (v := ?vT59) ?hiT59 ?hdT59 (by kernel_rfl) (by kernel_rfl) (by kernel_rfl) (fun _ _ _ h => h) ?hwT59 ?hyT59 hHeld ?_
            case hiT59 => (simp only [List.getElem?_toArray, List.getElem?_cons_succ, List.getElem?_cons_zero]; with_reducible rfl)
            case hdT59 => rfl
            case hwT59 => rfl
            case hyT59 => (intro w hSw; (try dsimp only at hSw); go_simp; first | done | with_reducible rfl)
            try simp only [Act.put, List.setIfInBounds_toArray, List.set_cons_zero, List.set_cons_succ]
            refine takeW 27 (some 101) (oi := ?oT60) (v := ?vT60) ?hiT60 ?hdT60 (by kernel_rfl) (by kernel_rfl) (by kernel_rfl) (fun _ _ _ h => h) ?hwT60 ?hyT60 hHeld ?_
            case hiT60 => (simp only [List.getElem?_toArray, List.getElem?_cons_succ, List.getElem?_cons_zero]; with_reducible rfl)
            case hdT60 => rfl
            case hwT60 => rfl
            case hyT60 => (intro w hSw; (try dsimp only at hSw); go_simp; first | done | with_reducible rfl)
            try simp only [Act.put, List.setIfInBounds_toArray, List.set_cons_zero, List.set_cons_succ]
            refine takeW 28 (some 102) (oi := ?oT61) (v := ?vT61) ?hiT61 ?hdT61 (by kernel_rfl) (by kernel_rfl) (by kernel_rfl) (fun _ _ _ h => h) ?hwT61 ?hyT61 hHeld ?_
            case hiT61 => (simp only [List.getElem?_toArray, List.getElem?_cons_succ, List.getElem?_cons_zero]; with_reducible rfl)
            case hdT61 => rfl
            case hwT61 => rfl
            case hyT61 => (intro w hSw; (try dsimp only at hSw); go_simp; first | done | with_reducible rfl)
            try simp only [Act.put, List.setIfInBounds_toArray, List.set_cons_zero, List.set_cons_succ]
            refine stepOne 29 (o := ?oT62) ?hiT62 (by kernel_rfl) ?hwT62 (fun K hK => ?_)
            case hiT62 => (simp only [List.getElem?_toArray, List.getElem?_cons_succ, List.getElem?_cons_zero]; with_reducible rfl)
            case hwT62 => rfl
            go_simp
            go_at_call 18
            refine (aawake_any _).mono ?_
            rintro e w7 ⟨rfl, hb7⟩
            have hs7 := HS.out w7 (HB6.out.trans (hb7.mono HB6.out.size))
            have HB7 := Lib.hid (HW.out.trans ((HB6.out.trans (hb7.mono HB6.out.size)).mono HWZ.out))
            clear hb7
            refine hK.out _ _ ?_ (fun hHeld => ?_)
            · exact hs7
            clear hK K
            try simp only [Act.put, List.setIfInBounds_toArray, List.set_cons_zero, List.set_cons_succ]
            refine takeW 30 (some 104) (oi := ?oT63) (v := ?vT63) ?hiT63 ?hdT63 (by kernel_rfl) (by kernel_rfl) (by kernel_rfl) (fun _ _ _ h => h) ?hwT63 ?hyT63 hHeld ?_
            case hiT63 => (simp only [List.getElem?_toArray, List.getElem?_cons_succ, List.getElem?_cons_zero]; with_reducible rfl)
            case hdT63 => rfl
            case hwT63 => rfl
            case hyT63 => (intro w hSw; (try dsimp only at hSw); go_simp; first | done | with_reducible rfl)
            try simp only [Act.put, List.setIfInBounds_toArray, List.set_cons_zero, List.set_cons_succ]
            refine takeW 31 (some 8) (oi := ?oT64) (v := ?vT64) ?hiT64 ?hdT64 (by kernel_rfl) (by kernel_rfl) (by kernel_rfl) (fun _ _ _ h => h) ?hwT64 ?hyT64 hHeld ?_
            case hiT64 => (simp only [List.getElem?_toArray, List.getElem?_cons_succ, List.getElem?_cons_zero]; with_reducible rfl)
            case hdT64 => rfl
            case hwT64 => rfl
            case hyT64 => (intro w hSw; (try dsimp only at hSw); go_simp; first | done | with_reducible rfl)
            try simp only [Act.put, List.setIfInBounds_toArray, List.set_cons_zero, List.set_cons_succ]
            refine wpAnyH_done (by kernel_rfl) ?_ _
            refine NoPanic.normal ?_
            go_wp2
            go_ret
            exact ⟨rfl, HB7.out⟩
end Go.Proofs.Ytldnpedegcbglaa
