/- NameBack: who and inc of a temp are told as they were; two temps are alike just if all of theirs are. -/
import Derived.Test.YtpgoofkpcbbhjaaDoorNameAwake
namespace Go.Proofs.YtpgoofkpcbbhjaaDoor
open Go.ChangeShapes Go.WideShapes Go.ChangeAt Go.RowKit

theorem temp_same {a b c x y z : Nat} {q : Bool} {P : Prop} [Decidable P] (hq : decide P = q) (h : (Nm.temp x y z = Nm.temp a b c) ↔ P) : ((str (Nm.temp x y z)).toList == (str (Nm.temp a b c)).toList) = q := by
  rw [str_same (Nm.temp_byte x y z) (Nm.temp_byte a b c), ← hq]
  exact decide_eq_decide.2 h
theorem int_same {c d : Nat} {q : Bool} (h : decide (c = d) = q) : ((c : Int) == (d : Int)) = q := by
  rw [← h]
  by_cases e : c = d
  · subst e; simp
  · rw [decide_eq_false e]
    exact beq_eq_false_iff_ne.2 (by omega)
set_option maxHeartbeats 4000000 in
theorem back_any (who inc n m : Int) (w : World) (hT : Tabs w) :
    Calls Tryd.prog 4 #[.int .i64 who, .int .i64 inc, .int .i64 n, .int .i64 m] w fun e w' => e = .returned (.bool true) ∧ Below w.heap.size w w' := by
  obtain ⟨M1, hM1⟩ : ∃ M, max who 0 = M := ⟨_, rfl⟩
  obtain ⟨M2, hM2⟩ : ∃ M, max inc 0 = M := ⟨_, rfl⟩
  obtain ⟨M3, hM3⟩ : ∃ M, max n 0 = M := ⟨_, rfl⟩
  obtain ⟨M4, hM4⟩ : ∃ M, max m 0 = M := ⟨_, rfl⟩
  have t0 := fun W (h : Tabs W) => temp_any who inc n W h
  have t1 := fun W (h : Tabs W) => temp_any who inc m W h
  have t2 := fun W (h : Tabs W) => temp_any who m n W h
  have t3 := fun W (h : Tabs W) => temp_any m inc n W h
  have la := Nm.held_le who 999
  have lb := Nm.held_le inc 99999
  have lc := Nm.held_le n 99999
  have ld := Nm.held_le m 99999
  have le := Nm.held_le m 999
  have ea := Nm.held_eq who 999
  have eb := Nm.held_eq inc 99999
  have ec := Nm.held_eq n 99999
  have ed := Nm.held_eq m 99999
  have ee := Nm.held_eq m 999
  obtain ⟨a, ha⟩ : ∃ a, Nm.held who 999 = a := ⟨_, rfl⟩
  obtain ⟨b, hb⟩ : ∃ b, Nm.held inc 99999 = b := ⟨_, rfl⟩
  obtain ⟨c, hc⟩ : ∃ c, Nm.held n 99999 = c := ⟨_, rfl⟩
  obtain ⟨d, hd⟩ : ∃ d, Nm.held m 99999 = d := ⟨_, rfl⟩
  obtain ⟨e, he⟩ : ∃ e, Nm.held m 999 = e := ⟨_, rfl⟩
  simp only [ha, hb, hc, hd, he] at t0 t1 t2 t3 la lb lc ld le ea eb ec ed ee
  clear ha hb hc hd he
  have x1 := fun (W : World) ts t => run_top2 (P := Tryd.prog) W ts t who 0 M1 hM1
  have x2 := fun (W : World) ts t => run_top2 (P := Tryd.prog) W ts t inc 0 M2 hM2
  have x3 := fun (W : World) ts t => run_top2 (P := Tryd.prog) W ts t n 0 M3 hM3
  have x4 := fun (W : World) ts t => run_top2 (P := Tryd.prog) W ts t m 0 M4 hM4
  have y1 := fun (W : World) ts t => run_low2 (P := Tryd.prog) W ts t M1 999 a (by rw [← ea, hM1]; rfl)
  have y2 := fun (W : World) ts t => run_low2 (P := Tryd.prog) W ts t M2 99999 b (by rw [← eb, hM2]; rfl)
  have y3 := fun (W : World) ts t => run_low2 (P := Tryd.prog) W ts t M3 99999 c (by rw [← ec, hM3]; rfl)
  have y4 := fun (W : World) ts t => run_low2 (P := Tryd.prog) W ts t M4 99999 d (by rw [← ed, hM4]; rfl)
  have y5 := fun (W : World) ts t => run_low2 (P := Tryd.prog) W ts t M4 999 e (by rw [← ee, hM4]; rfl)
  obtain ⟨q1, hq1⟩ : ∃ q, decide (c = d) = q := ⟨_, rfl⟩
  obtain ⟨q2, hq2⟩ : ∃ q, decide (b = d) = q := ⟨_, rfl⟩
  obtain ⟨q3, hq3⟩ : ∃ q, decide (a = e) = q := ⟨_, rfl⟩
  have i1 := int_same hq1
  have i2 := int_same hq2
  have i3 := int_same hq3
  have s1 := temp_same (a := a) (b := b) (c := c) (x := a) (y := b) (z := d) hq1 (by rw [Nm.temp_inj]; exact ⟨fun h => h.2.2.symm, fun h => ⟨rfl, rfl, h.symm⟩⟩)
  have s2 := temp_same (a := a) (b := b) (c := c) (x := a) (y := d) (z := c) hq2 (by rw [Nm.temp_inj]; exact ⟨fun h => h.2.1.symm, fun h => ⟨rfl, h.symm, rfl⟩⟩)
  have s3 := temp_same (a := a) (b := b) (c := c) (x := e) (y := b) (z := c) hq3 (by rw [Nm.temp_inj]; exact ⟨fun h => h.1.symm, fun h => ⟨h.symm, rfl, rfl⟩⟩)
  clear hq1 hq2 hq3
  have HO := Lib.hid (Nm.temp_of la lb lc)
  have HB := Lib.hid (Nm.temp_byte a b c)
  have HL := Lib.hid (Nm.temp_len la lb lc)
  have HF := Lib.hid (Nm.temp_file la lb lc)
  have HN := Lib.hid (Nm.temp_not_ok a b c)
  have T0 := Lib.hid t0
  have T1 := Lib.hid t1
  have T2 := Lib.hid t2
  have T3 := Lib.hid t3
  clear t0 t1 t2 t3 la lb lc ld le ea eb ec ed ee hM1 hM2 hM3 hM4
  obtain ⟨T, hTe⟩ : ∃ T, Nm.temp a b c = T := ⟨_, rfl⟩
  obtain ⟨U1, hU1⟩ : ∃ T, Nm.temp a b d = T := ⟨_, rfl⟩
  obtain ⟨U2, hU2⟩ : ∃ T, Nm.temp a d c = T := ⟨_, rfl⟩
  obtain ⟨U3, hU3⟩ : ∃ T, Nm.temp e b c = T := ⟨_, rfl⟩
  simp only [hTe, hU1, hU2, hU3] at s1 s2 s3 HO HB HL HF HN T0 T1 T2 T3
  clear hTe hU1 hU2 hU3
  have HTT := Lib.hid hT
  clear hT
  go_enter Tryd.func4, Tryd.ntmps4
  go_wp2_with fail
  refine (T0.out w HTT.out).mono ?_
  rintro e1 w1 ⟨rfl, hb1⟩
  go_wp2_with fail
  refine (of_any T w1 HB.out (by have := HL.out; omega) (HTT.out.under hb1)).mono ?_
  rintro e1 w2 ⟨rfl, hb2⟩
  rw [HO.out.1, HO.out.2.1, HO.out.2.2]
  have hb3 := hb1.trans (hb2.mono hb1.size)
  clear hb1 hb2
  go_wp2_with fail
  refine (T1.out w2 (HTT.out.under hb3)).mono ?_
  rintro e1 v4 ⟨rfl, hb1⟩
  have hb4 := hb3.trans (hb1.mono hb3.size)
  clear hb3 hb1
  go_wp2_with fail
  refine (T2.out _ (HTT.out.under hb4)).mono ?_
  rintro e1 v5 ⟨rfl, hb1⟩
  have hb5 := hb4.trans (hb1.mono hb4.size)
  clear hb4 hb1
  go_wp2_with fail
  refine (T3.out _ (HTT.out.under hb5)).mono ?_
  rintro e1 v6 ⟨rfl, hb1⟩
  have hb6 := hb5.trans (hb1.mono hb5.size)
  clear hb5 hb1
  go_wp2_with fail
  refine (file_any T _ HB.out (by have := HL.out; omega) (HTT.out.under hb6)).mono ?_
  rintro e1 v7 ⟨rfl, hb1⟩
  rw [HF.out]
  have hb7 := hb6.trans (hb1.mono hb6.size)
  clear hb6 hb1
  go_wp2_with fail
  refine (ok_any T _ HB.out (by have := HL.out; omega)).mono ?_
  rintro e1 v8 ⟨rfl, rfl⟩
  rw [HN.out]
  have hb8 := hb7
  clear hb7
  go_wp2_with fail
  refine (awake_any _ (HTT.out.under hb8)).mono ?_
  rintro e1 v9 ⟨rfl, hb1⟩
  have hb9 := hb8.trans (hb1.mono hb8.size)
  clear hb8 hb1
  go_wp2
  go_ret
  exact ⟨rfl, hb9⟩
end Go.Proofs.YtpgoofkpcbbhjaaDoor
