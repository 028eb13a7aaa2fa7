/- LockOne: a hand begins, steps, rests: the world behind it. -/
import Derived.Test.YtfheaognfocofaaGreatDoorZ15
import Derived.Test.YtfheaognfocofaaGreatDoorZLockAwake
namespace Go.Proofs.YtfheaognfocofaaGreatDoor
set_option maxRecDepth 100000
open Go.ChangeShapes Go.WideShapes Go.ChangeAt Go.RowKit Go.ChangeMaps
open Sf Lk

variable {w0 w w' w2 : World} {p pa i g : Nat} {s s' : S} {hs : Nat → Hd} {K : Nat → Prop} {R : Nat → List Value} {gb : Nat → Nat}
abbrev gp (g : Nat) : Value := .pointer (some ⟨g, 0, none⟩)
abbrev np : Value := .pointer none
theorem W3.begun_tk {t : Tk} (h : W3 w0 w p pa s hs K R gb) (hi : i < 3) (hph : (hs i).ph = .idle) (hb : Below w.heap.size w w2) (hg : w.heap.size ≤ g) (hx : TkBlk w2 g t) : ∃ K' R' gb', W3 w0 (w2.setCell ⟨pa, i * 10, none⟩ (gp g)) p pa s (upd hs i { hs i with ph := .tk t }) K' R' gb' := by
  obtain ⟨vt, vw, e, hp, -⟩ := h.cells hi
  unfold HPt at hp
  rw [hph] at hp
  obtain ⟨rfl, rfl⟩ := hp
  obtain ⟨K2, h2, m2, n2⟩ := h.fk.add hb hg (Blk.size hx)
  have hpa := h.fk.lt h.ka
  refine ⟨_, _, _, h.turn hi n2 (h2.set (n2 _ h.ka) h.za _ _) (((Kept.of_below h.fk hb).but (g := pa)).trans (Kept.set K w2 pa (i * 10) (gp g)) |>.less fun k hk => ⟨hk.1, hk.2.1⟩) (blk_one (h.blk.under hb) h.len hi (j := 0) (by omega) (gp g) e rfl) (g := g) ⟨rfl, rfl, m2, by omega, by have := h.fk.fs.below.size; omega, Blk.setOther hx (by show g ≠ pa; omega) _⟩ (fun _ => .inr hg)⟩
theorem W3.begun_wr {x : Sw} {fr : Bool} (h : W3 w0 w p pa s hs K R gb) (hi : i < 3) (hph : (hs i).ph = .idle) (hb : Below w.heap.size w w2) (hg : w.heap.size ≤ g) (hx : WrBlk w2 g x fr) : ∃ K' R' gb', W3 w0 ((w2.setCell ⟨pa, i * 10 + 1, none⟩ (gp g)).setCell ⟨pa, i * 10 + 2, none⟩ (.bool fr)) p pa s (upd hs i { hs i with ph := .wr x, fr := fr }) K' R' gb' := by
  obtain ⟨vt, vw, e, hp, -⟩ := h.cells hi
  unfold HPt at hp
  rw [hph] at hp
  obtain ⟨rfl, rfl⟩ := hp
  obtain ⟨K2, h2, m2, n2⟩ := h.fk.add hb hg (Blk.size hx)
  have hpa := h.fk.lt h.ka
  have b1 := blk_one (h.blk.under hb) h.len hi (j := 1) (by omega) (gp g) e rfl
  have b2 := blk_one b1 (updR_len h.len (by simp [hcells])) hi (j := 2) (by omega) (.bool fr) (updR_same _ _ _) rfl
  rw [updR_updR] at b2
  refine ⟨_, _, _, h.turn hi n2 ((h2.set (n2 _ h.ka) h.za _ _).set (n2 _ h.ka) h.za _ _) ((((Kept.of_below h.fk hb).but (g := pa)).trans (Kept.set K w2 pa (i * 10 + 1) (gp g))).trans (Kept.set K _ pa (i * 10 + 2) (.bool fr)) |>.less fun k hk => ⟨hk.1, hk.2.1⟩) b2 (g := g) ⟨rfl, rfl, m2, by omega, by have := h.fk.fs.below.size; omega, Blk.setOther (Blk.setOther hx (by show g ≠ pa; omega) _) (by show g ≠ pa; omega) _⟩ (fun _ => .inr hg)⟩
/-- A step of a Take, of a Write: its own block turns. -/
theorem W3.tk_stepped {t t' : Tk} (h : W3 w0 w p pa s hs K R gb) (hi : i < 3) (hph : (hs i).ph = .tk t) (hf : Fk K w0 w' p s') (hx : TkBlk w' (gb i) t') (hk : Kept (fun k => K k ∧ k ≠ gb i) w w') : ∃ R' gb', W3 w0 w' p pa s' (upd hs i { hs i with ph := .tk t' }) K R' gb' := by
  obtain ⟨vt, vw, e, hp, -⟩ := h.cells hi
  have hl : Lv (hs i) := fun h => by rw [hph] at h; cases h
  have hm := hp.mem hl
  unfold HPt at hp
  rw [hph] at hp
  obtain ⟨rfl, rfl, q1, q2, q3, q4⟩ := hp
  refine ⟨_, _, h.turn hi (fun _ h => h) hf (hk.less fun k hk => ⟨hk.1, hk.2.2 hl⟩) (vt := gp (gb i)) (vw := np) ?_ (g := gb i) ⟨rfl, rfl, q1, q2, q3, hx⟩ (fun _ => .inl ⟨rfl, hl⟩)⟩
  have : updR R i (hcells { hs i with ph := .tk t' } (gp (gb i)) np) = R := updR_id e
  rw [this]
  exact hk.blk ⟨h.ka, fun e => hm.2 e.symm⟩ h.blk
theorem W3.wr_stepped {x x' : Sw} (h : W3 w0 w p pa s hs K R gb) (hi : i < 3) (hph : (hs i).ph = .wr x) (hf : Fk K w0 w' p s') (hx : WrBlk w' (gb i) x' (hs i).fr) (hk : Kept (fun k => K k ∧ k ≠ gb i) w w') : ∃ R' gb', W3 w0 w' p pa s' (upd hs i { hs i with ph := .wr x' }) K R' gb' := by
  obtain ⟨vt, vw, e, hp, -⟩ := h.cells hi
  have hl : Lv (hs i) := fun h => by rw [hph] at h; cases h
  have hm := hp.mem hl
  unfold HPt at hp
  rw [hph] at hp
  obtain ⟨rfl, rfl, q1, q2, q3, q4⟩ := hp
  refine ⟨_, _, h.turn hi (fun _ h => h) hf (hk.less fun k hk => ⟨hk.1, hk.2.2 hl⟩) (vt := np) (vw := gp (gb i)) ?_ (g := gb i) ⟨rfl, rfl, q1, q2, q3, hx⟩ (fun _ => .inl ⟨rfl, hl⟩)⟩
  have : updR R i (hcells { hs i with ph := .wr x' } np (gp (gb i))) = R := updR_id e
  rw [this]
  exact hk.blk ⟨h.ka, fun e => hm.2 e.symm⟩ h.blk
/-- What is laid besides changes nothing. -/
theorem W3.under (h : W3 w0 w p pa s hs K R gb) (hb : Below w.heap.size w w') : W3 w0 w' p pa s hs K R gb :=
  ⟨h.fk.under hb, h.ka, h.za, h.blk.under hb, fun i hi => by
    obtain ⟨a, b, c, d⟩ := h.row i hi
    exact ⟨a, b, c, d.later (fun _ h => h) fun hl => hb.block _ (h.fk.lt (d.mem hl).1)⟩, h.far⟩
/-- A hand that has done rests: its Take is let go. -/
theorem W3.tk_rest {t : Tk} (h : W3 w0 w p pa s hs K R gb) (hi : i < 3) (hph : (hs i).ph = .tk t) : ∃ R' gb', W3 w0 (w.setCell ⟨pa, i * 10, none⟩ np) p pa s (upd hs i { hs i with ph := .idle }) K R' gb' := by
  obtain ⟨vt, vw, e, hp, -⟩ := h.cells hi
  unfold HPt at hp
  rw [hph] at hp
  obtain ⟨rfl, rfl, q1, q2, q3, q4⟩ := hp
  exact ⟨_, _, h.turn hi (fun _ h => h) (h.fk.set h.ka h.za _ _) ((Kept.set K w pa (i * 10) np).less fun k hk => ⟨hk.1, hk.2.1⟩) (blk_one h.blk h.len hi (j := 0) (by omega) np e rfl) (g := gb i) ⟨rfl, rfl⟩ (fun h => absurd rfl h)⟩
/-- Its Write is let go; what it holds is told. -/
theorem W3.wr_rest {x : Sw} {q : Bool} (h : W3 w0 w p pa s hs K R gb) (hi : i < 3) (hph : (hs i).ph = .wr x) : ∃ R' gb', W3 w0 ((w.setCell ⟨pa, i * 10 + 9, none⟩ (.bool q)).setCell ⟨pa, i * 10 + 1, none⟩ np) p pa s (upd hs i { hs i with ph := .idle, held := q }) K R' gb' := by
  obtain ⟨vt, vw, e, hp, -⟩ := h.cells hi
  unfold HPt at hp
  rw [hph] at hp
  obtain ⟨rfl, rfl, q1, q2, q3, q4⟩ := hp
  have b1 := blk_one h.blk h.len hi (j := 9) (by omega) (.bool q) e rfl
  have b2 := blk_one b1 (updR_len h.len (by simp [hcells])) hi (j := 1) (by omega) np (updR_same _ _ _) rfl
  rw [updR_updR] at b2
  exact ⟨_, _, h.turn hi (fun _ h => h) ((h.fk.set h.ka h.za _ _).set h.ka h.za _ _) (((Kept.set K w pa (i * 10 + 9) (.bool q)).trans (Kept.set K _ pa (i * 10 + 1) np)).less fun k hk => ⟨hk.1, hk.2.1⟩) b2 (g := gb i) ⟨rfl, rfl⟩ (fun h => absurd rfl h)⟩
/-- What it was told that it holds is written down. -/
theorem W3.tk_held {t : Tk} {f : List Nat} {k : Int} {L : Lo} (h : W3 w0 w p pa s hs K R gb) (hi : i < 3) (hph : (hs i).ph = .tk t) : ∃ R' gb', W3 w0 ((((((((w.setCell ⟨pa, i * 10 + 3, none⟩ (.string (str f))).setCell ⟨pa, i * 10 + 4, none⟩ (.int .i64 k)).setCell ⟨pa, i * 10 + 5, none⟩ (.int .i64 L.a)).setCell ⟨pa, i * 10 + 6, none⟩ (.int .i64 L.b)).setCell ⟨pa, i * 10 + 7, none⟩ (.int .i64 L.c)).setCell ⟨pa, i * 10 + 8, none⟩ (.int .i64 L.d)).setCell ⟨pa, i * 10 + 9, none⟩ (.bool true)).setCell ⟨pa, i * 10, none⟩ np) p pa s (upd hs i { hs i with ph := .idle, gn := f, gs := k, lo := L, held := true }) K R' gb' := by
  obtain ⟨vt, vw, e, hp, -⟩ := h.cells hi
  unfold HPt at hp
  rw [hph] at hp
  obtain ⟨rfl, rfl, q1, q2, q3, q4⟩ := hp
  have b1 := blk_one h.blk h.len hi (j := 3) (by omega) (.string (str f)) e rfl
  have b2 := blk_one b1 (updR_len h.len (by simp [hcells])) hi (j := 4) (by omega) (.int .i64 k) (updR_same _ _ _) rfl
  rw [updR_updR] at b2
  have b3 := blk_one b2 (updR_len h.len (by simp [hcells])) hi (j := 5) (by omega) (.int .i64 L.a) (updR_same _ _ _) rfl
  rw [updR_updR] at b3
  have b4 := blk_one b3 (updR_len h.len (by simp [hcells])) hi (j := 6) (by omega) (.int .i64 L.b) (updR_same _ _ _) rfl
  rw [updR_updR] at b4
  have b5 := blk_one b4 (updR_len h.len (by simp [hcells])) hi (j := 7) (by omega) (.int .i64 L.c) (updR_same _ _ _) rfl
  rw [updR_updR] at b5
  have b6 := blk_one b5 (updR_len h.len (by simp [hcells])) hi (j := 8) (by omega) (.int .i64 L.d) (updR_same _ _ _) rfl
  rw [updR_updR] at b6
  have b7 := blk_one b6 (updR_len h.len (by simp [hcells])) hi (j := 9) (by omega) (.bool true) (updR_same _ _ _) rfl
  rw [updR_updR] at b7
  have b8 := blk_one b7 (updR_len h.len (by simp [hcells])) hi (j := 0) (by omega) np (updR_same _ _ _) rfl
  rw [updR_updR] at b8
  exact ⟨_, _, h.turn hi (fun _ h => h) ((((((((h.fk.set h.ka h.za _ _).set h.ka h.za _ _).set h.ka h.za _ _).set h.ka h.za _ _).set h.ka h.za _ _).set h.ka h.za _ _).set h.ka h.za _ _).set h.ka h.za _ _) (((((((((Kept.set K w pa (i * 10 + 3) (.string (str f))).trans (Kept.set K _ pa (i * 10 + 4) (.int .i64 k))).trans (Kept.set K _ pa (i * 10 + 5) (.int .i64 L.a))).trans (Kept.set K _ pa (i * 10 + 6) (.int .i64 L.b))).trans (Kept.set K _ pa (i * 10 + 7) (.int .i64 L.c))).trans (Kept.set K _ pa (i * 10 + 8) (.int .i64 L.d))).trans (Kept.set K _ pa (i * 10 + 9) (.bool true))).trans (Kept.set K _ pa (i * 10) np)).less fun k hk => ⟨hk.1, hk.2.1⟩) b8 (g := gb i) ⟨rfl, rfl⟩ (fun h => absurd rfl h)⟩
theorem W3.wr_held {x : Sw} {f : List Nat} {k : Int} {L : Lo} (h : W3 w0 w p pa s hs K R gb) (hi : i < 3) (hph : (hs i).ph = .wr x) : ∃ R' gb', W3 w0 ((((((((w.setCell ⟨pa, i * 10 + 9, none⟩ (.bool true)).setCell ⟨pa, i * 10 + 3, none⟩ (.string (str f))).setCell ⟨pa, i * 10 + 4, none⟩ (.int .i64 k)).setCell ⟨pa, i * 10 + 5, none⟩ (.int .i64 L.a)).setCell ⟨pa, i * 10 + 6, none⟩ (.int .i64 L.b)).setCell ⟨pa, i * 10 + 7, none⟩ (.int .i64 L.c)).setCell ⟨pa, i * 10 + 8, none⟩ (.int .i64 L.d)).setCell ⟨pa, i * 10 + 1, none⟩ np) p pa s (upd hs i { hs i with ph := .idle, gn := f, gs := k, lo := L, held := true }) K R' gb' := by
  obtain ⟨vt, vw, e, hp, -⟩ := h.cells hi
  unfold HPt at hp
  rw [hph] at hp
  obtain ⟨rfl, rfl, q1, q2, q3, q4⟩ := hp
  have b1 := blk_one h.blk h.len hi (j := 9) (by omega) (.bool true) e rfl
  have b2 := blk_one b1 (updR_len h.len (by simp [hcells])) hi (j := 3) (by omega) (.string (str f)) (updR_same _ _ _) rfl
  rw [updR_updR] at b2
  have b3 := blk_one b2 (updR_len h.len (by simp [hcells])) hi (j := 4) (by omega) (.int .i64 k) (updR_same _ _ _) rfl
  rw [updR_updR] at b3
  have b4 := blk_one b3 (updR_len h.len (by simp [hcells])) hi (j := 5) (by omega) (.int .i64 L.a) (updR_same _ _ _) rfl
  rw [updR_updR] at b4
  have b5 := blk_one b4 (updR_len h.len (by simp [hcells])) hi (j := 6) (by omega) (.int .i64 L.b) (updR_same _ _ _) rfl
  rw [updR_updR] at b5
  have b6 := blk_one b5 (updR_len h.len (by simp [hcells])) hi (j := 7) (by omega) (.int .i64 L.c) (updR_same _ _ _) rfl
  rw [updR_updR] at b6
  have b7 := blk_one b6 (updR_len h.len (by simp [hcells])) hi (j := 8) (by omega) (.int .i64 L.d) (updR_same _ _ _) rfl
  rw [updR_updR] at b7
  have b8 := blk_one b7 (updR_len h.len (by simp [hcells])) hi (j := 1) (by omega) np (updR_same _ _ _) rfl
  rw [updR_updR] at b8
  exact ⟨_, _, h.turn hi (fun _ h => h) ((((((((h.fk.set h.ka h.za _ _).set h.ka h.za _ _).set h.ka h.za _ _).set h.ka h.za _ _).set h.ka h.za _ _).set h.ka h.za _ _).set h.ka h.za _ _).set h.ka h.za _ _) (((((((((Kept.set K w pa (i * 10 + 9) (.bool true)).trans (Kept.set K _ pa (i * 10 + 3) (.string (str f)))).trans (Kept.set K _ pa (i * 10 + 4) (.int .i64 k))).trans (Kept.set K _ pa (i * 10 + 5) (.int .i64 L.a))).trans (Kept.set K _ pa (i * 10 + 6) (.int .i64 L.b))).trans (Kept.set K _ pa (i * 10 + 7) (.int .i64 L.c))).trans (Kept.set K _ pa (i * 10 + 8) (.int .i64 L.d))).trans (Kept.set K _ pa (i * 10 + 1) np)).less fun k hk => ⟨hk.1, hk.2.1⟩) b8 (g := gb i) ⟨rfl, rfl⟩ (fun h => absurd rfl h)⟩
/-- The cells of what a hand holds. -/
abbrev Cl6 (w : World) (pa i : Nat) (h : Hd) : Prop := w.cell? ⟨pa, i * 10 + 3, none⟩ = some (.string (str h.gn)) ∧ w.cell? ⟨pa, i * 10 + 4, none⟩ = some (.int .i64 h.gs) ∧ w.cell? ⟨pa, i * 10 + 5, none⟩ = some (.int .i64 h.lo.a) ∧ w.cell? ⟨pa, i * 10 + 6, none⟩ = some (.int .i64 h.lo.b) ∧ w.cell? ⟨pa, i * 10 + 7, none⟩ = some (.int .i64 h.lo.c) ∧ w.cell? ⟨pa, i * 10 + 8, none⟩ = some (.int .i64 h.lo.d)
theorem W3.six (h : W3 w0 w p pa s hs K R gb) (hi : i < 3) : Cl6 w pa i (hs i) := by
  obtain ⟨vt, vw, e, hp, c0, c1, c2, c3, c4, c5, c6, c7, c8, c9⟩ := h.cells hi
  exact ⟨c3, c4, c5, c6, c7, c8⟩
theorem off_cell {v : Value} {j k : Nat} (hb : w.cell? ⟨pa, j, none⟩ = some v) (hn : k ≠ j) (u : Value) : (w.setCell ⟨pa, k, none⟩ u).cell? ⟨pa, j, none⟩ = some v :=
  (World.cell?_setCell_other w ⟨pa, k, none⟩ ⟨pa, j, none⟩ u (fun e => hn (congrArg Addr.off e))).trans hb
theorem six_set {h : Hd} (hc : Cl6 w pa i h) {j : Nat} (hj : j < 3 ∨ 8 < j) (u : Value) : Cl6 (w.setCell ⟨pa, i * 10 + j, none⟩ u) pa i h :=
  ⟨off_cell hc.1 (by omega) u, off_cell hc.2.1 (by omega) u, off_cell hc.2.2.1 (by omega) u, off_cell hc.2.2.2.1 (by omega) u, off_cell hc.2.2.2.2.1 (by omega) u, off_cell hc.2.2.2.2.2 (by omega) u⟩
theorem six_under {h : Hd} (hc : Cl6 w pa i h) (hb : Below w.heap.size w w') : Cl6 w' pa i h :=
  ⟨cell_later hb hc.1, cell_later hb hc.2.1, cell_later hb hc.2.2.1, cell_later hb hc.2.2.2.1, cell_later hb hc.2.2.2.2.1, cell_later hb hc.2.2.2.2.2⟩
end Go.Proofs.YtfheaognfocofaaGreatDoor

/- LockOne: a step and what is written down behind it. -/
namespace Go.Proofs.YtfheaognfocofaaGreatDoor
set_option maxRecDepth 100000
open Go.ChangeShapes Go.WideShapes Go.ChangeAt Go.RowKit Go.ChangeMaps
open Sf Lk

variable {w0 w w' w2 : World} {p pa i g : Nat} {s s' : S} {hs : Nat → Hd} {K : Nat → Prop} {R : Nat → List Value} {gb : Nat → Nat}
theorem upd_upd (hs : Nat → Hd) (i : Nat) (a b : Hd) : upd (upd hs i a) i b = upd hs i b := funext fun j => by
  by_cases h : j = i <;> simp [upd, h]
theorem fk_good (h : Fk K w0 w p s) : Sf.Good s := by
  obtain ⟨mb, V, F, h1, _⟩ := h
  exact h1.good
theorem tk_same {t : Tk} (h : t.sw.told = 0) : ({ t with sw := { t.sw with told := 0 } } : Tk) = t := by
  obtain ⟨⟨a, b, c, d, e, f⟩, g, h', k⟩ := t
  subst h
  rfl
theorem wr_same {x : Sw} (h : x.told = 0) : ({ x with told := 0 } : Sw) = x := by
  obtain ⟨a, b, c, d, e, f⟩ := x
  subst h
  rfl
theorem W3.tk_done {t t' : Tk} (h : W3 w0 w p pa s hs K R gb) (hi : i < 3) (hph : (hs i).ph = .tk t) (hf : Fk K w0 w' p s') (hx : TkBlk w' (gb i) t') (hk : Kept (fun k => K k ∧ k ≠ gb i) w w') (hb : Below w'.heap.size w' w2) : ∃ K' R' gb', W3 w0 (w2.setCell ⟨pa, i * 10, none⟩ np) p pa s' (upd hs i { hs i with ph := .idle }) K' R' gb' := by
  obtain ⟨R1, gb1, h1⟩ := h.tk_stepped hi hph hf hx hk
  obtain ⟨R2, gb2, h2⟩ := (h1.under hb).tk_rest hi (by rw [upd_same])
  rw [upd_same, upd_upd] at h2
  exact ⟨_, _, _, h2⟩
theorem W3.tk_told {t t' : Tk} {f : List Nat} {k : Int} {L : Lo} (h : W3 w0 w p pa s hs K R gb) (hi : i < 3) (hph : (hs i).ph = .tk t) (hf : Fk K w0 w' p s') (hx : TkBlk w' (gb i) t') (hk : Kept (fun k => K k ∧ k ≠ gb i) w w') (hb : Below w'.heap.size w' w2) : ∃ K' R' gb', W3 w0 ((((((((w2.setCell ⟨pa, i * 10 + 3, none⟩ (.string (str f))).setCell ⟨pa, i * 10 + 4, none⟩ (.int .i64 k)).setCell ⟨pa, i * 10 + 5, none⟩ (.int .i64 L.a)).setCell ⟨pa, i * 10 + 6, none⟩ (.int .i64 L.b)).setCell ⟨pa, i * 10 + 7, none⟩ (.int .i64 L.c)).setCell ⟨pa, i * 10 + 8, none⟩ (.int .i64 L.d)).setCell ⟨pa, i * 10 + 9, none⟩ (.bool true)).setCell ⟨pa, i * 10, none⟩ np) p pa s' (upd hs i { hs i with ph := .idle, gn := f, gs := k, lo := L, held := true }) K' R' gb' := by
  obtain ⟨R1, gb1, h1⟩ := h.tk_stepped hi hph hf hx hk
  obtain ⟨R2, gb2, h2⟩ := (h1.under hb).tk_held (f := f) (k := k) (L := L) hi (by rw [upd_same])
  rw [upd_same, upd_upd] at h2
  exact ⟨_, _, _, h2⟩
theorem W3.wr_done {x x' : Sw} {q : Bool} (h : W3 w0 w p pa s hs K R gb) (hi : i < 3) (hph : (hs i).ph = .wr x) (hf : Fk K w0 w' p s') (hx : WrBlk w' (gb i) x' (hs i).fr) (hk : Kept (fun k => K k ∧ k ≠ gb i) w w') (hb : Below w'.heap.size w' w2) : ∃ K' R' gb', W3 w0 ((w2.setCell ⟨pa, i * 10 + 9, none⟩ (.bool q)).setCell ⟨pa, i * 10 + 1, none⟩ np) p pa s' (upd hs i { hs i with ph := .idle, held := q }) K' R' gb' := by
  obtain ⟨R1, gb1, h1⟩ := h.wr_stepped hi hph hf hx hk
  obtain ⟨R2, gb2, h2⟩ := (h1.under hb).wr_rest (q := q) hi (by rw [upd_same])
  rw [upd_same, upd_upd] at h2
  exact ⟨_, _, _, h2⟩
theorem W3.wr_told {x x' : Sw} {f : List Nat} {k : Int} {L : Lo} (h : W3 w0 w p pa s hs K R gb) (hi : i < 3) (hph : (hs i).ph = .wr x) (hf : Fk K w0 w' p s') (hx : WrBlk w' (gb i) x' (hs i).fr) (hk : Kept (fun k => K k ∧ k ≠ gb i) w w') (hb : Below w'.heap.size w' w2) : ∃ K' R' gb', W3 w0 ((((((((w2.setCell ⟨pa, i * 10 + 9, none⟩ (.bool true)).setCell ⟨pa, i * 10 + 3, none⟩ (.string (str f))).setCell ⟨pa, i * 10 + 4, none⟩ (.int .i64 k)).setCell ⟨pa, i * 10 + 5, none⟩ (.int .i64 L.a)).setCell ⟨pa, i * 10 + 6, none⟩ (.int .i64 L.b)).setCell ⟨pa, i * 10 + 7, none⟩ (.int .i64 L.c)).setCell ⟨pa, i * 10 + 8, none⟩ (.int .i64 L.d)).setCell ⟨pa, i * 10 + 1, none⟩ np) p pa s' (upd hs i { hs i with ph := .idle, gn := f, gs := k, lo := L, held := true }) K' R' gb' := by
  obtain ⟨R1, gb1, h1⟩ := h.wr_stepped hi hph hf hx hk
  obtain ⟨R2, gb2, h2⟩ := (h1.under hb).wr_held (f := f) (k := k) (L := L) hi (by rw [upd_same])
  rw [upd_same, upd_upd] at h2
  exact ⟨_, _, _, h2⟩
end Go.Proofs.YtfheaognfocofaaGreatDoor
