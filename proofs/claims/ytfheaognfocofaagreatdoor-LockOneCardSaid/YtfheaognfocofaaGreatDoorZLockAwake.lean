/- Layer 13's statements: what the document fixes. -/
import Derived.Test.YtfheaognfocofaaGreatDoorZ13
import Derived.Test.YtfheaognfocofaaGreatDoorZ11
import Derived.Test.YtfheaognfocofaaGreatDoorZRecoRef
namespace Go.Proofs.YtfheaognfocofaaGreatDoor
set_option maxRecDepth 100000
open Go.ChangeShapes Go.WideShapes Go.ChangeAt Go.RowKit Go.ChangeMaps
open Sf Lk

def logL : List Nat := [108, 111, 99, 107, 47, 108, 111, 103]
theorem nice_log : Nice logL := by constructor <;> simp [logL]
theorem file_log : Nm.file logL = true := by decide
abbrev tmp5 (a c : Nat) : List Nat := Nm.temp a 1 c
theorem nice_tmp5 (a c : Nat) (ha : a ≤ 999) (hc : c ≤ 99999) : Nice (tmp5 a c) := nice_temp a 1 c ha (by omega) hc
theorem file_tmp5 (a c : Nat) (ha : a ≤ 999) (hc : c ≤ 99999) : Nm.file (tmp5 a c) = true := Nm.temp_file ha (by omega) hc
theorem log_lt (a c : Nat) : logL < tmp5 a c := lt_temp (by omega)
def B1 : List Nat := Lo.bytes ⟨1, 1, 1, 110⟩
def B2 : List Nat := Lo.bytes ⟨2, 1, 2, 210⟩
def B3 : List Nat := Lo.bytes ⟨1, 1, 1, 0⟩
def t0 : Tk := ⟨⟨logL, 0, lo0, tmp5 1 5, 0, 0⟩, 1, 1, 100⟩
def t1 : Tk := ⟨⟨logL, 0, lo0, tmp5 1 5, 1, 0⟩, 1, 1, 100⟩
def t2 : Tk := ⟨⟨logL, 1, ⟨1, 1, 1, 110⟩, tmp5 1 5, 1, 1⟩, 1, 1, 100⟩
def u0 : Tk := ⟨⟨logL, 0, lo0, tmp5 2 5, 0, 0⟩, 2, 1, 100⟩
def u1 : Tk := ⟨⟨logL, 1, ⟨1, 1, 1, 110⟩, tmp5 2 5, 0, 2⟩, 2, 1, 100⟩
def v1 : Tk := ⟨⟨logL, 1, ⟨1, 1, 2, 110⟩, tmp5 2 5, 2, 0⟩, 2, 1, 100⟩
def v2 : Tk := ⟨⟨logL, 1, ⟨2, 1, 2, 210⟩, tmp5 2 5, 3, 0⟩, 2, 1, 100⟩
def v3 : Tk := ⟨⟨logL, 3, ⟨2, 1, 2, 210⟩, tmp5 2 5, 3, 1⟩, 2, 1, 100⟩
def x0 : Sw := ⟨logL, 1, ⟨1, 1, 1, 0⟩, tmp5 1 6, 2, 0⟩
def x1 : Sw := ⟨logL, 1, ⟨1, 1, 1, 0⟩, tmp5 1 6, 3, 0⟩
def x2 : Sw := ⟨logL, 1, ⟨1, 1, 1, 0⟩, tmp5 1 6, 4, 0⟩
def x3 : Sw := ⟨logL, 1, ⟨1, 1, 1, 0⟩, tmp5 1 6, 4, 2⟩
def s0 : S := lkN 1000 0 (-1)
def s1 : S := lkO logL B1 1 1000 1 (-1)
def s2 : S := lkT logL B1 1 (tmp5 2 5) B2 2 1000 2 (-1)
def s3 : S := lkO logL B2 3 1000 3 (-1)
def s4 : S := lkT logL B2 3 (tmp5 1 6) B3 4 1000 4 (-1)
def s5 : S := lkO logL B2 3 1000 4 (-1)
theorem openB1 : loOf (Rc.openL B1) = ⟨1, 1, 1, 110⟩ := Lo.opened ⟨1, 1, 1, 110⟩
theorem openB1' : Rc.openL B1 = some (1, 1, 1, 110) := Lo.opens ⟨1, 1, 1, 110⟩
theorem p1 : t0.step s0 10 = (s0, t1, 0) := st_none file_log lo0
theorem p2 : t1.step s0 10 = (s1, t2, 1) := st_make file_log lo0 (by omega)
theorem p3 : u0.step s1 50 = (s1, u1, 2) := by
  have h := st_read (k := 1) (n := 1) (r := 1000) (c := -1) (T := tmp5 2 5) (σ := 0) (ls := 100) (who := 2) (inc := 1) (now := 50) file_log lo0 _ openB1 4 (by rw [openB1']; decide)
  rwa [if_neg (by omega), if_pos rfl] at h
theorem p4 : u0.step s1 110 = (s1, v1, 0) := by
  have h := st_read (k := 1) (n := 1) (r := 1000) (c := -1) (T := tmp5 2 5) (σ := 0) (ls := 100) (who := 2) (inc := 1) (now := 110) file_log lo0 _ openB1 3 (by rw [openB1']; decide)
  rwa [if_neg (by omega), if_neg (by omega), if_pos rfl] at h
theorem p5 : v1.step s1 110 = (s2, v2, 0) := st_put (file_tmp5 2 5 (by omega) (by omega)) (log_lt 2 5) ⟨1, 1, 2, 110⟩ (by rw [B1, Lo.bytes_len]; omega)
theorem p6 : v2.step s2 110 = (s3, v3, 1) := st_move file_log (file_tmp5 2 5 (by omega) (by omega)) (log_lt 2 5) ⟨2, 1, 2, 210⟩ rfl
theorem p7 : x0.step s3 = (s4, x1, 0) := wt_put (file_tmp5 1 6 (by omega) (by omega)) (log_lt 1 6) ⟨1, 1, 1, 0⟩ (by rw [B2, Lo.bytes_len]; omega)
theorem p8 : x1.step s4 = (s4, x2, 0) := wt_off file_log (file_tmp5 1 6 (by omega) (by omega)) (log_lt 1 6) ⟨1, 1, 1, 0⟩ (by omega)
theorem p9 : x2.step s4 = (s5, x3, 2) := wt_drop (file_tmp5 1 6 (by omega) (by omega)) (log_lt 1 6) ⟨1, 1, 1, 0⟩
theorem p10 : heldV logL t2.sw.held = .tuple #[guardV logL 1, loV ⟨1, 1, 1, 110⟩, .bool true] := rfl
theorem p11 : heldV logL v3.sw.held = .tuple #[guardV logL 3, loV ⟨2, 1, 2, 210⟩, .bool true] := rfl
theorem p12 : what (Rc.openL B1) 2 1 110 = 3 := by rw [openB1']; decide
theorem Fk.add {K : Nat → Prop} {w0 w w1 : World} {p g : Nat} {s : S} (h : Fk K w0 w p s) (hb : Below w.heap.size w w1) (h1 : w.heap.size ≤ g) (h2 : g < w1.heap.size) : ∃ K', Fk K' w0 w1 p s ∧ K' g ∧ (∀ k, K k → K' k) := ⟨_, h.more hb h1 h2, .inr rfl, fun _ => .inl⟩
/-- Two boxes, of a guard and of a lock, newly laid. -/
theorem Fk.boxes {K : Nat → Prop} {w0 w : World} {p : Nat} {s : S} (h : Fk K w0 w p s) (x y : Array Value) : ∃ w1 q r K', (w.alloc (.cells x 28)).alloc (.cells y 30) = w1 ∧ w.heap.size = q ∧ w.heap.size + 1 = r ∧ Fk K' w0 w1 p s ∧ K' q ∧ K' r ∧ (∀ k, K k → K' k) ∧ Blk w1 q 28 x ∧ Blk w1 r 30 y ∧ Below w.heap.size w w1 := by
  have hb : Below w.heap.size w ((w.alloc (.cells x 28)).alloc (.cells y 30)) := ((Below.refl _ _).alloc (Nat.le_refl _) _).alloc (by simp) _
  refine ⟨_, _, _, fun k => K k ∨ (w.heap.size ≤ k ∧ k < w.heap.size + 2), rfl, rfl, rfl, h.grow hb _ fun k hk => hk.elim .inl fun e => .inr ⟨e.1, by simp; omega⟩, .inr (by omega), .inr (by omega), fun _ => .inl, Blk.alloc (heap_alloc_new w _) _, heap_alloc_new' _ _ (by simp), hb⟩
theorem tk_to {K : Nat → Prop} {w0 w : World} {p g : Nat} {s s' : S} {t t' : Tk} {now : Int} {q : Nat} (hp : t.step s now = (s', t', q)) (h : Fk K w0 w p s) (hg : K g) (hg0 : w0.heap.size ≤ g) (hk : TkBlk w g t) (hf : Nice t.sw.file) (ht : Nice t.sw.temp) (hnx : s.next ≤ 1000000) (hu : used s.l ≤ 1000000) (h2 : 0 ≤ t.lease ∧ t.lease ≤ 1000000) :
    Calls Tryz.prog 9 #[.pointer (some ⟨g, 0, none⟩), .pointer (some ⟨p, 0, none⟩), .int .i64 now] w fun e w' => e = .returned (.int .i64 (q : Int)) ∧ Fk K w0 w' p s' ∧ TkBlk w' g t' ∧ Kept (fun k => K k ∧ k ≠ g) w w' := by
  have := tkstep_any t now h hg hg0 hk hf ht (by omega) (by omega) h2
  rw [hp] at this
  exact this
theorem wr_to {K : Nat → Prop} {w0 w : World} {p g : Nat} {s s' : S} {x x' : Sw} {fr : Bool} {q : Nat} (hp : x.step s = (s', x', q)) (h : Fk K w0 w p s) (hg : K g) (hg0 : w0.heap.size ≤ g) (hk : WrBlk w g x fr) (hf : Nice x.file) (ht : Nice x.temp) (hnx : s.next ≤ 1000000) (hu : used s.l ≤ 1000000) :
    Calls Tryz.prog 13 #[.pointer (some ⟨g, 0, none⟩), .pointer (some ⟨p, 0, none⟩)] w fun e w' => e = .returned (.int .i64 (q : Int)) ∧ Fk K w0 w' p s' ∧ WrBlk w' g x' fr ∧ Kept (fun k => K k ∧ k ≠ g) w w' := by
  have := wrstep_any x fr h hg hg0 hk hf ht (by omega) (by omega)
  rw [hp] at this
  exact this
theorem used_s1 : used s1.l ≤ 1000000 := by rw [s1, used_one, B1, Lo.bytes_len]; omega
theorem used_s2 : used s2.l ≤ 1000000 := by rw [s2, used_two, B1, B2, Lo.bytes_len, Lo.bytes_len]; omega
theorem used_s3 : used s3.l ≤ 1000000 := by rw [s3, used_one, B2, Lo.bytes_len]; omega
theorem used_s4 : used s4.l ≤ 1000000 := by rw [s4, used_two, B2, B3, Lo.bytes_len, Lo.bytes_len]; omega

set_option maxRecDepth 100000 in
set_option maxHeartbeats 8000000 in
theorem lawake_any (w : World) (hT : Pow w) : Calls Tryz.prog 16 #[] w fun e w' => e = .returned (.bool true) ∧ Below w.heap.size w w' := by
  have HT := Lib.hid hT
  have kc : ({ data := #[108, 111, 99, 107, 47, 108, 111, 103] } : ByteArray) = str logL := rfl
  clear hT
  go_enter Tryz.func16, Tryz.ntmps16
  go_wp2_with fail
  refine (fs_new 1000 w).mono ?_
  rintro e w1 ⟨p, rfl, h1⟩
  have H1 : Hid (Fk (fun _ => False) w w1 p s0) := Lib.hid h1.keep
  clear h1
  go_wp2_with fail
  refine (tknew_any logL 1 1 5 100 w1 (HT.out.under H1.out.fs.below)).mono ?_
  rintro e w2 ⟨g1, rfl, hg1, hx1, hb2⟩
  obtain ⟨K2, h2, m2, -⟩ := H1.out.add hb2 hg1 (Blk.size hx1)
  have H2 := Lib.hid h2
  have M2 := Lib.hid m2
  have X2 : Hid (TkBlk w2 g1 t0) := Lib.hid hx1
  have Z2 : Hid (w.heap.size ≤ g1) := Lib.hid (by have := H1.out.fs.below.size; omega)
  clear hg1 hx1 hb2 h2 m2 H1
  go_wp2_with fail
  refine (tknew_any logL 2 1 5 100 w2 (HT.out.under H2.out.fs.below)).mono ?_
  rintro e w3 ⟨g2, rfl, hg2, hx2, hb3⟩
  obtain ⟨K3, h3, m3, n3⟩ := H2.out.add hb3 hg2 (Blk.size hx2)
  have H3 := Lib.hid h3
  have M3 : Hid (K3 g1 ∧ K3 g2 ∧ g1 < g2) := Lib.hid ⟨n3 _ M2.out, m3, by have := Blk.size X2.out; omega⟩
  have X3 : Hid (TkBlk w3 g1 t0) := Lib.hid (Blk.under X2.out hb3)
  have Y3 : Hid (TkBlk w3 g2 u0) := Lib.hid hx2
  have Z3 : Hid (w.heap.size ≤ g2) := Lib.hid (by have := H2.out.fs.below.size; omega)
  clear hg2 hx2 hb3 h3 m3 n3 H2 M2 X2
  go_wp2_with fail
  refine (tk_to p1 H3.out M3.out.1 Z2.out X3.out nice_log (nice_tmp5 1 5 (by omega) (by omega)) (by decide) (by decide) (by decide)).mono ?_
  rintro e w4 ⟨rfl, h4, x4, k4⟩
  have H4 := Lib.hid h4
  have X4 := Lib.hid x4
  have Y4 := Lib.hid (k4.blk (ty := 62) ⟨M3.out.2.1, by have := M3.out.2.2; omega⟩ Y3.out)
  clear h4 x4 k4 H3 X3 Y3
  go_wp2_with fail
  refine (tk_to p2 H4.out M3.out.1 Z2.out X4.out nice_log (nice_tmp5 1 5 (by omega) (by omega)) (by decide) (by decide) (by decide)).mono ?_
  rintro e w5 ⟨rfl, h5, x5, k5⟩
  have H5 := Lib.hid h5
  have X5 := Lib.hid x5
  have Y5 : Hid (TkBlk w5 g2 u0) := Lib.hid (k5.blk (ty := 62) ⟨M3.out.2.1, by have := M3.out.2.2; omega⟩ Y4.out)
  clear h5 x5 k5 H4 X4 Y4
  have C6 : Hid (Calls Tryz.prog 10 #[.pointer (some ⟨g1, 0, none⟩)] w5 fun e w' => e = .returned (.tuple #[guardV logL 1, loV ⟨1, 1, 1, 110⟩, .bool true]) ∧ Below w5.heap.size w5 w') := Lib.hid (by rw [← p10]; exact tkheld_any t2 X5.out)
  go_wp2_with fail
  refine C6.out.mono ?_
  rintro e w6 ⟨rfl, hb6⟩
  have H6 := Lib.hid (H5.out.under hb6)
  have Y6 : Hid (TkBlk w6 g2 u0) := Lib.hid (Blk.under Y5.out hb6)
  clear hb6 H5 Y5 X5 C6
  go_wp2_with fail
  obtain ⟨w7, q6, q7, K7, hw7, hq6, hq7, h7, m6, m7, n7, b6, b7, bb7⟩ := H6.out.boxes #[.string (str logL), .int .i64 1] #[.int .i64 1, .int .i64 1, .int .i64 1, .int .i64 110]
  rw [hw7, hq7, hq6]
  have H7 := Lib.hid h7
  have M7 : Hid (K7 g2 ∧ K7 q6 ∧ K7 q7 ∧ g2 < q6 ∧ q6 < q7) := Lib.hid ⟨n7 _ M3.out.2.1, m6, m7, by have := Blk.size Y6.out; omega, by omega⟩
  have Y7 : Hid (TkBlk w7 g2 u0) := Lib.hid (Blk.under Y6.out bb7)
  have B6 := Lib.hid b6
  have B7 := Lib.hid b7
  clear hw7 hq6 hq7 h7 m6 m7 n7 b6 b7 bb7 H6 Y6 M3 Z2
  refine (tk_to p3 H7.out M7.out.1 Z3.out Y7.out nice_log (nice_tmp5 2 5 (by omega) (by omega)) (by decide) used_s1 (by decide)).mono ?_
  rintro e w8 ⟨rfl, h8, y8, k8⟩
  have H8 := Lib.hid h8
  have B6' := Lib.hid (k8.blk ⟨M7.out.2.1, by have := M7.out; omega⟩ B6.out)
  have B7' := Lib.hid (k8.blk ⟨M7.out.2.2.1, by have := M7.out; omega⟩ B7.out)
  clear h8 y8 k8 H7 Y7 B6 B7
  have l0 := B7'.out.at 0
  have l1 := B7'.out.at 1
  have l2 := B7'.out.at 2
  have l3 := B7'.out.at 3
  go_wp2_with fail
  refine (reflock_is 1 1 1 110 B1 w8 rfl).mono ?_
  rintro e w9 ⟨v9, rfl, ho9, hb9⟩
  have HO9 := Lib.hid ho9.bytes
  have H9 := Lib.hid (H8.out.under hb9)
  have B6 := Lib.hid (B6'.out.under hb9)
  have B7 := Lib.hid (B7'.out.under hb9)
  clear ho9 hb9 H8 B6' B7' l0 l1 l2 l3
  have C10 : Hid (Calls Tryz.prog 30 #[v9, .int .i64 2, .int .i64 1, .int .i64 110] w9 fun e w' => e = .returned (.tuple #[loV ⟨1, 1, 1, 110⟩, .int .i64 3]) ∧ Below w9.heap.size w9 w') := Lib.hid (by
    have := look_any v9 B1 w9 HO9.out (by rw [B1, Lo.bytes_len]; omega) 2 1 110
    rw [p12, openB1] at this
    exact this)
  go_wp2_with fail
  refine C10.out.mono ?_
  rintro e w10 ⟨rfl, hb10⟩
  have H10 := Lib.hid ((H9.out.under hb10).alloc (.cells #[.int .i64 1, .int .i64 1, .int .i64 1, .int .i64 110] 30))
  have B6' := Lib.hid ((B6.out.under hb10).alloc (.cells #[.int .i64 1, .int .i64 1, .int .i64 1, .int .i64 110] 30))
  have B7' := Lib.hid ((B7.out.under hb10).alloc (.cells #[.int .i64 1, .int .i64 1, .int .i64 1, .int .i64 110] 30))
  clear hb10 H9 B6 B7 C10 HO9
  go_wp2_with fail
  obtain ⟨w11, hw11⟩ : ∃ w11, w10.alloc (.cells #[.int .i64 1, .int .i64 1, .int .i64 1, .int .i64 110] 30) = w11 := ⟨_, rfl⟩
  obtain ⟨q10, hq10⟩ : ∃ q, w10.heap.size = q := ⟨_, rfl⟩
  rw [hw11] at H10 B6' B7' ⊢
  rw [hq10]
  clear hw11 hq10
  refine (tknew_any logL 2 1 5 100 w11 (HT.out.under H10.out.fs.below)).mono ?_
  rintro e w12 ⟨g3, rfl, hg3, hx3, hb12⟩
  obtain ⟨K12, h12, m12, n12⟩ := H10.out.add hb12 hg3 (Blk.size hx3)
  have H12 := Lib.hid h12
  have M12 : Hid (K12 g3 ∧ K12 q6 ∧ K12 q7 ∧ q6 < q7 ∧ q7 < g3) := Lib.hid ⟨m12, n12 _ M7.out.2.1, n12 _ M7.out.2.2.1, M7.out.2.2.2.2, by have := B7'.out.size; omega⟩
  have X12 : Hid (TkBlk w12 g3 u0) := Lib.hid hx3
  have B6 := Lib.hid (B6'.out.under hb12)
  have B7 := Lib.hid (B7'.out.under hb12)
  have Z12 : Hid (w.heap.size ≤ g3) := Lib.hid (by have := H10.out.fs.below.size; omega)
  clear hg3 hx3 hb12 h12 m12 n12 H10 B6' B7' M7 Z3
  go_wp2_with fail
  refine (tk_to p4 H12.out M12.out.1 Z12.out X12.out nice_log (nice_tmp5 2 5 (by omega) (by omega)) (by decide) used_s1 (by decide)).mono ?_
  rintro e w13 ⟨rfl, h13, x13, k13⟩
  have H13 := Lib.hid h13
  have X13 := Lib.hid x13
  have B6' := Lib.hid (k13.blk ⟨M12.out.2.1, by have := M12.out; omega⟩ B6.out)
  have B7' := Lib.hid (k13.blk ⟨M12.out.2.2.1, by have := M12.out; omega⟩ B7.out)
  clear h13 x13 k13 H12 X12 B6 B7
  go_wp2_with fail
  refine (tk_to p5 H13.out M12.out.1 Z12.out X13.out nice_log (nice_tmp5 2 5 (by omega) (by omega)) (by decide) used_s1 (by decide)).mono ?_
  rintro e w14 ⟨rfl, h14, x14, k14⟩
  have H14 := Lib.hid h14
  have X14 := Lib.hid x14
  have B6 := Lib.hid (k14.blk ⟨M12.out.2.1, by have := M12.out; omega⟩ B6'.out)
  have B7 := Lib.hid (k14.blk ⟨M12.out.2.2.1, by have := M12.out; omega⟩ B7'.out)
  clear h14 x14 k14 H13 X13 B6' B7'
  go_wp2_with fail
  refine (tk_to p6 H14.out M12.out.1 Z12.out X14.out nice_log (nice_tmp5 2 5 (by omega) (by omega)) (by decide) used_s2 (by decide)).mono ?_
  rintro e w15 ⟨rfl, h15, x15, k15⟩
  have H15 := Lib.hid h15
  have X15 := Lib.hid x15
  have B6' := Lib.hid (k15.blk ⟨M12.out.2.1, by have := M12.out; omega⟩ B6.out)
  have B7' := Lib.hid (k15.blk ⟨M12.out.2.2.1, by have := M12.out; omega⟩ B7.out)
  clear h15 x15 k15 H14 X14 B6 B7
  have C16 : Hid (Calls Tryz.prog 10 #[.pointer (some ⟨g3, 0, none⟩)] w15 fun e w' => e = .returned (.tuple #[guardV logL 3, loV ⟨2, 1, 2, 210⟩, .bool true]) ∧ Below w15.heap.size w15 w') := Lib.hid (by rw [← p11]; exact tkheld_any v3 X15.out)
  go_wp2_with fail
  refine C16.out.mono ?_
  rintro e w16 ⟨rfl, hb16⟩
  have H16 := Lib.hid (H15.out.under hb16)
  have B6 := Lib.hid (B6'.out.under hb16)
  have B7 := Lib.hid (B7'.out.under hb16)
  clear hb16 H15 X15 C16 B6' B7'
  obtain ⟨w17, q16, q17, K17, hw17, hq16, hq17, h17, m16, m17, n17, b16, b17, bb17⟩ := H16.out.boxes #[.string (str logL), .int .i64 3] #[.int .i64 2, .int .i64 1, .int .i64 2, .int .i64 210]
  have y6 := B6.out.under bb17
  have y7 := B7.out.under bb17
  have B6' := Lib.hid y6
  have B7' := Lib.hid y7
  have H17 := Lib.hid h17
  have M17 : Hid (K17 q6 ∧ K17 q7 ∧ K17 q16 ∧ K17 q17 ∧ q6 < q7 ∧ q7 < q16 ∧ q16 < q17) := Lib.hid ⟨n17 _ M12.out.2.1, n17 _ M12.out.2.2.1, m16, m17, M12.out.2.2.2.1, by have := B7.out.size; omega, by omega⟩
  have B16 := Lib.hid b16
  have B17 := Lib.hid b17
  clear m16 m17 n17 b16 b17 bb17 h17 H16 B6 B7 M12 Z12
  have l0 := y7.at 0
  have l1 := y7.at 1
  have l2 := y7.at 2
  have l3 := y7.at 3
  have i0 := y6.at 0
  have i1 := y6.at 1
  clear y6 y7
  have HQ17 : Hid (q16 + 1 = q17) := Lib.hid (by omega)
  go_wp2_with fail
  rw [HQ17.out]
  clear hw17 hq17 hq16 l0 l1 l2 l3 i0 i1
  refine (free_any logL 1 ⟨1, 1, 1, 110⟩ 6 w17 (HT.out.under H17.out.fs.below)).mono ?_
  rintro e w18 ⟨g4, rfl, hg4, hx4, hb18⟩
  obtain ⟨K18, h18, m18, n18⟩ := H17.out.add hb18 hg4 (Blk.size hx4)
  have H18 := Lib.hid h18
  have M18 : Hid (K18 g4 ∧ K18 q6 ∧ K18 q7 ∧ K18 q16 ∧ K18 q17 ∧ q6 < g4 ∧ q7 < g4 ∧ q16 < g4 ∧ q17 < g4) := Lib.hid (by
    have := B17.out.size
    have h := M17.out
    exact ⟨m18, n18 _ h.1, n18 _ h.2.1, n18 _ h.2.2.1, n18 _ h.2.2.2.1, by omega, by omega, by omega, by omega⟩)
  have X18 : Hid (WrBlk w18 g4 x0 true) := Lib.hid hx4
  have B6 := Lib.hid (B6'.out.under hb18)
  have B7 := Lib.hid (B7'.out.under hb18)
  have D16 := Lib.hid (B16.out.under hb18)
  have D17 := Lib.hid (B17.out.under hb18)
  have Z18 : Hid (w.heap.size ≤ g4) := Lib.hid (by have := H17.out.fs.below.size; omega)
  clear hg4 hx4 hb18 h18 m18 n18 H17 B6' B7' B16 B17 M17
  go_wp2_with fail
  refine (wr_to p7 H18.out M18.out.1 Z18.out X18.out nice_log (nice_tmp5 1 6 (by omega) (by omega)) (by decide) used_s3).mono ?_
  rintro e w19 ⟨rfl, h19, x19, k19⟩
  have H19 := Lib.hid h19
  have X19 := Lib.hid x19
  have B6' := Lib.hid (k19.blk ⟨M18.out.2.1, by have := M18.out; omega⟩ B6.out)
  have B7' := Lib.hid (k19.blk ⟨M18.out.2.2.1, by have := M18.out; omega⟩ B7.out)
  have B16 := Lib.hid (k19.blk ⟨M18.out.2.2.2.1, by have := M18.out; omega⟩ D16.out)
  have B17 := Lib.hid (k19.blk ⟨M18.out.2.2.2.2.1, by have := M18.out; omega⟩ D17.out)
  clear h19 x19 k19 H18 X18 B6 B7 D16 D17
  go_wp2_with fail
  refine (wr_to p8 H19.out M18.out.1 Z18.out X19.out nice_log (nice_tmp5 1 6 (by omega) (by omega)) (by decide) used_s4).mono ?_
  rintro e w20 ⟨rfl, h20, x20, k20⟩
  have H20 := Lib.hid h20
  have X20 := Lib.hid x20
  have B6 := Lib.hid (k20.blk ⟨M18.out.2.1, by have := M18.out; omega⟩ B6'.out)
  have B7 := Lib.hid (k20.blk ⟨M18.out.2.2.1, by have := M18.out; omega⟩ B7'.out)
  have D16 := Lib.hid (k20.blk ⟨M18.out.2.2.2.1, by have := M18.out; omega⟩ B16.out)
  have D17 := Lib.hid (k20.blk ⟨M18.out.2.2.2.2.1, by have := M18.out; omega⟩ B17.out)
  clear h20 x20 k20 H19 X19 B6' B7' B16 B17
  go_wp2_with fail
  refine (wr_to p9 H20.out M18.out.1 Z18.out X20.out nice_log (nice_tmp5 1 6 (by omega) (by omega)) (by decide) used_s4).mono ?_
  rintro e w21 ⟨rfl, h21, x21, k21⟩
  have H21 := Lib.hid h21
  have b6 := (k21.blk ⟨M18.out.2.1, by have := M18.out; omega⟩ B6.out)
  have b7 := (k21.blk ⟨M18.out.2.2.1, by have := M18.out; omega⟩ B7.out)
  have b17 := (k21.blk ⟨M18.out.2.2.2.2.1, by have := M18.out; omega⟩ D17.out)
  have l0 := b7.at 0
  have l1 := b7.at 1
  have l2 := b7.at 2
  have l3 := b7.at 3
  have i0 := b6.at 0
  have j2 := b17.at 2
  have j3 := b17.at 3
  clear h21 x21 k21 H20 X20 B6 B7 D16 D17 b6 b7 b17
  go_wp2
  go_ret
  exact ⟨rfl, H21.out.fs.below⟩
end Go.Proofs.YtfheaognfocofaaGreatDoor
