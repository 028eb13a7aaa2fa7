/- CodePlays: numbers and bytes are written, and any bytes read as such, as the document says. -/
import Derived.Test.YtgfhfmpcdmcplaaCodeAwake
import Derived.Test.YtgfhfmpcdmcplaaCodeRef
import Derived.Test.YtgfhfmpcdmcplaaInts
import Derived.Deep.RegionHeld
import Derived.Deep.CutBlock
import Derived.Deep.RegionHeld3
import Derived.Deep.RegionLaw
import Derived.RegionTactic
namespace Go.Proofs.Ytgfhfmpcdmcplaa
open Go.ChangeShapes Go.WideShapes Go.ChangeAt Go.RowKit

theorem and_bit (k : Nat) (h : k < 65536) : bits .and .i64 (k : Int) 1 = ((k % 2 : Nat) : Int) := by
  have h0 : bits .and .i64 (k : Int) 1 = IntKind.i64.wrap ((BitVec.ofInt 64 (k : Int) &&& BitVec.ofInt 64 1).toNat : Int) := rfl
  have hx : (BitVec.ofInt 64 (k : Int) &&& BitVec.ofInt 64 1).toNat = k % 2 := by
    rw [BitVec.toNat_and, BitVec.ofInt_natCast, BitVec.toNat_ofNat, Nat.mod_eq_of_lt (by omega)]
    exact Nat.and_two_pow_sub_one_eq_mod k 1
  rw [h0, hx, IntKind.wrap_i64]
  omega
theorem below_drew {w W w' : World} (e : W = w ∨ W = w.drew ∨ W = w.drew.drew) (h : Below W.heap.size W w') : Below w.heap.size w w' := by
  rcases e with rfl | rfl | rfl <;> exact ⟨h.os, h.tape, h.output, h.size, h.block⟩

theorem and_low16 (a : Int) : (bits .and .i64 a 65535).toNat ≤ 65535 ∧ bits .and .i64 a 65535 = ((bits .and .i64 a 65535).toNat : Int) := by
  have h : bits .and .i64 a 65535 = IntKind.i64.wrap ((BitVec.ofInt 64 a &&& BitVec.ofInt 64 65535).toNat : Int) := rfl
  have hx : (BitVec.ofInt 64 a &&& BitVec.ofInt 64 65535).toNat ≤ 65535 := by
    rw [BitVec.toNat_and]
    exact Nat.le_trans Nat.and_le_right (by decide)
  rw [h, IntKind.wrap_i64]
  omega
theorem low_rem (a : Int) (M : Nat) (h : 0 < M) : ∃ p : Nat, p < M ∧ (bits .and .i64 a 65535).tmod (M : Int) = (p : Int) := by
  obtain ⟨q1, q2⟩ := and_low16 a
  rw [q2, Int.tmod_eq_emod_of_nonneg (by omega)]
  have h1 := Int.emod_lt_of_pos (((bits .and .i64 a 65535).toNat : Nat) : Int) (show (0 : Int) < (M : Int) by omega)
  have h2 := Int.emod_nonneg (((bits .and .i64 a 65535).toNat : Nat) : Int) (show (M : Int) ≠ 0 by omega)
  exact ⟨((((bits .and .i64 a 65535).toNat : Nat) : Int) % (M : Int)).toNat, by omega, by omega⟩
theorem Own.heap {w W : World} {base : Nat} {v : Value} {l : List Nat} (h : Own w base v l) (e : W.heap = w.heap) : Own W base v l := by
  unfold Own World.ownsRow at *
  rw [e]
  exact h
theorem Own.addr {w : World} {base n c : Nat} {A : Option Addr} {l : List Nat} (h : Own w base (.slice A n c) l) (h0 : 0 < n) : ∃ g, A = some ⟨g, 0, none⟩ ∧ base ≤ g ∧ (∀ i, w.frozen? ⟨g, i, none⟩ = false) ∧ ∀ i, i < n → w.cell? ⟨g, i, none⟩ = some (.int .u8 ((l.getD i 0 : Nat) : Int)) := by
  have hn := h.bytes.len
  have hb := h.bytes
  rcases h.1.2 with ⟨e, _⟩ | ⟨g, cap, cur, e, hg, _⟩
  · injection e with _ e
    omega
  · injection e with e1 e2 e3
    subst e1
    have hrow := h.1
    rw [hn] at hrow
    refine ⟨g, rfl, hg, fun i => hrow.frozenAt i, fun i hi => ?_⟩
    obtain ⟨_, _, B, d, e, _, hx⟩ := hb.parts
    injection e with e4 e5 e6
    subst e4
    obtain ⟨b, off, e, hc⟩ := hx (by omega)
    injection e with e
    injection e with e7 e8
    subst e7 e8
    have := hc i (by omega)
    rwa [show 0 + i = i from by omega] at this
theorem Own.set {w : World} {base n c g p b : Nat} {l : List Nat} (h : Own w base (.slice (some ⟨g, 0, none⟩) n c) l) (hb : b < 256) : Own (w.setCell ⟨g, p, none⟩ (.int .u8 (b : Int))) base (.slice (some ⟨g, 0, none⟩) n c) (l.set p b) := by
  have hn := h.bytes.len
  refine ⟨?_, fun x hx => ?_⟩
  · rw [List.length_set, row8_set, hn]
    have := h.1
    rw [hn] at this
    exact (this.stored p _).1
  · rcases List.mem_or_eq_of_mem_set hx with h1 | rfl
    · exact h.2 x h1
    · exact hb
theorem run_min2 {P : Program} (w : World) (ts : Array TypeId) (t : TypeId) (x y n : Int) (h : min x y = n) : (Builtin.min_ ts t #[.int .i64 x, .int .i64 y]).run P w = .ok (.int .i64 n) w := by
  have e : (if y < x then y else x) = n := by
    subst h
    simp only [Int.min_def]
    split <;> split <;> omega
  simp [Builtin.min_, Builtin.min2, e]

/-- A slice of few bytes. -/
def Good (w : World) (x : Value) : Prop := ∃ l, Bytes w x l ∧ l.length ≤ 1000
theorem Good.under {w w' : World} {x : Value} (h : Good w x) (hb : Below w.heap.size w w') : Good w' x := by
  obtain ⟨l, h1, h2⟩ := h
  exact ⟨l, h1.under hb, h2⟩
def Five (T : Nat) (w : World) : Prop := ∀ j, j < 5 → ∃ x, w.cell? ⟨T, j, none⟩ = some x ∧ Good w x
theorem Ref.bad {w : World} {hi g : Nat} {s : Cd.St} (h : Ref w hi g s) : w.cell? ⟨g, 1, none⟩ = some (.bool (!s.isSome)) := by
  rcases s with _ | l
  · obtain ⟨_, A, n, c, h2⟩ := h
    exact h2.at 1
  · obtain ⟨_, v, h2, _⟩ := h
    exact h2.at 1
theorem refend_is (hi g : Nat) (s : Cd.St) (b : Bool) (w : World) (h : Ref w hi g s) (hb : Cd.endB s = b) :
    Calls Try.prog 18 #[.pointer (some ⟨g, 0, none⟩)] w fun e w' => e = .returned (.bool b) ∧ w = w' := by
  subst hb
  exact refend_any hi g s w h
theorem Ref.heap {w W : World} {hi g : Nat} {s : Cd.St} (h : Ref w hi g s) (e : W.heap = w.heap) : Ref W hi g s := by
  refine ⟨h.1, ?_⟩
  rcases s with _ | l
  · obtain ⟨_, A, n, c, h2⟩ := h
    exact ⟨A, n, c, h2.heap e⟩
  · obtain ⟨_, v, h2, h3, h4, h5⟩ := h
    exact ⟨v, h2.heap e, h3.heap e, h4, h5⟩
theorem drewN_heap (w : World) (n : Nat) : (w.drewN n).heap = w.heap := rfl
theorem ok_q (lo hi g : Nat) (s : Cd.St) (b : Bool) (w : World) (n : Nat) (h : Rdr w lo hi g s) (hb : s.isSome = b) :
    Calls Try.prog 10 #[.pointer (some ⟨g, 0, none⟩)] (w.drewN n) fun e w'' => e = .returned (.bool b) ∧ ∃ m, w'' = w.drewN m :=
  (ok_is lo hi g s b (w.drewN n) (h.heap (drewN_heap w n)) hb).mono fun _ _ ⟨he, hw⟩ => ⟨he, n, hw.symm⟩
theorem end_q (lo hi g : Nat) (s : Cd.St) (b : Bool) (w : World) (n : Nat) (h : Rdr w lo hi g s) (hb : Cd.endB s = b) :
    Calls Try.prog 9 #[.pointer (some ⟨g, 0, none⟩)] (w.drewN n) fun e w'' => e = .returned (.bool b) ∧ ∃ m, w'' = w.drewN m :=
  (end_is lo hi g s b (w.drewN n) (h.heap (drewN_heap w n)) hb).mono fun _ _ ⟨he, hw⟩ => ⟨he, n, hw.symm⟩
theorem refend_q (hi g : Nat) (s : Cd.St) (b : Bool) (w : World) (n : Nat) (h : Ref w hi g s) (hb : Cd.endB s = b) :
    Calls Try.prog 18 #[.pointer (some ⟨g, 0, none⟩)] (w.drewN n) fun e w'' => e = .returned (.bool b) ∧ ∃ m, w'' = w.drewN m :=
  (refend_is hi g s b (w.drewN n) (h.heap (drewN_heap w n)) hb).mono fun _ _ ⟨he, hw⟩ => ⟨he, n, hw.symm⟩
theorem five_of {w : World} {x0 x1 x2 x3 x4 : Value} {e : TypeId} (h0 : Good w x0) (h1 : Good w x1) (h2 : Good w x2) (h3 : Good w x3) (h4 : Good w x4) : Five w.heap.size (w.alloc (.cells #[x0, x1, x2, x3, x4] e)) := by
  have hB : Blk (w.alloc (.cells #[x0, x1, x2, x3, x4] e)) w.heap.size e #[x0, x1, x2, x3, x4] := heap_alloc_new w _
  have hb : Below w.heap.size w (w.alloc (.cells #[x0, x1, x2, x3, x4] e)) := (Below.refl _ _).alloc (Nat.le_refl _) _
  intro j hj
  have : j = 0 ∨ j = 1 ∨ j = 2 ∨ j = 3 ∨ j = 4 := by omega
  rcases this with rfl | rfl | rfl | rfl | rfl
  · exact ⟨x0, hB.at 0, h0.under hb⟩
  · exact ⟨x1, hB.at 1, h1.under hb⟩
  · exact ⟨x2, hB.at 2, h2.under hb⟩
  · exact ⟨x3, hB.at 3, h3.under hb⟩
  · exact ⟨x4, hB.at 4, h4.under hb⟩
theorem Five.heap {T : Nat} {w W : World} (h : Five T w) (e : W.heap = w.heap) : Five T W := fun j hj => by
  obtain ⟨x, h1, l, h2, h3⟩ := h j hj
  refine ⟨x, ?_, l, h2.heap e, h3⟩
  rw [← h1]
  unfold World.cell?
  rw [e]
theorem Five.under {T : Nat} {w w' : World} (h : Five T w) (hb : Below w.heap.size w w') : Five T w' := fun j hj => by
  obtain ⟨x, h1, h2⟩ := h j hj
  exact ⟨x, cell_later hb h1, h2.under hb⟩

set_option maxRecDepth 100000 in
set_option maxHeartbeats 40000000 in
theorem plays_short (v0 v1 v2 v3 : Value) (raw : List Nat) (zs ac bs : List Int) (at_ by_ : Int) (w : World) (hr : Bytes w v0 raw) (hz : Ints w v1 zs) (ha : Ints w v2 ac) (hb : Ints w v3 bs) (hl : raw.length ≤ 200) (hby : 0 ≤ by_ ∧ by_ < 256) :
    Calls Try.prog 5 #[v0, v1, v2, v3, .int .i64 at_, .int .u8 by_] w fun e w' => e = .returned (.bool true) ∧ Below w.heap.size w w' := by
  have HR := Lib.hid hr
  have HZ := Lib.hid hz
  have HA := Lib.hid ha
  have HB := Lib.hid hb
  obtain ⟨_, _, A0, c0, rfl, hc0, _⟩ := hr.parts
  obtain ⟨_, hzm, A1, c1, rfl, hc1, _⟩ := hz
  obtain ⟨_, ham, A2, c2, rfl, hc2, _⟩ := ha
  obtain ⟨_, hbm, A3, c3, rfl, hc3, _⟩ := hb
  clear hr
  obtain ⟨R, hR⟩ : ∃ n, raw.length = n := ⟨_, rfl⟩
  obtain ⟨n1, hn1⟩ : ∃ n, zs.length = n := ⟨_, rfl⟩
  obtain ⟨n2, hn2⟩ : ∃ n, ac.length = n := ⟨_, rfl⟩
  obtain ⟨n3, hn3⟩ : ∃ n, bs.length = n := ⟨_, rfl⟩
  rw [hR] at HR hl hc0 ⊢
  rw [hn1] at HZ hzm hc1 ⊢
  rw [hn2] at HA ham hc2 ⊢
  rw [hn3] at HB hbm hc3 ⊢
  have HRL := Lib.hid hR
  have r1 : ¬ (200 : Int) < (R : Int) := by omega
  clear hR hn1 hn2 hn3
  go_enter Try.func5, Try.ntmps5
  go_upto_block 0 with fail
  go_cut [13, 14] (fun v u wx => ∃ L : List Nat, L.length ≤ 300 ∧ Own wx w.heap.size v L ∧ Own wx w.heap.size u L ∧ Below w.heap.size w wx)
  case first =>
    go_wp2_with fail
    go_loopw [13, 14, 15] (fun v u i wr => ∃ (k : Nat) (L : List Nat), k ≤ 10 ∧ i = .int .i64 k ∧ L.length ≤ 30 * k ∧ Own wr w.heap.size v L ∧ Own wr w.heap.size u L ∧ Below w.heap.size w wr) (fun _ _ i _ => 10 - (intOf i).toNat)
    case atStart => exact ⟨0, [], Nat.zero_le _, rfl, by simp, own_none _ _, own_none _ _, Below.refl _ _⟩
    case round =>
      obtain ⟨k, L, hk, rfl, hL, hv, hu, hb⟩ := hrel
      have HV := Lib.hid hv
      have HU := Lib.hid hu
      have hwz : w.heap.size ≤ wr.heap.size := hb.size
      clear hv hu
      by_cases hlt : k < n1 ∧ k < 10
      · obtain ⟨hlt1, hlt2⟩ := hlt
        have k1 : (k : Int) < (n1 : Int) := by omega
        have k2 : (k : Int) < 10 := by omega
        obtain ⟨b, off, rfl, hcz⟩ := HZ.out.at (k := k) (by omega)
        have hs0 := cell_later hb hcz
        obtain ⟨z, hz0⟩ : ∃ z, zs.getD k 0 = z := ⟨_, rfl⟩
        rw [hz0] at hs0 hcz
        have HC := Lib.hid hcz
        clear hcz hz0
        have hpar : (k % 2 = 1 ∧ bits .and .i64 (k : Int) 1 = 1) ∨ (k % 2 = 0 ∧ bits .and .i64 (k : Int) 1 = 0) := by
          rw [and_bit k (by omega)]
          omega
        have hLl : L.length ≤ 1000 := by omega
        rcases hpar with ⟨hp, hpar⟩ | ⟨hp, hpar⟩
        · go_wp2_with fail
          go_region_held (fun w' => w'.cell? ⟨b, off + k, none⟩ = some (Value.int .i64 z)) (first | exact hs0 | exact hs1 | exact hs2 | go_keep)
            (first
            | (go_at_call 8; ((with_reducible refine (num_any _ L z _ ?_ (by omega)).mono ?_); (exact HV.out.bytes.heap rfl); (rintro e w1 ⟨x1, rfl, ho1, hb1⟩)); (have hb1' : Below wr.heap.size wr w1 := ⟨hb1.os, hb1.tape, hb1.output, hb1.size, hb1.block⟩); (have hs1 := cell_later hb1' hs0); (have HU1 := Lib.hid (HU.out.under hb1')); (have HO1 := Lib.hid (ho1.more (base' := w.heap.size) hwz)); (clear ho1))
            | (go_at_call 14; ((with_reducible refine (refnum_any _ L z _ ?_ (by omega)).mono ?_); (exact HU1.out.bytes.heap rfl); (rintro e w2 ⟨x2, rfl, ho2, hb2⟩)); (have hb2' : Below w1.heap.size w1 w2 := ⟨hb2.os, hb2.tape, hb2.output, hb2.size, hb2.block⟩); (have hs2 := cell_later hb2' hs1); (have HO2 := Lib.hid (ho2.more (base' := w.heap.size) (Nat.le_trans hwz hb1'.size))); (have HO3 := Lib.hid (HO1.out.under hb2')); (clear ho2)))
          have hB2 : Below w.heap.size w w2 := hb.trans ((hb1'.mono hwz).trans (hb2'.mono (Nat.le_trans hwz hb1'.size)))
          have hw2 : w.heap.size ≤ w2.heap.size := hB2.size
          obtain ⟨L1, hL1⟩ : ∃ L1, L ++ Cd.enc (Cd.held z) = L1 := ⟨_, rfl⟩
          rw [hL1] at HO2 HO3
          have hL1l : L1.length = L.length + 6 := by rw [← hL1, List.length_append, Cd.enc_length]
          clear hb1 hb1' hb2 hb2' hs1 hs2 hs0 HU1 HO1 HV HU hL1
          obtain ⟨q, hq⟩ : ∃ q, min R k = q := ⟨_, rfl⟩
          have hqR : q ≤ R := by omega
          have hqk : q ≤ k := by omega
          have hqc : q ≤ c0 := by omega
          have hmin := fun (W : World) (ts : Array TypeId) (t : TypeId) => run_min2 (P := Try.prog) W ts t (R : Int) (k : Int) (q : Int) (by omega)
          have hql : (raw.take q).length = q := by rw [List.length_take, HRL.out]; omega
          have HQL := Lib.hid hql
          have HQ := Lib.hid (HR.out.head hqR hqc)
          clear hq hql
          go_wp2_with fail
          go_region_held (fun _ => True) (trivial)
            (first
            | (go_at_call 12; ((with_reducible refine (bytes_any _ _ L1 (raw.take q) _ ?_ ?_ (by omega) (by rw [HQL.out]; omega)).mono ?_); (exact HO3.out.bytes.heap rfl); (exact (HQ.out.under hB2).heap rfl); (rintro e w3 ⟨x3, rfl, ho3, hb3⟩)); (have hb3' : Below w2.heap.size w2 w3 := ⟨hb3.os, hb3.tape, hb3.output, hb3.size, hb3.block⟩); (have HO4 := Lib.hid (HO2.out.under hb3')); (have HO5 := Lib.hid (ho3.more (base' := w.heap.size) hw2)); (have hB3 : Below w.heap.size w w3 := hB2.trans (hb3'.mono hw2)); (clear ho3))
            | (go_at_call 15; ((with_reducible refine (refbytes_any _ _ L1 (raw.take q) _ ?_ ?_ (by omega) (by rw [HQL.out]; omega)).mono ?_); (exact HO4.out.bytes.heap rfl); (exact (HQ.out.under hB3).heap rfl); (rintro e w4 ⟨x4, rfl, ho4, hb4⟩)); (have hb4' : Below w3.heap.size w3 w4 := ⟨hb4.os, hb4.tape, hb4.output, hb4.size, hb4.block⟩); (have HO6 := Lib.hid (HO5.out.under hb4')); (have HO7 := Lib.hid (ho4.more (base' := w.heap.size) hB3.size)); (have hB4 : Below w.heap.size w w4 := hB3.trans (hb4'.mono hB3.size)); (clear ho4)))
          all_goals
            obtain ⟨L2, hL2⟩ : ∃ L2, L1 ++ Cd.enc (raw.take q).length ++ raw.take q = L2 := ⟨_, rfl⟩
            rw [hL2] at HO6 HO7
            have hL2l : L2.length = L1.length + 6 + q := by rw [← hL2, List.length_append, List.length_append, Cd.enc_length, HQL.out]
            clear hL2 hmin
            go_wp2
            go_roundw
            case rel => exact ⟨k + 1, L2, by omega, by go_num, by omega, HO6.out, HO7.out, hB4⟩
            case measure => simp [intOf]; omega
        · go_wp2_with fail
          go_region_held (fun w' => w'.cell? ⟨b, off + k, none⟩ = some (Value.int .i64 z)) (first | exact hs0 | exact hs1 | exact hs2 | go_keep)
            (first
            | (go_at_call 8; ((with_reducible refine (num_any _ L z _ ?_ (by omega)).mono ?_); (exact HV.out.bytes.heap rfl); (rintro e w1 ⟨x1, rfl, ho1, hb1⟩)); (have hb1' : Below wr.heap.size wr w1 := ⟨hb1.os, hb1.tape, hb1.output, hb1.size, hb1.block⟩); (have hs1 := cell_later hb1' hs0); (have HU1 := Lib.hid (HU.out.under hb1')); (have HO1 := Lib.hid (ho1.more (base' := w.heap.size) hwz)); (clear ho1))
            | (go_at_call 14; ((with_reducible refine (refnum_any _ L z _ ?_ (by omega)).mono ?_); (exact HU1.out.bytes.heap rfl); (rintro e w2 ⟨x2, rfl, ho2, hb2⟩)); (have hb2' : Below w1.heap.size w1 w2 := ⟨hb2.os, hb2.tape, hb2.output, hb2.size, hb2.block⟩); (have hs2 := cell_later hb2' hs1); (have HO2 := Lib.hid (ho2.more (base' := w.heap.size) (Nat.le_trans hwz hb1'.size))); (have HO3 := Lib.hid (HO1.out.under hb2')); (clear ho2)))
          have hB2 : Below w.heap.size w w2 := hb.trans ((hb1'.mono hwz).trans (hb2'.mono (Nat.le_trans hwz hb1'.size)))
          have hw2 : w.heap.size ≤ w2.heap.size := hB2.size
          obtain ⟨L1, hL1⟩ : ∃ L1, L ++ Cd.enc (Cd.held z) = L1 := ⟨_, rfl⟩
          rw [hL1] at HO2 HO3
          have hL1l : L1.length = L.length + 6 := by rw [← hL1, List.length_append, Cd.enc_length]
          clear hb1 hb1' hb2 hb2' hs1 hs2 hs0 HU1 HO1 HV HU hL1
          go_wp2
          go_roundw
          case rel => exact ⟨k + 1, L1, by omega, by go_num, by omega, HO3.out, HO2.out, hB2⟩
          case measure => simp [intOf]; omega
      · have hstop : (¬ (k : Int) < (n1 : Int)) ∨ ((k : Int) < (n1 : Int) ∧ ¬ (k : Int) < 10) := by omega
        have hLl : L.length ≤ 300 := by omega
        rcases hstop with hs | ⟨hs1, hs2⟩
        all_goals
          go_wp2_with fail
          go_meet
          exact ⟨L, hLl, HV.out, HU.out, hb⟩
  case rest =>
    obtain ⟨L, hLl, hv, hu, hb⟩ := hcut
    obtain ⟨wr, rfl⟩ : ∃ wx : World, wx = wc := ⟨_, rfl⟩
    have HV := Lib.hid hv
    have hwz : w.heap.size ≤ wr.heap.size := hb.size
    have hv2 := hv.bytes
    have hu2 := hu.bytes
    obtain ⟨_, _, Ab, cb, hbe, hcb, _⟩ := hv2.parts
    obtain ⟨_, _, Aw, cw, hwe, hcw, _⟩ := hu2.parts
    subst hbe hwe
    obtain ⟨M, hM⟩ : ∃ M, L.length = M := ⟨_, rfl⟩
    rw [hM] at HV hcb hcw hLl hv2 hu2 ⊢
    have kt1 := run_text hv2
    have kt2 := run_text hu2
    have HM := Lib.hid hM
    clear hv2 hu2 hM hv hu
    go_upto_region 12 with fail
    go_cut [16] (fun c wx => ∃ (Ac : Option Addr) (cc : Nat), c = .slice Ac M cc ∧ M ≤ cc ∧ Own wx wr.heap.size c L ∧ Below wr.heap.size wr wx)
    case first =>
      go_wp2_with (at_builtin; refine wpList_append_bytes rfl _ _ rfl wr.heap.size _ _ [] L rfl (own_empty wr _ 0 #[] (Nat.le_refl _) (by unfold maxLen; omega) rfl) rfl (HV.out.bytes.alloc _) ?_ ?_ L rfl ?_)
      case refine_1 => simp [HM.out]; omega
      case refine_3 =>
        intro vc w1 hg
        obtain ⟨ho1, _, _, hb1'⟩ := hg
        have hb1 : Below wr.heap.size wr w1 := ((Below.refl _ _).alloc (Nat.le_refl _) _).trans hb1'
        obtain ⟨_, _, Ac, cc, hce, hcc, _⟩ := ho1.bytes.parts
        rw [HM.out] at hce hcc
        go_wp2_with fail
        go_meet
        exact ⟨Ac, cc, hce, hcc, ho1, hb1⟩
    case rest =>
      obtain ⟨Ac, cc, rfl, hcc, ho1, hb1⟩ := hcut
      clear kt1 kt2
      obtain ⟨we, rfl⟩ : ∃ wx : World, wx = wc := ⟨_, rfl⟩
      go_upto_if 77 with fail
      go_cut [78] (fun _ wx => ∃ Lc, Lc.length = M ∧ Own wx wr.heap.size (.slice Ac M cc) Lc ∧ Below wr.heap.size wr wx)
      case first =>
        have HO1 := Lib.hid ho1
        rcases Nat.eq_zero_or_pos M with h0 | h0
        · subst h0
          go_wp2_with fail
          go_meet
          exact ⟨L, HM.out, HO1.out, hb1⟩
        · obtain ⟨g, rfl, hg, hfz, hcl⟩ := ho1.addr h0
          obtain ⟨p, hp, hpe⟩ := low_rem at_ M h0
          obtain ⟨b8, hb8, rfl⟩ : ∃ b8 : Nat, b8 < 256 ∧ by_ = (b8 : Int) := ⟨by_.toNat, by omega, by omega⟩
          have hc1 := hcl p hp
          have hf1 := hfz p
          have h0' : (0 : Int) < (M : Int) := by omega
          clear hcl hfz ho1
          go_wp2_with fail
          go_meet
          exact ⟨L.set p b8, by rw [List.length_set]; exact HM.out, HO1.out.set hb8, hb1.setCell hg _⟩
      case rest =>
        obtain ⟨Lc, hLc, ho2, hb2⟩ := hcut
        obtain ⟨wd, rfl⟩ : ∃ wx : World, wx = wc := ⟨_, rfl⟩
        have hB2 : Below w.heap.size w wd := hb.trans (hb2.mono hwz)
        have HBr := Lib.hid (HR.out.under hB2)
        have HBb := Lib.hid (HV.out.bytes.under hb2)
        have HBc := Lib.hid ho2.bytes
        have hMi : (0 : Int) ≤ (M : Int) := by omega
        obtain ⟨m2, hm2⟩ : ∃ m2, M / 2 = m2 := ⟨_, rfl⟩
        have hM3 : m2 ≤ M := by omega
        have hM4 : m2 ≤ cb := by omega
        have hM5 : (0 : Int) ≤ (m2 : Int) := by omega
        have hM6 : (m2 : Int) ≤ (cb : Int) := by omega
        have hM1 : (M : Int).tdiv 2 = (m2 : Int) := by rw [Int.tdiv_eq_ediv_of_nonneg (by omega)]; omega
        have hM2 : (M : Int) / 2 = (m2 : Int) := by omega
        have hM7 : IntKind.i64.wrap (m2 : Int) = (m2 : Int) := IntWalk.i64_in _ (by omega)
        clear hm2
        have HLc := Lib.hid hLc
        clear ho2 hLc HV ho1
        go_upto_region 15 with fail
        go_cut [99, 100, 101] (fun s99 s100 s101 wx => ∃ T : Nat, s99 = .slice (some ⟨T, 0, none⟩) 5 5 ∧ s100 = .int .i64 5 ∧ s101 = .int .i64 0 ∧ Five T wx ∧ Below wd.heap.size wd wx)
        case first =>
          go_region_held3 (fun _ => True) (trivial) (first
            | (refine step_append_bytes rfl (.tmp 94) (.tmp 95) rfl wd.heap.size (.slice (some ⟨wd.heap.size, 0, none⟩) 0 0) (.slice Ab M cb) [] L (by simp [Act.eval]) (own_empty _ _ 0 #[] (show wd.heap.size ≤ _ from Nat.le_refl _) (by unfold maxLen; omega) rfl) (by simp [Act.eval]) ((HBb.out.heap rfl).alloc _) (by simp [HM.out]; omega) (by simp) L rfl ?_; rintro x1 wf ⟨ho3, _, _, hb3⟩; have hb3' : Below wd.heap.size wd wf := ⟨hb3.os, hb3.tape, hb3.output, Nat.le_trans (by simp) hb3.size, fun k hk => (hb3.block k hk).trans (Below.heap_alloc _ _ k hk)⟩; have hsf := hb3'.size)
            | (refine step_append_bytes rfl (.tmp 96) (.tmp 97) rfl wd.heap.size x1 (.slice A0 R c0) L raw (by simp [Act.eval]) (Own.heap ho3 rfl) (by simp [Act.eval]) ((HBr.out.under hb3').heap rfl) (by rw [HM.out, HRL.out]; omega) (Nat.le_trans hsf (Nat.le_refl _)) _ rfl ?_; rintro x2 wg ⟨ho4, _, _, hb4⟩; have hb4' : Below wd.heap.size wd wg := hb3'.trans ⟨hb4.os, hb4.tape, hb4.output, hb4.size, hb4.block⟩; have hx2 := ho4.bytes; have hx2' := hx2; obtain ⟨_, _, Ax, cx, rfl, hcx, _⟩ := hx2.parts))
          have g1 : Good wg (.slice A0 R c0) := ⟨raw, HBr.out.under hb4', by rw [HRL.out]; omega⟩
          have g2 : Good wg (.slice Ab M cb) := ⟨L, HBb.out.under hb4', by rw [HM.out]; omega⟩
          have g3 : Good wg (.slice Ac M cc) := ⟨Lc, HBc.out.under hb4', by rw [HLc.out]; omega⟩
          have g4 : Good wg (.slice Ab m2 cb) := ⟨L.take m2, (HBb.out.under hb4').head hM3 hM4, by rw [List.length_take, HM.out]; omega⟩
          have g5 : Good wg (.slice Ax (L.length + raw.length) cx) := ⟨L ++ raw, by rw [← List.length_append]; exact hx2', by rw [List.length_append, HM.out, HRL.out]; omega⟩
          have hz := hb4'.alloc hb4'.size (.cells #[.slice A0 R c0, .slice Ab M cb, .slice Ac M cc, .slice Ab m2 cb, .slice Ax (L.length + raw.length) cx] 26)
          go_wp2_with fail
          go_meet
          exact ⟨wg.heap.size, rfl, rfl, rfl, Five.heap (five_of g1 g2 g3 g4 g5) rfl, ⟨hz.os, hz.tape, hz.output, hz.size, hz.block⟩⟩
        case rest =>
          obtain ⟨T, rfl, rfl, rfl, hF, hbF⟩ := hcut
          obtain ⟨wl, rfl⟩ : ∃ wx : World, wx = wc := ⟨_, rfl⟩
          have HF := Lib.hid hF
          have hBl : Below w.heap.size w wl := hB2.trans (hbF.mono hB2.size)
          clear hF hbF
          clear HBr HBb HBc HM HLc
          go_wp2_with fail
          go_loopw [101] (fun i wr => ∃ j : Nat, j ≤ 5 ∧ i = .int .i64 j ∧ Below wl.heap.size wl wr) (fun i _ => 5 - (intOf i).toNat)
          case atStart => exact ⟨0, by omega, rfl, Below.refl _ _⟩
          case round =>
            obtain ⟨j, hj, rfl, hbo⟩ := hrel
            obtain ⟨wo, rfl⟩ : ∃ wo : World, wo = wr := ⟨_, rfl⟩
            have hBo : Below w.heap.size w wo := hBl.trans (hbo.mono hBl.size)
            have hwo : w.heap.size ≤ wo.heap.size := hBo.size
            by_cases hlt : j < 5
            · have hj5 : (j : Int) < 5 := by omega
              obtain ⟨x, hxc, l, hxl, hll⟩ := (HF.out.under hbo) j hlt
              obtain ⟨_, _, Ax, cx, rfl, hcx, _⟩ := hxl.parts
              have HX := Lib.hid hxl
              clear hxl
              go_wp2_with fail
              refine (read_any _ l _ HX.out (by omega)).mono ?_
              rintro e w3 ⟨g, rfl, hg1, hg2, hr3, hb3⟩
              have HR3 := Lib.hid hr3
              clear hr3
              go_wp2_with fail
              obtain ⟨wn, hwn⟩ : ∃ wn, w3.alloc (.cells #[.slice Ax l.length cx, .bool false] 38) = wn := ⟨_, rfl⟩
              obtain ⟨gs, hgs⟩ : ∃ gs, w3.heap.size = gs := ⟨_, rfl⟩
              have hrd : Rdr wn wo.heap.size g g (some l) := by rw [← hwn]; exact HR3.out.alloc _
              have hbn : Below wo.heap.size wo wn := by rw [← hwn]; exact hb3.alloc hb3.size _
              have hgs1 : wo.heap.size ≤ gs := by rw [← hgs]; exact hb3.size
              have hgs2 : g < gs := by rw [← hgs]; exact hg2
              have hrf : Ref wn wo.heap.size gs (some l) := by
                refine ⟨hgs1, _, ?_, HX.out.under hbn, fun h0 => HX.out.between h0, by omega⟩
                rw [← hwn, ← hgs]
                exact heap_alloc_new w3 _
              rw [hwn, hgs]
              have HRD0 := Lib.hid hrd
              have HRF0 := Lib.hid hrf
              clear hrd hrf hwn hgs HR3 hb3 hg2 hxc
              go_loopw [21] (fun i wr => ∃ (q : Nat) (s : Cd.St), q ≤ 20 ∧ i = .int .i64 q ∧ Rdr wr wo.heap.size g g s ∧ Ref wr wo.heap.size gs s ∧ Below wo.heap.size wo wr) (fun i _ => 20 - (intOf i).toNat)
              case atStart => exact ⟨0, some l, by omega, rfl, HRD0.out, HRF0.out, hbn⟩
              case round =>
                obtain ⟨q, s, hq, rfl, hrd, hrf, hbq⟩ := hrel
                have HRD := Lib.hid hrd
                have HRF := Lib.hid hrf
                have hBq : Below w.heap.size w wr := hBo.trans (hbq.mono hwo)
                have hgsw : gs < wr.heap.size := HRF.out.size
                clear hrd hrf
                by_cases hlq : q < n2 ∧ q < n3 ∧ q < 20
                · obtain ⟨l2, l3, l20⟩ := hlq
                  have l2' : (q : Int) < (n2 : Int) := by omega
                  have l3' : (q : Int) < (n3 : Int) := by omega
                  have l20' : (q : Int) < 20 := by omega
                  obtain ⟨b2, o2, rfl, hc2a⟩ := HA.out.at (k := q) (by omega)
                  obtain ⟨b3, o3, rfl, hc3a⟩ := HB.out.at (k := q) (by omega)
                  obtain ⟨av, hav⟩ : ∃ av, ac.getD q 0 = av := ⟨_, rfl⟩
                  obtain ⟨bv, hbv⟩ : ∃ bv, bs.getD q 0 = bv := ⟨_, rfl⟩
                  rw [hav] at hc2a
                  rw [hbv] at hc3a
                  have hb3w : b3 < w.heap.size := World.block_lt_of_cell? w _ hc3a
                  have ha0 := cell_later hBq hc2a
                  have hs0 := cell_later hBq hc3a
                  clear hav hbv hc2a hc3a
                  by_cases hp : bits .and .i64 av 1 = 0
                  · have hp' : (bits .and .i64 av 1 == 0) = true := by simp [hp]
                    clear hp
                    go_wp2_with fail
                    go_cut [148] from 112 to 176 (fun t wx => ∃ s2 : Cd.St, t = .bool false ∧ Rdr wx wo.heap.size g g s2 ∧ Ref wx wo.heap.size gs s2 ∧ Below wo.heap.size wo wx)
                    case first =>
                      go_region_held (fun w' => w'.cell? ⟨b3, o3 + q, none⟩ = some (Value.int .i64 bv)) (first | exact hs0 | exact hs1 | exact hs2 | go_keep)
                        (first
                        | (go_at_call 13; ((with_reducible refine (rbytes_any wo.heap.size g g s bv _ ?_).mono ?_); (exact HRD.out.heap rfl); (rintro e w1 ⟨y1, rfl, ho1, hr1, hg1'⟩)); (have hgA : wr.grownBy w1 (some g) := ⟨hg1'.os, hg1'.tape, hg1'.output, hg1'.size, hg1'.block⟩); (have hs1 := hgA.cell hs0 (by simp; omega)); (have HRFA := HRF.out.grown hgA (by intro k hk; injection hk with hk; subst hk; omega)); (have kt1 := run_text ho1.bytes); (have kt2 := run_text ho1.bytes.drew); (have hbA : Below wo.heap.size wo w1 := hbq.trans (Below.ofGrown hgA hg1 hbq.size)))
                        | (go_at_call 16; ((with_reducible refine (refrbytes_any wo.heap.size gs s bv _ ?_).mono ?_); (exact Ref.heap HRFA rfl); (rintro e w2 ⟨y2, rfl, ho2, hr2, hg2'⟩)); (have hgB : w1.grownBy w2 (some gs) := ⟨hg2'.os, hg2'.tape, hg2'.output, hg2'.size, hg2'.block⟩); (have hs2 := hgB.cell hs1 (by simp; omega)); (have hrd2 := hr1.grown hgB (by intro k hk; injection hk with hk; subst hk; omega)); (have hne1 : y1.ownBlock ≠ some gs := fun e => by have h1 := (ho1.lt gs e).1; have h2 : wr.heap.size ≤ gs := h1; omega); (have ho1' := ho1.grown hgB (.inr hne1)); (have kt3 := run_text ho1'.bytes); (have kt4 := run_text ho1'.bytes.drew); (have kt5 := run_text ho2.bytes); (have kt6 := run_text ho2.bytes.drew); (have hbB : Below wo.heap.size wo w2 := hbA.trans (Below.ofGrown hgB hgs1 hbA.size))))
                      all_goals
                        go_wp2_with fail
                        go_meet
                        first | exact ⟨Cd.bytesS s bv, rfl, hrd2.heap rfl, Ref.heap hr2 rfl, hbB⟩ | exact ⟨Cd.bytesS s bv, rfl, hrd2.heap rfl, Ref.heap hr2 rfl, ⟨hbB.os, hbB.tape, hbB.output, hbB.size, hbB.block⟩⟩
                    case rest =>
                      obtain ⟨s2, rfl, hrd2, hrf2, hb2'⟩ := hcut
                      obtain ⟨wv, rfl⟩ : ∃ wx : World, wx = wc := ⟨_, rfl⟩
                      have HRD2 := Lib.hid hrd2
                      have HRF2 := Lib.hid hrf2
                      have hbad := hrf2.bad
                      obtain ⟨ok, hok⟩ : ∃ ok, s2.isSome = ok := ⟨_, rfl⟩
                      obtain ⟨en, hen⟩ : ∃ en, Cd.endB s2 = en := ⟨_, rfl⟩
                      rw [hok] at hbad
                      have HOK := Lib.hid hok
                      have HEN := Lib.hid hen
                      clear hok hen hrd2 hrf2
                      go_wp2_with fail
                      go_cut [176] from 112 to 176 (fun t wx => t = .bool false ∧ wx.heap = wv.heap ∧ Below wv.heap.size wv wx)
                      case first =>
                        have hxx : (ok != !!ok) = false := by cases ok <;> rfl
                        have hyy : (en != en) = false := by cases en <;> rfl
                        go_quiet ((first | (go_at_call 10; exact ok_q _ _ g s2 ok wv _ HRD2.out HOK.out) | (go_at_call 9; exact end_q _ _ g s2 en wv _ HRD2.out HEN.out) | (go_at_call 18; exact refend_q _ gs s2 en wv _ HRF2.out HEN.out)))
                        go_wp2_with fail
                        go_meet
                        exact ⟨rfl, rfl, ⟨rfl, rfl, rfl, Nat.le_refl _, fun _ _ => rfl⟩⟩
                      case rest =>
                        obtain ⟨rfl, hh, hbw⟩ := hcut
                        have hbz := hb2'.trans (hbw.mono (hb2'.size))
                        go_wp2
                        go_roundw
                        case rel => exact ⟨q + 1, s2, by omega, by go_num, HRD2.out.heap hh, HRF2.out.heap hh, hbz⟩
                        case measure => simp [intOf]; omega
                  · have hp' : (bits .and .i64 av 1 == 0) = false := by simp [hp]
                    clear hp
                    go_wp2_with fail
                    go_cut [161] from 112 to 176 (fun t wx => ∃ s2 : Cd.St, t = .bool false ∧ Rdr wx wo.heap.size g g s2 ∧ Ref wx wo.heap.size gs s2 ∧ Below wo.heap.size wo wx)
                    case first =>
                      go_region_held (fun w' => w'.cell? ⟨b3, o3 + q, none⟩ = some (Value.int .i64 bv)) (first | exact hs0 | exact hs1 | exact hs2 | go_keep)
                        (first
                        | (go_at_call 7; ((with_reducible refine (rnum_any wo.heap.size g g s bv _ ?_).mono ?_); (exact HRD.out.heap rfl); (rintro e w1 ⟨rfl, hr1, hg1'⟩)); (have hgA : wr.grownBy w1 (some g) := ⟨hg1'.os, hg1'.tape, hg1'.output, hg1'.size, hg1'.block⟩); (have hs1 := hgA.cell hs0 (by simp; omega)); (have HRFA := HRF.out.grown hgA (by intro k hk; injection hk with hk; subst hk; omega)); (have hbA : Below wo.heap.size wo w1 := hbq.trans (Below.ofGrown hgA hg1 hbq.size)))
                        | (go_at_call 17; ((with_reducible refine (refrnum_any wo.heap.size gs s bv _ ?_).mono ?_); (exact Ref.heap HRFA rfl); (rintro e w2 ⟨rfl, hr2, hg2'⟩)); (have hgB : w1.grownBy w2 (some gs) := ⟨hg2'.os, hg2'.tape, hg2'.output, hg2'.size, hg2'.block⟩); (have hs2 := hgB.cell hs1 (by simp; omega)); (have hrd2 := hr1.grown hgB (by intro k hk; injection hk with hk; subst hk; omega)); (have hbB : Below wo.heap.size wo w2 := hbA.trans (Below.ofGrown hgB hgs1 hbA.size))))
                      all_goals
                        go_wp2_with fail
                        go_meet
                        first | exact ⟨Cd.numS s bv, rfl, hrd2.heap rfl, Ref.heap hr2 rfl, hbB⟩ | exact ⟨Cd.numS s bv, rfl, hrd2.heap rfl, Ref.heap hr2 rfl, ⟨hbB.os, hbB.tape, hbB.output, hbB.size, hbB.block⟩⟩
                    case rest =>
                      obtain ⟨s2, rfl, hrd2, hrf2, hb2'⟩ := hcut
                      obtain ⟨wv, rfl⟩ : ∃ wx : World, wx = wc := ⟨_, rfl⟩
                      have HRD2 := Lib.hid hrd2
                      have HRF2 := Lib.hid hrf2
                      have hbad := hrf2.bad
                      obtain ⟨ok, hok⟩ : ∃ ok, s2.isSome = ok := ⟨_, rfl⟩
                      obtain ⟨en, hen⟩ : ∃ en, Cd.endB s2 = en := ⟨_, rfl⟩
                      rw [hok] at hbad
                      have HOK := Lib.hid hok
                      have HEN := Lib.hid hen
                      clear hok hen hrd2 hrf2
                      go_wp2_with fail
                      go_cut [176] from 112 to 176 (fun t wx => t = .bool false ∧ wx.heap = wv.heap ∧ Below wv.heap.size wv wx)
                      case first =>
                        have hxx : (ok != !!ok) = false := by cases ok <;> rfl
                        have hyy : (en != en) = false := by cases en <;> rfl
                        go_quiet ((first | (go_at_call 10; exact ok_q _ _ g s2 ok wv _ HRD2.out HOK.out) | (go_at_call 9; exact end_q _ _ g s2 en wv _ HRD2.out HEN.out) | (go_at_call 18; exact refend_q _ gs s2 en wv _ HRF2.out HEN.out)))
                        go_wp2_with fail
                        go_meet
                        exact ⟨rfl, rfl, ⟨rfl, rfl, rfl, Nat.le_refl _, fun _ _ => rfl⟩⟩
                      case rest =>
                        obtain ⟨rfl, hh, hbw⟩ := hcut
                        have hbz := hb2'.trans (hbw.mono (hb2'.size))
                        go_wp2
                        go_roundw
                        case rel => exact ⟨q + 1, s2, by omega, by go_num, HRD2.out.heap hh, HRF2.out.heap hh, hbz⟩
                        case measure => simp [intOf]; omega
                · have hq3 : (¬ (q : Int) < (n2 : Int)) ∨ ((q : Int) < (n2 : Int) ∧ ¬ (q : Int) < (n3 : Int)) ∨ ((q : Int) < (n2 : Int) ∧ (q : Int) < (n3 : Int) ∧ ¬ (q : Int) < 20) := by omega
                  have hbz : Below wl.heap.size wl wr := hbo.trans (hbq.mono hbo.size)
                  clear hq hlq
                  rcases hq3 with h1 | ⟨h1, h2⟩ | ⟨h1, h2, h3⟩
                  all_goals
                    go_wp2
                    go_roundw
                    case rel => first | exact ⟨j + 1, by omega, by go_num, hbz⟩ | ((repeat apply Exists.intro); exact ⟨⟨j + 1, by omega, by go_num, hbz⟩, rfl⟩)
                    case measure => simp [intOf]; omega
            · have hj5 : ¬ (j : Int) < 5 := by omega
              go_wp2_with (go_at_call 11; ((with_reducible refine (awake_any _).mono ?_); rintro e w' ⟨rfl, hbw⟩))
              go_ret
              exact ⟨rfl, hBo.trans (hbw.mono hwo)⟩
end Go.Proofs.Ytgfhfmpcdmcplaa
