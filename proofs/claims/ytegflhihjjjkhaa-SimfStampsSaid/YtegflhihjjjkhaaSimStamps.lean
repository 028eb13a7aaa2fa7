/- SimfStamps: no stamp is ever given twice, whatever is done; a guard holds just as long as its file is as it was. -/
import Derived.Test.YtegflhihjjjkhaaSimStampMath
import Derived.Deep.CutRange
import Derived.Deep.RegionHeld
import Derived.Deep.CutBlock
import Derived.BigQuiet
import Derived.Deep.QuietTactic
namespace Go.Proofs.Ytegflhihjjjkhaa
set_option maxRecDepth 100000
open Go.ChangeShapes Go.WideShapes Go.ChangeAt Go.RowKit Go.ChangeMaps
open Sf

theorem nm4_any (k : Nat) (w : World) (hk : k < 4) : Calls Try.prog 24 #[.int .i64 (k : Int)] w fun e w' => e = .returned (.string (str (nm k))) ∧ Below w.heap.size w w' := by
  have h := name12_any (k : Int) w
  rw [nmOf_low k hk] at h
  exact h
/-- Behind the switch. -/
structure Mid (w wx : World) (p lb sb : Nat) (s' : S) (st e j m7 i : Nat) : Prop where
  a : e ≠ 0 ∨ m7 = 7 → Sv noH w wx p lb sb s' (5 * i + 1) (5 * i + 1) (10 * i)
  b : e = 0 → m7 < 7 → Sv (fun t => t = nm j) w wx p lb sb s' (5 * i + 1) (5 * i + 1) (10 * i) ∧ st = s'.next ∧ 1 ≤ st ∧ stamp s'.l (nm j) = st ∧ (Instr.lookup 56 (.map (some sb)) (.int .i64 (st : Int)) false).run Try.prog wx = .ok (.bool false) wx
variable {w0 wa wb : World} {p lb sb : Nat} {s s' : S} {i st e j m7 : Nat}
theorem Sv.fresh {h : List Nat → Prop} {u n c : Nat} (v : Sv h w0 wa p lb sb s u n c) (hs : wb.heap[sb]? = wa.heap[sb]?) (hst : st = s.next + 1) (hn : n ≤ 1000000) : (Instr.lookup 56 (.map (some sb)) (.int .i64 (st : Int)) false).run Try.prog wb = .ok (.bool false) wb := by
  obtain ⟨g, k, g1, g2, g3⟩ := v.seen
  rw [(g1.same hs).run_look1 Try.underlying56 (z := .bool false) (by kernel_rfl) (x := (st : Int)) (by have := v.next; unfold Wf; omega)]
  rcases hg : g (st : Int) with _ | y
  · rfl
  · have := g3 _ y hg
    omega
theorem mid_wr (v : Sv noH w0 wa p lb sb s (5 * i) (5 * i) (10 * i)) (hi : i ≤ 100) (hm : m7 < 7) (hk : Fk (fun k => k = lb ∨ k = sb) w0 wb p s') (hkk : Kept (fun k => k = lb ∨ k = sb) wa wb) (r : Res s s' st e (nm j) none) : Mid w0 wb p lb sb s' st e j m7 i := by
  refine ⟨fun h => ?_, fun he _ => ?_⟩
  · rcases h with h | h
    · have hs := r.bad h
      have hv := v.bad hk hkk hs
      rw [← hs] at hv
      exact hv.more (by omega) (by omega) (by omega)
    · omega
  · obtain ⟨r1, r2, r3, r4⟩ := r.good he
    exact ⟨(v.wrote hk hkk r he).hole _ (fun t ht => by rcases ht with h | h; exact h; cases h), by omega, by omega, by omega, v.fresh (hkk.2 sb (.inr rfl)) r2 (by omega)⟩
theorem mid_bad {g : Option (List Nat)} (v : Sv noH w0 wa p lb sb s (5 * i) (5 * i) (10 * i)) (hk : Fk (fun k => k = lb ∨ k = sb) w0 wb p s') (hkk : Kept (fun k => k = lb ∨ k = sb) wa wb) (r : Res s s' st e (nm j) g) (he : e ≠ 0) : Mid w0 wb p lb sb s' st e j m7 i := by
  refine ⟨fun _ => ?_, fun h => absurd h he⟩
  have hs := r.bad he
  have hv := v.bad hk hkk hs
  rw [← hs] at hv
  exact hv.more (by omega) (by omega) (by omega)
theorem mid_mv {a : List Nat} (v : Sv noH w0 wa p lb sb s (5 * i) (5 * i) (10 * i)) (hi : i ≤ 100) (hm : m7 < 7) (hk : Fk (fun k => k = lb ∨ k = sb) w0 wb p s') (hkk : Kept (fun k => k = lb ∨ k = sb) wa wb) (r : Res s s' st e (nm j) (some a)) (he : e = 0) (ha : Nice a) (hne : a ≠ nm j) :
    ∃ w', (Builtin.delete_ #[57, 9] 0 #[.map (some lb), .string (str a)]).run Try.prog wb = .ok (.tuple #[]) w' ∧ Mid w0 w' p lb sb s' st e j m7 i := by
  obtain ⟨r1, r2, r3, r4⟩ := r.good he
  have hv := v.wrote hk hkk r he
  obtain ⟨w', hrun, hv2⟩ := hv.del ha (by rw [r4 a hne, if_pos rfl])
  refine ⟨w', hrun, fun h => ?_, fun _ _ => ⟨hv2.hole _ (fun t ht => ?_), by omega, by omega, by omega, ?_⟩⟩
  · rcases h with h | h
    · exact absurd he h
    · omega
  · obtain ⟨h1 | h1, h2⟩ := ht
    · exact h1
    · injection h1 with h1
      exact absurd h1.symm h2
  · obtain ⟨f, m, h1, _⟩ := hv.last
    obtain ⟨w2, hr2, _, _, hk2, _⟩ := h1.gone Try.underlying57 ha.1 (by have := ha.2; omega) 0
    rw [hrun] at hr2
    injection hr2 with _ hw
    exact v.fresh (by rw [hw, hk2 sb v.ne.symm]; exact hkk.2 sb (.inr rfl)) r2 (by omega)
theorem mid_dr {a : List Nat} (v : Sv noH w0 wa p lb sb s (5 * i) (5 * i) (10 * i)) (hk : Fk (fun k => k = lb ∨ k = sb) w0 wb p s') (hkk : Kept (fun k => k = lb ∨ k = sb) wa wb) (hst : ∀ t, stamp s'.l t = if t = a then 0 else stamp s.l t) (hu : used s'.l ≤ used s.l) (hc : s'.cut = s.cut) (hr : s'.room = s.room) (hn : s'.next = s.next) (ha : Nice a) :
    ∃ w', (Builtin.delete_ #[57, 9] 0 #[.map (some lb), .string (str a)]).run Try.prog wb = .ok (.tuple #[]) w' ∧ Mid w0 w' p lb sb s' 0 e j 7 i := by
  obtain ⟨w', hrun, hv2⟩ := (v.dropped hk hkk hst hu hc hr hn).del ha (by rw [hst, if_pos rfl])
  exact ⟨w', hrun, fun _ => (hv2.hole noH fun t ht => absurd ht.1 ht.2).more (by omega) (by omega) (by omega), fun _ h => by omega⟩
theorem mid_nodr {g : List Nat} (v : Sv noH w0 wa p lb sb s (5 * i) (5 * i) (10 * i)) (hk : Fk (fun k => k = lb ∨ k = sb) w0 wb p s') (hkk : Kept (fun k => k = lb ∨ k = sb) wa wb) (hs : s' = s) (_ : g = g) : Mid w0 wb p lb sb s' 0 e j 7 i := by
  have hv := v.bad hk hkk hs
  rw [← hs] at hv
  exact ⟨fun _ => hv.more (by omega) (by omega) (by omega), fun _ h => by omega⟩

/-- The name of the statement's own file. -/
def zz : List Nat := [122, 122]
theorem nice_zz : Nice zz := by constructor <;> simp [zz]
theorem f_zz : Nm.file zz = true := by decide
theorem ref_yes {h : List Nat → Prop} {u n c : Nat} (v : Sv h w0 wa p lb sb s u n c) {k : Nat} (hpos : 0 < stamp s.l (nm k)) : refuse s.l [(nm k, ((stamp s.l (nm k) : Nat) : Int))] [zz] = 0 := by
  have hs := stamp_some v.fk.fs.good (nm k)
  rw [decide_eq_true hpos] at hs
  unfold Sf.refuse Sf.guards Sf.guard
  simp [f_zz, hs]
theorem ref_no {h : List Nat → Prop} {u n c : Nat} (v : Sv h w0 wa p lb sb s u n c) {k : Nat} (hpos : ¬ 0 < stamp s.l (nm k)) (x : Int) : refuse s.l [(nm k, x)] [zz] = 5 := by
  have hs := stamp_some v.fk.fs.good (nm k)
  rw [decide_eq_false hpos] at hs
  unfold Sf.refuse Sf.guards Sf.guard
  simp [f_zz, hs]
theorem ref_big {k : Nat} (x : Int) (hx : x = ((stamp s.l (nm k) : Nat) : Int) + 1000000) : refuse s.l [(nm k, x)] [zz] = 5 := by
  have hd : decide (((stamp s.l (nm k) : Nat) : Int) = x) = false := decide_eq_false (by omega)
  unfold Sf.refuse Sf.guards Sf.guard
  simp [f_zz, hd]
theorem app_refused {t b : List Nat} {g : List (List Nat × Int)} {q : Nat} (h : refuse s.l g [t] = q) (hq : q ≠ 0) : app s t b g = (s, 0, q) := by
  unfold app
  rw [if_neg (by rw [h]; exact hq), h]
/-- Behind an append to the statement's own file. -/
structure Ind (w wx : World) (p lb sb : Nat) (s s' : S) (st u n c : Nat) : Prop where
  sv : Sv (fun t => t = zz) w wx p lb sb s' (u + 1) (n + 1) c
  eq : st = s'.next
  pos : 1 ≤ st
  zz : stamp s'.l zz = st
  same : ∀ j, j < 4 → stamp s'.l (nm j) = stamp s.l (nm j)
  fresh : (Instr.lookup 56 (.map (some sb)) (.int .i64 (st : Int)) false).run Try.prog wx = .ok (.bool false) wx
theorem in_app {u n c : Nat} (v : Sv noH w0 wa p lb sb s u n c) (hn : n ≤ 1000000) (hk : Fk (fun k => k = lb ∨ k = sb) w0 wb p s') (hkk : Kept (fun k => k = lb ∨ k = sb) wa wb) (r : Res s s' st e zz none) (he : e = 0) : Ind w0 wb p lb sb s s' st u n c := by
  obtain ⟨r1, r2, r3, r4⟩ := r.good he
  exact ⟨(v.wrote hk hkk r he).hole _ (fun t ht => by rcases ht with h | h; exact h; cases h), by omega, by omega, by omega, fun j hj => by rw [r4 (nm j) (nm_zz hj), if_neg (by simp)], v.fresh (hkk.2 sb (.inr rfl)) r2 hn⟩
theorem Sv.unhole {h : List Nat → Prop} {u n c : Nat} (v : Sv h w0 wa p lb sb s u n c) (hx : ∀ j, j < 4 → ¬ h (nm j)) : Sv noH w0 wa p lb sb s u n c := by
  obtain ⟨f, m, h1, h2, h3⟩ := v.last
  exact { v with last := ⟨f, m, h1, h2, fun j hj _ => h3 j hj (hx j hj)⟩ }

set_option maxHeartbeats 16000000 in
theorem stamps_law (va : Value) (zs : List Int) (w : World) (hz : Ints w va zs) : Calls Try.prog 8 #[va] w fun e w' => e = .returned (.bool true) ∧ Below w.heap.size w w' := by
  have hz' := hz
  obtain ⟨hz1, hz2, A, ca, rfl, hca, hzx⟩ := hz
  obtain ⟨N, hN⟩ : ∃ N, zs.length = N := ⟨_, rfl⟩
  rw [hN] at hz' hca ⊢
  have HZ := Lib.hid hz'
  have HN2 : Hid (N ≤ 9223372036854775807) := Lib.hid (by rw [← hN]; exact hz2)
  clear hz' hz1 hz2 hzx hN
  have hmm := @run_makeMap Try.prog
  go_enter Try.func8, Try.ntmps8
  go_wp2_with fail
  refine (fs_new 1048576 w).mono ?_
  rintro e w1 ⟨p, rfl, h1⟩
  have H1 := Lib.hid h1
  clear h1
  go_wp2_with fail
  obtain ⟨sb, hsb⟩ : ∃ sb, w1.heap.size = sb := ⟨_, rfl⟩
  rw [hsb]
  obtain ⟨w2, hw2⟩ : ∃ w2, w2 = (w1.alloc (Obj.map #[] 0)).alloc (Obj.map #[] 0) := ⟨_, rfl⟩
  have HS2 : Hid (Sv noH w w2 p (sb + 1) sb (new 1048576) 0 0 0) := Lib.hid (by
    have hb2 : Below w1.heap.size w1 w2 := by rw [hw2]; exact ((Below.refl _ _).alloc (Nat.le_refl _) _).alloc (by simp) _
    have hs2 : w2.heap.size = sb + 2 := by rw [hw2]; simp [hsb]
    have hww := H1.out.below.size
    have hs1 : (w1.alloc (Obj.map #[] 0)).heap.size = sb + 1 := by simp [hsb]
    refine ⟨(Fs.keep H1.out).grow hb2 _ fun k hk => .inr (by omega), ⟨fun _ => none, 0, ?_, Nat.le_refl _, fun j _ _ => rfl⟩, ⟨fun _ => none, 0, ?_, Nat.le_refl _, fun x v hv => by cases hv⟩, by omega, by omega, by omega, rfl, rfl, Nat.le_refl _, Nat.le_refl _⟩
    · rw [hw2, ← hs1]
      exact mapIs_made _
    · rw [hw2, ← hsb]
      exact (mapI_made w1).same (Below.heap_alloc _ _ _ (by simp)))
  rw [← hw2]
  clear hw2 hsb hmm
  obtain ⟨lb, hlb⟩ : ∃ lb, sb + 1 = lb := ⟨_, rfl⟩
  rw [hlb] at HS2 ⊢
  clear hlb
  go_loopw [6] (fun iv wr => ∃ (i : Nat) (s : S), i ≤ N ∧ i ≤ 100 ∧ iv = .int .i64 (i : Int) ∧ Hid (Sv noH w wr p lb sb s (5 * i) (5 * i) (10 * i))) (fun iv _ => N - (intOf iv).toNat)
  case atStart => exact ⟨0, _, by omega, by omega, rfl, HS2⟩
  case round =>
    obtain ⟨i, s, hiN, hi100, rfl, HS⟩ := hrel
    by_cases hlt : i < N ∧ i < 100
    · obtain ⟨hlt1, hlt2⟩ := hlt
      have k1 : (i : Int) < (N : Int) := by omega
      have k2 : (i : Int) < 100 := by omega
      obtain ⟨b, off, rfl, hcz⟩ := HZ.out.at (k := i) (by omega)
      have hs0 := scell_later HS.out.fk.fs.below hcz
      obtain ⟨z, hz0⟩ : ∃ z, zs.getD i 0 = z := ⟨_, rfl⟩
      rw [hz0] at hs0 hcz
      have HC := Lib.hid hcz
      clear hcz hz0
      obtain ⟨m4, hm4, h4⟩ := nand_low (z / 16) 3 (by omega)
      change bits .and .i64 (z / 16) 3 = (m4 : Int) at hm4
      obtain ⟨m6, hm6, h6⟩ := nand_low (z / 64) 3 (by omega)
      change bits .and .i64 (z / 64) 3 = (m6 : Int) at hm6
      obtain ⟨m7, hm7, h7⟩ := nand_low z 7 (by omega)
      change bits .and .i64 z 7 = (m7 : Int) at hm7
      go_wp2_with fail
      go_region_held (fun w' => w'.cell? ⟨b, off + i, none⟩ = some (Value.int .i64 z)) (first | exact hs0 | exact hs1 | exact hs2 | go_keep)
        (first
        | (go_at_call_of 24 (Value.int IntKind.i64 (m4 : Int)); ((with_reducible refine (nm4_any m4 _ (by omega)).mono ?_); (rintro e w3 ⟨rfl, hb3⟩)); (have hb3' : Below wr.heap.size wr w3 := ⟨hb3.os, hb3.tape, hb3.output, hb3.size, hb3.block⟩); (have hs1 := scell_later hb3' hs0))
        | (go_at_call_of 24 (Value.int IntKind.i64 (m6 : Int)); ((with_reducible refine (nm4_any m6 _ (by omega)).mono ?_); (rintro e w4 ⟨rfl, hb4⟩)); (have hb4' : Below w3.heap.size w3 w4 := ⟨hb4.os, hb4.tape, hb4.output, hb4.size, hb4.block⟩); (have hs2 := scell_later hb4' hs1); (have HS4 := Lib.hid (HS.out.under (hb3'.trans (hb4'.mono hb3'.size))))))
      have hz4 : w4.cell? ⟨b, off + i, none⟩ = some (Value.int .i64 z) := hs2
      clear hb3 hb3' hb4 hb4' hs0 hs1 hs2
      have hg4 : Sf.Good s := HS4.out.fk.fs.good
      go_upto_block 2 with fail
      go_cut [9, 10, 11] from 25 to 191 (fun s9 s10 s11 wx => ∃ (s' : S) (st e j : Nat), s9 = .int .i64 (st : Int) ∧ s10 = .int .i64 (e : Int) ∧ s11 = .string (str (nm j)) ∧ j < 4 ∧ Hid (Mid w wx p lb sb s' st e j m7 i))
      case first =>
        have h77 : m7 = 0 ∨ m7 = 1 ∨ m7 = 2 ∨ m7 = 3 ∨ m7 = 4 ∨ m7 = 5 ∨ m7 = 6 ∨ m7 = 7 := by omega
        clear h7
        rcases h77 with rfl | rfl | rfl | rfl | rfl | rfl | rfl | rfl
        · as_aux_lemma =>
          obtain ⟨s', st, e, hop, r⟩ := res_make (HS4.out.fk.fs.good.1) (nm m4) (nm_file (by omega)) HS4.out.room (by have := HS4.out.used; omega)
          have HOP := Lib.hid hop
          have HR := Lib.hid r
          clear hop r
          go_wp2_with fail
          refine (fk_make (nm m4) [1] _ (HS4.out.fk.alloc (.cells #[.int .u8 1] 5)) (nice_nm4 (by omega)) (bytes_new w4 _ rfl [1] _ _ (by simp) (by simp)) (by have := HS4.out.next; omega) (by have := HS4.out.used; simp; omega)).mono ?_
          rw [HOP.out]
          rintro e' w5 ⟨rfl, hk, hkk⟩
          have HM := Lib.hid (mid_wr (m7 := 0) (HS4.out.under ((Below.refl _ _).alloc (Nat.le_refl _) (.cells #[.int .u8 1] 5))) hi100 (by omega) hk hkk HR.out)
          clear hk hkk
          go_wp2_with fail
          go_meet
          exact ⟨s', st, e, m4, rfl, rfl, rfl, by omega, HM⟩
        · as_aux_lemma =>
          obtain ⟨s', st, e, hop, r, -⟩ := res_put (HS4.out.fk.fs.good.1) (nm m4) (nm_file (by omega)) HS4.out.room (by have := HS4.out.used; omega)
          have HOP := Lib.hid hop
          have HR := Lib.hid r
          clear hop r
          go_wp2_with fail
          refine (fk_put (nm m4) [1] _ (HS4.out.fk.alloc (.cells #[.int .u8 1] 5)) (nice_nm4 (by omega)) (bytes_new w4 _ rfl [1] _ _ (by simp) (by simp)) (by have := HS4.out.next; omega) (by have := HS4.out.used; simp; omega)).mono ?_
          rw [HOP.out]
          rintro e' w5 ⟨rfl, hk, hkk⟩
          have HM := Lib.hid (mid_wr (m7 := 1) (HS4.out.under ((Below.refl _ _).alloc (Nat.le_refl _) (.cells #[.int .u8 1] 5))) hi100 (by omega) hk hkk HR.out)
          clear hk hkk
          go_wp2_with fail
          go_meet
          exact ⟨s', st, e, m4, rfl, rfl, rfl, by omega, HM⟩
        · as_aux_lemma =>
          obtain ⟨s', st, e, hop, r, -⟩ := res_put (HS4.out.fk.fs.good.1) (nm m4) (nm_file (by omega)) HS4.out.room (by have := HS4.out.used; omega)
          have HOP := Lib.hid hop
          have HR := Lib.hid r
          clear hop r
          go_wp2_with fail
          refine (fk_put (nm m4) [1] _ (HS4.out.fk.alloc (.cells #[.int .u8 1] 5)) (nice_nm4 (by omega)) (bytes_new w4 _ rfl [1] _ _ (by simp) (by simp)) (by have := HS4.out.next; omega) (by have := HS4.out.used; simp; omega)).mono ?_
          rw [HOP.out]
          rintro e' w5 ⟨rfl, hk, hkk⟩
          have HM := Lib.hid (mid_wr (m7 := 2) (HS4.out.under ((Below.refl _ _).alloc (Nat.le_refl _) (.cells #[.int .u8 1] 5))) hi100 (by omega) hk hkk HR.out)
          clear hk hkk
          go_wp2_with fail
          go_meet
          exact ⟨s', st, e, m4, rfl, rfl, rfl, by omega, HM⟩
        · as_aux_lemma =>
          obtain ⟨s', st, e, hop, r, -⟩ := res_app HS4.out.fk.fs.good.1 (nm m4) [1] [] (by simp [Sf.refuse, Sf.guards, nm_file (show m4 < 4 by omega)]) HS4.out.cut HS4.out.room (by have := HS4.out.used; omega) (by simp)
          have HOP := Lib.hid hop
          have HR := Lib.hid r
          clear hop r
          go_wp2_with fail
          refine (fk_app (K := fun k => (k = lb ∨ k = sb) ∨ k = w4.heap.size) (nm m4) [1] [] _ _ (HS4.out.fk.grow ((Below.refl _ _).alloc (Nat.le_refl _) (.cells #[.int .u8 1] 5)) _ (fun k hk => hk.imp id (fun e => by simp; omega))) (nice_nm4 (by omega)) (bytes_new w4 _ rfl [1] _ _ (by simp) (by simp)) (fun k hk => .inl (.inr (by simp [Value.ownBlock] at hk; exact hk.symm))) (rdG_none _ 0 none) (by simp) (by have := HS4.out.next; omega) (by have := HS4.out.used; simp; omega)).mono ?_
          rw [HOP.out]
          rintro e' w5 ⟨rfl, hk, hkk⟩
          have HM := Lib.hid (mid_wr (m7 := 3) (HS4.out.under ((Below.refl _ _).alloc (Nat.le_refl _) (.cells #[.int .u8 1] 5))) hi100 (by omega) (hk.less _ (fun k h => .inl h)) ⟨hkk.1, fun k h => hkk.2 k (.inl h)⟩ HR.out)
          clear hk hkk
          go_wp2_with fail
          go_meet
          exact ⟨s', st, e, m4, rfl, rfl, rfl, by omega, HM⟩
        · as_aux_lemma =>
          obtain ⟨s', st, e, hop, r, -⟩ := res_app HS4.out.fk.fs.good.1 (nm m4) [1] [] (by simp [Sf.refuse, Sf.guards, nm_file (show m4 < 4 by omega)]) HS4.out.cut HS4.out.room (by have := HS4.out.used; omega) (by simp)
          have HOP := Lib.hid hop
          have HR := Lib.hid r
          clear hop r
          go_wp2_with fail
          refine (fk_app (K := fun k => (k = lb ∨ k = sb) ∨ k = w4.heap.size) (nm m4) [1] [] _ _ (HS4.out.fk.grow ((Below.refl _ _).alloc (Nat.le_refl _) (.cells #[.int .u8 1] 5)) _ (fun k hk => hk.imp id (fun e => by simp; omega))) (nice_nm4 (by omega)) (bytes_new w4 _ rfl [1] _ _ (by simp) (by simp)) (fun k hk => .inl (.inr (by simp [Value.ownBlock] at hk; exact hk.symm))) (rdG_none _ 0 none) (by simp) (by have := HS4.out.next; omega) (by have := HS4.out.used; simp; omega)).mono ?_
          rw [HOP.out]
          rintro e' w5 ⟨rfl, hk, hkk⟩
          have HM := Lib.hid (mid_wr (m7 := 4) (HS4.out.under ((Below.refl _ _).alloc (Nat.le_refl _) (.cells #[.int .u8 1] 5))) hi100 (by omega) (hk.less _ (fun k h => .inl h)) ⟨hkk.1, fun k h => hkk.2 k (.inl h)⟩ HR.out)
          clear hk hkk
          go_wp2_with fail
          go_meet
          exact ⟨s', st, e, m4, rfl, rfl, rfl, by omega, HM⟩
        · as_aux_lemma =>
          obtain ⟨s', st, e, hop, r, hne⟩ := res_move HS4.out.fk.fs.good.1 (nm m4) (nm m6) (nm_file (by omega)) (nm_file (by omega))
          have HOP := Lib.hid hop
          have HR := Lib.hid r
          have HNE := Lib.hid hne
          clear hop r hne
          go_wp2_with fail
          refine (fk_move (nm m4) (nm m6) [] _ HS4.out.fk (nice_nm4 (by omega)) (nice_nm4 (by omega)) (rdG_none _ 0 none) (by simp) (by have := HS4.out.next; omega) (by have := HS4.out.used; omega)).mono ?_
          rw [HOP.out]
          rintro e' w5 ⟨rfl, hk, hkk⟩
          by_cases he : e = 0
          · obtain ⟨w6, hrun, hm⟩ := mid_mv (m7 := 5) HS4.out hi100 (by omega) hk hkk HR.out he (nice_nm4 (by omega)) (HNE.out he)
            have HM := Lib.hid hm
            subst he
            clear hk hkk hm
            go_wp2_with fail
            go_meet
            exact ⟨s', st, 0, m6, rfl, rfl, rfl, by omega, HM⟩
          · have HM := Lib.hid (mid_bad (m7 := 5) HS4.out hk hkk HR.out he)
            have hez : ((e : Int) == 0) = false := by simpa using he
            clear hk hkk he
            go_wp2_with fail
            go_meet
            exact ⟨s', st, e, m6, rfl, rfl, rfl, by omega, HM⟩
        · as_aux_lemma =>
          obtain ⟨s', st, e, hop, r, hne⟩ := res_move HS4.out.fk.fs.good.1 (nm m4) (nm m6) (nm_file (by omega)) (nm_file (by omega))
          have HOP := Lib.hid hop
          have HR := Lib.hid r
          have HNE := Lib.hid hne
          clear hop r hne
          go_wp2_with fail
          refine (fk_move (nm m4) (nm m6) [] _ HS4.out.fk (nice_nm4 (by omega)) (nice_nm4 (by omega)) (rdG_none _ 0 none) (by simp) (by have := HS4.out.next; omega) (by have := HS4.out.used; omega)).mono ?_
          rw [HOP.out]
          rintro e' w5 ⟨rfl, hk, hkk⟩
          by_cases he : e = 0
          · obtain ⟨w6, hrun, hm⟩ := mid_mv (m7 := 6) HS4.out hi100 (by omega) hk hkk HR.out he (nice_nm4 (by omega)) (HNE.out he)
            have HM := Lib.hid hm
            subst he
            clear hk hkk hm
            go_wp2_with fail
            go_meet
            exact ⟨s', st, 0, m6, rfl, rfl, rfl, by omega, HM⟩
          · have HM := Lib.hid (mid_bad (m7 := 6) HS4.out hk hkk HR.out he)
            have hez : ((e : Int) == 0) = false := by simpa using he
            clear hk hkk he
            go_wp2_with fail
            go_meet
            exact ⟨s', st, e, m6, rfl, rfl, rfl, by omega, HM⟩
        · as_aux_lemma =>
          obtain ⟨s', e, hop, r1, r2, r3, r4, r5, r6⟩ := res_drop HS4.out.fk.fs.good.1 (nm m4) (nm_file (by omega))
          have HOP := Lib.hid hop
          have HR := Lib.hid (And.intro r1 (And.intro r2 (And.intro r3 (And.intro r4 (And.intro r5 r6)))))
          clear hop r1 r2 r3 r4 r5 r6
          go_wp2_with fail
          refine (fk_drop (nm m4) [] _ HS4.out.fk (nice_nm4 (by omega)) (rdG_none _ 0 none) (by simp) (by have := HS4.out.used; omega)).mono ?_
          rw [HOP.out]
          rintro e' w5 ⟨rfl, hk, hkk⟩
          by_cases he : e = 0
          · obtain ⟨w6, hrun, hm⟩ := mid_dr (j := m4) (e := e) HS4.out hk hkk (HR.out.2.1 he) HR.out.2.2.1 HR.out.2.2.2.1 HR.out.2.2.2.2.1 HR.out.2.2.2.2.2 (nice_nm4 (show m4 < 4 by omega))
            have HM := Lib.hid hm
            subst he
            clear hk hkk hm
            go_wp2_with fail
            go_meet
            exact ⟨s', 0, 0, m4, rfl, rfl, rfl, by omega, HM⟩
          · have HM := Lib.hid (mid_nodr (j := m4) (e := e) (g := nm m4) HS4.out hk hkk (HR.out.1 he) rfl)
            have hez : ((e : Int) == 0) = false := by simpa using he
            clear hk hkk he
            go_wp2_with fail
            go_meet
            exact ⟨s', 0, e, m4, rfl, rfl, rfl, by omega, HM⟩
      case rest =>
        obtain ⟨s', st, e, j, rfl, rfl, rfl, hj, HM⟩ := hcut
        obtain ⟨w7, hw7⟩ : ∃ wx : World, wx = wc := ⟨_, rfl⟩
        rw [← hw7]
        rw [← hw7] at HM
        clear hw7
        have hz7 : w7.cell? ⟨b, off + i, none⟩ = some (Value.int .i64 z) := by
          by_cases h : e = 0 ∧ m7 < 7
          · exact scell_later (HM.out.b h.1 h.2).1.fk.fs.below HC.out
          · exact scell_later (HM.out.a (by omega)).fk.fs.below HC.out
        rename_i hKK
        refine hKK _ _ ?_
        apply wp_seq_k
        intro _ _
        go_cut [] from 25 to 191 (fun wx => Hid (Sv noH w wx p lb sb s' (5 * i + 1 + 0) (5 * i + 1 + 0) (10 * i + 2 + 0)))
        case first =>
          by_cases hem : e = 0 ∧ m7 < 7
          · skip
            have hm1 : (m7 : Int) < 7 := by omega
            have HB := Lib.hid (HM.out.b hem.1 hem.2)
            have he0 := hem.1
            subst he0
            clear hem HM
            have hst1 : ¬ (st : Int) < 1 := by have := HB.out.2.2.1; omega
            have hfr := HB.out.2.2.2.2
            obtain ⟨w8, hr8, hv8⟩ := HB.out.1.putSeen (by omega) (by omega) (st : Int) (by omega) (by have := HB.out.2.1; omega)
            obtain ⟨w9, hr9, hv9⟩ := hv8.putLast (nice_nm4 hj) (by omega) (st : Int) (by have := HB.out.2.2.2.1; omega)
            have HV : Hid (Sv noH w w9 p lb sb s' (5 * i + 1 + 0) (5 * i + 1 + 0) (10 * i + 2 + 0)) := Lib.hid ((hv9.hole noH fun t ht => absurd ht.1 ht.2).more (by omega) (by omega) (by omega))
            have HSJ : Hid (stamp s'.l (nm j) = st) := Lib.hid HB.out.2.2.2.1
            clear hv8 hv9 hz4
            go_wp2_with fail
            refine (fs_stamp (nm j) w _ p _ HB.out.1.fk.fs (nice_nm4 hj)).mono ?_
            rintro e' w10 ⟨rfl, rfl⟩
            rw [HSJ.out]
            go_wp2_with fail
            go_meet
            exact HV
          · have HV : Hid (Sv noH w w7 p lb sb s' (5 * i + 1 + 0) (5 * i + 1 + 0) (10 * i + 2 + 0)) := Lib.hid ((HM.out.a (by omega)).more (by omega) (by omega) (by omega))
            have hcs : ((e : Int) == 0) = false ∨ (((e : Int) == 0) = true ∧ ¬ (m7 : Int) < 7) := by
              by_cases he : e = 0
              · exact .inr ⟨by simpa using he, by omega⟩
              · exact .inl (by simpa using he)
            clear hem HM hz4
            rcases hcs with hez | ⟨hez, hm1⟩
            all_goals
              go_wp2_with fail
              go_meet
              exact HV
        case rest =>
          obtain ⟨w9, hw9⟩ : ∃ wx : World, wx = wc := ⟨_, rfl⟩
          rw [← hw9]
          rw [← hw9] at hcut
          clear hw9
          have HV := hcut
          go_wp2_with fail
          go_loopw [12] (fun iv wq => ∃ (k : Nat) (s2 : S), k ≤ 4 ∧ iv = .int .i64 (k : Int) ∧ Hid (Sv noH w wq p lb sb s2 (5 * i + 1 + k) (5 * i + 1 + k) (10 * i + 2 + k))) (fun iv _ => 4 - (intOf iv).toNat)
          case atStart => exact ⟨0, _, by omega, rfl, HV⟩
          case round =>
            obtain ⟨k, s2, hk4, rfl, HK⟩ := hrel
            by_cases hkl : k < 4
            · have hkl' : (k : Int) < 4 := by omega
              obtain ⟨x, hx⟩ : ∃ x, stamp s2.l (nm k) = x := ⟨_, rfl⟩
              have HX := Lib.hid hx
              have hxle : x ≤ 5 * i + 1 + k := by rw [← hx]; exact Nat.le_trans (stamp_le HK.out.fk.fs.good _) HK.out.next
              have hxle2 : x ≤ 1000 := by omega
              clear hx hxle
              go_wp2_with fail
              refine (nm4_any k _ hkl).mono ?_
              rintro e' wa ⟨rfl, hba⟩
              have HA := Lib.hid (HK.out.under hba)
              have hla := HA.out.askLast hkl (fun e => e)
              rw [HX.out] at hla
              clear hba
              go_wp2_with fail
              obtain ⟨wg, hwg⟩ : ∃ wg, wg = wa.alloc (.cells #[.string (str (nm k)), .int .i64 (x : Int)] 39) := ⟨_, rfl⟩
              have HG : Hid (RdG wg (.slice (some ⟨wa.heap.size, 0, none⟩) 1 1) [(nm k, (x : Int))]) := Lib.hid (by rw [hwg]; exact rdG_one wa (nm k) x)
              have HSG : Hid (Sv noH w wg p lb sb s2 (5 * i + 1 + k) (5 * i + 1 + k) (10 * i + 2 + k)) := Lib.hid (HA.out.under (by rw [hwg]; exact (Below.refl _ _).alloc (Nat.le_refl _) _))
              have HNG : Hid (∀ y ∈ [(nm k, (x : Int))], Nice y.1) := Lib.hid (by simpa using nice_nm4 hkl)
              rw [← hwg]
              clear hwg hla
              by_cases hx0 : 0 < x
              · obtain ⟨s3, st3, e3, hop, hr, he3⟩ := res_app HSG.out.fk.fs.good.1 zz [] [(nm k, (x : Int))] (by have := ref_yes (k := k) HSG.out (by rw [HX.out]; exact hx0); rwa [HX.out] at this) HSG.out.cut HSG.out.room (by have := HSG.out.used; omega) (by simp)
                subst he3
                have HOP := Lib.hid hop
                have HR := Lib.hid hr
                clear hop hr
                refine (fk_app zz [] [(nm k, (x : Int))] _ _ HSG.out.fk nice_zz (bytes_none _) (by intro q hq; cases hq) HG.out HNG.out (by have := HSG.out.next; omega) (by have := HSG.out.used; simp; omega)).mono ?_
                rw [HOP.out]
                rintro e' wb ⟨rfl, hk, hkk⟩
                have HI := Lib.hid (in_app HSG.out (by omega) hk hkk HR.out rfl)
                have HKS := Lib.hid (hkk.2 sb (.inr rfl))
                have HR3 := Lib.hid ((HR.out.good rfl).2.1)
                have hlq : ∀ m, (Instr.lookup 57 (.map (some lb)) (.string (str (nm k))) false).run Try.prog (wb.drewN m) = .ok (.int .i64 (x : Int)) (wb.drewN m) := fun m => by
                  have := (HI.out.sv.under (sbelow_drewN wb m)).askLast hkl (nm_zz hkl)
                  rwa [HI.out.same k hkl, HX.out] at this
                have HSX : Hid (stamp s3.l (nm k) = x) := Lib.hid ((HI.out.same k hkl).trans HX.out)
                have HSQ : Hid (∀ m, Calls Try.prog 11 #[.pointer (some ⟨p, 0, none⟩), .string (str (nm k))] (wb.drewN m) fun e w'' => e = .returned (.int .i64 (x : Int)) ∧ ∃ m, w'' = wb.drewN m) := Lib.hid fun m => (fs_stamp (nm k) w (wb.drewN m) p s3 (HI.out.sv.fk.fs.under (sbelow_drewN wb m)) (nice_nm4 hkl)).mono fun e w'' ⟨he, hw⟩ => ⟨by rw [he, HSX.out], m, hw.symm⟩
                have hx0i : (0 : Int) < (x : Int) := by omega
                have hxd : decide (0 < x) = true := decide_eq_true hx0
                clear hk hkk
                go_wp2_with fail
                go_quiet ((go_at_call 11; exact HSQ.out _))
                generalize hwd : World.drewN wb _ = wd
                have HWD : Hid (wd.heap = wb.heap ∧ Below wb.heap.size wb wd) := Lib.hid (by rw [← hwd]; exact ⟨rfl, sbelow_drewN wb _⟩)
                clear hwd hlq
                have HVD := Lib.hid (HI.out.sv.under HWD.out.2)
                go_wp2_with fail
                refine (fs_stamp zz w wd p s3 HVD.out.fk.fs nice_zz).mono ?_
                rintro e' we ⟨rfl, rfl⟩
                rw [HI.out.zz]
                have hfr : (Instr.lookup 56 (.map (some sb)) (.int .i64 (st3 : Int)) false).run Try.prog wd = .ok (.bool false) wd := HSG.out.fresh (by rw [HWD.out.1]; exact HKS.out) HR3.out (by omega)
                obtain ⟨wf, hrf, hvf⟩ := HVD.out.putSeen (by omega) (by omega) (st3 : Int) (by omega) (by have := HI.out.eq; omega)
                have HVF := Lib.hid (hvf.unhole fun j hj => nm_zz hj)
                have hlf := (hvf.unhole fun j hj => nm_zz hj).askLast hkl (fun e => e)
                rw [HSX.out] at hlf
                clear hvf
                go_wp2_with fail
                obtain ⟨wh, hwh⟩ : ∃ wh, wh = wf.alloc (.cells #[.string (str (nm k)), .int .i64 ((x : Int) + 1000000)] 39) := ⟨_, rfl⟩
                have HG2 : Hid (RdG wh (.slice (some ⟨wf.heap.size, 0, none⟩) 1 1) [(nm k, (x : Int) + 1000000)]) := Lib.hid (by rw [hwh]; exact rdG_one wf (nm k) _)
                have HSH : Hid (Sv noH w wh p lb sb s3 (5 * i + 1 + k + 1) (5 * i + 1 + k + 1) (10 * i + 2 + k + 1)) := Lib.hid (HVF.out.under (by rw [hwh]; exact (Below.refl _ _).alloc (Nat.le_refl _) _))
                have HNG2 : Hid (∀ y ∈ [(nm k, (x : Int) + 1000000)], Nice y.1) := Lib.hid (by simpa using nice_nm4 hkl)
                have HAP := Lib.hid (app_refused (s := s3) (t := zz) (b := []) (g := [(nm k, (x : Int) + 1000000)]) (q := 5) (ref_big (s := s3) (k := k) _ (by rw [HSX.out])) (by omega))
                rw [← hwh]
                clear hwh
                refine (fk_app zz [] [(nm k, (x : Int) + 1000000)] _ _ HSH.out.fk nice_zz (bytes_none _) (by intro q hq; cases hq) HG2.out HNG2.out (by have := HSH.out.next; omega) (by have := HSH.out.used; simp; omega)).mono ?_
                rw [HAP.out]
                rintro e' wi ⟨rfl, hk, hkk⟩
                have HVI := Lib.hid (HSH.out.bad hk hkk rfl)
                clear hk hkk
                go_wp2
                go_roundw
                case rel => exact ⟨k + 1, s3, by omega, by go_num, Lib.hid (HVI.out.more (by omega) (by omega) (by omega))⟩
                case measure => simp [intOf]; omega
              · have hx00 : x = 0 := by omega
                have HRF := Lib.hid (app_refused (s := s2) (t := zz) (b := []) (g := [(nm k, (x : Int))]) (q := 5) (ref_no (k := k) HSG.out (by rw [HX.out]; exact hx0) _) (by omega))
                refine (fk_app zz [] [(nm k, (x : Int))] _ _ HSG.out.fk nice_zz (bytes_none _) (by intro q hq; cases hq) HG.out HNG.out (by have := HSG.out.next; omega) (by have := HSG.out.used; simp; omega)).mono ?_
                rw [HRF.out]
                rintro e' wb ⟨rfl, hk, hkk⟩
                have HVB := Lib.hid (HSG.out.bad hk hkk rfl)
                have hlq : ∀ m, (Instr.lookup 57 (.map (some lb)) (.string (str (nm k))) false).run Try.prog (wb.drewN m) = .ok (.int .i64 (x : Int)) (wb.drewN m) := fun m => by
                  have := (HVB.out.under (sbelow_drewN wb m)).askLast hkl (fun e => e)
                  rwa [HX.out] at this
                have HSQ : Hid (∀ m, Calls Try.prog 11 #[.pointer (some ⟨p, 0, none⟩), .string (str (nm k))] (wb.drewN m) fun e w'' => e = .returned (.int .i64 (x : Int)) ∧ ∃ m, w'' = wb.drewN m) := Lib.hid fun m => (fs_stamp (nm k) w (wb.drewN m) p s2 (HVB.out.fk.fs.under (sbelow_drewN wb m)) (nice_nm4 hkl)).mono fun e w'' ⟨he, hw⟩ => ⟨by rw [he, HX.out], m, hw.symm⟩
                have hx0i : ¬ (0 : Int) < (x : Int) := by omega
                have hxd : decide (0 < x) = false := decide_eq_false hx0
                clear hk hkk hx00
                go_wp2_with fail
                go_quiet ((go_at_call 11; exact HSQ.out _))
                generalize hwd : World.drewN wb _ = wd
                have HVF : Hid (Sv noH w wd p lb sb s2 (5 * i + 1 + k) (5 * i + 1 + k) (10 * i + 2 + k)) := Lib.hid (by rw [← hwd]; exact HVB.out.under (sbelow_drewN wb _))
                have hlf := HVF.out.askLast hkl (fun e => e)
                rw [HX.out] at hlf
                clear hwd hlq
                go_wp2_with fail
                obtain ⟨wh, hwh⟩ : ∃ wh, wh = wd.alloc (.cells #[.string (str (nm k)), .int .i64 ((x : Int) + 1000000)] 39) := ⟨_, rfl⟩
                have HG2 : Hid (RdG wh (.slice (some ⟨wd.heap.size, 0, none⟩) 1 1) [(nm k, (x : Int) + 1000000)]) := Lib.hid (by rw [hwh]; exact rdG_one wd (nm k) _)
                have HSH : Hid (Sv noH w wh p lb sb s2 (5 * i + 1 + k) (5 * i + 1 + k) (10 * i + 2 + k)) := Lib.hid (HVF.out.under (by rw [hwh]; exact (Below.refl _ _).alloc (Nat.le_refl _) _))
                have HNG2 : Hid (∀ y ∈ [(nm k, (x : Int) + 1000000)], Nice y.1) := Lib.hid (by simpa using nice_nm4 hkl)
                have HAP := Lib.hid (app_refused (s := s2) (t := zz) (b := []) (g := [(nm k, (x : Int) + 1000000)]) (q := 5) (ref_big (s := s2) (k := k) _ (by rw [HX.out])) (by omega))
                rw [← hwh]
                clear hwh
                refine (fk_app zz [] [(nm k, (x : Int) + 1000000)] _ _ HSH.out.fk nice_zz (bytes_none _) (by intro q hq; cases hq) HG2.out HNG2.out (by have := HSH.out.next; omega) (by have := HSH.out.used; simp; omega)).mono ?_
                rw [HAP.out]
                rintro e' wi ⟨rfl, hk, hkk⟩
                have HVI := Lib.hid (HSH.out.bad hk hkk rfl)
                clear hk hkk
                go_wp2
                go_roundw
                case rel => exact ⟨k + 1, s2, by omega, by go_num, Lib.hid (HVI.out.more (by omega) (by omega) (by omega))⟩
                case measure => simp [intOf]; omega
            · obtain rfl : k = 4 := by omega
              go_wp2
              go_roundw
              case rel => exact ⟨i + 1, s2, by omega, by omega, by go_num, Lib.hid (HK.out.more (by omega) (by omega) (by omega))⟩
              case measure => simp [intOf]; omega
    · have HLAST := Lib.hid HS.out
      have hstop : (¬ (i : Int) < (N : Int)) ∨ ((i : Int) < (N : Int) ∧ ¬ (i : Int) < 100) := by omega
      clear hlt
      rcases hstop with h1 | ⟨h1, h2⟩
      all_goals
        go_wp2_with fail
        refine (fawake_any _).mono ?_
        rintro e wz ⟨rfl, hb⟩
        have HBZ := Lib.hid (HLAST.out.fk.fs.below.trans (hb.mono HLAST.out.fk.fs.below.size))
        clear hb
        go_wp2
        go_ret
        exact ⟨rfl, HBZ.out⟩
end Go.Proofs.Ytegflhihjjjkhaa
