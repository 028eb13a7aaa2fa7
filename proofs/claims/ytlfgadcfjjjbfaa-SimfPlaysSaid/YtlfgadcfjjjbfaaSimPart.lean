/- Files in memory: how much of an append goes in; new files; a copy of bytes. -/
import Derived.Test.YtlfgadcfjjjbfaaSimLeaf
namespace Go.Proofs.Ytlfgadcfjjjbfaa
set_option maxRecDepth 100000
open Go.ChangeShapes Go.WideShapes Go.ChangeAt Go.RowKit Go.ChangeMaps
open Sf

set_option maxHeartbeats 2000000 in
theorem sclone_any (vb : Value) (b : List Nat) (w : World) (h : Bytes w vb b) (hm : b.length ≤ 1099511627776) :
    Calls Try.prog 39 #[vb] w fun e w' => Made w.heap.size b w e w' := by
  obtain ⟨h1, h2, A, c, rfl, hc, hx⟩ := h.parts
  rcases A with _ | a
  · have h0 : b = [] := by
      rcases Nat.eq_zero_or_pos b.length with h0 | h0
      · exact List.eq_nil_of_length_eq_zero h0
      · obtain ⟨b, off, e, _⟩ := hx h0
        cases e
    subst h0
    clear h hc hx h1 h2 hm
    have he : ∀ W, (binOp .eql 30 (.slice none 0 c) (.slice none 0 0)).run Try.prog W = .ok (.bool true) W := fun W => by kernel_rfl
    go_enter Try.func39, Try.ntmps39
    go_wp2
    go_ret
    exact ⟨_, rfl, own_none _ _, Below.refl _ _⟩
  · have H := Lib.hid h
    obtain ⟨n, hn⟩ : ∃ n, b.length = n := ⟨_, rfl⟩
    rw [hn] at H hm
    rw [hn]
    have HN := Lib.hid hn
    clear h hc hx h1 h2 hn
    have he : ∀ W, (binOp .eql 30 (.slice (some a) n c) (.slice none 0 0)).run Try.prog W = .ok (.bool false) W := fun W => by kernel_rfl
    go_enter Try.func39, Try.ntmps39
    go_wp2_with (first
      | (at_builtin; refine wpList_append_bytes rfl _ _ rfl w.heap.size _ _ [] b rfl (own_empty w w.heap.size 0 #[] (Nat.le_refl _) (by unfold maxLen; omega) rfl) rfl (H.out.alloc _) (by rw [HN.out]; simp; omega) (by simp) b rfl ?_; intro v' w' hg)
      | fail)
    go_ret
    exact ⟨_, rfl, hg.1, ((Below.refl _ _).alloc (Nat.le_refl _) _).trans hg.2.2.2⟩
set_option maxHeartbeats 2000000 in
theorem fnew_any (n : Int) (w : World) :
    Calls Try.prog 4 #[.int .i64 n] w fun e w' => ∃ p mb V F, e = .returned (.pointer (some ⟨p, 0, none⟩)) ∧ At none w' p mb V F (new n) ∧ (∀ k, F k → w.heap.size ≤ k) ∧ Below w.heap.size w w' := by
  have hmm := @run_makeMap Try.prog
  go_enter Try.func4, Try.ntmps4
  go_wp2_with fail
  obtain ⟨mb, hmb⟩ : ∃ mb, w.heap.size = mb := ⟨_, rfl⟩
  rw [hmb]
  obtain ⟨w2, hw2⟩ : ∃ w2, w2 = (w.alloc (Obj.map #[] 0)).alloc (.cells #[.map (some mb), .int .i64 0, .int .i64 0, .int .i64 0, .int .i64 (-1)] 52) := ⟨_, rfl⟩
  rw [← hw2]
  have hs2 : w2.heap.size = mb + 2 := by rw [hw2]; simp [hmb]
  have hb2 : Below mb w w2 := by rw [hw2, ← hmb]; exact ((Below.refl _ _).alloc (Nat.le_refl _) _).alloc (by simp) _
  have HA : Hid (At none w2 (mb + 1) mb (fun _ => .slice none 0 0) (fun k => k = mb ∨ k = mb + 1) ⟨[], 0, 0, -1⟩) := Lib.hid (by
    refine ⟨?_, ?_, .inr rfl, .inl rfl, by omega, fun k hk => by rw [hs2]; omega, fun t x hx => by simp [Sf.get] at hx, fun t x hx => by simp [Sf.get] at hx, fun t x k hx => by simp [Sf.get] at hx, fun t u x y hx => by simp [Sf.get] at hx, ⟨List.Pairwise.nil, by simp, by simp, by simp, by simp, by simp⟩⟩
    · rw [hw2]
      have e : (w.alloc (Obj.map #[] 0)).heap.size = mb + 1 := by simp [hmb]
      have := heap_alloc_new (w.alloc (Obj.map #[] 0)) (.cells #[.map (some mb), .int .i64 0, .int .i64 0, .int .i64 0, .int .i64 (-1)] 52)
      rw [e] at this
      exact this
    · have h1 := mapIs_made w
      rw [hmb] at h1
      refine MapIs.same (w := w.alloc (Obj.map #[] 0)) h1 ?_
      rw [hw2]
      exact Below.heap_alloc _ _ mb (by simp [hmb]))
  have HB := Lib.hid hb2
  clear hw2 hs2 hb2 hmm
  refine (froom_any n w2 (mb + 1) mb _ _ _ HA.out).mono ?_
  rintro e w3 ⟨rfl, ha, hg⟩
  have HA3 := Lib.hid ha
  have HG3 := Lib.hid hg
  clear ha hg
  go_wp2
  go_ret
  refine ⟨mb + 1, mb, _, _, rfl, HA3.out, fun k hk => by omega, ?_⟩
  rw [hmb]
  exact HB.out.grown HG3.out (by have := HB.out.size; omega) (fun k hk => by injection hk with hk; omega)
set_option maxHeartbeats 2000000 in
theorem part_any {X : Option (List Nat)} (n : Nat) (w : World) (p mb : Nat) (V : List Nat → Value) (F : Nat → Prop) (s : S) (h : At X w p mb V F s) (hn : n ≤ 1099511627776) (hu : used s.l ≤ 1099511627776) :
    Calls Try.prog 40 #[.pointer (some ⟨p, 0, none⟩), .int .i64 (n : Int)] w fun e w' => e = .returned (.tuple #[.int .i64 (((Sf.part s n).2.1 : Nat) : Int), .int .i64 (((Sf.part s n).2.2 : Nat) : Int)]) ∧ At X w' p mb V F (Sf.part s n).1 ∧ w.grownBy w' (some p) := by
  have k4 : w.cell? ⟨p, 4, none⟩ = some (.int .i64 s.cut) := h.blk.at 4
  have f4 : w.frozen? ⟨p, 4, none⟩ = false := h.blk.free 4
  have k1 : w.cell? ⟨p, 1, none⟩ = some (.int .i64 s.room) := h.blk.at 1
  have k2 : w.cell? ⟨p, 2, none⟩ = some (.int .i64 ((used s.l : Nat) : Int)) := h.blk.at 2
  obtain ⟨-, -, hr0, hr1, hc0, hc1⟩ := h.good
  by_cases hc : s.cut = -1
  · obtain ⟨us, hus⟩ : ∃ us, used s.l = us := ⟨_, rfl⟩
    obtain ⟨r, hr⟩ : ∃ r, s.room = r := ⟨_, rfl⟩
    obtain ⟨M, hM⟩ : ∃ M, max (r - (us : Int)) 0 = M := ⟨_, rfl⟩
    have x1 := fun (W : World) ts t => run_top2 (P := Try.prog) W ts t (r - (us : Int)) 0 M hM
    rw [hus] at hu k2
    rw [hr] at hr0 hr1 k1
    rw [hc] at k4
    have hwr : IntKind.i64.wrap (r - (us : Int)) = r - (us : Int) := by rw [IntKind.wrap_i64]; omega
    have H := Lib.hid h
    by_cases hle : (n : Int) ≤ M
    · have HP : Hid (Sf.part s n = (s, n, 0)) := Lib.hid (by unfold Sf.part; rw [if_pos hc, hus, hr, hM, if_pos hle])
      have hle' : ¬ M < (n : Int) := by omega
      have hgt : decide (M < (n : Int)) = false := decide_eq_false hle'
      clear hc hc0 hc1 hle hle' f4 h hM hus hr hu hr0 hr1
      go_enter Try.func40, Try.ntmps40
      go_wp2_with fail
      go_region
      go_wp2
      go_ret2
      rw [HP.out]
      exact ⟨rfl, H.out.drew, ⟨rfl, rfl, rfl, Nat.le_refl _, fun _ _ _ => rfl⟩⟩
    · have HP : Hid (Sf.part s n = (s, M.toNat, 2)) := Lib.hid (by unfold Sf.part; rw [if_pos hc, hus, hr, hM, if_neg hle])
      have hgt' : M < (n : Int) := by omega
      have hgt : decide (M < (n : Int)) = true := decide_eq_true hgt'
      have HM : Hid (((M.toNat : Nat) : Int) = M) := Lib.hid (by omega)
      clear hc hc0 hc1 hle hgt' f4 h hM hus hr hu hr0 hr1
      go_enter Try.func40, Try.ntmps40
      go_wp2_with fail
      go_region
      go_wp2
      go_ret2
      rw [HP.out]
      exact ⟨by rw [HM.out]; rfl, H.out.drew, ⟨rfl, rfl, rfl, Nat.le_refl _, fun _ _ _ => rfl⟩⟩
  · obtain ⟨M, hM⟩ : ∃ M, min (n : Int) s.cut = M := ⟨_, rfl⟩
    have y1 := fun (W : World) ts t => run_low2 (P := Try.prog) W ts t (n : Int) s.cut M hM
    have HP : Hid (Sf.part s n = ({ s with cut := -1 }, M.toNat, 7)) := Lib.hid (by unfold Sf.part; rw [if_neg hc, hM])
    have HM : Hid (((M.toNat : Nat) : Int) = M) := Lib.hid (by omega)
    have hne : (s.cut == -1) = false := by simpa using hc
    have HA := Lib.hid (at_cell (s' := { s with cut := -1 }) h 4 (.int .i64 (-1)) rfl rfl rfl ⟨h.good.1, h.good.2.1, h.good.2.2.1, h.good.2.2.2.1, by show (-1 : Int) ≤ -1; omega, by show (-1 : Int) ≤ _; omega⟩)
    have HG := Lib.hid (grown_setCell w ⟨p, 4, none⟩ (.int .i64 (-1)))
    obtain ⟨ct, hct⟩ : ∃ ct, s.cut = ct := ⟨_, rfl⟩
    rw [hct] at k4 hne y1
    clear hc hc0 hc1 hM hu hr0 hr1 k1 k2 hct h
    go_enter Try.func40, Try.ntmps40
    go_wp2
    go_ret2
    rw [HP.out]
    exact ⟨by rw [HM.out]; rfl, HA.out, HG.out⟩
end Go.Proofs.Ytlfgadcfjjjbfaa
