/- Files in memory: their calls, for whoever holds nothing else. -/
import Derived.Test.YtlfgadcfjjjbfaaSimList
namespace Go.Proofs.Ytlfgadcfjjjbfaa
set_option maxRecDepth 100000
open Go.ChangeShapes Go.WideShapes Go.ChangeAt Go.RowKit Go.ChangeMaps
open Sf

/-- Files s lie at p; of what was there in w0 nothing has turned. -/
def Fs (w0 w : World) (p : Nat) (s : S) : Prop := ∃ mb V F, At none w p mb V F s ∧ (∀ k, F k → w0.heap.size ≤ k) ∧ Below w0.heap.size w0 w
theorem Fs.under {w0 w w1 : World} {p : Nat} {s : S} (h : Fs w0 w p s) (hb : Below w.heap.size w w1) : Fs w0 w1 p s := by
  obtain ⟨mb, V, F, h1, h2, h3⟩ := h
  exact ⟨mb, V, F, h1.under hb, h2, h3.trans (hb.mono h3.size)⟩
theorem Fs.alloc {w0 w : World} {p : Nat} {s : S} (h : Fs w0 w p s) (o : Obj) : Fs w0 (w.alloc o) p s := h.under ((Below.refl _ _).alloc (Nat.le_refl _) o)
theorem Fs.heap {w0 w W : World} {p : Nat} {s : S} (h : Fs w0 w p s) (hb : Below w.heap.size w W) : Fs w0 W p s := h.under hb
theorem Fs.below {w0 w : World} {p : Nat} {s : S} (h : Fs w0 w p s) : Below w0.heap.size w0 w := by
  obtain ⟨_, _, _, _, _, h3⟩ := h
  exact h3
theorem Fs.done {w0 w w' : World} {p : Nat} {s' : S} {F : Nat → Prop} (h2 : ∀ k, F k → w0.heap.size ≤ k) (h3 : Below w0.heap.size w0 w) (hd : Done F p s' w w') : Fs w0 w' p s' := by
  obtain ⟨F', ⟨mb, V, ha⟩, hf⟩ := hd
  exact ⟨mb, V, F', ha, hf.out h2 h3.size, h3.trans (hf.below h2 h3.size)⟩
theorem Fs.good {w0 w : World} {p : Nat} {s : S} (h : Fs w0 w p s) : Sf.Good s := by
  obtain ⟨mb, V, F, h1, _⟩ := h
  exact h1.good
theorem fs_new (n : Int) (w : World) : Calls Try.prog 4 #[.int .i64 n] w fun e w' => ∃ p, e = .returned (.pointer (some ⟨p, 0, none⟩)) ∧ Fs w w' p (new n) :=
  (fnew_any n w).mono fun _ _ ⟨p, mb, V, F, he, ha, hf, hb⟩ => ⟨p, he, mb, V, F, ha, hf, hb⟩
theorem fs_make (t b : List Nat) (vb : Value) (w0 w : World) (p : Nat) (s : S) (h : Fs w0 w p s) (ht : Nice t) (hb : Bytes w vb b) (hnx : s.next ≤ 1073741824) (hu : used s.l + b.length ≤ 274877906944) :
    Calls Try.prog 9 #[.pointer (some ⟨p, 0, none⟩), .string (str t), vb] w fun e w' => e = .returned (.tuple #[.int .i64 (((make s t b).2.1 : Nat) : Int), .int .i64 (((make s t b).2.2 : Nat) : Int)]) ∧ Fs w0 w' p (make s t b).1 := by
  obtain ⟨mb, V, F, h1, h2, h3⟩ := h
  exact (make_any t b vb w p mb V F s h1 ht hb hnx (by omega)).mono fun _ _ ⟨he, hd⟩ => ⟨he, Fs.done h2 h3 hd⟩
theorem fs_put (t b : List Nat) (vb : Value) (w0 w : World) (p : Nat) (s : S) (h : Fs w0 w p s) (ht : Nice t) (hb : Bytes w vb b) (hnx : s.next ≤ 1073741824) (hu : used s.l + b.length ≤ 274877906944) :
    Calls Try.prog 11 #[.pointer (some ⟨p, 0, none⟩), .string (str t), vb] w fun e w' => e = .returned (.tuple #[.int .i64 (((putS s t b).2.1 : Nat) : Int), .int .i64 (((putS s t b).2.2 : Nat) : Int)]) ∧ Fs w0 w' p (putS s t b).1 := by
  obtain ⟨mb, V, F, h1, h2, h3⟩ := h
  exact (put_any t b vb w p mb V F s h1 ht hb hnx (by omega)).mono fun _ _ ⟨he, hd⟩ => ⟨he, Fs.done h2 h3 hd⟩
theorem fs_app (t b : List Nat) (g : List (List Nat × Int)) (vb vg : Value) (w0 w w1 : World) (p : Nat) (s : S) (h : Fs w0 w p s) (hw : Below w.heap.size w w1) (ht : Nice t) (hb : Bytes w1 vb b) (hbf : ∀ k, vb.ownBlock = some k → w.heap.size ≤ k) (hg : RdG w1 vg g) (hg1 : ∀ x ∈ g, Nice x.1) (hnx : s.next ≤ 1073741824) (hu : used s.l + b.length ≤ 274877906944) :
    Calls Try.prog 13 #[.pointer (some ⟨p, 0, none⟩), .string (str t), vb, vg] w1 fun e w' => e = .returned (.tuple #[.int .i64 (((app s t b g).2.1 : Nat) : Int), .int .i64 (((app s t b g).2.2 : Nat) : Int)]) ∧ Fs w0 w' p (app s t b g).1 := by
  obtain ⟨mb, V, F, h1, h2, h3⟩ := h
  exact (app_any t b g vb vg w1 p mb V F s (h1.under hw) ht hb hg hg1 (fun _ k hk e => by have := h1.lt k hk; have := hbf k e; omega) hnx hu).mono fun _ _ ⟨he, hd⟩ => ⟨he, Fs.done h2 (h3.trans (hw.mono h3.size)) hd⟩
theorem fs_move (a b : List Nat) (g : List (List Nat × Int)) (vg : Value) (w0 w : World) (p : Nat) (s : S) (h : Fs w0 w p s) (ha : Nice a) (hb : Nice b) (hg : RdG w vg g) (hg1 : ∀ x ∈ g, Nice x.1) (hnx : s.next ≤ 1073741824) (hu : used s.l ≤ 274877906944) :
    Calls Try.prog 15 #[.pointer (some ⟨p, 0, none⟩), .string (str a), .string (str b), vg] w fun e w' => e = .returned (.tuple #[.int .i64 (((Sf.move s a b g).2.1 : Nat) : Int), .int .i64 (((Sf.move s a b g).2.2 : Nat) : Int)]) ∧ Fs w0 w' p (Sf.move s a b g).1 := by
  obtain ⟨mb, V, F, h1, h2, h3⟩ := h
  exact (move_any a b g vg w p mb V F s h1 ha hb hg hg1 hnx (by omega)).mono fun _ _ ⟨he, hd⟩ => ⟨he, Fs.done h2 h3 hd⟩
theorem fs_drop (t : List Nat) (g : List (List Nat × Int)) (vg : Value) (w0 w : World) (p : Nat) (s : S) (h : Fs w0 w p s) (ht : Nice t) (hg : RdG w vg g) (hg1 : ∀ x ∈ g, Nice x.1) (hu : used s.l ≤ 274877906944) :
    Calls Try.prog 17 #[.pointer (some ⟨p, 0, none⟩), .string (str t), vg] w fun e w' => e = .returned (.int .i64 (((Sf.drop s t g).2 : Nat) : Int)) ∧ Fs w0 w' p (Sf.drop s t g).1 := by
  obtain ⟨mb, V, F, h1, h2, h3⟩ := h
  exact (drop_any t g vg w p mb V F s h1 ht hg hg1 (by omega)).mono fun _ _ ⟨he, hd⟩ => ⟨he, Fs.done h2 h3 hd⟩
theorem fs_read (t : List Nat) (w0 w : World) (p : Nat) (s : S) (h : Fs w0 w p s) (ht : Nice t) (hu : used s.l ≤ 274877906944) :
    Calls Try.prog 23 #[.pointer (some ⟨p, 0, none⟩), .string (str t)] w fun e w' => ∃ v, e = .returned (.tuple #[v, .int .i64 (((Sf.read s t).2.1 : Nat) : Int), .int .i64 (((Sf.read s t).2.2 : Nat) : Int)]) ∧ Own w' w.heap.size v (Sf.read s t).1 ∧ Below w.heap.size w w' := by
  obtain ⟨mb, V, F, h1, h2, h3⟩ := h
  exact fread_any t w p mb V F s h1 ht (by omega)
theorem fs_list (d : List Nat) (w0 w : World) (p : Nat) (s : S) (h : Fs w0 w p s) (hd : ∀ c ∈ d, c < 256) (hnx : s.next ≤ 1073741824) :
    Calls Try.prog 29 #[.pointer (some ⟨p, 0, none⟩), .string (str d)] w fun e w' => ∃ v, e = .returned v ∧ OwnT w' w.heap.size v (Sf.list s.l d) ∧ Below w.heap.size w w' := by
  obtain ⟨mb, V, F, h1, h2, h3⟩ := h
  exact flist_any d w p mb V F s h1 hd hnx
theorem fs_stamp (t : List Nat) (w0 w : World) (p : Nat) (s : S) (h : Fs w0 w p s) (ht : Nice t) :
    Calls Try.prog 25 #[.pointer (some ⟨p, 0, none⟩), .string (str t)] w fun e w' => e = .returned (.int .i64 ((stamp s.l t : Nat) : Int)) ∧ w = w' := by
  obtain ⟨mb, V, F, h1, _⟩ := h
  exact fstamp_any t w p mb V F s h1 ht.1 ht.2
theorem fs_used (w0 w : World) (p : Nat) (s : S) (h : Fs w0 w p s) :
    Calls Try.prog 26 #[.pointer (some ⟨p, 0, none⟩)] w fun e w' => e = .returned (.int .i64 ((used s.l : Nat) : Int)) ∧ w = w' := by
  obtain ⟨mb, V, F, h1, _⟩ := h
  exact fused_any w p mb V F s h1
theorem fs_room (n : Int) (w0 w : World) (p : Nat) (s : S) (h : Fs w0 w p s) :
    Calls Try.prog 19 #[.pointer (some ⟨p, 0, none⟩), .int .i64 n] w fun e w' => e = .returned (.tuple #[]) ∧ Fs w0 w' p { s with room := held n } := by
  obtain ⟨mb, V, F, h1, h2, h3⟩ := h
  exact (froom_any n w p mb V F s h1).mono fun _ _ ⟨he, ha, hg⟩ => ⟨he, mb, V, F, ha, h2, h3.grown hg h3.size fun k hk => by injection hk with hk; rw [← hk]; exact h2 p h1.fp⟩
theorem fs_cut (n : Int) (w0 w : World) (p : Nat) (s : S) (h : Fs w0 w p s) (hn : n ≤ 9223372036854775807) :
    Calls Try.prog 21 #[.pointer (some ⟨p, 0, none⟩), .int .i64 n] w fun e w' => e = .returned (.tuple #[]) ∧ Fs w0 w' p { s with cut := max n 0 } := by
  obtain ⟨mb, V, F, h1, h2, h3⟩ := h
  exact (fcut_any n w p mb V F s h1 hn).mono fun _ _ ⟨he, ha, hg⟩ => ⟨he, mb, V, F, ha, h2, h3.grown hg h3.size fun k hk => by injection hk with hk; rw [← hk]; exact h2 p h1.fp⟩
theorem rdG_one (w : World) (t : List Nat) (k : Int) : RdG (w.alloc (.cells #[.string (str t), .int .i64 k] 35)) (.slice (some ⟨w.heap.size, 0, none⟩) 1 1) [(t, k)] := by
  refine ⟨_, 1, rfl, Nat.le_refl _, by simp, fun _ => ⟨w.heap.size, 0, rfl, fun j hj => ?_⟩⟩
  have : j = 0 := by simpa using hj
  subst this
  exact ⟨cell_of_row _ _ 0 _ _ _ (heap_alloc_new w _), cell_of_row _ _ 1 _ _ _ (heap_alloc_new w _)⟩
/-- Whether two rows of texts are the same. -/
theorem same_next {A B : List (List Nat)} {n k : Nat} (ha : A.length = n) (hb : B.length = n) (hk : k < n) (h : A.take k = B.take k) (he : A.getD k [] = B.getD k []) : A.take (k + 1) = B.take (k + 1) := by
  rw [List.take_succ_eq_append_getElem (by omega), List.take_succ_eq_append_getElem (by omega), h]
  rw [List.getD_eq_getElem?_getD, List.getD_eq_getElem?_getD, List.getElem?_eq_getElem (by omega), List.getElem?_eq_getElem (by omega)] at he
  rw [show A[k] = B[k] from he]
set_option maxHeartbeats 4000000 in
theorem fsame_any (A B : List (List Nat)) (va vb : Value) (w : World) (x y : Nat) (ha : OwnT w x va A) (hb : OwnT w y vb B) (hA : ∀ l ∈ A, ∀ c ∈ l, c < 256) (hB : ∀ l ∈ B, ∀ c ∈ l, c < 256) (hm : A.length ≤ 1099511627776) (hm2 : B.length ≤ 1099511627776) :
    Calls Try.prog 28 #[va, vb] w fun e w' => e = .returned (.bool (decide (A = B))) ∧ Below w.heap.size w w' := by
  have parts : ∀ {z : Nat} {v : Value} {L : List (List Nat)}, OwnT w z v L → ∃ P c, v = .slice P L.length c ∧ L.length ≤ c ∧ (0 < L.length → ∃ g, P = some ⟨g, 0, none⟩) := fun {z v L} h => by
    rcases h.2 with ⟨rfl, h0⟩ | ⟨g, cap, cur, rfl, _, _, hc, _⟩
    · exact ⟨none, 0, by rw [h0], by omega, fun h => by omega⟩
    · exact ⟨_, cap, rfl, hc, fun _ => ⟨g, rfl⟩⟩
  obtain ⟨P1, c1, rfl, hc1, hp1⟩ := parts ha
  obtain ⟨P2, c2, rfl, hc2, hp2⟩ := parts hb
  obtain ⟨n, hn⟩ : ∃ n, A.length = n := ⟨_, rfl⟩
  obtain ⟨m, hmm⟩ : ∃ m, B.length = m := ⟨_, rfl⟩
  have H1 := Lib.hid ha
  have H2 := Lib.hid hb
  have HP1 := Lib.hid hp1
  have HP2 := Lib.hid hp2
  have HN := Lib.hid hn
  have HM := Lib.hid hmm
  have HA := Lib.hid hA
  have HB := Lib.hid hB
  rw [hn] at hc1 hm ⊢
  rw [hmm] at hc2 hm2 ⊢
  clear ha hb hp1 hp2 hn hmm hA hB parts
  by_cases hnm : n = m
  · subst hnm
    go_enter Try.func28, Try.ntmps28
    go_wp2_with fail
    go_loopw [5] (fun iv wr => ∃ k : Nat, k ≤ n ∧ iv = .int .i64 (k : Int) ∧ Hid (A.take k = B.take k) ∧ ∃ nq, wr = w.drewN nq) (fun iv _ => n - (intOf iv).toNat)
    case atStart => exact ⟨0, by omega, rfl, Lib.hid (by simp), 0, rfl⟩
    case round =>
      obtain ⟨k, hk, rfl, HT, nq, rfl⟩ := hrel
      by_cases hlt : k < n
      · have hlt' : (k : Int) < (n : Int) := by omega
        obtain ⟨g1, rfl⟩ := HP1.out (by rw [HN.out]; omega)
        obtain ⟨g2, rfl⟩ := HP2.out (by rw [HM.out]; omega)
        obtain ⟨l1, hl1⟩ : ∃ l, A.getD k [] = l := ⟨_, rfl⟩
        obtain ⟨l2, hl2⟩ : ∃ l, B.getD k [] = l := ⟨_, rfl⟩
        have q1 : ∀ j, (w.drewN j).cell? ⟨g1, k, none⟩ = some (.string (str l1)) := fun j => by rw [← hl1]; exact OwnT.cell H1.out (by rw [HN.out]; exact hlt)
        have q2 : ∀ j, (w.drewN j).cell? ⟨g2, k, none⟩ = some (.string (str l2)) := fun j => by rw [← hl2]; exact OwnT.cell H2.out (by rw [HM.out]; exact hlt)
        have e1 : w.cell? ⟨g1, k, none⟩ = some (.string (str l1)) := q1 0
        have e2 : w.cell? ⟨g2, k, none⟩ = some (.string (str l2)) := q2 0
        have hb1 : ∀ c ∈ l1, c < 256 := by
          rw [← hl1, List.getD_eq_getElem?_getD, List.getElem?_eq_getElem (by rw [HN.out]; exact hlt)]
          exact HA.out _ (List.getElem_mem _)
        have hb2 : ∀ c ∈ l2, c < 256 := by
          rw [← hl2, List.getD_eq_getElem?_getD, List.getElem?_eq_getElem (by rw [HM.out]; exact hlt)]
          exact HB.out _ (List.getElem_mem _)
        have hse := str_same hb1 hb2
        have HL1 := Lib.hid hl1
        have HL2 := Lib.hid hl2
        clear hl1 hl2 hb1 hb2 q1 q2
        by_cases hd : l1 = l2
        · have HT2 : Hid (A.take (k + 1) = B.take (k + 1)) := Lib.hid (same_next HN.out HM.out hlt HT.out (by rw [HL1.out, HL2.out]; exact hd))
          rw [decide_eq_true hd] at hse
          clear hd
          go_wp2_with fail
          go_quiet (fail)
          go_wp2
          go_roundw
          case rel => exact ⟨k + 1, by omega, by go_num, HT2, _, rfl⟩
          case measure => simp [intOf]; omega
        · have HV : Hid (decide (A = B) = false) := Lib.hid (decide_eq_false fun e => hd (by rw [← HL1.out, ← HL2.out, e]))
          rw [decide_eq_false hd] at hse
          clear hd
          go_wp2_with fail
          go_quiet (fail)
          go_wp2
          go_ret
          exact ⟨by rw [HV.out]; rfl, (sbelow_drewN w _).trans (sbelow_drewN (w.drewN _) _)⟩
      · obtain rfl : k = n := by omega
        have HV : Hid (decide (A = B) = true) := Lib.hid (decide_eq_true (by
          have := HT.out
          rwa [List.take_of_length_le (by rw [HN.out]; exact Nat.le_refl _), List.take_of_length_le (by rw [HM.out]; exact Nat.le_refl _)] at this))
        go_wp2
        go_ret
        exact ⟨by rw [HV.out]; rfl, sbelow_drewN w _⟩
  · have HV : Hid (decide (A = B) = false) := Lib.hid (decide_eq_false fun e => hnm (by rw [← HN.out, ← HM.out, e]))
    have hnz : ((n : Int) == (m : Int)) = false := by simp; omega
    clear hnm
    go_enter Try.func28, Try.ntmps28
    go_wp2
    go_ret
    exact ⟨by rw [HV.out]; rfl, Below.refl _ _⟩
end Go.Proofs.Ytlfgadcfjjjbfaa
