/- The library's Repeat, twice, of few bytes. -/
import Derived.Test.YtldnpedegcbglaaActBytes
import Derived.Test.YtldnpedegcbglaaShelf
import Derived.Lib.MakeNoZero
import Derived.Lib.SlBuf
import Derived.Laws.IdiomCopy
import Derived.Laws.Externs
namespace Go.Proofs.Ytldnpedegcbglaa
set_option maxRecDepth 100000
open Go.ChangeShapes Go.WideShapes Go.ChangeAt Go.RowKit

/-- A row that is being filled from its beginning on. -/
structure Fill (w0 wr : World) (B N : Nat) (acc : List Nat) : Prop where
  below : Below w0.heap.size w0 wr
  new : w0.heap.size ≤ B
  lt : B < wr.heap.size
  there : ∀ j, j < N → (wr.cell? ⟨B, j, none⟩).isSome = true
  free : ∀ j, j < N → wr.frozen? ⟨B, j, none⟩ = false
  holds : ∀ j, j < acc.length → wr.cell? ⟨B, j, none⟩ = some (.int .u8 ((acc.getD j 0 : Nat) : Int))
  fits : acc.length ≤ N
  small : ∀ c ∈ acc, c < 256
theorem Fill.heap {w0 wr W : World} {B N : Nat} {acc : List Nat} (h : Fill w0 wr B N acc) (e : W.heap = wr.heap) (hb : Below w0.heap.size w0 W) : Fill w0 W B N acc := by
  have hc : ∀ a, W.cell? a = wr.cell? a := fun a => World.cell?_of_block (by rw [e])
  have hf : ∀ a, W.frozen? a = wr.frozen? a := fun a => World.frozen?_of_block (by rw [e])
  exact ⟨hb, h.new, by rw [e]; exact h.lt, fun j hj => by rw [hc]; exact h.there j hj, fun j hj => by rw [hf]; exact h.free j hj, fun j hj => by rw [hc]; exact h.holds j hj, h.fits, h.small⟩
theorem Fill.mine {w0 wr : World} {B N : Nat} {acc : List Nat} (h : Fill w0 wr B N acc) (e : acc.length = N) (hm : N ≤ maxLen) : Mine wr w0.heap.size (.slice (some ⟨B, 0, none⟩) N N) acc := by
  subst e
  refine ⟨h.small, _, _, rfl, Nat.le_refl _, hm, .inr ⟨B, 0, rfl, h.new, h.lt, fun i hi => ?_, fun i hi => ?_⟩⟩
  · rw [show 0 + i = i from by omega]
    exact ⟨h.there i hi, h.free i hi⟩
  · rw [show 0 + i = i from by omega]
    exact h.holds i hi
theorem Fill.part {w0 wr : World} {B N : Nat} {acc : List Nat} (h : Fill w0 wr B N acc) {k c : Nat} (hk : k ≤ acc.length) (hc : k ≤ c) (hm : k ≤ 9223372036854775807) : Bytes wr (.slice (some ⟨B, 0, none⟩) k c) (acc.take k) := by
  refine Bytes.of (fun x hx => h.small x (List.mem_of_mem_take hx)) (by rw [List.length_take]; omega) hm hc fun _ => ⟨B, 0, rfl, fun i hi => ?_⟩
  rw [show 0 + i = i from by omega, h.holds i (by omega), List.getD_eq_getElem?_getD, List.getD_eq_getElem?_getD, List.getElem?_take, if_pos hi]
theorem infoSize8 : (Try.prog.info? 5).map (·.size) = some 1 := by kernel_rfl
theorem Fill.copy {w0 wr : World} {B N : Nat} {acc l : List Nat} {v : Value} {ty : TypeId} (h : Fill w0 wr B N acc) (hv : Bytes wr v l) (hfit : acc.length + l.length ≤ N) (h0 : 0 < l.length) (M : Nat) (hM : M = N - acc.length) :
    ∃ wr', (Builtin.copy_ #[23, 23] ty #[.slice (some ⟨B, acc.length, none⟩) M M, v]).run Try.prog wr = .ok (.int .i64 (l.length : Int)) wr' ∧ Fill w0 wr' B N (acc ++ l) := by
  obtain ⟨h1, h2, A, c, rfl, hc, hx⟩ := hv.parts
  obtain ⟨b, off, rfl, hcell⟩ := hx h0
  have hmap : (row8 l).length = l.length := by simp [row8]
  have hr := run_copy_cells (P := Try.prog) wr 23 23 ty 5 B acc.length M M ⟨b, off, none⟩ l.length c (row8 l) Try.underlying23 infoSize8 (by rw [hmap]; exact (Nat.min_eq_left (by omega)).symm)
    (fun j u hj => by
      obtain ⟨hj1, rfl⟩ := row8_at hj
      rw [add_plain]
      exact hcell j hj1)
    (fun j hj => by rw [hmap] at hj; exact h.there _ (by omega)) (fun j hj => by rw [hmap] at hj; exact h.free _ (by omega)) row8_one
  rw [hmap] at hr
  have hin := World.cell?_setCells_in B (row8 l) acc.length wr (fun j hj => by rw [hmap] at hj; exact h.there _ (by omega))
  have hout := World.cell?_setCells_out B (row8 l) acc.length wr
  have hbelow := Lib.below_setCells B h.new (row8 l) acc.length h.below
  have hsame : (wr.setCells B acc.length (row8 l)).heap.size = wr.heap.size := by
    have : ∀ (vs : List Value) (o : Nat) (w : World), (w.setCells B o vs).heap.size = w.heap.size := by
      intro vs
      induction vs with
      | nil => intros; rfl
      | cons u vs ih =>
        intro o w
        show ((w.setCell ⟨B, o, none⟩ u).setCells B (o + 1) vs).heap.size = _
        rw [ih]
        simp
    exact this _ _ _
  refine ⟨_, hr, ⟨hbelow, h.new, by rw [hsame]; exact h.lt, fun j hj => ?_, fun j hj => ?_, fun j hj => ?_, by rw [List.length_append]; exact hfit, fun x hx => (List.mem_append.1 hx).elim (h.small x) (h1 x)⟩⟩
  · by_cases hi : acc.length ≤ j ∧ j < acc.length + l.length
    · obtain ⟨d, rfl⟩ : ∃ d, j = acc.length + d := ⟨j - acc.length, by omega⟩
      rw [hin d (by rw [hmap]; omega)]
      rfl
    · rw [hout ⟨B, j, none⟩ (fun _ _ => by rw [hmap]; show j < _ ∨ _ ≤ j; omega)]
      exact h.there j hj
  · rw [World.frozen?_setCells]
    exact h.free j hj
  · rw [List.length_append] at hj
    by_cases hi : j < acc.length
    · rw [hout ⟨B, j, none⟩ (fun _ _ => .inl hi), h.holds j hi, List.getD_eq_getElem?_getD, List.getD_eq_getElem?_getD, List.getElem?_append_left hi]
    · obtain ⟨d, rfl⟩ : ∃ d, j = acc.length + d := ⟨j - acc.length, by omega⟩
      rw [hin d (by rw [hmap]; omega), List.getD_eq_getElem?_getD, List.getElem?_append_right (by omega), Nat.add_sub_cancel_left, List.getElem?_eq_getElem (by omega)]
      simp [row8]
theorem mul_any (n : Nat) (hn : n ≤ 1000) (w : World) : Calls Try.prog 62 #[.int .u64 (n : Int), .int .u64 2] w fun e w' => e = .returned (.tuple #[.int .u64 0, .int .u64 ((n * 2 : Nat) : Int)]) ∧ w = w' := by
  refine (Try.bits_Mul n 2 (by omega) (by omega) w).mono fun e w' ⟨he, hw⟩ => ⟨?_, hw.symm⟩
  rw [he, show n * 2 / 18446744073709551616 = 0 from by omega, show n * 2 % 18446744073709551616 = n * 2 from by omega]
  rfl
set_option maxHeartbeats 4000000 in
theorem twice_any (v : Value) (l : List Nat) (w : World) (h : Bytes w v l) (hl : l.length ≤ 256) :
    Calls Try.prog 54 #[v, .int .i64 2] w fun e w' => ∃ u, e = .returned u ∧ Mine w' w.heap.size u (l ++ l) ∧ Below w.heap.size w w' := by
  have H := Lib.hid h
  obtain ⟨_, _, A, c, rfl, hc, _⟩ := h.parts
  obtain ⟨n, hn⟩ : ∃ n, l.length = n := ⟨_, rfl⟩
  rw [hn] at hl hc H ⊢
  have HN := Lib.hid hn
  clear h hn
  obtain ⟨m, hm⟩ : ∃ m, n * 2 = m := ⟨_, rfl⟩
  have hm512 : m ≤ 512 := by omega
  have hnm : n ≤ m := by omega
  have HMM : Hid (m = n + n) := Lib.hid (by omega)
  have HMUL : Hid (∀ W, Calls Try.prog 62 #[.int .u64 (n : Int), .int .u64 2] W fun e w' => e = .returned (.tuple #[.int .u64 0, .int .u64 (m : Int)]) ∧ W = w') := Lib.hid (fun W => by rw [← hm]; exact mul_any n (by omega) W)
  clear hm
  rcases Nat.eq_zero_or_pos n with h0 | h0
  · subst h0
    obtain rfl : m = 0 := by have := HMM.out; omega
    have HE : Hid (l = []) := Lib.hid (List.eq_nil_of_length_eq_zero HN.out)
    go_enter Try.func54, Try.ntmps54
    go_wp2_with fail
    refine (HMUL.out _).mono ?_
    rintro e w2 ⟨rfl, rfl⟩
    go_wp2
    go_ret
    refine ⟨_, rfl, ?_, (Below.refl _ _).alloc (Nat.le_refl _) _⟩
    rw [HE.out]
    exact (mine_row w [] #[] 5 (0, 0) (by simp) (by simp) (by simp) (by simp) (by simp) _ (Nat.le_refl _))
  · have h0I : ((n : Int) == 0) = false := by simp; omega
    have h00 : ((m : Int) == 0) = false := by simp; omega
    have hmn : ¬ m = n := by have := HMM.out; omega
    have hlt : (n : Int) < (m : Int) := by have := HMM.out; omega
    have hb1 : ¬ (8192 : Int) < (m : Int) := by omega
    have hb2 : ¬ (9223372036854775807 : Int) < (m : Int) := by omega
    have hmin : min (n : Int) (m : Int) = (n : Int) := by omega
    have hsum : ¬ (n : Int) + (n : Int) < (m : Int) := by have := HMM.out; omega
    obtain ⟨cs, hrunM, hle, _⟩ := Lib.run_makeNoZero (P := Try.prog) w #[3] 23 5 Try.underlying23 m (by omega)
    have hcall : (callFunc 63 #[.int .i64 (m : Int)]).run Try.prog w = .ok (.value (.slice (some ⟨w.heap.size, 0, none⟩) m cs.size)) ((w.alloc (.cells cs 5)).drewN 2) := by
      rw [run_callFunc_extern Try.func63 (by kernel_rfl) (by kernel_rfl) (by kernel_rfl) (e := Extern.BytealgMakeNoZero.makeNoZero #[3] #[23]) (by kernel_rfl), hrunM]
      rfl
    clear hrunM
    have i0 : (0 : Int) ≤ (m : Int) := by omega
    have i1 : (m : Int) ≤ (cs.size : Int) := by omega
    have F0 : Fill w ((w.alloc (.cells cs 5)).drewN 2) w.heap.size m [] := by
      refine ⟨⟨rfl, rfl, rfl, by simp, fun k hk => Below.heap_alloc w _ k hk⟩, Nat.le_refl _, by simp, fun j hj => ?_, fun j hj => ?_, by simp, by simp, by simp⟩
      · rw [World.cell?_drewN, World.cell?_alloc_mark, Array.getElem?_eq_getElem (by omega)]
        rfl
      · rw [World.frozen?_drewN, World.frozen?_alloc_mark]
        simp
    obtain ⟨w2, hr1, F1⟩ := F0.copy (ty := 3) (H.out.under F0.below) (by rw [HN.out]; simp; omega) (by rw [HN.out]; exact h0) m rfl
    rw [HN.out, List.length_nil] at hr1
    rw [List.nil_append] at F1
    have FD : Fill w w2.drew w.heap.size m l := F1.heap rfl F1.below.drew
    have hsrc := FD.part (k := n) (c := m) (by rw [HN.out]; exact Nat.le_refl _) hnm (by omega)
    rw [List.take_of_length_le (by rw [HN.out]; exact Nat.le_refl _)] at hsrc
    obtain ⟨w3, hr2, F2⟩ := FD.copy (ty := 3) hsrc (by rw [HN.out]; have := HMM.out; omega) (by rw [HN.out]; exact h0) (m - n) (by rw [HN.out])
    rw [HN.out] at hr2
    have HF := Lib.hid (F2.mine (by rw [List.length_append, HN.out]; exact HMM.out.symm) (by unfold maxLen; omega))
    have HB := Lib.hid F2.below
    clear F0 F1 FD hsrc F2
    go_enter Try.func54, Try.ntmps54
    go_wp2_with fail
    refine (HMUL.out _).mono ?_
    rintro e wq ⟨rfl, rfl⟩
    go_wp2_with (at_builtin; refine Lib.wpList_copy_run _ rfl _ _ 23 23 rfl _ _ rfl rfl hr1 ?_)
    refine wp_loop_rounds 2 ?_
    rw [rounds_succ]
    go_wp2_with fail
    go_region
    go_wp2
    rw [rounds_succ]
    go_wp2
    all_goals (go_ret; exact ⟨_, rfl, HF.out, HB.out⟩)
end Go.Proofs.Ytldnpedegcbglaa
