/- LineForms: whichever row is picked, its text has as many lines and words, or is wrong where, as is written beside it. -/
import Derived.Test.YtpebkdmoloiecaaLineAwake
import Derived.Deep.RegionHeld3
import Derived.Deep.DeepCutAuto
import Derived.BigQuiet
import Derived.Deep.QuietTactic
import Derived.RegionTactic
import Derived.Deep.RegionWith
namespace Go.Proofs.Ytpebkdmoloiecaa
open Go.ChangeShapes Go.WideShapes Go.ChangeAt Go.RowKit

/-- How many words the first rows have. -/
def words (LL : List (List Ln.W)) : Nat := (LL.map List.length).sum
/-- A row of the table. -/
def rowOk (l : List Nat) (nl nw k ln col : Nat) : Bool := l.all (fun c => decide (c < 256)) && (decide (l.length ≤ 100) && decide (nl ≤ 100) && decide (nw ≤ 100)) && match Ln.split l with
  | .ok LL => decide (LL.length = nl) && decide (words LL = nw) && decide (k = 0) && decide (ln = 0) && decide (col = 0)
  | .bad k' ln' col' => decide (nl = 0) && decide (nw = 0) && decide (k = k') && decide (ln = ln') && decide (col = col')
theorem words_take {LL : List (List Ln.W)} {i : Nat} (h : i < LL.length) : words (LL.take (i + 1)) = words (LL.take i) + (LL[i]'h).length := by
  unfold words
  rw [List.take_add_one, List.getElem?_eq_getElem h, List.map_append, List.sum_append]
  simp only [Option.toList_some, List.map_cons, List.map_nil, List.sum_cons, List.sum_nil, Nat.add_zero]
theorem words_le : ∀ (LL : List (List Ln.W)) (j : Nat), words (LL.take j) ≤ words LL
  | [], _ => by simp
  | R :: LL, 0 => by simp [words]
  | R :: LL, j + 1 => by
    have := words_le LL j
    unfold words at this ⊢
    simp only [List.take_succ_cons, List.map_cons, List.sum_cons]
    omega
theorem rowOk_of {l : List Nat} {nl nw k ln col : Nat} (h : rowOk l nl nw k ln col = true) : (∀ c ∈ l, c < 256) ∧ (l.length ≤ 100 ∧ nl ≤ 100 ∧ nw ≤ 100) ∧ ∀ {LL : List (List Ln.W)} {k' ln' col' : Nat}, ((Ln.split l = .ok LL ∧ k' = 0 ∧ ln' = 0 ∧ col' = 0) ∨ (Ln.split l = .bad k' ln' col' ∧ LL = [])) → LL.length = nl ∧ words LL = nw ∧ k' = k ∧ ln' = ln ∧ col' = col := by
  unfold rowOk at h
  rw [Bool.and_eq_true_iff, Bool.and_eq_true_iff] at h
  obtain ⟨⟨h1, h2⟩, h3⟩ := h
  simp only [Bool.and_eq_true_iff, decide_eq_true_eq] at h2
  refine ⟨fun c hc => by simpa using List.all_eq_true.1 h1 c hc, ⟨h2.1.1, h2.1.2, h2.2⟩, fun hR => ?_⟩
  rcases hR with ⟨e, rfl, rfl, rfl⟩ | ⟨e, rfl⟩
  · rw [e] at h3
    simp only [Bool.and_eq_true_iff, decide_eq_true_eq] at h3
    obtain ⟨⟨⟨⟨a, b⟩, c⟩, d⟩, f⟩ := h3
    exact ⟨a, b, c.symm, d.symm, f.symm⟩
  · rw [e] at h3
    simp only [Bool.and_eq_true_iff, decide_eq_true_eq] at h3
    obtain ⟨⟨⟨⟨a, b⟩, c⟩, d⟩, f⟩ := h3
    exact ⟨a.symm, b.symm, c.symm, d.symm, f.symm⟩
set_option maxRecDepth 100000 in
set_option maxHeartbeats 8000000 in
theorem forms_at (a : Int) (m : Int) (hm : (bits .and .i64 a 255).tmod 19 = m) (h8 : m = 0 ∨ m = 1 ∨ m = 2 ∨ m = 3 ∨ m = 4 ∨ m = 5 ∨ m = 6 ∨ m = 7 ∨ m = 8 ∨ m = 9 ∨ m = 10 ∨ m = 11 ∨ m = 12 ∨ m = 13 ∨ m = 14 ∨ m = 15 ∨ m = 16 ∨ m = 17 ∨ m = 18) (w : World) :
    Calls Try.prog 6 #[.int .i64 a] w fun e w' => e = .returned (.bool true) ∧ Below w.heap.size w w' := by
  have kb := fun (w : World) (s : ByteArray) => run_bytes_of_string (P := Try.prog) w 9 22 5 s Try.underlying9 Try.underlying22 Try.underlying5
  go_enter Try.func6, Try.ntmps6
  go_upto_region 2 with fail
  go_cut [4] (fun s4 wx => ∃ (g : Nat) (l : List Nat) (nl nw k ln col : Nat), s4 = .pointer (some ⟨g, 0, none⟩) ∧ wx.cell? ⟨g, 0, none⟩ = some (.string (str l)) ∧ wx.cell? ⟨g, 1, none⟩ = some (.int .i64 nl) ∧ wx.cell? ⟨g, 2, none⟩ = some (.int .i64 nw) ∧
    wx.cell? ⟨g, 3, none⟩ = some (.int .i64 k) ∧ wx.cell? ⟨g, 4, none⟩ = some (.int .i64 ln) ∧ wx.cell? ⟨g, 5, none⟩ = some (.int .i64 col) ∧ rowOk l nl nw k ln col = true ∧ Below w.heap.size w wx)
  case first =>
    rcases h8 with rfl | rfl | rfl | rfl | rfl | rfl | rfl | rfl | rfl | rfl | rfl | rfl | rfl | rfl | rfl | rfl | rfl | rfl | rfl
    · go_wp2_with fail
      go_meet
      exact ⟨w.heap.size + 1, [], 0, 0, 0, 0, 0, rfl, by simp [go_sem]; rfl, by simp [go_sem], by simp [go_sem], by simp [go_sem], by simp [go_sem], by simp [go_sem], by rfl, ((Below.refl _ _).alloc (Nat.le_refl _) _).alloc (by simp) _⟩
    · go_wp2_with fail
      go_meet
      exact ⟨w.heap.size + 1, [32, 9, 10, 35, 120, 10], 0, 0, 0, 0, 0, rfl, by simp [go_sem]; rfl, by simp [go_sem], by simp [go_sem], by simp [go_sem], by simp [go_sem], by simp [go_sem], by rfl, ((Below.refl _ _).alloc (Nat.le_refl _) _).alloc (by simp) _⟩
    · go_wp2_with fail
      go_meet
      exact ⟨w.heap.size + 1, [97, 32, 98], 1, 2, 0, 0, 0, rfl, by simp [go_sem]; rfl, by simp [go_sem], by simp [go_sem], by simp [go_sem], by simp [go_sem], by simp [go_sem], by rfl, ((Below.refl _ _).alloc (Nat.le_refl _) _).alloc (by simp) _⟩
    · go_wp2_with fail
      go_meet
      exact ⟨w.heap.size + 1, [97, 10, 98], 2, 2, 0, 0, 0, rfl, by simp [go_sem]; rfl, by simp [go_sem], by simp [go_sem], by simp [go_sem], by simp [go_sem], by simp [go_sem], by rfl, ((Below.refl _ _).alloc (Nat.le_refl _) _).alloc (by simp) _⟩
    · go_wp2_with fail
      go_meet
      exact ⟨w.heap.size + 1, [97, 35, 98, 32, 99], 1, 2, 0, 0, 0, rfl, by simp [go_sem]; rfl, by simp [go_sem], by simp [go_sem], by simp [go_sem], by simp [go_sem], by simp [go_sem], by rfl, ((Below.refl _ _).alloc (Nat.le_refl _) _).alloc (by simp) _⟩
    · go_wp2_with fail
      go_meet
      exact ⟨w.heap.size + 1, [97, 32, 35, 98, 32, 99], 1, 1, 0, 0, 0, rfl, by simp [go_sem]; rfl, by simp [go_sem], by simp [go_sem], by simp [go_sem], by simp [go_sem], by simp [go_sem], by rfl, ((Below.refl _ _).alloc (Nat.le_refl _) _).alloc (by simp) _⟩
    · go_wp2_with fail
      go_meet
      exact ⟨w.heap.size + 1, [97, 58, 61, 98], 1, 4, 0, 0, 0, rfl, by simp [go_sem]; rfl, by simp [go_sem], by simp [go_sem], by simp [go_sem], by simp [go_sem], by simp [go_sem], by rfl, ((Below.refl _ _).alloc (Nat.le_refl _) _).alloc (by simp) _⟩
    · go_wp2_with fail
      go_meet
      exact ⟨w.heap.size + 1, [34, 97, 34, 34, 98, 34], 1, 2, 0, 0, 0, rfl, by simp [go_sem]; rfl, by simp [go_sem], by simp [go_sem], by simp [go_sem], by simp [go_sem], by simp [go_sem], by rfl, ((Below.refl _ _).alloc (Nat.le_refl _) _).alloc (by simp) _⟩
    · go_wp2_with fail
      go_meet
      exact ⟨w.heap.size + 1, [97, 34, 98, 34, 99], 1, 3, 0, 0, 0, rfl, by simp [go_sem]; rfl, by simp [go_sem], by simp [go_sem], by simp [go_sem], by simp [go_sem], by simp [go_sem], by rfl, ((Below.refl _ _).alloc (Nat.le_refl _) _).alloc (by simp) _⟩
    · go_wp2_with fail
      go_meet
      exact ⟨w.heap.size + 1, [36, 120, 59], 1, 2, 0, 0, 0, rfl, by simp [go_sem]; rfl, by simp [go_sem], by simp [go_sem], by simp [go_sem], by simp [go_sem], by simp [go_sem], by rfl, ((Below.refl _ _).alloc (Nat.le_refl _) _).alloc (by simp) _⟩
    · go_wp2_with fail
      go_meet
      exact ⟨w.heap.size + 1, [34, 97, 58, 98, 35, 99, 34], 1, 1, 0, 0, 0, rfl, by simp [go_sem]; rfl, by simp [go_sem], by simp [go_sem], by simp [go_sem], by simp [go_sem], by simp [go_sem], by rfl, ((Below.refl _ _).alloc (Nat.le_refl _) _).alloc (by simp) _⟩
    · go_wp2_with fail
      go_meet
      exact ⟨w.heap.size + 1, [34], 0, 0, 2, 1, 1, rfl, by simp [go_sem]; rfl, by simp [go_sem], by simp [go_sem], by simp [go_sem], by simp [go_sem], by simp [go_sem], by rfl, ((Below.refl _ _).alloc (Nat.le_refl _) _).alloc (by simp) _⟩
    · go_wp2_with fail
      go_meet
      exact ⟨w.heap.size + 1, [120, 10, 34, 97, 10], 0, 0, 2, 2, 1, rfl, by simp [go_sem]; rfl, by simp [go_sem], by simp [go_sem], by simp [go_sem], by simp [go_sem], by simp [go_sem], by rfl, ((Below.refl _ _).alloc (Nat.le_refl _) _).alloc (by simp) _⟩
    · go_wp2_with fail
      go_meet
      exact ⟨w.heap.size + 1, [195, 169], 0, 0, 1, 1, 1, rfl, by simp [go_sem]; rfl, by simp [go_sem], by simp [go_sem], by simp [go_sem], by simp [go_sem], by simp [go_sem], by rfl, ((Below.refl _ _).alloc (Nat.le_refl _) _).alloc (by simp) _⟩
    · go_wp2_with fail
      go_meet
      exact ⟨w.heap.size + 1, [34, 195, 169, 34], 0, 0, 1, 1, 2, rfl, by simp [go_sem]; rfl, by simp [go_sem], by simp [go_sem], by simp [go_sem], by simp [go_sem], by simp [go_sem], by rfl, ((Below.refl _ _).alloc (Nat.le_refl _) _).alloc (by simp) _⟩
    · go_wp2_with fail
      go_meet
      exact ⟨w.heap.size + 1, [34, 97, 9, 98, 34], 0, 0, 1, 1, 3, rfl, by simp [go_sem]; rfl, by simp [go_sem], by simp [go_sem], by simp [go_sem], by simp [go_sem], by simp [go_sem], by rfl, ((Below.refl _ _).alloc (Nat.le_refl _) _).alloc (by simp) _⟩
    · go_wp2_with fail
      go_meet
      exact ⟨w.heap.size + 1, [97, 13, 98], 0, 0, 1, 1, 2, rfl, by simp [go_sem]; rfl, by simp [go_sem], by simp [go_sem], by simp [go_sem], by simp [go_sem], by simp [go_sem], by rfl, ((Below.refl _ _).alloc (Nat.le_refl _) _).alloc (by simp) _⟩
    · go_wp2_with fail
      go_meet
      exact ⟨w.heap.size + 1, [35, 32, 195, 169], 0, 0, 0, 0, 0, rfl, by simp [go_sem]; rfl, by simp [go_sem], by simp [go_sem], by simp [go_sem], by simp [go_sem], by simp [go_sem], by rfl, ((Below.refl _ _).alloc (Nat.le_refl _) _).alloc (by simp) _⟩
    · go_wp2_with fail
      go_meet
      exact ⟨w.heap.size + 1, [34, 32, 195, 169], 0, 0, 2, 1, 1, rfl, by simp [go_sem]; rfl, by simp [go_sem], by simp [go_sem], by simp [go_sem], by simp [go_sem], by simp [go_sem], by rfl, ((Below.refl _ _).alloc (Nat.le_refl _) _).alloc (by simp) _⟩
  case rest =>
    obtain ⟨g, l, nl, nw, k, ln, col, rfl, q0, q1, q2, q3, q4, q5, hrow, hb⟩ := hcut
    obtain ⟨wx, rfl⟩ : ∃ wx : World, wx = wc := ⟨_, rfl⟩
    have HW := Lib.hid (rowOk_of hrow)
    clear hrow
    have hl : (str l).data.toList.map (·.toNat) = l := by rw [str_data, str_nat HW.out.1]
    go_wp2_with fail
    refine (split_any _ l _ (Bytes.drew (bytes_of_text wx (str l) l _ rfl _ _ hl (grownCap_ge _ _ _ _) (by rw [str_size]; have := HW.out.2.1.1; omega) _)) (by have := HW.out.2.1.1; omega)).mono ?_
    rintro e w1 ⟨ht, hb1⟩
    obtain ⟨v, LL, k', ln', col', rfl, hrd, hR⟩ := ht.rd
    obtain ⟨hn1, hn2, rfl, rfl, rfl⟩ := HW.out.2.2 hR
    have hX : Below wx.heap.size wx w1 := (((Below.refl _ wx).alloc (Nat.le_refl _) _).drew).trans (hb1.mono (by simp))
    have p0 := cell_later hX q0
    have p1 := cell_later hX q1
    have p2 := cell_later hX q2
    have p3 := cell_later hX q3
    have p4 := cell_later hX q4
    have p5 := cell_later hX q5
    have hbb := hb.trans (hX.mono hb.size)
    obtain ⟨A, c, rfl, hlc, hlm, hrows⟩ := hrd
    rw [hn1] at hlc hlm ⊢
    have HN1 := Lib.hid hn1
    have HN2 := Lib.hid hn2
    have HROWS := Lib.hid hrows
    have HBB := Lib.hid hbb
    have old : ∀ {a : Addr} {v : Value}, w1.cell? a = some v → ∀ o, (w1.alloc o).cell? a = some v := fun {a v} h o => (World.cell?_alloc_lt w1 o a (World.block_lt_of_cell? _ _ h)).trans h
    have z1 := old p1
    have z2 := old p2
    have z3 := old p3
    have z4 := old p4
    have z5 := old p5
    have HNL : Hid (nl ≤ 100 ∧ nw ≤ 100) := Lib.hid HW.out.2.1.2
    unfold maxLen at hlm
    clear ht hR hX hb1 hb hn1 hn2 hrows hbb q0 q1 q2 q3 q4 q5 p0 p1 p2 p3 p4 p5 old hl
    go_wp2_with fail
    go_loopw [7, 66] (fun nv i wr => ∃ j : Nat, j ≤ nl ∧ i = .int .i64 j ∧ nv = .int .i64 (words (LL.take j) : Nat) ∧ w1.alloc (.cells #[.int .i64 k', .int .i64 ln', .int .i64 col'] 29) = wr) (fun _ i _ => nl - (intOf i).toNat)
    case atStart => exact ⟨0, by omega, rfl, rfl, rfl⟩
    case round =>
      obtain ⟨j, hj, rfl, rfl, rfl⟩ := hrel
      by_cases hlt : j < nl
      · have hjn : (j : Int) < (nl : Int) := by omega
        obtain ⟨b, off, rfl, hrw⟩ := HROWS.out (by rw [HN1.out]; omega)
        have hjl : j < LL.length := by rw [HN1.out]; exact hlt
        obtain ⟨u, hu, hwr⟩ := hrw j hjl
        have hw1 := words_take hjl
        have hw2 := words_le LL (j + 1)
        obtain ⟨RR, hRR⟩ : ∃ RR, LL[j]'hjl = RR := ⟨_, rfl⟩
        rw [hRR] at hwr hw1
        obtain ⟨B, d, rfl, hd, -, -⟩ := hwr
        obtain ⟨M, hM⟩ : ∃ M, RR.length = M := ⟨_, rfl⟩
        obtain ⟨W, hW⟩ : ∃ W, words (LL.take j) = W := ⟨_, rfl⟩
        rw [hM] at hu hd hw1
        rw [hW] at hw1 ⊢
        rw [hw1, HN2.out] at hw2
        have hWM : W + M ≤ 100 := Nat.le_trans hw2 HNL.out.2
        have hnl : nl ≤ 100 := HNL.out.1
        have HW1 : Hid (words (LL.take (j + 1)) = W + M) := Lib.hid hw1
        have hu2 : ∀ o, (w1.alloc o).cell? ⟨b, off + j, none⟩ = some (.slice B M d) := fun o => (World.cell?_alloc_lt w1 o _ (World.block_lt_of_cell? _ _ hu)).trans hu
        clear hrw hRR hM hW hw1 hw2 hu z1 z2 z3 z4 z5 hm h8 kb
        go_wp2
        go_roundw
        case rel => exact ⟨j + 1, by omega, by go_num, by rw [HW1.out]; go_num, trivial⟩
        case measure => simp [intOf]; omega
      · obtain rfl : j = nl := by omega
        have hnw : words (LL.take j) = nw := by rw [List.take_of_length_le (by rw [HN1.out]; exact Nat.le_refl _), HN2.out]
        rw [hnw]
        clear hm h8 kb hnw
        go_wp2_with fail
        refine (awake_any _).mono ?_
        rintro e w2 ⟨rfl, hb2⟩
        have hb3 := (HBB.out.alloc HBB.out.size _).trans (hb2.mono (HBB.out.alloc HBB.out.size _).size)
        clear z1 z2 z3 z4 z5 hb2
        go_wp2
        go_ret
        exact ⟨rfl, hb3⟩
end Go.Proofs.Ytpebkdmoloiecaa
