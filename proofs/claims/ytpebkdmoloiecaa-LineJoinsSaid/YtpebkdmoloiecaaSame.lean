/- Lines of words as they read; two rows of them that are the same are told so. -/
import Derived.Test.YtpebkdmoloiecaaWords
import Derived.RegionTactic
import Derived.BigQuiet
import Derived.Deep.QuietTactic
namespace Go.Proofs.Ytpebkdmoloiecaa
open Go.ChangeShapes Go.WideShapes Go.ChangeAt Go.RowKit

/-- A slice of words that reads as a row. -/
def RdW (w : World) (v : Value) (R : List Ln.W) : Prop :=
  ∃ A c, v = .slice A R.length c ∧ R.length ≤ c ∧ R.length ≤ maxLen ∧ (0 < R.length → ∃ b off, A = some ⟨b, off, none⟩ ∧ ∀ k (h : k < R.length), w.cell? ⟨b, off + k * 4, none⟩ = some (.string (str (R[k]'h).text)) ∧ w.cell? ⟨b, off + k * 4 + 1, none⟩ = some (.int .i64 (R[k]'h).line) ∧ w.cell? ⟨b, off + k * 4 + 2, none⟩ = some (.int .i64 (R[k]'h).col) ∧ w.cell? ⟨b, off + k * 4 + 3, none⟩ = some (.bool (R[k]'h).q))
/-- A slice of slices of words that reads as rows. -/
def RdL (w : World) (v : Value) (LL : List (List Ln.W)) : Prop :=
  ∃ A c, v = .slice A LL.length c ∧ LL.length ≤ c ∧ LL.length ≤ maxLen ∧ (0 < LL.length → ∃ b off, A = some ⟨b, off, none⟩ ∧ ∀ i (h : i < LL.length), ∃ u, w.cell? ⟨b, off + i, none⟩ = some u ∧ RdW w u (LL[i]'h))
theorem OwnW.rd {w : World} {base : Nat} {v : Value} {R : List Ln.W} (h : OwnW w base v R) : RdW w v R := by
  have h' := h
  rcases h.2 with ⟨rfl, h0⟩ | ⟨g, cap, cur, rfl, hb, hg, hn, hm, hs, ht⟩
  · exact ⟨none, 0, by rw [h0], by omega, by unfold maxLen; omega, fun h => by omega⟩
  · refine ⟨_, cap, rfl, hn, Nat.le_trans hn hm, fun _ => ⟨g, 0, rfl, fun k hk => ?_⟩⟩
    have hc : ∀ j, j < 4 → w.cell? ⟨g, 0 + k * 4 + j, none⟩ = (cellsW (R[k]'hk))[j]? := fun j hj => by
      rw [show 0 + k * 4 + j = k * 4 + j from by omega, World.ownsRow.cellAt h' (k * 4 + j) (by omega), rowW_at R k j hk hj]
    exact ⟨hc 0 (by omega), hc 1 (by omega), hc 2 (by omega), hc 3 (by omega)⟩
theorem St.rd {w : World} {base : Nat} {v u : Value} {LL : List (List Ln.W)} {R : List Ln.W} (h : St w base v LL u R) : RdL w v LL := by
  obtain ⟨us, h1, h2, h3, h4, _⟩ := h
  have h2' := h2
  rcases h2.2 with ⟨rfl, h0⟩ | ⟨g, cap, cur, rfl, hb, hg, hn, hm, hs, ht⟩
  · exact ⟨none, 0, by rw [h0], by omega, by unfold maxLen; omega, fun h => by omega⟩
  · refine ⟨_, cap, rfl, hn, Nat.le_trans hn hm, fun _ => ⟨g, 0, rfl, fun i hi => ⟨us.getD i undef, ?_, ?_⟩⟩⟩
    · rw [show 0 + i = i from by omega, World.ownsRow.cellAt h2' i (by omega), List.getD_eq_getElem?_getD, List.getElem?_eq_getElem (by omega)]
      rfl
    · have := (h4 i hi).rd
      rw [List.getD_eq_getElem?_getD (l := LL), List.getElem?_eq_getElem hi] at this
      exact this
theorem RdW.under {w w' : World} {v : Value} {R : List Ln.W} (h : RdW w v R) (hb : Below w.heap.size w w') : RdW w' v R := by
  obtain ⟨A, c, rfl, h1, h2, h3⟩ := h
  refine ⟨A, c, rfl, h1, h2, fun h0 => ?_⟩
  obtain ⟨b, off, rfl, hc⟩ := h3 h0
  exact ⟨b, off, rfl, fun k hk => ⟨cell_later hb (hc k hk).1, cell_later hb (hc k hk).2.1, cell_later hb (hc k hk).2.2.1, cell_later hb (hc k hk).2.2.2⟩⟩
theorem RdL.under {w w' : World} {v : Value} {LL : List (List Ln.W)} (h : RdL w v LL) (hb : Below w.heap.size w w') : RdL w' v LL := by
  obtain ⟨A, c, rfl, h1, h2, h3⟩ := h
  refine ⟨A, c, rfl, h1, h2, fun h0 => ?_⟩
  obtain ⟨b, off, rfl, hc⟩ := h3 h0
  refine ⟨b, off, rfl, fun i hi => ?_⟩
  obtain ⟨u, hu1, hu2⟩ := hc i hi
  exact ⟨u, cell_later hb hu1, hu2.under hb⟩
set_option maxRecDepth 100000 in
set_option maxHeartbeats 4000000 in
theorem refsame_any (v1 v2 : Value) (LL : List (List Ln.W)) (w : World) (h1 : RdL w v1 LL) (h2 : RdL w v2 LL) :
    Calls Try.prog 11 #[v1, v2] w fun e w' => e = .returned (.bool true) ∧ ∃ nq, w' = w.drewN nq := by
  obtain ⟨A1, c1, rfl, h11, h12, h13⟩ := h1
  obtain ⟨A2, c2, rfl, h21, h22, h23⟩ := h2
  obtain ⟨N, hN⟩ : ∃ N, LL.length = N := ⟨_, rfl⟩
  rw [hN] at h11 h21 h12
  have HN := Lib.hid hN
  have H1 := Lib.hid h13
  have H2 := Lib.hid h23
  unfold maxLen at h12
  rw [hN]
  clear h13 h23 hN h22
  go_enter Try.func11, Try.ntmps11
  go_wp2_with fail
  go_loopw [5] (fun i wr => ∃ k : Nat, k ≤ N ∧ i = .int .i64 (k : Int) ∧ ∃ nq, wr = w.drewN nq) (fun i _ => N - (intOf i).toNat)
  case atStart => exact ⟨0, by omega, rfl, 0, rfl⟩
  case round =>
    obtain ⟨k, hk, rfl, nq, rfl⟩ := hrel
    by_cases hlt : k < N
    · have hkn : (k : Int) < (N : Int) := by omega
      obtain ⟨b1, o1, rfl, hc1⟩ := H1.out (by rw [HN.out]; omega)
      obtain ⟨b2, o2, rfl, hc2⟩ := H2.out (by rw [HN.out]; omega)
      obtain ⟨u1, hu1, hw1⟩ := hc1 k (by rw [HN.out]; exact hlt)
      obtain ⟨u2, hu2, hw2⟩ := hc2 k (by rw [HN.out]; exact hlt)
      obtain ⟨R, hR⟩ : ∃ R, LL[k]'(by rw [HN.out]; exact hlt) = R := ⟨_, rfl⟩
      rw [hR] at hw1 hw2
      clear hc1 hc2 hR
      obtain ⟨B1, d1, rfl, e11, e12, e13⟩ := hw1
      obtain ⟨B2, d2, rfl, e21, e22, e23⟩ := hw2
      obtain ⟨M, hM⟩ : ∃ M, R.length = M := ⟨_, rfl⟩
      rw [hM] at e11 e12 e21 hu1 hu2
      have HM := Lib.hid hM
      have E1 := Lib.hid e13
      have E2 := Lib.hid e23
      unfold maxLen at e12
      clear hM e13 e23 e22
      go_wp2
      go_quiet (fail)
      go_wp2_with fail
      go_loopw [6] (fun i wr => ∃ j : Nat, j ≤ M ∧ i = .int .i64 (j : Int) ∧ ∃ nq, wr = w.drewN nq) (fun i _ => M - (intOf i).toNat)
      case atStart =>
        refine ⟨0, by omega, rfl, ?_⟩
        first
          | exact ⟨_, rfl⟩
          | exact ⟨_, World.drewN_drewN _ _ _⟩
      case round =>
        obtain ⟨j, hj, rfl, nr, rfl⟩ := hrel
        by_cases hjl : j < M
        · have hjm : (j : Int) < (M : Int) := by omega
          have hjR : j < R.length := by rw [HM.out]; exact hjl
          obtain ⟨b3, o3, rfl, hc1⟩ := E1.out (by rw [HM.out]; omega)
          obtain ⟨b4, o4, rfl, hc2⟩ := E2.out (by rw [HM.out]; omega)
          obtain ⟨a0, a1, a2, a3⟩ := hc1 j hjR
          obtain ⟨d0, d1, d2, d3⟩ := hc2 j hjR
          clear hc1 hc2
          obtain ⟨x, hx⟩ : ∃ x, R[j]'hjR = x := ⟨_, rfl⟩
          rw [hx] at a0 a1 a2 a3 d0 d1 d2 d3
          clear hx
          go_wp2
          go_quiet (fail)
          go_wp2
          go_roundw
          case rel => exact ⟨j + 1, by omega, by go_num, _, rfl⟩
          case measure => simp [intOf]; omega
        · obtain rfl : j = M := by omega
          go_wp2
          go_roundw
          case rel => exact ⟨k + 1, by omega, by go_num, _, rfl⟩
          case measure => simp [intOf]; omega
    · obtain rfl : k = N := by omega
      go_wp2
      go_ret
      exact ⟨rfl, nq, rfl⟩
end Go.Proofs.Ytpebkdmoloiecaa
