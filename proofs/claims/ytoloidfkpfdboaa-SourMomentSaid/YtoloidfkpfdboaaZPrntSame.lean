/- Are two rows of rows of bytes the same? And two rows of bytes, newly laid. -/
import Derived.Test.YtoloidfkpfdboaaZRowsB
import Derived.Test.YtoloidfkpfdboaaZ03
import Derived.RegionTactic
import Derived.BigQuiet
import Derived.Deep.QuietTactic
import Derived.Deep.DeepCutAuto
import Derived.Deep.LoopGhost
import Derived.IntWalk
namespace Go.Proofs.Ytoloidfkpfdboaa
set_option maxRecDepth 100000
open Go.ChangeShapes Go.WideShapes Go.ChangeAt Go.RowKit

theorem pbelow_drewN (w : World) (n : Nat) : Below w.heap.size w (w.drewN n) := ⟨rfl, rfl, rfl, Nat.le_refl _, fun _ _ => rfl⟩
theorem rsame_next {A B : List (List Nat)} {n k : Nat} (ha : A.length = n) (hb : B.length = n) (hk : k < n) (h : A.take k = B.take k) (he : A.getD k [] = B.getD k []) : A.take (k + 1) = B.take (k + 1) := by
  rw [List.take_succ_eq_append_getElem (by omega), List.take_succ_eq_append_getElem (by omega), h]
  rw [List.getD_eq_getElem?_getD, List.getD_eq_getElem?_getD, List.getElem?_eq_getElem (by omega), List.getElem?_eq_getElem (by omega)] at he
  simp at he
  rw [he]
set_option maxHeartbeats 4000000 in
theorem samerows_any (v u : Value) (A B : List (List Nat)) (w : World) (h1 : Rows2 w v A) (h2 : Rows2 w u B) :
    Calls Try.prog 13 #[v, u] w fun e w' => e = .returned (.bool (decide (A = B))) ∧ ∃ m, w' = w.drewN m := by
  have H1 := Lib.hid h1
  have H2 := Lib.hid h2
  obtain ⟨hm, A1, c1, rfl, _, _⟩ := h1
  obtain ⟨hm2, A2, c2, rfl, _, _⟩ := h2
  obtain ⟨n, hn⟩ : ∃ n, A.length = n := ⟨_, rfl⟩
  obtain ⟨m, hmm⟩ : ∃ m, B.length = m := ⟨_, rfl⟩
  rw [hn] at H1 hm ⊢
  rw [hmm] at H2 hm2 ⊢
  have HN := Lib.hid hn
  have HM := Lib.hid hmm
  clear hn hmm
  by_cases hnm : n = m
  · subst hnm
    go_enter Try.func13, Try.ntmps13
    go_wp2_with fail
    go_loopw [5] (fun i wr => ∃ (k m : Nat), k ≤ n ∧ i = .int .i64 k ∧ Hid (A.take k = B.take k) ∧ wr = w.drewN m) (fun i _ => n - (intOf i).toNat)
    case atStart => exact ⟨0, 0, Nat.zero_le _, rfl, Lib.hid rfl, rfl⟩
    case round =>
      obtain ⟨k, m, hk, rfl, HT, hwm⟩ := hrel
      have hheap : wr.heap = w.heap := by rw [hwm]; rfl
      have HW := Lib.hid hwm
      clear hwm
      by_cases hlt : k < n
      · have hltI : (k : Int) < (n : Int) := by omega
        obtain ⟨b1, o1, u1, rfl, x1, y1⟩ := (H1.out.heap hheap).at hlt
        obtain ⟨b2, o2, u2, rfl, x2, y2⟩ := (H2.out.heap hheap).at hlt
        obtain ⟨l1, hl1⟩ : ∃ l, A.getD k [] = l := ⟨_, rfl⟩
        obtain ⟨l2, hl2⟩ : ∃ l, B.getD k [] = l := ⟨_, rfl⟩
        rw [hl1] at y1
        rw [hl2] at y2
        have t1 := fun j : Nat => run_text_at y1 (wr.drewN j) rfl
        have t2 := fun j : Nat => run_text_at y2 (wr.drewN j) rfl
        have hse := str_same y1.parts.1 y2.parts.1
        have HL1 := Lib.hid hl1
        have HL2 := Lib.hid hl2
        clear y1 y2 hheap hl1 hl2
        by_cases hd : l1 = l2
        · have HT2 : Hid (A.take (k + 1) = B.take (k + 1)) := Lib.hid (rsame_next HN.out HM.out hlt HT.out (by rw [HL1.out, HL2.out]; exact hd))
          rw [decide_eq_true hd] at hse
          clear hd
          go_wp2_with fail
          go_quiet (fail)
          go_wp2
          go_roundw
          case rel => exact ⟨k + 1, m + nq, by omega, by go_num, HT2, by rw [HW.out]; simp [World.drewN, Nat.add_assoc]⟩
          case measure => simp [intOf]; omega
        · have HV : Hid (decide (A = B) = false) := Lib.hid (decide_eq_false fun e => hd (by rw [← HL1.out, ← HL2.out, e]))
          rw [decide_eq_false hd] at hse
          clear hd
          go_wp2_with fail
          go_quiet (fail)
          go_wp2
          go_ret
          exact ⟨by rw [HV.out]; rfl, m + nq, by rw [HW.out]; simp [World.drewN, Nat.add_assoc]⟩
      · obtain rfl : k = n := by omega
        have hD : decide (A = B) = true := decide_eq_true (by
          have := HT.out
          rwa [List.take_of_length_le (by rw [HN.out]; exact Nat.le_refl _), List.take_of_length_le (by rw [HM.out]; exact Nat.le_refl _)] at this)
        have HD := Lib.hid hD
        clear hD
        go_wp2
        go_ret
        exact ⟨by rw [HD.out]; rfl, m, HW.out⟩
  · have hD : decide (A = B) = false := decide_eq_false (fun e => hnm (by rw [← HN.out, ← HM.out, e]))
    have hn2 : ((n : Int) != (m : Int)) = true := by simp; omega
    have HD := Lib.hid hD
    clear hD hnm
    go_enter Try.func13, Try.ntmps13
    go_wp2
    go_ret
    exact ⟨by rw [HD.out]; rfl, 0, rfl⟩
/-- Two rows of bytes, newly laid. -/
theorem rows2_pair {w : World} {g : Nat} {t : TypeId} {u1 u2 : Value} {l1 l2 : List Nat} (hg : w.heap[g]? = some (.cells #[u1, u2] t (0, 0))) (h1 : Bytes w u1 l1) (h2 : Bytes w u2 l2) : Rows2 w (.slice (some ⟨g, 0, none⟩) 2 2) [l1, l2] := by
  refine ⟨by simp, _, 2, rfl, Nat.le_refl _, fun _ => ⟨g, 0, rfl, fun i hi => ?_⟩⟩
  have hc : ∀ j, w.cell? ⟨g, j, none⟩ = (#[u1, u2] : Array Value)[j]? := fun j => cell_of_row w g j _ t (0, 0) hg
  have : i = 0 ∨ i = 1 := by simp at hi; omega
  rcases this with rfl | rfl
  · exact ⟨u1, hc 0, h1⟩
  · exact ⟨u2, hc 1, h2⟩
theorem pair_ins (w : World) (l1 l2 : List Nat) (m1 m2 : Nat × Nat) (t : TypeId) (h1 : ∀ c ∈ l1, c < 256) (h2 : ∀ c ∈ l2, c < 256) (k1 : l1.length ≤ 1000000) (k2 : l2.length ≤ 1000000) (W : World)
    (hW : W = ((w.alloc (.cells (l1.map fun n : Nat => Value.int .u8 (n : Int)).toArray 5 m1)).alloc (.cells (l2.map fun n : Nat => Value.int .u8 (n : Int)).toArray 5 m2)).alloc (.cells #[.slice (some ⟨w.heap.size, 0, none⟩) l1.length l1.length, .slice (some ⟨w.heap.size + 1, 0, none⟩) l2.length l2.length] t)) :
    Rows2 W (.slice (some ⟨w.heap.size + 1 + 1, 0, none⟩) 2 2) [l1, l2] ∧ Below w.heap.size w W := by
  have e1 := bytes_new w _ rfl l1 5 m1 h1 (by omega)
  have e2 := bytes_new (w.alloc (.cells (l1.map fun n : Nat => Value.int .u8 (n : Int)).toArray 5 m1)) _ rfl l2 5 m2 h2 (by omega)
  rw [show (w.alloc (.cells (l1.map fun n : Nat => Value.int .u8 (n : Int)).toArray 5 m1)).heap.size = w.heap.size + 1 from by simp] at e2
  subst hW
  refine ⟨rows2_pair (t := t) ?_ ((e1.alloc _).alloc _) (e2.alloc _), (((Below.refl _ _).alloc (Nat.le_refl _) _).alloc (by simp) _).alloc (by simp; omega) _⟩
  have := heap_alloc_new ((w.alloc (.cells (l1.map fun n : Nat => Value.int .u8 (n : Int)).toArray 5 m1)).alloc (.cells (l2.map fun n : Nat => Value.int .u8 (n : Int)).toArray 5 m2)) (.cells #[.slice (some ⟨w.heap.size, 0, none⟩) l1.length l1.length, .slice (some ⟨w.heap.size + 1, 0, none⟩) l2.length l2.length] t)
  simpa using this
end Go.Proofs.Ytoloidfkpfdboaa
