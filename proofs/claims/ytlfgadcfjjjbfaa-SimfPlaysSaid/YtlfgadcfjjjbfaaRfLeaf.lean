/- The document's own files: what is laid anew, and its bounds; whether bytes have room. -/
import Derived.Test.YtlfgadcfjjjbfaaRfRows
import Derived.Test.YtlfgadcfjjjbfaaSimLeaf
namespace Go.Proofs.Ytlfgadcfjjjbfaa
set_option maxRecDepth 100000
open Go.ChangeShapes Go.WideShapes Go.ChangeAt Go.RowKit Go.ChangeMaps
open Sf

theorem Rf.cell {w : World} {q : Nat} {lv : Value} {G : Nat → Prop} {s s' : S} (h : Rf w q lv G s) (i : Nat) (u : Value) (hl : s'.l = s.l) (hc : (cellsR lv s).setIfInBounds i u = cellsR lv s') (hg : Sf.Good s') : Rf (w.setCell ⟨q, i, none⟩ u) q lv G s' := by
  have hb : ∀ k, k ≠ q → (w.setCell ⟨q, i, none⟩ u).heap[k]? = w.heap[k]? := fun k hk => Below.heap_setCell _ _ _ _ (by exact hk)
  refine ⟨by rw [← hc]; exact h.blk.set i _, ?_, h.gq, fun k hk => by rw [World.size_setCell]; exact h.lt k hk, hg⟩
  rw [hl]
  exact h.row.same (fun k _ hk => hb k hk) fun _ h => h
theorem rheld_any (n : Int) (w : World) : Calls Try.prog 31 #[.int .i64 n] w fun e w' => e = .returned (.int .i64 (held n)) ∧ w = w' := by
  obtain ⟨M1, hM1⟩ : ∃ M, max n 0 = M := ⟨_, rfl⟩
  have x1 := fun (W : World) ts t => run_top2 (P := Try.prog) W ts t n 0 M1 hM1
  have y1 := fun (W : World) ts t => run_low2 (P := Try.prog) W ts t M1 1073741824 (held n) (by unfold held; rw [hM1])
  obtain ⟨r, hr⟩ : ∃ r, held n = r := ⟨_, rfl⟩
  rw [hr] at y1 ⊢
  clear hM1 hr
  go_enter Try.func31, Try.ntmps31
  go_wp2
  go_ret
  exact ⟨rfl, rfl⟩
set_option maxHeartbeats 2000000 in
theorem rroom_any (n : Int) (w : World) (q : Nat) (lv : Value) (G : Nat → Prop) (s : S) (h : Rf w q lv G s) :
    Calls Try.prog 20 #[.pointer (some ⟨q, 0, none⟩), .int .i64 n] w fun e w' => e = .returned (.tuple #[]) ∧ Rf w' q lv G { s with room := held n } ∧ w.grownBy w' (some q) := by
  have HH := Lib.hid (rheld_any n w)
  have k1 : w.cell? ⟨q, 1, none⟩ = some (.int .i64 s.room) := h.blk.at 1
  have f1 : w.frozen? ⟨q, 1, none⟩ = false := h.blk.free 1
  have HA := Lib.hid (h.cell (s' := { s with room := held n }) 1 (.int .i64 (held n)) rfl rfl ⟨h.good.1, h.good.2.1, by simp only [held]; omega, by simp only [held]; omega, h.good.2.2.2.2⟩)
  have HG := Lib.hid (grown_setCell w ⟨q, 1, none⟩ (.int .i64 (held n)))
  obtain ⟨r, hr⟩ : ∃ r, held n = r := ⟨_, rfl⟩
  rw [hr] at HA HG HH ⊢
  clear h hr
  go_enter Try.func20, Try.ntmps20
  go_wp2_with fail
  refine HH.out.mono ?_
  rintro e w' ⟨rfl, rfl⟩
  go_wp2
  exact bodyPost_end (results_none rfl _ _ _) rfl ⟨rfl, HA.out, HG.out⟩
set_option maxHeartbeats 2000000 in
theorem rcut_any (n : Int) (w : World) (q : Nat) (lv : Value) (G : Nat → Prop) (s : S) (h : Rf w q lv G s) (hn : n ≤ 9223372036854775807) :
    Calls Try.prog 22 #[.pointer (some ⟨q, 0, none⟩), .int .i64 n] w fun e w' => e = .returned (.tuple #[]) ∧ Rf w' q lv G { s with cut := max n 0 } ∧ w.grownBy w' (some q) := by
  obtain ⟨M1, hM1⟩ : ∃ M, max n 0 = M := ⟨_, rfl⟩
  have x1 := fun (W : World) ts t => run_top2 (P := Try.prog) W ts t n 0 M1 hM1
  have k1 : w.cell? ⟨q, 3, none⟩ = some (.int .i64 s.cut) := h.blk.at 3
  have f1 : w.frozen? ⟨q, 3, none⟩ = false := h.blk.free 3
  have HA := Lib.hid (h.cell (s' := { s with cut := max n 0 }) 3 (.int .i64 (max n 0)) rfl rfl ⟨h.good.1, h.good.2.1, h.good.2.2.1, h.good.2.2.2.1, by show -1 ≤ max n 0; omega, by show max n 0 ≤ _; omega⟩)
  have HG := Lib.hid (grown_setCell w ⟨q, 3, none⟩ (.int .i64 (max n 0)))
  rw [hM1] at HA HG ⊢
  clear h hM1 hn
  go_enter Try.func22, Try.ntmps22
  go_wp2
  exact bodyPost_end (results_none rfl _ _ _) rfl ⟨rfl, HA.out, HG.out⟩
set_option maxHeartbeats 2000000 in
theorem rnew_any (n : Int) (w : World) :
    Calls Try.prog 5 #[.int .i64 n] w fun e w' => ∃ q lv G, e = .returned (.pointer (some ⟨q, 0, none⟩)) ∧ Rf w' q lv G (new n) ∧ (∀ k, G k → w.heap.size ≤ k) ∧ Below w.heap.size w w' := by
  have HH := Lib.hid (rheld_any n w)
  have HG := Lib.hid (good_new n)
  obtain ⟨r, hr⟩ : ∃ r, held n = r := ⟨_, rfl⟩
  have HR := Lib.hid hr
  rw [hr] at HH
  clear hr
  go_enter Try.func5, Try.ntmps5
  go_wp2_with fail
  refine HH.out.mono ?_
  rintro e w' ⟨rfl, rfl⟩
  go_wp2
  go_ret
  refine ⟨w.heap.size, .slice none 0 0, fun k => k = w.heap.size, rfl, ⟨?_, ⟨none, 0, rfl, Nat.le_refl _, by simp [new], fun h => by simp [new] at h⟩, rfl, fun k hk => by rw [hk]; simp, HG.out⟩, fun k hk => by rw [hk]; exact Nat.le_refl _, (Below.refl _ _).alloc (Nat.le_refl _) _⟩
  unfold cellsR
  rw [show (new n).room = r from HR.out]
  exact heap_alloc_new _ _
/-- A file stands at one place. -/
theorem atIs_one {l : List Fi} {t : List Nat} {z z' : Int} (h : AtIs l t z) (h' : AtIs l t z') : z = z' := by
  rcases h with ⟨rfl, h1⟩ | ⟨k, hk, rfl, h1, h2⟩
  · rcases h' with ⟨rfl, _⟩ | ⟨k', hk', rfl, h1', _⟩
    · rfl
    · rw [h1] at h1'
      cases h1'
  · rcases h' with ⟨rfl, h1'⟩ | ⟨k', hk', rfl, h1', h2'⟩
    · rw [h1'] at h1
      cases h1
    · have n1 : (l[k]'hk).name = t := by
        have := List.find?_some h1
        simpa using this
      have n2 : (l[k']'hk').name = t := by
        have := List.find?_some h1'
        simpa using this
      rcases Nat.lt_trichotomy k k' with e | e | e
      · exact absurd n1 (h2' k hk e)
      · rw [e]
      · exact absurd n2 (h2 k' hk' e)
theorem atIs_some (l : List Fi) (t : List Nat) : ∃ z, AtIs l t z := by
  rcases hg : Sf.get l t with _ | x
  · exact ⟨-1, .inl ⟨rfl, hg⟩⟩
  · have h := hg
    unfold Sf.get at h
    obtain ⟨h1, k, hk, rfl, h2⟩ := List.find?_eq_some_iff_getElem.1 h
    exact ⟨k, .inr ⟨k, hk, rfl, hg, fun j hj hjk => by simpa using h2 j hjk⟩⟩
end Go.Proofs.Ytlfgadcfjjjbfaa
