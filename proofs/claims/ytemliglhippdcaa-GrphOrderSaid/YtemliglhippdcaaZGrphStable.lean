/- fettlelaw8: GrphStable. -/
import Derived.Test.YtemliglhippdcaaZEdges
import Derived.Test.YtemliglhippdcaaZ31
namespace Go.Proofs.Ytemliglhippdcaa
set_option maxRecDepth 100000
open Go.ChangeShapes Go.WideShapes Go.ChangeAt Go.RowKit Go.Shelf

theorem run_back (P : Nat → List Nat) (N : Nat) (hP : ∀ i, i < N → ∀ a ∈ P i, a < i) : ∀ f k, k ≤ N → f = N - k → Gr.run (Gr.freeP P) N f (List.range k) = List.range N
  | 0, k, hk, hf => by
    have : k = N := by omega
    subst this
    rfl
  | f + 1, k, hk, hf => by
    have hkN : k < N := by omega
    unfold Gr.run
    have hfind : (List.range N).find? (Gr.freeP P (List.range k)) = some k := by
      rw [List.find?_eq_some_iff_getElem]
      refine ⟨?_, k, by simpa using hkN, by simp, fun j hj => ?_⟩
      · unfold Gr.freeP
        simp only [List.mem_range, Nat.lt_irrefl, not_false_eq_true, decide_true, Bool.true_and, List.all_eq_true, decide_eq_true_eq]
        exact fun a ha => hP k hkN a ha
      · unfold Gr.freeP
        simp [hj]
    rw [hfind]
    show Gr.run _ _ _ (List.range k ++ [k]) = _
    rw [← List.range_succ]
    exact run_back P N hP f (k + 1) (by omega) (by omega)
theorem order_back {n : Nat} {f : Nat → List Nat} {w w' : World} {e : Ending} (hf : ∀ i, i < n → ∀ a ∈ f i, a < i) (h : OrderIs (addL [] (List.range n)) f w e w') :
    ∃ v, e = .returned (.tuple #[v, .bool true]) ∧ OwnI w' w.heap.size v (List.range n) := by
  rw [addL_range] at h
  have hp : ∀ i, i < n → Pf (List.range n) f i = f i := pf_range f n (fun i hi a ha => Nat.lt_trans (hf i hi a ha) hi)
  have ho : Gr.ord (Pf (List.range n) f) n = List.range n := run_back _ n (fun i hi a ha => by rw [hp i hi] at ha; exact hf i hi a ha) n 0 (Nat.zero_le _) (by omega)
  unfold OrderIs at h
  rw [List.length_range, ho, List.length_range, if_neg (Nat.lt_irrefl _), map_getD_range n _ (fun t ht => List.mem_range.1 ht)] at h
  exact h
theorem and_own (x : Nat) (hx : x < 16) : bits .and .i64 (x : Int) 15 = (x : Int) := by
  have h : ∀ y : Fin 16, bits .and .i64 ((y.val : Nat) : Int) 15 = (y.val : Int) := by decide +kernel
  exact h ⟨x, hx⟩
end Go.Proofs.Ytemliglhippdcaa
