/- A row of texts of the call's own, sorted by the library. -/
import Derived.Test.YtoloidfkpfdboaaShelf2
import Derived.Test.YtoloidfkpfdboaaZ00
import Derived.Test.YtoloidfkpfdboaaZ03
import Derived.Sort.OwnSorted
namespace Go.Proofs.Ytoloidfkpfdboaa
set_option maxRecDepth 100000
open Go.ChangeShapes Go.WideShapes Go.ChangeAt Go.RowKit

theorem lt_nat : ∀ a b : List UInt8, a < b ↔ a.map UInt8.toNat < b.map UInt8.toNat
  | [], [] => by simp
  | [], _ :: _ => by simp
  | _ :: _, [] => by simp
  | x :: a, y :: b => by
    rw [List.map_cons, List.map_cons, List.cons_lt_cons_iff, List.cons_lt_cons_iff, lt_nat a b, UInt8.lt_iff_toNat_lt, UInt8.toNat_inj]
theorem back_nat (t : List UInt8) : (t.map UInt8.toNat).map UInt8.ofNat = t := by
  rw [List.map_map]
  conv => rhs; rw [← List.map_id t]
  exact List.map_congr_left fun b _ => by simp
theorem there_nat {l : List Nat} (h : ∀ c ∈ l, c < 256) : (l.map UInt8.ofNat).map UInt8.toNat = l := str_nat h
/-- Sorted, each less than the next. -/
theorem sorted_strict {L : List (List Nat)} (hb : ∀ l ∈ L, ∀ c ∈ l, c < 256) (hn : L.Nodup) : ∃ T, (((L.map (·.map UInt8.ofNat)).mergeSort fun x y => decide (x ≤ y)).map (·.map UInt8.toNat)) = T ∧ T.Perm L ∧ T.Pairwise (· < ·) ∧ (T.map (·.map UInt8.ofNat)) = (L.map (·.map UInt8.ofNat)).mergeSort fun x y => decide (x ≤ y) := by
  have hp : ((L.map (·.map UInt8.ofNat)).mergeSort fun x y => decide (x ≤ y)).Perm (L.map (·.map UInt8.ofNat)) := List.mergeSort_perm _ _
  have hperm : ((((L.map (·.map UInt8.ofNat)).mergeSort fun x y => decide (x ≤ y)).map (·.map UInt8.toNat))).Perm L := by
    refine (hp.map _).trans (List.Perm.of_eq ?_)
    rw [List.map_map]
    conv => rhs; rw [← List.map_id L]
    exact List.map_congr_left fun l hl => there_nat (hb l hl)
  refine ⟨_, rfl, hperm, ?_, ?_⟩
  · have hs : ((L.map (·.map UInt8.ofNat)).mergeSort fun x y => decide (x ≤ y)).Pairwise fun x y => decide (x ≤ y) = true :=
      List.pairwise_mergeSort (fun a b c h1 h2 => by simp only [decide_eq_true_eq] at *; exact List.le_trans h1 h2) (fun a b => by simp only [Bool.or_eq_true, decide_eq_true_eq]; exact List.le_total a b) _
    have hnd : ((((L.map (·.map UInt8.ofNat)).mergeSort fun x y => decide (x ≤ y)).map (·.map UInt8.toNat))).Nodup := hperm.nodup_iff.2 hn
    rw [List.pairwise_map]
    have hnd' := List.pairwise_map.1 hnd
    refine (hs.and hnd').imp fun {x y} h => ?_
    obtain ⟨h1, h2⟩ := h
    simp only [decide_eq_true_eq] at h1
    rw [← lt_nat]
    rcases List.le_iff_lt_or_eq.1 h1 with h | h
    · exact h
    · exact absurd (by rw [h]) h2
  · rw [List.map_map]
    conv => rhs; rw [← List.map_id ((L.map (·.map UInt8.ofNat)).mergeSort fun x y => decide (x ≤ y))]
    exact List.map_congr_left fun t _ => back_nat t
theorem rowT_enc (L : List (List Nat)) : rowT L = (L.map (·.map UInt8.ofNat)).map encStr := by
  unfold rowT
  rw [List.map_map]
  rfl

end Go.Proofs.Ytoloidfkpfdboaa
