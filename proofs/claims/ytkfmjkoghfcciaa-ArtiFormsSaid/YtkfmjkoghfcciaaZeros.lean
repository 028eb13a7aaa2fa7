/- Zeros behind a row of bytes of one's own: 'append(s, make([]byte, k)...)', with room, or without. -/
import Derived.Test.YtkfmjkoghfcciaaConcat
import Derived.Lib.AppendZerosOnto
namespace Go.Proofs.Ytkfmjkoghfcciaa
set_option maxRecDepth 100000
open Go.ChangeShapes Go.WideShapes Go.ChangeAt Go.RowKit

theorem zero_cells (k : Nat) : Builtin.zeroCells (Value.int .u8 0).cells k = (row8 (List.replicate k 0)).toArray := by
  have hc : (Value.int .u8 0).cells = #[.int .u8 0] := rfl
  rw [hc]
  apply Array.ext'
  simp only [Builtin.zeroCells, Array.toList_map, Array.toList_range, List.size_toArray, List.length_singleton, Nat.mul_one, Nat.mod_one, row8, List.map_replicate]
  apply List.ext_getElem
  · simp
  · intro i h1 h2
    simp

theorem run_append_zeros {w : World} {base : Nat} {ty : TypeId} {v : Value} {l : List Nat} {k : Nat} (hown : Own w base v l) (hk : 0 < k) (hlen : l.length + k ≤ 70368744177664) (hbase : base ≤ w.heap.size) :
    ∃ v' w', (Builtin.append_ #[30, 3] ty #[v, .int .i64 (k : Int)]).run Try.prog w = .ok v' w' ∧ Grew base v (l ++ List.replicate k 0) w v' w' := by
  obtain ⟨i, hi, hz0, hz1, hz2⟩ := info_parts infoU8
  have hall : ∀ c ∈ l ++ List.replicate k 0, c < 256 := fun c hc => (List.mem_append.1 hc).elim (hown.2 c) (fun h => by rw [List.eq_of_mem_replicate h]; decide)
  have hrow : row8 (l ++ List.replicate k 0) = row8 l ++ row8 (List.replicate k 0) := List.map_append
  have hl8 : (row8 l).length = l.length := by simp [row8]
  have hk8 : (row8 (List.replicate k 0)).length = k := by simp [row8]
  -- a new row
  have grown : ∀ (A : Option Addr) (old : Nat), old < l.length + k → (Builtin.firstCells i.size l.length (.slice A l.length old)).run Try.prog w.drew = .ok (row8 l).toArray w.drew → ∃ v' w', (Builtin.append_ #[30, 3] ty #[.slice A l.length old, .int .i64 (k : Int)]).run Try.prog w = .ok v' w' ∧ Grew base (.slice A l.length old) (l ++ List.replicate k 0) w v' w' := by
    intro A old ho hold
    have hr := Lib.run_append_grow_zeros w 30 3 ty 5 i (.int .u8 0) .i64 .i64 Try.underlying30 Try.underlying3 hi hz0 A l.length old (row8 l) hold k hk (by rw [hz1]; decide) ho (by omega) (by rw [hz2]; omega) (growslice_fits ho (by rw [hz2]; omega))
    have hge := grownCap_ge w (l.length + k) old 5
    have hcm : grownCap w (l.length + k) old 5 ≤ maxLen := grownCap_le_maxLen w (l.length + k) old _ (by unfold maxLen; omega)
    rw [zero_cells] at hr
    refine ⟨_, _, hr, ⟨⟨?_, .inr ⟨w.heap.size, grownCap w (l.length + k) old 5, _, ?_, hbase, heap_alloc_new w.drew _, ?_, hcm, ?_, ?_⟩⟩, hall⟩, ⟨rfl, rfl, rfl, by simp, fun j hj _ => heap_alloc_old w.drew _ hj⟩, .inr rfl, ⟨rfl, rfl, rfl, by simp, fun j hj => heap_alloc_old w.drew _ (by have : w.drew.heap.size = w.heap.size := rfl; omega)⟩⟩
    · rw [hrow, List.length_append, hl8, hk8, List.length_append, List.length_replicate]; omega
    · rw [List.length_append, List.length_replicate]
    · rw [List.length_append, List.length_replicate]; exact hge
    · simp only [Array.size_append, List.size_toArray, size_zeroCells, hl8, hk8]
      have : (Value.int .u8 0).cells.size = 1 := rfl
      rw [this]
      omega
    · rw [hrow]
      simp only [Array.toList_append]
      have : (l ++ List.replicate k 0).length * 1 = (row8 l ++ row8 (List.replicate k 0)).length := by rw [List.length_append, List.length_replicate, List.length_append, hl8, hk8]; omega
      rw [this]
      exact List.take_left
  rcases hown.1.2 with ⟨rfl, h0⟩ | ⟨g, cap, cur, rfl, hb, hg, hn, hm, hs, ht⟩
  · have : l = [] := List.eq_nil_of_length_eq_zero h0
    subst this
    exact grown none 0 (by simpa using hk) (run_firstCells_none w.drew i.size 0 0 0)
  · by_cases hroom : l.length + k ≤ cap
    · have hfit : l.length * i.size + (row8 (List.replicate k 0)).length ≤ cur.size := by rw [hk8, hs, hz1]; omega
      have hst := run_storeCells_at Try.prog g (l.length * i.size) 5 (row8 (List.replicate k 0)) 0 cur w hg (by simpa using hfit) row8_one
      simp only [Nat.add_zero] at hst
      have hw : IntKind.i64.wrap (k : Int) = k := by rw [IntKind.wrap_i64]; omega
      have hneg : ¬ ((k : Int) < 0) := by omega
      have h48i : ¬ (281474976710656 < (k : Int) * (i.bytes : Int)) := by rw [hz2]; omega
      have hns : ¬ (k * i.size = 0) := by rw [hz1]; omega
      have hr : (Builtin.append_ #[30, 3] ty #[.slice (some ⟨g, 0, none⟩) l.length cap, .int .i64 (k : Int)]).run Try.prog w =
          .ok (.slice (some ⟨g, 0, none⟩) (l.length + k) cap) (w.setRow g (cur.toList.take (l.length * i.size) ++ row8 (List.replicate k 0) ++ cur.toList.drop (l.length * i.size + (row8 (List.replicate k 0)).length)).toArray) := by
        simp [Builtin.append_, run_underlying Try.underlying30, run_underlying Try.underlying3, sizeOf, typeInfo, zeroValue, hi, hz0, asInt, asIntOf, hw, hneg, hns, h48i, hroom, zero_cells, Addr.add_lit, hst]
      refine ⟨_, _, hr, ⟨⟨?_, .inr ⟨g, cap, _, ?_, hb, setRow_heap w g cur _ 5 _ hg, ?_, hm, ?_, ?_⟩⟩, hall⟩, ⟨rfl, rfl, rfl, by simp, fun j _ hj => setRow_other w g j _ (fun e => hj (by simp [Value.ownBlock, e]))⟩, .inl rfl, ⟨rfl, rfl, rfl, by simp, fun j hj => setRow_other w g j _ (fun e => by omega)⟩⟩
      · rw [hrow, List.length_append, hl8, hk8, List.length_append, List.length_replicate]; omega
      · rw [List.length_append, List.length_replicate]
      · rw [List.length_append, List.length_replicate]; exact hroom
      · simp only [List.size_toArray, List.length_append, List.length_take, List.length_drop, Array.length_toList, hk8, hs, hz1]
        omega
      · rw [hrow, hz1, ht]
        have : (l ++ List.replicate k 0).length * 1 = (row8 l ++ row8 (List.replicate k 0)).length := by rw [List.length_append, List.length_replicate, List.length_append, hl8, hk8]; omega
        rw [this]
        exact List.take_left
    · refine grown (some ⟨g, 0, none⟩) cap (by omega) ?_
      have holds : ∀ j u, (row8 l)[j]? = some u → w.cell? ((⟨g, 0, none⟩ : Addr).add j) = some u := hown.1.cells (g := g) rfl
      exact run_firstCells_some (P := Try.prog) w.drew i.size l.length ⟨g, 0, none⟩ l.length cap (row8 l) (by rw [hl8, hz1]; omega) holds
end Go.Proofs.Ytkfmjkoghfcciaa
