/- What slices.Concat, slices.Grow and bytes.Equal answer on bytes. -/
import Derived.Test.YtoloidfkpfdboaaZRowsB
import Derived.Lib.AppendZerosOnto
import Derived.Lib.Walk
import Derived.Deep.DeepCutAuto
import Derived.Deep.LoopGhost
import Derived.IntWalk
namespace Go.Proofs.Ytoloidfkpfdboaa
set_option maxRecDepth 100000
open Go.ChangeShapes Go.WideShapes Go.ChangeAt Go.RowKit

/-- A row that has just been laid is the call's own. -/
theorem own_new (w : World) (base : Nat) (l : List Nat) (hl : ∀ c ∈ l, c < 256) (hm : l.length ≤ maxLen) (hb : base ≤ w.heap.size) :
    Own (w.alloc (.cells (row8 l).toArray 5)) base (.slice (some ⟨w.heap.size, 0, none⟩) l.length l.length) l := by
  refine ⟨⟨by simp [row8], .inr ⟨w.heap.size, l.length, (row8 l).toArray, rfl, hb, heap_alloc_new w _, Nat.le_refl _, hm, by simp [row8], ?_⟩⟩, hl⟩
  rw [Nat.mul_one]
  exact List.take_of_length_le (by simp [row8])

set_option maxHeartbeats 1000000 in
theorem equal_any (v u : Value) (l m : List Nat) (w : World) (hl : Bytes w v l) (hm : Bytes w u m) :
    Calls Try.prog 69 #[v, u] w fun e w' => e = .returned (.bool (decide (l = m))) ∧ w = w' := by
  have k1 := run_text hl
  have k2 := run_text hm
  have h1 := hl.1
  have h2 := hm.1
  clear hl hm
  go_enter Try.func69, Try.ntmps69
  go_wp2
  go_ret
  refine ⟨?_, rfl⟩
  rw [← str_eq h1 h2]
  rfl

theorem own_room (w : World) (base cap : Nat) (cur : Array Value) (hb : base ≤ w.heap.size) (hm : cap ≤ maxLen) (hs : cur.size = cap) (W : World) (e : W.heap = w.heap) : Own (W.alloc (.cells cur 5)) base (.slice (some ⟨w.heap.size, 0, none⟩) 0 cap) [] := by
  have := own_empty W base cap cur (by rw [e]; exact hb) hm hs
  rwa [e] at this
theorem flat_take (L : List (List Nat)) (k : Nat) (h : k < L.length) : (L.take (k + 1)).flatten = (L.take k).flatten ++ L.getD k [] := by
  rw [List.take_succ_eq_append_getElem h, List.flatten_append, List.getD_eq_getElem?_getD, List.getElem?_eq_getElem h]
  simp
theorem flat_le (L : List (List Nat)) (k : Nat) : (L.take k).flatten.length ≤ L.flatten.length := by
  conv => rhs; rw [← List.take_append_drop k L, List.flatten_append, List.length_append]
  omega

end Go.Proofs.Ytoloidfkpfdboaa
