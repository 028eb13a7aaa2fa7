/- A slice of slices of bytes among the arguments; what the bound on the arguments' bulk says of it. -/
import Derived.Test.YtoloidfkpfdboaaZRowsB
import Derived.Deep.Matrix
namespace Go.Proofs.Ytoloidfkpfdboaa
set_option maxRecDepth 100000
open Go.ChangeShapes Go.WideShapes Go.ChangeAt Go.RowKit Go.Deep

theorem bulk_one {H : Type} (d : DataW H) : 1 ≤ Rows.uptoBulk d := by
  cases d with
  | lit l => cases l <;> simp [Rows.uptoBulk]
  | nil => simp [Rows.uptoBulk]
  | ptr d => simp [Rows.uptoBulk]
  | slice elems spare => simp [Rows.uptoBulk]
  | agg parts => simp [Rows.uptoBulk]
  | iface t d => simp [Rows.uptoBulk]
  | map entries => simp [Rows.uptoBulk]
  | held h => simp [Rows.uptoBulk]
theorem bulk_length {H : Type} : ∀ l : List (DataW H), l.length ≤ Rows.uptoBulkAll l
  | [] => by simp [Rows.uptoBulkAll]
  | d :: l => by
    have h1 := bulk_one d
    have h2 := bulk_length l
    simp only [Rows.uptoBulkAll, List.length_cons]
    omega
theorem bulk_rows {H : Type} (k : IntKind) (A : Nat → Option Addr) (L : Nat → Nat) (Z : Nat → List Int) : ∀ rs : List Nat, (∀ r ∈ rs, L r ≤ (Z r).length ∧ (A r = none → L r = 0)) →
    ((rs.map fun r => ((Z r).take (L r)).map Int.toNat).flatten).length ≤ Rows.uptoBulkAll (rs.map fun r => intRow (H := H) k (A r) (L r) (Z r))
  | [], _ => by simp
  | r :: rs, h => by
    have ih := bulk_rows (H := H) k A L Z rs fun x hx => h x (by simp [hx])
    obtain ⟨h1, h2⟩ := h r (by simp)
    have h3 : L r ≤ Rows.uptoBulk (intRow (H := H) k (A r) (L r) (Z r)) := by
      rcases hA : A r with _ | a
      · rw [h2 hA]; exact Nat.zero_le _
      · simp only [intRow, Rows.uptoBulk]
        have := bulk_length (lits (H := H) k ((Z r).take (L r)))
        have e : (lits (H := H) k ((Z r).take (L r))).length = L r := by simp [lits]; omega
        omega
    simp only [List.map_cons, List.flatten_cons, List.length_append, Rows.uptoBulkAll, List.length_map, List.length_take]
    omega

theorem open_rows {H : Type} {enc : TypeId × Value → H} {W : World} {base : Nat} {v : Value} {d : DataW H} {p : List MemPlace} (hv : Value.okWide Try.prog W .any base 33 v)
    (h : DataW.Trod enc Try.prog W 0 (fun _ => true) true 33 v d p) : ∃ L, Rows2 W v L ∧ L.flatten.length ≤ Rows.uptoBulk d := by
  obtain ⟨a0, len, cap, rfl⟩ := okWide_slice Try.underlying33 hv
  obtain ⟨fuel, hf⟩ := h
  rcases open_int_rows Try.underlying33 Try.underlying25 Try.underlying5 (by kernel_rfl) (by kernel_rfl) hf with ⟨hcs, _⟩ | ⟨a, len', cap', A, L, C, Z, hcs, _, hl, hm, hx, hrow⟩
  · simp [Value.cells] at hcs
    obtain ⟨rfl, rfl, rfl⟩ := hcs
    exact ⟨[], rows2_none W, by simp⟩
  · simp [Value.cells] at hcs
    obtain ⟨rfl, rfl, rfl⟩ := hcs
    simp only [Prod.mk.injEq] at hx
    obtain ⟨rfl, _⟩ := hx
    unfold maxLen at hm
    refine ⟨(List.range len).map fun r => ((Z r).take (L r)).map Int.toNat, ⟨by simp; omega, some a, cap, by simp, by simpa using hl, fun h0 => ?_⟩, ?_⟩
    · simp at h0
      obtain ⟨b, off, spot⟩ := a
      have hspot : spot = none := by simpa [Addr.add] using World.cell?_spot (hrow 0 (by omega)).1
      subst hspot
      refine ⟨b, off, rfl, fun i hi => ?_⟩
      simp at hi
      obtain ⟨r1, r2, r3, r4, r5, r6, r7⟩ := hrow i (by omega)
      rw [add_plain] at r1
      refine ⟨_, r1, ?_⟩
      have e : ((List.range len).map fun r => ((Z r).take (L r)).map Int.toNat).getD i [] = ((Z i).take (L i)).map Int.toNat := by
        simp [List.getD_eq_getElem?_getD, List.getElem?_map, List.getElem?_range hi]
      rw [e]
      unfold maxLen at r3
      have hwf : ∀ n ∈ Z i, 0 ≤ n ∧ n < 256 := fun n hn => by
        have := r5 n hn
        simp [Lit.wf, IntKind.min, IntKind.max, IntKind.signed, IntKind.bits] at this
        omega
      refine Bytes.of (fun c hc => ?_) (by simp; omega) (by omega) r2 fun h0 => ?_
      · obtain ⟨n, hn, rfl⟩ := List.mem_map.1 hc
        have := hwf n (List.mem_of_mem_take hn)
        omega
      · rcases hA : A i with _ | a'
        · have := r6 hA
          omega
        · obtain ⟨b', off', rfl, hc⟩ := ints_at (zs := Z i) (k := .u8) (a := a') (fun c hc => (r7 a' hA).2 c (by omega)) (by omega)
          refine ⟨b', off', rfl, fun j hj => ?_⟩
          rw [hc j (by omega)]
          have hj' : j < (Z i).length := by omega
          have := hwf _ (List.getElem_mem hj')
          simp [hj, hj']
          omega
    · simp only [Rows.uptoBulk]
      have := bulk_rows (H := H) .u8 A L Z (List.range len) fun r hr => by
        have hr' := List.mem_range.1 hr
        obtain ⟨_, r2, _, r4, _, r6, _⟩ := hrow r (by omega)
        exact ⟨by omega, fun hA => by have := r6 hA; omega⟩
      omega
end Go.Proofs.Ytoloidfkpfdboaa
