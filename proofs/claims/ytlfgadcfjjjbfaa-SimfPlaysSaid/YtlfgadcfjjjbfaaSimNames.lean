/- The names that the statements of layer 9 draw; a map keyed by ints, as a function. -/
import Derived.Test.YtlfgadcfjjjbfaaSimKeep
import Derived.Test.YtlfgadcfjjjbfaaInts
import Derived.Maps.OwnSet
namespace Go.Proofs.Ytlfgadcfjjjbfaa
set_option maxRecDepth 100000
open Go.ChangeShapes Go.WideShapes Go.ChangeAt Go.RowKit Go.ChangeMaps
open Sf

theorem nand_low (a : Int) (k : Nat) (hk : k < 4294967296) : ∃ m : Nat, bits .and .i64 a (k : Int) = (m : Int) ∧ m ≤ k := by
  have h : bits .and .i64 a (k : Int) = IntKind.i64.wrap ((BitVec.ofInt 64 a &&& BitVec.ofInt 64 (k : Int)).toNat : Int) := rfl
  have hx : (BitVec.ofInt 64 a &&& BitVec.ofInt 64 (k : Int)).toNat ≤ k := by
    rw [BitVec.toNat_and]
    refine Nat.le_trans Nat.and_le_right ?_
    rw [BitVec.ofInt_natCast, BitVec.toNat_ofNat]
    exact Nat.mod_le _ _
  refine ⟨(BitVec.ofInt 64 a &&& BitVec.ofInt 64 (k : Int)).toNat, ?_, hx⟩
  rw [h, IntKind.wrap_i64]
  omega
def nm12 : List (List Nat) := [[97], [98], [99], [116, 114, 97, 99, 101], [116, 109, 112, 47, 49, 46, 49, 46, 49], [116, 109, 112, 47, 50, 46, 49, 46, 49], [108, 111, 99, 107, 47, 108, 111, 103], [99, 108, 97, 105, 109, 47, 97], [99, 108, 97, 105, 109, 47, 98], [65], [], [97, 47, 98, 47, 99]]
def nm (k : Nat) : List Nat := nm12.getD k []
def litN : Array Value := #[.string { data := #[97] }, .string { data := #[98] }, .string { data := #[99] }, .string { data := #[116, 114, 97, 99, 101] }, .string { data := #[116, 109, 112, 47, 49, 46, 49, 46, 49] }, .string { data := #[116, 109, 112, 47, 50, 46, 49, 46, 49] }, .string { data := #[108, 111, 99, 107, 47, 108, 111, 103] }, .string { data := #[99, 108, 97, 105, 109, 47, 97] }, .string { data := #[99, 108, 97, 105, 109, 47, 98] }, .string { data := #[65] }, .string { data := #[] }, .string { data := #[97, 47, 98, 47, 99] }]
theorem litN_at (k : Nat) (hk : k < 12) : litN[k]? = some (.string (str (nm k))) := by
  have : k = 0 ∨ k = 1 ∨ k = 2 ∨ k = 3 ∨ k = 4 ∨ k = 5 ∨ k = 6 ∨ k = 7 ∨ k = 8 ∨ k = 9 ∨ k = 10 ∨ k = 11 := by omega
  rcases this with rfl | rfl | rfl | rfl | rfl | rfl | rfl | rfl | rfl | rfl | rfl | rfl <;> rfl
theorem nice_nm (k : Nat) (hk : k < 12) : Nice (nm k) := by
  have : k = 0 ∨ k = 1 ∨ k = 2 ∨ k = 3 ∨ k = 4 ∨ k = 5 ∨ k = 6 ∨ k = 7 ∨ k = 8 ∨ k = 9 ∨ k = 10 ∨ k = 11 := by omega
  rcases this with rfl | rfl | rfl | rfl | rfl | rfl | rfl | rfl | rfl | rfl | rfl | rfl <;> constructor <;> simp [nm, nm12]
/-- Which name a number draws. -/
def nmOf (z : Int) : Nat := (bits .and .i64 z 255).toNat % 12
theorem nmOf_lt (z : Int) : nmOf z < 12 := Nat.mod_lt _ (by omega)
theorem nmOf_low (k : Nat) (hk : k < 4) : nmOf (k : Int) = k := by
  have : k = 0 ∨ k = 1 ∨ k = 2 ∨ k = 3 := by omega
  rcases this with rfl | rfl | rfl | rfl <;> rfl
set_option maxHeartbeats 2000000 in
theorem name12_any (z : Int) (w : World) : Calls Try.prog 6 #[.int .i64 z] w fun e w' => e = .returned (.string (str (nm (nmOf z)))) ∧ Below w.heap.size w w' := by
  obtain ⟨M, hM, hM2⟩ := nand_low z 255 (by omega)
  change bits .and .i64 z 255 = (M : Int) at hM
  obtain ⟨k, hk⟩ : ∃ k : Nat, (M : Int) % 12 = (k : Int) := ⟨M % 12, by omega⟩
  have hkn : nmOf z = k := by
    unfold nmOf
    rw [hM]
    omega
  have hk12 : k < 12 := by omega
  have hki : (k : Int) < 12 := by omega
  have hcell : (w.alloc (.cells litN 9)).cell? ⟨w.heap.size, k, none⟩ = some (.string (str (nm k))) := by
    rw [← litN_at k hk12]
    exact cell_of_row _ _ k litN 9 (0, 0) (heap_alloc_new w _)
  obtain ⟨t, ht⟩ : ∃ t, nm k = t := ⟨_, rfl⟩
  rw [ht] at hcell
  unfold litN at hcell
  have hz : (bits .and .i64 z 255).tmod 12 = (k : Int) := by rw [hM, Int.tmod_eq_emod_of_nonneg (by omega)]; exact hk
  rw [hkn, ht]
  clear hkn ht
  go_enter Try.func6, Try.ntmps6
  go_wp2
  go_ret
  exact ⟨rfl, (Below.refl _ _).alloc (Nat.le_refl _) _⟩

theorem MapIs.run_look1 {w : World} {b n : Nat} {f : List Nat → Option Value} (h : MapIs w b n f) {T e : TypeId} (ht : Try.prog.underlying T = some (.map 9 e)) {z : Value} (hz : (zeroValue e).run Try.prog w = .ok z w) {t : List Nat} (ht1 : ∀ c ∈ t, c < 256) (ht2 : t.length ≤ 1099511627776) :
    (Instr.lookup T (.map (some b)) (.string (str t)) false).run Try.prog w = .ok ((f t).getD z) w := by
  obtain ⟨D, h1, h2⟩ := h
  obtain ⟨v, ps, hrun, hv⟩ := h1.lookup keyed ht hz (zd := .held z) (zp := []) rfl (key_of t (by unfold maxLen; omega))
  rw [hrun]
  obtain ⟨e1, e2⟩ := h2 t ht1
  unfold heldR at hv
  injection hv with hv
  injection hv with hv _
  rcases hf : f t with _ | u
  · rw [hf] at e1
    rw [Maps.atKey_of_not_has e1] at hv
    injection hv with hv
    subst hv
    rfl
  · rw [e2 u _ hf] at hv
    injection hv with hv
    subst hv
    rfl
theorem MapIs.gone {w : World} {b n : Nat} {f : List Nat → Option Value} (h : MapIs w b n f) {T e : TypeId} (ht : Try.prog.underlying T = some (.map 9 e)) {t : List Nat} (ht1 : ∀ c ∈ t, c < 256) (ht2 : t.length ≤ 1099511627776) (ty : TypeId) :
    ∃ w', (Builtin.delete_ #[T, 9] ty #[.map (some b), .string (str t)]).run Try.prog w = .ok (.tuple #[]) w' ∧ MapIs w' b n (fun u => if u = t then none else f u) ∧ w.grownBy w' (some b) ∧ (∀ k, k ≠ b → w'.heap[k]? = w.heap[k]?) ∧ w'.heap.size = w.heap.size := MapIs.run_drop h ht ht1 ht2 ty

/-- A map keyed by ints. -/
def keyI (x : Int) : Lit := .int .i64 x
def Wf (x : Int) : Prop := -9223372036854775808 ≤ x ∧ x ≤ 9223372036854775807
theorem keyI_of {x : Int} (h : Wf x) : keyOf Try.prog 3 (.int .i64 x) = some (keyI x) := by
  have hw : (Lit.int .i64 x).wf = true := by
    obtain ⟨h1, h2⟩ := h
    simp [Lit.wf, IntKind.min, IntKind.max, IntKind.signed, IntKind.bits]
    omega
  simp [keyOf, Try.underlying3, mapKey, hw, keyI]
theorem keyI_key (x : Int) : WideAt.IsKeyLit (keyI x) := trivial
theorem keyI_inj {x y : Int} (h : keyI x = keyI y) : x = y := by injection h
theorem keyedI : Go.Maps.Keyed Try.prog 3 := Go.Maps.int_keyed Try.underlying3
def MapI (w : World) (b n : Nat) (f : Int → Option Value) : Prop :=
  ∃ D, w.ownsMap Try.prog 3 heldR b n D ∧ ∀ x, Maps.has D (keyI x) = (f x).isSome ∧ ∀ v z, f x = some v → D.atKey (keyI x) z = .held v
theorem mapI_made (w : World) : MapI (w.alloc (.map #[] 0)) w.heap.size 0 fun _ => none :=
  ⟨_, World.ownsMap_made _ _ _ _, fun x => ⟨rfl, fun v z h => by cases h⟩⟩
theorem MapI.same {w w' : World} {b n : Nat} {f : Int → Option Value} (h : MapI w b n f) (hb : w'.heap[b]? = w.heap[b]?) : MapI w' b n f := by
  obtain ⟨D, ⟨es, c, h1, h3⟩, h2⟩ := h
  exact ⟨D, ⟨es, c, hb.trans h1, h3⟩, h2⟩
theorem MapI.lt {w : World} {b n : Nat} {f : Int → Option Value} (h : MapI w b n f) : b < w.heap.size := by
  obtain ⟨D, h1, _⟩ := h
  exact h1.lt
theorem MapI.run_look1 {w : World} {b n : Nat} {f : Int → Option Value} (h : MapI w b n f) {T e : TypeId} (ht : Try.prog.underlying T = some (.map 3 e)) {z : Value} (hz : (zeroValue e).run Try.prog w = .ok z w) {x : Int} (hx : Wf x) :
    (Instr.lookup T (.map (some b)) (.int .i64 x) false).run Try.prog w = .ok ((f x).getD z) w := by
  obtain ⟨D, h1, h2⟩ := h
  obtain ⟨v, ps, hrun, hv⟩ := h1.lookup keyedI ht hz (zd := .held z) (zp := []) rfl (keyI_of hx)
  rw [hrun]
  obtain ⟨e1, e2⟩ := h2 x
  unfold heldR at hv
  injection hv with hv
  injection hv with hv _
  rcases hf : f x with _ | u
  · rw [hf] at e1
    rw [Maps.atKey_of_not_has e1] at hv
    injection hv with hv
    subst hv
    rfl
  · rw [e2 u _ hf] at hv
    injection hv with hv
    subst hv
    rfl
theorem MapI.run_store {w : World} {b n : Nat} {f : Int → Option Value} (h : MapI w b n f) {T e : TypeId} (ht : Try.prog.underlying T = some (.map 3 e)) (hn : n ≤ 1099511627776) {x : Int} (hx : Wf x) (val : Value) :
    ∃ w', (Instr.mapUpdate T (.map (some b)) (.int .i64 x) val).run Try.prog w = .ok () w' ∧ MapI w' b (n + 1) (fun y => if y = x then some val else f y) ∧ w.grownBy w' (some b) ∧ (∀ k, k ≠ b → w'.heap[k]? = w.heap[k]?) ∧ w'.heap.size = w.heap.size := by
  obtain ⟨D, h1, h2⟩ := h
  obtain ⟨w', hrun, h3, h4⟩ := h1.store keyedI ht (val := val) (d := .held val) (ps := []) (by unfold maxLen; omega) (keyI_of hx) rfl
  have hD := h1.isMap
  refine ⟨w', hrun, ⟨_, h3, fun y => ?_⟩, h4.grown, ?_, ?_⟩
  · by_cases hut : y = x
    · subst hut
      simp only [if_true]
      exact ⟨Maps.has_put_same hD (keyI_key y) _, fun v z hv => by injection hv with hv; rw [← hv]; exact Maps.atKey_put_same hD (keyI_key y) _ _⟩
    · have hne : keyI y ≠ keyI x := fun e => hut (keyI_inj e)
      dsimp only
      rw [Maps.has_put_other hne, if_neg hut]
      exact ⟨(h2 y).1, fun v z hv => by rw [Maps.atKey_put_other hne]; exact (h2 y).2 v z hv⟩
  · obtain ⟨es, c, es', c', hb, rfl⟩ := h4
    intro k hk
    exact heap_setBlock_other hb _ hk
  · obtain ⟨es, c, es', c', hb, rfl⟩ := h4
    simp [setBlock]
end Go.Proofs.Ytlfgadcfjjjbfaa
