/- What the library's variables hold, behind whatever the calls make. -/
import Derived.Test.YtfeaolcgjkkadaaDoorShelf
import Derived.Test.YtfeaolcgjkkadaaDoorNameLib
import Derived.Test.YtfeaolcgjkkadaaDoorNameOf
import Derived.Lib.LaidTab
namespace Go.Proofs.YtfeaolcgjkkadaaDoor
set_option maxRecDepth 100000
open Go.ChangeShapes Go.WideShapes Go.ChangeAt Go.RowKit

def Tabs (w : World) : Prop :=
  Lib.TabIs Tryd.prog w "internal/strconv.uint64pow10" .u64 Lib.pow10Tab ∧ (∃ m : Int, w.cell? ⟨0, 0, none⟩ = some (.int .i64 m)) ∧
    (∃ t p, w.cell? ⟨1, 0, none⟩ = some (.iface t p)) ∧ (∃ t p, w.cell? ⟨2, 0, none⟩ = some (.iface t p))
theorem cell_kept {w w' : World} {a : Addr} {v : Value} (hb : Below w.heap.size w w') (h : w.cell? a = some v) : w'.cell? a = some v := (hb.cell (World.block_lt_of_cell? _ _ h)).trans h
theorem tab_kept {P : Program} {w w' : World} {n : String} {k : IntKind} {zs : List Int} (hb : Below w.heap.size w w') (h : Lib.TabIs P w n k zs) : Lib.TabIs P w' n k zs := by
  unfold Lib.TabIs World.var? at h ⊢
  cases hg : P.globalNamed n with
  | none => simp [hg] at h
  | some g =>
    simp only [hg, Option.bind_some] at h ⊢
    have hlt : g < w.heap.size := by
      rcases Nat.lt_or_ge g w.heap.size with h' | h'
      · exact h'
      · simp [Array.getElem?_eq_none h'] at h
    rw [hb.block g hlt]
    exact h
theorem Tabs.under {w w' : World} (h : Tabs w) (hb : Below w.heap.size w w') : Tabs w' := by
  obtain ⟨h1, ⟨m, h2⟩, ⟨t, p, h3⟩, ⟨t', p', h4⟩⟩ := h
  exact ⟨tab_kept hb h1, ⟨m, cell_kept hb h2⟩, ⟨t, p, cell_kept hb h3⟩, ⟨t', p', cell_kept hb h4⟩⟩
theorem Tabs.alloc {w : World} (h : Tabs w) (o : Obj) : Tabs (w.alloc o) := h.under ((Below.refl _ _).alloc (Nat.le_refl _) _)
theorem Tabs.drewN {w : World} (h : Tabs w) (n : Nat) : Tabs (w.drewN n) := h
theorem below_grow (w : World) (k : Nat) (os : Array Obj) : Below w.heap.size w (Sort.grow (w.drewN k) os) := by
  refine ⟨rfl, rfl, rfl, ?_, fun i hi => ?_⟩
  · show w.heap.size ≤ (w.heap ++ os).size
    simp
  · show (w.heap ++ os)[i]? = w.heap[i]?
    exact Array.getElem?_append_left hi
theorem below_drewN (w : World) (n : Nat) : Below w.heap.size w (w.drewN n) := ⟨rfl, rfl, rfl, Nat.le_refl _, fun _ _ => rfl⟩
/-- Atoi: a number, or an error. -/
def AtoiIs (b : ByteArray) (w : World) (e : Ending) (w' : World) : Prop :=
  Below w.heap.size w w' ∧ ((∃ v : Int, Lib.atoiAll b.data.toList = .ok v ∧ e = .returned (.tuple #[.int .i64 v, .nilIface])) ∨ ((∀ v, Lib.atoiAll b.data.toList ≠ .ok v) ∧ ∃ (v : Int) (t : TypeId) (p : Value), e = .returned (.tuple #[.int .i64 v, .iface t p])))
theorem atoi_any (b : ByteArray) (w : World) (hb : b.size ≤ 281474976710656) (hT : Tabs w) : Calls Tryd.prog 44 #[.string b] w (AtoiIs b w) := by
  obtain ⟨h1, h2, ⟨t, p, h3⟩, ⟨t', p', h4⟩⟩ := hT
  rcases h : Lib.atoiAll b.data.toList with v | _ | _
  · refine (Tryd.strconv_Atoi_ok b (by omega) v h w).mono fun e w' ⟨he, hw⟩ => ⟨?_, .inl ⟨v, h, he⟩⟩
    rcases hw with rfl | ⟨t, rfl⟩
    · exact Below.refl _ _
    · exact Lib.bytesWorld_below _ _ _
  · refine (Any.strconv_Atoi_syntax Tryd.laysC172 b hb h _ w h3 (.inr ⟨t, p, rfl⟩)).mono fun e w' ⟨N, he, _, _, hw⟩ => ⟨hw, .inr ⟨fun v hv => ?_, _, _, _, he⟩⟩
    rw [h] at hv; cases hv
  · refine (Tryd.strconv_Atoi_range b hb h _ w h4 (.inr ⟨t', p', rfl⟩)).mono fun e w' ⟨N, he, _, _, hw⟩ => ⟨hw, .inr ⟨fun v hv => ?_, _, _, _, he⟩⟩
    rw [h] at hv; cases hv
theorem itoa_any (n : Nat) (hn : n ≤ 99999) (w : World) (hT : Tabs w) : Calls Tryd.prog 45 #[.int .i64 n] w fun e w' => e = .returned (.string (str (Nm.dec n))) ∧ Below w.heap.size w w' := by
  refine (Tryd.strconv_Itoa n (by omega) (by omega) w hT.1).mono fun e w' ⟨he, k, os, hw⟩ => ⟨?_, ?_⟩
  · rw [he, itoa_dec]
  · rw [hw]; exact below_grow w k os
end Go.Proofs.YtfeaolcgjkkadaaDoor
