/- Files in memory: the small calls. -/
import Derived.Test.YtlfgadcfjjjbfaaSimWrite
import Derived.Test.YtlfgadcfjjjbfaaSimName
import Derived.Test.YtlfgadcfjjjbfaaNameRef
namespace Go.Proofs.Ytlfgadcfjjjbfaa
set_option maxRecDepth 100000
open Go.ChangeShapes Go.WideShapes Go.ChangeAt Go.RowKit Go.ChangeMaps
open Sf

set_option maxHeartbeats 2000000 in
theorem there_any {X : Option (List Nat)} (t : List Nat) (w : World) (p mb : Nat) (V : List Nat → Value) (F : Nat → Prop) (s : S) (h : At X w p mb V F s) (ht : ∀ c ∈ t, c < 256) (hl : t.length ≤ 1048576) :
    Calls Try.prog 34 #[.pointer (some ⟨p, 0, none⟩), .string (str t)] w fun e w' => e = .returned (.bool (get s.l t).isSome) ∧ Below w.heap.size w w' := by
  have hask := h.askOk ht hl Try.underlying50
  obtain ⟨A1, c1, hv1⟩ := h.valSl t
  rw [hv1] at hask
  unfold elem at hask
  have k0 : w.cell? ⟨p, 0, none⟩ = some (.map (some mb)) := h.blk.at 0
  obtain ⟨q, hq⟩ : ∃ q, (get s.l t).isSome = q := ⟨_, rfl⟩
  rw [hq] at hask ⊢
  clear h ht hl hv1 hq
  go_enter Try.func34, Try.ntmps34
  go_wp2
  go_ret
  exact ⟨rfl, (Below.refl _ _).alloc (Nat.le_refl _) _⟩
set_option maxHeartbeats 2000000 in
theorem fstamp_any {X : Option (List Nat)} (t : List Nat) (w : World) (p mb : Nat) (V : List Nat → Value) (F : Nat → Prop) (s : S) (h : At X w p mb V F s) (ht : ∀ c ∈ t, c < 256) (hl : t.length ≤ 1048576) :
    Calls Try.prog 25 #[.pointer (some ⟨p, 0, none⟩), .string (str t)] w fun e w' => e = .returned (.int .i64 ((stamp s.l t : Nat) : Int)) ∧ w = w' := by
  have hask := h.ask ht hl Try.underlying50
  obtain ⟨A1, c1, hv1⟩ := h.valSl t
  rw [hv1] at hask
  unfold elem at hask
  have k0 : w.cell? ⟨p, 0, none⟩ = some (.map (some mb)) := h.blk.at 0
  obtain ⟨q, hq⟩ : ∃ q, stamp s.l t = q := ⟨_, rfl⟩
  obtain ⟨m, hm⟩ : ∃ m, (Sf.bytes s.l t).length = m := ⟨_, rfl⟩
  rw [hq, hm] at hask
  rw [hq]
  clear h ht hl hv1 hq hm
  have hfd := field1 A1 m c1 q w
  go_enter Try.func25, Try.ntmps25
  go_wp2
  go_ret
  exact ⟨rfl, rfl⟩
set_option maxHeartbeats 2000000 in
theorem fused_any {X : Option (List Nat)} (w : World) (p mb : Nat) (V : List Nat → Value) (F : Nat → Prop) (s : S) (h : At X w p mb V F s) :
    Calls Try.prog 26 #[.pointer (some ⟨p, 0, none⟩)] w fun e w' => e = .returned (.int .i64 ((used s.l : Nat) : Int)) ∧ w = w' := by
  have k2 : w.cell? ⟨p, 2, none⟩ = some (.int .i64 ((used s.l : Nat) : Int)) := h.blk.at 2
  obtain ⟨q, hq⟩ : ∃ q, used s.l = q := ⟨_, rfl⟩
  rw [hq] at k2 ⊢
  clear h hq
  go_enter Try.func26, Try.ntmps26
  go_wp2
  go_ret
  exact ⟨rfl, rfl⟩
theorem at_cell {X : Option (List Nat)} {w : World} {p mb : Nat} {V : List Nat → Value} {F : Nat → Prop} {s s' : S} (h : At X w p mb V F s) (i : Nat) (u : Value) (hl : s'.l = s.l) (hn : s'.next = s.next) (hc : cells mb s' = (cells mb s).setIfInBounds i u) (hg : Sf.Good s') :
    At X (w.setCell ⟨p, i, none⟩ u) p mb V F s' := by
  have ho : ∀ k, k ≠ p → (w.setCell ⟨p, i, none⟩ u).heap[k]? = w.heap[k]? := fun k hk => Below.heap_setCell _ _ _ _ (by exact hk)
  refine ⟨by rw [hc]; exact h.blk.set i u, by rw [hl, hn]; exact h.map.same (ho mb fun e => h.ne e.symm), h.fp, h.fm, h.ne, fun k hk => by rw [World.size_setCell]; exact h.lt k hk, fun t x hx hX => ?_, fun t x hx => h.sl t x (hl ▸ hx), fun t x k hx => h.mine t x k (hl ▸ hx), fun t u x y hx hy => h.apart t u x y (hl ▸ hx) (hl ▸ hy), hg⟩
  rw [hl] at hx
  exact own_under (h.own t x hx hX) fun k hk => ho k (h.mine t x k hx hk).2.1
/-- What a call leaves that turns nothing but the files' own block. -/
def Left1 (w w' : World) (p : Nat) : Prop := w.grownBy w' (some p)
set_option maxHeartbeats 2000000 in
theorem froom_any {X : Option (List Nat)} (n : Int) (w : World) (p mb : Nat) (V : List Nat → Value) (F : Nat → Prop) (s : S) (h : At X w p mb V F s) :
    Calls Try.prog 19 #[.pointer (some ⟨p, 0, none⟩), .int .i64 n] w fun e w' => e = .returned (.tuple #[]) ∧ At X w' p mb V F { s with room := held n } ∧ w.grownBy w' (some p) := by
  obtain ⟨M1, hM1⟩ : ∃ M, max n 0 = M := ⟨_, rfl⟩
  have x1 := fun (W : World) ts t => run_top2 (P := Try.prog) W ts t n 0 M1 hM1
  have y1 := fun (W : World) ts t => run_low2 (P := Try.prog) W ts t M1 1073741824 (held n) (by unfold held; rw [hM1])
  have k1 : w.cell? ⟨p, 1, none⟩ = some (.int .i64 s.room) := h.blk.at 1
  have f1 : w.frozen? ⟨p, 1, none⟩ = false := h.blk.free 1
  have HA := Lib.hid (at_cell (s' := { s with room := held n }) h 1 (.int .i64 (held n)) rfl rfl rfl ⟨h.good.1, h.good.2.1, by simp only [held]; omega, by simp only [held]; omega, h.good.2.2.2.2⟩)
  have HG := Lib.hid (grown_setCell w ⟨p, 1, none⟩ (.int .i64 (held n)))
  obtain ⟨r, hr⟩ : ∃ r, held n = r := ⟨_, rfl⟩
  rw [hr] at HA HG y1 ⊢
  clear h hM1 hr
  go_enter Try.func19, Try.ntmps19
  go_wp2
  exact bodyPost_end (results_none rfl _ _ _) rfl ⟨rfl, HA.out, HG.out⟩
set_option maxHeartbeats 2000000 in
theorem fcut_any {X : Option (List Nat)} (n : Int) (w : World) (p mb : Nat) (V : List Nat → Value) (F : Nat → Prop) (s : S) (h : At X w p mb V F s) (hn : n ≤ 9223372036854775807) :
    Calls Try.prog 21 #[.pointer (some ⟨p, 0, none⟩), .int .i64 n] w fun e w' => e = .returned (.tuple #[]) ∧ At X w' p mb V F { s with cut := max n 0 } ∧ w.grownBy w' (some p) := by
  obtain ⟨M1, hM1⟩ : ∃ M, max n 0 = M := ⟨_, rfl⟩
  have x1 := fun (W : World) ts t => run_top2 (P := Try.prog) W ts t n 0 M1 hM1
  have k1 : w.cell? ⟨p, 4, none⟩ = some (.int .i64 s.cut) := h.blk.at 4
  have f1 : w.frozen? ⟨p, 4, none⟩ = false := h.blk.free 4
  have HA := Lib.hid (at_cell (s' := { s with cut := max n 0 }) h 4 (.int .i64 (max n 0)) rfl rfl rfl ⟨h.good.1, h.good.2.1, h.good.2.2.1, h.good.2.2.2.1, by show -1 ≤ max n 0; omega, by show max n 0 ≤ _; omega⟩)
  have HG := Lib.hid (grown_setCell w ⟨p, 4, none⟩ (.int .i64 (max n 0)))
  rw [hM1] at HA HG ⊢
  clear h hM1 hn
  go_enter Try.func21, Try.ntmps21
  go_wp2
  exact bodyPost_end (results_none rfl _ _ _) rfl ⟨rfl, HA.out, HG.out⟩
end Go.Proofs.Ytlfgadcfjjjbfaa
