/- What the library's variables hold, behind whatever the calls make. -/
import Derived.Test.YtgjehlegcmeeoaaGreatDoorShelf
import Derived.Test.YtgjehlegcmeeoaaGreatDoorZ11
import Derived.Test.YtgjehlegcmeeoaaGreatDoorZ03
import Derived.Lib.LaidTab
namespace Go.Proofs.YtgjehlegcmeeoaaGreatDoor
set_option maxRecDepth 100000
open Go.ChangeShapes Go.WideShapes Go.ChangeAt Go.RowKit

def Tabs (w : World) : Prop :=
  Lib.TabIs Tryz.prog w "internal/strconv.uint64pow10" .u64 Lib.pow10Tab ∧ (∃ m : Int, w.cell? ⟨0, 0, none⟩ = some (.int .i64 m)) ∧
    (∃ t p, w.cell? ⟨4, 0, none⟩ = some (.iface t p)) ∧ (∃ t p, w.cell? ⟨5, 0, none⟩ = some (.iface t p))
theorem cell_kept {w w' : World} {a : Addr} {v : Value} (hb : Below w.heap.size w w') (h : w.cell? a = some v) : w'.cell? a = some v := (hb.cell (World.block_lt_of_cell? _ _ h)).trans h
theorem tab_kept {P : Program} {w w' : World} {n : String} {k : IntKind} {zs : List Int} (hb : Below w.heap.size w w') (h : Lib.TabIs P w n k zs) : Lib.TabIs P w' n k zs := by
  unfold Lib.TabIs World.var? at h ⊢
  cases hg : P.globalNamed n with
  | none => simp [hg] at h
  | some g =>
    simp only [hg, Option.bind_some] at h ⊢
    have hlt : g < w.heap.size := by
      rcases Nat.lt_or_ge g w.heap.size with h' | h'
      · exact h'
      · simp [Array.getElem?_eq_none h'] at h
    rw [hb.block g hlt]
    exact h
theorem Tabs.under {w w' : World} (h : Tabs w) (hb : Below w.heap.size w w') : Tabs w' := by
  obtain ⟨h1, ⟨m, h2⟩, ⟨t, p, h3⟩, ⟨t', p', h4⟩⟩ := h
  exact ⟨tab_kept hb h1, ⟨m, cell_kept hb h2⟩, ⟨t, p, cell_kept hb h3⟩, ⟨t', p', cell_kept hb h4⟩⟩
theorem Tabs.alloc {w : World} (h : Tabs w) (o : Obj) : Tabs (w.alloc o) := h.under ((Below.refl _ _).alloc (Nat.le_refl _) _)
theorem Tabs.drewN {w : World} (h : Tabs w) (n : Nat) : Tabs (w.drewN n) := h
theorem below_grow (w : World) (k : Nat) (os : Array Obj) : Below w.heap.size w (Sort.grow (w.drewN k) os) := by
  refine ⟨rfl, rfl, rfl, ?_, fun i hi => ?_⟩
  · show w.heap.size ≤ (w.heap ++ os).size
    simp
  · show (w.heap ++ os)[i]? = w.heap[i]?
    exact Array.getElem?_append_left hi
theorem below_drewN (w : World) (n : Nat) : Below w.heap.size w (w.drewN n) := ⟨rfl, rfl, rfl, Nat.le_refl _, fun _ _ => rfl⟩
/-- Atoi: a number, or an error. -/
def AtoiIs (b : ByteArray) (w : World) (e : Ending) (w' : World) : Prop :=
  Below w.heap.size w w' ∧ ((∃ v : Int, Lib.atoiAll b.data.toList = .ok v ∧ e = .returned (.tuple #[.int .i64 v, .nilIface])) ∨ ((∀ v, Lib.atoiAll b.data.toList ≠ .ok v) ∧ ∃ (v : Int) (t : TypeId) (p : Value), e = .returned (.tuple #[.int .i64 v, .iface t p])))
theorem atoi_any (b : ByteArray) (w : World) (hb : b.size ≤ 281474976710656) (hT : Tabs w) : Calls Tryz.prog 152 #[.string b] w (AtoiIs b w) := by
  obtain ⟨h1, h2, ⟨t, p, h3⟩, ⟨t', p', h4⟩⟩ := hT
  rcases h : Lib.atoiAll b.data.toList with v | _ | _
  · refine (Tryz.strconv_Atoi_ok b (by omega) v h w).mono fun e w' ⟨he, hw⟩ => ⟨?_, .inl ⟨v, h, he⟩⟩
    rcases hw with rfl | ⟨t, rfl⟩
    · exact Below.refl _ _
    · exact Lib.bytesWorld_below _ _ _
  · refine (Any.strconv_Atoi_syntax Tryz.laysC172 b hb h _ w h3 (.inr ⟨t, p, rfl⟩)).mono fun e w' ⟨N, he, _, _, hw⟩ => ⟨hw, .inr ⟨fun v hv => ?_, _, _, _, he⟩⟩
    rw [h] at hv; cases hv
  · refine (Tryz.strconv_Atoi_range b hb h _ w h4 (.inr ⟨t', p', rfl⟩)).mono fun e w' ⟨N, he, _, _, hw⟩ => ⟨hw, .inr ⟨fun v hv => ?_, _, _, _, he⟩⟩
    rw [h] at hv; cases hv
theorem itoa_any (n : Nat) (hn : n ≤ 99999) (w : World) (hT : Tabs w) : Calls Tryz.prog 109 #[.int .i64 n] w fun e w' => e = .returned (.string (str (Nm.dec n))) ∧ Below w.heap.size w w' := by
  refine (Tryz.strconv_Itoa n (by omega) (by omega) w hT.1).mono fun e w' ⟨he, k, os, hw⟩ => ⟨?_, ?_⟩
  · rw [he, itoa_dec]
  · rw [hw]; exact below_grow w k os
end Go.Proofs.YtgjehlegcmeeoaaGreatDoor

/- Contracts of the program's own calls on names. -/
namespace Go.Proofs.YtgjehlegcmeeoaaGreatDoor
set_option maxRecDepth 100000
open Go.ChangeShapes Go.WideShapes Go.ChangeAt Go.RowKit

set_option maxRecDepth 100000 in
set_option maxHeartbeats 2000000 in
theorem may_any (x : Nat) (w : World) :
    Calls Tryz.prog 117 #[.int .u8 x] w fun e w' => e = .returned (.bool (Nm.okc x)) ∧ w = w' := by
  go_enter Tryz.func117, Tryz.ntmps117
  rcases Nm.okc_split x with ⟨ho, hc⟩ | ⟨ho, hc⟩
  · have HO := Lib.hid ho
    clear ho
    have hc' : ((97 : Int) ≤ (x : Int) ∧ (x : Int) ≤ 122) ∨ ((x : Int) < 97 ∧ (48 : Int) ≤ (x : Int) ∧ (x : Int) ≤ 57) ∨ x = 46 ∨ x = 45 ∨ x = 95 := by omega
    clear hc
    rcases hc' with ⟨c1, c2⟩ | ⟨c1, c2, c3⟩ | rfl | rfl | rfl
    all_goals
      go_wp2
      go_ret
      exact ⟨by rw [HO.out]; rfl, rfl⟩
  · have HO := Lib.hid ho
    clear ho
    have hc' : ((x : Int) < 45) ∨ x = 47 ∨ ((57 : Int) < (x : Int) ∧ (x : Int) < 95) ∨ x = 96 ∨ (122 : Int) < (x : Int) := by omega
    clear hc
    rcases hc' with c1 | rfl | ⟨c1, c2⟩ | rfl | c1
    all_goals
      go_wp2
      go_ret
      exact ⟨by rw [HO.out]; first | rfl | (simp; omega), rfl⟩

set_option maxRecDepth 100000 in
set_option maxHeartbeats 2000000 in
theorem ok_any (l : List Nat) (w : World) (hl : ∀ c ∈ l, c < 256) (hm : l.length ≤ 1073741824) :
    Calls Tryz.prog 95 #[.string (str l)] w fun e w' => e = .returned (.bool (Nm.ok l)) ∧ w = w' := by
  have hsz := str_size l
  obtain ⟨n, hn⟩ : ∃ n, l.length = n := ⟨_, rfl⟩
  rw [hn] at hm hsz
  have HN := Lib.hid hn
  have HG := Lib.hid (fun k h => str_get hl k h)
  clear hn hl
  obtain ⟨s, hs⟩ : ∃ s, str l = s := ⟨_, rfl⟩
  rw [hs] at hsz HG ⊢
  clear hs
  go_enter Tryz.func95, Tryz.ntmps95
  have hnc : (n : Int) < 1 ∨ ((1 : Int) ≤ (n : Int) ∧ (16 : Int) < (n : Int)) ∨ ((1 : Int) ≤ (n : Int) ∧ (n : Int) ≤ 16) := by omega
  have HW : Hid ((∀ j, j < n → Nm.okc (l.getD j 0) = true) → Nm.ok l = (decide (1 ≤ n) && decide (n ≤ 16))) := Lib.hid fun h => by
    rw [Nm.ok_of (Nm.all_of fun j hj => h j (by rw [HN.out] at hj; exact hj)), HN.out]
  have HZ : Hid (n < 1 ∨ 16 < n → Nm.ok l = false) := Lib.hid fun h => by
    unfold Nm.ok
    rw [HN.out]
    rcases h with h | h
    · rw [decide_eq_false (show ¬ 1 ≤ n by omega)]; simp
    · rw [decide_eq_false (show ¬ n ≤ 16 by omega)]; simp
  rcases hnc with c1 | ⟨c1, c2⟩ | ⟨c1, c2⟩
  · have HY := Lib.hid (HZ.out (.inl (by omega)))
    go_wp2
    go_ret
    exact ⟨by rw [HY.out]; rfl, rfl⟩
  · have HY := Lib.hid (HZ.out (.inr (by omega)))
    go_wp2
    go_ret
    exact ⟨by rw [HY.out]; rfl, rfl⟩
  · go_wp2_with fail
    go_loop [3, 14] (fun c i => ∃ k : Nat, k ≤ n ∧ i = .int .i64 k ∧ Hid (∀ j, j < k → Nm.okc (l.getD j 0) = true)) (fun _ i => n - (intOf i).toNat)
    case atStart => exact ⟨0, by omega, rfl, Lib.hid (by omega)⟩
    case round =>
      obtain ⟨k, hk, rfl, hall⟩ := hrel
      by_cases hlt : k < n
      · have hlt' : (k : Int) < (n : Int) := by omega
        have hks : k < s.size := by rw [hsz]; exact hlt
        obtain ⟨x, hx, HX⟩ : ∃ x, (s[k]'hks).toNat = x ∧ Hid (l.getD k 0 = x) := ⟨_, rfl, Lib.hid (HG.out k hks).symm⟩
        have hnext : Nm.okc x = true → ∀ j, j < k + 1 → Nm.okc (l.getD j 0) = true := fun h j hj => by
          rcases Nat.lt_or_ge j k with h1 | h1
          · exact hall.out j h1
          · rw [show j = k from by omega, HX.out]; exact h
        have HNX := Lib.hid hnext
        clear hnext
        go_wp2_with fail
        refine (may_any x w).mono ?_
        rintro e w' ⟨rfl, rfl⟩
        rcases ho : Nm.okc x with _ | _
        · have HV := Lib.hid (Nm.ok_not (l := l) (k := k) (by rw [HN.out]; exact hlt) (by rw [HX.out]; exact ho))
          clear ho
          go_wp2
          go_ret
          exact ⟨by rw [HV.out]; rfl, rfl⟩
        · have HO := Lib.hid (HNX.out ho)
          clear ho
          go_wp2
          go_round
          case rel => exact ⟨k + 1, by omega, by go_num, HO⟩
          case measure => simp [intOf]; omega
      · obtain rfl : k = n := by omega
        have HY : Hid (Nm.ok l = true) := Lib.hid (by rw [HW.out hall.out, decide_eq_true (show 1 ≤ k by omega), decide_eq_true (show k ≤ 16 by omega)]; rfl)
        go_wp2
        go_ret
        exact ⟨by rw [HY.out]; rfl, rfl⟩

end Go.Proofs.YtgjehlegcmeeoaaGreatDoor
