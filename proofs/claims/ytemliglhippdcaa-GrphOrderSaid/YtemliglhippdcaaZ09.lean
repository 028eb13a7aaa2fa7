/- Rows of texts put behind each other: appends of whole rows, slices.Concat and slices.Grow. -/
import Derived.Test.YtemliglhippdcaaZ00
import Derived.Test.YtemliglhippdcaaManiMem0
import Derived.Lib.AppendZerosOnto
import Derived.Lib.Walk
import Derived.Deep.DeepCutAuto
import Derived.Deep.LoopGhost
import Derived.IntWalk
namespace Go.Proofs.Ytemliglhippdcaa
set_option maxRecDepth 100000
open Go.ChangeShapes Go.WideShapes Go.ChangeAt Go.RowKit

theorem rowT_one {l : List (List Nat)} : ∀ u ∈ rowT l, u.oneCell' = true := by
  intro u hu
  obtain ⟨n, _, rfl⟩ := List.mem_map.1 hu
  rfl
theorem rowT_at {l : List (List Nat)} {j : Nat} {u : Value} (h : (rowT l)[j]? = some u) : j < l.length ∧ u = .string (str (l.getD j [])) := by
  unfold rowT at h
  rw [List.getElem?_map] at h
  rcases hj : l[j]? with _ | x
  · rw [hj] at h
    cases h
  · rw [hj] at h
    injection h with h
    exact ⟨(List.getElem?_eq_some_iff.1 hj).1, by rw [List.getD_eq_getElem?_getD, hj, ← h]; rfl⟩
theorem run_append_texts {w : World} {base : Nat} {ty : TypeId} {v vx : Value} {l m : List (List Nat)} (hown : OwnT w base v l) (hx : SlT w vx m) (hlen : l.length + m.length ≤ 1000000) (hbase : base ≤ w.heap.size) :
    ∃ v' w', (Builtin.append_ #[24, 24] ty #[v, vx]).run Try.prog w = .ok v' w' ∧ OwnT w' base v' (l ++ m) ∧ w.grownBy w' v.ownBlock := by
  obtain ⟨i, hi, hz0, hz1, hz2⟩ := info_parts infoText
  have hrow : rowT (l ++ m) = rowT l ++ rowT m := List.map_append
  obtain ⟨A, c, rfl, hc, h2, h0⟩ := hx
  have hc3 : ∀ (ad : Addr), A = some ad → ∃ v' w', (Builtin.append_ #[24, 24] ty #[v, .slice (some ad) m.length c]).run Try.prog w = .ok v' w' ∧ OwnT w' base v' (l ++ m) ∧ w.grownBy w' v.ownBlock := by
    rintro ad rfl
    obtain ⟨v', w', hr, ho, hg, _, _⟩ := run_append_own_at (P := Try.prog) w base 24 ty 9 i (.string ⟨#[]⟩) 1 16 Try.underlying24 hi hz0 hz1 hz2 rfl (by decide) v l.length (rowT l) hown ad m.length c (rowT m) (by simp [rowT])
      (fun j u hu => by
        obtain ⟨hj, rfl⟩ := rowT_at hu
        obtain ⟨b, off, e, _, hcell⟩ := h0 (by omega)
        injection e with e
        subst e
        rw [add_plain]
        have := hcell j hj
        rw [Nat.mul_one] at this
        exact this) rowT_one (by unfold maxLen; omega) (by omega) hbase
    refine ⟨v', w', hr, ?_, hg⟩
    unfold OwnT
    rw [hrow, List.length_append]
    exact ho
  rcases A with _ | ad
  · rcases Nat.eq_zero_or_pos m.length with hz | hz
    · have : m = [] := List.eq_nil_of_length_eq_zero hz
      subst this
      refine ⟨v, w, run_append_none Try.underlying24 hi hown, by simpa using hown, World.grownBy.refl w _⟩
    · obtain ⟨b, off, e, _⟩ := h0 hz
      cases e
  · exact hc3 ad rfl
theorem wp_append_texts {w : World} {o : Oper} {a : Act} {K : Act → World → Prop} {Q : Exit → Act → World → Prop} (s x : Operand)
    (ho : o.op = .call { callee := .builtin .append, args := #[s, x], argTypes := #[24, 24] }) (base : Nat) (v vx : Value) (l m : List (List Nat)) (hs : a.eval s = v) (hown : OwnT w base v l) (hx : a.eval x = vx) (hb : SlT w vx m)
    (hlen : l.length + m.length ≤ 1000000) (hbase : base ≤ w.heap.size) (r : List (List Nat)) (hr : l ++ m = r)
    (h : ∀ v' w', GrewT base v r w v' w' → K (a.put o.dst v') w') : o.wp Try.prog a w K Q := by
  subst hr
  obtain ⟨v', w', hr, h2, h3⟩ := run_append_texts (ty := o.type) hown hb hlen hbase
  unfold Oper.wp execOp
  simp only [ho, resolve, invoke, builtin, Sem.run_bind, Sem.run_pure, Result.andThen_ok, List.map_toArray, List.map_cons, List.map_nil, hs, hx, hr]
  exact h v' w' ⟨h2, h3, (Below.refl _ _).grown h3 hbase fun k hk => (World.ownsRow.lt hown k hk).1⟩
/-- A whole row of texts behind another one. -/
theorem wpList_append_texts {w : World} {ops : Array Oper} {rest : List Oper} {o : Oper} {a : Act} {Q : Exit → Act → World → Prop} (hgd : o.guard = none) (s x : Operand)
    (ho : o.op = .call { callee := .builtin .append, args := #[s, x], argTypes := #[24, 24] }) (base : Nat) (v vx : Value) (l m : List (List Nat)) (hs : a.eval s = v) (hown : OwnT w base v l) (hx : a.eval x = vx) (hb : SlT w vx m)
    (hlen : l.length + m.length ≤ 1000000) (hbase : base ≤ w.heap.size) (r : List (List Nat)) (hr : l ++ m = r)
    (h : ∀ v' w', GrewT base v r w v' w' → wpList Try.prog ops Q rest (a.put o.dst v') w') : wpList Try.prog ops Q (o :: rest) a w :=
  wpList_plain hgd fun _ hK => wp_append_texts s x ho base v vx l m hs hown hx hb hlen hbase r hr fun v' w' hg => hK _ _ (h v' w' hg)
theorem step_append_texts {w : World} {ops : Array Oper} {o : Oper} {a : Act} {K : Act → World → Prop} {Q : Exit → Act → World → Prop} {E : Prop} (hgd : o.guard = none) (s x : Operand)
    (ho : o.op = .call { callee := .builtin .append, args := #[s, x], argTypes := #[24, 24] }) (base : Nat) (v vx : Value) (l m : List (List Nat)) (hs : a.eval s = v) (hown : OwnT w base v l) (hx : a.eval x = vx) (hb : SlT w vx m)
    (hlen : l.length + m.length ≤ 1000000) (hbase : base ≤ w.heap.size) (r : List (List Nat)) (hr : l ++ m = r)
    (h : ∀ v' w', GrewT base v r w v' w' → K (a.put o.dst v') w') : if Region.wanted o (yielded ops a.tmps) = true then Oper.wp Try.prog o a w K Q else E := by
  rw [if_pos (by simp [Region.wanted, hgd])]
  exact wp_append_texts s x ho base v vx l m hs hown hx hb hlen hbase r hr h
/-- A call that answers texts of its own. -/
def MadeT (base : Nat) (l : List (List Nat)) (w : World) (e : Ending) (w' : World) : Prop := ∃ v, e = .returned v ∧ OwnT w' base v l ∧ Below base w w'
/-- Rows of texts, as arguments. -/
def Rows2T (w : World) (v : Value) (LL : List (List (List Nat))) : Prop :=
  ∃ A c, v = .slice A LL.length c ∧ LL.length ≤ c ∧ (0 < LL.length → ∃ b off, A = some ⟨b, off, none⟩ ∧ ∀ k, k < LL.length → ∃ u, w.cell? ⟨b, off + k, none⟩ = some u ∧ SlT w u (LL.getD k []))
theorem cell_lt {w : World} {b o : Nat} {u : Value} (h : w.cell? ⟨b, o, none⟩ = some u) : b < w.heap.size := by
  rcases Nat.lt_or_ge b w.heap.size with h1 | h1
  · exact h1
  · exfalso
    have e : w.heap[b]? = none := Array.getElem?_eq_none h1
    simp [World.cell?, e] at h
theorem Rows2T.under {w w' : World} {v : Value} {LL : List (List (List Nat))} (h : Rows2T w v LL) (hb : Below w.heap.size w w') : Rows2T w' v LL := by
  obtain ⟨A, c, rfl, h1, hc⟩ := h
  refine ⟨A, c, rfl, h1, fun h0 => ?_⟩
  obtain ⟨b, off, rfl, hx⟩ := hc h0
  refine ⟨b, off, rfl, fun k hk => ?_⟩
  obtain ⟨u, h2, h3⟩ := hx k hk
  exact ⟨u, (World.cell?_of_block (hb.block b (cell_lt h2))).trans h2, h3.keep (Q := fun _ => True) (Keep.below hb) trivial⟩
theorem growT_room (w : World) (base cap : Nat) (cur : Array Value) (hb : base ≤ w.heap.size) (hm : cap ≤ maxLen) (hs : cur.size = cap) (W : World) (e : W.heap = w.heap) : OwnT (W.alloc (.cells cur 9)) base (.slice (some ⟨w.heap.size, 0, none⟩) 0 cap) [] := by
  rw [← e]
  exact ⟨rfl, .inr ⟨W.heap.size, cap, cur, rfl, by rw [e]; exact hb, heap_alloc_new W _, Nat.zero_le _, hm, by rw [hs]; omega, by simp [rowT]⟩⟩
theorem flatT_take (L : List (List (List Nat))) (k : Nat) (h : k < L.length) : (L.take (k + 1)).flatten = (L.take k).flatten ++ L.getD k [] := by
  rw [List.take_succ_eq_append_getElem h, List.flatten_append, List.getD_eq_getElem?_getD, List.getElem?_eq_getElem h]
  simp
theorem flatT_le (L : List (List (List Nat))) (k : Nat) : (L.take k).flatten.length ≤ L.flatten.length := by
  conv => rhs; rw [← List.take_append_drop k L, List.flatten_append, List.length_append]
  omega
end Go.Proofs.Ytemliglhippdcaa

/- What slices.Concat and slices.Grow answer on rows of texts. -/
namespace Go.Proofs.Ytemliglhippdcaa
set_option maxRecDepth 100000
open Go.ChangeShapes Go.WideShapes Go.ChangeAt Go.RowKit

set_option maxHeartbeats 2000000 in
theorem growT_any (n : Nat) (w : World) (hn : n ≤ 1000000) :
    Calls Try.prog 72 #[.slice none 0 0, .int .i64 (n : Int)] w (MadeT w.heap.size [] w) := by
  rcases Nat.eq_zero_or_pos n with rfl | h0
  · go_enter Try.func72, Try.ntmps72
    go_wp2
    go_ret
    exact ⟨_, rfl, ownT_none _ _, Below.refl _ _⟩
  · obtain ⟨i, hi, hz0, hz1, hz2⟩ := info_parts infoText
    have hold : (Builtin.firstCells i.size 0 (.slice none 0 0)).run Try.prog w.drew = .ok (#[] : Array Value) w.drew := run_firstCells_none w.drew i.size 0 0 0
    have hrz : ∀ ty, (Builtin.append_ #[24, 3] ty #[.slice none 0 0, .int .i64 (n : Int)]).run Try.prog w =
        .ok (.slice (some ⟨w.heap.size, 0, none⟩) n (grownCap w n 0 9)) (w.drew.alloc (.cells (#[] ++ Builtin.zeroCells (Value.string ⟨#[]⟩).cells n ++ Builtin.zeroCells (Value.string ⟨#[]⟩).cells (grownCap w n 0 9 - n)) 9)) := fun ty => by
      have h := Lib.run_append_grow_zeros w 24 3 ty 9 i (.string ⟨#[]⟩) .i64 .i64 Try.underlying24 Try.underlying3 hi hz0 none 0 0 [] hold n h0 (by rw [hz1]; decide) (by omega) (by omega) (by rw [hz2]; omega)
        (by rw [Nat.zero_add]; exact growslice_fits (by omega) (by rw [hz2]; omega))
      rw [Nat.zero_add] at h
      exact h
    have hGn : n ≤ grownCap w n 0 9 := grownCap_ge w _ _ _
    have hGm := grownCap_le_maxLen w n 0 9 (by unfold maxLen; omega)
    obtain ⟨G, hG⟩ : ∃ G, G = grownCap w n 0 9 := ⟨_, rfl⟩
    rw [← hG] at hrz hGn hGm
    have hG63 : G ≤ 9223372036854775807 := by unfold maxLen at hGm; omega
    have h1 : (n : Int) > 0 := by omega
    clear hold hG
    go_enter Try.func72, Try.ntmps72
    go_wp2_with (at_builtin; refine Lib.wpList_append_run _ rfl _ _ _ _ rfl _ _ rfl rfl _ _ (hrz _) ?_)
    go_ret
    refine ⟨_, rfl, growT_room w w.heap.size G _ (Nat.le_refl _) hGm ?_ w.drew rfl, ⟨rfl, rfl, rfl, by simp, fun k hk => Below.heap_alloc w.drew _ k hk⟩⟩
    simp [size_zeroCells]
    omega

set_option maxHeartbeats 2000000 in
theorem concatT_any (v : Value) (L : List (List (List Nat))) (w : World) (h : Rows2T w v L) (hL : L.flatten.length ≤ 1000000) (hn : L.length ≤ 1000000) :
    Calls Try.prog 57 #[v] w (MadeT w.heap.size L.flatten w) := by
  have H := Lib.hid h
  obtain ⟨A, c, rfl, hc, _⟩ := h
  obtain ⟨n, hn'⟩ : ∃ n, L.length = n := ⟨_, rfl⟩
  rw [hn'] at H hn hc ⊢
  have HN := Lib.hid hn'
  clear hn'
  have HAT : Hid (∀ W, Rows2T W (.slice A n c) L → ∀ k, k < n → ∃ b off Au mu cu, A = some ⟨b, off, none⟩ ∧ W.cell? ⟨b, off + k, none⟩ = some (.slice Au mu cu) ∧ mu = (L.getD k []).length ∧ SlT W (.slice Au mu cu) (L.getD k [])) := Lib.hid (by
    intro W hW k hk
    obtain ⟨A', c', e, _, hx⟩ := hW
    injection e with e1 e2 e3
    subst e1
    obtain ⟨b, off, rfl, hx2⟩ := hx (by omega)
    obtain ⟨u, hu, hs⟩ := hx2 k (by omega)
    have hs' := hs
    obtain ⟨Au, cu, rfl, _⟩ := hs
    exact ⟨b, off, Au, _, cu, rfl, hu, rfl, hs'⟩)
  go_enter Try.func57, Try.ntmps57
  go_wp2
  go_loop [3, 11] (fun t i => ∃ k : Nat, k ≤ n ∧ i = .int .i64 k ∧ t = .int .i64 (((L.take k).flatten.length : Nat) : Int)) (fun _ i => n - (intOf i).toNat)
  case atStart => exact ⟨0, by omega, rfl, rfl⟩
  case round =>
    obtain ⟨k, hk, rfl, rfl⟩ := hrel
    have hle := flatT_le L k
    obtain ⟨S, hS⟩ : ∃ S, (L.take k).flatten.length = S := ⟨_, rfl⟩
    rw [hS] at hle ⊢
    have HS := Lib.hid hS
    clear hS
    by_cases hlt : k < n
    · have hkI : (k : Int) < (n : Int) := by omega
      obtain ⟨b, off, Au, mu, cu, rfl, hcu, hmu, hu⟩ := HAT.out _ H.out k hlt
      have hnext := flatT_take L k (by rw [HN.out]; exact hlt)
      have hle2 := flatT_le L (k + 1)
      rw [hnext, List.length_append, HS.out, ← hmu] at hle2
      have HM := Lib.hid hmu
      have hng : ¬ ((S : Int) + (mu : Int) < 0) := by omega
      clear hu hmu
      go_wp2
      go_round
      case rel => exact ⟨k + 1, by omega, by go_num, by rw [hnext, List.length_append, HS.out, ← HM.out]; rfl⟩
      case measure => simp [intOf]; omega
    · obtain rfl : k = n := by omega
      have hkI : ¬ (k : Int) < (k : Int) := by omega
      go_wp2_with fail
      refine (growT_any S w (by omega)).mono ?_
      rintro e w1 ⟨v1, rfl, ho1, hb1⟩
      have HO1 := Lib.hid ho1
      clear ho1
      go_wp2_with fail
      go_loopw [6, 27] (fun v' i wr => ∃ j : Nat, j ≤ k ∧ i = .int .i64 j ∧ OwnT wr w.heap.size v' (L.take j).flatten ∧ Below w.heap.size w wr) (fun _ i _ => k - (intOf i).toNat)
      case atStart => exact ⟨0, Nat.zero_le _, rfl, by simpa using HO1.out, hb1⟩
      case round =>
        obtain ⟨j, hj, rfl, hv, hb⟩ := hrel
        have HV := Lib.hid hv
        have hwz := hb.size
        have hle := flatT_le L j
        clear hv
        by_cases hlt : j < k
        · have hjI : (j : Int) < (k : Int) := by omega
          obtain ⟨b, off, Au, mu, cu, rfl, hcu, hmu, hu⟩ := HAT.out _ (H.out.under hb) j hlt
          have HU := Lib.hid hu
          have hnext := flatT_take L j (by rw [HN.out]; exact hlt)
          have hle2 := flatT_le L (j + 1)
          rw [hnext, List.length_append] at hle2
          have HX := Lib.hid hnext.symm
          clear hu hnext hmu
          go_wp2_with (at_builtin; refine wpList_append_texts rfl _ _ rfl w.heap.size _ _ (L.take j).flatten (L.getD j []) rfl HV.out rfl HU.out ?_ hwz (L.take (j + 1)).flatten HX.out ?_)
          case refine_1 => omega
          case refine_2 =>
            intro v' w' hg
            obtain ⟨ho', _, hb'⟩ := hg
            have HO' := Lib.hid ho'
            have hb2 := hb.trans hb'
            clear ho' hb hb'
            go_wp2
            go_roundw
            case rel => exact ⟨j + 1, by omega, by go_num, HO'.out, hb2⟩
            case measure => simp [intOf]; omega
        · obtain rfl : j = k := by omega
          have hjI : ¬ (j : Int) < (j : Int) := by omega
          go_wp2
          go_ret
          refine ⟨_, rfl, ?_, hb⟩
          have := HV.out
          rwa [List.take_of_length_le (by rw [HN.out]; exact Nat.le_refl _)] at this
end Go.Proofs.Ytemliglhippdcaa
