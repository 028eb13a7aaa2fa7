/- Files in memory: writing one, taking one away. -/
import Derived.Test.YtoloidfkpfdboaaZ03
import Derived.BigRegion
import Derived.Deep.RegionHeld3
import Derived.Deep.RegionWith
namespace Go.Proofs.Ytoloidfkpfdboaa
set_option maxRecDepth 100000
open Go.ChangeShapes Go.WideShapes Go.ChangeAt Go.RowKit Go.ChangeMaps
namespace Sf
theorem At.drew {X : Option (List Nat)} {w : World} {p mb : Nat} {V : List Nat → Value} {F : Nat → Prop} {s : S} (h : At X w p mb V F s) : At X w.drew p mb V F s := h.heap rfl
/-- What is behind the writing of a file. -/
theorem At.wrote {w w' : World} {p mb : Nat} {V : List Nat → Value} {F : Nat → Prop} {s : S} {t b : List Nat} {vb : Value} (h : At (some t) w p mb V F s) (ht : ∀ c ∈ t, c < 256) (hl : t.length ≤ 1048576)
    (hb : Blk w' p 51 (cells mb (wr s t b))) (hm : MapIs w' mb (s.next + 1) fun u => if u = t then some (elem vb (s.next + 1)) else (get s.l u).map fun x => elem (V u) x.stamp)
    (hk : ∀ k, k ≠ p → k ≠ mb → w'.heap[k]? = w.heap[k]?) (hs : w'.heap.size = w.heap.size) (ho : Own w 0 vb b) (hn : ∀ k, vb.ownBlock = some k → k ≠ p ∧ k ≠ mb)
    (hap : ∀ u x, get s.l u = some x → u ≠ t → (V u).ownBlock = none ∨ (V u).ownBlock ≠ vb.ownBlock) :
    At none w' p mb (fun u => if u = t then vb else V u) (fun k => F k ∨ vb.ownBlock = some k) (wr s t b) := by
  have hg : ∀ u, get (wr s t b).l u = if u = t then some ⟨t, b, s.next + 1⟩ else get s.l u := fun u => get_put s.l ⟨t, b, s.next + 1⟩ u
  have hcases : ∀ u x, get (wr s t b).l u = some x → (u = t ∧ x = ⟨t, b, s.next + 1⟩) ∨ (u ≠ t ∧ get s.l u = some x) := fun u x hx => by
    rw [hg u] at hx
    by_cases e : u = t
    · rw [if_pos e] at hx
      injection hx with hx
      exact .inl ⟨e, hx.symm⟩
    · rw [if_neg e] at hx
      exact .inr ⟨e, hx⟩
  refine ⟨hb, ?_, .inl h.fp, .inl h.fm, h.ne, fun k hk => ?_, fun u x hx _ => ?_, fun u x hx => ?_, fun u x k hx hk => ?_, fun u v x y hx hy huv => ?_, good_wr h.good ht hl⟩
  · have e : (fun u => (get (wr s t b).l u).map fun x => elem (if u = t then vb else V u) x.stamp) = fun u => if u = t then some (elem vb (s.next + 1)) else (get s.l u).map fun x => elem (V u) x.stamp := by
      funext u
      rw [hg u]
      by_cases e : u = t
      · rw [if_pos e, if_pos e]
        simp [e]
      · rw [if_neg e, if_neg e]
        simp [e]
    rw [e]
    exact hm
  · rw [hs]
    rcases hk with hk | hk
    · exact h.lt k hk
    · exact (ho.lt k hk).2
  · rcases hcases u x hx with ⟨rfl, rfl⟩ | ⟨e, hx⟩
    · rw [if_pos rfl]
      exact own_under ho fun k hk' => hk k (hn k hk').1 (hn k hk').2
    · rw [if_neg e]
      exact own_under (h.own u x hx (by simpa using fun e' => e e'.symm)) fun k hk' => hk k (h.mine u x k hx hk').2.1 (h.mine u x k hx hk').2.2
  · rcases hcases u x hx with ⟨rfl, rfl⟩ | ⟨e, hx⟩
    · rw [if_pos rfl]
      obtain ⟨_, _, A, c, e, _⟩ := ho.bytes.parts
      exact ⟨A, c, e⟩
    · rw [if_neg e]
      exact h.sl u x hx
  · rcases hcases u x hx with ⟨rfl, rfl⟩ | ⟨e, hx⟩
    · rw [if_pos rfl] at hk
      exact ⟨.inr hk, hn k hk⟩
    · rw [if_neg e] at hk
      obtain ⟨a, b⟩ := h.mine u x k hx hk
      exact ⟨.inl a, b⟩
  · rcases hcases u x hx with ⟨rfl, rfl⟩ | ⟨e, hx⟩
    · rcases hcases v y hy with ⟨rfl, rfl⟩ | ⟨e', hy⟩
      · exact absurd rfl huv
      · rw [if_pos rfl, if_neg e']
        rcases hap v y hy e' with h1 | h1
        · rw [h1]
          rcases hv : vb.ownBlock with _ | k
          · exact .inl rfl
          · exact .inr (by simp)
        · exact .inr h1.symm
    · rcases hcases v y hy with ⟨rfl, rfl⟩ | ⟨e', hy⟩
      · rw [if_pos rfl, if_neg e]
        exact hap u x (by assumption) e
      · rw [if_neg e, if_neg e']
        exact h.apart u v x y hx hy huv
theorem used_wr {s : S} (ho : Ord s.l) (t b : List Nat) : ((used (wr s t b).l : Nat) : Int) = (used s.l : Int) + ((b.length : Int) - ((bytes s.l t).length : Int)) := by
  have h1 := used_put s.l ⟨t, b, s.next + 1⟩
  have h2 := used_gone ho t
  have h3 : used (wr s t b).l = used (gone s.l t) + b.length := h1
  omega
end Sf
open Sf
theorem field0 (A : Option Addr) (m c : Nat) (k : Nat) (W : World) : (Instr.field 55 (.agg #[.slice A m c, .int .i64 (k : Int)]) 0).run Try.prog W = .ok (.slice A m c) W := by kernel_rfl
theorem field1 (A : Option Addr) (m c : Nat) (k : Nat) (W : World) : (Instr.field 55 (.agg #[.slice A m c, .int .i64 (k : Int)]) 1).run Try.prog W = .ok (.int .i64 (k : Int)) W := by kernel_rfl

set_option maxHeartbeats 2000000 in
theorem write_any (t b : List Nat) (vb : Value) (w : World) (p mb : Nat) (V : List Nat → Value) (F : Nat → Prop) (s : S) (h : At (some t) w p mb V F s) (ht : ∀ c ∈ t, c < 256) (hl : t.length ≤ 1048576)
    (ho : Own w 0 vb b) (hn : ∀ k, vb.ownBlock = some k → k ≠ p ∧ k ≠ mb) (hap : ∀ u x, get s.l u = some x → u ≠ t → (V u).ownBlock = none ∨ (V u).ownBlock ≠ vb.ownBlock) (hnx : s.next ≤ 1073741824) (hu : used s.l + b.length ≤ 1099511627776) :
    Calls Try.prog 22 #[.pointer (some ⟨p, 0, none⟩), .string (str t), vb] w fun e w' => e = .returned (.int .i64 ((s.next + 1 : Nat) : Int)) ∧
      At none w' p mb (fun u => if u = t then vb else V u) (fun k => F k ∨ vb.ownBlock = some k) (wr s t b) ∧ (∀ k, k ≠ p → k ≠ mb → w'.heap[k]? = w.heap[k]?) ∧ w'.heap.size = w.heap.size ∧ w'.os = w.os ∧ w'.tape = w.tape ∧ w'.output = w.output := by
  obtain ⟨_, _, A, c, rfl, _⟩ := ho.bytes.parts
  obtain ⟨A1, c1, hv1⟩ := h.valSl t
  have hlen := bytes_le h.good.1 t
  have HU := used_wr h.good.1 t b
  have hask := (h.drew).ask ht hl Try.underlying49
  rw [hv1] at hask
  unfold elem at hask
  obtain ⟨n, hn0⟩ : ∃ n, b.length = n := ⟨_, rfl⟩
  obtain ⟨m, hm0⟩ : ∃ m, (Sf.bytes s.l t).length = m := ⟨_, rfl⟩
  obtain ⟨us, hus⟩ : ∃ us, used s.l = us := ⟨_, rfl⟩
  obtain ⟨st, hst⟩ : ∃ st, stamp s.l t = st := ⟨_, rfl⟩
  obtain ⟨nx, hnx0⟩ : ∃ nx, s.next = nx := ⟨_, rfl⟩
  rw [hst] at hask
  have k0 : w.cell? ⟨p, 0, none⟩ = some (.map (some mb)) := h.blk.at 0
  have k2 : w.cell? ⟨p, 2, none⟩ = some (.int .i64 ((used s.l : Nat) : Int)) := h.blk.at 2
  have k3 : w.cell? ⟨p, 3, none⟩ = some (.int .i64 (s.next : Int)) := h.blk.at 3
  have f2 : w.frozen? ⟨p, 2, none⟩ = false := h.blk.free 2
  have f3 : w.frozen? ⟨p, 3, none⟩ = false := h.blk.free 3
  rw [hn0, hus] at hu
  rw [hm0, hus] at hlen
  rw [hn0, hm0, hus] at HU
  rw [hm0] at hask
  rw [hus] at k2
  rw [hnx0] at k3 hnx
  rw [hn0]
  have H := Lib.hid h
  have HO := Lib.hid ho
  have HT := Lib.hid (And.intro ht hl)
  have HN := Lib.hid hn
  have HAP := Lib.hid hap
  have HN0 := Lib.hid hn0
  have HM0 := Lib.hid hm0
  have HUS := Lib.hid hus
  have HNX := Lib.hid hnx0
  have HUW := Lib.hid HU
  clear h ho ht hl hn hap hn0 hm0 hus hnx0 HU hst hv1
  have hfd := field0 A1 m c1 st w.drew
  go_enter Try.func22, Try.ntmps22
  go_wp2_with fail
  go_region
  go_wp2_with fail
  obtain ⟨w3, hw3⟩ : ∃ w3, w3 = (w.setCell ⟨p, 2, none⟩ (.int .i64 ((us : Int) + ((n : Int) - (m : Int))))).setCell ⟨p, 3, none⟩ (.int .i64 ((nx : Int) + 1)) := ⟨_, rfl⟩
  rw [← hw3]
  have HB3 : Hid (Blk w3 p 51 (cells mb (wr s t b))) := Lib.hid (by
    have hb := (H.out.blk.set 2 (.int .i64 ((us : Int) + ((n : Int) - (m : Int))))).set 3 (.int .i64 ((nx : Int) + 1))
    rw [← hw3] at hb
    have e : cells mb (wr s t b) = ((cells mb s).setIfInBounds 2 (.int .i64 ((us : Int) + ((n : Int) - (m : Int))))).setIfInBounds 3 (.int .i64 ((nx : Int) + 1)) := by
      have e1 : (((wr s t b).next : Nat) : Int) = (nx : Int) + 1 := by rw [← HNX.out]; simp [wr]
      unfold cells
      rw [HUW.out, e1]
      rfl
    rw [e]
    exact hb)
  have HK3 : Hid (∀ k, k ≠ p → w3.heap[k]? = w.heap[k]?) := Lib.hid fun k hk => by
    rw [hw3, Below.heap_setCell _ _ _ _ (by exact hk), Below.heap_setCell _ _ _ _ (by exact hk)]
  have HS3 : Hid (w3.heap.size = w.heap.size ∧ w3.os = w.os ∧ w3.tape = w.tape ∧ w3.output = w.output) := Lib.hid (by
    rw [hw3]
    exact ⟨by simp, rfl, rfl, rfl⟩)
  clear hw3 k0 k2 k3 f2 f3 hask hfd
  have e1 : (((wr s t b).next : Nat) : Int) = (nx : Int) + 1 := by rw [← HNX.out]; simp [wr]
  have k0 : w3.cell? ⟨p, 0, none⟩ = some (.map (some mb)) := HB3.out.at 0
  have k3 : w3.cell? ⟨p, 3, none⟩ = some (.int .i64 ((nx : Int) + 1)) := by rw [← e1]; exact HB3.out.at 3
  clear e1
  obtain ⟨w4, hst, hm4, hg4, hk4, hs4⟩ := MapIs.run_store (w := w3.drew.drew) (MapIs.same H.out.map (HK3.out mb fun e => H.out.ne e.symm)) Try.underlying49 (by rw [HNX.out]; omega) HT.out.1 (by have := HT.out.2; omega) (.agg #[.slice A n c, .int .i64 ((nx : Int) + 1)])
  have HM4 := Lib.hid hm4
  have HK4 := Lib.hid hk4
  have HS4 := Lib.hid hs4
  have HG4 := Lib.hid (And.intro hg4.os (And.intro hg4.tape hg4.output))
  have HB4 : Hid (Blk w4 p 51 (cells mb (wr s t b))) := Lib.hid ((HK4.out p H.out.ne).trans HB3.out)
  have k4 : w4.cell? ⟨p, 3, none⟩ = some (.int .i64 ((nx : Int) + 1)) := by
    have e1 : (((wr s t b).next : Nat) : Int) = (nx : Int) + 1 := by rw [← HNX.out]; simp [wr]
    rw [← e1]
    exact HB4.out.at 3
  clear hm4 hk4 hs4 hg4
  go_region
  go_wp2
  go_ret
  have e1 : ((s.next + 1 : Nat) : Int) = (nx : Int) + 1 := by rw [HNX.out]; simp
  refine ⟨by rw [e1]; rfl, ?_, fun k h1 h2 => (HK4.out k h2).trans (HK3.out k h1), HS4.out.trans HS3.out.1, HG4.out.1.trans HS3.out.2.1, HG4.out.2.1.trans HS3.out.2.2.1, HG4.out.2.2.trans HS3.out.2.2.2⟩
  have ho := HO.out
  have hn := HN.out
  have hap := HAP.out
  rw [HN0.out] at ho hn hap
  refine H.out.wrote HT.out.1 HT.out.2 HB4.out ?_ (fun k h1 h2 => (HK4.out k h2).trans (HK3.out k h1)) (HS4.out.trans HS3.out.1) ho hn hap
  have hm := HM4.out
  rw [← e1] at hm
  exact hm

theorem at_removed {w w' : World} {p mb : Nat} {V : List Nat → Value} {F : Nat → Prop} {s : S} {t : List Nat} {X : Option (List Nat)} (h : At X w p mb V F s)
    (hb : Blk w' p 51 (cells mb (rm s t))) (hm : MapIs w' mb s.next fun u => if u = t then none else (get s.l u).map fun x => elem (V u) x.stamp)
    (hk : ∀ k, k ≠ p → k ≠ mb → w'.heap[k]? = w.heap[k]?) (hs : w'.heap.size = w.heap.size) : At X w' p mb V F (rm s t) := by
  have hg : ∀ u, get (rm s t).l u = if u = t then none else get s.l u := fun u => get_gone s.l t u
  have hold : ∀ u x, get (rm s t).l u = some x → u ≠ t ∧ get s.l u = some x := fun u x hx => by
    rw [hg u] at hx
    by_cases e : u = t
    · rw [if_pos e] at hx
      cases hx
    · rw [if_neg e] at hx
      exact ⟨e, hx⟩
  refine ⟨hb, ?_, h.fp, h.fm, h.ne, fun k hk => by rw [hs]; exact h.lt k hk, fun u x hx hX => ?_, fun u x hx => h.sl u x (hold u x hx).2, fun u x k hx => h.mine u x k (hold u x hx).2, fun u v x y hx hy => h.apart u v x y (hold u x hx).2 (hold v y hy).2, good_rm h.good t⟩
  · have e : (fun u => (get (rm s t).l u).map fun x => elem (V u) x.stamp) = fun u => if u = t then none else (get s.l u).map fun x => elem (V u) x.stamp := by
      funext u
      rw [hg u]
      by_cases e : u = t
      · rw [if_pos e, if_pos e]
        rfl
      · rw [if_neg e, if_neg e]
    rw [e]
    exact hm
  · have hx' := (hold u x hx).2
    exact own_under (h.own u x hx' hX) fun k hk' => hk k (h.mine u x k hx' hk').2.1 (h.mine u x k hx' hk').2.2
theorem used_rm {s : S} (ho : Ord s.l) (t : List Nat) : ((used (rm s t).l : Nat) : Int) = (used s.l : Int) - ((Sf.bytes s.l t).length : Int) := by
  have h2 := used_gone ho t
  have h3 : used (rm s t).l = used (gone s.l t) := rfl
  omega
theorem MapIs.run_drop {w : World} {b n : Nat} {f : List Nat → Option Value} (h : MapIs w b n f) {T e : TypeId} (ht : Try.prog.underlying T = some (.map 9 e)) {t : List Nat} (ht1 : ∀ c ∈ t, c < 256) (ht2 : t.length ≤ 1099511627776) (ty : TypeId) :
    ∃ w', (Builtin.delete_ #[T, 9] ty #[.map (some b), .string (str t)]).run Try.prog w = .ok (.tuple #[]) w' ∧ MapIs w' b n (fun u => if u = t then none else f u) ∧ w.grownBy w' (some b) ∧ (∀ k, k ≠ b → w'.heap[k]? = w.heap[k]?) ∧ w'.heap.size = w.heap.size := by
  obtain ⟨D, h1, h2⟩ := h
  obtain ⟨w', hrun, h3, h4⟩ := h1.drop keyed ht (key_of t (by unfold maxLen; omega)) ty
  refine ⟨w', hrun, ⟨_, h3, fun u hu => ?_⟩, h4.grown, ?_, ?_⟩
  · by_cases hut : u = t
    · subst hut
      simp only [if_true]
      exact ⟨Maps.has_del_same, fun v z hv => by cases hv⟩
    · have hne : keyL u ≠ keyL t := fun e => hut (keyL_inj hu ht1 e)
      dsimp only
      rw [Maps.has_del_other hne, if_neg hut]
      exact ⟨(h2 u hu).1, fun v z hv => by rw [Maps.atKey_del_other hne]; exact (h2 u hu).2 v z hv⟩
  · obtain ⟨es, c, es', c', hb, rfl⟩ := h4
    intro k hk
    exact heap_setBlock_other hb _ hk
  · obtain ⟨es, c, es', c', hb, rfl⟩ := h4
    simp [setBlock]

end Go.Proofs.Ytoloidfkpfdboaa
