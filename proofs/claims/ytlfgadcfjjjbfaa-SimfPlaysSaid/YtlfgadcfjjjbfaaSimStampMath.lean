/- Files in memory: which stamps they have behind each call. -/
import Derived.Test.YtlfgadcfjjjbfaaSimRoomMath
import Derived.Test.YtlfgadcfjjjbfaaSimNames
namespace Go.Proofs.Ytlfgadcfjjjbfaa
set_option maxRecDepth 100000
open Go.ChangeShapes Go.WideShapes Go.ChangeAt Go.RowKit Go.ChangeMaps
open Sf

theorem stamp_wr (s : S) (t b u : List Nat) : stamp (wr s t b).l u = if u = t then s.next + 1 else stamp s.l u := by
  unfold stamp
  rw [get_wr]
  by_cases h : u = t <;> simp [h]
theorem stamp_rm (s : S) (t u : List Nat) : stamp (rm s t).l u = if u = t then 0 else stamp s.l u := by
  unfold stamp
  rw [show Sf.get (rm s t).l u = if u = t then none else Sf.get s.l u from get_gone s.l t u]
  by_cases h : u = t <;> simp [h]
theorem stamp_some {s : S} (hg : Sf.Good s) (t : List Nat) : (Sf.get s.l t).isSome = decide (0 < stamp s.l t) := by
  unfold stamp
  rcases h : Sf.get s.l t with _ | x
  · rfl
  · have := (hg.2.1 x (get_some h).1).2.2.1
    simp
    omega
theorem stamp_le {s : S} (hg : Sf.Good s) (t : List Nat) : stamp s.l t ≤ s.next := by
  unfold stamp
  rcases h : Sf.get s.l t with _ | x
  · exact Nat.zero_le _
  · exact (hg.2.1 x (get_some h).1).2.2.2
/-- What a call that writes comes to. -/
structure Res (s s' : S) (st e : Nat) (too : List Nat) (gone : Option (List Nat)) : Prop where
  bad : e ≠ 0 → s' = s
  good : e = 0 → s'.next = s.next + 1 ∧ st = s.next + 1 ∧ stamp s'.l too = s.next + 1 ∧ ∀ t, t ≠ too → stamp s'.l t = if gone = some t then 0 else stamp s.l t
  used : used s'.l ≤ used s.l + 1
  cut : s'.cut = s.cut
  room : s'.room = s.room
  next : s'.next ≤ s.next + 1
theorem res_wr (s : S) (t b : List Nat) (h : used (wr s t b).l ≤ used s.l + 1) : Res s (wr s t b) (s.next + 1) 0 t none :=
  ⟨fun h => absurd rfl h, fun _ => ⟨rfl, rfl, by rw [stamp_wr, if_pos rfl], fun u hu => by rw [stamp_wr, if_neg hu]; simp⟩, h, rfl, rfl, Nat.le_refl _⟩
theorem res_bad (s : S) (e : Nat) (he : e ≠ 0) (t : List Nat) (g : Option (List Nat)) : Res s s 0 e t g :=
  ⟨fun _ => rfl, fun h => absurd h he, Nat.le_succ _, rfl, rfl, Nat.le_succ _⟩
theorem res_put {s : S} (ho : Ord s.l) (t : List Nat) (hf : Nm.file t = true) (hr : s.room = 1048576) (hu : used s.l ≤ 1000) : ∃ s' st e, putS s t [1] = (s', st, e) ∧ Res s s' st e t none ∧ e = 0 := by
  have hfit : fits s t [(1 : Nat)].length = true := by
    unfold fits
    rw [hr]
    simp
    omega
  have := used_nat ho t [1]
  simp at this
  exact ⟨_, _, _, putS_yes hf hfit, res_wr s t [1] (by omega), rfl⟩
theorem res_make {s : S} (ho : Ord s.l) (t : List Nat) (hf : Nm.file t = true) (hr : s.room = 1048576) (hu : used s.l ≤ 1000) : ∃ s' st e, make s t [1] = (s', st, e) ∧ Res s s' st e t none := by
  unfold make
  rw [if_pos hf]
  by_cases h : (Sf.get s.l t).isSome = true
  · rw [if_pos h]
    exact ⟨_, _, _, rfl, res_bad s 3 (by omega) t none⟩
  · rw [if_neg h]
    obtain ⟨s', st, e, h1, h2, _⟩ := res_put ho t hf hr hu
    exact ⟨s', st, e, h1, h2⟩
theorem res_app {s : S} (ho : Ord s.l) (t b : List Nat) (g : List (List Nat × Int)) (hg : refuse s.l g [t] = 0) (hc : s.cut = -1) (hr : s.room = 1048576) (hu : used s.l ≤ 1000) (hb : b.length ≤ 1) : ∃ s' st e, app s t b g = (s', st, e) ∧ Res s s' st e t none ∧ e = 0 := by
  have hp : Sf.part s b.length = (s, b.length, 0) := by
    unfold Sf.part
    rw [if_pos hc, hr, if_pos (by omega)]
  have := used_nat ho t (Sf.bytes s.l t ++ b)
  rw [List.length_append] at this
  exact ⟨_, _, _, by unfold app; rw [if_pos hg, hp, if_pos rfl], res_wr s t (Sf.bytes s.l t ++ b) (by omega), rfl⟩
theorem res_move {s : S} (ho : Ord s.l) (a b : List Nat) (ha : Nm.file a = true) (hb : Nm.file b = true) : ∃ s' st e, Sf.move s a b [] = (s', st, e) ∧ Res s s' st e b (some a) ∧ (e = 0 → a ≠ b) := by
  have hr : refuse s.l [] [a, b] = 0 := by simp [Sf.refuse, Sf.guards, ha, hb]
  unfold Sf.move
  by_cases hab : a = b
  · rw [if_pos hab]
    exact ⟨_, _, _, rfl, res_bad s 1 (by omega) b _, fun h => by omega⟩
  · rw [if_neg hab, if_pos hr]
    by_cases h : (Sf.get s.l a).isSome = true
    · rw [if_pos h]
      have h1 := used_nat (s := rm s a) (ord_gone ho a) b (Sf.bytes s.l a)
      have h2 := used_rmN ho a
      refine ⟨_, _, _, rfl, ⟨fun h => absurd rfl h, fun _ => ⟨rfl, rfl, by rw [stamp_wr, if_pos rfl]; rfl, fun t ht => ?_⟩, by omega, rfl, rfl, Nat.le_refl _⟩, fun _ => hab⟩
      rw [stamp_wr, if_neg ht, stamp_rm]
      by_cases e : t = a
      · rw [if_pos e, if_pos (by rw [e])]
      · rw [if_neg e, if_neg (by simpa using fun h => e h.symm)]
    · rw [if_neg h]
      exact ⟨_, _, _, rfl, res_bad s 4 (by omega) b _, fun h => by omega⟩
/-- What a drop comes to. -/
theorem res_drop {s : S} (ho : Ord s.l) (a : List Nat) (ha : Nm.file a = true) : ∃ s' e, Sf.drop s a [] = (s', e) ∧ (e ≠ 0 → s' = s) ∧ (e = 0 → ∀ t, stamp s'.l t = if t = a then 0 else stamp s.l t) ∧ used s'.l ≤ used s.l ∧ s'.cut = s.cut ∧ s'.room = s.room ∧ s'.next = s.next := by
  have hr : refuse s.l [] [a] = 0 := by simp [Sf.refuse, Sf.guards, ha]
  unfold Sf.drop
  rw [if_pos hr]
  by_cases h : (Sf.get s.l a).isSome = true
  · rw [if_pos h]
    have h2 := used_rmN ho a
    exact ⟨_, _, rfl, fun h => absurd rfl h, fun _ t => stamp_rm s a t, by omega, rfl, rfl, rfl⟩
  · rw [if_neg h]
    exact ⟨_, _, rfl, fun _ => rfl, fun h => by omega, Nat.le_refl _, rfl, rfl, rfl⟩
theorem nm_inj {i j : Nat} (hi : i < 4) (hj : j < 4) (h : nm i = nm j) : i = j := by
  have h1 : i = 0 ∨ i = 1 ∨ i = 2 ∨ i = 3 := by omega
  have h2 : j = 0 ∨ j = 1 ∨ j = 2 ∨ j = 3 := by omega
  rcases h1 with rfl | rfl | rfl | rfl <;> rcases h2 with rfl | rfl | rfl | rfl <;> first | rfl | (exfalso; revert h; decide)
theorem nm_zz {i : Nat} (hi : i < 4) : nm i ≠ [122, 122] := by
  have h1 : i = 0 ∨ i = 1 ∨ i = 2 ∨ i = 3 := by omega
  rcases h1 with rfl | rfl | rfl | rfl <;> decide
theorem nm_file {i : Nat} (hi : i < 4) : Nm.file (nm i) = true := by
  have h1 : i = 0 ∨ i = 1 ∨ i = 2 ∨ i = 3 := by omega
  rcases h1 with rfl | rfl | rfl | rfl <;> decide
theorem nice_nm4 {i : Nat} (hi : i < 4) : Nice (nm i) := nice_nm i (by omega)

/-- The files, what was seen, what was last; of the names in h what was last is not told. u: bytes, n: stamps, c: entries at most. -/
structure Sv (h : List Nat → Prop) (w0 wr : World) (p lb sb : Nat) (s : S) (u n c : Nat) : Prop where
  fk : Fk (fun k => k = lb ∨ k = sb) w0 wr p s
  last : ∃ f m, MapIs wr lb m f ∧ m ≤ c ∧ ∀ j, j < 4 → ¬ h (nm j) → (f (nm j)).getD (.int .i64 0) = .int .i64 ((stamp s.l (nm j) : Nat) : Int)
  seen : ∃ g m, MapI wr sb m g ∧ m ≤ c ∧ ∀ x v, g x = some v → x ≤ (s.next : Int)
  ne : lb ≠ sb
  lb0 : w0.heap.size ≤ lb
  sb0 : w0.heap.size ≤ sb
  cut : s.cut = -1
  room : s.room = 1048576
  used : used s.l ≤ u
  next : s.next ≤ n
def noH : List Nat → Prop := fun _ => False
variable {h : List Nat → Prop} {w0 wr w' : World} {p lb sb : Nat} {s s' : S} {u n c : Nat}
theorem Sv.under (v : Sv h w0 wr p lb sb s u n c) (hb : Below wr.heap.size wr w') : Sv h w0 w' p lb sb s u n c := by
  obtain ⟨f, m, h1, h2, h3⟩ := v.last
  obtain ⟨g, k, g1, g2, g3⟩ := v.seen
  exact ⟨v.fk.under hb, ⟨f, m, h1.same (hb.block lb h1.lt), h2, h3⟩, ⟨g, k, g1.same (hb.block sb g1.lt), g2, g3⟩, v.ne, v.lb0, v.sb0, v.cut, v.room, v.used, v.next⟩
theorem Sv.more (v : Sv h w0 wr p lb sb s u n c) {u' n' c' : Nat} (hu : u ≤ u') (hn : n ≤ n') (hc : c ≤ c') : Sv h w0 wr p lb sb s u' n' c' := by
  obtain ⟨f, m, h1, h2, h3⟩ := v.last
  obtain ⟨g, k, g1, g2, g3⟩ := v.seen
  exact ⟨v.fk, ⟨f, m, h1, Nat.le_trans h2 hc, h3⟩, ⟨g, k, g1, Nat.le_trans g2 hc, g3⟩, v.ne, v.lb0, v.sb0, v.cut, v.room, Nat.le_trans v.used hu, Nat.le_trans v.next hn⟩
theorem Sv.hole (v : Sv h w0 wr p lb sb s u n c) (x : List Nat → Prop) (hx : ∀ t, h t → x t) : Sv x w0 wr p lb sb s u n c := by
  obtain ⟨f, m, h1, h2, h3⟩ := v.last
  exact { v with last := ⟨f, m, h1, h2, fun j hj hn => h3 j hj fun e => hn (hx _ e)⟩ }
/-- Behind a call that wrote nothing. -/
theorem Sv.bad (v : Sv h w0 wr p lb sb s u n c) (hk : Fk (fun k => k = lb ∨ k = sb) w0 w' p s') (hkk : Kept (fun k => k = lb ∨ k = sb) wr w') (he : s' = s) : Sv h w0 w' p lb sb s u n c := by
  obtain ⟨f, m, h1, h2, h3⟩ := v.last
  obtain ⟨g, k, g1, g2, g3⟩ := v.seen
  subst he
  exact ⟨hk, ⟨f, m, h1.same (hkk.2 lb (.inl rfl)), h2, h3⟩, ⟨g, k, g1.same (hkk.2 sb (.inr rfl)), g2, g3⟩, v.ne, v.lb0, v.sb0, v.cut, v.room, v.used, v.next⟩
/-- Behind a call that wrote the file too. -/
theorem Sv.wrote (v : Sv noH w0 wr p lb sb s u n c) (hk : Fk (fun k => k = lb ∨ k = sb) w0 w' p s') (hkk : Kept (fun k => k = lb ∨ k = sb) wr w') {st e : Nat} {too : List Nat} {gone : Option (List Nat)} (r : Res s s' st e too gone) (he : e = 0) :
    Sv (fun t => t = too ∨ gone = some t) w0 w' p lb sb s' (u + 1) (n + 1) c := by
  obtain ⟨f, m, h1, h2, h3⟩ := v.last
  obtain ⟨g, k, g1, g2, g3⟩ := v.seen
  obtain ⟨r1, r2, r3, r4⟩ := r.good he
  refine ⟨hk, ⟨f, m, h1.same (hkk.2 lb (.inl rfl)), h2, fun j hj hne => ?_⟩, ⟨g, k, g1.same (hkk.2 sb (.inr rfl)), g2, fun x y hx => by have := g3 x y hx; omega⟩, v.ne, v.lb0, v.sb0, r.cut.trans v.cut, r.room.trans v.room, by have := r.used; have := v.used; omega, by have := v.next; omega⟩
  rw [r4 (nm j) (fun e => hne (.inl e)), if_neg (fun e => hne (.inr e))]
  exact h3 j hj (fun e => e)
/-- Behind a drop. -/
theorem Sv.dropped (v : Sv noH w0 wr p lb sb s u n c) (hk : Fk (fun k => k = lb ∨ k = sb) w0 w' p s') (hkk : Kept (fun k => k = lb ∨ k = sb) wr w') {a : List Nat} (hst : ∀ t, stamp s'.l t = if t = a then 0 else stamp s.l t) (hu : Sf.used s'.l ≤ Sf.used s.l) (hc : s'.cut = s.cut) (hr : s'.room = s.room) (hn : s'.next = s.next) :
    Sv (fun t => t = a) w0 w' p lb sb s' u n c := by
  obtain ⟨f, m, h1, h2, h3⟩ := v.last
  obtain ⟨g, k, g1, g2, g3⟩ := v.seen
  refine ⟨hk, ⟨f, m, h1.same (hkk.2 lb (.inl rfl)), h2, fun j hj hne => ?_⟩, ⟨g, k, g1.same (hkk.2 sb (.inr rfl)), g2, fun x y hx => by have := g3 x y hx; omega⟩, v.ne, v.lb0, v.sb0, hc.trans v.cut, hr.trans v.room, Nat.le_trans hu v.used, by rw [hn]; exact v.next⟩
  rw [hst, if_neg hne]
  exact h3 j hj (fun e => e)
theorem Sv.turn (v : Sv h w0 wr p lb sb s u n c) {b : Nat} (hb : b = lb ∨ b = sb) (hg : wr.grownBy w' (some b)) (hs : ∀ k, k ≠ b → w'.heap[k]? = wr.heap[k]?) : Fk (fun k => k = lb ∨ k = sb) w0 w' p s :=
  v.fk.turned hb (by
    rcases hb with e | e
    · rw [e]; exact v.lb0
    · rw [e]; exact v.sb0) hg hs
end Go.Proofs.Ytlfgadcfjjjbfaa
