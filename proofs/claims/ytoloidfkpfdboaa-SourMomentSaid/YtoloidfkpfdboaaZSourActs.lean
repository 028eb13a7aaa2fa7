/- SourMoment's files: four names, written by a script. -/
import Derived.Test.YtoloidfkpfdboaaZSourLaw
namespace Go.Proofs.Ytoloidfkpfdboaa
set_option maxRecDepth 100000
open Sf
namespace Sr
def moL : List (List Nat) := [[115], [116], [97], [98]]
theorem mo_file : ∀ t ∈ moL, Nm.file t = true := by decide +kernel
theorem mo_small : ∀ t ∈ moL, (∀ c ∈ t, c < 256) ∧ t.length ≤ 1048576 := by
  intro t ht
  simp only [moL, List.mem_cons, List.not_mem_nil, or_false] at ht
  rcases ht with rfl | rfl | rfl | rfl <;> exact ⟨by simp, by simp⟩
theorem mo_inj {i k : Nat} (hi : i < 4) (hk : k < 4) (h : moL.getD i [] = moL.getD k []) : i = k := by
  have h1 : i = 0 ∨ i = 1 ∨ i = 2 ∨ i = 3 := by omega
  have h2 : k = 0 ∨ k = 1 ∨ k = 2 ∨ k = 3 := by omega
  rcases h1 with rfl | rfl | rfl | rfl <;> rcases h2 with rfl | rfl | rfl | rfl <;> first | rfl | (exfalso; revert h; decide)
theorem mo_mem {i : Nat} (h : i < 4) : moL.getD i [] ∈ moL := mem_getD (L := moL) h
/-- The first k of the four are there. -/
structure Mo (s : S) (k c : Nat) : Prop where
  get : ∀ i, i < k → ∃ n j, n ≤ 1 ∧ Sf.get s.l (moL.getD i []) = some ⟨moL.getD i [], bOf (moL.getD i []) n, j⟩
  next : s.next ≤ c
  used : used s.l ≤ 24 * c
  room : s.room = 1048576
  good : Sf.Good s
theorem mo_begin : Mo (new 1048576) 0 0 := ⟨fun i hi => by omega, Nat.le_refl _, Nat.le_refl _, rfl, good_new _⟩
theorem Mo.put {s : S} {k c i n : Nat} (h : Mo s k c) (hc : c ≤ 100) (hi : i < 4) (hik : i ≤ k) (hn : n ≤ 1) : putS s (moL.getD i []) (bOf (moL.getD i []) n) = (wr s (moL.getD i []) (bOf (moL.getD i []) n), s.next + 1, 0) ∧ Mo (wr s (moL.getD i []) (bOf (moL.getD i []) n)) (if i = k then k + 1 else k) (c + 1) := by
  have hu := h.used
  have hl := bOf_len (moL.getD i []) n
  have hs := mo_small _ (mo_mem hi)
  refine ⟨sput_ok _ _ (mo_file _ (mo_mem hi)) (by rw [h.room]; omega), fun m hm => ?_, by show s.next + 1 ≤ _; have := h.next; omega, ?_, h.room, good_wr h.good hs.1 hs.2⟩
  · rw [sget_wr]
    by_cases e : moL.getD m [] = moL.getD i []
    · rw [if_pos e]
      exact ⟨n, s.next + 1, hn, by rw [e]⟩
    · rw [if_neg e]
      refine h.get m ?_
      by_cases e2 : i = k
      · rw [if_pos e2] at hm
        by_cases e3 : m = i
        · subst e3
          exact absurd rfl e
        · omega
      · rw [if_neg e2] at hm
        exact hm
  · have := sused_wr h.good.1 (moL.getD i []) (bOf (moL.getD i []) n)
    omega
/-- One act of the script. -/
def one (s : S) (z : Int) : S :=
  if 0 < (bits .and .i64 z 3).toNat then wr s (moL.getD (bits .and .i64 (z / 4) 3).toNat []) (bOf (moL.getD (bits .and .i64 (z / 4) 3).toNat []) (bits .and .i64 (z / 16) 1).toNat) else s
def acts (s0 : S) (l : List Int) : Nat → S
  | 0 => s0
  | j + 1 => if j < min l.length 60 then one (acts s0 l j) (l.getD j 0) else acts s0 l j
theorem Mo.one {s : S} {c : Nat} (h : Mo s 4 c) (hc : c ≤ 100) (z : Int) : Mo (one s z) 4 (c + 1) ∧ (one s z = s ∨ ∃ t b, one s z = wr s t b) := by
  obtain ⟨i, h1, h2⟩ := lg_and (z / 4) 3 (by decide)
  obtain ⟨n, h3, h4⟩ := lg_and (z / 16) 1 (by decide)
  have h1' : bits .and .i64 (z / 4) 3 = (i : Int) := h1
  have h3' : bits .and .i64 (z / 16) 1 = (n : Int) := h3
  unfold Sr.one
  rw [h1', h3', Int.toNat_natCast, Int.toNat_natCast]
  split
  · have := (h.put hc (i := i) (by omega) (by omega) h4).2
    rw [if_neg (by omega)] at this
    exact ⟨this, .inr ⟨_, _, rfl⟩⟩
  · exact ⟨⟨h.get, by have := h.next; omega, by have := h.used; omega, h.room, h.good⟩, .inl rfl⟩
theorem acts_mo {s0 : S} (h : Mo s0 4 4) (l : List Int) : ∀ j, Mo (acts s0 l j) 4 (4 + min j 60)
  | 0 => h
  | j + 1 => by
    have ih := acts_mo h l j
    unfold acts
    by_cases hlt : j < min l.length 60
    · rw [if_pos hlt]
      have := (ih.one (by omega) (l.getD j 0)).1
      rw [show 4 + min j 60 + 1 = 4 + min (j + 1) 60 by omega] at this
      exact this
    · rw [if_neg hlt]
      exact ⟨ih.get, by have := ih.next; omega, by have := ih.used; omega, ih.room, ih.good⟩
theorem good_stamp {s : S} (hg : Sf.Good s) (t : List Nat) : Sf.stamp s.l t ≤ s.next := by
  unfold Sf.stamp
  rcases e : Sf.get s.l t with _ | x
  · exact Nat.zero_le _
  · exact (hg.2.1 x (Sf.get_some e).1).2.2.2
theorem acts_hist {s0 : S} (h : Mo s0 4 4) (l : List Int) : Hist (acts s0 l) (min l.length 60) := by
  refine ⟨fun j => ?_, fun j t => good_stamp (acts_mo h l j).good t⟩
  show (if j < min l.length 60 then one (acts s0 l j) (l.getD j 0) else acts s0 l j) = _ ∨ (_ ∧ ∃ t b, (if j < min l.length 60 then one (acts s0 l j) (l.getD j 0) else acts s0 l j) = _)
  by_cases hlt : j < min l.length 60
  · rw [if_pos hlt]
    rcases ((acts_mo h l j).one (by omega) (l.getD j 0)).2 with e | ⟨t, b, e⟩
    · exact .inl e
    · exact .inr ⟨hlt, t, b, e⟩
  · rw [if_neg hlt]
    exact .inl rfl
theorem Mo.at {s : S} {c : Nat} (h : Mo s 4 c) {t : List Nat} (ht : t ∈ moL) : ∃ n j, n ≤ 1 ∧ Sf.get s.l t = some ⟨t, bOf t n, j⟩ := by
  obtain ⟨i, hi, rfl⟩ := List.getElem_of_mem ht
  have := h.get i hi
  rw [List.getD_eq_getElem?_getD, List.getElem?_eq_getElem hi] at this
  exact this
theorem acts_there {s0 : S} (h : Mo s0 4 4) (l : List Int) {L : List (List Nat)} (hL : ∀ t ∈ L, t ∈ moL) : There made (acts s0 l) L := fun j t ht => by
  obtain ⟨n, k, _, hg⟩ := (acts_mo h l j).at (hL t ht)
  exact ⟨mo_file t (hL t ht), _, k, [48 + n], hg, value_bOf t n, by simp⟩
/-- The names that are asked for. -/
def moN (l : List Int) (k : Nat) : List (List Nat) := (l.take k).map fun z => moL.getD (bits .and .i64 z 3).toNat []
theorem moN_in (l : List Int) (k : Nat) : ∀ t ∈ moN l k, t ∈ moL := fun t ht => by
  obtain ⟨z, _, rfl⟩ := List.mem_map.1 ht
  obtain ⟨i, h1, h2⟩ := lg_and z 3 (by decide)
  have h1' : bits .and .i64 z 3 = (i : Int) := h1
  rw [h1', Int.toNat_natCast]
  exact mo_mem (by omega)
theorem moN_len {l : List Int} {k : Nat} (h : k ≤ l.length) : (moN l k).length = k := by simp [moN]; omega
theorem moN_next {l : List Int} {k : Nat} (h : k < l.length) {i : Nat} (hi : bits .and .i64 (l.getD k 0) 3 = (i : Int)) : moN l k ++ [moL.getD i []] = moN l (k + 1) := by
  unfold moN
  have e : l[k] = l.getD k 0 := by rw [List.getD_eq_getElem?_getD, List.getElem?_eq_getElem h]; rfl
  rw [List.take_succ_eq_append_getElem h, List.map_append, List.map_cons, List.map_nil, e, hi, Int.toNat_natCast]
/-- What the names hold at each time. -/
def nowR (F : Nat → S) (L : List (List Nat)) (j : Nat) : List (List Nat) := L.map (V made F j)
def thenR (F : Nat → S) (L : List (List Nat)) (i : Nat) : List (List (List Nat)) := (List.range i).map (nowR F L)
theorem thenR_len (F : Nat → S) (L : List (List Nat)) (i : Nat) : (thenR F L i).length = i := by simp [thenR]
theorem thenR_next (F : Nat → S) (L : List (List Nat)) (i : Nat) : thenR F L i ++ [nowR F L i] = thenR F L (i + 1) := by simp [thenR, List.range_succ]
theorem thenR_at (F : Nat → S) (L : List (List Nat)) {i j : Nat} (h : j < i) : (thenR F L i).getD j [] = nowR F L j := by simp [thenR, List.getD_eq_getElem?_getD, h]
theorem nowR_next (F : Nat → S) {L : List (List Nat)} {k : Nat} (h : k < L.length) (j : Nat) : nowR F (L.take k) j ++ [V made F j (L.getD k [])] = nowR F (L.take (k + 1)) j := by
  unfold nowR
  have e : L[k] = L.getD k [] := by rw [List.getD_eq_getElem?_getD, List.getElem?_eq_getElem h]; rfl
  rw [List.take_succ_eq_append_getElem h, List.map_append, List.map_cons, List.map_nil, e]
theorem acts_next (s0 : S) (l : List Int) (j : Nat) : acts s0 l (j + 1) = if j < min l.length 60 then one (acts s0 l j) (l.getD j 0) else acts s0 l j := rfl
end Sr
end Go.Proofs.Ytoloidfkpfdboaa
