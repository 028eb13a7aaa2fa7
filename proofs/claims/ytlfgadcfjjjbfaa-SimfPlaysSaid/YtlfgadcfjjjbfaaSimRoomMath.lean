/- Files in memory: how much they have behind each call. -/
import Derived.Test.YtlfgadcfjjjbfaaSimCut
namespace Go.Proofs.Ytlfgadcfjjjbfaa
set_option maxRecDepth 100000
open Go.ChangeShapes Go.WideShapes Go.ChangeAt Go.RowKit Go.ChangeMaps
open Sf

theorem get_wr (s : S) (t b u : List Nat) : Sf.get (wr s t b).l u = if u = t then some ⟨t, b, s.next + 1⟩ else Sf.get s.l u := get_put s.l ⟨t, b, s.next + 1⟩ u
theorem bytes_wr (s : S) (t b u : List Nat) : Sf.bytes (wr s t b).l u = if u = t then b else Sf.bytes s.l u := by
  unfold Sf.bytes
  rw [get_wr]
  by_cases h : u = t <;> simp [h]
theorem some_wr (s : S) (t b u : List Nat) : (Sf.get (wr s t b).l u).isSome = (decide (u = t) || (Sf.get s.l u).isSome) := by
  rw [get_wr]
  by_cases h : u = t <;> simp [h]
theorem bytes_rm (s : S) (t u : List Nat) : Sf.bytes (rm s t).l u = if u = t then [] else Sf.bytes s.l u := by
  unfold Sf.bytes
  rw [show Sf.get (rm s t).l u = if u = t then none else Sf.get s.l u from get_gone s.l t u]
  by_cases h : u = t <;> simp [h]
theorem some_rm (s : S) (t u : List Nat) : (Sf.get (rm s t).l u).isSome = (decide (u ≠ t) && (Sf.get s.l u).isSome) := by
  rw [show Sf.get (rm s t).l u = if u = t then none else Sf.get s.l u from get_gone s.l t u]
  by_cases h : u = t <;> simp [h]
theorem putS_yes {s : S} {t b : List Nat} (hf : Nm.file t = true) (h : fits s t b.length = true) : putS s t b = (wr s t b, s.next + 1, 0) := by simp [putS, hf, h]
theorem putS_no {s : S} {t b : List Nat} (hf : Nm.file t = true) (h : fits s t b.length = false) : putS s t b = (s, 0, 2) := by simp [putS, hf, h]
theorem used_nat {s : S} (ho : Ord s.l) (t b : List Nat) : used (wr s t b).l + (Sf.bytes s.l t).length = used s.l + b.length := by
  have := used_wr ho t b
  omega
theorem used_rmN {s : S} (ho : Ord s.l) (t : List Nat) : used (rm s t).l + (Sf.bytes s.l t).length = used s.l := by
  have := used_rm ho t
  omega
/-- An append that no guard and no cut holds back. -/
structure Apped (s : S) (t b : List Nat) (s' : S) (e : Nat) : Prop where
  used : used s'.l = used s.l + min b.length (max (s.room - (used s.l : Int)) 0).toNat
  err : e = if (b.length : Int) ≤ max (s.room - (Sf.used s.l : Int)) 0 then 0 else 2
  cut : s'.cut = -1
  room : s'.room = s.room
  next : s'.next ≤ s.next + 1
  other : ∀ u, u ≠ t → Sf.get s'.l u = Sf.get s.l u
theorem apped {s : S} {t b : List Nat} (ho : Ord s.l) (hc : s.cut = -1) (hf : Nm.file t = true) : ∃ s' st e, app s t b [] = (s', st, e) ∧ Apped s t b s' e := by
  have hr : refuse s.l [] [t] = 0 := by simp [Sf.refuse, Sf.guards, hf]
  have hu : ∀ b', used (wr s t (Sf.bytes s.l t ++ b')).l = used s.l + b'.length := fun b' => by
    have := used_nat ho t (Sf.bytes s.l t ++ b')
    rw [List.length_append] at this
    omega
  have hg : ∀ b' u, u ≠ t → Sf.get (wr s t b').l u = Sf.get s.l u := fun b' u h => by rw [get_wr, if_neg h]
  by_cases h : (b.length : Int) ≤ max (s.room - (used s.l : Int)) 0
  · have hp : Sf.part s b.length = (s, b.length, 0) := by unfold Sf.part; rw [if_pos hc, if_pos h]
    refine ⟨wr s t (Sf.bytes s.l t ++ b), s.next + 1, 0, by unfold app; rw [if_pos hr, hp, if_pos rfl], ?_, by rw [if_pos h], hc, rfl, Nat.le_refl _, fun u hu => hg _ u hu⟩
    rw [hu]
    omega
  · have hp : Sf.part s b.length = (s, (max (s.room - (used s.l : Int)) 0).toNat, 2) := by unfold Sf.part; rw [if_pos hc, if_neg h]
    by_cases hk : 0 < (max (s.room - (used s.l : Int)) 0).toNat
    · refine ⟨wr s t (Sf.bytes s.l t ++ b.take (max (s.room - (used s.l : Int)) 0).toNat), 0, 2, by unfold app; rw [if_pos hr, hp, if_neg (by show ¬ (2 : Nat) = 0; omega), if_pos hk], ?_, by rw [if_neg h], hc, rfl, Nat.le_refl _, fun u hu => hg _ u hu⟩
      rw [hu, List.length_take]
      omega
    · refine ⟨s, 0, 2, by unfold app; rw [if_pos hr, hp, if_neg (by show ¬ (2 : Nat) = 0; omega), if_neg hk], ?_, by rw [if_neg h], hc, rfl, Nat.le_succ _, fun u _ => rfl⟩
      omega
theorem dropped (s : S) (t : List Nat) (hf : Nm.file t = true) (ho : Ord s.l) : ∃ s' e, Sf.drop s t [] = (s', e) ∧ used s'.l + (Sf.bytes s.l t).length = used s.l ∧ s'.cut = s.cut ∧ s'.room = s.room ∧ s'.next = s.next ∧ ∀ u, u ≠ t → Sf.get s'.l u = Sf.get s.l u := by
  have hr : refuse s.l [] [t] = 0 := by simp [Sf.refuse, Sf.guards, hf]
  rcases h : Sf.get s.l t with _ | x
  · refine ⟨s, 4, by unfold Sf.drop; rw [if_pos hr, h]; rfl, ?_, rfl, rfl, rfl, fun _ _ => rfl⟩
    unfold Sf.bytes
    rw [h]
    rfl
  · exact ⟨rm s t, 0, by unfold Sf.drop; rw [if_pos hr, h]; rfl, used_rmN ho t, rfl, rfl, rfl, fun u hu => by rw [show Sf.get (rm s t).l u = if u = t then none else Sf.get s.l u from get_gone s.l t u, if_neg hu]⟩
theorem moved (s : S) (a b : List Nat) (ha : Nm.file a = true) (hb : Nm.file b = true) (hab : a ≠ b) (hs : (Sf.get s.l a).isSome = true) (hn : Sf.get s.l b = none) (ho : Ord s.l) :
    Sf.move s a b [] = (wr (rm s a) b (Sf.bytes s.l a), s.next + 1, 0) ∧ used (wr (rm s a) b (Sf.bytes s.l a)).l = used s.l := by
  have hr : refuse s.l [] [a, b] = 0 := by simp [Sf.refuse, Sf.guards, ha, hb]
  refine ⟨by unfold Sf.move; rw [if_neg hab, if_pos hr, if_pos hs], ?_⟩
  have h1 := used_nat (s := rm s a) (ord_gone ho a) b (Sf.bytes s.l a)
  have h2 := used_rmN ho a
  have h3 : Sf.bytes (rm s a).l b = [] := by
    rw [bytes_rm]
    split
    · rfl
    · unfold Sf.bytes
      rw [hn]
      rfl
  rw [h3] at h1
  simp at h1
  omega
end Go.Proofs.Ytlfgadcfjjjbfaa
