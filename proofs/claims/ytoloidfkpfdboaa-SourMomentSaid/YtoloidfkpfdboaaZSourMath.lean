/- Package sour in plain words: a row of names that is read, and looked at again. -/
import Derived.Test.YtoloidfkpfdboaaZ00
import Derived.Test.YtoloidfkpfdboaaZ02
import Derived.Test.YtoloidfkpfdboaaZ10
namespace Go.Proofs.Ytoloidfkpfdboaa
set_option maxRecDepth 100000
open Sf
namespace Sr
structure R where
  names : List (List Nat)
  vals : List (List Nat)
  stamps : List Nat
  asked : Nat
  told : Nat
def value (md : List Nat → Bool) (t b : List Nat) : Option (List Nat) := if md t then (Ar.opn b).map (·.2) else some b
def forget (x : R) : R := { x with vals := [], stamps := [], asked := 0 }
def read (md : List Nat → Bool) (s : S) (x : R) (t : List Nat) : R × Nat :=
  if (Sf.read s t).2.2 = 0 then
    if ((value md t (Sf.read s t).1).isSome && decide (((value md t (Sf.read s t).1).getD []).length ≤ 256)) = true then ({ x with vals := x.vals ++ [(value md t (Sf.read s t).1).getD []], stamps := x.stamps ++ [(Sf.read s t).2.1] }, 0) else (forget x, 3)
  else (forget x, 2)
def ask (s : S) (x : R) : R × Nat :=
  if Sf.stamp s.l (x.names.getD x.asked []) = x.stamps.getD x.asked 0 then ({ x with asked := x.asked + 1 }, if x.asked + 1 < x.names.length then 0 else 1) else (forget x, 0)
def doo (md : List Nat → Bool) (s : S) (x : R) : R × Nat :=
  if x.vals.length < x.names.length then read md s x (x.names.getD x.vals.length []) else if 0 < x.names.length then ask s x else (x, 1)
def step (md : List Nat → Bool) (s : S) (x : R) : R × Nat := if x.told = 0 then ({ (doo md s x).1 with told := (doo md s x).2 }, (doo md s x).2) else (x, x.told)
/-- What holds of a row at any time. -/
structure Ok (x : R) : Prop where
  nice : ∀ t ∈ x.names, (∀ c ∈ t, c < 256) ∧ t.length ≤ 1048576
  few : x.names.length ≤ 1000000
  same : x.stamps.length = x.vals.length
  most : x.vals.length ≤ x.names.length
  short : ∀ v ∈ x.vals, v.length ≤ 256
/-- There is one to be asked, as long as it goes on. -/
def Here (x : R) : Prop := x.told = 0 → x.names = [] ∨ x.asked < x.names.length
theorem here_begin (names : List (List Nat)) : Here ⟨names, [], [], 0, 0⟩ := fun _ => by
  rcases names with _ | ⟨a, l⟩
  · exact .inl rfl
  · exact .inr (by simp)
theorem Ok.begin {names : List (List Nat)} (h : ∀ t ∈ names, (∀ c ∈ t, c < 256) ∧ t.length ≤ 1048576) (hl : names.length ≤ 1000000) : Ok ⟨names, [], [], 0, 0⟩ :=
  ⟨h, hl, rfl, Nat.zero_le _, by simp⟩
theorem Ok.forget {x : R} (h : Ok x) : Ok (forget x) := ⟨h.nice, h.few, rfl, Nat.zero_le _, by simp [Sr.forget]⟩
theorem Ok.told {x : R} (h : Ok x) (k : Nat) : Ok { x with told := k } := ⟨h.nice, h.few, h.same, h.most, h.short⟩
theorem Ok.more {x : R} (h : Ok x) (h1 : x.vals.length < x.names.length) (v : List Nat) (k : Nat) (hv : v.length ≤ 256) : Ok { x with vals := x.vals ++ [v], stamps := x.stamps ++ [k] } := by
  refine ⟨h.nice, h.few, ?_, ?_, ?_⟩
  · show (x.stamps ++ [_]).length = (x.vals ++ [_]).length
    have := h.same
    simp only [List.length_append, List.length_cons, List.length_nil]
    omega
  · show (x.vals ++ [_]).length ≤ x.names.length
    simp only [List.length_append, List.length_cons, List.length_nil]
    omega
  · show ∀ v ∈ x.vals ++ [_], v.length ≤ 256
    intro v hv'
    rcases List.mem_append.1 hv' with hv' | hv'
    · exact h.short v hv'
    · rw [List.mem_singleton.1 hv']
      exact hv
theorem Ok.next {x : R} (h : Ok x) : Ok { x with asked := x.asked + 1 } := ⟨h.nice, h.few, h.same, h.most, h.short⟩
theorem Here.step {x : R} (h : Here x) (md : List Nat → Bool) (s : S) : Here (step md s x).1 := by
  unfold Sr.step
  split
  · rename_i h0
    have hf : ∀ k, Here { (Sr.forget x) with told := k } := fun k _ => by
      rcases hx : x.names with _ | ⟨a, l⟩
      · exact .inl hx
      · exact .inr (by show 0 < x.names.length; rw [hx]; simp)
    show Here { (doo md s x).1 with told := (doo md s x).2 }
    unfold doo
    split
    · unfold Sr.read
      split
      · split
        · exact fun _ => h h0
        · exact hf 3
      · exact hf 2
    · split
      · unfold Sr.ask
        split
        · refine fun hk => .inr ?_
          show x.asked + 1 < x.names.length
          by_cases hlt : x.asked + 1 < x.names.length
          · exact hlt
          · rw [if_neg hlt] at hk
            cases hk
        · exact hf 0
      · exact fun hk => by cases hk
  · exact h
end Sr
end Go.Proofs.Ytoloidfkpfdboaa
