/- What the statements of layer 7 ask first: known manifests, and what they are. -/
import Derived.Test.YtgjehlegcmeeoaaGreatDoorZ27
import Derived.Test.YtgjehlegcmeeoaaGreatDoorZ25
namespace Go.Proofs.YtgjehlegcmeeoaaGreatDoor
set_option maxRecDepth 100000
open Go.ChangeShapes Go.WideShapes Go.ChangeAt Go.RowKit Go.Shelf

def maw1 : List Nat := [108, 101, 116, 32, 118, 32, 61, 32, 97, 108, 108, 32, 59, 32, 117, 112, 112, 101, 114, 10, 114, 117, 108, 101, 32, 97, 32, 58, 32, 98, 32, 124, 32, 99, 32, 61, 32, 36, 118, 10, 114, 117, 108, 101, 32, 99, 32, 100, 32, 58, 32, 61, 32, 116, 101, 120, 116, 32, 34, 113, 34, 32, 44, 32, 116, 101, 120, 116, 32, 34, 114, 34, 10, 112, 104, 111, 110, 121, 32, 120, 32, 58, 32, 97, 10, 100, 101, 102, 97, 117, 108, 116, 32, 120, 10]
def maw2 : List Nat := [114, 117, 108, 101, 32, 97, 32, 58, 32, 97, 32, 61, 32, 97, 108, 108, 10]
def maw3 : List Nat := [114, 117, 108, 101, 32, 97, 32, 58, 32, 98, 32, 61, 32, 36, 119, 10]
def mawP : List Nat := [114, 117, 108, 101, 32, 97, 32, 58, 32, 98, 32, 124, 32, 99, 32, 61, 32, 97, 108, 108, 32, 59, 32, 117, 112, 112, 101, 114, 10, 114, 117, 108, 101, 32, 99, 32, 100, 32, 58, 32, 61, 32, 116, 101, 120, 116, 32, 34, 113, 34, 32, 44, 32, 116, 101, 120, 116, 32, 34, 114, 34, 10, 112, 104, 111, 110, 121, 32, 120, 32, 58, 32, 97, 10, 100, 101, 102, 97, 117, 108, 116, 32, 120, 10]
def mawR0 : Mn.Rule := ⟨[[97]], [[98]], [[99]], [[⟨3, 0, []⟩, ⟨4, 0, []⟩]], false⟩
def mawR1 : Mn.Rule := ⟨[[99], [100]], [], [], [[⟨1, 0, [113]⟩], [⟨1, 0, [114]⟩]], false⟩
def mawR2 : Mn.Rule := ⟨[[120]], [[97]], [], [], true⟩
def mawM : Mn.M := ⟨[mawR0, mawR1, mawR2], [[120]]⟩
theorem maw1_is : Mo.parse maw1 = .ok mawM := by kernel_rfl
theorem maw2_is : Mo.parse maw2 = .bad ⟨12, 0, 0⟩ := by kernel_rfl
theorem maw3_is : Mo.parse maw3 = .bad ⟨6, 1, 14⟩ := by kernel_rfl
theorem mawP_is : Mn.print mawM = mawP := by kernel_rfl
theorem maw_pr : PrM mawM := by
  refine ⟨by decide, ?_, by decide, by decide, by decide⟩
  intro r hr
  have h : r = mawR0 ∨ r = mawR1 ∨ r = mawR2 := by simpa [mawM] using hr
  have g : ∀ (k n : Nat) (t : List Nat), 1 ≤ k → k ≤ 11 → n ≤ 99999 → t.length ≤ 1000 → GoodD ⟨k, n, t⟩ := fun k n t h1 h2 h3 h4 => ⟨h1, h2, h3, h4⟩
  rcases h with rfl | rfl | rfl
  · refine ⟨⟨by decide, by decide, by decide, by decide, fun a ha => ?_⟩, by decide, by decide⟩
    have : a = [⟨3, 0, []⟩, ⟨4, 0, []⟩] := by simpa [mawR0] using ha
    subst this
    refine ⟨by decide, fun d hd => ?_⟩
    have : d = ⟨3, 0, []⟩ ∨ d = ⟨4, 0, []⟩ := by simpa using hd
    rcases this with rfl | rfl <;> exact g _ _ _ (by decide) (by decide) (by decide) (by decide)
  · refine ⟨⟨by decide, by decide, by decide, by decide, fun a ha => ?_⟩, by decide, by decide⟩
    have : a = [⟨1, 0, [113]⟩] ∨ a = [⟨1, 0, [114]⟩] := by simpa [mawR1] using ha
    rcases this with rfl | rfl
    all_goals
      refine ⟨by decide, fun d hd => ?_⟩
      rw [List.mem_singleton] at hd
      subst hd
      exact g _ _ _ (by decide) (by decide) (by decide) (by decide)
  · refine ⟨⟨by decide, by decide, by decide, by decide, fun a ha => ?_⟩, by decide, by decide⟩
    simp [mawR2] at ha
theorem maw_by : ByteM mawM := by
  have hr : ∀ r ∈ mawM.rules, ByteR r := by
    intro r hr
    have h : r = mawR0 ∨ r = mawR1 ∨ r = mawR2 := by simpa [mawM] using hr
    rcases h with rfl | rfl | rfl
    all_goals exact ⟨by decide, by decide, by decide, by unfold ActsB; decide⟩
  exact ⟨hr, by decide, by decide⟩
theorem none_by : ByteM ⟨[], []⟩ := ⟨by simp, by simp, by decide⟩
end Go.Proofs.YtgjehlegcmeeoaaGreatDoor
