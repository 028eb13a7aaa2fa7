/- The rest of a region that draws its order, under a name: a state in which many orders meet is told of, and walked from once. -/
import Derived.Test.YtkfmjkoghfcciaaRegion
namespace Go.Proofs.Ytkfmjkoghfcciaa
set_option maxRecDepth 100000
open Go.ChangeShapes Go.WideShapes Go.ChangeAt Go.RowKit

theorem named {P : Program} {ops : Array Oper} {Q : Exit → Act → World → Prop} {md : Region.Mode} {S : World → Prop} {fuel : Nat} {listed : Array Bool} {a : Act} {w : World}
    (h : ∀ X : Nat → Array Bool → Act → World → Prop, (∀ f l a w, wpAnyH P md ops Q S f l a w → X f l a w) → (∀ f l a w, X f l a w → wpAnyH P md ops Q S f l a w) → X fuel listed a w) :
    wpAnyH P md ops Q S fuel listed a w := h (fun f l a w => wpAnyH P md ops Q S f l a w) (fun _ _ _ _ h => h) (fun _ _ _ _ h => h)
theorem named2 {P : Program} {ops : Array Oper} {Q : Exit → Act → World → Prop} {md : Region.Mode} {S : World → Prop} {fuel : Nat} {listed : Array Bool} {a : Act} {w : World} (ops' : Array Oper) (e : ops' = ops)
    (h : ∀ X : Nat → Array Bool → Act → World → Prop, (∀ f l a w, wpAnyH P md ops' Q S f l a w → X f l a w) → (∀ f l a w, X f l a w → wpAnyH P md ops Q S f l a w) → wpAnyH P md ops Q S fuel listed a w) :
    wpAnyH P md ops Q S fuel listed a w := by
  subst e
  exact h _ (fun _ _ _ _ h => h) (fun _ _ _ _ h => h)
/-- A frame's slots, written out. -/
theorem slots_out (t : Array Value) (n : Nat) (h : t.size = n) : t = ((List.range n).map fun i => t.getD i undef).toArray := by
  subst h
  apply Array.ext
  · simp
  · intro i h1 h2
    simp [Array.getD, h1]
end Go.Proofs.Ytkfmjkoghfcciaa
