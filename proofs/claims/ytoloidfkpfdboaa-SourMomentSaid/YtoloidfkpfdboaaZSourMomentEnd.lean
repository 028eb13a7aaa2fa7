/- SourMoment: however files are written between its steps, what it tells at last were the values of all at one moment, of which no file was written since until it looked again: whatever is handed in. -/
import Derived.Test.YtoloidfkpfdboaaZSourMoment
import Derived.Test.YtoloidfkpfdboaaZInts
namespace Go.Proofs.Ytoloidfkpfdboaa
set_option maxRecDepth 100000
open Go.ChangeShapes Go.WideShapes Go.ChangeAt Go.RowKit

theorem trodAll_sourmoment {H : Type} {enc : TypeId × Value → H} {P : Program} {w : World} {base : Nat} {spare : Nat → Bool} {held : Bool} {t0 t1 : TypeId} {args : Array Value} {ds : List (DataW H)} {ps : List MemPlace}
    (h : DataW.TrodAll enc P w base spare held [t0, t1] args.toList ds ps) : ∃ v0 d0 p0 v1 d1 p1, args = #[v0, v1] ∧ ds = [d0, d1] ∧ DataW.Trod enc P w base spare held t0 v0 d0 p0 ∧ DataW.Trod enc P w base spare held t1 v1 d1 p1 := by
  obtain ⟨v0, vs0, d0, ds0, p0, q0, ha, rfl, rfl, h0, r0⟩ := trodAll_cons h
  obtain ⟨v1, vs1, d1, ds1, p1, q1, rfl, rfl, rfl, h1, r1⟩ := trodAll_cons r0
  have e1 : vs1 = [] ∧ ds1 = [] := by cases vs1 <;> cases ds1 <;> simp [DataW.TrodAll] at r1 ⊢
  obtain ⟨rfl, rfl⟩ := e1
  exact ⟨v0, d0, p0, v1, d1, p1, by rw [← Array.toArray_toList (xs := args), ha], rfl, h0, h1⟩

set_option maxRecDepth 100000 in
theorem sourmoment_lifted (os : Os) (started : os.Started) (H : Type) (enc : TypeId × Value → H) :
    ReturnsInHanded {} Try.checked os 5 .any (Rows.sourMomentSpec.pre6 enc Try.prog Try.f5 Rows.sourMomentRow.domain false) (Rows.sourMomentSpec.post enc Try.prog Try.f5 false true false false) := by
  refine returnsInHanded_of_change (C := Try.checked) own started (by kernel_rfl) Try.func5
    (ChangeSpec.witness6 (enc := enc) (C := Try.checked) false ⟨#[], #[.slice none 0 0, .slice none 0 0], []⟩ 8 (by kernel_rfl) (by kernel_rfl) (by kernel_rfl) (by kernel_rfl)) ?_
  intro W base args ds gs before hval hW _ _
  have hW' := hW
  obtain ⟨p, q, hA, hV, _, _, _⟩ := hW
  rw [show Try.f5.params.toList = [37, 37] from by kernel_rfl] at hA
  obtain ⟨v0, d0, p0, v1, d1, p1, rfl, rfl, h0, h1⟩ := trodAll_sourmoment hA
  obtain ⟨l0, hl0⟩ := open_introw (hval 0 37 v0 (by kernel_rfl) rfl) h0
  obtain ⟨l1, hl1⟩ := open_introw (hval 1 37 v1 (by kernel_rfl) rfl) h1
  refine (srmoment_any v0 v1 l0 l1 W hl0 hl1).mono fun e W' ⟨he, hb⟩ => ⟨_, he, ?_⟩
  exact law_post laidOut (by kernel_rfl) (by kernel_rfl) Try.underlying4 rfl hW' (by simp [Rows.sourMomentSpec]) hb

theorem sourmoment_holds : Rows.SourMomentSaid :=
  OpenClaim.holds_of_wide 5 Try.f5 rfl rfl rfl rfl rfl rfl rfl ⟨rfl, rfl, rfl, rfl, rfl⟩ rfl rfl rfl rfl rfl (by kernel_rfl) Try.func5 (by kernel_rfl)
    (of_decide_eq_true (by kernel_rfl)) (by unfold Func.isWrapper; first | (rw [if_pos (by decide +kernel)]; kernel_rfl) | (rw [if_neg (by decide +kernel)]; exact ⟨rfl, rfl⟩))
    (fun os started H enc _ => sourmoment_lifted os started H enc)

#print axioms sourmoment_holds
end Go.Proofs.Ytoloidfkpfdboaa
