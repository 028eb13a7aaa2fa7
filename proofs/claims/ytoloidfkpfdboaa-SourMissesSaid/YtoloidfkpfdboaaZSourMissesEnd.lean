/- SourMisses: one that is not there is told, one that is made and is no artifact, and one that is too long, whichever comes first; a source may be any bytes: whatever is handed in. -/
import Derived.Test.YtoloidfkpfdboaaZSourMisses
namespace Go.Proofs.Ytoloidfkpfdboaa
set_option maxRecDepth 100000
open Go.ChangeShapes Go.WideShapes Go.ChangeAt Go.RowKit

theorem trodAll_sourmisses {H : Type} {enc : TypeId × Value → H} {P : Program} {w : World} {base : Nat} {spare : Nat → Bool} {held : Bool} {t0 : TypeId} {args : Array Value} {ds : List (DataW H)} {ps : List MemPlace}
    (h : DataW.TrodAll enc P w base spare held [t0] args.toList ds ps) : ∃ v0 d0 p0, args = #[v0] ∧ ds = [d0] ∧ DataW.Trod enc P w base spare held t0 v0 d0 p0 := by
  obtain ⟨v0, vs0, d0, ds0, p0, q0, ha, rfl, rfl, h0, r0⟩ := trodAll_cons h
  have e1 : vs0 = [] ∧ ds0 = [] := by cases vs0 <;> cases ds0 <;> simp [DataW.TrodAll] at r0 ⊢
  obtain ⟨rfl, rfl⟩ := e1
  exact ⟨v0, d0, p0, by rw [← Array.toArray_toList (xs := args), ha], rfl, h0⟩

set_option maxRecDepth 100000 in
theorem sourmisses_lifted (os : Os) (started : os.Started) (H : Type) (enc : TypeId × Value → H) :
    ReturnsInHanded {} Try.checked os 6 .any (Rows.sourMissesSpec.pre6 enc Try.prog Try.f6 Rows.sourMissesRow.domain false) (Rows.sourMissesSpec.post enc Try.prog Try.f6 false true false false) := by
  refine returnsInHanded_of_change (C := Try.checked) own started (by kernel_rfl) Try.func6
    (ChangeSpec.witness6 (enc := enc) (C := Try.checked) false ⟨#[], #[.int .i64 0], []⟩ 8 (by kernel_rfl) (by kernel_rfl) (by kernel_rfl) (by kernel_rfl)) ?_
  intro W base args ds gs before hval hW _ _
  have hW' := hW
  obtain ⟨p, q, hA, hV, _, _, _⟩ := hW
  rw [show Try.f6.params.toList = [3] from by kernel_rfl] at hA
  obtain ⟨v0, d0, p0, rfl, rfl, h0⟩ := trodAll_sourmisses hA
  obtain ⟨a0, rfl, rfl, rfl, _⟩ := open_int Try.underlying3 (hval 0 3 v0 (by kernel_rfl) rfl) h0
  refine (srmisses_any a0 W).mono fun e W' ⟨he, hb⟩ => ⟨_, he, ?_⟩
  exact law_post laidOut (by kernel_rfl) (by kernel_rfl) Try.underlying4 rfl hW' (by simp [Rows.sourMissesSpec]) hb

theorem sourmisses_holds : Rows.SourMissesSaid :=
  OpenClaim.holds_of_wide 6 Try.f6 rfl rfl rfl rfl rfl rfl rfl ⟨rfl, rfl, rfl, rfl, rfl⟩ rfl rfl rfl rfl rfl (by kernel_rfl) Try.func6 (by kernel_rfl)
    (of_decide_eq_true (by kernel_rfl)) (by unfold Func.isWrapper; first | (rw [if_pos (by decide +kernel)]; kernel_rfl) | (rw [if_neg (by decide +kernel)]; exact ⟨rfl, rfl⟩))
    (fun os started H enc _ => sourmisses_lifted os started H enc)

#print axioms sourmisses_holds
end Go.Proofs.Ytoloidfkpfdboaa
