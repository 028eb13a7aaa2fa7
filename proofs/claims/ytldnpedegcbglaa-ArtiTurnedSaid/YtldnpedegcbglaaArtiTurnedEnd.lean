/- ArtiTurned: an artifact of which one bit was turned is none, whichever it is, nor is one that is cut, or has more behind: whatever the print, the value, the bit and the place are. -/
import Derived.Test.YtldnpedegcbglaaArtiTurned
namespace Go.Proofs.Ytldnpedegcbglaa
set_option maxRecDepth 100000
open Go.ChangeShapes Go.WideShapes Go.ChangeAt Go.RowKit

theorem trodAll_artiturned {H : Type} {enc : TypeId × Value → H} {P : Program} {w : World} {base : Nat} {spare : Nat → Bool} {held : Bool} {t0 t1 t2 t3 : TypeId} {args : Array Value} {ds : List (DataW H)} {ps : List MemPlace}
    (h : DataW.TrodAll enc P w base spare held [t0, t1, t2, t3] args.toList ds ps) : ∃ v0 d0 p0 v1 d1 p1 v2 d2 p2 v3 d3 p3, args = #[v0, v1, v2, v3] ∧ ds = [d0, d1, d2, d3] ∧ DataW.Trod enc P w base spare held t0 v0 d0 p0 ∧ DataW.Trod enc P w base spare held t1 v1 d1 p1 ∧ DataW.Trod enc P w base spare held t2 v2 d2 p2 ∧ DataW.Trod enc P w base spare held t3 v3 d3 p3 := by
  obtain ⟨v0, vs0, d0, ds0, p0, q0, ha, rfl, rfl, h0, r0⟩ := trodAll_cons h
  obtain ⟨v1, vs1, d1, ds1, p1, q1, rfl, rfl, rfl, h1, r1⟩ := trodAll_cons r0
  obtain ⟨v2, vs2, d2, ds2, p2, q2, rfl, rfl, rfl, h2, r2⟩ := trodAll_cons r1
  obtain ⟨v3, vs3, d3, ds3, p3, q3, rfl, rfl, rfl, h3, r3⟩ := trodAll_cons r2
  have e1 : vs3 = [] ∧ ds3 = [] := by cases vs3 <;> cases ds3 <;> simp [DataW.TrodAll] at r3 ⊢
  obtain ⟨rfl, rfl⟩ := e1
  exact ⟨v0, d0, p0, v1, d1, p1, v2, d2, p2, v3, d3, p3, by rw [← Array.toArray_toList (xs := args), ha], rfl, h0, h1, h2, h3⟩

set_option maxRecDepth 100000 in
theorem artiturned_lifted (os : Os) (started : os.Started) (H : Type) (enc : TypeId × Value → H) :
    ReturnsInHanded {} Try.checked os 7 .any (Rows.artiTurnedSpec.pre6 enc Try.prog Try.f7 Rows.artiTurnedRow.domain false) (Rows.artiTurnedSpec.post enc Try.prog Try.f7 false true false false) := by
  refine returnsInHanded_of_change (C := Try.checked) own started (by kernel_rfl) Try.func7
    (ChangeSpec.witness6 (enc := enc) (C := Try.checked) false ⟨#[], #[.slice none 0 0, .slice none 0 0, .int .i64 0, .int .i64 0], []⟩ 8 (by kernel_rfl) (by kernel_rfl) (by kernel_rfl) (by kernel_rfl)) ?_
  intro W base args ds gs before hval hW _ _
  have hW' := hW
  obtain ⟨p, q, hA, hV, _, _, _⟩ := hW
  rw [show Try.f7.params.toList = [23, 23, 3, 3] from by kernel_rfl] at hA
  obtain ⟨v0, d0, p0, v1, d1, p1, v2, d2, p2, v3, d3, p3, rfl, rfl, h0, h1, h2, h3⟩ := trodAll_artiturned hA
  obtain ⟨l0, hl0⟩ := open_bytes (hval 0 23 v0 (by kernel_rfl) rfl) h0
  obtain ⟨l1, hl1⟩ := open_bytes (hval 1 23 v1 (by kernel_rfl) rfl) h1
  obtain ⟨a2, rfl, rfl, rfl, _⟩ := open_int Try.underlying3 (hval 2 3 v2 (by kernel_rfl) rfl) h2
  obtain ⟨a3, rfl, rfl, rfl, _⟩ := open_int Try.underlying3 (hval 3 3 v3 (by kernel_rfl) rfl) h3
  refine (aturned_any v0 v1 l0 l1 a2 a3 W hl0 hl1).mono fun e W' ⟨he, hb⟩ => ⟨_, he, ?_⟩
  exact law_post laidOut (by kernel_rfl) (by kernel_rfl) Try.underlying4 rfl hW' (by simp [Rows.artiTurnedSpec]) hb

theorem artiturned_holds : Rows.ArtiTurnedSaid :=
  OpenClaim.holds_of_wide 7 Try.f7 rfl rfl rfl rfl rfl rfl rfl ⟨rfl, rfl, rfl, rfl, rfl⟩ rfl rfl rfl rfl rfl (by kernel_rfl) Try.func7 (by kernel_rfl)
    (of_decide_eq_true (by kernel_rfl)) (by unfold Func.isWrapper; first | (rw [if_pos (by decide +kernel)]; kernel_rfl) | (rw [if_neg (by decide +kernel)]; exact ⟨rfl, rfl⟩))
    (fun os started H enc _ => artiturned_lifted os started H enc)

#print axioms artiturned_holds
end Go.Proofs.Ytldnpedegcbglaa
