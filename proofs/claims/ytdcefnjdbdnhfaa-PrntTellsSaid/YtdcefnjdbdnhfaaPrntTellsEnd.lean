/- PrntTells: any action of any inputs has the print that the document says; any bytes are the print of an action and inputs, or none, and have its value, or none: whatever is handed in. -/
import Derived.Test.YtdcefnjdbdnhfaaPrntTells
import Derived.Test.YtdcefnjdbdnhfaaRowsOpen
namespace Go.Proofs.Ytdcefnjdbdnhfaa
set_option maxRecDepth 100000
open Go.ChangeShapes Go.WideShapes Go.ChangeAt Go.RowKit

theorem trodAll_prnttells {H : Type} {enc : TypeId × Value → H} {P : Program} {w : World} {base : Nat} {spare : Nat → Bool} {held : Bool} {t0 t1 t2 t3 t4 t5 : TypeId} {args : Array Value} {ds : List (DataW H)} {ps : List MemPlace}
    (h : DataW.TrodAll enc P w base spare held [t0, t1, t2, t3, t4, t5] args.toList ds ps) : ∃ v0 d0 p0 v1 d1 p1 v2 d2 p2 v3 d3 p3 v4 d4 p4 v5 d5 p5, args = #[v0, v1, v2, v3, v4, v5] ∧ ds = [d0, d1, d2, d3, d4, d5] ∧ DataW.Trod enc P w base spare held t0 v0 d0 p0 ∧ DataW.Trod enc P w base spare held t1 v1 d1 p1 ∧ DataW.Trod enc P w base spare held t2 v2 d2 p2 ∧ DataW.Trod enc P w base spare held t3 v3 d3 p3 ∧ DataW.Trod enc P w base spare held t4 v4 d4 p4 ∧ DataW.Trod enc P w base spare held t5 v5 d5 p5 := by
  obtain ⟨v0, vs0, d0, ds0, p0, q0, ha, rfl, rfl, h0, r0⟩ := trodAll_cons h
  obtain ⟨v1, vs1, d1, ds1, p1, q1, rfl, rfl, rfl, h1, r1⟩ := trodAll_cons r0
  obtain ⟨v2, vs2, d2, ds2, p2, q2, rfl, rfl, rfl, h2, r2⟩ := trodAll_cons r1
  obtain ⟨v3, vs3, d3, ds3, p3, q3, rfl, rfl, rfl, h3, r3⟩ := trodAll_cons r2
  obtain ⟨v4, vs4, d4, ds4, p4, q4, rfl, rfl, rfl, h4, r4⟩ := trodAll_cons r3
  obtain ⟨v5, vs5, d5, ds5, p5, q5, rfl, rfl, rfl, h5, r5⟩ := trodAll_cons r4
  have e1 : vs5 = [] ∧ ds5 = [] := by cases vs5 <;> cases ds5 <;> simp [DataW.TrodAll] at r5 ⊢
  obtain ⟨rfl, rfl⟩ := e1
  exact ⟨v0, d0, p0, v1, d1, p1, v2, d2, p2, v3, d3, p3, v4, d4, p4, v5, d5, p5, by rw [← Array.toArray_toList (xs := args), ha], rfl, h0, h1, h2, h3, h4, h5⟩

set_option maxRecDepth 100000 in
theorem prnttells_lifted (os : Os) (started : os.Started) (H : Type) (enc : TypeId × Value → H) :
    ReturnsInHanded {} Try.checked os 5 .any (Rows.prntTellsSpec.pre6 enc Try.prog Try.f5 Rows.prntTellsRow.domain false) (Rows.prntTellsSpec.post enc Try.prog Try.f5 false true false false) := by
  refine returnsInHanded_of_change (C := Try.checked) own started (by kernel_rfl) Try.func5
    (ChangeSpec.witness6 (enc := enc) (C := Try.checked) false ⟨#[], #[.slice none 0 0, .slice none 0 0, .slice none 0 0, .slice none 0 0, .int .i64 0, .int .u8 0], []⟩ 8 (by kernel_rfl) (by kernel_rfl) (by kernel_rfl) (by kernel_rfl)) ?_
  intro W base args ds gs before hval hW _ _
  have hW' := hW
  obtain ⟨p, q, hA, hV, _, _, _⟩ := hW
  rw [show Try.f5.params.toList = [27, 35, 22, 23, 3, 5] from by kernel_rfl] at hA
  obtain ⟨v0, d0, p0, v1, d1, p1, v2, d2, p2, v3, d3, p3, v4, d4, p4, v5, d5, p5, rfl, rfl, h0, h1, h2, h3, h4, h5⟩ := trodAll_prnttells hA
  obtain ⟨R, hR, hRX⟩ := open_dos (hval 0 27 v0 (by kernel_rfl) rfl) h0
  obtain ⟨zs, hz⟩ := open_introw (hval 1 35 v1 (by kernel_rfl) rfl) h1
  obtain ⟨I, hI, _⟩ := open_rows (hval 2 22 v2 (by kernel_rfl) rfl) h2
  obtain ⟨b, hb⟩ := open_bytes (hval 3 23 v3 (by kernel_rfl) rfl) h3
  obtain ⟨a4, rfl, rfl, rfl, _⟩ := open_int Try.underlying3 (hval 4 3 v4 (by kernel_rfl) rfl) h4
  obtain ⟨z5, rfl, rfl, rfl, hw5⟩ := open_int Try.underlying5 (hval 5 5 v5 (by kernel_rfl) rfl) h5
  have hw6 : 0 ≤ z5 ∧ z5 < 256 := by
    simp [Lit.wf, IntKind.min, IntKind.max, IntKind.signed, IntKind.bits] at hw5
    omega
  obtain ⟨y5, rfl⟩ : ∃ y : Nat, z5 = (y : Int) := ⟨z5.toNat, by omega⟩
  refine (ptells_any v0 v1 v2 v3 R zs I b a4 y5 W hR hRX hz hI hb (by omega)).mono fun e W' ⟨he, hb⟩ => ⟨_, he, ?_⟩
  exact law_post laidOut (by kernel_rfl) (by kernel_rfl) Try.underlying4 rfl hW' (by simp [Rows.prntTellsSpec]) hb

theorem prnttells_holds : Rows.PrntTellsSaid :=
  OpenClaim.holds_of_wide 5 Try.f5 rfl rfl rfl rfl rfl rfl rfl ⟨rfl, rfl, rfl, rfl, rfl⟩ rfl rfl rfl rfl rfl (by kernel_rfl) Try.func5 (by kernel_rfl)
    (of_decide_eq_true (by kernel_rfl)) (by unfold Func.isWrapper; first | (rw [if_pos (by decide +kernel)]; kernel_rfl) | (rw [if_neg (by decide +kernel)]; exact ⟨rfl, rfl⟩))
    (fun os started H enc _ => prnttells_lifted os started H enc)

#print axioms prnttells_holds
end Go.Proofs.Ytdcefnjdbdnhfaa
