/- RecoTells: any locks and commits have the bytes that the document says, or none; any bytes are a lock, a commit, a trace, as far as it says: whatever is handed in. -/
import Derived.Test.YtkfmjkoghfcciaaRecoTells
import Derived.Test.YtkfmjkoghfcciaaRecoOpen
namespace Go.Proofs.Ytkfmjkoghfcciaa
set_option maxRecDepth 100000
open Go.ChangeShapes Go.WideShapes Go.ChangeAt Go.RowKit

theorem trodAll_recotells {H : Type} {enc : TypeId × Value → H} {P : Program} {w : World} {base : Nat} {spare : Nat → Bool} {held : Bool} {t0 t1 t2 t3 t4 t5 : TypeId} {args : Array Value} {ds : List (DataW H)} {ps : List MemPlace}
    (h : DataW.TrodAll enc P w base spare held [t0, t1, t2, t3, t4, t5] args.toList ds ps) : ∃ v0 d0 p0 v1 d1 p1 v2 d2 p2 v3 d3 p3 v4 d4 p4 v5 d5 p5, args = #[v0, v1, v2, v3, v4, v5] ∧ ds = [d0, d1, d2, d3, d4, d5] ∧ DataW.Trod enc P w base spare held t0 v0 d0 p0 ∧ DataW.Trod enc P w base spare held t1 v1 d1 p1 ∧ DataW.Trod enc P w base spare held t2 v2 d2 p2 ∧ DataW.Trod enc P w base spare held t3 v3 d3 p3 ∧ DataW.Trod enc P w base spare held t4 v4 d4 p4 ∧ DataW.Trod enc P w base spare held t5 v5 d5 p5 := by
  obtain ⟨v0, vs0, d0, ds0, p0, q0, ha, rfl, rfl, h0, r0⟩ := trodAll_cons h
  obtain ⟨v1, vs1, d1, ds1, p1, q1, rfl, rfl, rfl, h1, r1⟩ := trodAll_cons r0
  obtain ⟨v2, vs2, d2, ds2, p2, q2, rfl, rfl, rfl, h2, r2⟩ := trodAll_cons r1
  obtain ⟨v3, vs3, d3, ds3, p3, q3, rfl, rfl, rfl, h3, r3⟩ := trodAll_cons r2
  obtain ⟨v4, vs4, d4, ds4, p4, q4, rfl, rfl, rfl, h4, r4⟩ := trodAll_cons r3
  obtain ⟨v5, vs5, d5, ds5, p5, q5, rfl, rfl, rfl, h5, r5⟩ := trodAll_cons r4
  have e1 : vs5 = [] ∧ ds5 = [] := by cases vs5 <;> cases ds5 <;> simp [DataW.TrodAll] at r5 ⊢
  obtain ⟨rfl, rfl⟩ := e1
  exact ⟨v0, d0, p0, v1, d1, p1, v2, d2, p2, v3, d3, p3, v4, d4, p4, v5, d5, p5, by rw [← Array.toArray_toList (xs := args), ha], rfl, h0, h1, h2, h3, h4, h5⟩

set_option maxRecDepth 100000 in
theorem recotells_lifted (os : Os) (started : os.Started) (H : Type) (enc : TypeId × Value → H) :
    ReturnsInHanded {} Try.checked os 7 .any (Rows.recoTellsSpec.pre6 enc Try.prog Try.f7 Rows.recoTellsRow.domain false) (Rows.recoTellsSpec.post enc Try.prog Try.f7 false true false false) := by
  refine returnsInHanded_of_change (C := Try.checked) own started (by kernel_rfl) Try.func7
    (ChangeSpec.witness6 (enc := enc) (C := Try.checked) false ⟨#[], #[.agg #[.int .i64 0, .int .i64 0, .int .i64 0, .int .i64 0], .agg #[.string ⟨#[]⟩, .int .i64 0, .int .i64 0, .slice none 0 0], .slice none 0 0, .slice none 0 0, .int .i64 0, .int .u8 0], []⟩ 8 (by kernel_rfl) (by kernel_rfl) (by kernel_rfl) (by kernel_rfl)) ?_
  intro W base args ds gs before hval hW _ _
  have hW' := hW
  obtain ⟨p, q, hA, hV, _, _, _⟩ := hW
  rw [show Try.f7.params.toList = [66, 59, 22, 30, 3, 5] from by kernel_rfl] at hA
  obtain ⟨v0, d0, p0, v1, d1, p1, v2, d2, p2, v3, d3, p3, v4, d4, p4, v5, d5, p5, rfl, rfl, h0, h1, h2, h3, h4, h5⟩ := trodAll_recotells hA
  obtain ⟨a0, b0, c0, e0, rfl⟩ := open_lock (hval 0 66 v0 (by kernel_rfl) rfl) h0
  obtain ⟨ts, a1, b1, u1, l1, rfl, hl1⟩ := open_done (hval 1 59 v1 (by kernel_rfl) rfl) h1
  obtain ⟨l2, hl2⟩ := open_introw (hval 2 22 v2 (by kernel_rfl) rfl) h2
  obtain ⟨l3, hl3⟩ := open_bytes (hval 3 30 v3 (by kernel_rfl) rfl) h3
  obtain ⟨a4, rfl, rfl, rfl, _⟩ := open_int Try.underlying3 (hval 4 3 v4 (by kernel_rfl) rfl) h4
  obtain ⟨z5, rfl, rfl, rfl, hw5⟩ := open_int Try.underlying5 (hval 5 5 v5 (by kernel_rfl) rfl) h5
  have hw6 : 0 ≤ z5 ∧ z5 < 256 := by
    simp [Lit.wf, IntKind.min, IntKind.max, IntKind.signed, IntKind.bits] at hw5
    omega
  obtain ⟨y5, rfl⟩ : ∃ y : Nat, z5 = (y : Int) := ⟨z5.toNat, by omega⟩
  refine (rtells_any a0 b0 c0 e0 ts a1 b1 u1 v2 v3 l1 l3 l2 a4 y5 W hl1 hl2 hl3 (by omega)).mono fun e W' ⟨he, hb⟩ => ⟨_, he, ?_⟩
  exact law_post laidOut (by kernel_rfl) (by kernel_rfl) Try.underlying4 rfl hW' (by simp [Rows.recoTellsSpec]) hb

theorem recotells_holds : Rows.RecoTellsSaid :=
  OpenClaim.holds_of_wide 7 Try.f7 rfl rfl rfl rfl rfl rfl rfl ⟨rfl, rfl, rfl, rfl, rfl⟩ rfl rfl rfl rfl rfl (by kernel_rfl) Try.func7 (by kernel_rfl)
    (of_decide_eq_true (by kernel_rfl)) (by unfold Func.isWrapper; first | (rw [if_pos (by decide +kernel)]; kernel_rfl) | (rw [if_neg (by decide +kernel)]; exact ⟨rfl, rfl⟩))
    (fun os started H enc _ => recotells_lifted os started H enc)

#print axioms recotells_holds
end Go.Proofs.Ytkfmjkoghfcciaa
