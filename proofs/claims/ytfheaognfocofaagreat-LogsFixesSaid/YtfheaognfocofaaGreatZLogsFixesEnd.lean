/- LogsFixes: a trace that is whole is left; one that is cut off, or has something behind that is none, is made whole: what was whole stays, nothing else; done again it is left: whatever is handed in. -/
import Derived.Test.YtfheaognfocofaaGreatZLogsFixesA
import Derived.Test.YtfheaognfocofaaGreatZInts
namespace Go.Proofs.YtfheaognfocofaaGreat
set_option maxRecDepth 100000
open Go.ChangeShapes Go.WideShapes Go.ChangeAt Go.RowKit

theorem trodAll_logsfixes {H : Type} {enc : TypeId × Value → H} {P : Program} {w : World} {base : Nat} {spare : Nat → Bool} {held : Bool} {t0 t1 t2 t3 t4 : TypeId} {args : Array Value} {ds : List (DataW H)} {ps : List MemPlace}
    (h : DataW.TrodAll enc P w base spare held [t0, t1, t2, t3, t4] args.toList ds ps) : ∃ v0 d0 p0 v1 d1 p1 v2 d2 p2 v3 d3 p3 v4 d4 p4, args = #[v0, v1, v2, v3, v4] ∧ ds = [d0, d1, d2, d3, d4] ∧ DataW.Trod enc P w base spare held t0 v0 d0 p0 ∧ DataW.Trod enc P w base spare held t1 v1 d1 p1 ∧ DataW.Trod enc P w base spare held t2 v2 d2 p2 ∧ DataW.Trod enc P w base spare held t3 v3 d3 p3 ∧ DataW.Trod enc P w base spare held t4 v4 d4 p4 := by
  obtain ⟨v0, vs0, d0, ds0, p0, q0, ha, rfl, rfl, h0, r0⟩ := trodAll_cons h
  obtain ⟨v1, vs1, d1, ds1, p1, q1, rfl, rfl, rfl, h1, r1⟩ := trodAll_cons r0
  obtain ⟨v2, vs2, d2, ds2, p2, q2, rfl, rfl, rfl, h2, r2⟩ := trodAll_cons r1
  obtain ⟨v3, vs3, d3, ds3, p3, q3, rfl, rfl, rfl, h3, r3⟩ := trodAll_cons r2
  obtain ⟨v4, vs4, d4, ds4, p4, q4, rfl, rfl, rfl, h4, r4⟩ := trodAll_cons r3
  have e1 : vs4 = [] ∧ ds4 = [] := by cases vs4 <;> cases ds4 <;> simp [DataW.TrodAll] at r4 ⊢
  obtain ⟨rfl, rfl⟩ := e1
  exact ⟨v0, d0, p0, v1, d1, p1, v2, d2, p2, v3, d3, p3, v4, d4, p4, by rw [← Array.toArray_toList (xs := args), ha], rfl, h0, h1, h2, h3, h4⟩

set_option maxRecDepth 100000 in
theorem logsfixes_lifted (os : Os) (started : os.Started) (H : Type) (enc : TypeId × Value → H) :
    ReturnsInHanded {} Tryz.checked os 3 .any (Rows.logsFixesSpec.pre6 enc Tryz.prog Tryz.f3 Rows.logsFixesRow.domain false) (Rows.logsFixesSpec.post enc Tryz.prog Tryz.f3 false true false false) := by
  refine returnsInHanded_of_change (C := Tryz.checked) own started (by kernel_rfl) Tryz.func3
    (ChangeSpec.witness6 (enc := enc) (C := Tryz.checked) false ⟨#[], #[.slice none 0 0, .int .i64 0, .slice none 0 0, .bool false, .bool false], []⟩ 8 (by kernel_rfl) (by kernel_rfl) (by kernel_rfl) (by kernel_rfl)) ?_
  intro W base args ds gs before hval hW _ _
  have hW' := hW
  obtain ⟨p, q, hA, hV, _, _, _⟩ := hW
  rw [show Tryz.f3.params.toList = [22, 3, 23, 4, 4] from by kernel_rfl] at hA
  obtain ⟨v0, d0, p0, v1, d1, p1, v2, d2, p2, v3, d3, p3, v4, d4, p4, rfl, rfl, h0, h1, h2, h3, h4⟩ := trodAll_logsfixes hA
  obtain ⟨l0, hl0⟩ := open_introw (hval 0 22 v0 (by kernel_rfl) rfl) h0
  obtain ⟨a1, rfl, rfl, rfl, _⟩ := open_int Tryz.underlying3 (hval 1 3 v1 (by kernel_rfl) rfl) h1
  obtain ⟨l2, hl2⟩ := open_bytes (hval 2 23 v2 (by kernel_rfl) rfl) h2
  obtain ⟨a3, rfl, rfl, rfl⟩ := open_bool Tryz.underlying4 (hval 3 4 v3 (by kernel_rfl) rfl) h3
  obtain ⟨a4, rfl, rfl, rfl⟩ := open_bool Tryz.underlying4 (hval 4 4 v4 (by kernel_rfl) rfl) h4
  refine (lgfixes_any v0 v2 l0 a1 l2 a3 a4 W hl0 hl2).mono fun e W' ⟨he, hb⟩ => ⟨_, he, ?_⟩
  exact law_post laidOut (by kernel_rfl) (by kernel_rfl) Tryz.underlying4 rfl hW' (by simp [Rows.logsFixesSpec]) hb

theorem logsfixes_holds : Rows.LogsFixesSaid :=
  OpenClaim.holds_of_wide 3 Tryz.f3 rfl rfl rfl rfl rfl rfl rfl ⟨rfl, rfl, rfl, rfl, rfl⟩ rfl rfl rfl rfl rfl (by kernel_rfl) Tryz.func3 (by kernel_rfl)
    (of_decide_eq_true (by kernel_rfl)) (by unfold Func.isWrapper; first | (rw [if_pos (by decide +kernel)]; kernel_rfl) | (rw [if_neg (by decide +kernel)]; exact ⟨rfl, rfl⟩))
    (fun os started H enc _ => logsfixes_lifted os started H enc)

#print axioms logsfixes_holds
end Go.Proofs.YtfheaognfocofaaGreat
