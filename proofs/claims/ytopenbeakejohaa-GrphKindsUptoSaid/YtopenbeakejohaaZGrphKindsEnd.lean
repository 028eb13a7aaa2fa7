/- GrphKinds: of no things there is an order of none; a thing that stands several times stands once; things that are ahead and not there do not count: whatever the things are, where what comes in is of bulk at most 1048576 (the law joins twenty texts: their lengths' sum passes else what an int holds). -/
import Derived.Test.YtopenbeakejohaaZ32
import Derived.JoinedCond
namespace Go.Proofs.Ytopenbeakejohaa
set_option maxRecDepth 100000
open Go.ChangeShapes Go.WideShapes Go.ChangeAt Go.RowKit

theorem trodAll_grphkinds {H : Type} {enc : TypeId × Value → H} {P : Program} {w : World} {base : Nat} {spare : Nat → Bool} {held : Bool} {t0 t1 : TypeId} {args : Array Value} {ds : List (DataW H)} {ps : List MemPlace}
    (h : DataW.TrodAll enc P w base spare held [t0, t1] args.toList ds ps) : ∃ v0 d0 p0 v1 d1 p1, args = #[v0, v1] ∧ ds = [d0, d1] ∧ DataW.Trod enc P w base spare held t0 v0 d0 p0 ∧ DataW.Trod enc P w base spare held t1 v1 d1 p1 := by
  obtain ⟨v0, vs0, d0, ds0, p0, q0, ha, rfl, rfl, h0, r0⟩ := trodAll_cons h
  obtain ⟨v1, vs1, d1, ds1, p1, q1, rfl, rfl, rfl, h1, r1⟩ := trodAll_cons r0
  have e1 : vs1 = [] ∧ ds1 = [] := by cases vs1 <;> cases ds1 <;> simp [DataW.TrodAll] at r1 ⊢
  obtain ⟨rfl, rfl⟩ := e1
  exact ⟨v0, d0, p0, v1, d1, p1, by rw [← Array.toArray_toList (xs := args), ha], rfl, h0, h1⟩

set_option maxRecDepth 100000 in
theorem grphkinds_lifted (os : Os) (started : os.Started) (H : Type) (enc : TypeId × Value → H) (F : Stop.Interp) :
    ReturnsInHanded {} Try.checked os 3 .any ((Rows.OpenSpec.upto Rows.grphKindsSpec).pre6 enc Try.prog Try.f3 Rows.grphKindsUptoRow.domain false)
      (((Rows.OpenSpec.upto Rows.grphKindsSpec).at F).post enc Try.prog Try.f3 false true false false) := by
  refine returnsInHanded_of_cond (C := Try.checked) (s := Rows.OpenSpec.upto Rows.grphKindsSpec) (k := Rows.uptoSmall) rfl own started (by kernel_rfl) Try.func3
    (OpenSpec.witness (enc := enc) (C := Try.checked) (s := Rows.OpenSpec.upto Rows.grphKindsSpec) (k := Rows.uptoSmall) rfl false ⟨#[], #[.slice none 0 0, .int .i64 0], []⟩ 8 (by kernel_rfl) (by kernel_rfl) (by kernel_rfl)
      (x := ([.nil, .lit (.int .i64 0)], [], [])) (by kernel_rfl) rfl (by kernel_rfl)) ?_
  intro W base args ds gs before hval hW _ hk _
  have hW' := hW
  obtain ⟨p, q, hA, hV, _, _, _⟩ := hW
  rw [show Try.f3.params.toList = [22, 3] from by kernel_rfl] at hA
  obtain ⟨v0, d0, p0, v1, d1, p1, rfl, rfl, h0, h1⟩ := trodAll_grphkinds hA
  obtain ⟨L, hL, hB, hS, hN, hO⟩ := open_texts (hval 0 22 v0 (by kernel_rfl) rfl) h0
  obtain ⟨a1, rfl, rfl, rfl, _⟩ := open_int Try.underlying3 (hval 1 3 v1 (by kernel_rfl) rfl) h1
  have hbulk : Rows.uptoBulkAll ([d0, .lit (.int .i64 a1)] ++ gs) ≤ 1048576 := of_decide_eq_true hk
  simp only [List.cons_append, Rows.uptoBulkAll] at hbulk
  refine (kinds_any v0 a1 L W hL hB (by omega) hN hO).mono fun e W' ⟨he, hb⟩ => ⟨_, he, ?_⟩
  exact law_post (s := Rows.grphKindsSpec) laidOut (by kernel_rfl) (by kernel_rfl) Try.underlying4 rfl hW' (by simp [Rows.grphKindsSpec]) hb

theorem grphkinds_holds : Rows.GrphKindsUptoSaid :=
  OpenClaim.holds_of_cond 3 Try.f3 rfl rfl rfl rfl rfl rfl rfl ⟨rfl, rfl, rfl, rfl, rfl⟩ rfl rfl rfl rfl rfl (by kernel_rfl) Try.func3 (by kernel_rfl)
    (of_decide_eq_true (by kernel_rfl)) (by unfold Func.isWrapper; first | (rw [if_pos (by decide +kernel)]; kernel_rfl) | (rw [if_neg (by decide +kernel)]; exact ⟨rfl, rfl⟩))
    (fun os started H enc _ F => grphkinds_lifted os started H enc F)

#print axioms grphkinds_holds
end Go.Proofs.Ytopenbeakejohaa
