/- SimfPlays: files are made, put, read, appended to, moved, dropped and listed as the document says: whatever the room, the script and the bytes are. -/
import Derived.Test.YtlfgadcfjjjbfaaPlays
import Derived.Test.YtlfgadcfjjjbfaaRowsOpen
namespace Go.Proofs.Ytlfgadcfjjjbfaa
set_option maxRecDepth 100000
open Go.ChangeShapes Go.WideShapes Go.ChangeAt Go.RowKit

theorem trodAll_simfplays {H : Type} {enc : TypeId × Value → H} {P : Program} {w : World} {base : Nat} {spare : Nat → Bool} {held : Bool} {t0 t1 t2 : TypeId} {args : Array Value} {ds : List (DataW H)} {ps : List MemPlace}
    (h : DataW.TrodAll enc P w base spare held [t0, t1, t2] args.toList ds ps) : ∃ v0 d0 p0 v1 d1 p1 v2 d2 p2, args = #[v0, v1, v2] ∧ ds = [d0, d1, d2] ∧ DataW.Trod enc P w base spare held t0 v0 d0 p0 ∧ DataW.Trod enc P w base spare held t1 v1 d1 p1 ∧ DataW.Trod enc P w base spare held t2 v2 d2 p2 := by
  obtain ⟨v0, vs0, d0, ds0, p0, q0, ha, rfl, rfl, h0, r0⟩ := trodAll_cons h
  obtain ⟨v1, vs1, d1, ds1, p1, q1, rfl, rfl, rfl, h1, r1⟩ := trodAll_cons r0
  obtain ⟨v2, vs2, d2, ds2, p2, q2, rfl, rfl, rfl, h2, r2⟩ := trodAll_cons r1
  have e1 : vs2 = [] ∧ ds2 = [] := by cases vs2 <;> cases ds2 <;> simp [DataW.TrodAll] at r2 ⊢
  obtain ⟨rfl, rfl⟩ := e1
  exact ⟨v0, d0, p0, v1, d1, p1, v2, d2, p2, by rw [← Array.toArray_toList (xs := args), ha], rfl, h0, h1, h2⟩

set_option maxRecDepth 100000 in
theorem simfplays_lifted (os : Os) (started : os.Started) (H : Type) (enc : TypeId × Value → H) :
    ReturnsInHanded {} Try.checked os 3 .any (Rows.simfPlaysSpec.pre6 enc Try.prog Try.f3 Rows.simfPlaysRow.domain false) (Rows.simfPlaysSpec.post enc Try.prog Try.f3 false true false false) := by
  refine returnsInHanded_of_change (C := Try.checked) own started (by kernel_rfl) Try.func3
    (ChangeSpec.witness6 (enc := enc) (C := Try.checked) false ⟨#[], #[.int .i64 0, .slice none 0 0, .slice none 0 0], []⟩ 8 (by kernel_rfl) (by kernel_rfl) (by kernel_rfl) (by kernel_rfl)) ?_
  intro W base args ds gs before hval hW _ _
  have hW' := hW
  obtain ⟨p, q, hA, hV, _, _, _⟩ := hW
  rw [show Try.f3.params.toList = [3, 22, 23] from by kernel_rfl] at hA
  obtain ⟨v0, d0, p0, v1, d1, p1, v2, d2, p2, rfl, rfl, h0, h1, h2⟩ := trodAll_simfplays hA
  obtain ⟨a0, rfl, rfl, rfl, _⟩ := open_int Try.underlying3 (hval 0 3 v0 (by kernel_rfl) rfl) h0
  obtain ⟨zs, hz⟩ := open_introw (hval 1 22 v1 (by kernel_rfl) rfl) h1
  obtain ⟨L, hL, _⟩ := open_rows (hval 2 23 v2 (by kernel_rfl) rfl) h2
  refine (plays_law a0 v1 v2 zs L W hz hL).mono fun e W' ⟨he, hb⟩ => ⟨_, he, ?_⟩
  exact law_post laidOut (by kernel_rfl) (by kernel_rfl) Try.underlying4 rfl hW' (by simp [Rows.simfPlaysSpec]) hb

theorem simfplays_holds : Rows.SimfPlaysSaid :=
  OpenClaim.holds_of_wide 3 Try.f3 rfl rfl rfl rfl rfl rfl rfl ⟨rfl, rfl, rfl, rfl, rfl⟩ rfl rfl rfl rfl rfl (by kernel_rfl) Try.func3 (by kernel_rfl)
    (of_decide_eq_true (by kernel_rfl)) (by unfold Func.isWrapper; first | (rw [if_pos (by decide +kernel)]; kernel_rfl) | (rw [if_neg (by decide +kernel)]; exact ⟨rfl, rfl⟩))
    (fun os started H enc _ => simfplays_lifted os started H enc)

#print axioms simfplays_holds
end Go.Proofs.Ytlfgadcfjjjbfaa
