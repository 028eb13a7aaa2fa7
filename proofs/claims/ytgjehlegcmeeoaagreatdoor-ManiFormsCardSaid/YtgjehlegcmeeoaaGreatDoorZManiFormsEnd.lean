/- ManiForms: whichever row is picked, its text is told as is written beside it. Its condition: the library's variables hold what the program's text lays (the card ties them). -/
import Derived.Test.YtgjehlegcmeeoaaGreatDoorZ29
import Derived.Test.YtgjehlegcmeeoaaGreatDoorZ26
namespace Go.Proofs.YtgjehlegcmeeoaaGreatDoor
set_option maxRecDepth 100000
open Go.ChangeShapes Go.WideShapes Go.ChangeAt Go.RowKit

theorem and_low255 (a : Int) : 0 ≤ bits .and .i64 a 255 ∧ bits .and .i64 a 255 ≤ 255 := by
  have h : bits .and .i64 a 255 = IntKind.i64.wrap ((BitVec.ofInt 64 a &&& BitVec.ofInt 64 255).toNat : Int) := rfl
  have hx : (BitVec.ofInt 64 a &&& BitVec.ofInt 64 255).toNat ≤ 255 := by
    rw [BitVec.toNat_and]
    exact Nat.le_trans Nat.and_le_right (by decide)
  rw [h, IntKind.wrap_i64]
  omega

theorem forms_any (a : Int) (w : World) (hT : Tabs w) : Calls Tryz.prog 3 #[.int .i64 a] w fun e w' => e = .returned (.bool true) ∧ Below w.heap.size w w' := by
  have h := and_low255 a
  obtain ⟨k, hk⟩ : ∃ k : Nat, (bits .and .i64 a 255).tmod 39 = (k : Int) := ⟨((bits .and .i64 a 255).tmod 39).toNat, by rw [Int.toNat_of_nonneg]; rw [Int.tmod_eq_emod_of_nonneg h.1]; omega⟩
  refine mforms_at a k ?_ hk w (fun W hb => hT.under hb)
  rw [Int.tmod_eq_emod_of_nonneg h.1] at hk
  omega

def zero1 : Array Value := #[.int .i64 0]
theorem forms_reads (os : Os) {H : Type} (enc : TypeId × Value → H) : ∃ ds places, DataW.whole enc Tryz.prog ((laidWorld os).forCall (fun _ _ => 0) ⟨#[], zero1, []⟩).memory Tryz.f3.params.toList Rows.maniFormsSpec.vars false zero1.toList 8 = some (ds, [], places) :=
  ⟨[.lit (.int .i64 0)], [], by kernel_rfl⟩

set_option maxRecDepth 100000 in
theorem forms_lifted (os : Os) (started : os.Started) (H : Type) (enc : TypeId × Value → H) (F : Stop.Interp) :
    ReturnsInHanded {} Tryz.checked os 3 .any ((OpenSpec.ofChange Rows.maniFormsSpec).preRow enc Tryz.prog Tryz.f3 Rows.maniFormsRow.domain false Rows.maniFormsRow.laid) (((OpenSpec.ofChange Rows.maniFormsSpec).at F).post enc Tryz.prog Tryz.f3 false true false false) := by
  obtain ⟨ds0, places, hx⟩ := forms_reads os enc
  refine returnsInHanded_of_row (C := Tryz.checked) (s := OpenSpec.ofChange Rows.maniFormsSpec) own started (by kernel_rfl) Tryz.func3
    (witness_row_atRef (enc := enc) (C := Tryz.checked) false (laidWorld os) zero1 rfl (by kernel_rfl) (by kernel_rfl) (by kernel_rfl)
      (OpenSpec.preRow_of_cond 8 hx (by kernel_rfl) (fun k hk => by cases hk) (by kernel_rfl) (laid_met os _))) ?_
  intro W base args ds gs before hval hW _ _ _ hL hS _
  have hW' := hW
  obtain ⟨p, q, hA, hV, _, _, _⟩ := hW
  rw [show Tryz.f3.params.toList = [3] from by kernel_rfl] at hA
  obtain ⟨v0, d0, rfl, rfl, h0⟩ := trodAll_one hA
  obtain ⟨a, rfl, rfl, rfl, _⟩ := open_int Tryz.underlying3 (hval 0 3 v0 (by kernel_rfl) rfl) h0
  refine (forms_any a W (tabs_of_laid hL hS)).mono fun e W' ⟨he, hb⟩ => ⟨_, he, ?_⟩
  exact law_post laidOut (by kernel_rfl) (by kernel_rfl) Tryz.underlying4 rfl hW' rfl hb

theorem forms_said : Rows.ManiFormsSaid :=
  OpenClaim.holds_of_cond 3 Tryz.f3 rfl rfl rfl rfl rfl rfl rfl ⟨rfl, rfl, rfl, rfl, rfl⟩ rfl rfl rfl rfl rfl (by kernel_rfl) Tryz.func3 (by kernel_rfl)
    (of_decide_eq_true (by kernel_rfl)) (by unfold Func.isWrapper; first | (rw [if_pos (by decide +kernel)]; kernel_rfl) | (rw [if_neg (by decide +kernel)]; exact ⟨rfl, rfl⟩))
    (fun os started H enc _ F => by rw [OpenClaim.pre_eq_preRow]; exact forms_lifted os started H enc F)

theorem forms_plain (f : FuncId) (fn : Func) (hf : Tryz.pinned.checked.prog.funcNamed "fettle/fettlelaw7.ManiForms" = some f) (hfn : Tryz.pinned.checked.prog.funcs[f]? = some fn) :
    true = Tryz.pinned.checked.prog.looks [] ∧ ∀ (j : Nat) t, fn.params[j]? = some t → Tryz.pinned.checked.prog.wantsStandIn t = false := by
  obtain rfl : f = 3 := Option.some.inj ((show Tryz.prog.funcNamed "fettle/fettlelaw7.ManiForms" = some 3 by kernel_rfl).symm.trans hf) |>.symm
  obtain rfl : fn = Tryz.f3 := (Option.some.inj (Tryz.func3.symm.trans hfn)).symm
  refine ⟨by kernel_rfl, fun j t ht => ?_⟩
  rw [show Tryz.f3.params = #[3] from by kernel_rfl] at ht
  have : t = 3 := by
    rcases j with _ | j <;> simp at ht <;> exact ht.symm
  rw [this]
  exact (show Tryz.prog.wantsStandIn 3 = false from by kernel_rfl)

theorem forms_card : Rows.ManiFormsCardSaid :=
  Claim7.holds_tied_plain_at .later [] _ _ _ _ forms_said (fun _ h => by cases h) (by kernel_rfl) (fun _ h => by cases h) maniForms_row_tie rfl ⟨rfl, rfl⟩ (by kernel_rfl) rfl forms_plain (by kernel_rfl)
#print axioms forms_card
end Go.Proofs.YtgjehlegcmeeoaaGreatDoor
