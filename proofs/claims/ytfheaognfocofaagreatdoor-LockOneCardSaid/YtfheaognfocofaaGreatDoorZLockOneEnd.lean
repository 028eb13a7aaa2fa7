/- LockOne: however takers, frees and renewals go, step by step, between each other, and however time goes, epochs rise by one with each who takes it; who was told that they hold it had its guard, and only who has its guard can free or renew it; whatever the row of acts. Its condition: the library's tables hold what the program's text lays (the card ties them). -/
import Derived.Test.YtfheaognfocofaaGreatDoorZLockAll
import Derived.Test.YtfheaognfocofaaGreatDoorZLockLaidZ
namespace Go.Proofs.YtfheaognfocofaaGreatDoor
set_option maxRecDepth 100000
open Go.ChangeShapes Go.WideShapes Go.ChangeAt Go.RowKit

theorem args_1 {H : Type} {enc : TypeId × Value → H} {P : Program} {w : World} {base : Nat} {spare : Nat → Bool} {held : Bool} {t1 : TypeId} {args : Array Value} {ds : List (DataW H)} {ps : List MemPlace}
    (h : DataW.TrodAll enc P w base spare held [t1] args.toList ds ps) : ∃ v1 d1 p1, args = #[v1] ∧ ds = [d1] ∧ DataW.Trod enc P w base spare held t1 v1 d1 p1 := by
  obtain ⟨v1, vs1, d1, ds1, p1, q1, ha, rfl, rfl, h1, r1⟩ := trodAll_cons h
  obtain ⟨rfl, rfl, rfl⟩ := trodAll_nil r1
  exact ⟨v1, d1, p1, by cases args; simp_all, rfl, h1⟩

def zeros : Array Value := #[.slice none 0 0]
theorem one_reads (os : Os) {H : Type} (enc : TypeId × Value → H) : ∃ ds places, DataW.whole enc Tryz.prog ((laidWorld os).forCall (fun _ _ => 0) ⟨#[], zeros, []⟩).memory Tryz.f3.params.toList Rows.lockOneSpec.vars false zeros.toList 8 = some (ds, [], places) :=
  ⟨[.nil], [], by kernel_rfl⟩

set_option maxRecDepth 100000 in
theorem one_lifted (os : Os) (started : os.Started) (H : Type) (enc : TypeId × Value → H) (F : Stop.Interp) :
    ReturnsInHanded {} Tryz.checked os 3 .any ((OpenSpec.ofChange Rows.lockOneSpec).preRow enc Tryz.prog Tryz.f3 Rows.lockOneRow.domain false Rows.lockOneRow.laid) (((OpenSpec.ofChange Rows.lockOneSpec).at F).post enc Tryz.prog Tryz.f3 false true false false) := by
  obtain ⟨ds0, places, hx⟩ := one_reads os enc
  refine returnsInHanded_of_row (C := Tryz.checked) (s := OpenSpec.ofChange Rows.lockOneSpec) own started (by kernel_rfl) Tryz.func3
    (witness_row_atRef (enc := enc) (C := Tryz.checked) false (laidWorld os) zeros rfl (by kernel_rfl) (by kernel_rfl) (by kernel_rfl)
      (OpenSpec.preRow_of_cond 8 hx (by kernel_rfl) (fun k hk => by cases hk) (by kernel_rfl) (laid_met os _))) ?_
  intro W base args ds gs before hval hW _ _ _ hL hS _
  have hW' := hW
  obtain ⟨p, q, hA, hV, _, _, _⟩ := hW
  rw [show Tryz.f3.params.toList = [22] from by kernel_rfl] at hA
  obtain ⟨v1, d1, p1, rfl, rfl, h1⟩ := args_1 hA
  obtain ⟨l1, hl1⟩ := open_introw (hval 0 22 v1 (by kernel_rfl) rfl) h1
  refine (one_any v1 l1 W (pow_of_laid hL) hl1).mono fun e W' ⟨he, hb⟩ => ⟨_, he, ?_⟩
  exact law_post laidOut (by kernel_rfl) (by kernel_rfl) Tryz.underlying4 rfl hW' (by simp [OpenSpec.ofChange, OpenSpec.at, Rows.lockOneSpec]) hb

theorem one_said : Rows.LockOneSaid :=
  OpenClaim.holds_of_cond 3 Tryz.f3 rfl rfl rfl rfl rfl rfl rfl ⟨rfl, rfl, rfl, rfl, rfl⟩ rfl rfl rfl rfl rfl (by kernel_rfl) Tryz.func3 (by kernel_rfl)
    (of_decide_eq_true (by kernel_rfl)) (by unfold Func.isWrapper; first | (rw [if_pos (by decide +kernel)]; kernel_rfl) | (rw [if_neg (by decide +kernel)]; exact ⟨rfl, rfl⟩))
    (fun os started H enc _ F => by rw [OpenClaim.pre_eq_preRow]; exact one_lifted os started H enc F)

theorem one_plain (f : FuncId) (fn : Func) (hf : Tryz.pinned.checked.prog.funcNamed "fettle/fettlelaw13.LockOne" = some f) (hfn : Tryz.pinned.checked.prog.funcs[f]? = some fn) :
    false = Tryz.pinned.checked.prog.looks [] ∧ ∀ (j : Nat) t, fn.params[j]? = some t → Tryz.pinned.checked.prog.wantsStandIn t = false := by
  obtain rfl : f = 3 := Option.some.inj ((show Tryz.prog.funcNamed "fettle/fettlelaw13.LockOne" = some 3 by kernel_rfl).symm.trans hf) |>.symm
  obtain rfl : fn = Tryz.f3 := (Option.some.inj (Tryz.func3.symm.trans hfn)).symm
  refine ⟨by kernel_rfl, fun j t ht => ?_⟩
  rw [show Tryz.f3.params = #[22] from by kernel_rfl] at ht
  have : t = 22 := by
    rcases j with _ | j <;> simp at ht <;> exact ht.symm
  rw [this]
  exact (show Tryz.prog.wantsStandIn 22 = false from by kernel_rfl)

theorem one_card : Rows.LockOneCardSaid :=
  Claim7.holds_tied_plain_at .later [] _ _ _ _ one_said (fun _ h => by cases h) (by kernel_rfl) (fun _ h => by cases h) lockOne_row_tie rfl ⟨rfl, rfl⟩ (by kernel_rfl) rfl one_plain (by kernel_rfl)
#print axioms one_card
end Go.Proofs.YtfheaognfocofaaGreatDoor
