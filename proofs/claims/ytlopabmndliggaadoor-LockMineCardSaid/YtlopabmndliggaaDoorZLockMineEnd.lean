/- LockMine: who asks anew for what they have still has it at once, by the same stamp, and its time is not longer for that; whoever it is, and whenever they ask. Its condition: the library's tables hold what the program's text lays (the card ties them). -/
import Derived.Test.YtlopabmndliggaaDoorZLockMine
import Derived.Test.YtlopabmndliggaaDoorZLockLaidD
namespace Go.Proofs.YtlopabmndliggaaDoor
set_option maxRecDepth 100000
open Go.ChangeShapes Go.WideShapes Go.ChangeAt Go.RowKit

theorem args_2 {H : Type} {enc : TypeId × Value → H} {P : Program} {w : World} {base : Nat} {spare : Nat → Bool} {held : Bool} {t1 t2 : TypeId} {args : Array Value} {ds : List (DataW H)} {ps : List MemPlace}
    (h : DataW.TrodAll enc P w base spare held [t1, t2] args.toList ds ps) :
    ∃ v1 v2 d1 d2 p1 p2, args = #[v1, v2] ∧ ds = [d1, d2] ∧ DataW.Trod enc P w base spare held t1 v1 d1 p1 ∧ DataW.Trod enc P w base spare held t2 v2 d2 p2 := by
  obtain ⟨v1, vs1, d1, ds1, p1, q1, hargs, rfl, rfl, h1, r1⟩ := trodAll_cons h
  obtain ⟨v2, vs2, d2, ds2, p2, q2, rfl, rfl, rfl, h2, r2⟩ := trodAll_cons r1
  obtain ⟨rfl, rfl, rfl⟩ := trodAll_nil r2
  exact ⟨v1, v2, d1, d2, p1, p2, by cases args; simp_all, rfl, h1, h2⟩

def zeros : Array Value := #[.int .i64 0, .int .i64 0]
theorem mine_reads (os : Os) {H : Type} (enc : TypeId × Value → H) : ∃ ds places, DataW.whole enc Tryd.prog ((laidWorld os).forCall (fun _ _ => 0) ⟨#[], zeros, []⟩).memory Tryd.f4.params.toList Rows.lockMineSpec.vars false zeros.toList 8 = some (ds, [], places) :=
  ⟨[.lit (.int .i64 0), .lit (.int .i64 0)], [], by kernel_rfl⟩

set_option maxRecDepth 100000 in
theorem mine_lifted (os : Os) (started : os.Started) (H : Type) (enc : TypeId × Value → H) (F : Stop.Interp) :
    ReturnsInHanded {} Tryd.checked os 4 .any ((OpenSpec.ofChange Rows.lockMineSpec).preRow enc Tryd.prog Tryd.f4 Rows.lockMineRow.domain false Rows.lockMineRow.laid) (((OpenSpec.ofChange Rows.lockMineSpec).at F).post enc Tryd.prog Tryd.f4 false true false false) := by
  obtain ⟨ds0, places, hx⟩ := mine_reads os enc
  refine returnsInHanded_of_row (C := Tryd.checked) (s := OpenSpec.ofChange Rows.lockMineSpec) own started (by kernel_rfl) Tryd.func4
    (witness_row_atRef (enc := enc) (C := Tryd.checked) false (laidWorld os) zeros rfl (by kernel_rfl) (by kernel_rfl) (by kernel_rfl)
      (OpenSpec.preRow_of_cond 8 hx (by kernel_rfl) (fun k hk => by cases hk) (by kernel_rfl) (laid_met os _))) ?_
  intro W base args ds gs before hval hW _ _ _ hL hS _
  have hW' := hW
  obtain ⟨p, q, hA, hV, _, _, _⟩ := hW
  rw [show Tryd.f4.params.toList = [3, 3] from by kernel_rfl] at hA
  obtain ⟨v1, v2, d1, d2, p1, p2, rfl, rfl, h1, h2⟩ := args_2 hA
  obtain ⟨a, rfl, rfl, rfl, _⟩ := open_int Tryd.underlying3 (hval 0 3 v1 (by kernel_rfl) rfl) h1
  obtain ⟨b, rfl, rfl, rfl, _⟩ := open_int Tryd.underlying3 (hval 1 3 v2 (by kernel_rfl) rfl) h2
  refine (mine_any a b W (pow_of_laid hL)).mono fun e W' ⟨he, hb⟩ => ⟨_, he, ?_⟩
  exact law_post laidOut (by kernel_rfl) (by kernel_rfl) Tryd.underlying4 rfl hW' rfl hb

theorem mine_said : Rows.LockMineSaid :=
  OpenClaim.holds_of_cond 4 Tryd.f4 rfl rfl rfl rfl rfl rfl rfl ⟨rfl, rfl, rfl, rfl, rfl⟩ rfl rfl rfl rfl rfl (by kernel_rfl) Tryd.func4 (by kernel_rfl)
    (of_decide_eq_true (by kernel_rfl)) (by unfold Func.isWrapper; first | (rw [if_pos (by decide +kernel)]; kernel_rfl) | (rw [if_neg (by decide +kernel)]; exact ⟨rfl, rfl⟩))
    (fun os started H enc _ F => by rw [OpenClaim.pre_eq_preRow]; exact mine_lifted os started H enc F)

theorem mine_plain (f : FuncId) (fn : Func) (hf : Tryd.pinned.checked.prog.funcNamed "fettle/fettlelaw13.LockMine" = some f) (hfn : Tryd.pinned.checked.prog.funcs[f]? = some fn) :
    false = Tryd.pinned.checked.prog.looks [] ∧ ∀ (j : Nat) t, fn.params[j]? = some t → Tryd.pinned.checked.prog.wantsStandIn t = false := by
  obtain rfl : f = 4 := Option.some.inj ((show Tryd.prog.funcNamed "fettle/fettlelaw13.LockMine" = some 4 by kernel_rfl).symm.trans hf) |>.symm
  obtain rfl : fn = Tryd.f4 := (Option.some.inj (Tryd.func4.symm.trans hfn)).symm
  refine ⟨by kernel_rfl, fun j t ht => ?_⟩
  rw [show Tryd.f4.params = #[3, 3] from by kernel_rfl] at ht
  have : t = 3 := by
    rcases j with _ | _ | j <;> simp at ht <;> exact ht.symm
  rw [this]
  exact (show Tryd.prog.wantsStandIn 3 = false from by kernel_rfl)

theorem mine_card : Rows.LockMineCardSaid :=
  Claim7.holds_tied_plain_at .later [] _ _ _ _ mine_said (fun _ h => by cases h) (by kernel_rfl) (fun _ h => by cases h) lockMine_row_tie rfl ⟨rfl, rfl⟩ (by kernel_rfl) rfl mine_plain (by kernel_rfl)
#print axioms mine_card
end Go.Proofs.YtlopabmndliggaaDoor
