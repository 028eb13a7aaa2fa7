/- ActsOwn: what comes of inputs is the call's own: turned, they are not. Its condition: the library's variables hold what the program's text lays (the card ties them). -/
import Derived.Test.YtfeaolcgjkkadaaDoorActOwn
import Derived.Test.YtfeaolcgjkkadaaDoorActLaid2
import Derived.Test.YtfeaolcgjkkadaaDoorRowsOpen
namespace Go.Proofs.YtfeaolcgjkkadaaDoor
set_option maxRecDepth 100000
open Go.ChangeShapes Go.WideShapes Go.ChangeAt Go.RowKit

theorem args_2 {H : Type} {enc : TypeId × Value → H} {P : Program} {w : World} {base : Nat} {spare : Nat → Bool} {held : Bool} {t1 t2 : TypeId} {args : Array Value} {ds : List (DataW H)} {ps : List MemPlace}
    (h : DataW.TrodAll enc P w base spare held [t1, t2] args.toList ds ps) :
    ∃ v1 v2 d1 d2 p1 p2, args = #[v1, v2] ∧ ds = [d1, d2] ∧ DataW.Trod enc P w base spare held t1 v1 d1 p1 ∧ DataW.Trod enc P w base spare held t2 v2 d2 p2 := by
  obtain ⟨v1, vs1, d1, ds1, p1, q1, hargs, rfl, rfl, h1, r1⟩ := trodAll_cons h
  obtain ⟨v2, vs2, d2, ds2, p2, q2, rfl, rfl, rfl, h2, r2⟩ := trodAll_cons r1
  obtain ⟨rfl, rfl, rfl⟩ := trodAll_nil r2
  exact ⟨v1, v2, d1, d2, p1, p2, by cases args; simp_all, rfl, h1, h2⟩

def zeros : Array Value := #[.slice none 0 0, .slice none 0 0]
theorem own_reads (os : Os) {H : Type} (enc : TypeId × Value → H) : ∃ ds places, DataW.whole enc Tryd.prog ((laidWorld os).forCall (fun _ _ => 0) ⟨#[], zeros, []⟩).memory Tryd.f5.params.toList Rows.actsOwnSpec.vars false zeros.toList 8 = some (ds, [], places) :=
  ⟨[.nil, .nil], [], by kernel_rfl⟩

set_option maxRecDepth 100000 in
theorem own_lifted (os : Os) (started : os.Started) (H : Type) (enc : TypeId × Value → H) (F : Stop.Interp) :
    ReturnsInHanded {} Tryd.checked os 5 .any ((OpenSpec.ofChange Rows.actsOwnSpec).preRow enc Tryd.prog Tryd.f5 Rows.actsOwnRow.domain false Rows.actsOwnRow.laid) (((OpenSpec.ofChange Rows.actsOwnSpec).at F).post enc Tryd.prog Tryd.f5 false true false false) := by
  obtain ⟨ds0, places, hx⟩ := own_reads os enc
  refine returnsInHanded_of_row (C := Tryd.checked) (s := OpenSpec.ofChange Rows.actsOwnSpec) own started (by kernel_rfl) Tryd.func5
    (witness_row_atRef (enc := enc) (C := Tryd.checked) false (laidWorld os) zeros rfl (by kernel_rfl) (by kernel_rfl) (by kernel_rfl)
      (OpenSpec.preRow_of_cond 8 hx (by kernel_rfl) (fun k hk => by cases hk) (by kernel_rfl) (laid_met os _))) ?_
  intro W base args ds gs before hval hW _ _ _ hL hS _
  have hW' := hW
  obtain ⟨p, q, hA, hV, _, _, _⟩ := hW
  rw [show Tryd.f5.params.toList = [22, 42] from by kernel_rfl] at hA
  obtain ⟨v1, v2, d1, d2, p1, p2, rfl, rfl, h1, h2⟩ := args_2 hA
  obtain ⟨z1, hz1⟩ := open_introw (hval 0 22 v1 (by kernel_rfl) rfl) h1
  obtain ⟨z2, hz2, -⟩ := open_rows (hval 1 42 v2 (by kernel_rfl) rfl) h2
  refine (own_any _ _ _ _ W hz1 hz2 (tabs_of_laid hL hS)).mono fun e W' ⟨he, hb⟩ => ⟨_, he, ?_⟩
  exact law_post laidOut (by kernel_rfl) (by kernel_rfl) Tryd.underlying4 rfl hW' rfl hb

theorem own_said : Rows.ActsOwnSaid :=
  OpenClaim.holds_of_cond 5 Tryd.f5 rfl rfl rfl rfl rfl rfl rfl ⟨rfl, rfl, rfl, rfl, rfl⟩ rfl rfl rfl rfl rfl (by kernel_rfl) Tryd.func5 (by kernel_rfl)
    (of_decide_eq_true (by kernel_rfl)) (by unfold Func.isWrapper; first | (rw [if_pos (by decide +kernel)]; kernel_rfl) | (rw [if_neg (by decide +kernel)]; exact ⟨rfl, rfl⟩))
    (fun os started H enc _ F => by rw [OpenClaim.pre_eq_preRow]; exact own_lifted os started H enc F)

theorem own_plain (f : FuncId) (fn : Func) (hf : Tryd.pinned.checked.prog.funcNamed "fettle/fettlelaw6.ActsOwn" = some f) (hfn : Tryd.pinned.checked.prog.funcs[f]? = some fn) :
    true = Tryd.pinned.checked.prog.looks [] ∧ ∀ (j : Nat) t, fn.params[j]? = some t → Tryd.pinned.checked.prog.wantsStandIn t = false := by
  obtain rfl : f = 5 := Option.some.inj ((show Tryd.prog.funcNamed "fettle/fettlelaw6.ActsOwn" = some 5 by kernel_rfl).symm.trans hf) |>.symm
  obtain rfl : fn = Tryd.f5 := (Option.some.inj (Tryd.func5.symm.trans hfn)).symm
  refine ⟨by kernel_rfl, fun j t ht => ?_⟩
  rw [show Tryd.f5.params = #[22, 42] from by kernel_rfl] at ht
  have w0 : Tryd.prog.wantsStandIn 22 = false := by kernel_rfl
  have w1 : Tryd.prog.wantsStandIn 42 = false := by kernel_rfl
  rcases j with _ | _ | j <;> simp at ht <;> subst ht <;> assumption

theorem own_card : Rows.ActsOwnCardSaid :=
  Claim7.holds_tied_plain_at .later [] _ _ _ _ own_said (fun _ h => by cases h) (by kernel_rfl) (fun _ h => by cases h) actsOwn_row_tie rfl ⟨rfl, rfl⟩ (by kernel_rfl) rfl own_plain (by kernel_rfl)
#print axioms own_card
end Go.Proofs.YtfeaolcgjkkadaaDoor
