/- ManiMany: as many rules, outs, ins, orders, words of a name and names of default as may be are taken, and no more, whatever numbers pick how many of which. Its condition: the library's variables hold what the program's text lays (the card ties them). -/
import Derived.Test.YtgjehlegcmeeoaaGreatDoorZManiMany
import Derived.Test.YtgjehlegcmeeoaaGreatDoorZ26
namespace Go.Proofs.YtgjehlegcmeeoaaGreatDoor
set_option maxRecDepth 100000
open Go.ChangeShapes Go.WideShapes Go.ChangeAt Go.RowKit

theorem args_two {H : Type} {enc : TypeId × Value → H} {P : Program} {w : World} {base : Nat} {spare : Nat → Bool} {held : Bool} {t1 t2 : TypeId} {args : Array Value} {ds : List (DataW H)} {ps : List MemPlace}
    (h : DataW.TrodAll enc P w base spare held [t1, t2] args.toList ds ps) :
    ∃ v1 v2 d1 d2 p1 p2, args = #[v1, v2] ∧ ds = [d1, d2] ∧ DataW.Trod enc P w base spare held t1 v1 d1 p1 ∧ DataW.Trod enc P w base spare held t2 v2 d2 p2 := by
  obtain ⟨v1, vs1, d1, ds1, p1, q1, hargs, rfl, rfl, h1, r1⟩ := trodAll_cons h
  obtain ⟨v2, vs2, d2, ds2, p2, q2, rfl, rfl, rfl, h2, r2⟩ := trodAll_cons r1
  obtain ⟨rfl, rfl, rfl⟩ := trodAll_nil r2
  exact ⟨v1, v2, d1, d2, p1, p2, by cases args; simp_all, rfl, h1, h2⟩
theorem mand_low (a : Int) (k : Nat) (hk : k < 4294967296) : ∃ m : Nat, bits .and .i64 a (k : Int) = (m : Int) ∧ m ≤ k := by
  have h : bits .and .i64 a (k : Int) = IntKind.i64.wrap ((BitVec.ofInt 64 a &&& BitVec.ofInt 64 (k : Int)).toNat : Int) := rfl
  have hx : (BitVec.ofInt 64 a &&& BitVec.ofInt 64 (k : Int)).toNat ≤ k := by
    rw [BitVec.toNat_and]
    refine Nat.le_trans Nat.and_le_right ?_
    rw [BitVec.ofInt_natCast, BitVec.toNat_ofNat]
    exact Nat.mod_le _ _
  refine ⟨(BitVec.ofInt 64 a &&& BitVec.ofInt 64 (k : Int)).toNat, ?_, hx⟩
  rw [h, IntKind.wrap_i64]
  omega
def GoodL (L : List Ac.D) : Prop := ∀ i (h : i < L.length), Ac.okD (decide (i = 0)) (L[i]'h) = true ∧ (L[i]'h).n ≤ 31
theorem many_any (a b : Int) (w : World) (hT : Tabs w) : Calls Tryz.prog 4 #[.int .i64 a, .int .i64 b] w fun e w' => e = .returned (.bool true) ∧ Below w.heap.size w w' := by
  obtain ⟨N, hN, hN2⟩ := mand_low a 127 (by omega)
  obtain ⟨C, hC, hC2⟩ := mand_low b 255 (by omega)
  obtain ⟨M7, h7, g7⟩ := mand_low (N : Int) 7 (by omega)
  obtain ⟨M15, h15, g15⟩ := mand_low (N : Int) 15 (by omega)
  obtain ⟨M31, h31, g31⟩ := mand_low (N : Int) 31 (by omega)
  refine many_at a b N (C % 6) M7 M15 M31 hN hN2 ?_ (by omega) h7 g7 h15 g15 h31 g31 w (fun W hb => hT.under hb)
  rw [show (255 : Int) = ((255 : Nat) : Int) from rfl, hC, Int.tmod_eq_emod_of_nonneg (by omega)]
  omega

def zero1 : Array Value := #[.int .i64 0, .int .i64 0]
theorem many_reads (os : Os) {H : Type} (enc : TypeId × Value → H) : ∃ ds places, DataW.whole enc Tryz.prog ((laidWorld os).forCall (fun _ _ => 0) ⟨#[], zero1, []⟩).memory Tryz.f4.params.toList Rows.maniManySpec.vars false zero1.toList 8 = some (ds, [], places) :=
  ⟨[.lit (.int .i64 0), .lit (.int .i64 0)], [], by kernel_rfl⟩

set_option maxRecDepth 100000 in
theorem many_lifted (os : Os) (started : os.Started) (H : Type) (enc : TypeId × Value → H) (F : Stop.Interp) :
    ReturnsInHanded {} Tryz.checked os 4 .any ((OpenSpec.ofChange Rows.maniManySpec).preRow enc Tryz.prog Tryz.f4 Rows.maniManyRow.domain false Rows.maniManyRow.laid) (((OpenSpec.ofChange Rows.maniManySpec).at F).post enc Tryz.prog Tryz.f4 false true false false) := by
  obtain ⟨ds0, places, hx⟩ := many_reads os enc
  refine returnsInHanded_of_row (C := Tryz.checked) (s := OpenSpec.ofChange Rows.maniManySpec) own started (by kernel_rfl) Tryz.func4
    (witness_row_atRef (enc := enc) (C := Tryz.checked) false (laidWorld os) zero1 rfl (by kernel_rfl) (by kernel_rfl) (by kernel_rfl)
      (OpenSpec.preRow_of_cond 8 hx (by kernel_rfl) (fun k hk => by cases hk) (by kernel_rfl) (laid_met os _))) ?_
  intro W base args ds gs before hval hW _ _ _ hL hS _
  have hW' := hW
  obtain ⟨p, q, hA, hV, _, _, _⟩ := hW
  rw [show Tryz.f4.params.toList = [3, 3] from by kernel_rfl] at hA
  obtain ⟨v0, v1, d0, d1, p0, p1, rfl, rfl, h0, h1⟩ := args_two hA
  obtain ⟨a, rfl, rfl, rfl, _⟩ := open_int Tryz.underlying3 (hval 0 3 v0 (by kernel_rfl) rfl) h0
  obtain ⟨b, rfl, rfl, rfl, _⟩ := open_int Tryz.underlying3 (hval 1 3 v1 (by kernel_rfl) rfl) h1
  refine (many_any a b W (tabs_of_laid hL hS)).mono fun e W' ⟨he, hb⟩ => ⟨_, he, ?_⟩
  exact law_post laidOut (by kernel_rfl) (by kernel_rfl) Tryz.underlying4 rfl hW' rfl hb

theorem many_said : Rows.ManiManySaid :=
  OpenClaim.holds_of_cond 4 Tryz.f4 rfl rfl rfl rfl rfl rfl rfl ⟨rfl, rfl, rfl, rfl, rfl⟩ rfl rfl rfl rfl rfl (by kernel_rfl) Tryz.func4 (by kernel_rfl)
    (of_decide_eq_true (by kernel_rfl)) (by unfold Func.isWrapper; first | (rw [if_pos (by decide +kernel)]; kernel_rfl) | (rw [if_neg (by decide +kernel)]; exact ⟨rfl, rfl⟩))
    (fun os started H enc _ F => by rw [OpenClaim.pre_eq_preRow]; exact many_lifted os started H enc F)

theorem many_plain (f : FuncId) (fn : Func) (hf : Tryz.pinned.checked.prog.funcNamed "fettle/fettlelaw7.ManiMany" = some f) (hfn : Tryz.pinned.checked.prog.funcs[f]? = some fn) :
    true = Tryz.pinned.checked.prog.looks [] ∧ ∀ (j : Nat) t, fn.params[j]? = some t → Tryz.pinned.checked.prog.wantsStandIn t = false := by
  obtain rfl : f = 4 := Option.some.inj ((show Tryz.prog.funcNamed "fettle/fettlelaw7.ManiMany" = some 4 by kernel_rfl).symm.trans hf) |>.symm
  obtain rfl : fn = Tryz.f4 := (Option.some.inj (Tryz.func4.symm.trans hfn)).symm
  refine ⟨by kernel_rfl, fun j t ht => ?_⟩
  rw [show Tryz.f4.params = #[3, 3] from by kernel_rfl] at ht
  have : t = 3 := by
    rcases j with _ | _ | j <;> simp at ht <;> exact ht.symm
  rw [this]
  exact (show Tryz.prog.wantsStandIn 3 = false from by kernel_rfl)

theorem many_card : Rows.ManiManyCardSaid :=
  Claim7.holds_tied_plain_at .later [] _ _ _ _ many_said (fun _ h => by cases h) (by kernel_rfl) (fun _ h => by cases h) maniMany_row_tie rfl ⟨rfl, rfl⟩ (by kernel_rfl) rfl many_plain (by kernel_rfl)
#print axioms many_card
end Go.Proofs.YtgjehlegcmeeoaaGreatDoor
