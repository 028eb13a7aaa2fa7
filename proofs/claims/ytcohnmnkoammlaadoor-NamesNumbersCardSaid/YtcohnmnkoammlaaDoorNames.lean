/- NamesNumbers: every error and kind has the number that the document gives it. -/
import Derived.Test.YtcohnmnkoammlaaDoorNamesAll
import Derived.Test.YtcohnmnkoammlaaDoorCards
import Derived.Test.YtcohnmnkoammlaaDoorTie
import Derived.BigQuiet
import Derived.Deep.QuietTactic
import Derived.Deep.DeepHandedRow
import Derived.Lib.LaidTab
namespace Go.Proofs.YtcohnmnkoammlaaDoor
open Go.ChangeShapes Go.WideShapes Go.ChangeAt Go.RowKit

theorem error_seven (w : World) : Calls Tryd.prog 5 #[.int .i64 7] w fun e w' => e = .returned (.string (ByteArray.mk #[101, 114, 114, 111, 114, 32, 55])) ∧ w = w' := by
  go_enter Tryd.func5, Tryd.ntmps5
  go_wp2
  go_ret
  exact ⟨rfl, rfl⟩

theorem convert_drewN {P : Program} (w : World) (O : Obj) (nq : Nat) (t e : TypeId) (C : Array Value) (n c : Nat) (ht : P.underlying t = some (.slice e)) (he : P.underlying e = some (.int .u8)) :
    (convert t t (.slice (some ⟨w.heap.size + 1, 0, none⟩) n c)).run P (((w.alloc O).drewN nq).alloc (.cells C e)) = .ok (.slice (some ⟨w.heap.size + 1, 0, none⟩) n c) (((w.alloc O).drewN nq).alloc (.cells C e (C.size, C.size + 1))) := by
  have := Lib.run_convert_bytes_const (P := P) ((w.alloc O).drewN nq) t e C n c ht he
  simpa using this
theorem twice_at (l : List Int) (k : Nat) (hk : k < l.length) : (l.flatMap fun n => [Value.int .i64 n, Value.int .i64 n])[k * 2]? = some (.int .i64 (l.getD k 0)) ∧ (l.flatMap fun n => [Value.int .i64 n, Value.int .i64 n])[k * 2 + 1]? = some (.int .i64 (l.getD k 0)) := by
  induction l generalizing k with
  | nil => simp at hk
  | cons x l ih =>
    cases k with
    | zero => simp
    | succ k =>
      have := ih k (by simpa using hk)
      rw [List.flatMap_cons, show (k + 1) * 2 = k * 2 + 1 + 1 from by omega]
      simpa using this
theorem names_cell (w : World) (k : Nat) (hk : k < 82) : ∃ x : Int, (w.alloc (.cells namesCells 25)).cell? ⟨w.heap.size, k * 2, none⟩ = some (.int .i64 x) ∧ (w.alloc (.cells namesCells 25)).cell? ⟨w.heap.size, k * 2 + 1, none⟩ = some (.int .i64 x) := by
  have e1 : (w.alloc (.cells namesCells 25)).heap[w.heap.size]? = some (.cells namesCells 25) := heap_alloc_new w _
  have h := twice_at namesTab k (by simpa [namesTab] using hk)
  refine ⟨namesTab.getD k 0, ?_, ?_⟩
  · unfold World.cell?; rw [e1]; exact List.getElem?_toArray.trans h.1
  · unfold World.cell?; rw [e1]; exact List.getElem?_toArray.trans h.2

theorem names_below (w : World) (nq : Nat) (o : Obj) {p : Obj} : Below w.heap.size w (((w.alloc p).drewN nq).alloc o) := by
  have h1 : Below w.heap.size w (w.alloc p) := (Below.refl _ _).alloc (Nat.le_refl _) _
  have h2 : Below w.heap.size w ((w.alloc p).drewN nq) := ⟨h1.os, h1.tape, h1.output, h1.size, h1.block⟩
  exact h2.alloc (by simp) _

set_option maxHeartbeats 1000000 in
theorem names_any (w : World) :
    Calls Tryd.prog 3 #[] w fun e w' => e = .returned (.bool true) ∧ Below w.heap.size w w' := by
  have kc1 := fun (w : World) (O : Obj) (nq : Nat) (C : Array Value) (n c : Nat) => convert_drewN (P := Tryd.prog) w O nq 30 5 C n c Tryd.underlying30 Tryd.underlying5
  go_enter Tryd.func3, Tryd.ntmps3
  go_wp2_with (go_at_call 4; refine (all_any _).mono ?_; rintro e w' ⟨rfl, rfl⟩)
  go_loopw [2] (fun i wr => ∃ k : Nat, k ≤ 82 ∧ i = .int .i64 k ∧ ∃ nq, wr = (w.alloc (.cells namesCells 25)).drewN nq) (fun i _ => 82 - (intOf i).toNat)
  case atStart => exact ⟨0, by omega, rfl, 0, rfl⟩
  case round =>
    obtain ⟨k, hk, rfl, nq, rfl⟩ := hrel
    by_cases hlt : k < 82
    · obtain ⟨x, hx1, hx2⟩ := names_cell w k hlt
      have t1 : (k : Int) < 82 := by omega
      go_wp2
      go_quiet (fail)
      go_wp2
      go_roundw
      case rel => exact ⟨k + 1, by omega, by go_num, _, rfl⟩
      case measure => simp [intOf]; omega
    · obtain rfl : k = 82 := by omega
      go_wp2_with fail
      refine (error_seven _).mono ?_
      rintro e w' ⟨rfl, rfl⟩
      go_wp2_with fail
      refine (sum_is _ [49, 50, 51, 52, 53, 54, 55, 56, 57] _ 3421780262 ?_ ?_).mono ?_
      · exact bytes_new _ (w.heap.size + 1) (by simp) [49, 50, 51, 52, 53, 54, 55, 56, 57] _ _ (by decide) (by decide)
      · decide +kernel
      rintro e w' ⟨rfl, rfl⟩
      go_wp2_with fail
      go_ret
      exact ⟨rfl, names_below w nq _⟩

/-- The cells that a table of numbers holds. -/
def litCells : DataW Unit → Array Value
  | .agg ps => (ps.map fun d => match d with | .lit (.int k n) => Value.int k n | _ => undef).toArray
  | _ => #[]
def laidAt (d : DataW Unit) : Obj → Obj
  | .cells _ t frozen => .cells (litCells d) t frozen
  | o => o
/-- A world for the witness: the tables hold what their initialisers lay. -/
noncomputable def laidWorld (os : Os) : World :=
  { World.holding Tryd.prog os ⟨#[], #[], []⟩ with heap := (((World.holding Tryd.prog os ⟨#[], #[], []⟩).heap.modify 0 (laidAt Rows.laid_internal_strconv_uint64pow10)).modify 1 (laidAt Rows.laid_math_bits_deBruijn32tab)).modify 2 (laidAt Rows.laid_math_bits_deBruijn64tab) }
theorem laid_met (os : Os) : laidMet Tryd.prog Rows.namesNumbersRow.laid ((laidWorld os).forCall (fun _ _ => 0) ⟨#[], #[], []⟩).memory :=
  laidMet_of_run' 8 (by kernel_rfl) (by kernel_rfl)
theorem reads (os : Os) {H : Type} (enc : TypeId × Value → H) : ∃ places, DataW.whole enc Tryd.prog ((laidWorld os).forCall (fun _ _ => 0) ⟨#[], #[], []⟩).memory Tryd.f3.params.toList Rows.namesNumbersSpec.vars false [] 8 = some ([], [], places) :=
  ⟨[], by kernel_rfl⟩

set_option maxRecDepth 100000 in
theorem names_lifted (os : Os) (started : os.Started) (H : Type) (enc : TypeId × Value → H) (F : Stop.Interp) :
    ReturnsInHanded {} Tryd.checked os 3 .any ((OpenSpec.ofChange Rows.namesNumbersSpec).preRow enc Tryd.prog Tryd.f3 Rows.namesNumbersRow.domain false Rows.namesNumbersRow.laid) (((OpenSpec.ofChange Rows.namesNumbersSpec).at F).post enc Tryd.prog Tryd.f3 false true false false) := by
  obtain ⟨places, hx⟩ := reads os enc
  refine returnsInHanded_of_row (C := Tryd.checked) (s := OpenSpec.ofChange Rows.namesNumbersSpec) own started (by kernel_rfl) Tryd.func3
    (witness_row_at (enc := enc) (C := Tryd.checked) false (laidWorld os) #[] rfl (by kernel_rfl) (by kernel_rfl) (by kernel_rfl)
      (OpenSpec.preRow_of_cond 8 hx (by kernel_rfl) (fun k hk => by cases hk) (by kernel_rfl) (laid_met os))) ?_
  intro W base args ds gs before _ hW _ _ _ _ _ _
  have hW' := hW
  obtain ⟨p, q, hA, _, _, _, _⟩ := hW
  rw [show Tryd.f3.params.toList = [] from by kernel_rfl] at hA
  obtain ⟨rfl, rfl, rfl⟩ := trodAll_none hA
  refine (names_any W).mono fun e W' ⟨he, hb⟩ => ⟨_, he, ?_⟩
  exact law_post laidOut (by kernel_rfl) (by kernel_rfl) Tryd.underlying4 rfl hW' rfl hb

theorem names_said : Rows.NamesNumbersSaid :=
  OpenClaim.holds_of_cond 3 Tryd.f3 rfl rfl rfl rfl rfl rfl rfl ⟨rfl, rfl, rfl, rfl, rfl⟩ rfl rfl rfl rfl rfl (by kernel_rfl) Tryd.func3 (by kernel_rfl)
    (of_decide_eq_true (by kernel_rfl)) (by unfold Func.isWrapper; first | (rw [if_pos (by decide +kernel)]; kernel_rfl) | (rw [if_neg (by decide +kernel)]; exact ⟨rfl, rfl⟩))
    (fun os started H enc _ F => by rw [OpenClaim.pre_eq_preRow]; exact names_lifted os started H enc F)

theorem names_plain (f : FuncId) (fn : Func) (hf : Tryd.pinned.checked.prog.funcNamed "fettle/fettlelaw0.NamesNumbers" = some f) (hfn : Tryd.pinned.checked.prog.funcs[f]? = some fn) :
    false = Tryd.pinned.checked.prog.looks [] ∧ ∀ (j : Nat) t, fn.params[j]? = some t → Tryd.pinned.checked.prog.wantsStandIn t = false := by
  obtain rfl : f = 3 := Option.some.inj ((show Tryd.prog.funcNamed "fettle/fettlelaw0.NamesNumbers" = some 3 by kernel_rfl).symm.trans hf) |>.symm
  obtain rfl : fn = Tryd.f3 := (Option.some.inj (Tryd.func3.symm.trans hfn)).symm
  refine ⟨by kernel_rfl, fun j t ht => ?_⟩
  rw [show Tryd.f3.params = #[] from by kernel_rfl] at ht
  simp at ht

theorem names_card : Rows.NamesNumbersCardSaid :=
  Claim7.holds_tied_plain_at .later [] _ _ _ _ names_said (fun _ h => by cases h) (by kernel_rfl) (fun _ h => by cases h) namesNumbers_row_tie rfl ⟨rfl, rfl⟩ (by kernel_rfl) rfl names_plain (by kernel_rfl)
#print axioms names_card
end Go.Proofs.YtcohnmnkoammlaaDoor
