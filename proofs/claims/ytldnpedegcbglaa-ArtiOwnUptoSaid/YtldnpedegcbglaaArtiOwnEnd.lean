/- ArtiOwn: what is read of an artifact is one's own; two artifacts are alike just if both their parts are: whatever the prints and values are, where what comes in is of bulk at most 1048576 (the sum of four lengths passes else what an int holds). -/
import Derived.Test.YtldnpedegcbglaaArtiOwn
import Derived.JoinedCond
import Derived.Test.YtldnpedegcbglaaBulk
namespace Go.Proofs.Ytldnpedegcbglaa
set_option maxRecDepth 100000
open Go.ChangeShapes Go.WideShapes Go.ChangeAt Go.RowKit

theorem trodAll_artiown {H : Type} {enc : TypeId × Value → H} {P : Program} {w : World} {base : Nat} {spare : Nat → Bool} {held : Bool} {t0 t1 t2 t3 : TypeId} {args : Array Value} {ds : List (DataW H)} {ps : List MemPlace}
    (h : DataW.TrodAll enc P w base spare held [t0, t1, t2, t3] args.toList ds ps) : ∃ v0 d0 p0 v1 d1 p1 v2 d2 p2 v3 d3 p3, args = #[v0, v1, v2, v3] ∧ ds = [d0, d1, d2, d3] ∧ DataW.Trod enc P w base spare held t0 v0 d0 p0 ∧ DataW.Trod enc P w base spare held t1 v1 d1 p1 ∧ DataW.Trod enc P w base spare held t2 v2 d2 p2 ∧ DataW.Trod enc P w base spare held t3 v3 d3 p3 := by
  obtain ⟨v0, vs0, d0, ds0, p0, q0, ha, rfl, rfl, h0, r0⟩ := trodAll_cons h
  obtain ⟨v1, vs1, d1, ds1, p1, q1, rfl, rfl, rfl, h1, r1⟩ := trodAll_cons r0
  obtain ⟨v2, vs2, d2, ds2, p2, q2, rfl, rfl, rfl, h2, r2⟩ := trodAll_cons r1
  obtain ⟨v3, vs3, d3, ds3, p3, q3, rfl, rfl, rfl, h3, r3⟩ := trodAll_cons r2
  have e1 : vs3 = [] ∧ ds3 = [] := by cases vs3 <;> cases ds3 <;> simp [DataW.TrodAll] at r3 ⊢
  obtain ⟨rfl, rfl⟩ := e1
  exact ⟨v0, d0, p0, v1, d1, p1, v2, d2, p2, v3, d3, p3, by rw [← Array.toArray_toList (xs := args), ha], rfl, h0, h1, h2, h3⟩

set_option maxRecDepth 100000 in
theorem artiown_lifted (os : Os) (started : os.Started) (H : Type) (enc : TypeId × Value → H) (F : Stop.Interp) :
    ReturnsInHanded {} Try.checked os 5 .any ((Rows.OpenSpec.upto Rows.artiOwnSpec).pre6 enc Try.prog Try.f5 Rows.artiOwnUptoRow.domain false)
      (((Rows.OpenSpec.upto Rows.artiOwnSpec).at F).post enc Try.prog Try.f5 false true false false) := by
  refine returnsInHanded_of_cond (C := Try.checked) (s := Rows.OpenSpec.upto Rows.artiOwnSpec) (k := Rows.uptoSmall) rfl own started (by kernel_rfl) Try.func5
    (OpenSpec.witness (enc := enc) (C := Try.checked) (s := Rows.OpenSpec.upto Rows.artiOwnSpec) (k := Rows.uptoSmall) rfl false ⟨#[], #[.slice none 0 0, .slice none 0 0, .slice none 0 0, .slice none 0 0], []⟩ 8 (by kernel_rfl) (by kernel_rfl) (by kernel_rfl)
      (x := ([.nil, .nil, .nil, .nil], [], [])) (by kernel_rfl) rfl (by kernel_rfl)) ?_
  intro W base args ds gs before hval hW _ hk _
  have hW' := hW
  obtain ⟨p, q, hA, hV, _, _, _⟩ := hW
  rw [show Try.f5.params.toList = [23, 23, 23, 23] from by kernel_rfl] at hA
  obtain ⟨v0, d0, p0, v1, d1, p1, v2, d2, p2, v3, d3, p3, rfl, rfl, h0, h1, h2, h3⟩ := trodAll_artiown hA
  obtain ⟨l0, hl0, hn0⟩ := open_bytes_bulk (hval 0 23 v0 (by kernel_rfl) rfl) h0
  obtain ⟨l1, hl1, hn1⟩ := open_bytes_bulk (hval 1 23 v1 (by kernel_rfl) rfl) h1
  obtain ⟨l2, hl2, hn2⟩ := open_bytes_bulk (hval 2 23 v2 (by kernel_rfl) rfl) h2
  obtain ⟨l3, hl3, hn3⟩ := open_bytes_bulk (hval 3 23 v3 (by kernel_rfl) rfl) h3
  have hbulk : Rows.uptoBulkAll ([d0, d1, d2, d3] ++ gs) ≤ 1048576 := of_decide_eq_true hk
  simp only [List.cons_append, Rows.uptoBulkAll] at hbulk
  refine (aown_any v0 v1 v2 v3 l0 l1 l2 l3 W hl0 hl1 hl2 hl3 (by omega) (by omega) (by omega) (by omega)).mono fun e W' ⟨he, hb⟩ => ⟨_, he, ?_⟩
  exact law_post (s := Rows.artiOwnSpec) laidOut (by kernel_rfl) (by kernel_rfl) Try.underlying4 rfl hW' (by simp [Rows.artiOwnSpec]) hb

theorem artiown_holds : Rows.ArtiOwnUptoSaid :=
  OpenClaim.holds_of_cond 5 Try.f5 rfl rfl rfl rfl rfl rfl rfl ⟨rfl, rfl, rfl, rfl, rfl⟩ rfl rfl rfl rfl rfl (by kernel_rfl) Try.func5 (by kernel_rfl)
    (of_decide_eq_true (by kernel_rfl)) (by unfold Func.isWrapper; first | (rw [if_pos (by decide +kernel)]; kernel_rfl) | (rw [if_neg (by decide +kernel)]; exact ⟨rfl, rfl⟩))
    (fun os started H enc _ F => artiown_lifted os started H enc F)

#print axioms artiown_holds
end Go.Proofs.Ytldnpedegcbglaa
