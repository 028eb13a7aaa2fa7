/- FramTells: bytes are framed, and frames found in any bytes, one behind the other, as the document says: whatever the bytes, the rows, the place and the byte, where what comes in is of bulk at most 1048576 (all rows together may else pass what a slice can hold). -/
import Derived.Test.YtlfkbbdlmgklnaaFramTells
import Derived.Test.YtlfkbbdlmgklnaaRowsOpen
import Derived.JoinedCond
namespace Go.Proofs.Ytlfkbbdlmgklnaa
open Go.ChangeShapes Go.WideShapes Go.ChangeAt Go.RowKit

set_option maxRecDepth 100000 in
set_option maxHeartbeats 4000000 in
theorem tells_long (v0 v1 : Value) (raw : List Nat) (L : List (List Nat)) (at_ by_ : Int) (w : World) (hr : Bytes w v0 raw) (hL : Rows2 w v1 L) (hl : 300 < raw.length ∨ raw.length ≤ 300 ∧ 12 < L.length) :
    Calls Try.prog 3 #[v0, v1, .int .i64 at_, .int .u8 by_] w fun e w' => e = .returned (.bool true) ∧ Below w.heap.size w w' := by
  obtain ⟨_, hm0, A0, c0, rfl, hc0, _⟩ := hr.parts
  obtain ⟨hm1, A1, c1, rfl, hc1, _⟩ := hL
  clear hr
  have hb0 : Below w.heap.size w (w.alloc (.cells #[.bool false] 4)) := (Below.refl _ w).alloc (Nat.le_refl _) _
  rcases hl with hl | ⟨hl1, hl2⟩
  · have h4 : (300 : Int) < (raw.length : Int) := by omega
    go_enter Try.func3, Try.ntmps3
    go_wp2_with fail
    refine (awake_any _).mono ?_
    rintro e w1 ⟨rfl, hb1⟩
    have B8 := Lib.hid ((show Blk (w.alloc (.cells #[.bool false] 4)) w.heap.size 4 #[.bool false] from heap_alloc_new w _).under hb1)
    have hx8 : w1.cell? ⟨w.heap.size, 0, none⟩ = some (.bool false) := B8.out.at 0
    have fx8 := B8.out.free 0
    have hB1 : Below w.heap.size w w1 := hb0.trans (hb1.mono (by simp))
    have hc : (w1.setCell ⟨w.heap.size, 0, none⟩ (.bool true)).cell? ⟨w.heap.size, 0, none⟩ = some (.bool true) := (B8.out.set 0 (.bool true)).at 0
    go_wp2
    refine bodyPost_ret (v := .bool true) (by simp [results, Try.f3, go_sem, hc]) rfl ?_
    exact ⟨rfl, hB1.setCell (p := ⟨w.heap.size, 0, none⟩) (Nat.le_refl _) _⟩
  · have h4 : ¬ (300 : Int) < (raw.length : Int) := by omega
    have h5 : (12 : Int) < (L.length : Int) := by omega
    go_enter Try.func3, Try.ntmps3
    go_wp2_with fail
    refine (awake_any _).mono ?_
    rintro e w1 ⟨rfl, hb1⟩
    have B8 := Lib.hid ((show Blk (w.alloc (.cells #[.bool false] 4)) w.heap.size 4 #[.bool false] from heap_alloc_new w _).under hb1)
    have hx8 : w1.cell? ⟨w.heap.size, 0, none⟩ = some (.bool false) := B8.out.at 0
    have fx8 := B8.out.free 0
    have hB1 : Below w.heap.size w w1 := hb0.trans (hb1.mono (by simp))
    have hc : (w1.setCell ⟨w.heap.size, 0, none⟩ (.bool true)).cell? ⟨w.heap.size, 0, none⟩ = some (.bool true) := (B8.out.set 0 (.bool true)).at 0
    go_wp2
    refine bodyPost_ret (v := .bool true) (by simp [results, Try.f3, go_sem, hc]) rfl ?_
    exact ⟨rfl, hB1.setCell (p := ⟨w.heap.size, 0, none⟩) (Nat.le_refl _) _⟩

theorem tells_any (v0 v1 : Value) (raw : List Nat) (L : List (List Nat)) (at_ by_ : Int) (w : World) (hr : Bytes w v0 raw) (hL : Rows2 w v1 L) (hT : L.flatten.length ≤ 1048576) (hby : 0 ≤ by_ ∧ by_ < 256) :
    Calls Try.prog 3 #[v0, v1, .int .i64 at_, .int .u8 by_] w fun e w' => e = .returned (.bool true) ∧ Below w.heap.size w w' := by
  by_cases h : raw.length ≤ 300 ∧ L.length ≤ 12
  · exact tells_short v0 v1 raw L at_ by_ w hr hL h.1 h.2 hT hby
  · exact tells_long v0 v1 raw L at_ by_ w hr hL (by omega)

theorem trodAll_four {H : Type} {enc : TypeId × Value → H} {P : Program} {w : World} {base : Nat} {spare : Nat → Bool} {held : Bool} {t0 t1 t2 t3 : TypeId} {args : Array Value} {ds : List (DataW H)} {ps : List MemPlace}
    (h : DataW.TrodAll enc P w base spare held [t0, t1, t2, t3] args.toList ds ps) :
    ∃ v0 v1 v2 v3 d0 d1 d2 d3 p0 p1 p2 p3, args = #[v0, v1, v2, v3] ∧ ds = [d0, d1, d2, d3] ∧ DataW.Trod enc P w base spare held t0 v0 d0 p0 ∧ DataW.Trod enc P w base spare held t1 v1 d1 p1 ∧
      DataW.Trod enc P w base spare held t2 v2 d2 p2 ∧ DataW.Trod enc P w base spare held t3 v3 d3 p3 := by
  obtain ⟨v0, vs0, d0, ds0, p0, q0, ha, rfl, rfl, h0, r0⟩ := trodAll_cons h
  obtain ⟨v1, vs1, d1, ds1, p1, q1, rfl, rfl, rfl, h1, r1⟩ := trodAll_cons r0
  obtain ⟨v2, vs2, d2, ds2, p2, q2, rfl, rfl, rfl, h2, r2⟩ := trodAll_cons r1
  obtain ⟨v3, vs3, d3, ds3, p3, q3, rfl, rfl, rfl, h3, r3⟩ := trodAll_cons r2
  have e1 : vs3 = [] ∧ ds3 = [] := by cases vs3 <;> cases ds3 <;> simp [DataW.TrodAll] at r3 ⊢
  obtain ⟨rfl, rfl⟩ := e1
  exact ⟨v0, v1, v2, v3, d0, d1, d2, d3, p0, p1, p2, p3, by rw [← Array.toArray_toList (xs := args), ha], rfl, h0, h1, h2, h3⟩

set_option maxRecDepth 100000 in
theorem tells_lifted (os : Os) (started : os.Started) (H : Type) (enc : TypeId × Value → H) (F : Stop.Interp) :
    ReturnsInHanded {} Try.checked os 3 .any ((Rows.OpenSpec.upto Rows.framTellsSpec).pre6 enc Try.prog Try.f3 Rows.framTellsUptoRow.domain false)
      (((Rows.OpenSpec.upto Rows.framTellsSpec).at F).post enc Try.prog Try.f3 false true false false) := by
  refine returnsInHanded_of_cond (C := Try.checked) (s := Rows.OpenSpec.upto Rows.framTellsSpec) (k := Rows.uptoSmall) rfl own started (by kernel_rfl) Try.func3
    (OpenSpec.witness (enc := enc) (C := Try.checked) (s := Rows.OpenSpec.upto Rows.framTellsSpec) (k := Rows.uptoSmall) rfl false ⟨#[], #[.slice none 0 0, .slice none 0 0, .int .i64 0, .int .u8 0], []⟩ 8 (by kernel_rfl) (by kernel_rfl) (by kernel_rfl)
      (x := ([.nil, .nil, .lit (.int .i64 0), .lit (.int .u8 0)], [], [])) (by kernel_rfl) rfl (by kernel_rfl)) ?_
  intro W base args ds gs before hval hW _ hk _
  have hW' := hW
  obtain ⟨p, q, hA, hV, _, _, _⟩ := hW
  rw [show Try.f3.params.toList = [22, 23, 3, 5] from by kernel_rfl] at hA
  obtain ⟨v0, v1, v2, v3, d0, d1, d2, d3, p0, p1, p2, p3, rfl, rfl, h0, h1, h2, h3⟩ := trodAll_four hA
  obtain ⟨raw, hr⟩ := open_bytes (hval 0 22 v0 (by kernel_rfl) rfl) h0
  obtain ⟨L, hL, hT⟩ := open_rows (hval 1 23 v1 (by kernel_rfl) rfl) h1
  obtain ⟨a, rfl, rfl, rfl, _⟩ := open_int Try.underlying3 (hval 2 3 v2 (by kernel_rfl) rfl) h2
  obtain ⟨b, rfl, rfl, rfl, hw⟩ := open_int Try.underlying5 (hval 3 5 v3 (by kernel_rfl) rfl) h3
  have hby : 0 ≤ b ∧ b < 256 := by
    simp [Lit.wf, IntKind.min, IntKind.max, IntKind.signed, IntKind.bits] at hw
    omega
  have hT2 : L.flatten.length ≤ 1048576 := by
    have h : Rows.uptoBulkAll ([d0, d1, .lit (.int .i64 a), .lit (.int .u8 b)] ++ gs) ≤ 1048576 := of_decide_eq_true hk
    simp only [List.cons_append, Rows.uptoBulkAll] at h
    omega
  refine (tells_any v0 v1 raw L a b W hr hL hT2 hby).mono fun e W' ⟨he, hb⟩ => ⟨_, he, ?_⟩
  exact law_post (s := Rows.framTellsSpec) laidOut (by kernel_rfl) (by kernel_rfl) Try.underlying4 rfl hW' (by simp [Rows.framTellsSpec]) hb

theorem tells_holds : Rows.FramTellsUptoSaid :=
  OpenClaim.holds_of_cond 3 Try.f3 rfl rfl rfl rfl rfl rfl rfl ⟨rfl, rfl, rfl, rfl, rfl⟩ rfl rfl rfl rfl rfl (by kernel_rfl) Try.func3 (by kernel_rfl)
    (of_decide_eq_true (by kernel_rfl)) (by unfold Func.isWrapper; first | (rw [if_pos (by decide +kernel)]; kernel_rfl) | (rw [if_neg (by decide +kernel)]; exact ⟨rfl, rfl⟩))
    (fun os started H enc _ F => tells_lifted os started H enc F)

#print axioms tells_holds
end Go.Proofs.Ytlfkbbdlmgklnaa
