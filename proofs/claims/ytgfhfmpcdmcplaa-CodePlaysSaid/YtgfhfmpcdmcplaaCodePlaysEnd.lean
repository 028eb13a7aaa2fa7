/- CodePlays: numbers and bytes are written, and any bytes read as such, as the document says: whatever the bytes, the numbers and the script of reads. -/
import Derived.Test.YtgfhfmpcdmcplaaCodePlays
namespace Go.Proofs.Ytgfhfmpcdmcplaa
open Go.ChangeShapes Go.WideShapes Go.ChangeAt Go.RowKit

set_option maxRecDepth 100000 in
set_option maxHeartbeats 2000000 in
theorem plays_long (v0 v1 v2 v3 : Value) (raw : List Nat) (at_ by_ : Int) (w : World) (hr : Bytes w v0 raw) (hl : 200 < raw.length) :
    Calls Try.prog 5 #[v0, v1, v2, v3, .int .i64 at_, .int .u8 by_] w fun e w' => e = .returned (.bool true) ∧ Below w.heap.size w w' := by
  obtain ⟨_, hm, A, c, rfl, hc, _⟩ := hr.parts
  have h4 : (200 : Int) < (raw.length : Int) := by omega
  clear hr
  go_enter Try.func5, Try.ntmps5
  go_wp2_with (go_at_call 11; refine (awake_any _).mono ?_; rintro e w' ⟨rfl, hbw⟩)
  go_ret
  exact ⟨rfl, hbw⟩

theorem plays_any (v0 v1 v2 v3 : Value) (raw : List Nat) (zs ac bs : List Int) (at_ by_ : Int) (w : World) (hr : Bytes w v0 raw) (hz : Ints w v1 zs) (ha : Ints w v2 ac) (hb : Ints w v3 bs) (hby : 0 ≤ by_ ∧ by_ < 256) :
    Calls Try.prog 5 #[v0, v1, v2, v3, .int .i64 at_, .int .u8 by_] w fun e w' => e = .returned (.bool true) ∧ Below w.heap.size w w' := by
  rcases Nat.lt_or_ge 200 raw.length with h | h
  · exact plays_long v0 v1 v2 v3 raw at_ by_ w hr h
  · exact plays_short v0 v1 v2 v3 raw zs ac bs at_ by_ w hr hz ha hb h hby

theorem trodAll_six {H : Type} {enc : TypeId × Value → H} {P : Program} {w : World} {base : Nat} {spare : Nat → Bool} {held : Bool} {t0 t1 t2 t3 t4 t5 : TypeId} {args : Array Value} {ds : List (DataW H)} {ps : List MemPlace}
    (h : DataW.TrodAll enc P w base spare held [t0, t1, t2, t3, t4, t5] args.toList ds ps) :
    ∃ v0 v1 v2 v3 v4 v5 d0 d1 d2 d3 d4 d5 p0 p1 p2 p3 p4 p5, args = #[v0, v1, v2, v3, v4, v5] ∧ ds = [d0, d1, d2, d3, d4, d5] ∧ DataW.Trod enc P w base spare held t0 v0 d0 p0 ∧ DataW.Trod enc P w base spare held t1 v1 d1 p1 ∧
      DataW.Trod enc P w base spare held t2 v2 d2 p2 ∧ DataW.Trod enc P w base spare held t3 v3 d3 p3 ∧ DataW.Trod enc P w base spare held t4 v4 d4 p4 ∧ DataW.Trod enc P w base spare held t5 v5 d5 p5 := by
  obtain ⟨v0, vs0, d0, ds0, p0, q0, ha, rfl, rfl, h0, r0⟩ := trodAll_cons h
  obtain ⟨v1, vs1, d1, ds1, p1, q1, rfl, rfl, rfl, h1, r1⟩ := trodAll_cons r0
  obtain ⟨v2, vs2, d2, ds2, p2, q2, rfl, rfl, rfl, h2, r2⟩ := trodAll_cons r1
  obtain ⟨v3, vs3, d3, ds3, p3, q3, rfl, rfl, rfl, h3, r3⟩ := trodAll_cons r2
  obtain ⟨v4, vs4, d4, ds4, p4, q4, rfl, rfl, rfl, h4, r4⟩ := trodAll_cons r3
  obtain ⟨v5, vs5, d5, ds5, p5, q5, rfl, rfl, rfl, h5, r5⟩ := trodAll_cons r4
  have e1 : vs5 = [] ∧ ds5 = [] := by cases vs5 <;> cases ds5 <;> simp [DataW.TrodAll] at r5 ⊢
  obtain ⟨rfl, rfl⟩ := e1
  exact ⟨v0, v1, v2, v3, v4, v5, d0, d1, d2, d3, d4, d5, p0, p1, p2, p3, p4, p5, by rw [← Array.toArray_toList (xs := args), ha], rfl, h0, h1, h2, h3, h4, h5⟩

set_option maxRecDepth 100000 in
theorem plays_lifted (os : Os) (started : os.Started) (H : Type) (enc : TypeId × Value → H) :
    ReturnsInHanded {} Try.checked os 5 .any (Rows.codePlaysSpec.pre6 enc Try.prog Try.f5 Rows.codePlaysRow.domain false) (Rows.codePlaysSpec.post enc Try.prog Try.f5 false true false false) := by
  refine returnsInHanded_of_change (C := Try.checked) own started (by kernel_rfl) Try.func5
    (ChangeSpec.witness6 (enc := enc) (C := Try.checked) false ⟨#[], #[.slice none 0 0, .slice none 0 0, .slice none 0 0, .slice none 0 0, .int .i64 0, .int .u8 0], []⟩ 8 (by kernel_rfl) (by kernel_rfl) (by kernel_rfl) (by kernel_rfl)) ?_
  intro W base args ds gs before hval hW _ _
  have hW' := hW
  obtain ⟨p, q, hA, hV, _, _, _⟩ := hW
  rw [show Try.f5.params.toList = [26, 31, 31, 31, 3, 5] from by kernel_rfl] at hA
  obtain ⟨v0, v1, v2, v3, v4, v5, d0, d1, d2, d3, d4, d5, p0, p1, p2, p3, p4, p5, rfl, rfl, h0, h1, h2, h3, h4, h5⟩ := trodAll_six hA
  obtain ⟨raw, hr⟩ := open_bytes (hval 0 26 v0 (by kernel_rfl) rfl) h0
  obtain ⟨zs, hz⟩ := open_introw (hval 1 31 v1 (by kernel_rfl) rfl) h1
  obtain ⟨ac, ha⟩ := open_introw (hval 2 31 v2 (by kernel_rfl) rfl) h2
  obtain ⟨bs, hb⟩ := open_introw (hval 3 31 v3 (by kernel_rfl) rfl) h3
  obtain ⟨a, rfl, rfl, rfl, _⟩ := open_int Try.underlying3 (hval 4 3 v4 (by kernel_rfl) rfl) h4
  obtain ⟨b, rfl, rfl, rfl, hw⟩ := open_int Try.underlying5 (hval 5 5 v5 (by kernel_rfl) rfl) h5
  have hby : 0 ≤ b ∧ b < 256 := by
    simp [Lit.wf, IntKind.min, IntKind.max, IntKind.signed, IntKind.bits] at hw
    omega
  refine (plays_any v0 v1 v2 v3 raw zs ac bs a b W hr hz ha hb hby).mono fun e W' ⟨he, hb⟩ => ⟨_, he, ?_⟩
  exact law_post laidOut (by kernel_rfl) (by kernel_rfl) Try.underlying4 rfl hW' (by simp [Rows.codePlaysSpec]) hb

theorem plays_holds : Rows.CodePlaysSaid :=
  OpenClaim.holds_of_wide 5 Try.f5 rfl rfl rfl rfl rfl rfl rfl ⟨rfl, rfl, rfl, rfl, rfl⟩ rfl rfl rfl rfl rfl (by kernel_rfl) Try.func5 (by kernel_rfl)
    (of_decide_eq_true (by kernel_rfl)) (by unfold Func.isWrapper; first | (rw [if_pos (by decide +kernel)]; kernel_rfl) | (rw [if_neg (by decide +kernel)]; exact ⟨rfl, rfl⟩))
    (fun os started H enc _ => plays_lifted os started H enc)

#print axioms plays_holds
end Go.Proofs.Ytgfhfmpcdmcplaa
