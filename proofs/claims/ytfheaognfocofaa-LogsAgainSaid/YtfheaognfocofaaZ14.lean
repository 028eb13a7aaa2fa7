/- Package logs: a Fix as it is begun, what it tells, what it is guarded by. -/
import Derived.Test.YtfheaognfocofaaZ13
import Derived.Test.YtfheaognfocofaaZLockSw
import Derived.RegionTactic
import Derived.Test.YtfheaognfocofaaZRecoTrace
import Derived.Test.YtfheaognfocofaaZRecoDone
import Derived.Test.YtfheaognfocofaaZ11
namespace Go.Proofs.Ytfheaognfocofaa
set_option maxRecDepth 100000
open Go.ChangeShapes Go.WideShapes Go.ChangeAt Go.RowKit Go.ChangeMaps
open Sf Lg

theorem lg_ne {n m : Nat} (h : ¬ n = m) : ((n : Int) == (m : Int)) = false := by simp; omega
theorem lg_nz {n : Nat} (h : ¬ n = 0) : ((n : Int) != 0) = true := by simp; omega
theorem nice_tr : Nice tr := by constructor <;> simp [tr]
theorem nice_lgL : Nice lgL := by constructor <;> simp [lgL]
theorem nice_lgT : Nice lgT := by constructor <;> simp [lgT]
theorem str_tr : ({ data := #[116, 114, 97, 99, 101] } : ByteArray) = str tr := rfl
/-- The cells of a Fix. -/
def fxC (x : Fx) (v : Value) : List Value := [.string (str x.name), .int .i64 x.lk, .string (str x.temp), .int .i64 x.stamp, v, .int .i64 (x.next : Int), .int .i64 (x.told : Int)]
def FxBlk (w : World) (g : Nat) (x : Fx) (v : Value) : Prop := Blk w g 65 (fxC x v).toArray
/-- A Fix lies at g, the files at p; the blocks K are kept besides. -/
def FxAt (K : Nat → Prop) (w0 w : World) (p g : Nat) (s : S) (x : Fx) : Prop :=
  ∃ v, FxBlk w g x v ∧ Bytes w v x.whole ∧ (∀ k, v.ownBlock = some k → k ≠ g) ∧ Fk (fun k => K k ∨ v.ownBlock = some k) w0 w p s
theorem FxAt.under {K : Nat → Prop} {w0 w w1 : World} {p g : Nat} {s : S} {x : Fx} (h : FxAt K w0 w p g s x) (hb : Below w.heap.size w w1) : FxAt K w0 w1 p g s x := by
  obtain ⟨v, h1, h2, h3, h4⟩ := h
  exact ⟨v, h1.under hb, h2.under hb, h3, h4.under hb⟩
theorem FxAt.fk {K : Nat → Prop} {w0 w : World} {p g : Nat} {s : S} {x : Fx} (h : FxAt K w0 w p g s x) : Fk K w0 w p s := by
  obtain ⟨v, _, _, _, h4⟩ := h
  exact h4.less K fun _ => .inl
/-- What a step comes to. -/
def FxIs (K : Nat → Prop) (w0 w : World) (p g : Nat) (R : S × Fx × Nat) (e : Ending) (w' : World) : Prop :=
  e = .returned (.int .i64 ((R.2.2 : Nat) : Int)) ∧ FxAt K w0 w' p g R.1 R.2.1 ∧ Kept (fun k => K k ∧ k ≠ g) w w'
theorem FxIs.of {K : Nat → Prop} {w0 w w' : World} {p g : Nat} {R : S × Fx × Nat} {e : Ending} {s : S} {x : Fx} {n : Nat} (hR : R = (s, x, n)) (he : e = .returned (.int .i64 (n : Int))) (hf : FxAt K w0 w' p g s x) (hk : Kept (fun k => K k ∧ k ≠ g) w w') : FxIs K w0 w p g R e w' := by
  subst hR
  exact ⟨he, hf, hk⟩

set_option maxRecDepth 100000 in
theorem fxnew_any (nm T : List Nat) (k : Int) (w : World) :
    Calls Try.prog 8 #[guardV nm k, .string (str T)] w fun e w' => ∃ g, e = .returned (.pointer (some ⟨g, 0, none⟩)) ∧ w.heap.size ≤ g ∧ FxBlk w' g (Lg.begin nm k T) (.slice none 0 0) ∧ Below w.heap.size w w' := by
  go_enter Try.func8, Try.ntmps8
  go_wp2
  go_ret
  exact ⟨_, rfl, by simp, heap_alloc_new' _ _ (by simp), ((Below.refl _ _).alloc (Nat.le_refl _) _).alloc (by simp) _⟩

set_option maxRecDepth 100000 in
theorem fxtrc_any (x : Fx) (v : Value) (g : Nat) (w : World) (hk : FxBlk w g x v) :
    Calls Try.prog 26 #[.pointer (some ⟨g, 0, none⟩)] w fun e w' => e = .returned (guardV tr x.stamp) ∧ Below w.heap.size w w' := by
  obtain ⟨W, hW⟩ : ∃ W, w.alloc (.cells #[.string ⟨#[]⟩, .int .i64 0] 30) = W := ⟨_, rfl⟩
  obtain ⟨q, hq⟩ : ∃ q, w.heap.size = q := ⟨_, rfl⟩
  have k3 := blk_cell (v := .int .i64 x.stamp) (hk.alloc (.cells #[.string ⟨#[]⟩, .int .i64 0] 30)) 3 rfl
  have hb : Blk W q 30 #[.string ⟨#[]⟩, .int .i64 0] := by rw [← hW, ← hq]; exact heap_alloc_new w _
  have HB : Hid (Below q w W) := Lib.hid (by rw [← hW, ← hq]; exact (Below.refl _ _).alloc (Nat.le_refl _) _)
  have hgq : g ≠ q := by have := hk.size; omega
  rw [hW] at k3
  go_enter Try.func26, Try.ntmps26
  go_upto_region 1 with fail
  have c0 := hb.at 0
  have c1 := hb.at 1
  have f0 := hb.free 0
  have f1 := hb.free 1
  have HBL := Lib.hid hb
  have HE := Lib.hid ((bput (bput HB.out (by have := hb.size; omega) (g := q) (Nat.le_refl _) 0 (.string (str tr))) (by have := hb.size; simp; omega) (g := q) (Nat.le_refl _) 1 (.int .i64 x.stamp)))
  have HQ := Lib.hid hq
  clear hW hq hk hb hgq HB
  go_wp2
  refine bodyPost_ret (results_cell_row rfl _ _ q _ _ _ _ rfl ((HBL.out.set 0 (.string (str tr))).set 1 (.int .i64 x.stamp)) Try.underlying30 rfl (by kernel_rfl)) rfl ?_
  exact ⟨rfl, by rw [HQ.out]; exact HE.out⟩

def trV (x : Fx) : Value := if x.told = 1 then .tuple #[guardV tr x.stamp, .bool true] else .tuple #[guardV [] 0, .bool false]
set_option maxRecDepth 100000 in
theorem fxtold_any (x : Fx) (v : Value) (g : Nat) (w : World) (hk : FxBlk w g x v) :
    Calls Try.prog 10 #[.pointer (some ⟨g, 0, none⟩)] w fun e w' => e = .returned (trV x) ∧ Below w.heap.size w w' := by
  obtain ⟨W, hW⟩ : ∃ W, w.alloc (.cells #[.string ⟨#[]⟩, .int .i64 0] 30) = W := ⟨_, rfl⟩
  obtain ⟨q, hq⟩ : ∃ q, w.heap.size = q := ⟨_, rfl⟩
  have hk2 : FxBlk W g x v := by rw [← hW]; exact hk.alloc _
  have k6 := blk_cell (v := .int .i64 (x.told : Int)) hk2 6 rfl
  have hb : Blk W q 30 #[.string ⟨#[]⟩, .int .i64 0] := by rw [← hW, ← hq]; exact heap_alloc_new w _
  have HB : Hid (Below q w W) := Lib.hid (by rw [← hW, ← hq]; exact (Below.refl _ _).alloc (Nat.le_refl _) _)
  have HV : Hid (trV x = if x.told = 1 then .tuple #[guardV tr x.stamp, .bool true] else .tuple #[guardV [] 0, .bool false]) := Lib.hid rfl
  have C := Lib.hid (fxtrc_any x v g W hk2)
  obtain ⟨n, hn⟩ : ∃ n, x.told = n := ⟨_, rfl⟩
  rw [hn] at k6 HV
  go_enter Try.func10, Try.ntmps10
  go_upto_region 1 with fail
  have c0 := hb.at 0
  have c1 := hb.at 1
  have f0 := hb.free 0
  have f1 := hb.free 1
  have HBL := Lib.hid hb
  by_cases h1 : n = 1
  · subst h1
    have HV2 := Lib.hid (HV.out.trans (if_pos rfl))
    have HQ := Lib.hid hq
    clear hW hq hk hb hk2 hn c0 c1 f0 f1
    go_wp2_with fail
    refine C.out.mono ?_
    rintro e w3 ⟨rfl, hb3⟩
    have HB3 := Lib.hid hb3
    have hbl := HBL.out.under hb3
    have HBL3 := Lib.hid hbl
    have c0 := hbl.at 0
    have c1 := hbl.at 1
    have f0 := hbl.free 0
    have f1 := hbl.free 1
    have HE := Lib.hid (bput (bput (HB.out.trans (HB3.out.mono (Nat.le_of_lt HBL.out.size))) (by have := hbl.size; omega) (g := q) (Nat.le_refl _) 0 (.string (str tr))) (by have := hbl.size; simp; omega) (g := q) (Nat.le_refl _) 1 (.int .i64 x.stamp))
    clear hb3 hbl k6
    go_wp2
    refine bodyPost_ret (rresults_cell_tmp rfl _ _ q _ _ _ _ rfl ((HBL3.out.set 0 (.string (str tr))).set 1 (.int .i64 x.stamp)) Try.underlying30 rfl (by kernel_rfl)) rfl ?_
    exact ⟨by rw [HV2.out]; rfl, by rw [HQ.out]; exact HE.out⟩
  · have HV2 := Lib.hid (HV.out.trans (if_neg h1))
    have HQ := Lib.hid hq
    have h1I : ((n : Int) != 1) = true := by simp; omega
    have HE := Lib.hid (bput (bput HB.out (by have := hb.size; omega) (g := q) (Nat.le_refl _) 0 (.string ⟨#[]⟩)) (by have := hb.size; simp; omega) (g := q) (Nat.le_refl _) 1 (.int .i64 0))
    clear hW hq hk hb hk2 hn h1 C
    go_wp2
    refine bodyPost_ret (rresults_cell_tmp rfl _ _ q _ _ _ _ rfl ((HBL.out.set 0 (.string ⟨#[]⟩)).set 1 (.int .i64 0)) Try.underlying30 rfl (by kernel_rfl)) rfl ?_
    exact ⟨by rw [HV2.out]; rfl, by rw [HQ.out]; exact HE.out⟩

theorem rdG_two (w : World) (t u : List Nat) (k j : Int) : RdG (w.alloc (.cells #[.string (str t), .int .i64 k, .string (str u), .int .i64 j] 30)) (.slice (some ⟨w.heap.size, 0, none⟩) 2 2) [(t, k), (u, j)] := by
  refine ⟨_, 2, rfl, Nat.le_refl _, by simp, fun _ => ⟨w.heap.size, 0, rfl, fun i hi => ?_⟩⟩
  rcases i with _ | _ | i
  · exact ⟨cell_of_row _ _ 0 _ _ _ (heap_alloc_new w _), cell_of_row _ _ 1 _ _ _ (heap_alloc_new w _)⟩
  · exact ⟨cell_of_row _ _ 2 _ _ _ (heap_alloc_new w _), cell_of_row _ _ 3 _ _ _ (heap_alloc_new w _)⟩
  · exfalso
    simp only [List.length_cons, List.length_nil] at hi
    omega

def GdsIs (x : Fx) (w : World) (e : Ending) (w' : World) : Prop := Below w.heap.size w w' ∧ ∃ v, e = .returned v ∧ RdG w' v x.gs
theorem GdsIs.of {x : Fx} {w w' : World} {e : Ending} {v : Value} {G : List (List Nat × Int)} (hG : x.gs = G) (hb : Below w.heap.size w w') (he : e = .returned v) (hr : RdG w' v G) : GdsIs x w e w' := ⟨hb, v, he, by rw [hG]; exact hr⟩
set_option maxRecDepth 100000 in
set_option maxHeartbeats 4000000 in
theorem fxgds_any (x : Fx) (v : Value) (g : Nat) (w : World) (hk : FxBlk w g x v) :
    Calls Try.prog 57 #[.pointer (some ⟨g, 0, none⟩)] w (GdsIs x w) := by
  have k3 := blk_cell (v := .int .i64 x.stamp) hk 3 rfl
  have k0 := blk_cell (v := .string (str x.name)) hk 0 rfl
  have k1 := blk_cell (v := .int .i64 x.lk) hk 1 rfl
  have HG : Hid (x.gs = if x.stamp = 0 then [(x.name, x.lk)] else [(x.name, x.lk), (tr, x.stamp)]) := Lib.hid rfl
  have C := Lib.hid (fxtrc_any x v g w.drew hk)
  have HST : Hid (∀ W, FxBlk W g x v → W.cell? ⟨g, 0, none⟩ = some (.string (str x.name)) ∧ W.cell? ⟨g, 1, none⟩ = some (.int .i64 x.lk)) := Lib.hid fun W h => ⟨blk_cell h 0 rfl, blk_cell h 1 rfl⟩
  have HK := Lib.hid hk
  have HR1 := Lib.hid fun W : World => rdG_one W x.name x.lk
  have HR2 := Lib.hid fun W : World => rdG_two W x.name tr x.lk x.stamp
  obtain ⟨z, hz⟩ : ∃ z, x.stamp = z := ⟨_, rfl⟩
  obtain ⟨nm, hnm⟩ : ∃ n, str x.name = n := ⟨_, rfl⟩
  obtain ⟨kk, hkk⟩ : ∃ n, x.lk = n := ⟨_, rfl⟩
  rw [hz] at k3 HG C HR2
  rw [hnm] at k0 HST HR1 HR2
  rw [hkk] at k1 HST HR1 HR2 HG
  clear hk hz hnm hkk
  go_enter Try.func57, Try.ntmps57
  by_cases h0 : z = 0
  · subst h0
    have HG1 := Lib.hid (HG.out.trans (if_pos rfl))
    go_wp2
    go_ret
    exact GdsIs.of HG1.out ((Below.refl _ _).alloc (Nat.le_refl _) _) rfl (HR1.out _)
  · have h0I : (z == 0) = false := by simpa using h0
    have HG1 := Lib.hid (HG.out.trans (if_neg h0))
    clear h0 HG
    go_upto_region 3 with fail
    refine wp_region_noPanic ?_
    refine wp_region_held_drew (S := fun w' => w'.cell? ⟨g, 0, none⟩ = some (.string nm) ∧ w'.cell? ⟨g, 1, none⟩ = some (.int .i64 kk)) (by kernel_rfl) (⟨k0, k1⟩) (fun hHeld => ?_)
    refine takeW 0 (some 13) (oi := ?oT1) (v := ?vT1) ?hiT1 ?hdT1 (by kernel_rfl) (by kernel_rfl) (by kernel_rfl) (fun _ _ _ h => h) ?hwT1 ?hyT1 hHeld ?_
    case hiT1 => (simp only [List.getElem?_toArray, List.getElem?_cons_zero]; with_reducible rfl)
    case hdT1 => rfl
    case hwT1 => rfl
    case hyT1 => (intro w hSw; (try dsimp only at hSw); go_simp; first | done | with_reducible rfl)
    try simp only [Act.put]
    try simp only [List.setIfInBounds_toArray, List.set_cons_zero, List.set_cons_succ]
    refine takeW 1 (some 14) (oi := ?oT2) (v := ?vT2) ?hiT2 ?hdT2 (by kernel_rfl) (by kernel_rfl) (by kernel_rfl) (fun _ _ _ h => h) ?hwT2 ?hyT2 hHeld ?_
    case hiT2 => (simp only [List.getElem?_toArray, List.getElem?_cons_succ, List.getElem?_cons_zero]; with_reducible rfl)
    case hdT2 => rfl
    case hwT2 => rfl
    case hyT2 => (intro w hSw; (try dsimp only at hSw); go_simp; first | done | with_reducible rfl)
    try simp only [Act.put]
    try simp only [List.setIfInBounds_toArray, List.set_cons_zero, List.set_cons_succ]
    refine takeW 2 (some 15) (oi := ?oT3) (v := ?vT3) ?hiT3 ?hdT3 (by kernel_rfl) (by kernel_rfl) (by kernel_rfl) (fun _ _ _ h => h) ?hwT3 ?hyT3 hHeld ?_
    case hiT3 => (simp only [List.getElem?_toArray, List.getElem?_cons_succ, List.getElem?_cons_zero]; with_reducible rfl)
    case hdT3 => rfl
    case hwT3 => rfl
    case hyT3 => (intro w hSw; (try dsimp only at hSw); go_simp; first | done | with_reducible rfl)
    try simp only [Act.put]
    try simp only [List.setIfInBounds_toArray, List.set_cons_zero, List.set_cons_succ]
    refine takeW 3 (some 16) (oi := ?oT4) (v := ?vT4) ?hiT4 ?hdT4 (by kernel_rfl) (by kernel_rfl) (by kernel_rfl) (fun _ _ _ h => h) ?hwT4 ?hyT4 hHeld ?_
    case hiT4 => (simp only [List.getElem?_toArray, List.getElem?_cons_succ, List.getElem?_cons_zero]; with_reducible rfl)
    case hdT4 => rfl
    case hwT4 => rfl
    case hyT4 => (intro w hSw; (try dsimp only at hSw); go_simp; first | done | with_reducible rfl)
    try simp only [Act.put]
    try simp only [List.setIfInBounds_toArray, List.set_cons_zero, List.set_cons_succ]
    refine takeW 4 (some 17) (oi := ?oT5) (v := ?vT5) ?hiT5 ?hdT5 (by kernel_rfl) (by kernel_rfl) (by kernel_rfl) (fun _ _ _ h => h) ?hwT5 ?hyT5 hHeld ?_
    case hiT5 => (simp only [List.getElem?_toArray, List.getElem?_cons_succ, List.getElem?_cons_zero]; with_reducible rfl)
    case hdT5 => rfl
    case hwT5 => rfl
    case hyT5 => (intro w hSw; (try dsimp only at hSw); go_simp; first | done | with_reducible rfl)
    try simp only [Act.put]
    try simp only [List.setIfInBounds_toArray, List.set_cons_zero, List.set_cons_succ]
    refine stepOne 5 (o := ?oT6) ?hiT6 (by kernel_rfl) ?hwT6 (fun K hK => ?_)
    case hiT6 => (simp only [List.getElem?_toArray, List.getElem?_cons_succ, List.getElem?_cons_zero]; with_reducible rfl)
    case hwT6 => rfl
    go_simp
    go_at_call 26
    refine C.out.mono ?_
    rintro e w2 ⟨rfl, hb2⟩
    have HB2 : Hid (Below w.heap.size w w2) := Lib.hid ((Below.refl w.heap.size w).drew.trans hb2)
    clear hb2
    refine hK.out _ _ ?_ (fun hHeld => ?_)
    · exact HST.out _ (HK.out.under HB2.out)
    clear hK K
    try simp only [Act.put]
    try simp only [List.setIfInBounds_toArray, List.set_cons_zero, List.set_cons_succ]
    refine stepOne 6 (o := ?oT7) ?hiT7 (by kernel_rfl) ?hwT7 (fun K hK => ?_)
    case hiT7 => (simp only [List.getElem?_toArray, List.getElem?_cons_succ, List.getElem?_cons_zero]; with_reducible rfl)
    case hwT7 => rfl
    go_simp
    refine hK.out _ _ ?_ (fun hHeld => ?_)
    · exact HST.out _ ((HK.out.under HB2.out).alloc _)
    clear hK K
    try simp only [Act.put]
    try simp only [List.setIfInBounds_toArray, List.set_cons_zero, List.set_cons_succ]
    refine takeW 7 (some 2) (oi := ?oT8) (v := ?vT8) ?hiT8 ?hdT8 (by kernel_rfl) (by kernel_rfl) (by kernel_rfl) (fun _ _ _ h => h) ?hwT8 ?hyT8 hHeld ?_
    case hiT8 => (simp only [List.getElem?_toArray, List.getElem?_cons_succ, List.getElem?_cons_zero]; with_reducible rfl)
    case hdT8 => rfl
    case hwT8 => rfl
    case hyT8 => (intro w hSw; (try dsimp only at hSw); go_simp; first | done | with_reducible rfl)
    try simp only [Act.put]
    try simp only [List.setIfInBounds_toArray, List.set_cons_zero, List.set_cons_succ]
    refine wpAnyH_done (by kernel_rfl) ?_ _
    refine NoPanic.normal ?_
    skip
    go_wp2
    go_ret
    exact GdsIs.of HG1.out (HB2.out.alloc HB2.out.size _) rfl (HR2.out _)
end Go.Proofs.Ytfheaognfocofaa

/- Package logs: a step of a Fix. -/
namespace Go.Proofs.Ytfheaognfocofaa
set_option maxRecDepth 100000
open Go.ChangeShapes Go.WideShapes Go.ChangeAt Go.RowKit Go.ChangeMaps
open Sf Lg

theorem own_cut (A : Option Addr) (n m c : Nat) : (Value.slice A n c).ownBlock = (Value.slice A m c).ownBlock := by rcases A with _ | a <;> rfl
theorem bytes_nil (w : World) : Bytes w (.slice none 0 0) [] := (own_none w 0).bytes
theorem nil_own (k : Nat) : ¬ (Value.slice none 0 0).ownBlock = some k := by simp [Value.ownBlock]

set_option maxRecDepth 100000 in
set_option maxHeartbeats 4000000 in
theorem fxput_any {K : Nat → Prop} {w0 w : World} {p g : Nat} {s : S} (x : Fx) (h : FxAt K w0 w p g s x) (hg : K g) (hg0 : w0.heap.size ≤ g) (ht : Nice x.temp) (hnx : s.next ≤ 1073741824) (hu : used s.l + x.whole.length ≤ 274877906944) :
    Calls Try.prog 40 #[.pointer (some ⟨g, 0, none⟩), .pointer (some ⟨p, 0, none⟩)] w (FxIs K w0 w p g (x.put s)) := by
  obtain ⟨nm, lk, tp, stp, wh, nx, td⟩ := x
  obtain ⟨v, hk, hb, hne, hf⟩ := h
  have hk' : Blk w g 65 (fxC ⟨nm, lk, tp, stp, wh, nx, td⟩ v).toArray := hk
  have HF := Lib.hid hf
  have HG := Lib.hid hg
  have HG0 := Lib.hid hg0
  have HK := Lib.hid hk'
  have HB := Lib.hid hb
  have C2 : Hid (∀ W, Fk (fun k => K k ∨ v.ownBlock = some k) w0 W p s → Bytes W v wh → Calls Try.prog 7 #[.pointer (some ⟨p, 0, none⟩), .string (str tp), v] W fun e w' => e = .returned (.tuple #[.int .i64 (((putS s tp wh).2.1 : Nat) : Int), .int .i64 (((putS s tp wh).2.2 : Nat) : Int)]) ∧ Fk (fun k => K k ∨ v.ownBlock = some k) w0 w' p (putS s tp wh).1 ∧ Kept (fun k => K k ∨ v.ownBlock = some k) W w') := Lib.hid fun W hf hb => fk_put tp wh v hf ht hb hnx hu
  have HV : Hid (Fx.put s ⟨nm, lk, tp, stp, wh, nx, td⟩ = if (putS s tp wh).2.2 = 2 then ((putS s tp wh).1, ⟨nm, lk, tp, stp, [], nx, td⟩, 4) else ((putS s tp wh).1, ⟨nm, lk, tp, stp, [], 2, td⟩, 0)) := Lib.hid rfl
  obtain ⟨s1, hs1⟩ : ∃ n, (putS s tp wh).1 = n := ⟨_, rfl⟩
  obtain ⟨n1, hn1⟩ : ∃ n, (putS s tp wh).2.1 = n := ⟨_, rfl⟩
  obtain ⟨n, hn⟩ : ∃ n, (putS s tp wh).2.2 = n := ⟨_, rfl⟩
  rw [hs1, hn] at HV
  rw [hs1, hn1, hn] at C2
  have k2 := blk_cell (v := .string (str tp)) hk' 2 rfl
  have k4 := blk_cell (v := v) hk' 4 rfl
  have HST : Hid (∀ W, Blk W g 65 (fxC ⟨nm, lk, tp, stp, wh, nx, td⟩ v).toArray → W.cell? ⟨g, 2, none⟩ = some (.string (str tp)) ∧ W.cell? ⟨g, 4, none⟩ = some v) := Lib.hid fun W h => ⟨blk_cell h 2 rfl, blk_cell h 4 rfl⟩
  obtain ⟨T, hT⟩ : ∃ T, str tp = T := ⟨_, rfl⟩
  rw [hT] at C2 k2 HST
  clear hf hg hg0 hk hk' hb hne ht hnx hu hs1 hn1 hn hT
  go_enter Try.func40, Try.ntmps40
  go_upto_region 1 with fail
  refine wp_region_noPanic ?_
  refine wp_region_held_drew (S := fun w' => w'.cell? ⟨g, 2, none⟩ = some (.string T) ∧ w'.cell? ⟨g, 4, none⟩ = some v) (by kernel_rfl) (⟨k2, k4⟩) (fun hHeld => ?_)
  refine takeW 0 (some 8) (oi := ?oT1) (v := ?vT1) ?hiT1 ?hdT1 (by kernel_rfl) (by kernel_rfl) (by kernel_rfl) (fun _ _ _ h => h) ?hwT1 ?hyT1 hHeld ?_
  case hiT1 => (simp only [List.getElem?_toArray, List.getElem?_cons_zero]; with_reducible rfl)
  case hdT1 => rfl
  case hwT1 => rfl
  case hyT1 => (intro w hSw; (try dsimp only at hSw); go_simp; first | done | with_reducible rfl)
  try simp only [Act.put]
  try simp only [List.setIfInBounds_toArray, List.set_cons_zero, List.set_cons_succ]
  refine takeW 1 (some 9) (oi := ?oT2) (v := ?vT2) ?hiT2 ?hdT2 (by kernel_rfl) (by kernel_rfl) (by kernel_rfl) (fun _ _ _ h => h) ?hwT2 ?hyT2 hHeld ?_
  case hiT2 => (simp only [List.getElem?_toArray, List.getElem?_cons_succ, List.getElem?_cons_zero]; with_reducible rfl)
  case hdT2 => rfl
  case hwT2 => rfl
  case hyT2 => (intro w hSw; (try dsimp only at hSw); go_simp; first | done | with_reducible rfl)
  try simp only [Act.put]
  try simp only [List.setIfInBounds_toArray, List.set_cons_zero, List.set_cons_succ]
  refine takeW 2 (some 10) (oi := ?oT3) (v := ?vT3) ?hiT3 ?hdT3 (by kernel_rfl) (by kernel_rfl) (by kernel_rfl) (fun _ _ _ h => h) ?hwT3 ?hyT3 hHeld ?_
  case hiT3 => (simp only [List.getElem?_toArray, List.getElem?_cons_succ, List.getElem?_cons_zero]; with_reducible rfl)
  case hdT3 => rfl
  case hwT3 => rfl
  case hyT3 => (intro w hSw; (try dsimp only at hSw); go_simp; first | done | with_reducible rfl)
  try simp only [Act.put]
  try simp only [List.setIfInBounds_toArray, List.set_cons_zero, List.set_cons_succ]
  refine takeW 3 (some 11) (oi := ?oT4) (v := ?vT4) ?hiT4 ?hdT4 (by kernel_rfl) (by kernel_rfl) (by kernel_rfl) (fun _ _ _ h => h) ?hwT4 ?hyT4 hHeld ?_
  case hiT4 => (simp only [List.getElem?_toArray, List.getElem?_cons_succ, List.getElem?_cons_zero]; with_reducible rfl)
  case hdT4 => rfl
  case hwT4 => rfl
  case hyT4 => (intro w hSw; (try dsimp only at hSw); go_simp; first | done | with_reducible rfl)
  try simp only [Act.put]
  try simp only [List.setIfInBounds_toArray, List.set_cons_zero, List.set_cons_succ]
  refine takeW 4 (some 12) (oi := ?oT5) (v := ?vT5) ?hiT5 ?hdT5 (by kernel_rfl) (by kernel_rfl) (by kernel_rfl) (fun _ _ _ h => h) ?hwT5 ?hyT5 hHeld ?_
  case hiT5 => (simp only [List.getElem?_toArray, List.getElem?_cons_succ, List.getElem?_cons_zero]; with_reducible rfl)
  case hdT5 => rfl
  case hwT5 => rfl
  case hyT5 => (intro w hSw; (try dsimp only at hSw); go_simp; first | done | with_reducible rfl)
  try simp only [Act.put]
  try simp only [List.setIfInBounds_toArray, List.set_cons_zero, List.set_cons_succ]
  refine takeW 5 (some 13) (oi := ?oT6) (v := ?vT6) ?hiT6 ?hdT6 (by kernel_rfl) (by kernel_rfl) (by kernel_rfl) (fun _ _ _ h => h) ?hwT6 ?hyT6 hHeld ?_
  case hiT6 => (simp only [List.getElem?_toArray, List.getElem?_cons_succ, List.getElem?_cons_zero]; with_reducible rfl)
  case hdT6 => rfl
  case hwT6 => rfl
  case hyT6 => (intro w hSw; (try dsimp only at hSw); go_simp; first | done | with_reducible rfl)
  try simp only [Act.put]
  try simp only [List.setIfInBounds_toArray, List.set_cons_zero, List.set_cons_succ]
  refine takeW 6 (some 14) (oi := ?oT7) (v := ?vT7) ?hiT7 ?hdT7 (by kernel_rfl) (by kernel_rfl) (by kernel_rfl) (fun _ _ _ h => h) ?hwT7 ?hyT7 hHeld ?_
  case hiT7 => (simp only [List.getElem?_toArray, List.getElem?_cons_succ, List.getElem?_cons_zero]; with_reducible rfl)
  case hdT7 => rfl
  case hwT7 => rfl
  case hyT7 => (intro w hSw; (try dsimp only at hSw); go_simp; first | done | with_reducible rfl)
  try simp only [Act.put]
  try simp only [List.setIfInBounds_toArray, List.set_cons_zero, List.set_cons_succ]
  refine takeW 7 (some 15) (oi := ?oT8) (v := ?vT8) ?hiT8 ?hdT8 (by kernel_rfl) (by kernel_rfl) (by kernel_rfl) (fun _ _ _ h => h) ?hwT8 ?hyT8 hHeld ?_
  case hiT8 => (simp only [List.getElem?_toArray, List.getElem?_cons_succ, List.getElem?_cons_zero]; with_reducible rfl)
  case hdT8 => rfl
  case hwT8 => rfl
  case hyT8 => (intro w hSw; (try dsimp only at hSw); go_simp; first | done | with_reducible rfl)
  try simp only [Act.put]
  try simp only [List.setIfInBounds_toArray, List.set_cons_zero, List.set_cons_succ]
  refine takeW 8 (some 16) (oi := ?oT9) (v := ?vT9) ?hiT9 ?hdT9 (by kernel_rfl) (by kernel_rfl) (by kernel_rfl) (fun _ _ _ h => h) ?hwT9 ?hyT9 hHeld ?_
  case hiT9 => (simp only [List.getElem?_toArray, List.getElem?_cons_succ, List.getElem?_cons_zero]; with_reducible rfl)
  case hdT9 => rfl
  case hwT9 => rfl
  case hyT9 => (intro w hSw; (try dsimp only at hSw); go_simp; first | done | with_reducible rfl)
  try simp only [Act.put]
  try simp only [List.setIfInBounds_toArray, List.set_cons_zero, List.set_cons_succ]
  refine stepOne 9 (o := ?oT10) ?hiT10 (by kernel_rfl) ?hwT10 (fun K hK => ?_)
  case hiT10 => (simp only [List.getElem?_toArray, List.getElem?_cons_succ, List.getElem?_cons_zero]; with_reducible rfl)
  case hwT10 => rfl
  go_simp
  go_at_call 7
  refine (C2.out _ (HF.out.under (Below.refl _ _).drew) (HB.out.under (Below.refl _ _).drew)).mono ?_
  rintro e w2 ⟨rfl, hf2, hkp2⟩
  have HF2 := Lib.hid hf2
  have HKP2 := Lib.hid ((Kept.of_below HF.out (Below.refl _ w).drew).trans hkp2)
  clear hf2 hkp2
  have HBK := Lib.hid (HKP2.out.blk (.inl HG.out) HK.out)
  refine hK.out _ _ ?_ (fun hHeld => ?_)
  · exact HST.out _ HBK.out
  clear hK K
  try simp only [Act.put]
  try simp only [List.setIfInBounds_toArray, List.set_cons_zero, List.set_cons_succ]
  refine takeW 10 (some 7) (oi := ?oT11) (v := ?vT11) ?hiT11 ?hdT11 (by kernel_rfl) (by kernel_rfl) (by kernel_rfl) (fun _ _ _ h => h) ?hwT11 ?hyT11 hHeld ?_
  case hiT11 => (simp only [List.getElem?_toArray, List.getElem?_cons_succ, List.getElem?_cons_zero]; with_reducible rfl)
  case hdT11 => rfl
  case hwT11 => rfl
  case hyT11 => (intro w hSw; (try dsimp only at hSw); go_simp; first | done | with_reducible rfl)
  try simp only [Act.put]
  try simp only [List.setIfInBounds_toArray, List.set_cons_zero, List.set_cons_succ]
  refine takeW 11 (some 18) (oi := ?oT12) (v := ?vT12) ?hiT12 ?hdT12 (by kernel_rfl) (by kernel_rfl) (by kernel_rfl) (fun _ _ _ h => h) ?hwT12 ?hyT12 hHeld ?_
  case hiT12 => (simp only [List.getElem?_toArray, List.getElem?_cons_succ, List.getElem?_cons_zero]; with_reducible rfl)
  case hdT12 => rfl
  case hwT12 => rfl
  case hyT12 => (intro w hSw; (try dsimp only at hSw); go_simp; first | done | with_reducible rfl)
  try simp only [Act.put]
  try simp only [List.setIfInBounds_toArray, List.set_cons_zero, List.set_cons_succ]
  refine takeW 12 (some 19) (oi := ?oT13) (v := ?vT13) ?hiT13 ?hdT13 (by kernel_rfl) (by kernel_rfl) (by kernel_rfl) (fun _ _ _ h => h) ?hwT13 ?hyT13 hHeld ?_
  case hiT13 => (simp only [List.getElem?_toArray, List.getElem?_cons_succ, List.getElem?_cons_zero]; with_reducible rfl)
  case hdT13 => rfl
  case hwT13 => rfl
  case hyT13 => (intro w hSw; (try dsimp only at hSw); go_simp; first | done | with_reducible rfl)
  try simp only [Act.put]
  try simp only [List.setIfInBounds_toArray, List.set_cons_zero, List.set_cons_succ]
  refine takeW 13 (some 5) (oi := ?oT14) (v := ?vT14) ?hiT14 ?hdT14 (by kernel_rfl) (by kernel_rfl) (by kernel_rfl) (fun _ _ _ h => h) ?hwT14 ?hyT14 hHeld ?_
  case hiT14 => (simp only [List.getElem?_toArray, List.getElem?_cons_succ, List.getElem?_cons_zero]; with_reducible rfl)
  case hdT14 => rfl
  case hwT14 => rfl
  case hyT14 => (intro w hSw; (try dsimp only at hSw); go_simp; first | done | with_reducible rfl)
  try simp only [Act.put]
  try simp only [List.setIfInBounds_toArray, List.set_cons_zero, List.set_cons_succ]
  refine takeW 14 (some 6) (oi := ?oT15) (v := ?vT15) ?hiT15 ?hdT15 (by kernel_rfl) (by kernel_rfl) (by kernel_rfl) (fun _ _ _ h => h) ?hwT15 ?hyT15 hHeld ?_
  case hiT15 => (simp only [List.getElem?_toArray, List.getElem?_cons_succ, List.getElem?_cons_zero]; with_reducible rfl)
  case hdT15 => rfl
  case hwT15 => rfl
  case hyT15 => (intro w hSw; (try dsimp only at hSw); go_simp; first | done | with_reducible rfl)
  try simp only [Act.put]
  try simp only [List.setIfInBounds_toArray, List.set_cons_zero, List.set_cons_succ]
  refine wpAnyH_done (by kernel_rfl) ?_ _
  refine NoPanic.normal ?_
  skip
  have f4 := HBK.out.free 4
  have c4 := blk_cell HBK.out 4 rfl
  have HFN := Lib.hid (HF2.out.set (.inl HG.out) HG0.out 4 (.slice none 0 0))
  have HBN := Lib.hid (blk_put HBK.out 4 (.slice none 0 0) (l' := fxC ⟨nm, lk, tp, stp, [], nx, td⟩ (.slice none 0 0)) rfl)
  have HKN := Lib.hid ((HKP2.out.less fun _ => .inl).but.trans (Kept.set K w2 g 4 (.slice none 0 0)))
  by_cases hz : n = 2
  · subst hz
    have HV2 := Lib.hid (HV.out.trans (if_pos rfl))
    go_wp2
    go_ret
    exact FxIs.of HV2.out rfl ⟨_, HBN.out, bytes_nil _, fun k h => absurd h (nil_own k), HFN.out.less _ fun k h => h.elim .inl fun h => absurd h (nil_own k)⟩ HKN.out
  · have HV2 := Lib.hid (HV.out.trans (if_neg hz))
    have hzI := lg_ne hz
    have f5 := HBN.out.free 5
    have c5 := blk_cell HBN.out 5 rfl
    have HFO := Lib.hid (HFN.out.set (.inl HG.out) HG0.out 5 (.int .i64 2))
    have HBO := Lib.hid (blk_put HBN.out 5 (.int .i64 2) (l' := fxC ⟨nm, lk, tp, stp, [], 2, td⟩ (.slice none 0 0)) rfl)
    have HKO := Lib.hid (HKN.out.trans (Kept.set K _ g 5 (.int .i64 2)))
    clear hz
    go_wp2
    go_ret
    exact FxIs.of HV2.out rfl ⟨_, HBO.out, bytes_nil _, fun k h => absurd h (nil_own k), HFO.out.less _ fun k h => h.elim .inl fun h => absurd h (nil_own k)⟩ HKO.out

set_option maxRecDepth 100000 in
set_option maxHeartbeats 4000000 in
theorem fxmove_any {K : Nat → Prop} {w0 w : World} {p g : Nat} {s : S} (x : Fx) (h : FxAt K w0 w p g s x) (hg : K g) (hg0 : w0.heap.size ≤ g) (ht : Nice x.temp) (hn' : Nice x.name) (hnx : s.next ≤ 1073741824) (hu : used s.l ≤ 274877906944) :
    Calls Try.prog 41 #[.pointer (some ⟨g, 0, none⟩), .pointer (some ⟨p, 0, none⟩)] w (FxIs K w0 w p g (x.mv s)) := by
  obtain ⟨G, hG⟩ : ∃ G, x.gs = G := ⟨_, rfl⟩
  have hGn : ∀ y ∈ G, Nice y.1 := by
    rw [← hG]
    unfold Fx.gs
    split
    · simpa using hn'
    · simpa using ⟨hn', nice_tr⟩
  obtain ⟨v, hk, hb, hne, hf⟩ := h
  have C1 := Lib.hid (fxgds_any x v g w.drew hk)
  unfold GdsIs at C1
  rw [hG] at C1
  have HV : Hid (Fx.mv s x = if (Sf.move s x.temp tr G).2.2 = 0 then ((Sf.move s x.temp tr G).1, { x with stamp := ((Sf.move s x.temp tr G).2.1 : Int) }, 1) else ((Sf.move s x.temp tr G).1, { x with next := 3 }, 0)) := Lib.hid (by rw [← hG]; rfl)
  clear hG
  obtain ⟨nm, lk, tp, stp, wh, nx, td⟩ := x
  have hk' : Blk w g 65 (fxC ⟨nm, lk, tp, stp, wh, nx, td⟩ v).toArray := hk
  have HF := Lib.hid hf
  have HG := Lib.hid hg
  have HG0 := Lib.hid hg0
  have HK := Lib.hid hk'
  have HB := Lib.hid hb
  have HNE := Lib.hid hne
  have C2 : Hid (∀ W u, Fk (fun k => K k ∨ v.ownBlock = some k) w0 W p s → RdG W u G → Calls Try.prog 56 #[.pointer (some ⟨p, 0, none⟩), .string (str tp), .string (str tr), u] W fun e w' => e = .returned (.tuple #[.int .i64 (((Sf.move s tp tr G).2.1 : Nat) : Int), .int .i64 (((Sf.move s tp tr G).2.2 : Nat) : Int)]) ∧ Fk (fun k => K k ∨ v.ownBlock = some k) w0 w' p (Sf.move s tp tr G).1 ∧ Kept (fun k => K k ∨ v.ownBlock = some k) W w') := Lib.hid fun W u hh hb => fk_move tp tr _ u hh ht nice_tr hb hGn hnx hu
  obtain ⟨s1, hs1⟩ : ∃ n, (Sf.move s tp tr G).1 = n := ⟨_, rfl⟩
  obtain ⟨n1, hn1⟩ : ∃ n, (Sf.move s tp tr G).2.1 = n := ⟨_, rfl⟩
  obtain ⟨n, hn⟩ : ∃ n, (Sf.move s tp tr G).2.2 = n := ⟨_, rfl⟩
  dsimp only at HV
  rw [hs1, hn1, hn] at HV C2
  have k2 := blk_cell (v := .string (str tp)) hk' 2 rfl
  have HST : Hid (∀ W, Blk W g 65 (fxC ⟨nm, lk, tp, stp, wh, nx, td⟩ v).toArray → W.cell? ⟨g, 2, none⟩ = some (.string (str tp))) := Lib.hid fun W h => blk_cell h 2 rfl
  obtain ⟨T, hT⟩ : ∃ T, str tp = T := ⟨_, rfl⟩
  have C2' : Hid (∀ W u, Fk (fun k => K k ∨ v.ownBlock = some k) w0 W p s → RdG W u G → Calls Try.prog 56 #[.pointer (some ⟨p, 0, none⟩), .string T, .string ⟨#[116, 114, 97, 99, 101]⟩, u] W fun e w' => e = .returned (.tuple #[.int .i64 ((n1 : Nat) : Int), .int .i64 ((n : Nat) : Int)]) ∧ Fk (fun k => K k ∨ v.ownBlock = some k) w0 w' p s1 ∧ Kept (fun k => K k ∨ v.ownBlock = some k) W w') := Lib.hid (by rw [← hT]; exact C2.out)
  rw [hT] at k2 HST
  clear hf hg hg0 hk hk' hb hne ht hn' hnx hu hs1 hn1 hn hT hGn C2
  go_enter Try.func41, Try.ntmps41
  go_upto_region 1 with fail
  refine wp_region_noPanic ?_
  refine wp_region_held_drew (S := fun w' => w'.cell? ⟨g, 2, none⟩ = some (.string T)) (by kernel_rfl) (k2) (fun hHeld => ?_)
  refine takeW 0 (some 8) (oi := ?oT16) (v := ?vT16) ?hiT16 ?hdT16 (by kernel_rfl) (by kernel_rfl) (by kernel_rfl) (fun _ _ _ h => h) ?hwT16 ?hyT16 hHeld ?_
  case hiT16 => (simp only [List.getElem?_toArray, List.getElem?_cons_zero]; with_reducible rfl)
  case hdT16 => rfl
  case hwT16 => rfl
  case hyT16 => (intro w hSw; (try dsimp only at hSw); go_simp; first | done | with_reducible rfl)
  try simp only [Act.put]
  try simp only [List.setIfInBounds_toArray, List.set_cons_zero, List.set_cons_succ]
  refine takeW 1 (some 9) (oi := ?oT17) (v := ?vT17) ?hiT17 ?hdT17 (by kernel_rfl) (by kernel_rfl) (by kernel_rfl) (fun _ _ _ h => h) ?hwT17 ?hyT17 hHeld ?_
  case hiT17 => (simp only [List.getElem?_toArray, List.getElem?_cons_succ, List.getElem?_cons_zero]; with_reducible rfl)
  case hdT17 => rfl
  case hwT17 => rfl
  case hyT17 => (intro w hSw; (try dsimp only at hSw); go_simp; first | done | with_reducible rfl)
  try simp only [Act.put]
  try simp only [List.setIfInBounds_toArray, List.set_cons_zero, List.set_cons_succ]
  refine takeW 2 (some 10) (oi := ?oT18) (v := ?vT18) ?hiT18 ?hdT18 (by kernel_rfl) (by kernel_rfl) (by kernel_rfl) (fun _ _ _ h => h) ?hwT18 ?hyT18 hHeld ?_
  case hiT18 => (simp only [List.getElem?_toArray, List.getElem?_cons_succ, List.getElem?_cons_zero]; with_reducible rfl)
  case hdT18 => rfl
  case hwT18 => rfl
  case hyT18 => (intro w hSw; (try dsimp only at hSw); go_simp; first | done | with_reducible rfl)
  try simp only [Act.put]
  try simp only [List.setIfInBounds_toArray, List.set_cons_zero, List.set_cons_succ]
  refine takeW 3 (some 11) (oi := ?oT19) (v := ?vT19) ?hiT19 ?hdT19 (by kernel_rfl) (by kernel_rfl) (by kernel_rfl) (fun _ _ _ h => h) ?hwT19 ?hyT19 hHeld ?_
  case hiT19 => (simp only [List.getElem?_toArray, List.getElem?_cons_succ, List.getElem?_cons_zero]; with_reducible rfl)
  case hdT19 => rfl
  case hwT19 => rfl
  case hyT19 => (intro w hSw; (try dsimp only at hSw); go_simp; first | done | with_reducible rfl)
  try simp only [Act.put]
  try simp only [List.setIfInBounds_toArray, List.set_cons_zero, List.set_cons_succ]
  refine takeW 4 (some 12) (oi := ?oT20) (v := ?vT20) ?hiT20 ?hdT20 (by kernel_rfl) (by kernel_rfl) (by kernel_rfl) (fun _ _ _ h => h) ?hwT20 ?hyT20 hHeld ?_
  case hiT20 => (simp only [List.getElem?_toArray, List.getElem?_cons_succ, List.getElem?_cons_zero]; with_reducible rfl)
  case hdT20 => rfl
  case hwT20 => rfl
  case hyT20 => (intro w hSw; (try dsimp only at hSw); go_simp; first | done | with_reducible rfl)
  try simp only [Act.put]
  try simp only [List.setIfInBounds_toArray, List.set_cons_zero, List.set_cons_succ]
  refine takeW 5 (some 13) (oi := ?oT21) (v := ?vT21) ?hiT21 ?hdT21 (by kernel_rfl) (by kernel_rfl) (by kernel_rfl) (fun _ _ _ h => h) ?hwT21 ?hyT21 hHeld ?_
  case hiT21 => (simp only [List.getElem?_toArray, List.getElem?_cons_succ, List.getElem?_cons_zero]; with_reducible rfl)
  case hdT21 => rfl
  case hwT21 => rfl
  case hyT21 => (intro w hSw; (try dsimp only at hSw); go_simp; first | done | with_reducible rfl)
  try simp only [Act.put]
  try simp only [List.setIfInBounds_toArray, List.set_cons_zero, List.set_cons_succ]
  refine stepOne 6 (o := ?oT22) ?hiT22 (by kernel_rfl) ?hwT22 (fun K hK => ?_)
  case hiT22 => (simp only [List.getElem?_toArray, List.getElem?_cons_succ, List.getElem?_cons_zero]; with_reducible rfl)
  case hwT22 => rfl
  go_simp
  go_at_call 57
  refine C1.out.mono ?_
  rintro e w1 ⟨hb1, u, rfl, hr1⟩
  have HB1 : Hid (Below w.heap.size w w1) := Lib.hid ((Below.refl w.heap.size w).drew.trans hb1)
  have HR1 := Lib.hid hr1
  clear hb1 hr1
  refine hK.out _ _ ?_ (fun hHeld => ?_)
  · exact HST.out _ (HK.out.under HB1.out)
  clear hK K
  try simp only [Act.put]
  try simp only [List.setIfInBounds_toArray, List.set_cons_zero, List.set_cons_succ]
  refine stepOne 7 (o := ?oT23) ?hiT23 (by kernel_rfl) ?hwT23 (fun K hK => ?_)
  case hiT23 => (simp only [List.getElem?_toArray, List.getElem?_cons_succ, List.getElem?_cons_zero]; with_reducible rfl)
  case hwT23 => rfl
  go_simp
  go_at_call 56
  refine (C2'.out _ _ (HF.out.under HB1.out) HR1.out).mono ?_
  rintro e w2 ⟨rfl, hf2, hkp2⟩
  have HF2 := Lib.hid hf2
  have HKP2 := Lib.hid ((Kept.of_below HF.out HB1.out).trans hkp2)
  clear hf2 hkp2
  have HBK := Lib.hid (HKP2.out.blk (.inl HG.out) HK.out)
  refine hK.out _ _ ?_ (fun hHeld => ?_)
  · exact HST.out _ HBK.out
  clear hK K
  try simp only [Act.put]
  try simp only [List.setIfInBounds_toArray, List.set_cons_zero, List.set_cons_succ]
  refine takeW 8 (some 7) (oi := ?oT24) (v := ?vT24) ?hiT24 ?hdT24 (by kernel_rfl) (by kernel_rfl) (by kernel_rfl) (fun _ _ _ h => h) ?hwT24 ?hyT24 hHeld ?_
  case hiT24 => (simp only [List.getElem?_toArray, List.getElem?_cons_succ, List.getElem?_cons_zero]; with_reducible rfl)
  case hdT24 => rfl
  case hwT24 => rfl
  case hyT24 => (intro w hSw; (try dsimp only at hSw); go_simp; first | done | with_reducible rfl)
  try simp only [Act.put]
  try simp only [List.setIfInBounds_toArray, List.set_cons_zero, List.set_cons_succ]
  refine takeW 9 (some 16) (oi := ?oT25) (v := ?vT25) ?hiT25 ?hdT25 (by kernel_rfl) (by kernel_rfl) (by kernel_rfl) (fun _ _ _ h => h) ?hwT25 ?hyT25 hHeld ?_
  case hiT25 => (simp only [List.getElem?_toArray, List.getElem?_cons_succ, List.getElem?_cons_zero]; with_reducible rfl)
  case hdT25 => rfl
  case hwT25 => rfl
  case hyT25 => (intro w hSw; (try dsimp only at hSw); go_simp; first | done | with_reducible rfl)
  try simp only [Act.put]
  try simp only [List.setIfInBounds_toArray, List.set_cons_zero, List.set_cons_succ]
  refine takeW 10 (some 17) (oi := ?oT26) (v := ?vT26) ?hiT26 ?hdT26 (by kernel_rfl) (by kernel_rfl) (by kernel_rfl) (fun _ _ _ h => h) ?hwT26 ?hyT26 hHeld ?_
  case hiT26 => (simp only [List.getElem?_toArray, List.getElem?_cons_succ, List.getElem?_cons_zero]; with_reducible rfl)
  case hdT26 => rfl
  case hwT26 => rfl
  case hyT26 => (intro w hSw; (try dsimp only at hSw); go_simp; first | done | with_reducible rfl)
  try simp only [Act.put]
  try simp only [List.setIfInBounds_toArray, List.set_cons_zero, List.set_cons_succ]
  refine takeW 11 (some 5) (oi := ?oT27) (v := ?vT27) ?hiT27 ?hdT27 (by kernel_rfl) (by kernel_rfl) (by kernel_rfl) (fun _ _ _ h => h) ?hwT27 ?hyT27 hHeld ?_
  case hiT27 => (simp only [List.getElem?_toArray, List.getElem?_cons_succ, List.getElem?_cons_zero]; with_reducible rfl)
  case hdT27 => rfl
  case hwT27 => rfl
  case hyT27 => (intro w hSw; (try dsimp only at hSw); go_simp; first | done | with_reducible rfl)
  try simp only [Act.put]
  try simp only [List.setIfInBounds_toArray, List.set_cons_zero, List.set_cons_succ]
  refine takeW 12 (some 6) (oi := ?oT28) (v := ?vT28) ?hiT28 ?hdT28 (by kernel_rfl) (by kernel_rfl) (by kernel_rfl) (fun _ _ _ h => h) ?hwT28 ?hyT28 hHeld ?_
  case hiT28 => (simp only [List.getElem?_toArray, List.getElem?_cons_succ, List.getElem?_cons_zero]; with_reducible rfl)
  case hdT28 => rfl
  case hwT28 => rfl
  case hyT28 => (intro w hSw; (try dsimp only at hSw); go_simp; first | done | with_reducible rfl)
  try simp only [Act.put]
  try simp only [List.setIfInBounds_toArray, List.set_cons_zero, List.set_cons_succ]
  refine wpAnyH_done (by kernel_rfl) ?_ _
  refine NoPanic.normal ?_
  skip
  have HB2 := Lib.hid (HB.out.kept HKP2.out fun k => .inr)
  have f3 := HBK.out.free 3
  have c3 := blk_cell HBK.out 3 rfl
  have f5 := HBK.out.free 5
  have c5 := blk_cell HBK.out 5 rfl
  have hnb : v.ownBlock ≠ some g := fun e => HNE.out g e rfl
  by_cases hz : n = 0
  · subst hz
    have HV2 := Lib.hid (HV.out.trans (if_pos rfl))
    have HX1 := Lib.hid (HF2.out.set (.inl HG.out) HG0.out 3 (.int .i64 (n1 : Int)))
    have HX2 := Lib.hid (blk_put HBK.out 3 (.int .i64 (n1 : Int)) (l' := fxC ⟨nm, lk, tp, (n1 : Int), wh, nx, td⟩ v) rfl)
    have HX3 := Lib.hid ((HKP2.out.less fun _ => .inl).but.trans (Kept.set K w2 g 3 (.int .i64 (n1 : Int))))
    have HX4 := Lib.hid (HB2.out.setCell (p := ⟨g, 3, none⟩) hnb (.int .i64 (n1 : Int)))
    clear hnb
    go_wp2
    go_ret
    exact FxIs.of HV2.out rfl ⟨v, HX2.out, HX4.out, HNE.out, HX1.out⟩ HX3.out
  · have HV2 := Lib.hid (HV.out.trans (if_neg hz))
    have HX1 := Lib.hid (HF2.out.set (.inl HG.out) HG0.out 5 (.int .i64 3))
    have HX2 := Lib.hid (blk_put HBK.out 5 (.int .i64 3) (l' := fxC ⟨nm, lk, tp, stp, wh, 3, td⟩ v) rfl)
    have HX3 := Lib.hid ((HKP2.out.less fun _ => .inl).but.trans (Kept.set K w2 g 5 (.int .i64 3)))
    have HX4 := Lib.hid (HB2.out.setCell (p := ⟨g, 5, none⟩) hnb (.int .i64 3))
    have hzI := lg_nz hz
    clear hz hnb
    go_wp2
    go_ret
    exact FxIs.of HV2.out rfl ⟨v, HX2.out, HX4.out, HNE.out, HX1.out⟩ HX3.out

set_option maxRecDepth 100000 in
set_option maxHeartbeats 4000000 in
theorem fxread_any {K : Nat → Prop} {w0 w : World} {p g : Nat} {s : S} (x : Fx) (h : FxAt K w0 w p g s x) (hg : K g) (hg0 : w0.heap.size ≤ g) (hu : used s.l ≤ 274877906944) :
    Calls Try.prog 39 #[.pointer (some ⟨g, 0, none⟩), .pointer (some ⟨p, 0, none⟩)] w (FxIs K w0 w p g (x.read s)) := by
  obtain ⟨nm, lk, tp, stp, wh, nx, td⟩ := x
  have HFX := Lib.hid h
  have hrl : (Sf.read s tr).1.length ≤ 1099511627776 := by
    unfold Sf.read
    split
    · rcases hgg : Sf.get s.l tr with _ | x
      · simp
      · have := Sf.bytes_le h.fk.fs.good.1 tr
        rw [Sf.bytes, hgg] at this
        simp at this
        simp
        omega
    · simp
  have C1 := Lib.hid (fs_read tr w0 w p s h.fk.fs nice_tr hu)
  have HG := Lib.hid hg
  have HG0 := Lib.hid hg0
  have HV : Hid (Fx.read s ⟨nm, lk, tp, stp, wh, nx, td⟩ = if (Sf.read s tr).2.2 = 0 ∧ ed (Sf.read s tr).1 = (Sf.read s tr).1.length then (s, ⟨nm, lk, tp, ((Sf.read s tr).2.1 : Int), wh, nx, td⟩, 1) else (s, ⟨nm, lk, tp, ((Sf.read s tr).2.1 : Int), (Sf.read s tr).1.take (ed (Sf.read s tr).1), 1, td⟩, 0)) := Lib.hid rfl
  obtain ⟨L, hL⟩ : ∃ n, (Sf.read s tr).1 = n := ⟨_, rfl⟩
  obtain ⟨n1, hn1⟩ : ∃ n, (Sf.read s tr).2.1 = n := ⟨_, rfl⟩
  obtain ⟨n, hn⟩ : ∃ n, (Sf.read s tr).2.2 = n := ⟨_, rfl⟩
  rw [hL] at hrl
  rw [hL, hn1, hn] at HV C1
  have C2 : Hid (∀ W v, Bytes W v L → Calls Try.prog 55 #[v] W fun e w' => Below W.heap.size W w' ∧ ∃ u, e = .returned (.tuple #[u, .int .i64 ((ed L : Nat) : Int)])) := Lib.hid fun W v hb => (rtrace_any v L (cnt L) (rws L) W hb (cnt_scn L) hrl rfl).mono fun e w' ⟨h1, u, h2, _⟩ => ⟨h1, u, h2⟩
  have HEL := Lib.hid (ed_le L)
  obtain ⟨q, hq⟩ : ∃ q, ed L = q := ⟨_, rfl⟩
  rw [hq] at HV C2 HEL
  clear h hg hg0 hu hL hn1 hn hrl hq
  go_enter Try.func39, Try.ntmps39
  go_wp2_with fail
  refine C1.out.mono ?_
  rintro e w1 ⟨v1, rfl, ho1, hb1⟩
  obtain ⟨_, hlen, A1, c1, rfl, hc1, _⟩ := ho1.bytes.parts
  obtain ⟨z, hz⟩ : ∃ z, L.length = z := ⟨_, rfl⟩
  rw [hz] at hc1 HEL HV ho1
  rw [hz]
  have HO1 := Lib.hid ho1
  have HB1 := Lib.hid hb1
  have HC1 := Lib.hid hc1
  have hlz : z ≤ 9223372036854775807 := by omega
  clear ho1 hb1 hlen hc1 C1
  go_wp2_with fail
  refine (C2.out w1 _ HO1.out.bytes).mono ?_
  rintro e w2 ⟨hb2, u, rfl⟩
  have HB2 := Lib.hid (HB1.out.trans (hb2.mono HB1.out.size))
  have HO2 := Lib.hid (HO1.out.under hb2)
  obtain ⟨v, hk, hb, hne, hf⟩ := HFX.out.under HB2.out
  have hk' : Blk w2 g 65 (fxC ⟨nm, lk, tp, stp, wh, nx, td⟩ v).toArray := hk
  have HK := Lib.hid hk'
  have HB := Lib.hid hb
  have HNE := Lib.hid hne
  have HF := Lib.hid hf
  have HKP : Hid (Kept K w w2) := Lib.hid (Kept.of_below HFX.out.fk HB2.out)
  have HGL : Hid (g < w.heap.size) := Lib.hid (HFX.out.fk.lt HG.out)
  have f3 := hk'.free 3
  have c3 := blk_cell hk' 3 rfl
  have HX1 := Lib.hid (HF.out.set (.inl HG.out) HG0.out 3 (.int .i64 (n1 : Int)))
  have HX2 := Lib.hid (blk_put hk' 3 (.int .i64 (n1 : Int)) (l' := fxC ⟨nm, lk, tp, (n1 : Int), wh, nx, td⟩ v) rfl)
  have HX3 := Lib.hid (HKP.out.but.trans (Kept.set K w2 g 3 (.int .i64 (n1 : Int))))
  have HX4 := Lib.hid (hb.setCell (p := ⟨g, 3, none⟩) (fun e => hne g e rfl) (.int .i64 (n1 : Int)))
  have HX5 : Hid (Own (w2.setCell ⟨g, 3, none⟩ (.int .i64 (n1 : Int))) w.heap.size (.slice A1 z c1) L) := Lib.hid (HO2.out.grown (grown_setCell _ ⟨g, 3, none⟩ _) (.inr fun e => by have := (HO2.out.lt g e).1; have := HGL.out; omega))
  have hob2 : ∀ k, (Value.slice A1 q c1).ownBlock = some k → w.heap.size ≤ k ∧ k < w2.heap.size := fun k e => HO2.out.lt k (by rw [own_cut A1 z q]; exact e)
  have HX6 : Hid (Fk (fun k => K k ∨ (Value.slice A1 q c1).ownBlock = some k) w0 (w2.setCell ⟨g, 3, none⟩ (.int .i64 (n1 : Int))) p s) := Lib.hid ((HFX.out.fk.grow HB2.out _ fun k h => h.elim .inl fun h => .inr (hob2 k h)).set (.inl HG.out) HG0.out 3 (.int .i64 (n1 : Int)))
  clear hb2 hk hk' hb hne hf C2 HFX hob2
  go_upto_region 4 with fail
  obtain ⟨w3, hw3⟩ : ∃ W, w2.setCell ⟨g, 3, none⟩ (.int .i64 (n1 : Int)) = W := ⟨_, rfl⟩
  rw [hw3] at HX1 HX2 HX3 HX4 HX5 HX6 ⊢
  clear hw3 f3 c3
  by_cases hw : n = 0 ∧ q = z
  · have HV2 := Lib.hid (HV.out.trans (if_pos hw))
    obtain ⟨rfl, rfl⟩ := hw
    go_wp2
    go_ret
    exact FxIs.of HV2.out rfl ⟨v, HX2.out, HX4.out, HNE.out, HX1.out⟩ HX3.out
  · have HV2 := Lib.hid (HV.out.trans (if_neg hw))
    clear HV
    have hqz : (q : Int) ≤ (z : Int) := by have := HEL.out; omega
    have hqz' : q ≤ z := HEL.out
    have hzc : z ≤ c1 := HC1.out
    have c4 := blk_cell HX2.out 4 rfl
    have f4 := HX2.out.free 4
    have c5 := blk_cell (blk_put HX2.out 4 (.slice A1 q c1) (l' := fxC ⟨nm, lk, tp, (n1 : Int), L.take q, nx, td⟩ (.slice A1 q c1)) rfl) 5 rfl
    have f5 := Blk.free (blk_put HX2.out 4 (.slice A1 q c1) (l' := fxC ⟨nm, lk, tp, (n1 : Int), L.take q, nx, td⟩ (.slice A1 q c1)) rfl) 5
    have hob : ∀ k, (Value.slice A1 q c1).ownBlock = some k → w.heap.size ≤ k ∧ k < w3.heap.size := fun k e => HX5.out.lt k (by rw [own_cut A1 z q]; exact e)
    have hf3 := HX6.out
    have HY1 := Lib.hid ((hf3.set (.inl HG.out) HG0.out 4 (.slice A1 q c1)).set (.inl HG.out) HG0.out 5 (.int .i64 1))
    have HY2 := Lib.hid (blk_put (blk_put HX2.out 4 (.slice A1 q c1) (l' := fxC ⟨nm, lk, tp, (n1 : Int), L.take q, nx, td⟩ (.slice A1 q c1)) rfl) 5 (.int .i64 1) (l' := fxC ⟨nm, lk, tp, (n1 : Int), L.take q, 1, td⟩ (.slice A1 q c1)) rfl)
    have HY3 := Lib.hid ((HX3.out.trans (Kept.set K w3 g 4 (.slice A1 q c1))).trans (Kept.set K _ g 5 (.int .i64 1)))
    have hng : (Value.slice A1 q c1).ownBlock ≠ some g := fun e => by have := (hob g e).1; have := HGL.out; omega
    have HY4 := Lib.hid (((HX5.out.bytes.head hqz' (Nat.le_trans hqz' hzc)).setCell (p := ⟨g, 4, none⟩) hng (.slice A1 q c1)).setCell (p := ⟨g, 5, none⟩) hng (.int .i64 1))
    have HNG : Hid (∀ k, (Value.slice A1 q c1).ownBlock = some k → k ≠ g) := Lib.hid fun k e e2 => by subst e2; exact hng e
    clear hob hf3 hng HX1 HX2 HX3 HX4 HX5 HX6
    by_cases h0 : n = 0
    · subst h0
      have hqn : ((q : Int) == (z : Int)) = false := by simp; omega
      clear hw
      go_wp2
      go_ret
      exact FxIs.of HV2.out rfl ⟨_, HY2.out, HY4.out, HNG.out, HY1.out⟩ HY3.out
    · have h0I := lg_ne h0
      clear hw h0
      go_wp2
      go_ret
      exact FxIs.of HV2.out rfl ⟨_, HY2.out, HY4.out, HNG.out, HY1.out⟩ HY3.out
end Go.Proofs.Ytfheaognfocofaa

/- Package logs: Step and Tell. -/
namespace Go.Proofs.Ytfheaognfocofaa
set_option maxRecDepth 100000
open Go.ChangeShapes Go.WideShapes Go.ChangeAt Go.RowKit Go.ChangeMaps
open Sf Lg

theorem FxAt.told {K : Nat → Prop} {w0 w : World} {p g : Nat} {s : S} {x : Fx} (h : FxAt K w0 w p g s x) (hg : K g) (hg0 : w0.heap.size ≤ g) (n : Nat) : FxAt K w0 (w.setCell ⟨g, 6, none⟩ (.int .i64 (n : Int))) p g s { x with told := n } := by
  obtain ⟨v, h1, h2, h3, h4⟩ := h
  exact ⟨v, blk_put h1 6 (.int .i64 (n : Int)) rfl, h2.setCell (p := ⟨g, 6, none⟩) (fun e => h3 g e rfl) _, h3, h4.set (.inl hg) hg0 6 _⟩
theorem FxAt.cell {K : Nat → Prop} {w0 w : World} {p g : Nat} {s : S} {x : Fx} (h : FxAt K w0 w p g s x) : w.cell? ⟨g, 6, none⟩ = some (.int .i64 (x.told : Int)) ∧ w.cell? ⟨g, 5, none⟩ = some (.int .i64 (x.next : Int)) ∧ w.cell? ⟨g, 2, none⟩ = some (.string (str x.temp)) ∧ w.frozen? ⟨g, 6, none⟩ = false := by
  obtain ⟨v, h1, h2, h3, h4⟩ := h
  exact ⟨blk_cell h1 6 rfl, blk_cell h1 5 rfl, blk_cell h1 2 rfl, Blk.free h1 6⟩
theorem fxdrop_any {K : Nat → Prop} {w0 w : World} {p g : Nat} {s : S} (x : Fx) (h : FxAt K w0 w p g s x) (ht : Nice x.temp) (hu : used s.l ≤ 274877906944) :
    Calls Try.prog 42 #[.pointer (some ⟨p, 0, none⟩), .string (str x.temp), .slice none 0 0] w fun e w' => e = .returned (.int .i64 (((Sf.drop s x.temp []).2 : Nat) : Int)) ∧ (K g → FxAt K w0 w' p g (Sf.drop s x.temp []).1 x) ∧ Kept (fun k => K k ∧ k ≠ g) w w' := by
  obtain ⟨v, h1, h2, h3, h4⟩ := h
  refine (fk_drop x.temp [] (.slice none 0 0) h4 ht (rdG_none _ 0 none) (by simp) hu).mono ?_
  rintro e w' ⟨he, hf, hk⟩
  exact ⟨he, fun hg => ⟨v, hk.blk (.inl hg) h1, h2.kept hk fun _ => .inr, h3, hf⟩, (hk.less fun _ => .inl).but⟩

set_option maxRecDepth 100000 in
set_option maxHeartbeats 4000000 in
theorem fxdo_any {K : Nat → Prop} {w0 w : World} {p g : Nat} {s : S} (x : Fx) (h : FxAt K w0 w p g s x) (hg : K g) (hg0 : w0.heap.size ≤ g) (ht : Nice x.temp) (hn : Nice x.name) (hnx : s.next ≤ 1073741824) (hu : used s.l + x.whole.length ≤ 274877906944) :
    Calls Try.prog 25 #[.pointer (some ⟨g, 0, none⟩), .pointer (some ⟨p, 0, none⟩)] w (FxIs K w0 w p g (x.doo s)) := by
  have P0 := Lib.hid (fxread_any x h hg hg0 (by omega))
  have P1 := Lib.hid (fxput_any x h hg hg0 ht hnx hu)
  have P2 := Lib.hid (fxmove_any x h hg hg0 ht hn hnx (by omega))
  have P3 := Lib.hid (fxdrop_any x h ht (by omega))
  have k5 := h.cell.2.1
  have k2 := h.cell.2.2.1
  have HV : Hid (x.doo s = if x.next = 0 then x.read s else if x.next = 1 then x.put s else if x.next = 2 then x.mv s else ((Sf.drop s x.temp []).1, x, 2)) := Lib.hid rfl
  have HG := Lib.hid hg
  obtain ⟨n, hn⟩ : ∃ n, x.next = n := ⟨_, rfl⟩
  rw [hn] at k5 HV
  clear h hg hg0 ht hnx hu hn
  go_enter Try.func25, Try.ntmps25
  by_cases h0 : n = 0
  · subst h0
    rw [HV.out, if_pos rfl]
    clear HV
    go_wp2_with fail
    refine P0.out.mono ?_
    rintro e w1 ⟨rfl, h1⟩
    have H := Lib.hid h1
    clear h1
    go_wp2
    go_ret
    exact ⟨rfl, H.out⟩
  · rw [HV.out, if_neg h0]
    have h0I := lg_ne h0
    clear h0
    by_cases h1 : n = 1
    · subst h1
      rw [if_pos rfl]
      clear HV
      go_wp2_with fail
      refine P1.out.mono ?_
      rintro e w1 ⟨rfl, h1⟩
      have H := Lib.hid h1
      clear h1
      go_wp2
      go_ret
      exact ⟨rfl, H.out⟩
    · rw [if_neg h1]
      have h1I : ((n : Int) == 1) = false := lg_ne h1
      clear h1
      by_cases h2 : n = 2
      · subst h2
        rw [if_pos rfl]
        clear HV
        go_wp2_with fail
        refine P2.out.mono ?_
        rintro e w1 ⟨rfl, h1⟩
        have H := Lib.hid h1
        clear h1
        go_wp2
        go_ret
        exact ⟨rfl, H.out⟩
      · rw [if_neg h2]
        have h2I : ((n : Int) == 2) = false := lg_ne h2
        clear h2 HV
        go_wp2_with fail
        refine P3.out.mono ?_
        rintro e w1 ⟨rfl, h1, h2⟩
        have H1 := Lib.hid (h1 HG.out)
        have H2 := Lib.hid h2
        clear h1 h2
        go_wp2
        go_ret
        exact ⟨rfl, H1.out, H2.out⟩

set_option maxRecDepth 100000 in
set_option maxHeartbeats 4000000 in
theorem fxstep_any {K : Nat → Prop} {w0 w : World} {p g : Nat} {s : S} (x : Fx) (h : FxAt K w0 w p g s x) (hg : K g) (hg0 : w0.heap.size ≤ g) (ht : Nice x.temp) (hn : Nice x.name) (hnx : s.next ≤ 1073741824) (hu : used s.l + x.whole.length ≤ 274877906944) :
    Calls Try.prog 9 #[.pointer (some ⟨g, 0, none⟩), .pointer (some ⟨p, 0, none⟩)] w (FxIs K w0 w p g (x.step s)) := by
  have P := Lib.hid (fxdo_any x h hg hg0 ht hn hnx hu)
  have k6 := h.cell.1
  have HV : Hid (x.step s = if x.told = 0 then ((x.doo s).1, { (x.doo s).2.1 with told := (x.doo s).2.2 }, (x.doo s).2.2) else (s, x, x.told)) := Lib.hid rfl
  have HG := Lib.hid hg
  have HG0 := Lib.hid hg0
  have HX := Lib.hid h
  obtain ⟨n, hn⟩ : ∃ n, x.told = n := ⟨_, rfl⟩
  rw [hn] at k6 HV
  obtain ⟨R, hR⟩ : ∃ R, x.doo s = R := ⟨_, rfl⟩
  rw [hR] at P HV
  obtain ⟨s1, x1, q⟩ := R
  clear h hg hg0 ht hnx hu hn hR
  go_enter Try.func9, Try.ntmps9
  by_cases h0 : n = 0
  · subst h0
    have HV2 := Lib.hid (HV.out.trans (if_pos rfl))
    clear HV
    go_wp2_with fail
    refine P.out.mono ?_
    rintro e w1 ⟨rfl, h1, h2⟩
    have h1' : FxAt _ w0 w1 p g s1 x1 := h1
    have H1 := Lib.hid (h1'.told HG.out HG0.out q)
    have H2 := Lib.hid (h2.trans (Kept.set _ w1 g 6 (.int .i64 (q : Int))))
    have c6 := h1'.cell.1
    have f6 := h1'.cell.2.2.2
    clear h1 h1' h2 k6 P
    go_wp2
    go_ret
    exact FxIs.of HV2.out rfl H1.out H2.out
  · have HV2 := Lib.hid (HV.out.trans (if_neg h0))
    have h0I := lg_ne h0
    clear h0 HV
    go_wp2
    go_ret
    exact FxIs.of HV2.out rfl HX.out ((Kept.refl _ _))

/-- What Tell comes to. -/
noncomputable def tellF (s : S) (t pr : List Nat) (who inc : Int) (G : List (List Nat × Int)) : S × Nat × Nat :=
  if Rc.done t pr who inc = [] then (s, 0, 6) else Sf.app s tr (Fr.frm (Rc.done t pr who inc)) G
set_option maxRecDepth 100000 in
set_option maxHeartbeats 4000000 in
theorem lgtell_any {K : Nat → Prop} {w0 w : World} {p : Nat} {s : S} (t pr : List Nat) (who inc : Int) (G : List (List Nat × Int)) (vp vg : Value) (h : Fk K w0 w p s) (hp : Bytes w vp pr) (htt : ∀ c ∈ t, c < 256) (htm : t.length ≤ 1000000) (hpm : pr.length ≤ 1000000) (hg : RdG w vg G) (hg1 : ∀ x ∈ G, Nice x.1) (hnx : s.next ≤ 1073741824) (hu : used s.l + 5000 ≤ 274877906944) :
    Calls Try.prog 11 #[.pointer (some ⟨p, 0, none⟩), doneV (str t) who inc vp, vg] w fun e w' => e = .returned (.tuple #[.int .i64 (((tellF s t pr who inc G).2.1 : Nat) : Int), .int .i64 (((tellF s t pr who inc G).2.2 : Nat) : Int)]) ∧ Fk K w0 w' p (tellF s t pr who inc G).1 ∧ Kept K w w' := by
  obtain ⟨D, hD⟩ : ∃ D, Rc.done t pr who inc = D := ⟨_, rfl⟩
  have hDl : D.length ≤ 4040 := by rw [← hD]; exact Rc.done_length _ _ _ _
  obtain ⟨W1, hW1⟩ : ∃ W, w.alloc (.cells #[.string (str t), .int .i64 who, .int .i64 inc, vp] 39) = W := ⟨_, rfl⟩
  obtain ⟨q, hq⟩ : ∃ q, w.heap.size = q := ⟨_, rfl⟩
  have hb1 : Below w.heap.size w W1 := by rw [← hW1]; exact (Below.refl _ _).alloc (Nat.le_refl _) _
  have hbk : Blk W1 q 39 #[.string (str t), .int .i64 who, .int .i64 inc, vp] := by rw [← hW1, ← hq]; exact heap_alloc_new w _
  have HV : Hid (tellF s t pr who inc G = if D = [] then (s, 0, 6) else Sf.app s tr (Fr.frm D) G) := Lib.hid (by rw [← hD]; rfl)
  have C1 := Lib.hid (rdone_is t pr who inc vp D W1 (hp.under hb1) htt htm hpm hD)
  have C2 : Hid (∀ W v, Bytes W v D → Calls Try.prog 29 #[.slice none 0 0, v] W (Made W.heap.size (Fr.frm D) W)) := Lib.hid fun W v hb => put_is _ v [] D (Fr.frm D) W (bytes_nil W) hb (by simp) (by omega) (by simp)
  have C3 : Hid (∀ W v, Below w.heap.size w W → Own W w.heap.size v (Fr.frm D) → Calls Try.prog 28 #[.pointer (some ⟨p, 0, none⟩), .string (str tr), v, vg] W fun e w' => e = .returned (.tuple #[.int .i64 (((Sf.app s tr (Fr.frm D) G).2.1 : Nat) : Int), .int .i64 (((Sf.app s tr (Fr.frm D) G).2.2 : Nat) : Int)]) ∧ Fk K w0 w' p (Sf.app s tr (Fr.frm D) G).1 ∧ Kept K w w') := Lib.hid fun W v hb ho => by
    have h2 := h.grow hb (fun k => K k ∨ v.ownBlock = some k) fun k hk => hk.elim .inl fun e => .inr (ho.lt k e)
    refine (fk_app tr (Fr.frm D) G v vg h2 nice_tr ho.bytes (fun k e => .inl (.inr e)) (hg.under hb) hg1 hnx (by rw [Fr.frm_length]; omega)).mono ?_
    rintro e w' ⟨he, hf, hk⟩
    exact ⟨he, hf.less K fun _ => .inl, (Kept.of_below h hb).trans (hk.less fun _ => .inl)⟩
  have HF := Lib.hid (h.under hb1)
  have HKP := Lib.hid (Kept.of_below h hb1)
  have HB1 := Lib.hid hb1
  obtain ⟨Y, hY⟩ : ∃ Y, Sf.app s tr (Fr.frm D) G = Y := ⟨_, rfl⟩
  rw [hY] at HV C3
  obtain ⟨s1, a1, a2⟩ := Y
  have HDL := Lib.hid hDl
  obtain ⟨FD, hFD⟩ : ∃ F, Fr.frm D = F := ⟨_, rfl⟩
  rw [hFD] at C2 C3
  have k0 := hbk.at 0
  have k1 := hbk.at 1
  have k2 := hbk.at 2
  have k3 := hbk.at 3
  have HQ := Lib.hid hq
  have C3' : Hid (∀ W v, Below w.heap.size w W → Own W w.heap.size v FD → Calls Try.prog 28 #[.pointer (some ⟨p, 0, none⟩), .string ⟨#[116, 114, 97, 99, 101]⟩, v, vg] W fun e w' => e = .returned (.tuple #[.int .i64 (a1 : Int), .int .i64 (a2 : Int)]) ∧ Fk K w0 w' p s1 ∧ Kept K w w') := Lib.hid C3.out
  clear h hp htt htm hpm hg hg1 hnx hu hD hDl hb1 hbk hY hFD C3
  go_enter Try.func11, Try.ntmps11
  go_upto_region 1 with fail
  clear hW1 hq
  go_wp2_with fail
  refine C1.out.mono ?_
  rintro e w2 ⟨v2, rfl, ho2, hb2⟩
  have HB2 := Lib.hid (HB1.out.trans (hb2.mono HB1.out.size))
  have HF2 := Lib.hid (HF.out.under hb2)
  have HK2 := Lib.hid (HKP.out.trans (Kept.of_below HF.out hb2))
  obtain ⟨_, hlen, A2, c2, rfl, hc2, _⟩ := ho2.bytes.parts
  obtain ⟨z, hz⟩ : ∃ z, D.length = z := ⟨_, rfl⟩
  rw [hz] at ho2 ⊢
  have HZ := Lib.hid hz
  have HO2 := Lib.hid ho2
  have hz2 : z ≤ 4040 := by have := HDL.out; omega
  clear ho2 hb2 hlen hc2 hz k0 k1 k2 k3
  by_cases h0 : z = 0
  · have hDn : D = [] := List.length_eq_zero_iff.1 (by rw [HZ.out, h0])
    have HV2 := Lib.hid (HV.out.trans (if_pos hDn))
    subst h0
    clear hDn
    go_wp2
    go_ret2
    rw [HV2.out]
    exact ⟨rfl, HF2.out, HK2.out⟩
  · have hDn : D ≠ [] := fun e => h0 (by rw [← HZ.out, e]; rfl)
    have HV2 := Lib.hid (HV.out.trans (if_neg hDn))
    have h0I : ((z : Int) == 0) = false := lg_ne h0
    clear hDn h0
    go_wp2_with fail
    refine (C2.out w2 _ HO2.out.bytes).mono ?_
    rintro e w3 ⟨v3, rfl, ho3, hb3⟩
    have HB3 := Lib.hid (HB2.out.trans (hb3.mono HB2.out.size))
    have HO3 := Lib.hid (ho3.more HB2.out.size)
    clear ho3 hb3
    go_wp2_with fail
    refine (C3'.out w3 _ HB3.out HO3.out).mono ?_
    rintro e w4 ⟨rfl, h4, k4⟩
    have H4 := Lib.hid (And.intro h4 k4)
    clear h4 k4
    go_wp2
    go_ret2
    rw [HV2.out]
    exact ⟨rfl, H4.out⟩
end Go.Proofs.Ytfheaognfocofaa

/- Package logs: a row of steps. -/
namespace Go.Proofs.Ytfheaognfocofaa
set_option maxRecDepth 100000
open Go.ChangeShapes Go.WideShapes Go.ChangeAt Go.RowKit Go.ChangeMaps
open Sf Lg

namespace Lg
theorem fx_next {s : S} (ho : Ord s.l) (x : Fx) : (x.doo s).1.next ≤ s.next + 1 ∧ used (x.doo s).1.l + (x.doo s).2.1.whole.length ≤ 2 * (used s.l + x.whole.length) ∧ (x.doo s).2.1.name = x.name ∧ (x.doo s).2.1.temp = x.temp := by
  unfold Fx.doo
  split
  · unfold Fx.read
    split
    · exact ⟨Nat.le_succ _, by show used s.l + x.whole.length ≤ _; omega, rfl, rfl⟩
    · refine ⟨Nat.le_succ _, ?_, rfl, rfl⟩
      show used s.l + ((Sf.read s tr).1.take _).length ≤ _
      have h : (Sf.read s tr).1.length ≤ used s.l := by
        unfold Sf.read
        split
        · rcases hgg : Sf.get s.l tr with _ | y
          · simp
          · have := Sf.bytes_le ho tr
            rw [Sf.bytes, hgg] at this
            simpa using this
        · simp
      rw [List.length_take]
      omega
  · split
    · unfold Fx.put
      have h := Lk.put_used ho x.temp x.whole
      split
      · exact ⟨h.2, by show used (putS s x.temp x.whole).1.l + 0 ≤ _; omega, rfl, rfl⟩
      · exact ⟨h.2, by show used (putS s x.temp x.whole).1.l + 0 ≤ _; omega, rfl, rfl⟩
    · split
      · unfold Fx.mv
        have h := Lk.move_used ho x.temp tr x.gs
        split
        · exact ⟨h.2, by show used (Sf.move s x.temp tr x.gs).1.l + x.whole.length ≤ _; omega, rfl, rfl⟩
        · exact ⟨h.2, by show used (Sf.move s x.temp tr x.gs).1.l + x.whole.length ≤ _; omega, rfl, rfl⟩
      · have h := Lk.drop_used ho x.temp []
        exact ⟨by show (Sf.drop s x.temp []).1.next ≤ _; omega, by show used (Sf.drop s x.temp []).1.l + x.whole.length ≤ _; omega, rfl, rfl⟩
theorem fx_grows {s : S} (ho : Ord s.l) (x : Fx) : (x.step s).1.next ≤ s.next + 1 ∧ used (x.step s).1.l + (x.step s).2.1.whole.length ≤ 2 * (used s.l + x.whole.length) ∧ (x.step s).2.1.name = x.name ∧ (x.step s).2.1.temp = x.temp := by
  unfold Fx.step
  split
  · exact fx_next ho x
  · exact ⟨Nat.le_succ _, by show used s.l + x.whole.length ≤ _; omega, rfl, rfl⟩
end Lg

/-- A Fix behind i steps of at most M: what is to come of it is F. -/
def FxRun (K : Nat → Prop) (w0 w : World) (p g M i q : Nat) (F : S × Fx × Nat) (N U : Nat) : Prop :=
  ∃ sk xk, ((q = 0 ∧ Lg.run (M - i) sk xk = F) ∨ (q ≠ 0 ∧ F = (sk, xk, q))) ∧ FxAt K w0 w p g sk xk ∧ sk.next ≤ N + i ∧ used sk.l + xk.whole.length ≤ U * 2 ^ i ∧ xk.temp = lgT ∧ xk.name = lgL
theorem FxRun.new {K : Nat → Prop} {w0 w : World} {p g : Nat} {s : S} {M N U : Nat} {F : S × Fx × Nat} {k : Int} (h : FxAt K w0 w p g s (Lg.begin lgL k lgT)) (hr : Lg.run M s (Lg.begin lgL k lgT) = F) (hN : s.next ≤ N) (hU : used s.l ≤ U) : FxRun K w0 w p g M 0 0 F N U :=
  ⟨s, _, .inl ⟨rfl, hr⟩, h, hN, by show used s.l + 0 ≤ U * 1; omega, rfl, rfl⟩
theorem FxRun.under {K : Nat → Prop} {w0 w w1 : World} {p g M i q N U : Nat} {F : S × Fx × Nat} (h : FxRun K w0 w p g M i q F N U) (hb : Below w.heap.size w w1) : FxRun K w0 w1 p g M i q F N U := by
  obtain ⟨sk, xk, h1, h2, h3⟩ := h
  exact ⟨sk, xk, h1, h2.under hb, h3⟩
theorem FxRun.done {K : Nat → Prop} {w0 w : World} {p g M i q N U n : Nat} {F : S × Fx × Nat} {s' : S} {x' : Fx} (h : FxRun K w0 w p g M i q F N U) (hF : F = (s', x', n)) (hn : n ≠ 0) (hq : q ≠ 0 ∨ i = M) : q = n ∧ FxAt K w0 w p g s' x' := by
  obtain ⟨sk, xk, h1, h2, _⟩ := h
  subst hF
  rcases h1 with ⟨h, h1⟩ | ⟨h, h1⟩
  · rcases hq with hq | hq
    · exact absurd h hq
    · subst hq
      rw [Nat.sub_self, Lg.run] at h1
      injection h1 with _ h1
      injection h1 with _ h1
      exact absurd h1.symm hn
  · injection h1 with e1 e2
    injection e2 with e2 e3
    subst e1 e2 e3
    exact ⟨rfl, h2⟩
theorem fxrun_any {K : Nat → Prop} {w0 w : World} {p g M i N U : Nat} {F : S × Fx × Nat} (h : FxRun K w0 w p g M i 0 F N U) (hi : i < M) (hM : M ≤ 8) (hN : N ≤ 1000000) (hU : U ≤ 1000000000) (hg : K g) (hg0 : w0.heap.size ≤ g) :
    Calls Try.prog 9 #[.pointer (some ⟨g, 0, none⟩), .pointer (some ⟨p, 0, none⟩)] w fun e w' => ∃ q : Nat, e = .returned (.int .i64 (q : Int)) ∧ FxRun K w0 w' p g M (i + 1) q F N U ∧ Kept (fun k => K k ∧ k ≠ g) w w' := by
  obtain ⟨sk, xk, h1, h2, h3, h4, h5, h6⟩ := h
  have hrun : Lg.run (M - i) sk xk = F := by
    rcases h1 with h | h
    · exact h.2
    · exact absurd rfl h.1
  have hp : 2 ^ i ≤ 2 ^ 7 := Nat.pow_le_pow_right (by omega) (by omega)
  have hUi : U * 2 ^ i ≤ 1000000000 * 2 ^ 7 := Nat.mul_le_mul hU hp
  have hgr := Lg.fx_grows h2.fk.fs.good.1 xk
  refine (fxstep_any xk h2 hg hg0 (by rw [h5]; exact nice_lgT) (by rw [h6]; exact nice_lgL) (by omega) (by omega)).mono ?_
  rintro e w' ⟨he, hf, hk⟩
  refine ⟨(xk.step sk).2.2, he, ⟨(xk.step sk).1, (xk.step sk).2.1, ?_, hf, by omega, ?_, by rw [hgr.2.2.2]; exact h5, by rw [hgr.2.2.1]; exact h6⟩, hk⟩
  · rw [show M - i = (M - (i + 1)) + 1 by omega] at hrun
    by_cases h0 : (xk.step sk).2.2 = 0
    · rw [Lg.run, if_pos h0] at hrun
      exact .inl ⟨h0, hrun⟩
    · rw [Lg.run, if_neg h0] at hrun
      exact .inr ⟨h0, hrun.symm⟩
  · rw [Nat.pow_succ]
    have := hgr.2.1
    have e : U * (2 ^ i * 2) = 2 * (U * 2 ^ i) := by rw [← Nat.mul_assoc, Nat.mul_comm]
    rw [e]
    omega
theorem FxAt.grow {K K' : Nat → Prop} {w0 w w1 : World} {p g : Nat} {s : S} {x : Fx} (h : FxAt K w0 w p g s x) (hb : Below w.heap.size w w1) (hK : ∀ k, K' k → K k ∨ (w.heap.size ≤ k ∧ k < w1.heap.size)) : FxAt K' w0 w1 p g s x := by
  obtain ⟨v, h1, h2, h3, h4⟩ := h
  refine ⟨v, h1.under hb, h2.under hb, h3, h4.grow hb _ fun k hk => ?_⟩
  rcases hk with hk | hk
  · rcases hK k hk with h | h
    · exact .inl (.inl h)
    · exact .inr h
  · exact .inl (.inr hk)
/-- A Fix that is begun. -/
theorem FxAt.begun {K : Nat → Prop} {w0 w w1 : World} {p g : Nat} {s : S} {k : Int} (h : Fk K w0 w p s) (hb : Below w.heap.size w w1) (hg : w.heap.size ≤ g) (hx : FxBlk w1 g (Lg.begin lgL k lgT) (.slice none 0 0)) : FxAt (fun k => K k ∨ k = g) w0 w1 p g s (Lg.begin lgL k lgT) :=
  ⟨_, hx, bytes_nil _, fun k h => absurd h (nil_own k), h.grow hb _ fun k hk => by
    rcases hk with (hk | rfl) | hk
    · exact .inl hk
    · exact .inr ⟨hg, Blk.size hx⟩
    · exact absurd hk (nil_own k)⟩
end Go.Proofs.Ytfheaognfocofaa
