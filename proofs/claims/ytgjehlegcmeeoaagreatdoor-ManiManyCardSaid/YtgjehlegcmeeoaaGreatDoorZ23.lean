/- Package mani's own reader: noting an Out; what the loop over Outs keeps beside it. -/
import Derived.Test.YtgjehlegcmeeoaaGreatDoorZ22
import Derived.Test.YtgjehlegcmeeoaaGreatDoorZ14
import Derived.Test.YtgjehlegcmeeoaaGreatDoorZ21
namespace Go.Proofs.YtgjehlegcmeeoaaGreatDoor
set_option maxRecDepth 100000
open Go.ChangeShapes Go.WideShapes Go.ChangeAt Go.RowKit Go.Shelf

theorem has_snoc (t k : List Nat) (i : Nat) : ∀ (L : List (List Nat × Nat)), Mo.has t (L ++ [(k, i)]) = if k = t then some i else Mo.has t L
  | [] => by
    rw [List.nil_append]
    unfold Mo.has Mo.has
    rfl
  | (u, m) :: r => by
    rw [List.cons_append]
    conv => lhs; unfold Mo.has
    rw [has_snoc t k i r]
    by_cases h : k = t
    · rw [if_pos h, if_pos h]
    · rw [if_neg h, if_neg h]
      conv => rhs; unfold Mo.has
/-- An Out is noted. -/
theorem MRdIn.putMaker {w w' : World} {base hi g lb mb : Nat} {cv rv sv : Value} {s : Mo.S} {K : List Nat} {i : Nat} (h : MRdIn w base hi g lb mb cv rv sv s)
    (hm : MapIs w' mb (s.makers.length + 1) (fun u => if u = K then some (.int .i64 (i : Int)) else (Mo.has u s.makers).map fun (i : Nat) => Value.int .i64 (i : Int))) (hs : ∀ k, k ≠ mb → w'.heap[k]? = w.heap[k]?) (hz : w'.heap.size = w.heap.size) : MRdIn w' base hi g lb mb cv rv sv { s with makers := s.makers ++ [(K, i)] } := by
  have km : ∀ (b : Nat) (t : TypeId), Ty w b t → w'.heap[b]? = w.heap[b]? := fun b t ht => hs b (by
    intro e
    subst e
    obtain ⟨es, c, hm⟩ := MapIs.map h.makers
    obtain ⟨cs, fr, ht⟩ := ht
    rw [hm] at ht
    cases ht)
  have hk : KeepB w w' hi PartTy := fun b t _ ht _ => km b t ht
  refine ⟨(km g _ h.blk.ty).trans h.blk, h.chosen.keep hk (.inr (.inr (.inr rfl))), h.rules.keep hk (fun k hk' => km k _ (h.rules.ty k hk').1), h.rest.keep hk (.inr (.inr (.inr rfl))), h.lets.keep hk (hs lb h.lm), ?_, h.g1, h.g2, h.l1, h.l2, h.m1, h.m2, h.lm, by rw [hz]; exact h.top, ⟨h.good.first, h.good.rest, h.good.chosen, h.good.lets, h.good.rules⟩⟩
  unfold MakersB
  dsimp only
  rw [List.length_append]
  have e : (fun t => (Mo.has t (s.makers ++ [(K, i)])).map fun (i : Nat) => Value.int .i64 (i : Int)) = fun u => if u = K then some (.int .i64 (i : Int)) else (Mo.has u s.makers).map fun (i : Nat) => Value.int .i64 (i : Int) := by
    funext u
    rw [has_snoc]
    by_cases he : K = u
    · rw [if_pos he, if_pos he.symm]
      rfl
    · rw [if_neg he, if_neg (Ne.symm he)]
  rw [e]
  exact hm
/-- Nothing old is turned but two blocks. -/
structure MTwo (w w' : World) (g m : Nat) : Prop where
  os : w'.os = w.os
  tape : w'.tape = w.tape
  output : w'.output = w.output
  size : w.heap.size ≤ w'.heap.size
  block : ∀ k, k < w.heap.size → k ≠ g → k ≠ m → w'.heap[k]? = w.heap[k]?
theorem MTwo.refl (w : World) (g m : Nat) : MTwo w w g m := ⟨rfl, rfl, rfl, Nat.le_refl _, fun _ _ _ _ => rfl⟩
theorem MTwo.left {w A B : World} {g m : Nat} (h : MTwo w A g m) (k : A.grownBy B (some g)) : MTwo w B g m :=
  ⟨k.os.trans h.os, k.tape.trans h.tape, k.output.trans h.output, Nat.le_trans h.size k.size, fun j hj h1 h2 => (k.block j (Nat.lt_of_lt_of_le hj h.size) (by intro e; injection e with e; exact h1 e)).trans (h.block j hj h1 h2)⟩
theorem MTwo.below {w A B : World} {g m lo : Nat} (h : MTwo w A g m) (k : Below lo A B) (hlo : w.heap.size ≤ lo) : MTwo w B g m :=
  ⟨k.os.trans h.os, k.tape.trans h.tape, k.output.trans h.output, Nat.le_trans h.size k.size, fun j hj h1 h2 => (k.block j (by omega)).trans (h.block j hj h1 h2)⟩
theorem MTwo.store {w A B : World} {g m : Nat} (h : MTwo w A g m) (k : A.grownBy B (some m)) : MTwo w B g m :=
  ⟨k.os.trans h.os, k.tape.trans h.tape, k.output.trans h.output, Nat.le_trans h.size k.size, fun j hj h1 h2 => (k.block j (Nat.lt_of_lt_of_le hj h.size) (by intro e; injection e with e; exact h2 e)).trans (h.block j hj h1 h2)⟩
theorem MTwo.toBelow {w A : World} {g m base : Nat} (h : MTwo w A g m) (h1 : base ≤ g) (h2 : base ≤ m) (h3 : base ≤ w.heap.size) : Below base w A :=
  ⟨h.os, h.tape, h.output, h.size, fun k hk => h.block k (by omega) (by omega) (by omega)⟩
/-- The texts so far, in a box. -/
def BoxT (W : World) (lx b0 : Nat) (L : List (List Nat)) : Prop := ∃ hv, Blk W lx 27 #[hv] ∧ OwnT W b0 hv L
theorem BoxT.kept {A B : World} {lx b0 : Nat} {L : List (List Nat)} {row : Option Nat} (h : BoxT A lx b0 L) (hg : A.grownBy B row) (hr : ∀ r, row = some r → ∃ o : Obj, A.heap[r]? = some o ∧ o.isCells = false) : BoxT B lx b0 L :=
  h.imp fun _ hb => ⟨hb.1.kept hg hr, hb.2.kept hg hr⟩
theorem BoxT.left {A B : World} {lx b0 g : Nat} {L : List (List Nat)} (h : BoxT A lx b0 L) (hg : A.grownBy B (some g)) (h1 : g < lx) (h2 : g < b0) : BoxT B lx b0 L :=
  h.imp fun hv hb => ⟨hb.1.grown hg (by intro e; injection e with e; omega), World.ownsRow.kept hb.2 hg (by
    cases hu : hv.ownBlock with
    | none => exact .inl rfl
    | some k =>
      refine .inr fun e => ?_
      injection e with e
      have := (hb.2.lt k hu).1
      omega)⟩
theorem BoxT.under {A B : World} {lx b0 : Nat} {L : List (List Nat)} (h : BoxT A lx b0 L) (hb : Below A.heap.size A B) : BoxT B lx b0 L := h.imp fun _ h => ⟨h.1.under hb, h.2.under hb⟩
theorem BoxT.heap {A B : World} {lx b0 : Nat} {L : List (List Nat)} (h : BoxT A lx b0 L) (e : B.heap = A.heap) : BoxT B lx b0 L := by
  obtain ⟨hv, h1, h2⟩ := h
  refine ⟨hv, by unfold Blk at *; rw [e]; exact h1, ?_⟩
  unfold OwnT World.ownsRow at *
  rw [e]
  exact h2
theorem MRd.heap {w w' : World} {base hi g lb mb : Nat} {s : Mo.S} (h : MRd w base hi g lb mb s) (e : w'.heap = w.heap) : MRd w' base hi g lb mb s := h.same (fun k _ => by rw [e]) (by rw [e]; exact Nat.le_refl _)
theorem note_step : Mo.Step Mo.note := fun x s => by
  unfold Mo.note
  dsimp only
  split
  · unfold Mo.fail
    split <;> rfl
  · rfl
theorem note_yes {x : Ln.W} {s : Mo.S} {i : Nat} (h : Mo.has x.text s.makers = some i) : Mo.note x s = { Mo.fail 8 x s with makers := (Mo.fail 8 x s).makers ++ [(x.text, (Mo.fail 8 x s).rules.length)] } := by
  unfold Mo.note
  rw [h]
  rfl
theorem note_no {x : Ln.W} {s : Mo.S} (h : Mo.has x.text s.makers = none) : Mo.note x s = { s with makers := s.makers ++ [(x.text, s.rules.length)] } := by
  unfold Mo.note
  rw [h]
  rfl
theorem fail_makers (k : Nat) (x : Ln.W) (s : Mo.S) : (Mo.fail k x s).makers = s.makers := by unfold Mo.fail; split <;> rfl
theorem fail_rules (k : Nat) (x : Ln.W) (s : Mo.S) : (Mo.fail k x s).rules = s.rules := by unfold Mo.fail; split <;> rfl
theorem note_makers (x : Ln.W) (s : Mo.S) : (Mo.note x s).makers.length = s.makers.length + 1 := by
  rcases h : Mo.has x.text s.makers with _ | i
  · rw [note_no h, List.length_append]; rfl
  · rw [note_yes h, List.length_append, fail_makers]; rfl
theorem note_rules (x : Ln.W) (s : Mo.S) : (Mo.note x s).rules = s.rules := by
  rcases h : Mo.has x.text s.makers with _ | i
  · rw [note_no h]
  · rw [note_yes h, fail_rules]
theorem st_note (ws : List Ln.W) (s : Mo.S) : ∀ k, (Mo.st Mo.note ws s k).makers.length = s.makers.length + k ∧ (Mo.st Mo.note ws s k).rules = s.rules
  | 0 => ⟨rfl, rfl⟩
  | k + 1 => by
    obtain ⟨h1, h2⟩ := st_note ws s k
    rw [Mo.st, note_makers, note_rules]
    exact ⟨by dsimp only; omega, h2⟩
end Go.Proofs.YtgjehlegcmeeoaaGreatDoor

/- Package mani's own reader: the Outs of the rule that comes next. -/
namespace Go.Proofs.YtgjehlegcmeeoaaGreatDoor
set_option maxRecDepth 100000
open Go.ChangeShapes Go.WideShapes Go.ChangeAt Go.RowKit Go.Shelf

attribute [local go_sem] Oper.semAt_some

theorem outs_is {s s1 : Mo.S} {most N : Nat} (h1 : s1 = if s.rules.length = 64 then Mo.fail 11 s.first s else s) (hN : (Mo.run Mo.note most Mo.file s1.rest 0 s1).1 = N) :
    Mo.outs most s = (Mo.texts (s1.rest.take N), if N = 0 then Mo.wrong (Mo.run Mo.note most Mo.file s1.rest 0 s1).2 else (Mo.run Mo.note most Mo.file s1.rest 0 s1).2) := by
  subst hN
  unfold Mo.outs
  rw [← h1]
/-- What the loop over Outs keeps. -/
structure Keeps2 (w : World) (g mb rb lx b0 : Nat) (L : List (List Nat)) (W : World) : Prop where
  two : MTwo w W g mb
  box : Blk W rb 83 #[.pointer (some ⟨g, 0, none⟩)]
  txt : BoxT W lx b0 L
theorem Keeps2.row {w A B : World} {g mb rb lx b0 : Nat} {L : List (List Nat)} {row : Option Nat} (h : Keeps2 w g mb rb lx b0 L A) (hg : A.grownBy B row) (hr : ∀ r, row = some r → w.heap.size ≤ r ∧ ∃ o : Obj, A.heap[r]? = some o ∧ o.isCells = false) : Keeps2 w g mb rb lx b0 L B :=
  ⟨h.two.below ((Below.refl _ _).grown hg h.two.size (fun r e => (hr r e).1)) (Nat.le_refl _), h.box.kept hg fun r e => (hr r e).2, h.txt.kept hg fun r e => (hr r e).2⟩
theorem Keeps2.left {w A B : World} {g mb rb lx b0 : Nat} {L : List (List Nat)} (h : Keeps2 w g mb rb lx b0 L A) (hg : A.grownBy B (some g)) (h1 : g < rb) (h2 : g < lx) (h3 : g < b0) : Keeps2 w g mb rb lx b0 L B :=
  ⟨h.two.left hg, h.box.grown hg (by intro e; injection e with e; omega), h.txt.left hg h2 h3⟩
theorem Keeps2.under {w A B : World} {g mb rb lx b0 : Nat} {L : List (List Nat)} (h : Keeps2 w g mb rb lx b0 L A) (hb : Below A.heap.size A B) : Keeps2 w g mb rb lx b0 L B :=
  ⟨h.two.below hb h.two.size, h.box.under hb, h.txt.under hb⟩
theorem Keeps2.store {w A B : World} {g mb rb lx b0 : Nat} {L : List (List Nat)} (h : Keeps2 w g mb rb lx b0 L A) (hg : A.grownBy B (some mb)) (h1 : mb < rb) (h2 : mb < lx) (h3 : mb < b0) : Keeps2 w g mb rb lx b0 L B :=
  ⟨h.two.store hg, h.box.grown hg (by intro e; injection e with e; omega), h.txt.left hg h2 h3⟩
theorem Keeps2.heap {w A B : World} {g mb rb lx b0 : Nat} {L : List (List Nat)} (h : Keeps2 w g mb rb lx b0 L A) (e : B.heap = A.heap) (h1 : B.os = A.os) (h2 : B.tape = A.tape) (h3 : B.output = A.output) : Keeps2 w g mb rb lx b0 L B :=
  ⟨⟨h1.trans h.two.os, h2.trans h.two.tape, h3.trans h.two.output, by rw [e]; exact h.two.size, fun k hk a b => by rw [e]; exact h.two.block k hk a b⟩, by have := h.box; unfold Blk at *; rw [e]; exact this, h.txt.heap e⟩
/-- An append onto the row of texts leaves the boxes alone. -/
theorem boxes_append {W w' : World} {z g most F b0 k n c : Nat} {A : Option Addr} {v : Value} {L : List (List Nat)} {o : Obj} (h : MBoxes W z g most F) (ho : OwnT W b0 v L) (hW : Below W.heap.size W (W.alloc o)) (hg : (W.alloc o).grownBy w' v.ownBlock) (hk : k < z) :
    MBoxes (w'.setCell ⟨k, 0, none⟩ (.slice A n c)) z g most F := by
  have hne : ∀ (j : Nat) (t : TypeId) (cs : Array Value), Blk W j t cs → t ≠ 9 → some j ≠ v.ownBlock := fun j t cs hb ht e => by
    rcases ho.2 with ⟨rfl, _⟩ | ⟨gg, cap, cur, rfl, _, hg, _⟩
    · cases e
    · injection e with e
      subst e
      unfold Blk at hb
      rw [hg] at hb
      injection hb with hb
      injection hb with _ hb
      exact ht hb.symm
  exact ⟨((h.1.under hW).grown hg (hne _ _ _ h.1 (by decide))).setOther (by simp; omega) _, ((h.2.1.under hW).grown hg (hne _ _ _ h.2.1 (by decide))).setOther (by simp; omega) _, ((h.2.2.under hW).grown hg (hne _ _ _ h.2.2 (by decide))).setOther (by simp; omega) _⟩
theorem two_set {w A : World} {g m : Nat} (h : MTwo w A g m) {k : Nat} (hk : w.heap.size ≤ k) (u : Value) : MTwo w (A.setCell ⟨k, 0, none⟩ u) g m :=
  ⟨h.os, h.tape, h.output, by simpa using h.size, fun j hj h1 h2 => (Below.heap_setCell _ _ _ _ (by intro e; dsimp only at e; omega)).trans (h.block j hj h1 h2)⟩
set_option maxHeartbeats 16000000 in
theorem outs_own (base hi g lb mb most : Nat) (s : Mo.S) (w : World) (h : MRd w base hi g lb mb s) (hmost : most ≤ 1000) (hrules : s.rules.length ≤ 1000000) (hmk : s.makers.length ≤ 1000000) :
    Calls Tryz.prog 98 #[.pointer (some ⟨g, 0, none⟩), .int .i64 (most : Int)] w fun e w' => ∃ u, e = .returned u ∧ OwnT w' w.heap.size u (Mo.outs most s).1 ∧ MRd w' base hi g lb mb (Mo.outs most s).2 ∧ MTwo w w' g mb := by
  have HR := Lib.hid h
  have HTP := Lib.hid h.top
  have HRU := Lib.hid hrules
  have HMK := Lib.hid hmk
  have HBO : Hid (∀ (A : World) (o : Obj), Below A.heap.size A (A.alloc o)) := Lib.hid (fun A o => (Below.refl _ _).alloc (Nat.le_refl _) o)
  obtain ⟨cv, rv, sv, hin⟩ := h
  obtain ⟨f, hrow, hrlt, _⟩ := hin.rules
  obtain ⟨A, c, rfl, _⟩ : ∃ A c, rv = .slice A s.rules.length c ∧ s.rules.length ≤ c := by
    rcases hrow.2 with ⟨rfl, h0⟩ | ⟨gg, cap, cur, rfl, _, _, hn, _⟩
    · exact ⟨none, 0, by rw [h0], by omega⟩
    · exact ⟨_, _, rfl, hn⟩
  have k3 : ∀ o, (w.alloc o).cell? ⟨g, 3, none⟩ = some (.slice A s.rules.length c) := fun o => (hin.blk.alloc o).at 3
  have hfst := fun o => (hin.under (HBO.out w o)).fst
  have k5 := fun o => (hfst o).1
  have k6 := fun o => (hfst o).2.1
  have k7 := fun o => (hfst o).2.2.1
  have k8 := fun o => (hfst o).2.2.2
  obtain ⟨n, hn⟩ : ∃ n, s.rules.length = n := ⟨_, rfl⟩
  have HN := Lib.hid hn
  rw [hn] at k3 hrules
  have HB0 : Hid (Blk (w.alloc (.cells #[.pointer (some ⟨g, 0, none⟩)] 83)) w.heap.size 83 #[.pointer (some ⟨g, 0, none⟩)]) := Lib.hid (heap_alloc_new w _)
  have b0 : (w.alloc (.cells #[.pointer (some ⟨g, 0, none⟩)] 83)).cell? ⟨w.heap.size, 0, none⟩ = some (.pointer (some ⟨g, 0, none⟩)) := HB0.out.at 0
  clear hin hrow hrlt hfst hn hmk
  refine (callsIn_wide (n := 0)).1 (callsIn_of_wp_marks Tryz.func98 rfl trivial (wpIn_wide.2 ?_) rfl)
  simp only [Tryz.ntmps98, List.size_toArray, List.length_cons, List.length_nil, Nat.reduceAdd, Nat.reduceSub, Array.replicate_succ, Array.replicate_zero, List.push_toArray, List.append_toArray, List.nil_append, List.cons_append]
  by_cases h64 : n = 64
  · have ht : ((n : Int) == 64) = true := by simp; omega
    have HSE : Hid (Mo.fail 11 s.first s = if s.rules.length = 64 then Mo.fail 11 s.first s else s) := Lib.hid (by rw [if_pos (by rw [HN.out]; exact h64)])
    clear h64
    go_upto_region 2 with fail
    refine wp_region_tail 5 (by kernel_rfl) (by kernel_rfl) ?_
    simp only [List.take_succ_cons, List.take_zero, List.drop_succ_cons, List.drop_zero]
    repeat still_step
    refine wpStill_nil ?_
    go_wp2_with fail
    refine (mfail_any 11 s.first base hi g lb mb s (w.alloc (.cells #[.pointer (some ⟨g, 0, none⟩)] 83)).drew (((HR.out.under (HBO.out w _))).heap rfl)).mono ?_
    rintro e w1 ⟨rfl, hl1⟩
    have HR1 := Lib.hid hl1.1
    have HT1 : Hid (MTwo w w1 g mb) := Lib.hid (((MTwo.refl w g mb).below (A := w) (B := (w.alloc (.cells #[.pointer (some ⟨g, 0, none⟩)] 83)).drew) (HBO.out w (.cells #[.pointer (some ⟨g, 0, none⟩)] 83)).drew (Nat.le_refl _)).left hl1.2)
    have HBX1 : Hid (Blk w1 w.heap.size 83 #[.pointer (some ⟨g, 0, none⟩)]) := Lib.hid ((show Blk (w.alloc (.cells #[.pointer (some ⟨g, 0, none⟩)] 83)).drew w.heap.size 83 #[.pointer (some ⟨g, 0, none⟩)] from HB0.out).grown hl1.2 (by have := HTP.out; intro e; injection e with e; omega))
    have HRL1 : Hid ((Mo.fail 11 s.first s).rules.length = n ∧ (Mo.fail 11 s.first s).makers.length ≤ 1000000) := Lib.hid ⟨by rw [fail_rules]; exact HN.out, by rw [fail_makers]; exact HMK.out⟩
    have b1 : w1.cell? ⟨w.heap.size, 0, none⟩ = some (.pointer (some ⟨g, 0, none⟩)) := HBX1.out.at 0
    have b1o : ∀ o, (w1.alloc o).cell? ⟨w.heap.size, 0, none⟩ = some (.pointer (some ⟨g, 0, none⟩)) := fun o => (HBX1.out.alloc o).at 0
    clear hl1 k3 k5 k6 k7 k8 b0
    have HTP1 := Lib.hid HR1.out.top
    have HMX : Hid (Mo.run Mo.note most Mo.file (Mo.fail 11 s.first s).rest 0 (Mo.fail 11 s.first s) = Mo.run Mo.note most Mo.file (Mo.fail 11 s.first s).rest 0 (Mo.fail 11 s.first s)) := Lib.hid rfl
    have hNm := Mo.run_le Mo.note most Mo.file (Mo.fail 11 s.first s).rest 0 (Mo.fail 11 s.first s) (by omega)
    have hNl := Mo.run_len Mo.note most Mo.file (Mo.fail 11 s.first s).rest 0 (Mo.fail 11 s.first s)
    have HNM := Lib.hid hNm
    have HTX := Lib.hid (txts_take (ws := (Mo.fail 11 s.first s).rest) (N := (Mo.run Mo.note most Mo.file (Mo.fail 11 s.first s).rest 0 (Mo.fail 11 s.first s)).1) (by omega))
    have HWG := Lib.hid (show w.heap.size < w1.heap.size from HBX1.out.size)
    have Hw1.heap.size : Hid (Blk (w1.alloc (.cells #[.slice none 0 0] 27)) w1.heap.size 27 #[.slice none 0 0]) := Lib.hid (heap_alloc_new w1 _)
    clear hNm hNl
    go_wp2_with fail
    refine (mnames_any g most 118 _).mono ?_
    rintro e w3 ⟨rfl, hbx3, hb3, hz3⟩
    rw [World.size_alloc] at hbx3 hz3 ⊢
    have HB3 := Lib.hid ((HBO.out w1 (.cells #[.slice none 0 0] 27)).trans (hb3.mono (by simp)))
    have HR3 := Lib.hid (HR1.out.under HB3.out)
    have HKP3 : Hid (Keeps2 w g mb w.heap.size w1.heap.size (w1.heap.size + 1) [] w3) := Lib.hid ⟨HT1.out.below HB3.out HT1.out.size, HBX1.out.under HB3.out, ⟨_, Hw1.heap.size.out.under hb3, ownT_none _ _⟩⟩
    have HBX3 := Lib.hid hbx3
    have HZ3 := Lib.hid hz3
    clear hbx3 hb3 hz3
    go_wp2_with fail
    refine wp_rangeG (gf := 115) (lb := #[.pointer (some ⟨w1.heap.size + 1, 0, none⟩), .pointer (some ⟨w1.heap.size + 1 + 2, 0, none⟩), .pointer (some ⟨w1.heap.size + 1 + 1, 0, none⟩)]) rfl
      (enters_of Tryz.func115 (by kernel_rfl) rfl) (names_iter Mo.note note_step base hi g lb mb (w1.heap.size + 1) most 118 Mo.file may_file (Mo.fail 11 s.first s) hmost (by have := HTP1.out; omega)) (fun _ => rfl)
      (fun k W => Gone Mo.note base hi g lb mb (w1.heap.size + 1) most 118 (Mo.fail 11 s.first s) k W ∧ Keeps2 w g mb w.heap.size w1.heap.size (w1.heap.size + 1) (txts (fun k => (Mo.fail 11 s.first s).rest.getD k Mo.word0) k) W)
      (fun k W => (MRd W base hi g lb mb { Mo.st Mo.note (Mo.fail 11 s.first s).rest (Mo.fail 11 s.first s) k with rest := (Mo.fail 11 s.first s).rest.drop (k + 1) } ∧ MBoxes W (w1.heap.size + 1) g most 118 ∧ w1.heap.size + 1 + 3 ≤ W.heap.size) ∧ Keeps2 w g mb w.heap.size w1.heap.size (w1.heap.size + 1) (txts (fun k => (Mo.fail 11 s.first s).rest.getD k Mo.word0) k) W)
      (fun W => MRd W base hi g lb mb (Mo.run Mo.note most Mo.file (Mo.fail 11 s.first s).rest 0 (Mo.fail 11 s.first s)).2 ∧ Keeps2 w g mb w.heap.size w1.heap.size (w1.heap.size + 1) (txts (fun k => (Mo.fail 11 s.first s).rest.getD k Mo.word0) (Mo.run Mo.note most Mo.file (Mo.fail 11 s.first s).rest 0 (Mo.fail 11 s.first s)).1) W ∧ w3.heap.size ≤ W.heap.size)
      ?hI ?hE (fun k W h => h.1)
      (fun k A B hk h ht => ⟨⟨⟨ht.1, h.1.2.1.grown ht.2 (by have := HTP1.out; omega), Nat.le_trans h.1.2.2 ht.2.size⟩, h.2.left ht.2 (by have := HTP.out; omega) (by have := HTP.out; have := HWG.out; omega) (by have := HTP.out; have := HWG.out; omega)⟩, (left_spares (B0 := w3.heap.size) ht (by have := HZ3.out; have := HTP1.out; omega)).from⟩)
      (fun A B h ht => ⟨⟨ht.1, h.2.left ht.2 (by have := HTP.out; omega) (by have := HTP.out; have := HWG.out; omega) (by have := HTP.out; have := HWG.out; omega), Nat.le_trans (by have := h.1.2.2; have := HZ3.out; omega) ht.2.size⟩, (left_spares (B0 := w3.heap.size) ht (by have := HZ3.out; have := HTP1.out; omega)).from⟩)
      ⟨⟨HR3.out, HBX3.out, by have := HZ3.out; omega⟩, HKP3.out⟩
      (fun q W => ∃ p, q.2 = { tmps := #[.pointer (some ⟨g, 0, none⟩), .int .i64 (most : Int), .pointer (some ⟨w.heap.size, 0, none⟩), undef, .slice none 0 0, .pointer (some ⟨w1.heap.size, 0, none⟩), .pointer (some ⟨p, 0, none⟩), undef, undef, .pointer (some ⟨g, 0, none⟩), .pointer (some ⟨g, 0, none⟩), .pointer (some ⟨g, 3, none⟩), .pointer (some ⟨g, 3, none⟩), .slice A n c, .int .i64 (n : Int), .bool true, .pointer (some ⟨g, 0, none⟩), .pointer (some ⟨g, 0, none⟩), .pointer (some ⟨g, 0, none⟩), .pointer (some ⟨g, 5, none⟩), .agg #[.string (str s.first.text), .int .i64 s.first.line, .int .i64 s.first.col, .bool s.first.q], .tuple #[], .pointer (some ⟨g, 0, none⟩), .int .i64 (most : Int), .func (.func 115) #[] #[.pointer (some ⟨w1.heap.size + 1, 0, none⟩), .pointer (some ⟨w1.heap.size + 1 + 2, 0, none⟩), .pointer (some ⟨w1.heap.size + 1 + 1, 0, none⟩)], .agg (cellsW ((Mo.fail 11 s.first s).rest.getD q.1 Mo.word0)).toArray, undef, undef, undef, undef, undef, undef, undef, undef, undef, undef, undef, undef, undef, undef, undef, undef, undef, undef, undef, undef, undef, undef, undef, undef, undef, undef, undef, undef, undef, undef, undef, undef, undef, undef, undef, undef, undef], defers := [] } ∧ Blk W p 55 (cellsW ((Mo.fail 11 s.first s).rest.getD q.1 Mo.word0)).toArray ∧ w3.heap.size ≤ p ∧
        (MRd W base hi g lb mb { Mo.st Mo.note (Mo.fail 11 s.first s).rest (Mo.fail 11 s.first s) q.1 with rest := (Mo.fail 11 s.first s).rest.drop (q.1 + 1) } ∧ MBoxes W (w1.heap.size + 1) g most 118 ∧ w1.heap.size + 1 + 3 ≤ W.heap.size) ∧ Keeps2 w g mb w.heap.size w1.heap.size (w1.heap.size + 1) (txts (fun k => (Mo.fail 11 s.first s).rest.getD k Mo.word0) q.1) W) ?hM ?assign ?body ?done
    case hI =>
      intro k A B row h hg hr
      have hb : Below w3.heap.size A B := (Below.refl _ _).grown hg (by have := h.1.2.2; have := HZ3.out; omega) (fun r e => (hr r e).1)
      exact ⟨gone_below h.1 hb (by have := HTP1.out; have := HZ3.out; omega) (by have := HZ3.out; omega), h.2.row hg fun r e => ⟨by have := (hr r e).1; have := HZ3.out; have := HWG.out; omega, (hr r e).2⟩⟩
    case hM =>
      rintro ⟨k, a'⟩ A B row ⟨p, h1, h2, h3, h4, h5⟩ hg hr
      have hb : Below w3.heap.size A B := (Below.refl _ _).grown hg (by have := h4.2.2; have := HZ3.out; omega) (fun r e => (hr r e).1)
      exact ⟨p, h1, h2.kept hg fun r e => (hr r e).2, h3, ⟨h4.1.same (fun j hj => hb.block j (by have := HTP1.out; have := HZ3.out; omega)) hb.size, ⟨h4.2.1.1.below hb (by have := HZ3.out; omega), h4.2.1.2.1.below hb (by have := HZ3.out; omega), h4.2.1.2.2.below hb (by have := HZ3.out; omega)⟩, Nat.le_trans h4.2.2 hb.size⟩, h5.row hg fun r e => ⟨by have := (hr r e).1; have := HZ3.out; have := HWG.out; omega, (hr r e).2⟩⟩
    case hE =>
      intro _ A B row h hg hr
      have hb : Below w3.heap.size A B := (Below.refl _ _).grown hg h.2.2 (fun r e => (hr r e).1)
      exact ⟨h.1.same (fun j hj => hb.block j (by have := HTP1.out; have := HZ3.out; omega)) hb.size, h.2.1.row hg fun r e => ⟨by have := (hr r e).1; have := HZ3.out; have := HWG.out; omega, (hr r e).2⟩, Nat.le_trans h.2.2 hg.size⟩
    case assign =>
      intro l' k W K hk h hzW hK
      have ho : ∀ o, Below W.heap.size W (W.alloc o) := fun o => (Below.refl _ _).alloc (Nat.le_refl _) o
      have HKK := Lib.hid (hK { tmps := #[.pointer (some ⟨g, 0, none⟩), .int .i64 (most : Int), .pointer (some ⟨w.heap.size, 0, none⟩), undef, .slice none 0 0, .pointer (some ⟨w1.heap.size, 0, none⟩), .pointer (some ⟨W.heap.size, 0, none⟩), undef, undef, .pointer (some ⟨g, 0, none⟩), .pointer (some ⟨g, 0, none⟩), .pointer (some ⟨g, 3, none⟩), .pointer (some ⟨g, 3, none⟩), .slice A n c, .int .i64 (n : Int), .bool true, .pointer (some ⟨g, 0, none⟩), .pointer (some ⟨g, 0, none⟩), .pointer (some ⟨g, 0, none⟩), .pointer (some ⟨g, 5, none⟩), .agg #[.string (str s.first.text), .int .i64 s.first.line, .int .i64 s.first.col, .bool s.first.q], .tuple #[], .pointer (some ⟨g, 0, none⟩), .int .i64 (most : Int), .func (.func 115) #[] #[.pointer (some ⟨w1.heap.size + 1, 0, none⟩), .pointer (some ⟨w1.heap.size + 1 + 2, 0, none⟩), .pointer (some ⟨w1.heap.size + 1 + 1, 0, none⟩)], .agg (cellsW ((Mo.fail 11 s.first s).rest.getD k Mo.word0)).toArray, undef, undef, undef, undef, undef, undef, undef, undef, undef, undef, undef, undef, undef, undef, undef, undef, undef, undef, undef, undef, undef, undef, undef, undef, undef, undef, undef, undef, undef, undef, undef, undef, undef, undef, undef, undef, undef], defers := [] }
        (W.alloc (.cells (cellsW ((Mo.fail 11 s.first s).rest.getD k Mo.word0)).toArray 55)) ((KeepsOthers.alloc W _).from _)
        ⟨W.heap.size, rfl, heap_alloc_new W _, hzW, ⟨h.1.1.under (ho _), ⟨h.1.2.1.1.under (ho _), h.1.2.1.2.1.under (ho _), h.1.2.1.2.2.under (ho _)⟩, Nat.le_trans h.1.2.2 (ho _).size⟩, h.2.under (ho _)⟩)
      obtain ⟨x, hx⟩ : ∃ x, (Mo.fail 11 s.first s).rest.getD k Mo.word0 = x := ⟨_, rfl⟩
      rw [hx] at HKK
      clear hK h ho
      dsimp only [wordEnc]
      rw [hx]
      obtain ⟨xt, xl, xc, xq⟩ := x
      rw [show (cellsW ⟨xt, xl, xc, xq⟩).toArray = #[.string (str xt), .int .i64 xl, .int .i64 xc, .bool xq] from rfl] at HKK ⊢
      gi_wp2
      exact HKK.out
    case body =>
      rintro l' k a' W hk ⟨p, ha, hp, hpz, ⟨h4, h5, h6⟩, h7⟩ hzW
      dsimp only at ha hp h4 h7
      subst ha
      obtain ⟨x, hx⟩ : ∃ x, (Mo.fail 11 s.first s).rest.getD k Mo.word0 = x := ⟨_, rfl⟩
      rw [hx] at hp ⊢
      have HXE := Lib.hid hx
      have HGX : Hid (GoodW x) := Lib.hid (by
        have hkl : k < (Mo.fail 11 s.first s).rest.length := by have := Mo.run_len Mo.note most Mo.file (Mo.fail 11 s.first s).rest 0 (Mo.fail 11 s.first s); omega
        rw [← hx, List.getD_eq_getElem?_getD, List.getElem?_eq_getElem hkl]
        exact HR1.out.good.rest _ (List.getElem_mem hkl))
      have HSTN := Lib.hid (st_note (Mo.fail 11 s.first s).rest (Mo.fail 11 s.first s) k)
      obtain ⟨sk, hsk⟩ : ∃ sk, sk = { Mo.st Mo.note (Mo.fail 11 s.first s).rest (Mo.fail 11 s.first s) k with rest := (Mo.fail 11 s.first s).rest.drop (k + 1) } := ⟨_, rfl⟩
      have HSK : Hid (Mo.note x sk = Mo.st Mo.note (Mo.fail 11 s.first s).rest (Mo.fail 11 s.first s) (k + 1)) := Lib.hid (by rw [hsk, ← hx]; rfl)
      have HSKL : Hid (sk.rules.length = n ∧ sk.makers.length ≤ 1001000) := Lib.hid (by
        have h1 := HSTN.out
        have h2 := HRL1.out
        have hkm : k < most := by have := HNM.out; omega
        rw [hsk]
        dsimp only
        rw [h1.2, h1.1]
        exact ⟨h2.1, by have := h2.2; omega⟩)
      rw [← hsk] at h4
      have HR4 := Lib.hid h4
      have HB4x := Lib.hid (show MBoxes W (w1.heap.size + 1) g most 118 ∧ w1.heap.size + 1 + 3 ≤ W.heap.size from ⟨h5, h6⟩)
      have HK4 := Lib.hid h7
      have HP4 := Lib.hid hp
      have hp0 : W.cell? ⟨p, 0, none⟩ = some (.string (str x.text)) := hp.at 0
      have hp1 : W.cell? ⟨p, 1, none⟩ = some (.int .i64 (x.line : Int)) := hp.at 1
      have hp2 : W.cell? ⟨p, 2, none⟩ = some (.int .i64 (x.col : Int)) := hp.at 2
      have hp3 : W.cell? ⟨p, 3, none⟩ = some (.bool x.q) := hp.at 3
      have hbx : W.cell? ⟨w.heap.size, 0, none⟩ = some (.pointer (some ⟨g, 0, none⟩)) := h7.box.at 0
      obtain ⟨cv4, rv4, sv4, hin4⟩ := h4
      have hg1 : W.cell? ⟨g, 1, none⟩ = some (.map (some mb)) := hin4.blk.at 1
      have hlk : ∀ nq, (Instr.lookup 52 (.map (some mb)) (.string (str x.text)) true).run Tryz.prog (W.drewN nq) = .ok (.tuple #[((Mo.has x.text sk.makers).map fun (i : Nat) => Value.int .i64 (i : Int)).getD (.int .i64 0), .bool ((Mo.has x.text sk.makers).map fun (i : Nat) => Value.int .i64 (i : Int)).isSome]) (W.drewN nq) := fun nq =>
        MapIs.run_look (w := W.drewN nq) (MapIs.same hin4.makers rfl) Tryz.underlying52 (by kernel_rfl) HGX.out.bytes (by have := HGX.out.len; omega)
      clear hin4 hx hp h5 h6 h7 hsk
      rcases hhas : Mo.has x.text sk.makers with _ | i
      · rw [hhas] at hlk
        simp only [Option.map_none, Option.getD_none, Option.isSome_none] at hlk
        have HNE := Lib.hid (note_no hhas)
        clear hhas
        gi_wp2
        refine wpIn_region_quiet (by kernel_rfl) (by kernel_rfl) (by kernel_rfl) (by rintro ⟨_, _, h⟩; exact h) ?_
        repeat (go_big_quiet_step (fail))
        refine wpQuiet_nil ?_
        rintro _ ⟨nq, rfl⟩
        have HRQ := Lib.hid (HR4.out.heap (w' := W.drewN nq) rfl)
        have HKQ := Lib.hid (HK4.out.heap (B := W.drewN nq) rfl rfl rfl rfl)
        have HBQ : Hid (MBoxes (W.drewN nq) (w1.heap.size + 1) g most 118 ∧ w1.heap.size + 1 + 3 ≤ (W.drewN nq).heap.size) := HB4x
        have HPQ : Hid (Blk (W.drewN nq) p 55 (cellsW x).toArray) := HP4
        have HKFQ : Hid (KeepsFrom w3.heap.size W (W.drewN nq)) := Lib.hid ⟨Nat.le_refl _, fun _ _ _ ho _ => ho⟩
        clear hp0 hp1 hp2 hp3 hbx hg1 hlk
        have h3r : Hid (sk.rules.length = n ∧ sk.makers.length ≤ 1001000) := Lib.hid HSKL.out
        obtain ⟨cv9, rv9, sv9, hin9⟩ := HRQ.out
        obtain ⟨A9, c9, rfl⟩ : ∃ A c, rv9 = .slice A n c := by
          obtain ⟨f9, hrow9, _, _⟩ := hin9.rules
          rw [h3r.out.1] at hrow9
          rcases hrow9.2 with ⟨rfl, h0⟩ | ⟨gg, cap, cur, rfl, _, _, hn, _⟩
          · exact ⟨none, 0, by rw [h0]⟩
          · exact ⟨_, _, rfl⟩
        have q1 : (W.drewN nq).cell? ⟨g, 1, none⟩ = some (.map (some mb)) := hin9.blk.at 1
        have q3 : (W.drewN nq).cell? ⟨g, 3, none⟩ = some (.slice A9 n c9) := hin9.blk.at 3
        have q0 : (W.drewN nq).cell? ⟨w.heap.size, 0, none⟩ = some (.pointer (some ⟨g, 0, none⟩)) := HKQ.out.box.at 0
        have qp : (W.drewN nq).cell? ⟨p, 0, none⟩ = some (.string (str x.text)) := HPQ.out.at 0
        have r1 : W.cell? ⟨g, 1, none⟩ = some (.map (some mb)) := q1
        have r3 : W.cell? ⟨g, 3, none⟩ = some (.slice A9 n c9) := q3
        have r0 : W.cell? ⟨w.heap.size, 0, none⟩ = some (.pointer (some ⟨g, 0, none⟩)) := q0
        have rp : W.cell? ⟨p, 0, none⟩ = some (.string (str x.text)) := qp
        obtain ⟨w6, hst, hm6, hg6, hs6, hz6⟩ := MapIs.run_store (w := ((W.drewN nq)).drew) (MapIs.same hin9.makers rfl) Tryz.underlying52 (by have := h3r.out.2; omega) HGX.out.bytes (by have := HGX.out.len; omega) (.int .i64 (n : Int))
        have hst2 : (Instr.mapUpdate 52 (.map (some mb)) (.string (str x.text)) (.int .i64 (n : Int))).run Tryz.prog (W.drewN (nq + 1)) = .ok () w6 := hst
        have HR6 : Hid (MRd w6 base hi g lb mb { sk with makers := sk.makers ++ [(x.text, sk.rules.length)] }) := Lib.hid (by rw [h3r.out.1]; exact ⟨_, _, _, hin9.putMaker hm6 hs6 hz6⟩)
        rw [show ({ sk with makers := sk.makers ++ [(x.text, sk.rules.length)] } : Mo.S) = Mo.st Mo.note (Mo.fail 11 s.first s).rest (Mo.fail 11 s.first s) (k + 1) from (by rw [← HSK.out, HNE.out])] at HR6
        have HK6 := Lib.hid (((HKQ.out.heap (B := ((W.drewN nq)).drew) rfl rfl rfl rfl).store hg6 (by have := HTP.out; omega) (by have := HTP.out; have := HWG.out; omega) (by have := HTP.out; have := HWG.out; omega)))
        have HB6 : Hid (MBoxes w6 (w1.heap.size + 1) g most 118 ∧ w1.heap.size + 1 + 3 ≤ w6.heap.size) := Lib.hid ⟨⟨(hs6 _ (by have := HTP1.out; omega)).trans HBQ.out.1.1, (hs6 _ (by have := HTP1.out; omega)).trans HBQ.out.1.2.1, (hs6 _ (by have := HTP1.out; omega)).trans HBQ.out.1.2.2⟩, by rw [hz6]; exact HBQ.out.2⟩
        have qp6 : w6.cell? ⟨p, 0, none⟩ = some (.string (str x.text)) := Blk.at (show Blk w6 p 55 (cellsW x).toArray from (hs6 _ (by have := HTP1.out; have := HZ3.out; omega)).trans HPQ.out) 0
        have hpz6 : p < w6.heap.size := by rw [hz6]; exact HPQ.out.size
        have HKF6 : Hid (KeepsFrom w3.heap.size W w6) := Lib.hid ⟨by rw [hz6]; exact HKFQ.out.size, fun j o hj ho hc => (hs6 j (by have := HTP1.out; have := HZ3.out; omega)).trans (HKFQ.out.same j o hj ho hc)⟩
        clear hin9 hm6 hg6 hs6 hz6
        gi_wp2
        refine wpIn_region_still_tail 12 (by kernel_rfl) (by kernel_rfl) (by kernel_rfl) (by rintro ⟨_, _, h⟩; exact h) ?_
        simp only [List.take_succ_cons, List.take_zero, List.drop_succ_cons, List.drop_zero]
        repeat still_step
        refine wpStill_nil ?_
        go_wp2_with fail
        obtain ⟨hv6, hb6, ho6⟩ := HK6.out.txt
        have ql6 : w6.cell? ⟨w1.heap.size, 0, none⟩ = some hv6 := hb6.at 0
        have HBL6 := Lib.hid hb6
        have HO6 := Lib.hid ho6
        have hW6 : Below w6.heap.size w6 (w6.alloc (.cells #[.string (str x.text)] 9)) := (Below.refl _ _).alloc (Nat.le_refl _) _
        have HW6 := Lib.hid hW6
        have HR : Hid (txts (fun k => (Mo.fail 11 s.first s).rest.getD k Mo.word0) k ++ [x.text] = txts (fun k => (Mo.fail 11 s.first s).rest.getD k Mo.word0) (k + 1)) := Lib.hid (by rw [← HXE.out]; exact txts_succ (fun k => (Mo.fail 11 s.first s).rest.getD k Mo.word0) k)
        have HL : Hid ((txts (fun k => (Mo.fail 11 s.first s).rest.getD k Mo.word0) k).length = k) := Lib.hid (txts_length _ k)
        obtain ⟨Lk, hLk⟩ : ∃ L, txts (fun k => (Mo.fail 11 s.first s).rest.getD k Mo.word0) k = L := ⟨_, rfl⟩
        rw [hLk] at HR HL HO6
        have hlx6 : w1.heap.size + 1 ≤ w6.heap.size := by have := HB6.out.2; omega
        have HKN := Lib.hid (show k ≤ 1000 by have := HNM.out; omega)
        clear hb6 ho6 hW6 hLk hst hst2 q0 q1 q3 qp r0 r1 r3 rp
        gi_wp2_with (gi_at_builtin; refine wpListIn_append_text rfl _ _ rfl (w1.heap.size + 1) w6.heap.size hv6 Lk x.text rfl ?_ rfl ?_ ?_ ?_ (txts (fun k => (Mo.fail 11 s.first s).rest.getD k Mo.word0) (k + 1)) HR.out ?_)
        case refine_1 => exact HO6.out.under HW6.out
        case refine_2 => exact (show Blk _ w6.heap.size 9 #[.string (str x.text)] from heap_alloc_new w6 _).at 0
        case refine_3 => rw [HL.out]; have := HKN.out; omega
        case refine_4 => simp; omega
        case refine_5 =>
          intro v' w' ho hg hb
          have hbw : Below (w1.heap.size + 1) w6 w' := (HW6.out.mono hlx6).trans hb
          have hb4 := HBL6.out.below hbw (by omega)
          have hc4 : w'.cell? ⟨w1.heap.size, 0, none⟩ = some hv6 := hb4.at 0
          have hf4 : w'.frozen? ⟨w1.heap.size, 0, none⟩ = false := hb4.free 0
          obtain ⟨A', n', c', rfl⟩ : ∃ A n c, v' = .slice A n c := by
            rcases ho.2 with ⟨rfl, _⟩ | ⟨g, cap, cur, rfl, _⟩
            · exact ⟨_, _, _, rfl⟩
            · exact ⟨_, _, _, rfl⟩
          have hkf : KeepsFrom w3.heap.size w6 w' := ((KeepsOthers.alloc w6 _).trans (KeepsOthers.of_grownBy hg (own_cells (World.ownsRow.alloc HO6.out _)))).from _
          have HO := Lib.hid ho
          have HB4 := Lib.hid hb4
          have HKF := Lib.hid (HKF6.out.trans hkf)
          have HBW := Lib.hid hbw
          have HGW := Lib.hid hg
          clear ho hb4 hkf hbw hg hb ql6
          gi_wp2
          refine ⟨HKF.out.trans ((KeepsOthers.setCell _ _ _).from _), ⟨?_, ?_, ?_⟩, ⟨?_, ?_, ⟨_, HB4.out.set 0 _, ?_⟩⟩⟩
          · exact HR6.out.same (fun j hj => (Below.heap_setCell _ _ _ _ (by intro e; dsimp only at e; have := HTP1.out; omega)).trans (HBW.out.block j (by have := HTP1.out; omega))) (by have := HBW.out.size; simpa using this)
          · exact boxes_append HB6.out.1 HO6.out (HW6.out) HGW.out (by omega)
          · have := HBW.out.size
            have := HB6.out.2
            simp
            omega
          · exact two_set (HK6.out.two.below HBW.out (by have := HWG.out; omega)) (by have := HWG.out; omega) _
          · exact (HK6.out.box.below HBW.out (by have := HWG.out; omega)).setOther (by have := HWG.out; simp; omega) _
          · refine World.ownsRow.kept HO.out (grown_setCell _ ⟨w1.heap.size, 0, none⟩ _) ?_
            rcases hvo : (Value.slice A' n' c').ownBlock with _ | j
            · exact .inl rfl
            · refine .inr fun e => ?_
              injection e with e
              dsimp only at e
              have := (HO.out.lt _ hvo).1
              omega
      · rw [hhas] at hlk
        simp only [Option.map_some, Option.getD_some, Option.isSome_some] at hlk
        have HNE := Lib.hid (note_yes hhas)
        clear hhas
        gi_wp2
        refine wpIn_region_quiet (by kernel_rfl) (by kernel_rfl) (by kernel_rfl) (by rintro ⟨_, _, h⟩; exact h) ?_
        repeat (go_big_quiet_step (fail))
        refine wpQuiet_nil ?_
        rintro _ ⟨nq, rfl⟩
        have HRQ := Lib.hid (HR4.out.heap (w' := W.drewN nq) rfl)
        clear hg1 hlk
        gi_wp2_with fail
        refine ⟨trivial, rfl, (CallsIn.inRound l' (callsIn_wide.2 (mfail_any 8 x base hi g lb mb sk _ HRQ.out))).mono ?_⟩
        rintro e w5 ⟨rfl, hl5⟩
        have HR5 := Lib.hid hl5.1
        have HK5 := Lib.hid ((HK4.out.heap (B := W.drewN nq) rfl rfl rfl rfl).left hl5.2 (by have := HTP.out; omega) (by have := HTP.out; have := HWG.out; omega) (by have := HTP.out; have := HWG.out; omega))
        have HB5 : Hid (MBoxes w5 (w1.heap.size + 1) g most 118 ∧ w1.heap.size + 1 + 3 ≤ w5.heap.size) := Lib.hid ⟨(show MBoxes (W.drewN nq) (w1.heap.size + 1) g most 118 from HB4x.out.1).grown hl5.2 (by have := HTP1.out; omega), Nat.le_trans HB4x.out.2 hl5.2.size⟩
        have HP5 : Hid (Blk w5 p 55 (cellsW x).toArray) := Lib.hid ((show Blk (W.drewN nq) p 55 (cellsW x).toArray from HP4.out).grown hl5.2 (by intro e; injection e with e; have := HTP1.out; have := HZ3.out; omega))
        have HKF5 : Hid (KeepsFrom w3.heap.size W w5) := Lib.hid (let h := (left_spares (B0 := w3.heap.size) hl5 (by have := HZ3.out; have := HTP1.out; omega)).from; ⟨h.size, h.same⟩)
        clear hp0 hp1 hp2 hp3 hbx hl5
        have h3r : Hid ((Mo.fail 8 x sk).rules.length = n ∧ (Mo.fail 8 x sk).makers.length ≤ 1001000) := Lib.hid (by rw [fail_rules, fail_makers]; exact HSKL.out)
        obtain ⟨cv9, rv9, sv9, hin9⟩ := HR5.out
        obtain ⟨A9, c9, rfl⟩ : ∃ A c, rv9 = .slice A n c := by
          obtain ⟨f9, hrow9, _, _⟩ := hin9.rules
          rw [h3r.out.1] at hrow9
          rcases hrow9.2 with ⟨rfl, h0⟩ | ⟨gg, cap, cur, rfl, _, _, hn, _⟩
          · exact ⟨none, 0, by rw [h0]⟩
          · exact ⟨_, _, rfl⟩
        have q1 : w5.cell? ⟨g, 1, none⟩ = some (.map (some mb)) := hin9.blk.at 1
        have q3 : w5.cell? ⟨g, 3, none⟩ = some (.slice A9 n c9) := hin9.blk.at 3
        have q0 : w5.cell? ⟨w.heap.size, 0, none⟩ = some (.pointer (some ⟨g, 0, none⟩)) := HK5.out.box.at 0
        have qp : w5.cell? ⟨p, 0, none⟩ = some (.string (str x.text)) := HP5.out.at 0
        obtain ⟨w6, hst, hm6, hg6, hs6, hz6⟩ := MapIs.run_store (w := (w5).drew) (MapIs.same hin9.makers rfl) Tryz.underlying52 (by have := h3r.out.2; omega) HGX.out.bytes (by have := HGX.out.len; omega) (.int .i64 (n : Int))
        have HR6 : Hid (MRd w6 base hi g lb mb { (Mo.fail 8 x sk) with makers := (Mo.fail 8 x sk).makers ++ [(x.text, (Mo.fail 8 x sk).rules.length)] }) := Lib.hid (by rw [h3r.out.1]; exact ⟨_, _, _, hin9.putMaker hm6 hs6 hz6⟩)
        rw [show ({ (Mo.fail 8 x sk) with makers := (Mo.fail 8 x sk).makers ++ [(x.text, (Mo.fail 8 x sk).rules.length)] } : Mo.S) = Mo.st Mo.note (Mo.fail 11 s.first s).rest (Mo.fail 11 s.first s) (k + 1) from (by rw [← HSK.out, HNE.out])] at HR6
        have HK6 := Lib.hid (((HK5.out.heap (B := (w5).drew) rfl rfl rfl rfl).store hg6 (by have := HTP.out; omega) (by have := HTP.out; have := HWG.out; omega) (by have := HTP.out; have := HWG.out; omega)))
        have HB6 : Hid (MBoxes w6 (w1.heap.size + 1) g most 118 ∧ w1.heap.size + 1 + 3 ≤ w6.heap.size) := Lib.hid ⟨⟨(hs6 _ (by have := HTP1.out; omega)).trans HB5.out.1.1, (hs6 _ (by have := HTP1.out; omega)).trans HB5.out.1.2.1, (hs6 _ (by have := HTP1.out; omega)).trans HB5.out.1.2.2⟩, by rw [hz6]; exact HB5.out.2⟩
        have qp6 : w6.cell? ⟨p, 0, none⟩ = some (.string (str x.text)) := Blk.at (show Blk w6 p 55 (cellsW x).toArray from (hs6 _ (by have := HTP1.out; have := HZ3.out; omega)).trans HP5.out) 0
        have hpz6 : p < w6.heap.size := by rw [hz6]; exact HP5.out.size
        have HKF6 : Hid (KeepsFrom w3.heap.size W w6) := Lib.hid ⟨by rw [hz6]; exact HKF5.out.size, fun j o hj ho hc => (hs6 j (by have := HTP1.out; have := HZ3.out; omega)).trans (HKF5.out.same j o hj ho hc)⟩
        clear hin9 hm6 hg6 hs6 hz6
        gi_wp2
        refine wpIn_region_still_tail 12 (by kernel_rfl) (by kernel_rfl) (by kernel_rfl) (by rintro ⟨_, _, h⟩; exact h) ?_
        simp only [List.take_succ_cons, List.take_zero, List.drop_succ_cons, List.drop_zero]
        repeat still_step
        refine wpStill_nil ?_
        go_wp2_with fail
        obtain ⟨hv6, hb6, ho6⟩ := HK6.out.txt
        have ql6 : w6.cell? ⟨w1.heap.size, 0, none⟩ = some hv6 := hb6.at 0
        have HBL6 := Lib.hid hb6
        have HO6 := Lib.hid ho6
        have hW6 : Below w6.heap.size w6 (w6.alloc (.cells #[.string (str x.text)] 9)) := (Below.refl _ _).alloc (Nat.le_refl _) _
        have HW6 := Lib.hid hW6
        have HR : Hid (txts (fun k => (Mo.fail 11 s.first s).rest.getD k Mo.word0) k ++ [x.text] = txts (fun k => (Mo.fail 11 s.first s).rest.getD k Mo.word0) (k + 1)) := Lib.hid (by rw [← HXE.out]; exact txts_succ (fun k => (Mo.fail 11 s.first s).rest.getD k Mo.word0) k)
        have HL : Hid ((txts (fun k => (Mo.fail 11 s.first s).rest.getD k Mo.word0) k).length = k) := Lib.hid (txts_length _ k)
        obtain ⟨Lk, hLk⟩ : ∃ L, txts (fun k => (Mo.fail 11 s.first s).rest.getD k Mo.word0) k = L := ⟨_, rfl⟩
        rw [hLk] at HR HL HO6
        have hlx6 : w1.heap.size + 1 ≤ w6.heap.size := by have := HB6.out.2; omega
        have HKN := Lib.hid (show k ≤ 1000 by have := HNM.out; omega)
        clear hb6 ho6 hW6 hLk hst q0 q1 q3 qp
        gi_wp2_with (gi_at_builtin; refine wpListIn_append_text rfl _ _ rfl (w1.heap.size + 1) w6.heap.size hv6 Lk x.text rfl ?_ rfl ?_ ?_ ?_ (txts (fun k => (Mo.fail 11 s.first s).rest.getD k Mo.word0) (k + 1)) HR.out ?_)
        case refine_1 => exact HO6.out.under HW6.out
        case refine_2 => exact (show Blk _ w6.heap.size 9 #[.string (str x.text)] from heap_alloc_new w6 _).at 0
        case refine_3 => rw [HL.out]; have := HKN.out; omega
        case refine_4 => simp; omega
        case refine_5 =>
          intro v' w' ho hg hb
          have hbw : Below (w1.heap.size + 1) w6 w' := (HW6.out.mono hlx6).trans hb
          have hb4 := HBL6.out.below hbw (by omega)
          have hc4 : w'.cell? ⟨w1.heap.size, 0, none⟩ = some hv6 := hb4.at 0
          have hf4 : w'.frozen? ⟨w1.heap.size, 0, none⟩ = false := hb4.free 0
          obtain ⟨A', n', c', rfl⟩ : ∃ A n c, v' = .slice A n c := by
            rcases ho.2 with ⟨rfl, _⟩ | ⟨g, cap, cur, rfl, _⟩
            · exact ⟨_, _, _, rfl⟩
            · exact ⟨_, _, _, rfl⟩
          have hkf : KeepsFrom w3.heap.size w6 w' := ((KeepsOthers.alloc w6 _).trans (KeepsOthers.of_grownBy hg (own_cells (World.ownsRow.alloc HO6.out _)))).from _
          have HO := Lib.hid ho
          have HB4 := Lib.hid hb4
          have HKF := Lib.hid (HKF6.out.trans hkf)
          have HBW := Lib.hid hbw
          have HGW := Lib.hid hg
          clear ho hb4 hkf hbw hg hb ql6
          gi_wp2
          refine ⟨HKF.out.trans ((KeepsOthers.setCell _ _ _).from _), ⟨?_, ?_, ?_⟩, ⟨?_, ?_, ⟨_, HB4.out.set 0 _, ?_⟩⟩⟩
          · exact HR6.out.same (fun j hj => (Below.heap_setCell _ _ _ _ (by intro e; dsimp only at e; have := HTP1.out; omega)).trans (HBW.out.block j (by have := HTP1.out; omega))) (by have := HBW.out.size; simpa using this)
          · exact boxes_append HB6.out.1 HO6.out (HW6.out) HGW.out (by omega)
          · have := HBW.out.size
            have := HB6.out.2
            simp
            omega
          · exact two_set (HK6.out.two.below HBW.out (by have := HWG.out; omega)) (by have := HWG.out; omega) _
          · exact (HK6.out.box.below HBW.out (by have := HWG.out; omega)).setOther (by have := HWG.out; simp; omega) _
          · refine World.ownsRow.kept HO.out (grown_setCell _ ⟨w1.heap.size, 0, none⟩ _) ?_
            rcases hvo : (Value.slice A' n' c').ownBlock with _ | j
            · exact .inl rfl
            · refine .inr fun e => ?_
              injection e with e
              dsimp only at e
              have := (HO.out.lt _ hvo).1
              omega
    case done =>
      rintro Dn W hDn ⟨h1, h2, h3⟩ hK
      obtain ⟨hv, hb, ho⟩ := h2.txt
      rw [HTX.out] at ho
      obtain ⟨N, hNN⟩ : ∃ N, (Mo.run Mo.note most Mo.file (Mo.fail 11 s.first s).rest 0 (Mo.fail 11 s.first s)).1 = N := ⟨_, rfl⟩
      have hln : (Mo.texts ((Mo.fail 11 s.first s).rest.take N)).length = N := by
        have := Mo.run_len Mo.note most Mo.file (Mo.fail 11 s.first s).rest 0 (Mo.fail 11 s.first s)
        unfold Mo.texts
        rw [List.length_map, List.length_take]
        omega
      rw [hNN] at ho
      have HOI := Lib.hid (outs_is HSE.out hNN)
      obtain ⟨A8, c8, rfl⟩ : ∃ A c, hv = .slice A N c := by
        rcases ho.2 with ⟨rfl, h0⟩ | ⟨gg, cap, cur, rfl, _⟩
        · exact ⟨none, 0, by rw [← hln, h0]⟩
        · exact ⟨_, _, by rw [hln]⟩
      have ql : W.cell? ⟨w1.heap.size, 0, none⟩ = some (.slice A8 N c8) := hb.at 0
      have q0 : W.cell? ⟨w.heap.size, 0, none⟩ = some (.pointer (some ⟨g, 0, none⟩)) := h2.box.at 0
      have HL8 := Lib.hid h1
      have HK8 := Lib.hid h2.two
      have HO8 := Lib.hid ho
      have HB8 := Lib.hid hb
      have HDD := Lib.hid hK
      have HDN := Lib.hid (show w.heap.size ≤ Dn ∧ hi ≤ Dn by have := HZ3.out; have := HWG.out; have := HTP1.out; omega)
      have hN8 : N ≤ 1000 := by have := HNM.out; omega
      clear h1 h2 h3 hb ho hln hNN hK
      rcases Nat.eq_zero_or_pos N with hz | hz
      · subst hz
        go_wp2_with fail
        refine (mwrong_any base hi g lb mb _ _ HL8.out).mono ?_
        rintro e w9 ⟨rfl, hl9⟩
        have hb9 := HB8.out.grown hl9.2 (by intro e; injection e with e; have := HTP.out; have := HWG.out; omega)
        have q9 : w9.cell? ⟨w1.heap.size, 0, none⟩ = some (.slice A8 0 c8) := hb9.at 0
        have HK9 : Hid (w9.heap[Dn]? = some (.deferred (some []))) := Lib.hid ((hl9.2.block Dn (Array.getElem?_eq_some_iff.1 HDD.out).1 (by intro e; injection e with e; have := HTP1.out; have := HDN.out; omega)).trans HDD.out)
        have HO9 : Hid (OwnT w9 (w1.heap.size + 1) (.slice A8 0 c8) (Mo.texts ((Mo.fail 11 s.first s).rest.take 0))) := Lib.hid (World.ownsRow.kept HO8.out hl9.2 (by
          rcases hu : (Value.slice A8 0 c8).ownBlock with _ | j
          · exact .inl rfl
          · refine .inr fun e => ?_
            injection e with e
            have := (HO8.out.lt _ hu).1
            have := HTP1.out
            omega))
        have HT9 := Lib.hid (HK8.out.left hl9.2)
        have HL9 := Lib.hid hl9.1
        clear hb9 hl9 ql
        go_wp2
        refine ⟨by simp, .inl ⟨_, _, rfl, run_takeDeferred HK9.out, ?_⟩⟩
        refine ⟨_, results_tmp rfl _ _ _, _, rfl, ?_, ?_, ?_⟩
        · rw [HOI.out]
          exact (HO9.out.kept (grownBy_putObj' _ Dn _) (by rintro _ ⟨⟩; exact ⟨_, HK9.out, rfl⟩)).more (by have := HWG.out; omega)
        · rw [HOI.out]
          exact HL9.out.same (fun j hj => World.putObj_heap_other (by have := HDN.out; omega)) (by simp)
        · exact HT9.out.below ((Below.refl _ _).grown (grownBy_putObj' _ Dn _) (HT9.out.size) (by rintro _ ⟨⟩; exact HDN.out.1)) (Nat.le_refl _)
      · have hNz : ((N : Int) == 0) = false := by simp; omega
        have HNZ := Lib.hid (show N ≠ 0 by omega)
        go_wp2
        refine ⟨by simp, .inl ⟨_, _, rfl, run_takeDeferred HDD.out, ?_⟩⟩
        refine ⟨_, results_tmp rfl _ _ _, _, rfl, ?_, ?_, ?_⟩
        · rw [HOI.out]
          exact (HO8.out.kept (grownBy_putObj' _ Dn _) (by rintro _ ⟨⟩; exact ⟨_, HDD.out, rfl⟩)).more (by have := HWG.out; omega)
        · rw [HOI.out, if_neg HNZ.out]
          exact HL8.out.same (fun j hj => World.putObj_heap_other (by have := HDN.out; omega)) (by simp)
        · exact HK8.out.below ((Below.refl _ _).grown (grownBy_putObj' _ Dn _) (HK8.out.size) (by rintro _ ⟨⟩; exact HDN.out.1)) (Nat.le_refl _)
  · have ht : ((n : Int) == 64) = false := by simp; omega
    have HSE : Hid (s = if s.rules.length = 64 then Mo.fail 11 s.first s else s) := Lib.hid (by rw [if_neg (by rw [HN.out]; exact h64)])
    obtain ⟨w1, hw1⟩ : ∃ w1, w1 = w.alloc (.cells #[.pointer (some ⟨g, 0, none⟩)] 83) := ⟨_, rfl⟩
    have HR1 : Hid (MRd w1 base hi g lb mb s) := Lib.hid (by rw [hw1]; exact HR.out.under (HBO.out w _))
    have HT1 : Hid (MTwo w w1 g mb) := Lib.hid (by rw [hw1]; exact (MTwo.refl w g mb).below (HBO.out w _) (Nat.le_refl _))
    have HBX1 : Hid (Blk w1 w.heap.size 83 #[.pointer (some ⟨g, 0, none⟩)]) := Lib.hid (by rw [hw1]; exact HB0.out)
    have HRL1 : Hid (s.rules.length = n ∧ s.makers.length ≤ 1000000) := Lib.hid ⟨HN.out, HMK.out⟩
    have b1 : w1.cell? ⟨w.heap.size, 0, none⟩ = some (.pointer (some ⟨g, 0, none⟩)) := HBX1.out.at 0
    have b1o : ∀ o, (w1.alloc o).cell? ⟨w.heap.size, 0, none⟩ = some (.pointer (some ⟨g, 0, none⟩)) := fun o => (HBX1.out.alloc o).at 0
    have k3' : w1.cell? ⟨g, 3, none⟩ = some (.slice A n c) := by rw [hw1]; exact k3 _
    have hsz : w1.heap.size = w.heap.size + 1 := by rw [hw1]; simp
    clear h64 k5 k6 k7 k8 b0 k3
    go_upto_region 1 with fail
    rw [← hw1]
    clear hw1 hsz
    have HTP1 := Lib.hid HR1.out.top
    have HMX : Hid (Mo.run Mo.note most Mo.file (s).rest 0 (s) = Mo.run Mo.note most Mo.file (s).rest 0 (s)) := Lib.hid rfl
    have hNm := Mo.run_le Mo.note most Mo.file (s).rest 0 (s) (by omega)
    have hNl := Mo.run_len Mo.note most Mo.file (s).rest 0 (s)
    have HNM := Lib.hid hNm
    have HTX := Lib.hid (txts_take (ws := (s).rest) (N := (Mo.run Mo.note most Mo.file (s).rest 0 (s)).1) (by omega))
    have HWG := Lib.hid (show w.heap.size < w1.heap.size from HBX1.out.size)
    have Hw1.heap.size : Hid (Blk (w1.alloc (.cells #[.slice none 0 0] 27)) w1.heap.size 27 #[.slice none 0 0]) := Lib.hid (heap_alloc_new w1 _)
    clear hNm hNl
    go_wp2_with fail
    refine (mnames_any g most 118 _).mono ?_
    rintro e w3 ⟨rfl, hbx3, hb3, hz3⟩
    rw [World.size_alloc] at hbx3 hz3 ⊢
    have HB3 := Lib.hid ((HBO.out w1 (.cells #[.slice none 0 0] 27)).trans (hb3.mono (by simp)))
    have HR3 := Lib.hid (HR1.out.under HB3.out)
    have HKP3 : Hid (Keeps2 w g mb w.heap.size w1.heap.size (w1.heap.size + 1) [] w3) := Lib.hid ⟨HT1.out.below HB3.out HT1.out.size, HBX1.out.under HB3.out, ⟨_, Hw1.heap.size.out.under hb3, ownT_none _ _⟩⟩
    have HBX3 := Lib.hid hbx3
    have HZ3 := Lib.hid hz3
    clear hbx3 hb3 hz3
    go_wp2_with fail
    refine wp_rangeG (gf := 115) (lb := #[.pointer (some ⟨w1.heap.size + 1, 0, none⟩), .pointer (some ⟨w1.heap.size + 1 + 2, 0, none⟩), .pointer (some ⟨w1.heap.size + 1 + 1, 0, none⟩)]) rfl
      (enters_of Tryz.func115 (by kernel_rfl) rfl) (names_iter Mo.note note_step base hi g lb mb (w1.heap.size + 1) most 118 Mo.file may_file (s) hmost (by have := HTP1.out; omega)) (fun _ => rfl)
      (fun k W => Gone Mo.note base hi g lb mb (w1.heap.size + 1) most 118 (s) k W ∧ Keeps2 w g mb w.heap.size w1.heap.size (w1.heap.size + 1) (txts (fun k => (s).rest.getD k Mo.word0) k) W)
      (fun k W => (MRd W base hi g lb mb { Mo.st Mo.note (s).rest (s) k with rest := (s).rest.drop (k + 1) } ∧ MBoxes W (w1.heap.size + 1) g most 118 ∧ w1.heap.size + 1 + 3 ≤ W.heap.size) ∧ Keeps2 w g mb w.heap.size w1.heap.size (w1.heap.size + 1) (txts (fun k => (s).rest.getD k Mo.word0) k) W)
      (fun W => MRd W base hi g lb mb (Mo.run Mo.note most Mo.file (s).rest 0 (s)).2 ∧ Keeps2 w g mb w.heap.size w1.heap.size (w1.heap.size + 1) (txts (fun k => (s).rest.getD k Mo.word0) (Mo.run Mo.note most Mo.file (s).rest 0 (s)).1) W ∧ w3.heap.size ≤ W.heap.size)
      ?hI ?hE (fun k W h => h.1)
      (fun k A B hk h ht => ⟨⟨⟨ht.1, h.1.2.1.grown ht.2 (by have := HTP1.out; omega), Nat.le_trans h.1.2.2 ht.2.size⟩, h.2.left ht.2 (by have := HTP.out; omega) (by have := HTP.out; have := HWG.out; omega) (by have := HTP.out; have := HWG.out; omega)⟩, (left_spares (B0 := w3.heap.size) ht (by have := HZ3.out; have := HTP1.out; omega)).from⟩)
      (fun A B h ht => ⟨⟨ht.1, h.2.left ht.2 (by have := HTP.out; omega) (by have := HTP.out; have := HWG.out; omega) (by have := HTP.out; have := HWG.out; omega), Nat.le_trans (by have := h.1.2.2; have := HZ3.out; omega) ht.2.size⟩, (left_spares (B0 := w3.heap.size) ht (by have := HZ3.out; have := HTP1.out; omega)).from⟩)
      ⟨⟨HR3.out, HBX3.out, by have := HZ3.out; omega⟩, HKP3.out⟩
      (fun q W => ∃ p, q.2 = { tmps := #[.pointer (some ⟨g, 0, none⟩), .int .i64 (most : Int), .pointer (some ⟨w.heap.size, 0, none⟩), undef, .slice none 0 0, .pointer (some ⟨w1.heap.size, 0, none⟩), .pointer (some ⟨p, 0, none⟩), undef, undef, .pointer (some ⟨g, 0, none⟩), .pointer (some ⟨g, 0, none⟩), .pointer (some ⟨g, 3, none⟩), .pointer (some ⟨g, 3, none⟩), .slice A n c, .int .i64 (n : Int), .bool false, undef, undef, undef, undef, undef, undef, .pointer (some ⟨g, 0, none⟩), .int .i64 (most : Int), .func (.func 115) #[] #[.pointer (some ⟨w1.heap.size + 1, 0, none⟩), .pointer (some ⟨w1.heap.size + 1 + 2, 0, none⟩), .pointer (some ⟨w1.heap.size + 1 + 1, 0, none⟩)], .agg (cellsW ((s).rest.getD q.1 Mo.word0)).toArray, undef, undef, undef, undef, undef, undef, undef, undef, undef, undef, undef, undef, undef, undef, undef, undef, undef, undef, undef, undef, undef, undef, undef, undef, undef, undef, undef, undef, undef, undef, undef, undef, undef, undef, undef, undef, undef], defers := [] } ∧ Blk W p 55 (cellsW ((s).rest.getD q.1 Mo.word0)).toArray ∧ w3.heap.size ≤ p ∧
        (MRd W base hi g lb mb { Mo.st Mo.note (s).rest (s) q.1 with rest := (s).rest.drop (q.1 + 1) } ∧ MBoxes W (w1.heap.size + 1) g most 118 ∧ w1.heap.size + 1 + 3 ≤ W.heap.size) ∧ Keeps2 w g mb w.heap.size w1.heap.size (w1.heap.size + 1) (txts (fun k => (s).rest.getD k Mo.word0) q.1) W) ?hM ?assign ?body ?done
    case hI =>
      intro k A B row h hg hr
      have hb : Below w3.heap.size A B := (Below.refl _ _).grown hg (by have := h.1.2.2; have := HZ3.out; omega) (fun r e => (hr r e).1)
      exact ⟨gone_below h.1 hb (by have := HTP1.out; have := HZ3.out; omega) (by have := HZ3.out; omega), h.2.row hg fun r e => ⟨by have := (hr r e).1; have := HZ3.out; have := HWG.out; omega, (hr r e).2⟩⟩
    case hM =>
      rintro ⟨k, a'⟩ A B row ⟨p, h1, h2, h3, h4, h5⟩ hg hr
      have hb : Below w3.heap.size A B := (Below.refl _ _).grown hg (by have := h4.2.2; have := HZ3.out; omega) (fun r e => (hr r e).1)
      exact ⟨p, h1, h2.kept hg fun r e => (hr r e).2, h3, ⟨h4.1.same (fun j hj => hb.block j (by have := HTP1.out; have := HZ3.out; omega)) hb.size, ⟨h4.2.1.1.below hb (by have := HZ3.out; omega), h4.2.1.2.1.below hb (by have := HZ3.out; omega), h4.2.1.2.2.below hb (by have := HZ3.out; omega)⟩, Nat.le_trans h4.2.2 hb.size⟩, h5.row hg fun r e => ⟨by have := (hr r e).1; have := HZ3.out; have := HWG.out; omega, (hr r e).2⟩⟩
    case hE =>
      intro _ A B row h hg hr
      have hb : Below w3.heap.size A B := (Below.refl _ _).grown hg h.2.2 (fun r e => (hr r e).1)
      exact ⟨h.1.same (fun j hj => hb.block j (by have := HTP1.out; have := HZ3.out; omega)) hb.size, h.2.1.row hg fun r e => ⟨by have := (hr r e).1; have := HZ3.out; have := HWG.out; omega, (hr r e).2⟩, Nat.le_trans h.2.2 hg.size⟩
    case assign =>
      intro l' k W K hk h hzW hK
      have ho : ∀ o, Below W.heap.size W (W.alloc o) := fun o => (Below.refl _ _).alloc (Nat.le_refl _) o
      have HKK := Lib.hid (hK { tmps := #[.pointer (some ⟨g, 0, none⟩), .int .i64 (most : Int), .pointer (some ⟨w.heap.size, 0, none⟩), undef, .slice none 0 0, .pointer (some ⟨w1.heap.size, 0, none⟩), .pointer (some ⟨W.heap.size, 0, none⟩), undef, undef, .pointer (some ⟨g, 0, none⟩), .pointer (some ⟨g, 0, none⟩), .pointer (some ⟨g, 3, none⟩), .pointer (some ⟨g, 3, none⟩), .slice A n c, .int .i64 (n : Int), .bool false, undef, undef, undef, undef, undef, undef, .pointer (some ⟨g, 0, none⟩), .int .i64 (most : Int), .func (.func 115) #[] #[.pointer (some ⟨w1.heap.size + 1, 0, none⟩), .pointer (some ⟨w1.heap.size + 1 + 2, 0, none⟩), .pointer (some ⟨w1.heap.size + 1 + 1, 0, none⟩)], .agg (cellsW ((s).rest.getD k Mo.word0)).toArray, undef, undef, undef, undef, undef, undef, undef, undef, undef, undef, undef, undef, undef, undef, undef, undef, undef, undef, undef, undef, undef, undef, undef, undef, undef, undef, undef, undef, undef, undef, undef, undef, undef, undef, undef, undef, undef], defers := [] }
        (W.alloc (.cells (cellsW ((s).rest.getD k Mo.word0)).toArray 55)) ((KeepsOthers.alloc W _).from _)
        ⟨W.heap.size, rfl, heap_alloc_new W _, hzW, ⟨h.1.1.under (ho _), ⟨h.1.2.1.1.under (ho _), h.1.2.1.2.1.under (ho _), h.1.2.1.2.2.under (ho _)⟩, Nat.le_trans h.1.2.2 (ho _).size⟩, h.2.under (ho _)⟩)
      obtain ⟨x, hx⟩ : ∃ x, (s).rest.getD k Mo.word0 = x := ⟨_, rfl⟩
      rw [hx] at HKK
      clear hK h ho
      dsimp only [wordEnc]
      rw [hx]
      obtain ⟨xt, xl, xc, xq⟩ := x
      rw [show (cellsW ⟨xt, xl, xc, xq⟩).toArray = #[.string (str xt), .int .i64 xl, .int .i64 xc, .bool xq] from rfl] at HKK ⊢
      gi_wp2
      exact HKK.out
    case body =>
      rintro l' k a' W hk ⟨p, ha, hp, hpz, ⟨h4, h5, h6⟩, h7⟩ hzW
      dsimp only at ha hp h4 h7
      subst ha
      obtain ⟨x, hx⟩ : ∃ x, (s).rest.getD k Mo.word0 = x := ⟨_, rfl⟩
      rw [hx] at hp ⊢
      have HXE := Lib.hid hx
      have HGX : Hid (GoodW x) := Lib.hid (by
        have hkl : k < (s).rest.length := by have := Mo.run_len Mo.note most Mo.file (s).rest 0 (s); omega
        rw [← hx, List.getD_eq_getElem?_getD, List.getElem?_eq_getElem hkl]
        exact HR1.out.good.rest _ (List.getElem_mem hkl))
      have HSTN := Lib.hid (st_note (s).rest (s) k)
      obtain ⟨sk, hsk⟩ : ∃ sk, sk = { Mo.st Mo.note (s).rest (s) k with rest := (s).rest.drop (k + 1) } := ⟨_, rfl⟩
      have HSK : Hid (Mo.note x sk = Mo.st Mo.note (s).rest (s) (k + 1)) := Lib.hid (by rw [hsk, ← hx]; rfl)
      have HSKL : Hid (sk.rules.length = n ∧ sk.makers.length ≤ 1001000) := Lib.hid (by
        have h1 := HSTN.out
        have h2 := HRL1.out
        have hkm : k < most := by have := HNM.out; omega
        rw [hsk]
        dsimp only
        rw [h1.2, h1.1]
        exact ⟨h2.1, by have := h2.2; omega⟩)
      rw [← hsk] at h4
      have HR4 := Lib.hid h4
      have HB4x := Lib.hid (show MBoxes W (w1.heap.size + 1) g most 118 ∧ w1.heap.size + 1 + 3 ≤ W.heap.size from ⟨h5, h6⟩)
      have HK4 := Lib.hid h7
      have HP4 := Lib.hid hp
      have hp0 : W.cell? ⟨p, 0, none⟩ = some (.string (str x.text)) := hp.at 0
      have hp1 : W.cell? ⟨p, 1, none⟩ = some (.int .i64 (x.line : Int)) := hp.at 1
      have hp2 : W.cell? ⟨p, 2, none⟩ = some (.int .i64 (x.col : Int)) := hp.at 2
      have hp3 : W.cell? ⟨p, 3, none⟩ = some (.bool x.q) := hp.at 3
      have hbx : W.cell? ⟨w.heap.size, 0, none⟩ = some (.pointer (some ⟨g, 0, none⟩)) := h7.box.at 0
      obtain ⟨cv4, rv4, sv4, hin4⟩ := h4
      have hg1 : W.cell? ⟨g, 1, none⟩ = some (.map (some mb)) := hin4.blk.at 1
      have hlk : ∀ nq, (Instr.lookup 52 (.map (some mb)) (.string (str x.text)) true).run Tryz.prog (W.drewN nq) = .ok (.tuple #[((Mo.has x.text sk.makers).map fun (i : Nat) => Value.int .i64 (i : Int)).getD (.int .i64 0), .bool ((Mo.has x.text sk.makers).map fun (i : Nat) => Value.int .i64 (i : Int)).isSome]) (W.drewN nq) := fun nq =>
        MapIs.run_look (w := W.drewN nq) (MapIs.same hin4.makers rfl) Tryz.underlying52 (by kernel_rfl) HGX.out.bytes (by have := HGX.out.len; omega)
      clear hin4 hx hp h5 h6 h7 hsk
      rcases hhas : Mo.has x.text sk.makers with _ | i
      · rw [hhas] at hlk
        simp only [Option.map_none, Option.getD_none, Option.isSome_none] at hlk
        have HNE := Lib.hid (note_no hhas)
        clear hhas
        gi_wp2
        refine wpIn_region_quiet (by kernel_rfl) (by kernel_rfl) (by kernel_rfl) (by rintro ⟨_, _, h⟩; exact h) ?_
        repeat (go_big_quiet_step (fail))
        refine wpQuiet_nil ?_
        rintro _ ⟨nq, rfl⟩
        have HRQ := Lib.hid (HR4.out.heap (w' := W.drewN nq) rfl)
        have HKQ := Lib.hid (HK4.out.heap (B := W.drewN nq) rfl rfl rfl rfl)
        have HBQ : Hid (MBoxes (W.drewN nq) (w1.heap.size + 1) g most 118 ∧ w1.heap.size + 1 + 3 ≤ (W.drewN nq).heap.size) := HB4x
        have HPQ : Hid (Blk (W.drewN nq) p 55 (cellsW x).toArray) := HP4
        have HKFQ : Hid (KeepsFrom w3.heap.size W (W.drewN nq)) := Lib.hid ⟨Nat.le_refl _, fun _ _ _ ho _ => ho⟩
        clear hp0 hp1 hp2 hp3 hbx hg1 hlk
        have h3r : Hid (sk.rules.length = n ∧ sk.makers.length ≤ 1001000) := Lib.hid HSKL.out
        obtain ⟨cv9, rv9, sv9, hin9⟩ := HRQ.out
        obtain ⟨A9, c9, rfl⟩ : ∃ A c, rv9 = .slice A n c := by
          obtain ⟨f9, hrow9, _, _⟩ := hin9.rules
          rw [h3r.out.1] at hrow9
          rcases hrow9.2 with ⟨rfl, h0⟩ | ⟨gg, cap, cur, rfl, _, _, hn, _⟩
          · exact ⟨none, 0, by rw [h0]⟩
          · exact ⟨_, _, rfl⟩
        have q1 : (W.drewN nq).cell? ⟨g, 1, none⟩ = some (.map (some mb)) := hin9.blk.at 1
        have q3 : (W.drewN nq).cell? ⟨g, 3, none⟩ = some (.slice A9 n c9) := hin9.blk.at 3
        have q0 : (W.drewN nq).cell? ⟨w.heap.size, 0, none⟩ = some (.pointer (some ⟨g, 0, none⟩)) := HKQ.out.box.at 0
        have qp : (W.drewN nq).cell? ⟨p, 0, none⟩ = some (.string (str x.text)) := HPQ.out.at 0
        have r1 : W.cell? ⟨g, 1, none⟩ = some (.map (some mb)) := q1
        have r3 : W.cell? ⟨g, 3, none⟩ = some (.slice A9 n c9) := q3
        have r0 : W.cell? ⟨w.heap.size, 0, none⟩ = some (.pointer (some ⟨g, 0, none⟩)) := q0
        have rp : W.cell? ⟨p, 0, none⟩ = some (.string (str x.text)) := qp
        obtain ⟨w6, hst, hm6, hg6, hs6, hz6⟩ := MapIs.run_store (w := ((W.drewN nq)).drew) (MapIs.same hin9.makers rfl) Tryz.underlying52 (by have := h3r.out.2; omega) HGX.out.bytes (by have := HGX.out.len; omega) (.int .i64 (n : Int))
        have hst2 : (Instr.mapUpdate 52 (.map (some mb)) (.string (str x.text)) (.int .i64 (n : Int))).run Tryz.prog (W.drewN (nq + 1)) = .ok () w6 := hst
        have HR6 : Hid (MRd w6 base hi g lb mb { sk with makers := sk.makers ++ [(x.text, sk.rules.length)] }) := Lib.hid (by rw [h3r.out.1]; exact ⟨_, _, _, hin9.putMaker hm6 hs6 hz6⟩)
        rw [show ({ sk with makers := sk.makers ++ [(x.text, sk.rules.length)] } : Mo.S) = Mo.st Mo.note (s).rest (s) (k + 1) from (by rw [← HSK.out, HNE.out])] at HR6
        have HK6 := Lib.hid (((HKQ.out.heap (B := ((W.drewN nq)).drew) rfl rfl rfl rfl).store hg6 (by have := HTP.out; omega) (by have := HTP.out; have := HWG.out; omega) (by have := HTP.out; have := HWG.out; omega)))
        have HB6 : Hid (MBoxes w6 (w1.heap.size + 1) g most 118 ∧ w1.heap.size + 1 + 3 ≤ w6.heap.size) := Lib.hid ⟨⟨(hs6 _ (by have := HTP1.out; omega)).trans HBQ.out.1.1, (hs6 _ (by have := HTP1.out; omega)).trans HBQ.out.1.2.1, (hs6 _ (by have := HTP1.out; omega)).trans HBQ.out.1.2.2⟩, by rw [hz6]; exact HBQ.out.2⟩
        have qp6 : w6.cell? ⟨p, 0, none⟩ = some (.string (str x.text)) := Blk.at (show Blk w6 p 55 (cellsW x).toArray from (hs6 _ (by have := HTP1.out; have := HZ3.out; omega)).trans HPQ.out) 0
        have hpz6 : p < w6.heap.size := by rw [hz6]; exact HPQ.out.size
        have HKF6 : Hid (KeepsFrom w3.heap.size W w6) := Lib.hid ⟨by rw [hz6]; exact HKFQ.out.size, fun j o hj ho hc => (hs6 j (by have := HTP1.out; have := HZ3.out; omega)).trans (HKFQ.out.same j o hj ho hc)⟩
        clear hin9 hm6 hg6 hs6 hz6
        gi_wp2
        refine wpIn_region_still_tail 12 (by kernel_rfl) (by kernel_rfl) (by kernel_rfl) (by rintro ⟨_, _, h⟩; exact h) ?_
        simp only [List.take_succ_cons, List.take_zero, List.drop_succ_cons, List.drop_zero]
        repeat still_step
        refine wpStill_nil ?_
        go_wp2_with fail
        obtain ⟨hv6, hb6, ho6⟩ := HK6.out.txt
        have ql6 : w6.cell? ⟨w1.heap.size, 0, none⟩ = some hv6 := hb6.at 0
        have HBL6 := Lib.hid hb6
        have HO6 := Lib.hid ho6
        have hW6 : Below w6.heap.size w6 (w6.alloc (.cells #[.string (str x.text)] 9)) := (Below.refl _ _).alloc (Nat.le_refl _) _
        have HW6 := Lib.hid hW6
        have HR : Hid (txts (fun k => (s).rest.getD k Mo.word0) k ++ [x.text] = txts (fun k => (s).rest.getD k Mo.word0) (k + 1)) := Lib.hid (by rw [← HXE.out]; exact txts_succ (fun k => (s).rest.getD k Mo.word0) k)
        have HL : Hid ((txts (fun k => (s).rest.getD k Mo.word0) k).length = k) := Lib.hid (txts_length _ k)
        obtain ⟨Lk, hLk⟩ : ∃ L, txts (fun k => (s).rest.getD k Mo.word0) k = L := ⟨_, rfl⟩
        rw [hLk] at HR HL HO6
        have hlx6 : w1.heap.size + 1 ≤ w6.heap.size := by have := HB6.out.2; omega
        have HKN := Lib.hid (show k ≤ 1000 by have := HNM.out; omega)
        clear hb6 ho6 hW6 hLk hst hst2 q0 q1 q3 qp r0 r1 r3 rp
        gi_wp2_with (gi_at_builtin; refine wpListIn_append_text rfl _ _ rfl (w1.heap.size + 1) w6.heap.size hv6 Lk x.text rfl ?_ rfl ?_ ?_ ?_ (txts (fun k => (s).rest.getD k Mo.word0) (k + 1)) HR.out ?_)
        case refine_1 => exact HO6.out.under HW6.out
        case refine_2 => exact (show Blk _ w6.heap.size 9 #[.string (str x.text)] from heap_alloc_new w6 _).at 0
        case refine_3 => rw [HL.out]; have := HKN.out; omega
        case refine_4 => simp; omega
        case refine_5 =>
          intro v' w' ho hg hb
          have hbw : Below (w1.heap.size + 1) w6 w' := (HW6.out.mono hlx6).trans hb
          have hb4 := HBL6.out.below hbw (by omega)
          have hc4 : w'.cell? ⟨w1.heap.size, 0, none⟩ = some hv6 := hb4.at 0
          have hf4 : w'.frozen? ⟨w1.heap.size, 0, none⟩ = false := hb4.free 0
          obtain ⟨A', n', c', rfl⟩ : ∃ A n c, v' = .slice A n c := by
            rcases ho.2 with ⟨rfl, _⟩ | ⟨g, cap, cur, rfl, _⟩
            · exact ⟨_, _, _, rfl⟩
            · exact ⟨_, _, _, rfl⟩
          have hkf : KeepsFrom w3.heap.size w6 w' := ((KeepsOthers.alloc w6 _).trans (KeepsOthers.of_grownBy hg (own_cells (World.ownsRow.alloc HO6.out _)))).from _
          have HO := Lib.hid ho
          have HB4 := Lib.hid hb4
          have HKF := Lib.hid (HKF6.out.trans hkf)
          have HBW := Lib.hid hbw
          have HGW := Lib.hid hg
          clear ho hb4 hkf hbw hg hb ql6
          gi_wp2
          refine ⟨HKF.out.trans ((KeepsOthers.setCell _ _ _).from _), ⟨?_, ?_, ?_⟩, ⟨?_, ?_, ⟨_, HB4.out.set 0 _, ?_⟩⟩⟩
          · exact HR6.out.same (fun j hj => (Below.heap_setCell _ _ _ _ (by intro e; dsimp only at e; have := HTP1.out; omega)).trans (HBW.out.block j (by have := HTP1.out; omega))) (by have := HBW.out.size; simpa using this)
          · exact boxes_append HB6.out.1 HO6.out (HW6.out) HGW.out (by omega)
          · have := HBW.out.size
            have := HB6.out.2
            simp
            omega
          · exact two_set (HK6.out.two.below HBW.out (by have := HWG.out; omega)) (by have := HWG.out; omega) _
          · exact (HK6.out.box.below HBW.out (by have := HWG.out; omega)).setOther (by have := HWG.out; simp; omega) _
          · refine World.ownsRow.kept HO.out (grown_setCell _ ⟨w1.heap.size, 0, none⟩ _) ?_
            rcases hvo : (Value.slice A' n' c').ownBlock with _ | j
            · exact .inl rfl
            · refine .inr fun e => ?_
              injection e with e
              dsimp only at e
              have := (HO.out.lt _ hvo).1
              omega
      · rw [hhas] at hlk
        simp only [Option.map_some, Option.getD_some, Option.isSome_some] at hlk
        have HNE := Lib.hid (note_yes hhas)
        clear hhas
        gi_wp2
        refine wpIn_region_quiet (by kernel_rfl) (by kernel_rfl) (by kernel_rfl) (by rintro ⟨_, _, h⟩; exact h) ?_
        repeat (go_big_quiet_step (fail))
        refine wpQuiet_nil ?_
        rintro _ ⟨nq, rfl⟩
        have HRQ := Lib.hid (HR4.out.heap (w' := W.drewN nq) rfl)
        clear hg1 hlk
        gi_wp2_with fail
        refine ⟨trivial, rfl, (CallsIn.inRound l' (callsIn_wide.2 (mfail_any 8 x base hi g lb mb sk _ HRQ.out))).mono ?_⟩
        rintro e w5 ⟨rfl, hl5⟩
        have HR5 := Lib.hid hl5.1
        have HK5 := Lib.hid ((HK4.out.heap (B := W.drewN nq) rfl rfl rfl rfl).left hl5.2 (by have := HTP.out; omega) (by have := HTP.out; have := HWG.out; omega) (by have := HTP.out; have := HWG.out; omega))
        have HB5 : Hid (MBoxes w5 (w1.heap.size + 1) g most 118 ∧ w1.heap.size + 1 + 3 ≤ w5.heap.size) := Lib.hid ⟨(show MBoxes (W.drewN nq) (w1.heap.size + 1) g most 118 from HB4x.out.1).grown hl5.2 (by have := HTP1.out; omega), Nat.le_trans HB4x.out.2 hl5.2.size⟩
        have HP5 : Hid (Blk w5 p 55 (cellsW x).toArray) := Lib.hid ((show Blk (W.drewN nq) p 55 (cellsW x).toArray from HP4.out).grown hl5.2 (by intro e; injection e with e; have := HTP1.out; have := HZ3.out; omega))
        have HKF5 : Hid (KeepsFrom w3.heap.size W w5) := Lib.hid (let h := (left_spares (B0 := w3.heap.size) hl5 (by have := HZ3.out; have := HTP1.out; omega)).from; ⟨h.size, h.same⟩)
        clear hp0 hp1 hp2 hp3 hbx hl5
        have h3r : Hid ((Mo.fail 8 x sk).rules.length = n ∧ (Mo.fail 8 x sk).makers.length ≤ 1001000) := Lib.hid (by rw [fail_rules, fail_makers]; exact HSKL.out)
        obtain ⟨cv9, rv9, sv9, hin9⟩ := HR5.out
        obtain ⟨A9, c9, rfl⟩ : ∃ A c, rv9 = .slice A n c := by
          obtain ⟨f9, hrow9, _, _⟩ := hin9.rules
          rw [h3r.out.1] at hrow9
          rcases hrow9.2 with ⟨rfl, h0⟩ | ⟨gg, cap, cur, rfl, _, _, hn, _⟩
          · exact ⟨none, 0, by rw [h0]⟩
          · exact ⟨_, _, rfl⟩
        have q1 : w5.cell? ⟨g, 1, none⟩ = some (.map (some mb)) := hin9.blk.at 1
        have q3 : w5.cell? ⟨g, 3, none⟩ = some (.slice A9 n c9) := hin9.blk.at 3
        have q0 : w5.cell? ⟨w.heap.size, 0, none⟩ = some (.pointer (some ⟨g, 0, none⟩)) := HK5.out.box.at 0
        have qp : w5.cell? ⟨p, 0, none⟩ = some (.string (str x.text)) := HP5.out.at 0
        obtain ⟨w6, hst, hm6, hg6, hs6, hz6⟩ := MapIs.run_store (w := (w5).drew) (MapIs.same hin9.makers rfl) Tryz.underlying52 (by have := h3r.out.2; omega) HGX.out.bytes (by have := HGX.out.len; omega) (.int .i64 (n : Int))
        have HR6 : Hid (MRd w6 base hi g lb mb { (Mo.fail 8 x sk) with makers := (Mo.fail 8 x sk).makers ++ [(x.text, (Mo.fail 8 x sk).rules.length)] }) := Lib.hid (by rw [h3r.out.1]; exact ⟨_, _, _, hin9.putMaker hm6 hs6 hz6⟩)
        rw [show ({ (Mo.fail 8 x sk) with makers := (Mo.fail 8 x sk).makers ++ [(x.text, (Mo.fail 8 x sk).rules.length)] } : Mo.S) = Mo.st Mo.note (s).rest (s) (k + 1) from (by rw [← HSK.out, HNE.out])] at HR6
        have HK6 := Lib.hid (((HK5.out.heap (B := (w5).drew) rfl rfl rfl rfl).store hg6 (by have := HTP.out; omega) (by have := HTP.out; have := HWG.out; omega) (by have := HTP.out; have := HWG.out; omega)))
        have HB6 : Hid (MBoxes w6 (w1.heap.size + 1) g most 118 ∧ w1.heap.size + 1 + 3 ≤ w6.heap.size) := Lib.hid ⟨⟨(hs6 _ (by have := HTP1.out; omega)).trans HB5.out.1.1, (hs6 _ (by have := HTP1.out; omega)).trans HB5.out.1.2.1, (hs6 _ (by have := HTP1.out; omega)).trans HB5.out.1.2.2⟩, by rw [hz6]; exact HB5.out.2⟩
        have qp6 : w6.cell? ⟨p, 0, none⟩ = some (.string (str x.text)) := Blk.at (show Blk w6 p 55 (cellsW x).toArray from (hs6 _ (by have := HTP1.out; have := HZ3.out; omega)).trans HP5.out) 0
        have hpz6 : p < w6.heap.size := by rw [hz6]; exact HP5.out.size
        have HKF6 : Hid (KeepsFrom w3.heap.size W w6) := Lib.hid ⟨by rw [hz6]; exact HKF5.out.size, fun j o hj ho hc => (hs6 j (by have := HTP1.out; have := HZ3.out; omega)).trans (HKF5.out.same j o hj ho hc)⟩
        clear hin9 hm6 hg6 hs6 hz6
        gi_wp2
        refine wpIn_region_still_tail 12 (by kernel_rfl) (by kernel_rfl) (by kernel_rfl) (by rintro ⟨_, _, h⟩; exact h) ?_
        simp only [List.take_succ_cons, List.take_zero, List.drop_succ_cons, List.drop_zero]
        repeat still_step
        refine wpStill_nil ?_
        go_wp2_with fail
        obtain ⟨hv6, hb6, ho6⟩ := HK6.out.txt
        have ql6 : w6.cell? ⟨w1.heap.size, 0, none⟩ = some hv6 := hb6.at 0
        have HBL6 := Lib.hid hb6
        have HO6 := Lib.hid ho6
        have hW6 : Below w6.heap.size w6 (w6.alloc (.cells #[.string (str x.text)] 9)) := (Below.refl _ _).alloc (Nat.le_refl _) _
        have HW6 := Lib.hid hW6
        have HR : Hid (txts (fun k => (s).rest.getD k Mo.word0) k ++ [x.text] = txts (fun k => (s).rest.getD k Mo.word0) (k + 1)) := Lib.hid (by rw [← HXE.out]; exact txts_succ (fun k => (s).rest.getD k Mo.word0) k)
        have HL : Hid ((txts (fun k => (s).rest.getD k Mo.word0) k).length = k) := Lib.hid (txts_length _ k)
        obtain ⟨Lk, hLk⟩ : ∃ L, txts (fun k => (s).rest.getD k Mo.word0) k = L := ⟨_, rfl⟩
        rw [hLk] at HR HL HO6
        have hlx6 : w1.heap.size + 1 ≤ w6.heap.size := by have := HB6.out.2; omega
        have HKN := Lib.hid (show k ≤ 1000 by have := HNM.out; omega)
        clear hb6 ho6 hW6 hLk hst q0 q1 q3 qp
        gi_wp2_with (gi_at_builtin; refine wpListIn_append_text rfl _ _ rfl (w1.heap.size + 1) w6.heap.size hv6 Lk x.text rfl ?_ rfl ?_ ?_ ?_ (txts (fun k => (s).rest.getD k Mo.word0) (k + 1)) HR.out ?_)
        case refine_1 => exact HO6.out.under HW6.out
        case refine_2 => exact (show Blk _ w6.heap.size 9 #[.string (str x.text)] from heap_alloc_new w6 _).at 0
        case refine_3 => rw [HL.out]; have := HKN.out; omega
        case refine_4 => simp; omega
        case refine_5 =>
          intro v' w' ho hg hb
          have hbw : Below (w1.heap.size + 1) w6 w' := (HW6.out.mono hlx6).trans hb
          have hb4 := HBL6.out.below hbw (by omega)
          have hc4 : w'.cell? ⟨w1.heap.size, 0, none⟩ = some hv6 := hb4.at 0
          have hf4 : w'.frozen? ⟨w1.heap.size, 0, none⟩ = false := hb4.free 0
          obtain ⟨A', n', c', rfl⟩ : ∃ A n c, v' = .slice A n c := by
            rcases ho.2 with ⟨rfl, _⟩ | ⟨g, cap, cur, rfl, _⟩
            · exact ⟨_, _, _, rfl⟩
            · exact ⟨_, _, _, rfl⟩
          have hkf : KeepsFrom w3.heap.size w6 w' := ((KeepsOthers.alloc w6 _).trans (KeepsOthers.of_grownBy hg (own_cells (World.ownsRow.alloc HO6.out _)))).from _
          have HO := Lib.hid ho
          have HB4 := Lib.hid hb4
          have HKF := Lib.hid (HKF6.out.trans hkf)
          have HBW := Lib.hid hbw
          have HGW := Lib.hid hg
          clear ho hb4 hkf hbw hg hb ql6
          gi_wp2
          refine ⟨HKF.out.trans ((KeepsOthers.setCell _ _ _).from _), ⟨?_, ?_, ?_⟩, ⟨?_, ?_, ⟨_, HB4.out.set 0 _, ?_⟩⟩⟩
          · exact HR6.out.same (fun j hj => (Below.heap_setCell _ _ _ _ (by intro e; dsimp only at e; have := HTP1.out; omega)).trans (HBW.out.block j (by have := HTP1.out; omega))) (by have := HBW.out.size; simpa using this)
          · exact boxes_append HB6.out.1 HO6.out (HW6.out) HGW.out (by omega)
          · have := HBW.out.size
            have := HB6.out.2
            simp
            omega
          · exact two_set (HK6.out.two.below HBW.out (by have := HWG.out; omega)) (by have := HWG.out; omega) _
          · exact (HK6.out.box.below HBW.out (by have := HWG.out; omega)).setOther (by have := HWG.out; simp; omega) _
          · refine World.ownsRow.kept HO.out (grown_setCell _ ⟨w1.heap.size, 0, none⟩ _) ?_
            rcases hvo : (Value.slice A' n' c').ownBlock with _ | j
            · exact .inl rfl
            · refine .inr fun e => ?_
              injection e with e
              dsimp only at e
              have := (HO.out.lt _ hvo).1
              omega
    case done =>
      rintro Dn W hDn ⟨h1, h2, h3⟩ hK
      obtain ⟨hv, hb, ho⟩ := h2.txt
      rw [HTX.out] at ho
      obtain ⟨N, hNN⟩ : ∃ N, (Mo.run Mo.note most Mo.file (s).rest 0 (s)).1 = N := ⟨_, rfl⟩
      have hln : (Mo.texts ((s).rest.take N)).length = N := by
        have := Mo.run_len Mo.note most Mo.file (s).rest 0 (s)
        unfold Mo.texts
        rw [List.length_map, List.length_take]
        omega
      rw [hNN] at ho
      have HOI := Lib.hid (outs_is HSE.out hNN)
      obtain ⟨A8, c8, rfl⟩ : ∃ A c, hv = .slice A N c := by
        rcases ho.2 with ⟨rfl, h0⟩ | ⟨gg, cap, cur, rfl, _⟩
        · exact ⟨none, 0, by rw [← hln, h0]⟩
        · exact ⟨_, _, by rw [hln]⟩
      have ql : W.cell? ⟨w1.heap.size, 0, none⟩ = some (.slice A8 N c8) := hb.at 0
      have q0 : W.cell? ⟨w.heap.size, 0, none⟩ = some (.pointer (some ⟨g, 0, none⟩)) := h2.box.at 0
      have HL8 := Lib.hid h1
      have HK8 := Lib.hid h2.two
      have HO8 := Lib.hid ho
      have HB8 := Lib.hid hb
      have HDD := Lib.hid hK
      have HDN := Lib.hid (show w.heap.size ≤ Dn ∧ hi ≤ Dn by have := HZ3.out; have := HWG.out; have := HTP1.out; omega)
      have hN8 : N ≤ 1000 := by have := HNM.out; omega
      clear h1 h2 h3 hb ho hln hNN hK
      rcases Nat.eq_zero_or_pos N with hz | hz
      · subst hz
        go_wp2_with fail
        refine (mwrong_any base hi g lb mb _ _ HL8.out).mono ?_
        rintro e w9 ⟨rfl, hl9⟩
        have hb9 := HB8.out.grown hl9.2 (by intro e; injection e with e; have := HTP.out; have := HWG.out; omega)
        have q9 : w9.cell? ⟨w1.heap.size, 0, none⟩ = some (.slice A8 0 c8) := hb9.at 0
        have HK9 : Hid (w9.heap[Dn]? = some (.deferred (some []))) := Lib.hid ((hl9.2.block Dn (Array.getElem?_eq_some_iff.1 HDD.out).1 (by intro e; injection e with e; have := HTP1.out; have := HDN.out; omega)).trans HDD.out)
        have HO9 : Hid (OwnT w9 (w1.heap.size + 1) (.slice A8 0 c8) (Mo.texts ((s).rest.take 0))) := Lib.hid (World.ownsRow.kept HO8.out hl9.2 (by
          rcases hu : (Value.slice A8 0 c8).ownBlock with _ | j
          · exact .inl rfl
          · refine .inr fun e => ?_
            injection e with e
            have := (HO8.out.lt _ hu).1
            have := HTP1.out
            omega))
        have HT9 := Lib.hid (HK8.out.left hl9.2)
        have HL9 := Lib.hid hl9.1
        clear hb9 hl9 ql
        go_wp2
        refine ⟨by simp, .inl ⟨_, _, rfl, run_takeDeferred HK9.out, ?_⟩⟩
        refine ⟨_, results_tmp rfl _ _ _, _, rfl, ?_, ?_, ?_⟩
        · rw [HOI.out]
          exact (HO9.out.kept (grownBy_putObj' _ Dn _) (by rintro _ ⟨⟩; exact ⟨_, HK9.out, rfl⟩)).more (by have := HWG.out; omega)
        · rw [HOI.out]
          exact HL9.out.same (fun j hj => World.putObj_heap_other (by have := HDN.out; omega)) (by simp)
        · exact HT9.out.below ((Below.refl _ _).grown (grownBy_putObj' _ Dn _) (HT9.out.size) (by rintro _ ⟨⟩; exact HDN.out.1)) (Nat.le_refl _)
      · have hNz : ((N : Int) == 0) = false := by simp; omega
        have HNZ := Lib.hid (show N ≠ 0 by omega)
        go_wp2
        refine ⟨by simp, .inl ⟨_, _, rfl, run_takeDeferred HDD.out, ?_⟩⟩
        refine ⟨_, results_tmp rfl _ _ _, _, rfl, ?_, ?_, ?_⟩
        · rw [HOI.out]
          exact (HO8.out.kept (grownBy_putObj' _ Dn _) (by rintro _ ⟨⟩; exact ⟨_, HDD.out, rfl⟩)).more (by have := HWG.out; omega)
        · rw [HOI.out, if_neg HNZ.out]
          exact HL8.out.same (fun j hj => World.putObj_heap_other (by have := HDN.out; omega)) (by simp)
        · exact HK8.out.below ((Below.refl _ _).grown (grownBy_putObj' _ Dn _) (HK8.out.size) (by rintro _ ⟨⟩; exact HDN.out.1)) (Nat.le_refl _)
end Go.Proofs.YtgjehlegcmeeoaaGreatDoor

/- Package mani's own reader: one action's words are taken. -/
namespace Go.Proofs.YtgjehlegcmeeoaaGreatDoor
set_option maxRecDepth 100000
open Go.ChangeShapes Go.WideShapes Go.ChangeAt Go.RowKit Go.Shelf

theorem SlW.setReader {w : World} {hi g j : Nat} {v u : Value} {R : List Ln.W} (h : SlW w hi v R) (ht : Ty w g 57) : SlW (w.setCell ⟨g, j, none⟩ u) hi v R :=
  h.keep (Q := PartTy) (fun b t _ hty hq => Below.heap_setCell _ _ _ _ (by
    rcases hq with rfl | rfl | rfl | rfl <;> exact hty.ne ht (by decide))) (.inr (.inr (.inr rfl)))
theorem SlW.heap {w w' : World} {hi : Nat} {v : Value} {R : List Ln.W} (h : SlW w hi v R) (e : w'.heap = w.heap) : SlW w' hi v R := h.keep (Q := PartTy) (fun b _ _ _ _ => by rw [e]) (.inr (.inr (.inr rfl)))
theorem drop_mem {α : Type} {l : List α} {n : Nat} {x : α} (h : x ∈ l.drop n) : x ∈ l := List.mem_of_mem_drop h
set_option maxHeartbeats 8000000 in
theorem action_any (base hi g lb mb : Nat) (s : Mo.S) (w : World) (h : MRd w base hi g lb mb s) (hrl : s.rest.length ≤ 1000000) (q : Bool) (hq : q = (Mo.cut s.rest).2.1) :
    Calls Tryz.prog 119 #[.pointer (some ⟨g, 0, none⟩)] w fun e w' => ∃ v, e = .returned (.tuple #[v, .bool q]) ∧ SlW w' hi v (Mo.cut s.rest).1 ∧ Left w base hi g lb mb { s with rest := (Mo.cut s.rest).2.2 } w' := by
  have HR := Lib.hid h
  obtain ⟨cv, rv, sv, h⟩ := h
  have hs := h.rest
  obtain ⟨A, c, rfl, hc⟩ := hs.parts
  have c9 : w.cell? ⟨g, 9, none⟩ = some (.slice A s.rest.length c) := h.blk.at 9
  have HCUT := Lib.hid (Mo.cut_is s.rest)
  have HLE := Lib.hid (Mo.cp_le s.rest)
  rw [Mo.cut_is s.rest] at hq
  dsimp only at hq
  obtain ⟨n, hn⟩ : ∃ n, s.rest.length = n := ⟨_, rfl⟩
  obtain ⟨k, hk⟩ : ∃ k, Mo.cp s.rest = k := ⟨_, rfl⟩
  have HN := Lib.hid hn
  have HS := Lib.hid hs
  have HG := Lib.hid h.good
  have H := Lib.hid h
  rw [hk, hn] at hq HLE
  rw [hk] at HCUT
  rw [hn] at hrl hc c9 HS H HCUT
  have hI := fun T hT => windex_any (.slice A n c) s.rest hi w HS.out HG.out.rest T hT
  rw [hk, hn] at hI
  have HI := Lib.hid hI
  clear h hs hn hk hI
  by_cases hlt : k < n
  · have hq1 : q = true := by rw [hq]; exact decide_eq_true hlt
    subst hq1
    have hI1 := HI.out (k : Int) (by rw [if_pos hlt])
    have HI1 := Lib.hid hI1
    have hk0 : ¬ (k : Int) < 0 := by omega
    have hkn : (k : Int) ≤ (n : Int) := by omega
    have hkc : (k : Int) ≤ (c : Int) := by omega
    have HK1 : Hid ((k : Int) + 1 ≤ (n : Int) ∧ (k : Int) + 1 ≤ (c : Int) ∧ (k : Int) ≤ 1000000) := Lib.hid (by omega)
    have HK := Lib.hid hlt
    clear hI1 hq
    go_enter Tryz.func119, Tryz.ntmps119
    go_wp2_with fail
    refine HI1.out.mono ?_
    rintro e w1 ⟨rfl, hb1⟩
    have H1 := Lib.hid (H.out.under hb1)
    have HB1 := Lib.hid hb1
    have HS1 := Lib.hid (HS.out.keep (Q := PartTy) (KeepB.below hb1) (.inr (.inr (.inr rfl))))
    have d9 : w1.cell? ⟨g, 9, none⟩ = some (.slice A n c) := H1.out.blk.at 9
    have f9 : w1.frozen? ⟨g, 9, none⟩ = false := H1.out.blk.free 9
    clear hb1 c9
    go_upto_region 5 with fail
    obtain ⟨m, hm⟩ : ∃ m, k + 1 = m := ⟨_, rfl⟩
    have hw : IntKind.i64.wrap ((k : Int) + 1) = (m : Int) := by rw [IntKind.wrap_i64]; have := HK1.out; omega
    have hmn : (m : Int) ≤ (n : Int) := by have := HK1.out; omega
    have hmc : (m : Int) ≤ (c : Int) := by have := HK1.out; omega
    have hm0 : (0 : Int) ≤ (m : Int) := by omega
    have hk00 : (0 : Int) ≤ (k : Int) := by omega
    have hkm : (k : Int) ≤ (m : Int) := by omega
    have HM := Lib.hid hm
    clear hm
    by_cases hcn : c = m
    all_goals
      refine wp_region_tail 17 (by kernel_rfl) (by kernel_rfl) ?_
      simp only [List.take_succ_cons, List.take_zero, List.drop_succ_cons, List.drop_zero]
      repeat still_step
      refine wpStill_nil ?_
      go_wp2
      go_ret2
      have hlm : m ≤ n := by omega
      have hlk : k ≤ n := by omega
      have hlc : k ≤ c := by omega
      refine ⟨_, rfl, ?_, ?_⟩
      · rw [HCUT.out]
        exact ((by first | exact HS1.out.head hlk hlc | (rw [← hcn]; exact HS1.out.head hlk hlc) : SlW w1 hi _ _).setReader H1.out.blk.ty).heap rfl
      · rw [HCUT.out]
        have hT : SlW w1 hi (.slice (if c = m then A else A.map fun x => x.add (m * 4)) (n - m) (c - m)) (s.rest.drop m) := HS1.out.tail hlm (by omega) (fun hlt b off e => by
          rw [if_neg (by omega), e, Option.map_some, add_plain])
        have h1 := H1.out.setRest hT (fun x hx => HG.out.rest x (drop_mem hx))
        have h2 := (Left.same HR.out HB1.out).on ⟨⟨_, _, _, h1⟩, grown_setCell _ ⟨g, 9, none⟩ _⟩
        have h3 : Left w base hi g lb mb { s with rest := s.rest.drop m } (w1.setCell ⟨g, 9, none⟩ (.slice (if c = m then A else A.map fun x => x.add (m * 4)) (n - m) (c - m))).drew := ⟨h2.1.heap rfl, ⟨h2.2.os, h2.2.tape, h2.2.output, h2.2.size, h2.2.block⟩⟩
        first
          | (rw [if_pos hcn, hcn, Nat.sub_self] at h3; rw [HM.out]; exact h3)
          | (rw [if_neg hcn] at h3; rw [HM.out]; exact h3)
  · have hkn : k = n := by have := HLE.out; omega
    have hq1 : q = false := by rw [hq]; exact decide_eq_false hlt
    subst hq1
    have hI1 := HI.out (-1) (by rw [if_neg hlt])
    have HI1 := Lib.hid hI1
    have f9 : w.frozen? ⟨g, 9, none⟩ = false := H.out.blk.free 9
    clear hI1 hq
    go_enter Tryz.func119, Tryz.ntmps119
    go_wp2_with fail
    refine HI1.out.mono ?_
    rintro e w1 ⟨rfl, hb1⟩
    have H1 := Lib.hid (H.out.under hb1)
    have HB1 := Lib.hid hb1
    have HS1 := Lib.hid (HS.out.keep (Q := PartTy) (KeepB.below hb1) (.inr (.inr (.inr rfl))))
    have d9 : w1.cell? ⟨g, 9, none⟩ = some (.slice A n c) := H1.out.blk.at 9
    have e9 : w1.frozen? ⟨g, 9, none⟩ = false := H1.out.blk.free 9
    clear hb1 c9 f9
    go_wp2
    go_ret2
    refine ⟨_, rfl, ?_, ?_⟩
    · rw [HCUT.out, hkn, ← HN.out, List.take_length]
      rw [← HN.out] at HS1
      exact HS1.out.setReader H1.out.blk.ty
    · rw [HCUT.out]
      have h1 := H1.out.setRest (slW_nil w1 hi) (fun x hx => by cases hx)
      have h2 := (Left.same HR.out HB1.out).on ⟨⟨_, _, _, h1⟩, grown_setCell _ ⟨g, 9, none⟩ _⟩
      rw [List.drop_eq_nil_of_le (by rw [HN.out]; omega)]
      exact h2
end Go.Proofs.YtgjehlegcmeeoaaGreatDoor
