/- The texts of words that are gone through one by one. -/
import Derived.Test.YtgjehlegcmeeoaaGreatDoorZ21
import Derived.Test.YtgjehlegcmeeoaaGreatDoorZ13
import Derived.Maps.OwnIn
import Derived.Test.YtgjehlegcmeeoaaGreatDoorZ03
import Derived.Test.YtgjehlegcmeeoaaGreatDoorZ05
namespace Go.Proofs.YtgjehlegcmeeoaaGreatDoor
set_option maxRecDepth 100000
open Go.ChangeShapes Go.WideShapes Go.ChangeAt Go.RowKit Go.Shelf

attribute [local go_sem] Oper.semAt_some

theorem wpListIn_append_text {F : Fence} {n : Nat} {w : World} {ops : Array Oper} {rest : List Oper} {o : Oper} {a : Act} {Q : Exit → Act → World → Prop} (hgd : o.guard = none) (s x : Operand)
    (ho : o.op = .call { callee := .builtin .append, args := #[s, x], argTypes := #[27, 27] }) (base B : Nat) (v : Value) (L : List (List Nat)) (l : List Nat) (hs : a.eval s = v) (hown : OwnT w base v L)
    (hx : a.eval x = .slice (some ⟨B, 0, none⟩) 1 1) (hB : w.cell? ⟨B, 0, none⟩ = some (.string (str l))) (hlen : L.length ≤ 1099511627776) (hbase : base ≤ w.heap.size) (r : List (List Nat)) (hr : L ++ [l] = r)
    (h : ∀ v' w', OwnT w' base v' r → w.grownBy w' v.ownBlock → Below base w w' → wpListIn F n Tryz.prog ops Q rest (a.put o.dst v') w') : wpListIn F n Tryz.prog ops Q (o :: rest) a w := by
  subst hr
  obtain ⟨i, hi, hz0, hz1, hz2⟩ := info_parts infoText
  refine wpListIn_append_own_at (w := w) hgd s x 27 ho base 9 i (.string ⟨#[]⟩) 1 16 Tryz.underlying27 hi hz0 hz1 hz2 rfl (by decide) v L.length (rowT L) hs hown ⟨B, 0, none⟩ 1 1 [.string (str l)] hx rfl ?_ ?_ (by unfold maxLen; omega) (by omega) hbase ?_
  · intro j u hu
    have hj : j = 0 := by
      rcases j with _ | j
      · rfl
      · simp at hu
    subst hj
    simp at hu
    subst hu
    rw [add_plain]
    exact hB
  · intro u hu
    simp at hu
    subst hu
    rfl
  · intro v' w' h1 h2 _ _
    refine h v' w' ?_ h2 ((Below.refl _ _).grown h2 hbase fun k hk => (World.ownsRow.lt hown k hk).1)
    unfold OwnT
    rw [List.length_append, show rowT (L ++ [l]) = rowT L ++ [.string (str l)] from List.map_append]
    exact h1
/-- The texts of the first k of a row. -/
def txts (xs : Nat → Ln.W) (k : Nat) : List (List Nat) := (List.range k).map fun i => (xs i).text
theorem txts_succ (xs : Nat → Ln.W) (k : Nat) : txts xs k ++ [(xs k).text] = txts xs (k + 1) := by unfold txts; rw [List.range_succ, List.map_append]; rfl
theorem txts_length (xs : Nat → Ln.W) (k : Nat) : (txts xs k).length = k := by unfold txts; simp
/-- What a consumer carries through the rounds stands whatever is turned from a place on. -/
def Stays (B : Nat) (D : Nat → World → Prop) : Prop := ∀ k A A', D k A → Below B A A' → D k A'
/-- What an iterator does leaves the blocks from a place on. -/
def Spares (B : Nat) (A A' : World) : Prop := A.heap.size ≤ A'.heap.size ∧ ∀ j, B ≤ j → j < A.heap.size → A'.heap[j]? = A.heap[j]?
theorem Spares.from {B : Nat} {A A' : World} (h : Spares B A A') : KeepsFrom B A A' := ⟨h.1, fun k _ hk ho _ => (h.2 k hk (Array.getElem?_eq_some_iff.1 ho).1).trans ho⟩
theorem Blk.spares {B g : Nat} {A A' : World} {t : TypeId} {cs : Array Value} (h : Blk A g t cs) (hs : Spares B A A') (hg : B ≤ g) : Blk A' g t cs := (hs.2 g hg h.size).trans h
theorem OwnT.spares {B base : Nat} {A A' : World} {v : Value} {L : List (List Nat)} (h : OwnT A base v L) (hs : Spares B A A') (hb : B ≤ base) : OwnT A' base v L := by
  have hl := h.lt
  refine ⟨h.1, ?_⟩
  rcases h.2 with h2 | ⟨g, cap, cur, rfl, hbg, hg, rest⟩
  · exact .inl h2
  · exact .inr ⟨g, cap, cur, rfl, hbg, (hs.2 g (by omega) (hl g rfl).2).trans hg, rest⟩
theorem keepsFrom_more {B B' : Nat} {A A' : World} (h : KeepsFrom B A A') (hB : B ≤ B') : KeepsFrom B' A A' := ⟨h.size, fun k o hk ho hc => h.same k o (by omega) ho hc⟩
theorem OwnT.more {w : World} {base base' : Nat} {v : Value} {L : List (List Nat)} (h : OwnT w base v L) (hb : base' ≤ base) : OwnT w base' v L := by
  refine ⟨h.1, ?_⟩
  rcases h.2 with h2 | ⟨g, cap, cur, e, hg, rest⟩
  · exact .inl h2
  · exact .inr ⟨g, cap, cur, e, Nat.le_trans hb hg, rest⟩
theorem OwnT.kept {w w' : World} {base : Nat} {v : Value} {L : List (List Nat)} {row : Option Nat} (h : OwnT w base v L) (hg : w.grownBy w' row) (hr : ∀ r, row = some r → ∃ o : Obj, w.heap[r]? = some o ∧ o.isCells = false) : OwnT w' base v L := by
  refine World.ownsRow.kept h hg ?_
  rcases hv : v.ownBlock with _ | g
  · exact .inl rfl
  · refine .inr fun e => ?_
    obtain ⟨o, ho, hc⟩ := hr g e.symm
    rw [own_cells h g o hv ho] at hc
    cases hc
set_option maxHeartbeats 8000000 in
theorem mtexts_any (gf : Nat) (lb : Array Value) (N : Nat) (xs : Nat → Ln.W) (Inv : Nat → World → Prop) (T : Nat → World → World → Prop) (TE : World → World → Prop) (hseq : IterG Tryz.prog gf lb wordEnc N xs Inv T TE)
    (heg : ∀ args w, (callFunc gf args).run Tryz.prog w = .ok (.enter gf args) w) (hN : N ≤ 1000000) (w : World) (D : Nat → World → Prop) (E : World → Prop) (hD : Stays w.heap.size D) (hE : Stays w.heap.size fun _ => E) (hInv : ∀ k W, D k W → Inv k W)
    (hT : ∀ k A B, k < N → D k A → T k A B → D (k + 1) B ∧ Spares w.heap.size A B) (hTE : ∀ A B, D N A → TE A B → E B ∧ Spares w.heap.size A B) (h0 : D 0 w) :
    Calls Tryz.prog 42 #[.func (.func gf) #[] lb] w fun e w' => ∃ u, e = .returned u ∧ OwnT w' w.heap.size u (txts xs N) ∧ E w' ∧ w.heap.size ≤ w'.heap.size := by
  have HD := Lib.hid hD
  have HE := Lib.hid hE
  have HT := Lib.hid hT
  have HTE := Lib.hid hTE
  have HI := Lib.hid hInv
  clear hD hE hT hTE hInv
  have hD0 : D 0 (w.alloc (.cells #[.slice none 0 0] 27)) := HD.out 0 _ _ h0 ((Below.refl _ w).alloc (Nat.le_refl _) _)
  have hB0 : Blk (w.alloc (.cells #[.slice none 0 0] 27)) w.heap.size 27 #[.slice none 0 0] := heap_alloc_new w _
  have H0 := Lib.hid hD0
  have HB0 := Lib.hid hB0
  clear h0 hD0 hB0
  refine (callsIn_wide (n := 0)).1 (callsIn_of_wp_marks Tryz.func42 rfl trivial (wpIn_wide.2 ?_) rfl)
  simp only [Tryz.ntmps42, List.size_toArray, List.length_cons, List.length_nil, Nat.reduceAdd, Nat.reduceSub, Array.replicate_succ, Array.replicate_zero, List.push_toArray, List.append_toArray, List.nil_append, List.cons_append]
  go_wp2_with fail
  refine wp_rangeG (gf := gf) (lb := lb) rfl heg hseq (fun _ => rfl)
    (fun k W => D k W ∧ (∃ hv, Blk W w.heap.size 27 #[hv] ∧ OwnT W (w.heap.size + 1) hv (txts xs k)) ∧ w.heap.size + 1 ≤ W.heap.size)
    (fun k W => D (k + 1) W ∧ (∃ hv, Blk W w.heap.size 27 #[hv] ∧ OwnT W (w.heap.size + 1) hv (txts xs k)) ∧ w.heap.size + 1 ≤ W.heap.size)
    (fun W => E W ∧ (∃ hv, Blk W w.heap.size 27 #[hv] ∧ OwnT W (w.heap.size + 1) hv (txts xs N)) ∧ w.heap.size + 1 ≤ W.heap.size)
    ?hI ?hE (fun k W h => HI.out k W h.1)
    (fun k A B hk h ht => ⟨⟨(HT.out k A B hk h.1 ht).1, h.2.1.imp fun hv hb => ⟨hb.1.spares (HT.out k A B hk h.1 ht).2 (Nat.le_refl _), hb.2.spares (HT.out k A B hk h.1 ht).2 (by omega)⟩, Nat.le_trans h.2.2 (HT.out k A B hk h.1 ht).2.1⟩, keepsFrom_more (HT.out k A B hk h.1 ht).2.from (by simp)⟩)
    (fun A B h ht => ⟨⟨(HTE.out A B h.1 ht).1, h.2.1.imp fun hv hb => ⟨hb.1.spares (HTE.out A B h.1 ht).2 (Nat.le_refl _), hb.2.spares (HTE.out A B h.1 ht).2 (by omega)⟩, Nat.le_trans h.2.2 (HTE.out A B h.1 ht).2.1⟩, keepsFrom_more (HTE.out A B h.1 ht).2.from (by simp)⟩)
    ⟨H0.out, ⟨_, HB0.out, ownT_none _ _⟩, by simp⟩
    (fun q W => ∃ p, q.2 = { tmps := #[.func (.func gf) #[] lb, undef, .slice none 0 0, .pointer (some ⟨w.heap.size, 0, none⟩), .pointer (some ⟨p, 0, none⟩), .func (.func gf) #[] lb, .agg (cellsW (xs q.1)).toArray, undef, undef, undef, undef, undef, undef], defers := [] } ∧
      Blk W p 55 (cellsW (xs q.1)).toArray ∧ w.heap.size + 1 ≤ p ∧ D (q.1 + 1) W ∧ (∃ hv, Blk W w.heap.size 27 #[hv] ∧ OwnT W (w.heap.size + 1) hv (txts xs q.1)) ∧ w.heap.size + 1 ≤ W.heap.size) ?hM ?assign ?body ?done
  case hI =>
    intro k A B row h hg hr
    exact ⟨HD.out k A B h.1 ((Below.refl _ _).grown hg (by have := h.2.2; omega) (fun r e => by have := (hr r e).1; simp at this; omega)), h.2.1.imp fun hv hb => ⟨hb.1.kept hg fun r e => (hr r e).2, hb.2.kept hg fun r e => (hr r e).2⟩, Nat.le_trans h.2.2 hg.size⟩
  case hM =>
    rintro ⟨k, a'⟩ A B row ⟨p, h1, h2, h3, h4, h5, h6⟩ hg hr
    exact ⟨p, h1, h2.kept hg fun r e => (hr r e).2, h3, HD.out (k + 1) A B h4 ((Below.refl _ _).grown hg (by omega) (fun r e => by have := (hr r e).1; simp at this; omega)), h5.imp fun hv hb => ⟨hb.1.kept hg fun r e => (hr r e).2, hb.2.kept hg fun r e => (hr r e).2⟩, Nat.le_trans h6 hg.size⟩
  case hE =>
    intro _ A B row h hg hr
    exact ⟨HE.out 0 A B h.1 ((Below.refl _ _).grown hg (by have := h.2.2; omega) (fun r e => by have := (hr r e).1; simp at this; omega)), h.2.1.imp fun hv hb => ⟨hb.1.kept hg fun r e => (hr r e).2, hb.2.kept hg fun r e => (hr r e).2⟩, Nat.le_trans h.2.2 hg.size⟩
  case assign =>
    intro l' k W K hk h hzW hK
    obtain ⟨x, hx⟩ : ∃ x, xs k = x := ⟨_, rfl⟩
    have ho : ∀ o, Below W.heap.size W (W.alloc o) := fun o => (Below.refl _ _).alloc (Nat.le_refl _) o
    have HKK := Lib.hid (hK { tmps := #[.func (.func gf) #[] lb, undef, .slice none 0 0, .pointer (some ⟨w.heap.size, 0, none⟩), .pointer (some ⟨W.heap.size, 0, none⟩), .func (.func gf) #[] lb, .agg (cellsW (xs k)).toArray, undef, undef, undef, undef, undef, undef], defers := [] }
      (W.alloc (.cells (cellsW (xs k)).toArray 55)) ((KeepsOthers.alloc W _).from _)
      ⟨W.heap.size, rfl, heap_alloc_new W _, h.2.2, HD.out _ _ _ h.1 ((ho _).mono (by have := h.2.2; omega)), h.2.1.imp fun hv hb => ⟨hb.1.under (ho _), hb.2.under (ho _)⟩, by have := h.2.2; simp; omega⟩)
    rw [hx] at HKK
    clear hK h ho
    dsimp only [wordEnc]
    rw [hx]
    obtain ⟨xt, xl, xc, xq⟩ := x
    rw [show (cellsW ⟨xt, xl, xc, xq⟩).toArray = #[.string (str xt), .int .i64 xl, .int .i64 xc, .bool xq] from rfl] at HKK ⊢
    gi_wp2
    exact HKK.out
  case body =>
    rintro l' k a' W hk ⟨p, ha, hp, hpz, hd, ⟨hv, h1, h2⟩, h3⟩ hzW
    dsimp only at ha hp hd h1 h2
    subst ha
    obtain ⟨x, hx⟩ : ∃ x, xs k = x := ⟨_, rfl⟩
    rw [hx] at hp ⊢
    have hp0 : W.cell? ⟨p, 0, none⟩ = some (.string (str x.text)) := hp.at 0
    have hx4 : W.cell? ⟨w.heap.size, 0, none⟩ = some hv := h1.at 0
    have hlp := hp.size
    have hR : txts xs k ++ [x.text] = txts xs (k + 1) := by rw [← hx]; exact txts_succ xs k
    have HR := Lib.hid hR
    have HL : Hid ((txts xs k).length = k) := Lib.hid (txts_length xs k)
    have H1 := Lib.hid h1
    have H2 := Lib.hid h2
    have HDD := Lib.hid hd
    obtain ⟨Lk, hLk⟩ : ∃ L, txts xs k = L := ⟨_, rfl⟩
    rw [hLk] at HR HL H2
    have hW : Below W.heap.size W (W.alloc (.cells #[.string (str x.text)] 9)) := (Below.refl _ _).alloc (Nat.le_refl _) _
    have HW := Lib.hid hW
    clear h1 h2 hd hx hR hLk hW hp
    gi_wp2_with (gi_at_builtin; refine wpListIn_append_text rfl _ _ rfl (w.heap.size + 1) W.heap.size hv Lk x.text rfl ?_ rfl ?_ ?_ ?_ (txts xs (k + 1)) HR.out ?_)
    case refine_1 => exact H2.out.under HW.out
    case refine_2 => exact (show Blk _ W.heap.size 9 #[.string (str x.text)] from heap_alloc_new W _).at 0
    case refine_3 => rw [HL.out]; omega
    case refine_4 => simp; omega
    case refine_5 =>
      intro v' w' ho hg hb
      have hbw : Below (w.heap.size + 1) W w' := (HW.out.mono h3).trans hb
      have hb4 := H1.out.below hbw (by omega)
      have hc4 : w'.cell? ⟨w.heap.size, 0, none⟩ = some hv := hb4.at 0
      have hf4 : w'.frozen? ⟨w.heap.size, 0, none⟩ = false := hb4.free 0
      have hone : v'.oneCell' = true := by
        rcases ho.2 with ⟨rfl, _⟩ | ⟨g, cap, cur, rfl, _⟩ <;> rfl
      obtain ⟨A', n', c', rfl⟩ : ∃ A n c, v' = .slice A n c := by
        rcases ho.2 with ⟨rfl, _⟩ | ⟨g, cap, cur, rfl, _⟩
        · exact ⟨_, _, _, rfl⟩
        · exact ⟨_, _, _, rfl⟩
      have hkf : KeepsFrom (w.heap.size + 1) W w' := ((KeepsOthers.alloc W _).trans (KeepsOthers.of_grownBy hg (own_cells (World.ownsRow.alloc H2.out _)))).from _
      have HO := Lib.hid ho
      have HB4 := Lib.hid hb4
      have HKF := Lib.hid hkf
      have HBW := Lib.hid hbw
      clear ho hb4 hkf hbw hg hb hx4
      gi_wp2
      refine ⟨by rw [World.size_alloc]; exact HKF.out.trans ((KeepsOthers.setCell _ _ _).from _), ?_, ⟨_, HB4.out.set 0 _, World.ownsRow.kept HO.out (grown_setCell _ ⟨w.heap.size, 0, none⟩ _) ?_⟩, ?_⟩
      · exact HD.out _ _ _ HDD.out (((HBW.out.mono (Nat.le_succ _)).setCell (p := ⟨w.heap.size, 0, none⟩) (Nat.le_refl _) _))
      · rcases hvo : (Value.slice A' n' c').ownBlock with _ | j
        · exact .inl rfl
        · refine .inr fun e => ?_
          injection e with e
          dsimp only at e
          have := (HO.out.lt _ hvo).1
          omega
      · have := HBW.out.size
        simp
        omega
  case done =>
    rintro Dn W hDn ⟨he, ⟨hv, h1, h2⟩, h3⟩ hK
    have hx : W.cell? ⟨w.heap.size, 0, none⟩ = some hv := h1.at 0
    go_wp2
    refine ⟨by simp, .inl ⟨_, _, rfl, run_takeDeferred hK, ?_⟩⟩
    refine ⟨_, results_tmp rfl _ _ _, hv, rfl, ?_, HE.out 0 _ _ he ((Below.refl _ _).grown (grownBy_putObj' _ Dn _) (by omega) (by rintro _ ⟨⟩; simp at hDn; omega)), by simp; omega⟩
    exact (h2.kept (grownBy_putObj' _ Dn _) (by rintro _ ⟨⟩; exact ⟨_, hK, rfl⟩)).more (by omega)
end Go.Proofs.YtgjehlegcmeeoaaGreatDoor

/- Package mani's own reader: Ins, and an Order. -/
namespace Go.Proofs.YtgjehlegcmeeoaaGreatDoor
set_option maxRecDepth 100000
open Go.ChangeShapes Go.WideShapes Go.ChangeAt Go.RowKit Go.Shelf

theorem Mo.run_le (stp : Ln.W → Mo.S → Mo.S) (most : Nat) (may : List Nat → Bool) : ∀ (l : List Ln.W) (n : Nat) (s : Mo.S), n ≤ most → (Mo.run stp most may l n s).1 ≤ most
  | [], n, s, h => h
  | w :: r, n, s, h => by
    unfold Mo.run
    split
    · exact h
    · split
      · exact h
      · split
        · exact h
        · exact Mo.run_le stp most may r (n + 1) _ (by omega)
theorem Mo.run_len (stp : Ln.W → Mo.S → Mo.S) (most : Nat) (may : List Nat → Bool) : ∀ (l : List Ln.W) (n : Nat) (s : Mo.S), (Mo.run stp most may l n s).1 ≤ n + l.length
  | [], n, s => Nat.le_refl _
  | w :: r, n, s => by
    unfold Mo.run
    split
    · simp
    · split
      · simp
      · split
        · simp
        · have := Mo.run_len stp most may r (n + 1) (stp w { s with rest := r })
          simp
          omega
theorem txts_take {ws : List Ln.W} {N : Nat} (h : N ≤ ws.length) : txts (fun k => ws.getD k Mo.word0) N = Mo.texts (ws.take N) := by
  unfold txts Mo.texts
  apply List.ext_getElem
  · simp; omega
  · intro i h1 h2
    simp at h1 h2 ⊢
    rw [List.getElem?_eq_getElem (by omega)]
    rfl
theorem still_step : Mo.Step Mo.still := fun _ _ => rfl
/-- What goes through names, and whoever is handed them, has turned so far: the reader's block, and new ones. -/
def Under (w : World) (base hi g lb mb z most F : Nat) (s : Mo.S) (stp : Ln.W → Mo.S → Mo.S) (k : Nat) (W : World) : Prop := Gone stp base hi g lb mb z most F s k W ∧ w.grownBy W (some g)
theorem grownBy_below {w A B : World} {g lo : Nat} (h : w.grownBy A (some g)) (hb : Below lo A B) (hlo : w.heap.size ≤ lo) : w.grownBy B (some g) :=
  ⟨hb.os.trans h.os, hb.tape.trans h.tape, hb.output.trans h.output, Nat.le_trans h.size hb.size, fun k hk hne => (hb.block k (by omega)).trans (h.block k hk hne)⟩
theorem under_stays (w : World) (base hi g lb mb z most F : Nat) (s : Mo.S) (stp : Ln.W → Mo.S → Mo.S) (hz : hi ≤ z) (hw : w.heap.size = z + 3) : Stays w.heap.size (Under w base hi g lb mb z most F s stp) := by
  rintro k A B ⟨⟨h1, h2, h3⟩, h4⟩ hb
  refine ⟨⟨h1.same (fun j hj => hb.block j (by omega)) hb.size, ⟨h2.1.below hb (by omega), h2.2.1.below hb (by omega), h2.2.2.below hb (by omega)⟩, Nat.le_trans h3 hb.size⟩, grownBy_below h4 hb (Nat.le_refl _)⟩
theorem left_spares {A B : World} {base hi g lb mb B0 : Nat} {s : Mo.S} (h : Left A base hi g lb mb s B) (hg : g < B0) : Spares B0 A B := ⟨h.2.size, fun j hj hA => h.2.block j hA (by intro e; injection e with e; omega)⟩
/-- What is left when all names have been gone through. -/
def After (w : World) (base hi g lb mb : Nat) (s : Mo.S) (W : World) : Prop := Left w base hi g lb mb s W
theorem after_stays (w : World) (base hi g lb mb : Nat) (s : Mo.S) (hz : hi ≤ w.heap.size) : Stays w.heap.size fun _ => After w base hi g lb mb s := by
  rintro k A B ⟨h1, h4⟩ hb
  exact ⟨h1.same (fun j hj => hb.block j (by omega)) hb.size, grownBy_below h4 hb (Nat.le_refl _)⟩
set_option maxHeartbeats 4000000 in
theorem mins_any (base hi g lb mb : Nat) (s : Mo.S) (w : World) (h : MRd w base hi g lb mb s) :
    Calls Tryz.prog 99 #[.pointer (some ⟨g, 0, none⟩)] w fun e w' => ∃ u, e = .returned u ∧ OwnT w' w.heap.size u (Mo.ins s).1 ∧ Left w base hi g lb mb (Mo.ins s).2 w' := by
  have ht := h.top
  have HR := Lib.hid h
  have hN := Mo.run_le Mo.still 8 Mo.file s.rest 0 s (by omega)
  have hL := Mo.run_len Mo.still 8 Mo.file s.rest 0 s
  have HTX := Lib.hid (txts_take (ws := s.rest) (N := (Mo.run Mo.still 8 Mo.file s.rest 0 s).1) (by omega))
  have HI : Hid (Mo.ins s = (Mo.texts (s.rest.take (Mo.run Mo.still 8 Mo.file s.rest 0 s).1), (Mo.run Mo.still 8 Mo.file s.rest 0 s).2)) := Lib.hid rfl
  have HN := Lib.hid hN
  have HTP := Lib.hid ht
  clear h hN hL ht
  go_enter Tryz.func99, Tryz.ntmps99
  go_wp2_with fail
  refine (mnames_any g 8 118 w).mono ?_
  rintro e w1 ⟨rfl, hbx, hb1, hz1⟩
  have HR1 := Lib.hid (HR.out.under hb1)
  have HB1 := Lib.hid hb1
  have HBX := Lib.hid hbx
  have HZ := Lib.hid hz1
  clear hb1 hbx hz1
  go_wp2_with fail
  refine (mtexts_any _ _ _ _ _ _ _ (names_iter Mo.still still_step base hi g lb mb w.heap.size 8 118 Mo.file may_file s (by omega) HTP.out.2.2.1)
    (enters_of Tryz.func115 (by kernel_rfl) rfl) (by have := HN.out; omega) w1 (Under w1 base hi g lb mb w.heap.size 8 118 s Mo.still) (After w1 base hi g lb mb (Mo.run Mo.still 8 Mo.file s.rest 0 s).2)
    (under_stays _ _ _ _ _ _ _ _ _ _ _ HTP.out.2.2.1 HZ.out) (after_stays _ _ _ _ _ _ _ (by have := HZ.out; have := HTP.out; omega)) (fun k W h => h.1)
    (fun k A B hk h ht => ⟨⟨⟨ht.1, h.1.2.1.grown ht.2 (by have := HTP.out; omega), Nat.le_trans h.1.2.2 ht.2.size⟩, mgrown_on h.2 ht.2⟩, left_spares ht (by have := HZ.out; have := HTP.out; omega)⟩)
    (fun A B h ht => ⟨⟨ht.1, mgrown_on h.2 ht.2⟩, left_spares ht (by have := HZ.out; have := HTP.out; omega)⟩)
    ⟨⟨HR1.out, HBX.out, by have := HZ.out; omega⟩, mgrown_same _ _⟩).mono ?_
  rintro e w2 ⟨u, rfl, ho, hl, _⟩
  rw [HTX.out] at ho
  have HO := Lib.hid ho
  have HLL := Lib.hid hl
  clear ho hl
  go_wp2
  go_ret
  refine ⟨u, rfl, ?_, ?_⟩
  · rw [HI.out]
    exact HO.out.more (by have := HZ.out; omega)
  · rw [HI.out]
    exact (Left.same HR.out HB1.out).on HLL.out
end Go.Proofs.YtgjehlegcmeeoaaGreatDoor

/- The words that are gone through one by one. -/
namespace Go.Proofs.YtgjehlegcmeeoaaGreatDoor
set_option maxRecDepth 100000
open Go.ChangeShapes Go.WideShapes Go.ChangeAt Go.RowKit Go.Shelf

attribute [local go_sem] Oper.semAt_some

theorem wpListIn_append_wrd {F : Fence} {n : Nat} {w : World} {ops : Array Oper} {rest : List Oper} {o : Oper} {a : Act} {Q : Exit → Act → World → Prop} (hgd : o.guard = none) (s x : Operand)
    (ho : o.op = .call { callee := .builtin .append, args := #[s, x], argTypes := #[53, 53] }) (base B : Nat) (v : Value) (L : List Ln.W) (z : Ln.W) (hs : a.eval s = v) (hown : OwnW w base v L)
    (hx : a.eval x = .slice (some ⟨B, 0, none⟩) 1 1) (hB : Blk w B 55 (cellsW z).toArray) (hlen : L.length ≤ 1099511627776) (hbase : base ≤ w.heap.size) (r : List Ln.W) (hr : L ++ [z] = r)
    (h : ∀ v' w', OwnW w' base v' r → w.grownBy w' v.ownBlock → Below base w w' → wpListIn F n Tryz.prog ops Q rest (a.put o.dst v') w') : wpListIn F n Tryz.prog ops Q (o :: rest) a w := by
  subst hr
  obtain ⟨i, hi, hz0, hz1, hz2⟩ := info_parts infoWord
  refine wpListIn_append_own_at (w := w) hgd s x 53 ho base 55 i (.agg #[.string ⟨#[]⟩, .int .i64 0, .int .i64 0, .bool false]) 4 40 Tryz.underlying53 hi hz0 hz1 hz2 (by kernel_rfl) (by decide) v L.length (rowW L) hs hown ⟨B, 0, none⟩ 1 1 (cellsW z) hx rfl ?_ (cellsW_one z) (by unfold maxLen; omega) (by omega) hbase ?_
  · intro j u hu
    rw [add_plain, Nat.zero_add, hB.at j, List.getElem?_toArray]
    exact hu
  · intro v' w' h1 h2 _ _
    refine h v' w' ?_ h2 ((Below.refl _ _).grown h2 hbase fun k hk => (World.ownsRow.lt hown k hk).1)
    unfold OwnW
    rw [List.length_append, rowW_snoc]
    exact h1
/-- The first k of a row of words. -/
def wds (xs : Nat → Ln.W) (k : Nat) : List Ln.W := (List.range k).map xs
theorem wds_succ (xs : Nat → Ln.W) (k : Nat) : wds xs k ++ [xs k] = wds xs (k + 1) := by unfold wds; rw [List.range_succ, List.map_append]; rfl
theorem wds_length (xs : Nat → Ln.W) (k : Nat) : (wds xs k).length = k := by unfold wds; simp
theorem wds_take {ws : List Ln.W} {N : Nat} (h : N ≤ ws.length) : wds (fun k => ws.getD k Mo.word0) N = ws.take N := by
  unfold wds
  apply List.ext_getElem
  · simp; omega
  · intro i h1 h2
    simp at h1 h2 ⊢
    rw [List.getElem?_eq_getElem (by omega)]
    rfl
theorem OwnW.spares {B base : Nat} {A A' : World} {v : Value} {L : List Ln.W} (h : OwnW A base v L) (hs : Spares B A A') (hb : B ≤ base) : OwnW A' base v L := by
  have hl := h.lt
  refine ⟨h.1, ?_⟩
  rcases h.2 with h2 | ⟨g, cap, cur, rfl, hbg, hg, rest⟩
  · exact .inl h2
  · exact .inr ⟨g, cap, cur, rfl, hbg, (hs.2 g (by omega) (hl g rfl).2).trans hg, rest⟩
theorem OwnW.kept {w w' : World} {base : Nat} {v : Value} {L : List Ln.W} {row : Option Nat} (h : OwnW w base v L) (hg : w.grownBy w' row) (hr : ∀ r, row = some r → ∃ o : Obj, w.heap[r]? = some o ∧ o.isCells = false) : OwnW w' base v L := by
  refine World.ownsRow.kept h hg ?_
  rcases hv : v.ownBlock with _ | g
  · exact .inl rfl
  · refine .inr fun e => ?_
    obtain ⟨o, ho, hc⟩ := hr g e.symm
    rw [own_cells h g o hv ho] at hc
    cases hc
set_option maxHeartbeats 8000000 in
theorem appendseq_any (gf : Nat) (lb : Array Value) (N : Nat) (xs : Nat → Ln.W) (Inv : Nat → World → Prop) (T : Nat → World → World → Prop) (TE : World → World → Prop) (hseq : IterG Tryz.prog gf lb wordEnc N xs Inv T TE)
    (heg : ∀ args w, (callFunc gf args).run Tryz.prog w = .ok (.enter gf args) w) (hN : N ≤ 1000000) (w : World) (D : Nat → World → Prop) (E : World → Prop) (hD : Stays w.heap.size D) (hE : Stays w.heap.size fun _ => E) (hInv : ∀ k W, D k W → Inv k W)
    (hT : ∀ k A B, k < N → D k A → T k A B → D (k + 1) B ∧ Spares w.heap.size A B) (hTE : ∀ A B, D N A → TE A B → E B ∧ Spares w.heap.size A B) (h0 : D 0 w) :
    Calls Tryz.prog 121 #[.slice none 0 0, .func (.func gf) #[] lb] w fun e w' => ∃ u, e = .returned u ∧ OwnW w' w.heap.size u (wds xs N) ∧ E w' ∧ w.heap.size ≤ w'.heap.size := by
  have HD := Lib.hid hD
  have HE := Lib.hid hE
  have HT := Lib.hid hT
  have HTE := Lib.hid hTE
  have HI := Lib.hid hInv
  clear hD hE hT hTE hInv
  have hD0 : D 0 (w.alloc (.cells #[.slice none 0 0] 53)) := HD.out 0 _ _ h0 ((Below.refl _ w).alloc (Nat.le_refl _) _)
  have hB0 : Blk (w.alloc (.cells #[.slice none 0 0] 53)) w.heap.size 53 #[.slice none 0 0] := heap_alloc_new w _
  have H0 := Lib.hid hD0
  have HB0 := Lib.hid hB0
  clear h0 hD0 hB0
  refine (callsIn_wide (n := 0)).1 (callsIn_of_wp_marks Tryz.func121 rfl trivial (wpIn_wide.2 ?_) rfl)
  simp only [Tryz.ntmps121, List.size_toArray, List.length_cons, List.length_nil, Nat.reduceAdd, Nat.reduceSub, Array.replicate_succ, Array.replicate_zero, List.push_toArray, List.append_toArray, List.nil_append, List.cons_append]
  go_wp2_with fail
  refine wp_rangeG (gf := gf) (lb := lb) rfl heg hseq (fun _ => rfl)
    (fun k W => D k W ∧ (∃ hv, Blk W w.heap.size 53 #[hv] ∧ OwnW W (w.heap.size + 1) hv (wds xs k)) ∧ w.heap.size + 1 ≤ W.heap.size)
    (fun k W => D (k + 1) W ∧ (∃ hv, Blk W w.heap.size 53 #[hv] ∧ OwnW W (w.heap.size + 1) hv (wds xs k)) ∧ w.heap.size + 1 ≤ W.heap.size)
    (fun W => E W ∧ (∃ hv, Blk W w.heap.size 53 #[hv] ∧ OwnW W (w.heap.size + 1) hv (wds xs N)) ∧ w.heap.size + 1 ≤ W.heap.size)
    ?hI ?hE (fun k W h => HI.out k W h.1)
    (fun k A B hk h ht => ⟨⟨(HT.out k A B hk h.1 ht).1, h.2.1.imp fun hv hb => ⟨hb.1.spares (HT.out k A B hk h.1 ht).2 (Nat.le_refl _), hb.2.spares (HT.out k A B hk h.1 ht).2 (by omega)⟩, Nat.le_trans h.2.2 (HT.out k A B hk h.1 ht).2.1⟩, keepsFrom_more (HT.out k A B hk h.1 ht).2.from (by simp)⟩)
    (fun A B h ht => ⟨⟨(HTE.out A B h.1 ht).1, h.2.1.imp fun hv hb => ⟨hb.1.spares (HTE.out A B h.1 ht).2 (Nat.le_refl _), hb.2.spares (HTE.out A B h.1 ht).2 (by omega)⟩, Nat.le_trans h.2.2 (HTE.out A B h.1 ht).2.1⟩, keepsFrom_more (HTE.out A B h.1 ht).2.from (by simp)⟩)
    ⟨H0.out, ⟨_, HB0.out, ownW_none _ _⟩, by simp⟩
    (fun q W => ∃ p, q.2 = { tmps := #[.slice none 0 0, .func (.func gf) #[] lb, .pointer (some ⟨w.heap.size, 0, none⟩), undef, .slice none 0 0, .pointer (some ⟨p, 0, none⟩), .func (.func gf) #[] lb, .agg (cellsW (xs q.1)).toArray, undef, undef, undef, undef, undef], defers := [] } ∧
      Blk W p 55 (cellsW (xs q.1)).toArray ∧ w.heap.size + 1 ≤ p ∧ D (q.1 + 1) W ∧ (∃ hv, Blk W w.heap.size 53 #[hv] ∧ OwnW W (w.heap.size + 1) hv (wds xs q.1)) ∧ w.heap.size + 1 ≤ W.heap.size) ?hM ?assign ?body ?done
  case hI =>
    intro k A B row h hg hr
    exact ⟨HD.out k A B h.1 ((Below.refl _ _).grown hg (by have := h.2.2; omega) (fun r e => by have := (hr r e).1; simp at this; omega)), h.2.1.imp fun hv hb => ⟨hb.1.kept hg fun r e => (hr r e).2, hb.2.kept hg fun r e => (hr r e).2⟩, Nat.le_trans h.2.2 hg.size⟩
  case hM =>
    rintro ⟨k, a'⟩ A B row ⟨p, h1, h2, h3, h4, h5, h6⟩ hg hr
    exact ⟨p, h1, h2.kept hg fun r e => (hr r e).2, h3, HD.out (k + 1) A B h4 ((Below.refl _ _).grown hg (by omega) (fun r e => by have := (hr r e).1; simp at this; omega)), h5.imp fun hv hb => ⟨hb.1.kept hg fun r e => (hr r e).2, hb.2.kept hg fun r e => (hr r e).2⟩, Nat.le_trans h6 hg.size⟩
  case hE =>
    intro _ A B row h hg hr
    exact ⟨HE.out 0 A B h.1 ((Below.refl _ _).grown hg (by have := h.2.2; omega) (fun r e => by have := (hr r e).1; simp at this; omega)), h.2.1.imp fun hv hb => ⟨hb.1.kept hg fun r e => (hr r e).2, hb.2.kept hg fun r e => (hr r e).2⟩, Nat.le_trans h.2.2 hg.size⟩
  case assign =>
    intro l' k W K hk h hzW hK
    obtain ⟨x, hx⟩ : ∃ x, xs k = x := ⟨_, rfl⟩
    have ho : ∀ o, Below W.heap.size W (W.alloc o) := fun o => (Below.refl _ _).alloc (Nat.le_refl _) o
    have HKK := Lib.hid (hK { tmps := #[.slice none 0 0, .func (.func gf) #[] lb, .pointer (some ⟨w.heap.size, 0, none⟩), undef, .slice none 0 0, .pointer (some ⟨W.heap.size, 0, none⟩), .func (.func gf) #[] lb, .agg (cellsW (xs k)).toArray, undef, undef, undef, undef, undef], defers := [] }
      (W.alloc (.cells (cellsW (xs k)).toArray 55)) ((KeepsOthers.alloc W _).from _)
      ⟨W.heap.size, rfl, heap_alloc_new W _, h.2.2, HD.out _ _ _ h.1 ((ho _).mono (by have := h.2.2; omega)), h.2.1.imp fun hv hb => ⟨hb.1.under (ho _), hb.2.under (ho _)⟩, by have := h.2.2; simp; omega⟩)
    rw [hx] at HKK
    clear hK h ho
    dsimp only [wordEnc]
    rw [hx]
    obtain ⟨xt, xl, xc, xq⟩ := x
    rw [show (cellsW ⟨xt, xl, xc, xq⟩).toArray = #[.string (str xt), .int .i64 xl, .int .i64 xc, .bool xq] from rfl] at HKK ⊢
    gi_wp2
    exact HKK.out
  case body =>
    rintro l' k a' W hk ⟨p, ha, hp, hpz, hd, ⟨hv, h1, h2⟩, h3⟩ hzW
    dsimp only at ha hp hd h1 h2
    subst ha
    obtain ⟨x, hx⟩ : ∃ x, xs k = x := ⟨_, rfl⟩
    rw [hx] at hp ⊢
    have hp0 : W.cell? ⟨p, 0, none⟩ = some (.string (str x.text)) := hp.at 0
    have hp1 : W.cell? ⟨p, 1, none⟩ = some (.int .i64 (x.line : Int)) := hp.at 1
    have hp2 : W.cell? ⟨p, 2, none⟩ = some (.int .i64 (x.col : Int)) := hp.at 2
    have hp3 : W.cell? ⟨p, 3, none⟩ = some (.bool x.q) := hp.at 3
    have hx4 : W.cell? ⟨w.heap.size, 0, none⟩ = some hv := h1.at 0
    have hlp := hp.size
    have hR : wds xs k ++ [x] = wds xs (k + 1) := by rw [← hx]; exact wds_succ xs k
    have HR := Lib.hid hR
    have HL : Hid ((wds xs k).length = k) := Lib.hid (wds_length xs k)
    have H1 := Lib.hid h1
    have H2 := Lib.hid h2
    have HDD := Lib.hid hd
    obtain ⟨Lk, hLk⟩ : ∃ L, wds xs k = L := ⟨_, rfl⟩
    rw [hLk] at HR HL H2
    have hW : Below W.heap.size W (W.alloc (.cells #[.string (str x.text), .int .i64 x.line, .int .i64 x.col, .bool x.q] 55)) := (Below.refl _ _).alloc (Nat.le_refl _) _
    have HW := Lib.hid hW
    clear h1 h2 hd hx hR hLk hW hp
    gi_wp2_with (gi_at_builtin; refine wpListIn_append_wrd rfl _ _ rfl (w.heap.size + 1) W.heap.size hv Lk x rfl ?_ rfl ?_ ?_ ?_ (wds xs (k + 1)) HR.out ?_)
    case refine_1 => exact H2.out.under HW.out
    case refine_2 => exact show Blk _ W.heap.size 55 (cellsW x).toArray from heap_alloc_new W _
    case refine_3 => rw [HL.out]; omega
    case refine_4 => simp; omega
    case refine_5 =>
      intro v' w' ho hg hb
      have hbw : Below (w.heap.size + 1) W w' := (HW.out.mono h3).trans hb
      have hb4 := H1.out.below hbw (by omega)
      have hc4 : w'.cell? ⟨w.heap.size, 0, none⟩ = some hv := hb4.at 0
      have hf4 : w'.frozen? ⟨w.heap.size, 0, none⟩ = false := hb4.free 0
      have hone : v'.oneCell' = true := by
        rcases ho.2 with ⟨rfl, _⟩ | ⟨g, cap, cur, rfl, _⟩ <;> rfl
      obtain ⟨A', n', c', rfl⟩ : ∃ A n c, v' = .slice A n c := by
        rcases ho.2 with ⟨rfl, _⟩ | ⟨g, cap, cur, rfl, _⟩
        · exact ⟨_, _, _, rfl⟩
        · exact ⟨_, _, _, rfl⟩
      have hkf : KeepsFrom (w.heap.size + 1) W w' := ((KeepsOthers.alloc W _).trans (KeepsOthers.of_grownBy hg (own_cells (World.ownsRow.alloc H2.out _)))).from _
      have HO := Lib.hid ho
      have HB4 := Lib.hid hb4
      have HKF := Lib.hid hkf
      have HBW := Lib.hid hbw
      clear ho hb4 hkf hbw hg hb hx4
      gi_wp2
      refine ⟨by rw [World.size_alloc]; exact HKF.out.trans ((KeepsOthers.setCell _ _ _).from _), ?_, ⟨_, HB4.out.set 0 _, World.ownsRow.kept HO.out (grown_setCell _ ⟨w.heap.size, 0, none⟩ _) ?_⟩, ?_⟩
      · exact HD.out _ _ _ HDD.out (((HBW.out.mono (Nat.le_succ _)).setCell (p := ⟨w.heap.size, 0, none⟩) (Nat.le_refl _) _))
      · rcases hvo : (Value.slice A' n' c').ownBlock with _ | j
        · exact .inl rfl
        · refine .inr fun e => ?_
          injection e with e
          dsimp only at e
          have := (HO.out.lt _ hvo).1
          omega
      · have := HBW.out.size
        simp
        omega
  case done =>
    rintro Dn W hDn ⟨he, ⟨hv, h1, h2⟩, h3⟩ hK
    have hx : W.cell? ⟨w.heap.size, 0, none⟩ = some hv := h1.at 0
    go_wp2
    refine ⟨by simp, .inl ⟨_, _, rfl, run_takeDeferred hK, ?_⟩⟩
    refine ⟨_, results_tmp rfl _ _ _, hv, rfl, ?_, HE.out 0 _ _ he ((Below.refl _ _).grown (grownBy_putObj' _ Dn _) (by omega) (by rintro _ ⟨⟩; simp at hDn; omega)), by simp; omega⟩
    exact (h2.kept (grownBy_putObj' _ Dn _) (by rintro _ ⟨⟩; exact ⟨_, hK, rfl⟩)).more (by omega)
set_option maxHeartbeats 4000000 in
theorem collect_any (gf : Nat) (lb : Array Value) (N : Nat) (xs : Nat → Ln.W) (Inv : Nat → World → Prop) (T : Nat → World → World → Prop) (TE : World → World → Prop) (hseq : IterG Tryz.prog gf lb wordEnc N xs Inv T TE)
    (heg : ∀ args w, (callFunc gf args).run Tryz.prog w = .ok (.enter gf args) w) (hN : N ≤ 1000000) (w : World) (D : Nat → World → Prop) (E : World → Prop) (hD : Stays w.heap.size D) (hE : Stays w.heap.size fun _ => E) (hInv : ∀ k W, D k W → Inv k W)
    (hT : ∀ k A B, k < N → D k A → T k A B → D (k + 1) B ∧ Spares w.heap.size A B) (hTE : ∀ A B, D N A → TE A B → E B ∧ Spares w.heap.size A B) (h0 : D 0 w) :
    Calls Tryz.prog 103 #[.func (.func gf) #[] lb] w fun e w' => ∃ u, e = .returned u ∧ OwnW w' w.heap.size u (wds xs N) ∧ E w' ∧ w.heap.size ≤ w'.heap.size := by
  have HC := Lib.hid (appendseq_any gf lb N xs Inv T TE hseq heg hN w D E hD hE hInv hT hTE h0)
  clear hseq heg hD hE hInv hT hTE h0
  go_enter Tryz.func103, Tryz.ntmps103
  go_wp2_with fail
  refine HC.out.mono ?_
  rintro e w2 ⟨u, rfl, ho, he, hz⟩
  have HO := Lib.hid ho
  have HE := Lib.hid he
  clear ho he
  go_wp2
  go_ret
  exact ⟨u, rfl, HO.out, HE.out, hz⟩
end Go.Proofs.YtgjehlegcmeeoaaGreatDoor

/- Package mani's own reader: the names of Default. -/
namespace Go.Proofs.YtgjehlegcmeeoaaGreatDoor
set_option maxRecDepth 100000
open Go.ChangeShapes Go.WideShapes Go.ChangeAt Go.RowKit Go.Shelf

/-- The chosen words are stored. -/
theorem MRdIn.setChosen {w : World} {base hi g lb mb : Nat} {cv cv' rv sv : Value} {s : Mo.S} {R : List Ln.W} (h : MRdIn w base hi g lb mb cv rv sv s) (hs : SlW w hi cv' R) (hR : ∀ x ∈ R, GoodW x) : MRdIn (w.setCell ⟨g, 2, none⟩ cv') base hi g lb mb cv' rv sv { s with chosen := R } := by
  have hg := grown_setCell w ⟨g, 2, none⟩ cv'
  have hty : Ty w g 57 := h.blk.ty
  have hk : KeepB w (w.setCell ⟨g, 2, none⟩ cv') hi PartTy := fun b t hb ht hq => hg.block b ht.lt (by
    intro e
    injection e with e
    subst e
    rcases hq with rfl | rfl | rfl | rfl <;> exact absurd rfl (ht.ne hty (by decide)))
  have kr : ∀ k, rv.ownBlock = some k → (w.setCell ⟨g, 2, none⟩ cv').heap[k]? = w.heap[k]? := fun k hk' => by
    have ht := h.rules.ty k hk'
    exact hg.block k ht.2.2 (by
      intro e
      injection e with e
      subst e
      exact absurd rfl (ht.1.ne hty (by decide)))
  have km : ∀ (b : Nat) (es : Array MapEntry) (c : Nat), w.heap[b]? = some (Obj.map es c) → (w.setCell ⟨g, 2, none⟩ cv').heap[b]? = w.heap[b]? := fun b es c hm => hg.block b (Array.getElem?_eq_some_iff.1 hm).1 (by
    intro e
    injection e with e
    subst e
    have := h.blk
    unfold Blk at this
    rw [hm] at this
    cases this)
  obtain ⟨f, h1, _⟩ := h.lets
  obtain ⟨es, c, hm⟩ := h1.map
  obtain ⟨es2, c2, hm2⟩ := MapIs.map h.makers
  exact ⟨h.blk.set 2 cv', hs.keep hk (.inr (.inr (.inr rfl))), h.rules.keep hk kr, h.rest.keep hk (.inr (.inr (.inr rfl))), h.lets.keep hk (km _ _ _ hm), MapIs.same h.makers (km _ _ _ hm2), h.g1, h.g2, h.l1, h.l2, h.m1, h.m2, h.lm, Nat.le_trans h.top hg.size, ⟨h.good.first, h.good.rest, hR, h.good.lets, h.good.rules⟩⟩
/-- What a line leaves. -/
def Lined (w : World) (base g lb mb : Nat) (s : Mo.S) (w' : World) : Prop := MRd w' base w'.heap.size g lb mb s ∧ Below base w w'
theorem left_lined {w w' : World} {base hi g lb mb : Nat} {s : Mo.S} (h : Left w base hi g lb mb s w') (hb : base ≤ w.heap.size) : Lined w base g lb mb s w' := by
  have ht := h.1.top
  exact ⟨h.1.more ht.2.2.1 (Nat.le_refl _), Below.ofGrown h.2 ht.1 hb⟩
theorem choose_is {s s1 s2 : Mo.S} {N : Nat} (h1 : s1 = if s.chosen = [] then s else Mo.fail 7 s.first s) (hN : (Mo.run Mo.still 8 Nm.ok s1.rest 0 s1).1 = N) (h2 : s2 = { (Mo.run Mo.still 8 Nm.ok s1.rest 0 s1).2 with chosen := s1.rest.take N }) :
    Mo.choose s = Mo.ends (if N = 0 then Mo.wrong s2 else s2) := by
  subst h2 hN
  unfold Mo.choose
  rw [← h1]
set_option maxHeartbeats 8000000 in
theorem choose_any (base hi g lb mb : Nat) (s : Mo.S) (w : World) (h : MRd w base hi g lb mb s) :
    Calls Tryz.prog 67 #[.pointer (some ⟨g, 0, none⟩)] w fun e w' => e = .returned (.tuple #[]) ∧ Lined w base g lb mb (Mo.choose s) w' := by
  have HR := Lib.hid h
  have HTP := Lib.hid h.top
  obtain ⟨cv, rv, sv, h⟩ := h
  have hs := h.chosen
  obtain ⟨A, c, rfl, _⟩ := hs.parts
  obtain ⟨n, hn⟩ : ∃ n, s.chosen.length = n := ⟨_, rfl⟩
  have c2 : w.cell? ⟨g, 2, none⟩ = some (.slice A s.chosen.length c) := h.blk.at 2
  obtain ⟨c5, c6, c7, c8⟩ := h.fst
  rw [hn] at c2
  have HN0 := Lib.hid hn
  clear hs h hn
  go_enter Tryz.func67, Tryz.ntmps67
  rcases Nat.eq_zero_or_pos n with h0 | h0
  · have HS1 : Hid (s = if s.chosen = [] then s else Mo.fail 7 s.first s) := Lib.hid (by rw [if_pos (List.eq_nil_of_length_eq_zero (HN0.out.trans h0))])
    have HL1 : Hid (Left w base hi g lb mb s w) := Lib.hid ⟨HR.out, mgrown_same _ _⟩
    subst h0
    go_wp2_with fail
    refine (mnames_any g 8 95 w).mono ?_
    rintro e w2 ⟨rfl, hbx, hb2, hz2⟩
    have HR2 := Lib.hid (HL1.out.1.under hb2)
    have HB2 := Lib.hid hb2
    have HBX := Lib.hid hbx
    have HZ := Lib.hid hz2
    have HT1 := Lib.hid HL1.out.1.top
    have hN := Mo.run_le Mo.still 8 Nm.ok s.rest 0 s (by omega)
    have hL := Mo.run_len Mo.still 8 Nm.ok s.rest 0 s
    have HTX := Lib.hid (wds_take (ws := s.rest) (N := (Mo.run Mo.still 8 Nm.ok s.rest 0 s).1) (by omega))
    have HN := Lib.hid hN
    clear hb2 hbx hz2 hN hL
    go_wp2_with fail
    refine (collect_any _ _ _ _ _ _ _ (names_iter Mo.still still_step base hi g lb mb w.heap.size 8 95 Nm.ok may_ok s (by omega) HT1.out.2.2.1)
      (enters_of Tryz.func115 (by kernel_rfl) rfl) (by have := HN.out; omega) w2 (Under w2 base hi g lb mb w.heap.size 8 95 s Mo.still) (After w2 base hi g lb mb (Mo.run Mo.still 8 Nm.ok s.rest 0 s).2)
      (under_stays _ _ _ _ _ _ _ _ _ _ _ HT1.out.2.2.1 HZ.out) (after_stays _ _ _ _ _ _ _ (by have := HZ.out; have := HT1.out; omega)) (fun k W h => h.1)
      (fun k A B hk h ht => ⟨⟨⟨ht.1, h.1.2.1.grown ht.2 (by have := HT1.out; omega), Nat.le_trans h.1.2.2 ht.2.size⟩, mgrown_on h.2 ht.2⟩, left_spares ht (by have := HZ.out; have := HT1.out; omega)⟩)
      (fun A B h ht => ⟨⟨ht.1, mgrown_on h.2 ht.2⟩, left_spares ht (by have := HZ.out; have := HT1.out; omega)⟩)
      ⟨⟨HR2.out, HBX.out, by have := HZ.out; omega⟩, mgrown_same _ _⟩).mono ?_
    rintro e w3 ⟨u, rfl, ho, hl, hz3⟩
    rw [HTX.out] at ho
    obtain ⟨N, hNN⟩ : ∃ N, (Mo.run Mo.still 8 Nm.ok s.rest 0 s).1 = N := ⟨_, rfl⟩
    have hln : (s.rest.take N).length = N := by
      have := Mo.run_len Mo.still 8 Nm.ok s.rest 0 s
      rw [List.length_take]
      omega
    rw [hNN] at ho
    have hsl := ho.slB (hi := w3.heap.size) (Nat.le_refl _)
    obtain ⟨A2, cc, rfl, _⟩ := hsl.parts
    rw [hln] at hsl ⊢
    have hL3 : Left w base hi g lb mb _ w3 := (HL1.out.under HB2.out).on hl
    obtain ⟨⟨cv3, rv3, sv3, h3⟩, hg3⟩ := hL3
    have hgood : ∀ x ∈ s.rest.take N, GoodW x := fun x hx => HL1.out.1.good.rest x (List.mem_of_mem_take hx)
    have hC := (h3.more h3.top (Nat.le_refl _)).setChosen hsl hgood
    have k2 : w3.cell? ⟨g, 2, none⟩ = some cv3 := h3.blk.at 2
    have f2 : w3.frozen? ⟨g, 2, none⟩ = false := h3.blk.free 2
    have HCH := Lib.hid (choose_is (s := s) (s1 := s) HS1.out hNN rfl)
    have HL4 := Lib.hid (show Left w base w3.heap.size g lb mb { (Mo.run Mo.still 8 Nm.ok s.rest 0 s).2 with chosen := s.rest.take N } (w3.setCell ⟨g, 2, none⟩ (.slice A2 N cc)) from ⟨⟨_, _, _, hC⟩, mgrown_on hg3 (grown_setCell _ ⟨g, 2, none⟩ _)⟩)
    have HG3 := Lib.hid hg3
    have hN8 : N ≤ 8 := by rw [← hNN]; exact HN.out
    clear ho hl hz3 hsl hln h3 hg3 hgood hC hNN
    rcases Nat.eq_zero_or_pos N with hz | hz
    · subst hz
      go_wp2_with fail
      refine (mwrong_any base w3.heap.size g lb mb _ _ HL4.out.1).mono ?_
      rintro e w5 ⟨rfl, hl5⟩
      have HL5 := Lib.hid (HL4.out.on hl5)
      clear hl5
      go_wp2_with fail
      refine (mend_any base w3.heap.size g lb mb _ _ HL5.out.1).mono ?_
      rintro e w6 ⟨rfl, hl6⟩
      have HL6 := Lib.hid (HL5.out.on hl6)
      clear hl6
      go_wp2
      go_end0
      exact ⟨rfl, by rw [HCH.out]; exact left_lined HL6.out (by have := HTP.out; omega)⟩
    · have hNz : ((N : Int) == 0) = false := by simp; omega
      have HNZ := Lib.hid (show N ≠ 0 by omega)
      go_wp2_with fail
      refine (mend_any base w3.heap.size g lb mb _ _ HL4.out.1).mono ?_
      rintro e w6 ⟨rfl, hl6⟩
      have HL6 := Lib.hid (HL4.out.on hl6)
      clear hl6
      go_wp2
      go_end0
      exact ⟨rfl, by rw [HCH.out, if_neg HNZ.out]; exact left_lined HL6.out (by have := HTP.out; omega)⟩
  · have HS1 : Hid (Mo.fail 7 s.first s = if s.chosen = [] then s else Mo.fail 7 s.first s) := Lib.hid (by rw [if_neg (fun e => by have := HN0.out; rw [e] at this; simp at this; omega)])
    have hn0 : (0 : Int) < (n : Int) := by omega
    go_wp2_with fail
    refine (mfail_any 7 s.first base hi g lb mb s _ HR.out).mono ?_
    rintro e w1 ⟨rfl, hl⟩
    have HL1 := Lib.hid hl
    clear hl c5 c6 c7 c8 c2
    go_wp2_with fail
    refine (mnames_any g 8 95 w1).mono ?_
    rintro e w2 ⟨rfl, hbx, hb2, hz2⟩
    have HR2 := Lib.hid (HL1.out.1.under hb2)
    have HB2 := Lib.hid hb2
    have HBX := Lib.hid hbx
    have HZ := Lib.hid hz2
    have HT1 := Lib.hid HL1.out.1.top
    have hN := Mo.run_le Mo.still 8 Nm.ok (Mo.fail 7 s.first s).rest 0 (Mo.fail 7 s.first s) (by omega)
    have hL := Mo.run_len Mo.still 8 Nm.ok (Mo.fail 7 s.first s).rest 0 (Mo.fail 7 s.first s)
    have HTX := Lib.hid (wds_take (ws := (Mo.fail 7 s.first s).rest) (N := (Mo.run Mo.still 8 Nm.ok (Mo.fail 7 s.first s).rest 0 (Mo.fail 7 s.first s)).1) (by omega))
    have HN := Lib.hid hN
    clear hb2 hbx hz2 hN hL
    go_wp2_with fail
    refine (collect_any _ _ _ _ _ _ _ (names_iter Mo.still still_step base hi g lb mb w1.heap.size 8 95 Nm.ok may_ok (Mo.fail 7 s.first s) (by omega) HT1.out.2.2.1)
      (enters_of Tryz.func115 (by kernel_rfl) rfl) (by have := HN.out; omega) w2 (Under w2 base hi g lb mb w1.heap.size 8 95 (Mo.fail 7 s.first s) Mo.still) (After w2 base hi g lb mb (Mo.run Mo.still 8 Nm.ok (Mo.fail 7 s.first s).rest 0 (Mo.fail 7 s.first s)).2)
      (under_stays _ _ _ _ _ _ _ _ _ _ _ HT1.out.2.2.1 HZ.out) (after_stays _ _ _ _ _ _ _ (by have := HZ.out; have := HT1.out; omega)) (fun k W h => h.1)
      (fun k A B hk h ht => ⟨⟨⟨ht.1, h.1.2.1.grown ht.2 (by have := HT1.out; omega), Nat.le_trans h.1.2.2 ht.2.size⟩, mgrown_on h.2 ht.2⟩, left_spares ht (by have := HZ.out; have := HT1.out; omega)⟩)
      (fun A B h ht => ⟨⟨ht.1, mgrown_on h.2 ht.2⟩, left_spares ht (by have := HZ.out; have := HT1.out; omega)⟩)
      ⟨⟨HR2.out, HBX.out, by have := HZ.out; omega⟩, mgrown_same _ _⟩).mono ?_
    rintro e w3 ⟨u, rfl, ho, hl, hz3⟩
    rw [HTX.out] at ho
    obtain ⟨N, hNN⟩ : ∃ N, (Mo.run Mo.still 8 Nm.ok (Mo.fail 7 s.first s).rest 0 (Mo.fail 7 s.first s)).1 = N := ⟨_, rfl⟩
    have hln : ((Mo.fail 7 s.first s).rest.take N).length = N := by
      have := Mo.run_len Mo.still 8 Nm.ok (Mo.fail 7 s.first s).rest 0 (Mo.fail 7 s.first s)
      rw [List.length_take]
      omega
    rw [hNN] at ho
    have hsl := ho.slB (hi := w3.heap.size) (Nat.le_refl _)
    obtain ⟨A2, cc, rfl, _⟩ := hsl.parts
    rw [hln] at hsl ⊢
    have hL3 : Left w base hi g lb mb _ w3 := (HL1.out.under HB2.out).on hl
    obtain ⟨⟨cv3, rv3, sv3, h3⟩, hg3⟩ := hL3
    have hgood : ∀ x ∈ (Mo.fail 7 s.first s).rest.take N, GoodW x := fun x hx => HL1.out.1.good.rest x (List.mem_of_mem_take hx)
    have hC := (h3.more h3.top (Nat.le_refl _)).setChosen hsl hgood
    have k2 : w3.cell? ⟨g, 2, none⟩ = some cv3 := h3.blk.at 2
    have f2 : w3.frozen? ⟨g, 2, none⟩ = false := h3.blk.free 2
    have HCH := Lib.hid (choose_is (s := s) (s1 := Mo.fail 7 s.first s) HS1.out hNN rfl)
    have HL4 := Lib.hid (show Left w base w3.heap.size g lb mb { (Mo.run Mo.still 8 Nm.ok (Mo.fail 7 s.first s).rest 0 (Mo.fail 7 s.first s)).2 with chosen := (Mo.fail 7 s.first s).rest.take N } (w3.setCell ⟨g, 2, none⟩ (.slice A2 N cc)) from ⟨⟨_, _, _, hC⟩, mgrown_on hg3 (grown_setCell _ ⟨g, 2, none⟩ _)⟩)
    have HG3 := Lib.hid hg3
    have hN8 : N ≤ 8 := by rw [← hNN]; exact HN.out
    clear ho hl hz3 hsl hln h3 hg3 hgood hC hNN
    rcases Nat.eq_zero_or_pos N with hz | hz
    · subst hz
      go_wp2_with fail
      refine (mwrong_any base w3.heap.size g lb mb _ _ HL4.out.1).mono ?_
      rintro e w5 ⟨rfl, hl5⟩
      have HL5 := Lib.hid (HL4.out.on hl5)
      clear hl5
      go_wp2_with fail
      refine (mend_any base w3.heap.size g lb mb _ _ HL5.out.1).mono ?_
      rintro e w6 ⟨rfl, hl6⟩
      have HL6 := Lib.hid (HL5.out.on hl6)
      clear hl6
      go_wp2
      go_end0
      exact ⟨rfl, by rw [HCH.out]; exact left_lined HL6.out (by have := HTP.out; omega)⟩
    · have hNz : ((N : Int) == 0) = false := by simp; omega
      have HNZ := Lib.hid (show N ≠ 0 by omega)
      go_wp2_with fail
      refine (mend_any base w3.heap.size g lb mb _ _ HL4.out.1).mono ?_
      rintro e w6 ⟨rfl, hl6⟩
      have HL6 := Lib.hid (HL4.out.on hl6)
      clear hl6
      go_wp2
      go_end0
      exact ⟨rfl, by rw [HCH.out, if_neg HNZ.out]; exact left_lined HL6.out (by have := HTP.out; omega)⟩
end Go.Proofs.YtgjehlegcmeeoaaGreatDoor

/- Package mani's own reader: what a name stands for from here on. -/
namespace Go.Proofs.YtgjehlegcmeeoaaGreatDoor
set_option maxRecDepth 100000
open Go.ChangeShapes Go.WideShapes Go.ChangeAt Go.RowKit Go.Shelf

attribute [local go_sem] Oper.semAt_some

/-- The name so far. -/
def keyAt (ws : List Ln.W) : Nat → List Nat
  | 0 => []
  | k + 1 => (ws.getD k Mo.word0).text
theorem lett_is {s s2 s3 : Mo.S} {N : Nat} (hN : (Mo.run Mo.still 1 Nm.ok s.rest 0 s).1 = N) (hN1 : N ≤ 1) (h2 : s2 = if N = 0 then Mo.wrong (Mo.run Mo.still 1 Nm.ok s.rest 0 s).2 else (Mo.run Mo.still 1 Nm.ok s.rest 0 s).2) (h3 : s3 = Mo.take 61 s2) :
    Mo.lett s = { (if 16 < s3.rest.length then Mo.fail 7 (s3.rest.getD 16 Mo.word0) s3 else s3) with lets := (if 16 < s3.rest.length then Mo.fail 7 (s3.rest.getD 16 Mo.word0) s3 else s3).lets ++ [(keyAt s.rest N, (if 16 < s3.rest.length then Mo.fail 7 (s3.rest.getD 16 Mo.word0) s3 else s3).rest)] } := by
  subst hN h3 h2
  unfold Mo.lett
  have hk : keyAt s.rest (Mo.run Mo.still 1 Nm.ok s.rest 0 s).1 = if (Mo.run Mo.still 1 Nm.ok s.rest 0 s).1 = 0 then [] else (s.rest.headD Mo.word0).text := by
    rcases Nat.eq_zero_or_pos (Mo.run Mo.still 1 Nm.ok s.rest 0 s).1 with h | h
    · rw [if_pos h, h]
      rfl
    · have h1 : (Mo.run Mo.still 1 Nm.ok s.rest 0 s).1 = 1 := by omega
      rw [if_neg (by omega), h1]
      unfold keyAt
      cases s.rest <;> rfl
  rw [hk]
theorem run_first {stp : Ln.W → Mo.S → Mo.S} {most : Nat} {may : List Nat → Bool} {s : Mo.S} (h : 0 < (Mo.run stp most may s.rest 0 s).1) : may (s.rest.getD 0 Mo.word0).text = true := by
  rcases hr : s.rest with _ | ⟨x, r⟩
  · rw [hr] at h
    exact absurd h (by unfold Mo.run; simp)
  · rw [hr] at h
    unfold Mo.run at h
    split at h
    · exact absurd h (by simp)
    · split at h
      · exact absurd h (by simp)
      · rename_i h2
        simp at h2
        exact h2.2
theorem ok_nil : Nm.ok [] = false := by decide
theorem gone_below {A B : World} {stp : Ln.W → Mo.S → Mo.S} {base hi g lb mb z most F k lo : Nat} {s : Mo.S} (h : Gone stp base hi g lb mb z most F s k A) (hb : Below lo A B) (h1 : hi ≤ lo) (h2 : z + 3 ≤ lo) : Gone stp base hi g lb mb z most F s k B :=
  ⟨h.1.same (fun j hj => hb.block j (by omega)) hb.size, ⟨h.2.1.1.below hb (by omega), h.2.1.2.1.below hb (by omega), h.2.1.2.2.below hb (by omega)⟩, Nat.le_trans h.2.2 hb.size⟩
theorem gone_set {A : World} {stp : Ln.W → Mo.S → Mo.S} {base hi g lb mb z most F k : Nat} {s : Mo.S} (h : Gone stp base hi g lb mb z most F s k A) {p : Addr} (h1 : hi ≤ p.block) (h2 : p.block < z) (u : Value) : Gone stp base hi g lb mb z most F s k (A.setCell p u) :=
  ⟨h.1.setHigh h1 u, ⟨h.2.1.1.setOther (by omega) u, h.2.1.2.1.setOther (by omega) u, h.2.1.2.2.setOther (by omega) u⟩, by simpa using h.2.2⟩
theorem grown_new {w A : World} {g : Nat} (h : w.grownBy A (some g)) {p : Addr} (hp : w.heap.size ≤ p.block) (u : Value) : w.grownBy (A.setCell p u) (some g) :=
  ⟨h.os, h.tape, h.output, by simpa using h.size, fun k hk hne => (Below.heap_setCell A p u k (by intro e; omega)).trans (h.block k hk hne)⟩
theorem find_snoc (t k : List Nat) (l : List Ln.W) : ∀ (L : Mn.Lets), Mn.find t (L ++ [(k, l)]) = if k = t then some l else Mn.find t L
  | [] => by
    rw [List.nil_append]
    unfold Mn.find Mn.find
    rfl
  | (u, m) :: r => by
    rw [List.cons_append]
    conv => lhs; unfold Mn.find
    rw [find_snoc t k l r]
    by_cases h : k = t
    · rw [if_pos h, if_pos h]
    · rw [if_neg h, if_neg h]
      conv => rhs; unfold Mn.find
/-- What is let is noted. -/
theorem MRdIn.putLet {w w' : World} {base hi g lb mb : Nat} {cv rv sv : Value} {s : Mo.S} {f : List Nat → Option Value} {K : List Nat} (h : MRdIn w base hi g lb mb cv rv sv s) (hf : ∀ t, (∀ c ∈ t, c < 256) → match Mn.find t s.lets with
      | none => f t = none
      | some l => ∃ v, f t = some v ∧ SlW w hi v l)
    (hm : MapIs w' lb (s.lets.length + 1) (fun u => if u = K then some sv else f u)) (hs : ∀ k, k ≠ lb → w'.heap[k]? = w.heap[k]?) (hz : w'.heap.size = w.heap.size) : MRdIn w' base hi g lb mb cv rv sv { s with lets := s.lets ++ [(K, s.rest)] } := by
  have km : ∀ (b : Nat) (t : TypeId), Ty w b t → w'.heap[b]? = w.heap[b]? := fun b t ht => hs b (by
    intro e
    subst e
    obtain ⟨f', h1, _⟩ := h.lets
    obtain ⟨es, c, hm⟩ := h1.map
    obtain ⟨cs, fr, ht⟩ := ht
    rw [hm] at ht
    cases ht)
  have hk : KeepB w w' hi PartTy := fun b t _ ht _ => km b t ht
  refine ⟨(km g _ h.blk.ty).trans h.blk, h.chosen.keep hk (.inr (.inr (.inr rfl))), h.rules.keep hk (fun k hk' => km k _ (h.rules.ty k hk').1), h.rest.keep hk (.inr (.inr (.inr rfl))), ⟨_, by rw [List.length_append]; exact hm, fun t ht => ?_⟩, MapIs.same h.makers (hs mb (Ne.symm h.lm)), h.g1, h.g2, h.l1, h.l2, h.m1, h.m2, h.lm, by rw [hz]; exact h.top, ⟨h.good.first, h.good.rest, h.good.chosen, fun p hp => ?_, h.good.rules⟩⟩
  · rw [find_snoc]
    by_cases he : K = t
    · rw [if_pos he]
      exact ⟨sv, by rw [if_pos he.symm], h.rest.keep hk (.inr (.inr (.inr rfl)))⟩
    · rw [if_neg he]
      have := hf t ht
      revert this
      cases Mn.find t s.lets with
      | none => exact fun h => by dsimp only; rw [if_neg (Ne.symm he)]; exact h
      | some l => exact fun ⟨v, h1, h2⟩ => ⟨v, by rw [if_neg (Ne.symm he)]; exact h1, h2.keep hk (.inr (.inr (.inr rfl)))⟩
  · rcases List.mem_append.1 hp with hp | hp
    · exact h.good.lets p hp
    · rw [List.mem_singleton.1 hp]
      exact h.good.rest
theorem fail_lets (k : Nat) (x : Ln.W) (s : Mo.S) : (Mo.fail k x s).lets = s.lets := by unfold Mo.fail; split <;> rfl
theorem wrong_lets (s : Mo.S) : (Mo.wrong s).lets = s.lets := fail_lets _ _ _
theorem take_lets (sg : Nat) (s : Mo.S) : (Mo.take sg s).lets = s.lets := by
  unfold Mo.take
  split
  · rfl
  · exact wrong_lets s
theorem run_still_lets (most : Nat) (may : List Nat → Bool) : ∀ (l : List Ln.W) (n : Nat) (s : Mo.S), (Mo.run Mo.still most may l n s).2.lets = s.lets
  | [], n, s => rfl
  | w :: r, n, s => by
    unfold Mo.run
    split
    · rfl
    · split
      · exact fail_lets _ _ _
      · split
        · exact fail_lets _ _ _
        · exact run_still_lets most may r (n + 1) _
theorem lined_put {w w7 : World} {base hi g lb mb D : Nat} {cv rv sv : Value} {s : Mo.S} (h : MRdIn w7 base hi g lb mb cv rv sv s) (hb : Below base w w7) (hD : hi ≤ D) (o : Obj) : Lined w base g lb mb s (w7.putObj D o) := by
  have h1 := h.same (w' := w7.putObj D o) (fun k hk => World.putObj_heap_other (by omega)) (by simp)
  have hbD : base ≤ D := by have := h.g1; have := h.g2; omega
  refine ⟨⟨cv, rv, sv, h1.more h1.top (Nat.le_refl _)⟩, ⟨hb.os, hb.tape, hb.output, by simpa using hb.size, fun k hk => (World.putObj_heap_other (by omega)).trans (hb.block k hk)⟩⟩
set_option maxHeartbeats 16000000 in
theorem mlet_any (base hi g lb mb : Nat) (s : Mo.S) (w : World) (h : MRd w base hi g lb mb s) (hlets : s.lets.length ≤ 1000000) :
    Calls Tryz.prog 64 #[.pointer (some ⟨g, 0, none⟩)] w fun e w' => e = .returned (.tuple #[]) ∧ Lined w base g lb mb (Mo.lett s) w' := by
  have HR := Lib.hid h
  have HTP := Lib.hid h.top
  have hN := Mo.run_le Mo.still 1 Nm.ok s.rest 0 s (by omega)
  have hL := Mo.run_len Mo.still 1 Nm.ok s.rest 0 s
  have HN := Lib.hid hN
  have HL := Lib.hid hL
  have HLT := Lib.hid hlets
  have HF : Hid (0 < (Mo.run Mo.still 1 Nm.ok s.rest 0 s).1 → Nm.ok (s.rest.getD 0 Mo.word0).text = true) := Lib.hid run_first
  clear h hN hL hlets
  refine (callsIn_wide (n := 0)).1 (callsIn_of_wp_marks Tryz.func64 rfl trivial (wpIn_wide.2 ?_) rfl)
  simp only [Tryz.ntmps64, List.size_toArray, List.length_cons, List.length_nil, Nat.reduceAdd, Nat.reduceSub, Array.replicate_succ, Array.replicate_zero, List.push_toArray, List.append_toArray, List.nil_append, List.cons_append]
  have HK0 : Hid (Blk (w.alloc (.cells #[.string (str [])] 9)) w.heap.size 9 #[.string (str [])]) := Lib.hid (heap_alloc_new w _)
  have HB0 : Hid (Below w.heap.size w (w.alloc (.cells #[.string (str [])] 9))) := Lib.hid ((Below.refl _ _).alloc (Nat.le_refl _) _)
  go_wp2_with fail
  refine (mnames_any g 1 95 _).mono ?_
  rintro e w1 ⟨rfl, hbx, hb1, hz1⟩
  rw [World.size_alloc] at hbx hz1 ⊢
  have HW1 := Lib.hid (HB0.out.trans (hb1.mono HB0.out.size))
  have HR1 := Lib.hid (HR.out.under HW1.out)
  have HK1 := Lib.hid (HK0.out.under hb1)
  have HBX := Lib.hid hbx
  have HZ := Lib.hid hz1
  clear hb1 hbx hz1 HK0 HB0
  go_wp2_with fail
  refine wp_rangeG (gf := 115) (lb := #[.pointer (some ⟨w.heap.size + 1, 0, none⟩), .pointer (some ⟨w.heap.size + 1 + 2, 0, none⟩), .pointer (some ⟨w.heap.size + 1 + 1, 0, none⟩)]) rfl
    (enters_of Tryz.func115 (by kernel_rfl) rfl) (names_iter Mo.still still_step base hi g lb mb (w.heap.size + 1) 1 95 Nm.ok may_ok s (by omega) (by have := HTP.out; omega)) (fun _ => rfl)
    (fun k W => Gone Mo.still base hi g lb mb (w.heap.size + 1) 1 95 s k W ∧ w.grownBy W (some g) ∧ Blk W w.heap.size 9 #[.string (str (keyAt s.rest k))])
    (fun k W => Gone Mo.still base hi g lb mb (w.heap.size + 1) 1 95 s (k + 1) W ∧ w.grownBy W (some g) ∧ Blk W w.heap.size 9 #[.string (str (keyAt s.rest k))])
    (fun W => MRd W base hi g lb mb (Mo.run Mo.still 1 Nm.ok s.rest 0 s).2 ∧ w.grownBy W (some g) ∧ Blk W w.heap.size 9 #[.string (str (keyAt s.rest (Mo.run Mo.still 1 Nm.ok s.rest 0 s).1))] ∧ w1.heap.size ≤ W.heap.size)
    ?hI ?hE (fun k W h => h.1)
    (fun k A B hk h ht => ⟨⟨⟨ht.1, h.1.2.1.grown ht.2 (by have := HTP.out; omega), Nat.le_trans h.1.2.2 ht.2.size⟩, mgrown_on h.2.1 ht.2, h.2.2.grown ht.2 (by have := HTP.out; intro e; injection e with e; omega)⟩, (left_spares (B0 := w1.heap.size) ht (by have := HZ.out; have := HTP.out; omega)).from⟩)
    (fun A B h ht => ⟨⟨ht.1, mgrown_on h.2.1 ht.2, h.2.2.grown ht.2 (by have := HTP.out; intro e; injection e with e; omega), Nat.le_trans (by have := h.1.2.2; have := HZ.out; omega) ht.2.size⟩, (left_spares (B0 := w1.heap.size) ht (by have := HZ.out; have := HTP.out; omega)).from⟩)
    ⟨⟨HR1.out, HBX.out, by have := HZ.out; omega⟩, Below.toGrown HW1.out _, HK1.out⟩
    (fun q W => ∃ p, q.2 = { tmps := #[.pointer (some ⟨g, 0, none⟩), undef, .pointer (some ⟨w.heap.size, 0, none⟩), .pointer (some ⟨p, 0, none⟩), .pointer (some ⟨g, 0, none⟩), .func (.func 115) #[] #[.pointer (some ⟨w.heap.size + 1, 0, none⟩), .pointer (some ⟨w.heap.size + 1 + 2, 0, none⟩), .pointer (some ⟨w.heap.size + 1 + 1, 0, none⟩)], .agg (cellsW (s.rest.getD q.1 Mo.word0)).toArray, undef, undef, undef, undef, undef, undef, undef, undef, undef, undef, undef, undef, undef, undef, undef, undef, undef, undef, undef, undef, undef, undef, undef, undef, undef, undef, undef, undef, undef, undef, undef], defers := [] } ∧ Blk W p 55 (cellsW (s.rest.getD q.1 Mo.word0)).toArray ∧ w1.heap.size ≤ p ∧
      Gone Mo.still base hi g lb mb (w.heap.size + 1) 1 95 s (q.1 + 1) W ∧ w.grownBy W (some g) ∧ Blk W w.heap.size 9 #[.string (str (keyAt s.rest q.1))]) ?hM ?assign ?body ?done
  case hI =>
    intro k A B row h hg hr
    have hb : Below w1.heap.size A B := (Below.refl _ _).grown hg (by have := h.1.2.2; have := HZ.out; omega) (fun r e => (hr r e).1)
    exact ⟨gone_below h.1 hb (by have := HTP.out; have := HZ.out; omega) (by have := HZ.out; omega), grownBy_below h.2.1 hb (by have := HZ.out; omega), h.2.2.kept hg fun r e => (hr r e).2⟩
  case hM =>
    rintro ⟨k, a'⟩ A B row ⟨p, h1, h2, h3, h4, h5, h6⟩ hg hr
    have hb : Below w1.heap.size A B := (Below.refl _ _).grown hg (by have := h4.2.2; have := HZ.out; omega) (fun r e => (hr r e).1)
    exact ⟨p, h1, h2.kept hg fun r e => (hr r e).2, h3, gone_below h4 hb (by have := HTP.out; have := HZ.out; omega) (by have := HZ.out; omega), grownBy_below h5 hb (by have := HZ.out; omega), h6.kept hg fun r e => (hr r e).2⟩
  case hE =>
    intro _ A B row h hg hr
    have hb : Below w1.heap.size A B := (Below.refl _ _).grown hg h.2.2.2 (fun r e => (hr r e).1)
    exact ⟨h.1.same (fun j hj => hb.block j (by have := HTP.out; have := HZ.out; omega)) hb.size, grownBy_below h.2.1 hb (by have := HZ.out; omega), h.2.2.1.kept hg fun r e => (hr r e).2, Nat.le_trans h.2.2.2 hg.size⟩
  case assign =>
    intro l' k W K hk h hzW hK
    have ho : ∀ o, Below W.heap.size W (W.alloc o) := fun o => (Below.refl _ _).alloc (Nat.le_refl _) o
    have HKK := Lib.hid (hK { tmps := #[.pointer (some ⟨g, 0, none⟩), undef, .pointer (some ⟨w.heap.size, 0, none⟩), .pointer (some ⟨W.heap.size, 0, none⟩), .pointer (some ⟨g, 0, none⟩), .func (.func 115) #[] #[.pointer (some ⟨w.heap.size + 1, 0, none⟩), .pointer (some ⟨w.heap.size + 1 + 2, 0, none⟩), .pointer (some ⟨w.heap.size + 1 + 1, 0, none⟩)], .agg (cellsW (s.rest.getD k Mo.word0)).toArray, undef, undef, undef, undef, undef, undef, undef, undef, undef, undef, undef, undef, undef, undef, undef, undef, undef, undef, undef, undef, undef, undef, undef, undef, undef, undef, undef, undef, undef, undef, undef], defers := [] }
      (W.alloc (.cells (cellsW (s.rest.getD k Mo.word0)).toArray 55)) ((KeepsOthers.alloc W _).from _)
      ⟨W.heap.size, rfl, heap_alloc_new W _, hzW, gone_below h.1 (ho _) (by have := HTP.out; have := HZ.out; omega) (by have := HZ.out; omega), grownBy_below h.2.1 (ho _) (by have := HZ.out; omega), h.2.2.under (ho _)⟩)
    obtain ⟨x, hx⟩ : ∃ x, s.rest.getD k Mo.word0 = x := ⟨_, rfl⟩
    rw [hx] at HKK
    clear hK h ho
    dsimp only [wordEnc]
    rw [hx]
    obtain ⟨xt, xl, xc, xq⟩ := x
    rw [show (cellsW ⟨xt, xl, xc, xq⟩).toArray = #[.string (str xt), .int .i64 xl, .int .i64 xc, .bool xq] from rfl] at HKK ⊢
    gi_wp2
    exact HKK.out
  case body =>
    rintro l' k a' W hk ⟨p, ha, hp, hpz, h4, h5, h6⟩ hzW
    dsimp only at ha hp h4 h6
    subst ha
    have hp0 : W.cell? ⟨p, 0, none⟩ = some (.string (str (s.rest.getD k Mo.word0).text)) := hp.at 0
    have hx4 : W.cell? ⟨w.heap.size, 0, none⟩ = some (.string (str (keyAt s.rest k))) := h6.at 0
    have hf4 : W.frozen? ⟨w.heap.size, 0, none⟩ = false := h6.free 0
    have H4 := Lib.hid (gone_set h4 (p := ⟨w.heap.size, 0, none⟩) (show hi ≤ w.heap.size by have := HTP.out; omega) (show w.heap.size < w.heap.size + 1 by omega) (.string (str (s.rest.getD k Mo.word0).text)))
    have H5 := Lib.hid (grown_new h5 (p := ⟨w.heap.size, 0, none⟩) (Nat.le_refl _) (.string (str (s.rest.getD k Mo.word0).text)))
    have H6 := Lib.hid (h6.set 0 (.string (str (s.rest.getD k Mo.word0).text)))
    clear h4 h5 h6 hp
    gi_wp2
    exact ⟨(KeepsOthers.setCell _ _ _).from _, H4.out, H5.out, H6.out⟩
  case done =>
    rintro Dn W hDn ⟨h1, h2, h3, hW1⟩ hK
    have HDN : Hid (hi ≤ Dn ∧ w.heap.size < Dn) := Lib.hid (by have := HTP.out; have := HZ.out; omega)
    have hL0 : Left w base hi g lb mb (Mo.run Mo.still 1 Nm.ok s.rest 0 s).2 W := ⟨h1, h2⟩
    have HL0 := Lib.hid hL0
    have HK0 := Lib.hid hK
    have HX0 := Lib.hid h3
    have HN1 := Lib.hid HN.out
    obtain ⟨N, hNN⟩ : ∃ N, (Mo.run Mo.still 1 Nm.ok s.rest 0 s).1 = N := ⟨_, rfl⟩
    have HNN := Lib.hid hNN
    rw [hNN] at HX0 h3 HN1 HF
    have hc0 : W.cell? ⟨w.heap.size, 0, none⟩ = some (.string (str (keyAt s.rest N))) := h3.at 0
    have hKb : (∀ c ∈ keyAt s.rest N, c < 256) ∧ (keyAt s.rest N).length ≤ 1000000 := by
      rcases Nat.eq_zero_or_pos N with hz | hz
      · rw [hz]; exact ⟨by simp [keyAt], by simp [keyAt]⟩
      · have h1 : N = 1 := by have := HN1.out; omega
        have hlen : 0 < s.rest.length := by have := HL.out; omega
        have hg := HR.out.good.rest (s.rest.getD 0 Mo.word0) (by rw [List.getD_eq_getElem?_getD, List.getElem?_eq_getElem hlen]; exact List.getElem_mem hlen)
        rw [h1]
        exact ⟨hg.bytes, hg.len⟩
    have HKB := Lib.hid hKb
    clear h1 h2 h3 hK hL0 hKb
    rcases Nat.eq_zero_or_pos N with hz | hz
    · subst hz
      have hc0' : W.cell? ⟨w.heap.size, 0, none⟩ = some (.string ⟨#[]⟩) := hc0
      have HS2 : Hid (Mo.wrong (Mo.run Mo.still 1 Nm.ok s.rest 0 s).2 = if 0 = 0 then Mo.wrong (Mo.run Mo.still 1 Nm.ok s.rest 0 s).2 else (Mo.run Mo.still 1 Nm.ok s.rest 0 s).2) := Lib.hid (by simp)
      clear hc0 hNN
      go_wp2_with fail
      refine (mwrong_any base hi g lb mb _ _ HL0.out.1).mono ?_
      rintro e w4 ⟨rfl, hl4⟩
      have HL4 := Lib.hid (HL0.out.on hl4)
      have HK2 := Lib.hid ((hl4.2.block Dn (Array.getElem?_eq_some_iff.1 HK0.out).1 (by intro e; injection e with e; have := HTP.out; have := HDN.out; omega)).trans HK0.out)
      have HX2 := Lib.hid (HX0.out.grown hl4.2 (by have := HTP.out; intro e; injection e with e; omega))
      clear hl4 hc0'
      go_wp2_with fail
      refine (mtake_any 61 (by decide) base hi g lb mb _ _ HL4.out.1).mono ?_
      rintro e w5 ⟨rfl, hl5⟩
      have HL5 := Lib.hid (HL4.out.on hl5)
      have HK5 := Lib.hid ((hl5.2.block Dn (by have := (Array.getElem?_eq_some_iff.1 HK2.out).1; exact this) (by intro e; injection e with e; have := HTP.out; have := HDN.out; omega)).trans HK2.out)
      have HX5 := Lib.hid (HX2.out.grown hl5.2 (by have := HTP.out; intro e; injection e with e; omega))
      obtain ⟨s3, hs3⟩ : ∃ s3, Mo.take 61 (Mo.wrong (Mo.run Mo.still 1 Nm.ok s.rest 0 s).2) = s3 := ⟨_, rfl⟩
      rw [hs3] at HL5
      have HS3 := Lib.hid hs3.symm
      clear hl5 hs3
      have hin := HL5.out.1
      obtain ⟨cv, rv, sv, hin⟩ := hin
      have hsl := hin.rest
      obtain ⟨A3, c3, rfl, hc3⟩ := hsl.parts
      have c9 : w5.cell? ⟨g, 9, none⟩ = some (.slice A3 s3.rest.length c3) := hin.blk.at 9
      have HIN := Lib.hid hin
      obtain ⟨n3, hn3⟩ : ∃ n, s3.rest.length = n := ⟨_, rfl⟩
      have HN3 := Lib.hid hn3
      rw [hn3] at c9 HIN hc3
      have HSL := Lib.hid (show SlW w5 hi (.slice A3 n3 c3) s3.rest by rw [← hn3]; exact hsl)
      clear hin hsl hn3
      have HLE := Lib.hid (lett_is (s := s) (s2 := (Mo.wrong (Mo.run Mo.still 1 Nm.ok s.rest 0 s).2)) (s3 := s3) HNN.out HN1.out HS2.out HS3.out)
      by_cases hbig : 16 < n3
      · have hb1 : (16 : Int) < (n3 : Int) := by omega
        have HBIG : Hid (16 < s3.rest.length) := Lib.hid (by rw [HN3.out]; exact hbig)
        obtain ⟨x, hx⟩ : ∃ x, s3.rest.getD 16 Mo.word0 = x := ⟨_, rfl⟩
        obtain ⟨b, off, rfl, hbh, hty, e0, e1, e2, e3⟩ := HSL.out.at 16 (by rw [HN3.out]; exact hbig) x hx
        simp only [Nat.reduceMul] at e0 e1 e2 e3
        have HXX := Lib.hid hx
        clear hbig hx
        go_wp2_with fail
        refine (mfail_any 7 x base hi g lb mb s3 _ HL5.out.1).mono ?_
        rintro e w6 ⟨rfl, hl6⟩
        have HL6 := Lib.hid (HL5.out.on hl6)
        have HK6 := Lib.hid ((hl6.2.block Dn (Array.getElem?_eq_some_iff.1 HK5.out).1 (by intro e; injection e with e; have := HTP.out; have := HDN.out; omega)).trans HK5.out)
        have HX6 := Lib.hid (HX5.out.grown hl6.2 (by have := HTP.out; intro e; injection e with e; omega))
        have HLE2 := Lib.hid (HLE.out.trans (by rw [if_pos HBIG.out, HXX.out]))
        clear hl6 e0 e1 e2 e3 c9 hty hbh
        have HLS : Hid ((Mo.fail 7 x s3).lets.length = s.lets.length) := Lib.hid (by rw [fail_lets, HS3.out, take_lets, wrong_lets, run_still_lets])
        obtain ⟨cv6, rv6, sv6, hin6⟩ := HL6.out.1
        have g0 : w6.cell? ⟨g, 0, none⟩ = some (.map (some lb)) := hin6.blk.at 0
        have g9 : w6.cell? ⟨g, 9, none⟩ = some sv6 := hin6.blk.at 9
        have kc0 : w6.cell? ⟨w.heap.size, 0, none⟩ = some (.string (str (keyAt s.rest 0))) := HX6.out.at 0
        obtain ⟨f6, hm6, hf6⟩ := hin6.lets
        have hlen6 : (Mo.fail 7 x s3).lets.length ≤ 1000000 := by rw [HLS.out]; exact HLT.out
        obtain ⟨w7, hst, hm7, hg7, hs7, hz7⟩ := MapIs.run_store (w := (w6).drew) (MapIs.same hm6 rfl) Tryz.underlying51 (by omega) HKB.out.1 (by have := HKB.out.2; omega) sv6
        have HIN7 := Lib.hid (hin6.putLet hf6 hm7 hs7 hz7)
        have HG7 := Lib.hid (show w.grownBy w7 (some g) ∨ True from .inr trivial)
        have HB7 : Hid (Below base w w7) := Lib.hid (by
          have hb : Below base w w6 := Below.ofGrown HL6.out.2 (by have := HTP.out; omega) (by have := HTP.out; omega)
          have hb2 : Below base (w6).drew w7 := Below.ofGrown hg7 (by have := HTP.out; omega) (by have := hin6.top; have := HTP.out; show base ≤ w6.heap.size; omega)
          exact ⟨hb2.os.trans hb.os, hb2.tape.trans hb.tape, hb2.output.trans hb.output, Nat.le_trans hb.size hb2.size, fun k hk => (hb2.block k hk).trans (hb.block k hk)⟩)
        have HK7 : Hid (w7.heap[Dn]? = some (.deferred (some []))) := Lib.hid ((hs7 Dn (by have := HTP.out; have := HDN.out; omega)).trans HK6.out)
        clear hin6 hm6 hf6 hlen6 hm7 hg7 hs7 hz7
        go_wp2_with (go_region)
        refine ⟨by simp, .inl ⟨_, _, rfl, run_takeDeferred HK7.out, ?_⟩⟩
        refine ⟨_, results_none rfl _ _ _, rfl, ?_⟩
        rw [HLE2.out]
        exact lined_put HIN7.out HB7.out HDN.out.1 _
      · have hb1 : ¬ (16 : Int) < (n3 : Int) := by omega
        have HBIG : Hid (¬ 16 < s3.rest.length) := Lib.hid (by rw [HN3.out]; exact hbig)
        have HLE2 := Lib.hid (HLE.out.trans (by rw [if_neg HBIG.out]))
        clear hbig c9
        have HLS : Hid (s3.lets.length = s.lets.length) := Lib.hid (by rw [HS3.out, take_lets, wrong_lets, run_still_lets])
        have hin6 := HIN.out
        have g0 : w5.cell? ⟨g, 0, none⟩ = some (.map (some lb)) := hin6.blk.at 0
        have g9 : w5.cell? ⟨g, 9, none⟩ = some (.slice A3 n3 c3) := hin6.blk.at 9
        have kc0 : w5.cell? ⟨w.heap.size, 0, none⟩ = some (.string (str (keyAt s.rest 0))) := HX5.out.at 0
        obtain ⟨f6, hm6, hf6⟩ := hin6.lets
        have hlen6 : (s3).lets.length ≤ 1000000 := by rw [HLS.out]; exact HLT.out
        obtain ⟨w7, hst, hm7, hg7, hs7, hz7⟩ := MapIs.run_store (w := (w5).drew) (MapIs.same hm6 rfl) Tryz.underlying51 (by omega) HKB.out.1 (by have := HKB.out.2; omega) (.slice A3 n3 c3)
        have HIN7 := Lib.hid (hin6.putLet hf6 hm7 hs7 hz7)
        have HG7 := Lib.hid (show w.grownBy w7 (some g) ∨ True from .inr trivial)
        have HB7 : Hid (Below base w w7) := Lib.hid (by
          have hb : Below base w w5 := Below.ofGrown HL5.out.2 (by have := HTP.out; omega) (by have := HTP.out; omega)
          have hb2 : Below base (w5).drew w7 := Below.ofGrown hg7 (by have := HTP.out; omega) (by have := hin6.top; have := HTP.out; show base ≤ w5.heap.size; omega)
          exact ⟨hb2.os.trans hb.os, hb2.tape.trans hb.tape, hb2.output.trans hb.output, Nat.le_trans hb.size hb2.size, fun k hk => (hb2.block k hk).trans (hb.block k hk)⟩)
        have HK7 : Hid (w7.heap[Dn]? = some (.deferred (some []))) := Lib.hid ((hs7 Dn (by have := HTP.out; have := HDN.out; omega)).trans HK5.out)
        clear hin6 hm6 hf6 hlen6 hm7 hg7 hs7 hz7
        go_wp2_with (go_region)
        refine ⟨by simp, .inl ⟨_, _, rfl, run_takeDeferred HK7.out, ?_⟩⟩
        refine ⟨_, results_none rfl _ _ _, rfl, ?_⟩
        rw [HLE2.out]
        exact lined_put HIN7.out HB7.out HDN.out.1 _
    · have h1 : N = 1 := by have := HN1.out; omega
      subst h1
      have hne := HF.out (by omega)
      rcases hkk : keyAt s.rest 1 with _ | ⟨kc, kr⟩
      · change (s.rest.getD 0 Mo.word0).text = [] at hkk
        rw [hkk, ok_nil] at hne
        cases hne
      have HKK := Lib.hid hkk
      rw [hkk] at hc0
      have hse := str_some kc kr
      have HS2 : Hid ((Mo.run Mo.still 1 Nm.ok s.rest 0 s).2 = if 1 = 0 then Mo.wrong (Mo.run Mo.still 1 Nm.ok s.rest 0 s).2 else (Mo.run Mo.still 1 Nm.ok s.rest 0 s).2) := Lib.hid (by simp)
      have HK2 := HK0
      have HX2 := HX0
      clear hne hkk hz hNN
      go_wp2_with fail
      refine (mtake_any 61 (by decide) base hi g lb mb _ _ HL0.out.1).mono ?_
      rintro e w5 ⟨rfl, hl5⟩
      have HL5 := Lib.hid (HL0.out.on hl5)
      have HK5 := Lib.hid ((hl5.2.block Dn (by have := (Array.getElem?_eq_some_iff.1 HK2.out).1; exact this) (by intro e; injection e with e; have := HTP.out; have := HDN.out; omega)).trans HK2.out)
      have HX5 := Lib.hid (HX2.out.grown hl5.2 (by have := HTP.out; intro e; injection e with e; omega))
      obtain ⟨s3, hs3⟩ : ∃ s3, Mo.take 61 (Mo.run Mo.still 1 Nm.ok s.rest 0 s).2 = s3 := ⟨_, rfl⟩
      rw [hs3] at HL5
      have HS3 := Lib.hid hs3.symm
      clear hl5 hs3
      have hin := HL5.out.1
      obtain ⟨cv, rv, sv, hin⟩ := hin
      have hsl := hin.rest
      obtain ⟨A3, c3, rfl, hc3⟩ := hsl.parts
      have c9 : w5.cell? ⟨g, 9, none⟩ = some (.slice A3 s3.rest.length c3) := hin.blk.at 9
      have HIN := Lib.hid hin
      obtain ⟨n3, hn3⟩ : ∃ n, s3.rest.length = n := ⟨_, rfl⟩
      have HN3 := Lib.hid hn3
      rw [hn3] at c9 HIN hc3
      have HSL := Lib.hid (show SlW w5 hi (.slice A3 n3 c3) s3.rest by rw [← hn3]; exact hsl)
      clear hin hsl hn3
      have HLE := Lib.hid (lett_is (s := s) (s2 := (Mo.run Mo.still 1 Nm.ok s.rest 0 s).2) (s3 := s3) HNN.out HN1.out HS2.out HS3.out)
      by_cases hbig : 16 < n3
      · have hb1 : (16 : Int) < (n3 : Int) := by omega
        have HBIG : Hid (16 < s3.rest.length) := Lib.hid (by rw [HN3.out]; exact hbig)
        obtain ⟨x, hx⟩ : ∃ x, s3.rest.getD 16 Mo.word0 = x := ⟨_, rfl⟩
        obtain ⟨b, off, rfl, hbh, hty, e0, e1, e2, e3⟩ := HSL.out.at 16 (by rw [HN3.out]; exact hbig) x hx
        simp only [Nat.reduceMul] at e0 e1 e2 e3
        have HXX := Lib.hid hx
        clear hbig hx
        go_wp2_with fail
        refine (mfail_any 7 x base hi g lb mb s3 _ HL5.out.1).mono ?_
        rintro e w6 ⟨rfl, hl6⟩
        have HL6 := Lib.hid (HL5.out.on hl6)
        have HK6 := Lib.hid ((hl6.2.block Dn (Array.getElem?_eq_some_iff.1 HK5.out).1 (by intro e; injection e with e; have := HTP.out; have := HDN.out; omega)).trans HK5.out)
        have HX6 := Lib.hid (HX5.out.grown hl6.2 (by have := HTP.out; intro e; injection e with e; omega))
        have HLE2 := Lib.hid (HLE.out.trans (by rw [if_pos HBIG.out, HXX.out]))
        clear hl6 e0 e1 e2 e3 c9 hty hbh
        have HLS : Hid ((Mo.fail 7 x s3).lets.length = s.lets.length) := Lib.hid (by rw [fail_lets, HS3.out, take_lets, run_still_lets])
        obtain ⟨cv6, rv6, sv6, hin6⟩ := HL6.out.1
        have g0 : w6.cell? ⟨g, 0, none⟩ = some (.map (some lb)) := hin6.blk.at 0
        have g9 : w6.cell? ⟨g, 9, none⟩ = some sv6 := hin6.blk.at 9
        have kc0 : w6.cell? ⟨w.heap.size, 0, none⟩ = some (.string (str (keyAt s.rest 1))) := HX6.out.at 0
        obtain ⟨f6, hm6, hf6⟩ := hin6.lets
        have hlen6 : (Mo.fail 7 x s3).lets.length ≤ 1000000 := by rw [HLS.out]; exact HLT.out
        obtain ⟨w7, hst, hm7, hg7, hs7, hz7⟩ := MapIs.run_store (w := (w6).drew) (MapIs.same hm6 rfl) Tryz.underlying51 (by omega) HKB.out.1 (by have := HKB.out.2; omega) sv6
        have HIN7 := Lib.hid (hin6.putLet hf6 hm7 hs7 hz7)
        have HG7 := Lib.hid (show w.grownBy w7 (some g) ∨ True from .inr trivial)
        have HB7 : Hid (Below base w w7) := Lib.hid (by
          have hb : Below base w w6 := Below.ofGrown HL6.out.2 (by have := HTP.out; omega) (by have := HTP.out; omega)
          have hb2 : Below base (w6).drew w7 := Below.ofGrown hg7 (by have := HTP.out; omega) (by have := hin6.top; have := HTP.out; show base ≤ w6.heap.size; omega)
          exact ⟨hb2.os.trans hb.os, hb2.tape.trans hb.tape, hb2.output.trans hb.output, Nat.le_trans hb.size hb2.size, fun k hk => (hb2.block k hk).trans (hb.block k hk)⟩)
        have HK7 : Hid (w7.heap[Dn]? = some (.deferred (some []))) := Lib.hid ((hs7 Dn (by have := HTP.out; have := HDN.out; omega)).trans HK6.out)
        clear hin6 hm6 hf6 hlen6 hm7 hg7 hs7 hz7
        go_wp2_with (go_region)
        refine ⟨by simp, .inl ⟨_, _, rfl, run_takeDeferred HK7.out, ?_⟩⟩
        refine ⟨_, results_none rfl _ _ _, rfl, ?_⟩
        rw [HLE2.out]
        exact lined_put HIN7.out HB7.out HDN.out.1 _
      · have hb1 : ¬ (16 : Int) < (n3 : Int) := by omega
        have HBIG : Hid (¬ 16 < s3.rest.length) := Lib.hid (by rw [HN3.out]; exact hbig)
        have HLE2 := Lib.hid (HLE.out.trans (by rw [if_neg HBIG.out]))
        clear hbig c9
        have HLS : Hid (s3.lets.length = s.lets.length) := Lib.hid (by rw [HS3.out, take_lets, run_still_lets])
        have hin6 := HIN.out
        have g0 : w5.cell? ⟨g, 0, none⟩ = some (.map (some lb)) := hin6.blk.at 0
        have g9 : w5.cell? ⟨g, 9, none⟩ = some (.slice A3 n3 c3) := hin6.blk.at 9
        have kc0 : w5.cell? ⟨w.heap.size, 0, none⟩ = some (.string (str (keyAt s.rest 1))) := HX5.out.at 0
        obtain ⟨f6, hm6, hf6⟩ := hin6.lets
        have hlen6 : (s3).lets.length ≤ 1000000 := by rw [HLS.out]; exact HLT.out
        obtain ⟨w7, hst, hm7, hg7, hs7, hz7⟩ := MapIs.run_store (w := (w5).drew) (MapIs.same hm6 rfl) Tryz.underlying51 (by omega) HKB.out.1 (by have := HKB.out.2; omega) (.slice A3 n3 c3)
        have HIN7 := Lib.hid (hin6.putLet hf6 hm7 hs7 hz7)
        have HG7 := Lib.hid (show w.grownBy w7 (some g) ∨ True from .inr trivial)
        have HB7 : Hid (Below base w w7) := Lib.hid (by
          have hb : Below base w w5 := Below.ofGrown HL5.out.2 (by have := HTP.out; omega) (by have := HTP.out; omega)
          have hb2 : Below base (w5).drew w7 := Below.ofGrown hg7 (by have := HTP.out; omega) (by have := hin6.top; have := HTP.out; show base ≤ w5.heap.size; omega)
          exact ⟨hb2.os.trans hb.os, hb2.tape.trans hb.tape, hb2.output.trans hb.output, Nat.le_trans hb.size hb2.size, fun k hk => (hb2.block k hk).trans (hb.block k hk)⟩)
        have HK7 : Hid (w7.heap[Dn]? = some (.deferred (some []))) := Lib.hid ((hs7 Dn (by have := HTP.out; have := HDN.out; omega)).trans HK5.out)
        clear hin6 hm6 hf6 hlen6 hm7 hg7 hs7 hz7
        go_wp2_with (go_region)
        refine ⟨by simp, .inl ⟨_, _, rfl, run_takeDeferred HK7.out, ?_⟩⟩
        refine ⟨_, results_none rfl _ _ _, rfl, ?_⟩
        rw [HLE2.out]
        exact lined_put HIN7.out HB7.out HDN.out.1 _
end Go.Proofs.YtgjehlegcmeeoaaGreatDoor

/- The words of a row, one by one: what is made of a row. -/
namespace Go.Proofs.YtgjehlegcmeeoaaGreatDoor
set_option maxRecDepth 100000
open Go.ChangeShapes Go.WideShapes Go.ChangeAt Go.RowKit Go.Shelf

set_option maxHeartbeats 4000000 in
theorem values_any (A : Option Addr) (n c : Nat) (w : World) :
    Calls Tryz.prog 43 #[.slice A n c] w fun e w' => e = .returned (.func (.func 71) #[] #[.pointer (some ⟨w.heap.size, 0, none⟩)]) ∧ Blk w' w.heap.size 53 #[.slice A n c] ∧ Below w.heap.size w w' ∧ w'.heap.size = w.heap.size + 1 := by
  have HB : Hid (Blk (w.alloc (.cells #[.slice A n c] 53)) w.heap.size 53 #[.slice A n c]) := Lib.hid (heap_alloc_new w _)
  have HW : Hid (Below w.heap.size w (w.alloc (.cells #[.slice A n c] 53))) := Lib.hid ((Below.refl _ _).alloc (Nat.le_refl _) _)
  go_enter Tryz.func43, Tryz.ntmps43
  go_wp2
  go_ret
  exact ⟨rfl, HB.out, HW.out, by simp⟩
end Go.Proofs.YtgjehlegcmeeoaaGreatDoor

/- The words of a row, one by one: what the function that goes through them owes. -/
namespace Go.Proofs.YtgjehlegcmeeoaaGreatDoor
set_option maxRecDepth 100000
open Go.ChangeShapes Go.WideShapes Go.ChangeAt Go.RowKit Go.Shelf

attribute [local go_sem] Oper.semAt_some

/-- A row of words, and the variable that holds it. -/
def ValsAt (W : World) (z hi : Nat) (v : Value) (R : List Ln.W) : Prop := Blk W z 53 #[v] ∧ SlW W hi v R
set_option maxHeartbeats 8000000 in
theorem values_iter (z hi : Nat) (v : Value) (R : List Ln.W) (hlen : R.length ≤ 1000000) :
    IterG Tryz.prog 71 #[.pointer (some ⟨z, 0, none⟩)] wordEnc R.length (fun k => R.getD k Mo.word0)
      (fun _ W => ValsAt W z hi v R) (fun _ A B => Below A.heap.size A B) (fun A B => A = B) := by
  intro l J M E W hInv hT hTE hY h0
  have HI := Lib.hid hInv
  have HT := Lib.hid hT
  have HE := Lib.hid hTE
  have HY := Lib.hid hY
  obtain ⟨n, hn⟩ : ∃ n, R.length = n := ⟨_, rfl⟩
  have HN := Lib.hid hn
  rw [hn] at hlen
  obtain ⟨A, c, rfl, hlc⟩ := (hInv 0 W h0).2.parts
  have q0 : W.cell? ⟨z, 0, none⟩ = some (.slice A n c) := by rw [← hn]; exact (hInv 0 W h0).1.at 0
  rw [hn] at HI HT HE HY
  clear hInv hT hTE hY hn hlc
  refine callsIn_of_wp Tryz.func71 rfl trivial ?_ rfl
  simp only [Tryz.ntmps71, List.size_toArray, List.length_cons, List.length_nil, Nat.reduceAdd, Nat.reduceSub, Array.replicate_succ, Array.replicate_zero, List.push_toArray, List.append_toArray, List.nil_append, List.cons_append]
  gi_wp2
  gi_loopw [7] (fun i wr => ∃ k : Nat, i = .int .i64 (k : Int) ∧ J k wr ∧ k ≤ n) (fun i _ => n - (intOf i).toNat)
  case atStart => exact ⟨0, rfl, h0, Nat.zero_le _⟩
  case round =>
    obtain ⟨k, rfl, hj, hkn⟩ := hrel
    have HJ := Lib.hid hj
    by_cases hlt : k < n
    · have hkI : (k : Int) < (n : Int) := by omega
      have hkL : k < R.length := by rw [HN.out]; exact hlt
      obtain ⟨x, hx⟩ : ∃ x, R.getD k Mo.word0 = x := ⟨_, rfl⟩
      have hsl := (HI.out k wr hj).2
      obtain ⟨b, off, rfl, _, _, e0, e1, e2, e3⟩ := hsl.at k hkL x hx
      obtain ⟨B, hB⟩ : ∃ B, wr.alloc (.cells #[.string (str x.text), .int .i64 x.line, .int .i64 x.col, .bool x.q] 55) = B := ⟨_, rfl⟩
      obtain ⟨fn, tmps, assign, body, hy, hRd⟩ := HY.out k B hlt (HT.out k wr B hlt HJ.out (by subst hB; exact (Below.refl _ _).alloc (Nat.le_refl _) _))
      rw [hx] at hy
      change (Instr.yield l #[.agg #[.string (str x.text), .int .i64 x.line, .int .i64 x.col, .bool x.q]]).run _ _ = _ at hy
      subst hB
      clear hx hsl hj
      gi_wp2_with fail
      refine ⟨rfl, hRd.mono ?_⟩
      rintro e w3 ⟨rfl, hj3⟩
      clear hy hRd
      gi_wp2
      go_roundw
      case rel => exact ⟨k + 1, by go_num, hj3, hlt⟩
      case measure => simp [intOf]; omega
    · have hkI : ¬ (k : Int) < (n : Int) := by omega
      obtain rfl : k = n := by omega
      have HF := Lib.hid (HE.out wr wr hj rfl)
      clear hj
      gi_wp2
      refine bodyPost_end (results_none rfl _ _ _) rfl ?_
      exact ⟨⟨_, rfl⟩, HF.out⟩
end Go.Proofs.YtgjehlegcmeeoaaGreatDoor
