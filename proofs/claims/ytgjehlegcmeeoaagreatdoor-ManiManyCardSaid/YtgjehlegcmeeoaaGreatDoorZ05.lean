/- Rows of things that are done: read, kept, grown by one; two that are the same are told so. -/
import Derived.Test.YtgjehlegcmeeoaaGreatDoorZ03
import Derived.Test.YtgjehlegcmeeoaaGreatDoorZ00
import Derived.Maps.AppendAt
import Derived.RegionTactic
import Derived.BigQuiet
import Derived.Deep.QuietTactic
import Derived.Laws.Rows
namespace Go.Proofs.YtgjehlegcmeeoaaGreatDoor
set_option maxRecDepth 100000
open Go.ChangeShapes Go.WideShapes Go.ChangeAt Go.RowKit

def cellsD (x : Ac.D) : List Value := [.int .i64 (x.kind : Int), .int .i64 (x.n : Int), .string (str x.text)]
def rowD (L : List Ac.D) : List Value := L.flatMap cellsD
theorem cellsD_len (x : Ac.D) : (cellsD x).length = 3 := rfl
theorem cellsD_one (x : Ac.D) : ∀ u ∈ cellsD x, u.oneCell' = true := by
  intro u hu
  simp only [cellsD, List.mem_cons, List.not_mem_nil, or_false] at hu
  rcases hu with rfl | rfl | rfl <;> rfl
theorem rowD_len (L : List Ac.D) : (rowD L).length = L.length * 3 := by
  induction L with
  | nil => rfl
  | cons x L ih =>
    simp only [rowD, List.flatMap_cons, List.length_append, cellsD_len, List.length_cons] at ih ⊢
    omega
theorem rowD_snoc (L : List Ac.D) (x : Ac.D) : rowD (L ++ [x]) = rowD L ++ cellsD x := by simp [rowD]
theorem rowD_at : ∀ (L : List Ac.D) (k j : Nat) (h : k < L.length), j < 3 → (rowD L)[k * 3 + j]? = (cellsD (L[k]'h))[j]?
  | x :: L, 0, j, _, hj => by
    rw [rowD, List.flatMap_cons, List.getElem?_append_left (by rw [cellsD_len]; omega), Nat.zero_mul, Nat.zero_add]
    rfl
  | x :: L, k + 1, j, h, hj => by
    rw [rowD, List.flatMap_cons, List.getElem?_append_right (by rw [cellsD_len]; omega), cellsD_len, show (k + 1) * 3 + j - 3 = k * 3 + j from by omega]
    exact rowD_at L k j (by simpa using h) hj
/-- A row of things of the call's own. -/
def OwnD (w : World) (base : Nat) (v : Value) (L : List Ac.D) : Prop := w.ownsRow base 101 3 v L.length (rowD L)
theorem ownD_none (w : World) (base : Nat) : OwnD w base (.slice none 0 0) [] := World.ownsRow_nil w base _ 3
theorem OwnD.grown {w w' : World} {row : Option Nat} {base : Nat} {v : Value} {L : List Ac.D} (h : OwnD w base v L) (hg : w.grownBy w' row) (hne : v.ownBlock = none ∨ v.ownBlock ≠ row) : OwnD w' base v L := World.ownsRow.kept h hg hne
theorem OwnD.under {w w' : World} {base : Nat} {v : Value} {L : List Ac.D} (h : OwnD w base v L) (hb : Below w.heap.size w w') : OwnD w' base v L := h.grown (Below.toGrown hb none) (by cases v.ownBlock <;> simp)
theorem OwnD.alloc {w : World} {base : Nat} {v : Value} {L : List Ac.D} (h : OwnD w base v L) (o : Obj) : OwnD (w.alloc o) base v L := World.ownsRow.alloc h o
theorem OwnD.lt {w : World} {base : Nat} {v : Value} {L : List Ac.D} (h : OwnD w base v L) : Between base w.heap.size v := fun k hk => World.ownsRow.lt h k hk
theorem OwnD.parts {w : World} {base : Nat} {v : Value} {L : List Ac.D} (h : OwnD w base v L) : ∃ A c, v = .slice A L.length c ∧ L.length ≤ c := by
  rcases h.2 with ⟨rfl, h0⟩ | ⟨g, cap, cur, rfl, _, _, hn, _⟩
  · exact ⟨none, 0, by rw [h0], by omega⟩
  · exact ⟨_, _, rfl, hn⟩
theorem OwnD.more {w : World} {base base' : Nat} {v : Value} {L : List Ac.D} (h : OwnD w base v L) (hb : base' ≤ base) : OwnD w base' v L := by
  refine ⟨h.1, ?_⟩
  rcases h.2 with h2 | ⟨g, cap, cur, e, hg, rest⟩
  · exact .inl h2
  · exact .inr ⟨g, cap, cur, e, Nat.le_trans hb hg, rest⟩
theorem OwnD.heap {w W : World} {base : Nat} {v : Value} {L : List Ac.D} (h : OwnD w base v L) (e : W.heap = w.heap) : OwnD W base v L := by
  unfold OwnD World.ownsRow at *
  rw [e]
  exact h
/-- A slice of things that reads as a row. -/
def RdD (w : World) (v : Value) (R : List Ac.D) : Prop :=
  ∃ A c, v = .slice A R.length c ∧ R.length ≤ c ∧ R.length ≤ maxLen ∧ (0 < R.length → ∃ b off, A = some ⟨b, off, none⟩ ∧ ∀ k (h : k < R.length), w.cell? ⟨b, off + k * 3, none⟩ = some (.int .i64 ((R[k]'h).kind : Int)) ∧ w.cell? ⟨b, off + k * 3 + 1, none⟩ = some (.int .i64 ((R[k]'h).n : Int)) ∧ w.cell? ⟨b, off + k * 3 + 2, none⟩ = some (.string (str (R[k]'h).text)))
theorem OwnD.rd {w : World} {base : Nat} {v : Value} {R : List Ac.D} (h : OwnD w base v R) : RdD w v R := by
  have h' := h
  rcases h.2 with ⟨rfl, h0⟩ | ⟨g, cap, cur, rfl, hb, hg, hn, hm, hs, ht⟩
  · exact ⟨none, 0, by rw [h0], by omega, by unfold maxLen; omega, fun h => by omega⟩
  · refine ⟨_, cap, rfl, hn, Nat.le_trans hn hm, fun _ => ⟨g, 0, rfl, fun k hk => ?_⟩⟩
    have hc : ∀ j, j < 3 → w.cell? ⟨g, 0 + k * 3 + j, none⟩ = (cellsD (R[k]'hk))[j]? := fun j hj => by
      rw [show 0 + k * 3 + j = k * 3 + j from by omega, World.ownsRow.cellAt h' (k * 3 + j) (by omega), rowD_at R k j hk hj]
    exact ⟨hc 0 (by omega), hc 1 (by omega), hc 2 (by omega)⟩
theorem RdD.under {w w' : World} {v : Value} {R : List Ac.D} (h : RdD w v R) (hb : Below w.heap.size w w') : RdD w' v R := by
  obtain ⟨A, c, rfl, h1, h2, h3⟩ := h
  refine ⟨A, c, rfl, h1, h2, fun h0 => ?_⟩
  obtain ⟨b, off, rfl, hc⟩ := h3 h0
  exact ⟨b, off, rfl, fun k hk => ⟨cell_later hb (hc k hk).1, cell_later hb (hc k hk).2.1, cell_later hb (hc k hk).2.2⟩⟩
theorem RdD.alloc {w : World} {v : Value} {R : List Ac.D} (h : RdD w v R) (o : Obj) : RdD (w.alloc o) v R := h.under ((Below.refl _ _).alloc (Nat.le_refl _) _)
theorem rdD_none (w : World) : RdD w (.slice none 0 0) [] := ⟨none, 0, rfl, Nat.le_refl _, Nat.zero_le _, fun h => absurd h (by simp)⟩
theorem RdD.parts {w : World} {v : Value} {R : List Ac.D} (h : RdD w v R) : ∃ A c, v = .slice A R.length c ∧ R.length ≤ c := by
  obtain ⟨A, c, e, h, _⟩ := h
  exact ⟨A, c, e, h⟩
theorem RdD.at {w : World} {A : Option Addr} {n c : Nat} {R : List Ac.D} (h : RdD w (.slice A n c) R) (k : Nat) (hk : k < R.length) : ∃ b off, A = some ⟨b, off, none⟩ ∧ w.cell? ⟨b, off + k * 3, none⟩ = some (.int .i64 ((R[k]'hk).kind : Int)) ∧ w.cell? ⟨b, off + k * 3 + 1, none⟩ = some (.int .i64 ((R[k]'hk).n : Int)) ∧ w.cell? ⟨b, off + k * 3 + 2, none⟩ = some (.string (str (R[k]'hk).text)) := by
  obtain ⟨A', c', e, _, _, hx⟩ := h
  injection e with e1 e2 e3
  subst e1
  obtain ⟨b, off, rfl, hc⟩ := hx (by omega)
  exact ⟨b, off, rfl, hc k hk⟩
theorem infoDo : (Tryz.prog.info? 101).map (fun i => (i.zero, i.size, i.bytes)) = some (some (.agg #[.int .i64 0, .int .i64 0, .string ⟨#[]⟩]), 3, 32) := by kernel_rfl
/-- A row of things, newly made. -/
theorem ownD_lit (w : World) (base : Nat) (L : List Ac.D) (C : Array Value) (n : Nat) (hn : L.length = n) (hC : C.toList = rowD L) (hb : base ≤ w.heap.size) (hm : L.length ≤ 1000000) : OwnD (w.alloc (.cells C 101)) base (.slice (some ⟨w.heap.size, 0, none⟩) n n) L := by
  subst hn
  have hl := rowD_len L
  have hs : C.size = L.length * 3 := by rw [← hl, ← hC]; simp
  exact ⟨hl, .inr ⟨w.heap.size, L.length, C, rfl, hb, heap_alloc_new w _, Nat.le_refl _, by unfold maxLen; omega, hs, by rw [hC, List.take_of_length_le (Nat.le_of_eq hl)]⟩⟩
theorem wpList_append_do {w : World} {ops : Array Oper} {rest : List Oper} {o : Oper} {a : Act} {Q : Exit → Act → World → Prop} (hgd : o.guard = none) (s x : Operand)
    (ho : o.op = .call { callee := .builtin .append, args := #[s, x], argTypes := #[59, 59] }) (base B : Nat) (u : Value) (R : List Ac.D) (z : Ac.D) (hs : a.eval s = u) (hst : OwnD w base u R)
    (hx : a.eval x = .slice (some ⟨B, 0, none⟩) 1 1) (hB : ∀ j y, (cellsD z)[j]? = some y → w.cell? ⟨B, j, none⟩ = some y)
    (hlen : R.length ≤ 1099511627776) (hbase : base ≤ w.heap.size) (R' : List Ac.D) (hR : R ++ [z] = R')
    (h : ∀ u' w', OwnD w' base u' R' → w.grownBy w' u.ownBlock → Below base w w' → wpList Tryz.prog ops Q rest (a.put o.dst u') w') : wpList Tryz.prog ops Q (o :: rest) a w := by
  subst hR
  obtain ⟨i, hi, hz0, hz1, hz2⟩ := info_parts infoDo
  refine wpList_append_own_at w hgd s x 59 ho base 101 i (.agg #[.int .i64 0, .int .i64 0, .string ⟨#[]⟩]) 3 32 Tryz.underlying59 hi hz0 hz1 hz2 (by kernel_rfl) (by decide) u R.length (rowD R) hs hst ⟨B, 0, none⟩ 1 1 (cellsD z) hx rfl ?_ (cellsD_one z) (by unfold maxLen; omega) (by omega) hbase ?_
  · intro j y hy
    rw [add_plain]
    simpa using hB j y hy
  · intro u' w' g1 g2 _ _
    refine h u' w' ?_ g2 ((Below.refl _ _).grown g2 hbase fun k hk => (World.ownsRow.lt hst k hk).1)
    unfold OwnD
    rw [List.length_append, List.length_singleton, rowD_snoc]
    exact g1
set_option maxRecDepth 100000 in
set_option maxHeartbeats 4000000 in
/-- Two actions whose texts are bytes: are they the same? -/
theorem refsameact_any (v1 v2 : Value) (L1 L2 : List Ac.D) (w : World) (h1 : RdD w v1 L1) (h2 : RdD w v2 L2) (t1 : ∀ d ∈ L1, ∀ c ∈ d.text, c < 256) (t2 : ∀ d ∈ L2, ∀ c ∈ d.text, c < 256) :
    Calls Tryz.prog 53 #[v1, v2] w fun e w' => e = .returned (.bool (decide (L1 = L2))) ∧ ∃ nq, w' = w.drewN nq := by
  obtain ⟨A1, c1, rfl, h11, h12, h13⟩ := h1
  obtain ⟨A2, c2, rfl, h21, h22, h23⟩ := h2
  obtain ⟨N1, hN1⟩ : ∃ N, L1.length = N := ⟨_, rfl⟩
  obtain ⟨N2, hN2⟩ : ∃ N, L2.length = N := ⟨_, rfl⟩
  rw [hN1] at h11 h12
  rw [hN2] at h21 h22
  have HN1 := Lib.hid hN1
  have HN2 := Lib.hid hN2
  have H1 := Lib.hid h13
  have H2 := Lib.hid h23
  have T1 := Lib.hid t1
  have T2 := Lib.hid t2
  unfold maxLen at h12 h22
  rw [hN1, hN2]
  clear h13 h23 hN1 hN2 t1 t2
  go_enter Tryz.func53, Tryz.ntmps53
  by_cases hne : N1 = N2
  · subst hne
    go_wp2_with fail
    go_loopw [5] (fun i wr => ∃ k : Nat, k ≤ N1 ∧ i = .int .i64 (k : Int) ∧ Hid (L1.take k = L2.take k) ∧ ∃ nq, wr = w.drewN nq) (fun i _ => N1 - (intOf i).toNat)
    case atStart => exact ⟨0, by omega, rfl, Lib.hid rfl, 0, rfl⟩
    case round =>
      obtain ⟨k, hk, rfl, hpre, nq, rfl⟩ := hrel
      by_cases hlt : k < N1
      · have hkn : (k : Int) < (N1 : Int) := by omega
        have hk1 : k < L1.length := by rw [HN1.out]; exact hlt
        have hk2 : k < L2.length := by rw [HN2.out]; exact hlt
        obtain ⟨b1, o1, rfl, hc1⟩ := H1.out (by rw [HN1.out]; omega)
        obtain ⟨b2, o2, rfl, hc2⟩ := H2.out (by rw [HN2.out]; omega)
        obtain ⟨p0, p1, p2⟩ := hc1 k hk1
        obtain ⟨q0, q1, q2⟩ := hc2 k hk2
        have HNEXT : Hid (L1[k]'hk1 = L2[k]'hk2 → L1.take (k + 1) = L2.take (k + 1)) := Lib.hid (fun e => by rw [List.take_succ_eq_append_getElem hk1, List.take_succ_eq_append_getElem hk2, hpre.out, e])
        have HNOT : Hid (L1[k]'hk1 ≠ L2[k]'hk2 → L1 ≠ L2) := Lib.hid (fun h e => h (by subst e; rfl))
        have HT1 : Hid (∀ c ∈ (L1[k]'hk1).text, c < 256) := Lib.hid (T1.out _ (List.getElem_mem hk1))
        have HT2 : Hid (∀ c ∈ (L2[k]'hk2).text, c < 256) := Lib.hid (T2.out _ (List.getElem_mem hk2))
        obtain ⟨x, hx⟩ : ∃ x, L1[k]'hk1 = x := ⟨_, rfl⟩
        obtain ⟨y, hy⟩ : ∃ y, L2[k]'hk2 = y := ⟨_, rfl⟩
        rw [hx] at p0 p1 p2 HNEXT HNOT HT1
        rw [hy] at q0 q1 q2 HNEXT HNOT HT2
        clear hc1 hc2 hx hy
        obtain ⟨xk, xn, xt⟩ := x
        obtain ⟨yk, yn, yt⟩ := y
        change w.cell? ⟨b1, o1 + k * 3 + 2, none⟩ = some (.string (str xt)) at p2
        change w.cell? ⟨b1, o1 + k * 3 + 1, none⟩ = some (.int .i64 (xn : Int)) at p1
        change w.cell? ⟨b1, o1 + k * 3, none⟩ = some (.int .i64 (xk : Int)) at p0
        change w.cell? ⟨b2, o2 + k * 3 + 2, none⟩ = some (.string (str yt)) at q2
        change w.cell? ⟨b2, o2 + k * 3 + 1, none⟩ = some (.int .i64 (yn : Int)) at q1
        change w.cell? ⟨b2, o2 + k * 3, none⟩ = some (.int .i64 (yk : Int)) at q0
        change Hid (∀ c ∈ xt, c < 256) at HT1
        change Hid (∀ c ∈ yt, c < 256) at HT2
        have hse := str_same HT1.out HT2.out
        by_cases he : xk = yk ∧ xn = yn ∧ xt = yt
        · obtain ⟨rfl, rfl, rfl⟩ := he
          have HN3 := Lib.hid (HNEXT.out rfl)
          clear HNEXT HNOT
          go_wp2
          go_quiet (fail)
          go_wp2
          go_roundw
          case rel => exact ⟨k + 1, hlt, by go_num, HN3, _, rfl⟩
          case measure => simp [intOf]; omega
        · have hD : decide (L1 = L2) = false := decide_eq_false (HNOT.out fun e => he (by injection e with e1 e2 e3; exact ⟨e1, e2, e3⟩))
          have HD := Lib.hid hD
          clear hD HNEXT HNOT
          by_cases hek : xk = yk
          · subst hek
            by_cases hen : xn = yn
            · subst hen
              have het : ((str xt).toList == (str yt).toList) = false := by
                rw [hse]
                exact decide_eq_false fun e => he ⟨rfl, rfl, e⟩
              clear he hse
              go_wp2
              go_quiet (fail)
              go_wp2
              go_ret
              exact ⟨by rw [HD.out]; rfl, _, World.drewN_drewN _ _ _⟩
            · have het : ((xn : Int) == (yn : Int)) = false := by simp; omega
              clear he hse
              go_wp2
              go_quiet (fail)
              go_wp2
              go_ret
              exact ⟨by rw [HD.out]; rfl, _, World.drewN_drewN _ _ _⟩
          · have het : ((xk : Int) == (yk : Int)) = false := by simp; omega
            clear he hse
            go_wp2
            go_quiet (fail)
            go_wp2
            go_ret
            exact ⟨by rw [HD.out]; rfl, _, World.drewN_drewN _ _ _⟩
      · obtain rfl : k = N1 := by omega
        have hD : decide (L1 = L2) = true := decide_eq_true (by
          have := hpre.out
          rwa [List.take_of_length_le (by rw [HN1.out]; exact Nat.le_refl _), List.take_of_length_le (by rw [HN2.out]; exact Nat.le_refl _)] at this)
        have HD := Lib.hid hD
        clear hD
        go_wp2
        go_ret
        exact ⟨by rw [HD.out]; rfl, nq, rfl⟩
  · have hD : decide (L1 = L2) = false := decide_eq_false (fun e => hne (by rw [← HN1.out, ← HN2.out, e]))
    have hn2 : ((N1 : Int) != (N2 : Int)) = true := by simp; omega
    have HD := Lib.hid hD
    clear hD hne
    go_wp2
    go_ret
    exact ⟨by rw [HD.out]; rfl, 0, rfl⟩
end Go.Proofs.YtgjehlegcmeeoaaGreatDoor

/- Rules, texts and actions as they lie, with the types of their blocks: what is stored elsewhere leaves them alone. -/
namespace Go.Proofs.YtgjehlegcmeeoaaGreatDoor
set_option maxRecDepth 100000
open Go.ChangeShapes Go.WideShapes Go.ChangeAt Go.RowKit

/-- A block of a type. -/
def Ty (w : World) (b : Nat) (t : TypeId) : Prop := ∃ cs fr, w.heap[b]? = some (.cells cs t fr)
theorem Ty.ne {w : World} {a b : Nat} {s t : TypeId} (h : Ty w a s) (k : Ty w b t) (hne : s ≠ t) : a ≠ b := by
  rintro rfl
  obtain ⟨cs, fr, h⟩ := h
  obtain ⟨cs', fr', k⟩ := k
  rw [h] at k
  injection k with e
  injection e with _ e
  exact hne e
theorem Ty.lt {w : World} {b : Nat} {t : TypeId} (h : Ty w b t) : b < w.heap.size := by
  obtain ⟨cs, fr, h⟩ := h
  exact (Array.getElem?_eq_some_iff.1 h).1
theorem Blk.ty {w : World} {g : Nat} {t : TypeId} {cs : Array Value} (h : Blk w g t cs) : Ty w g t := ⟨cs, (0, 0), h⟩
/-- Blocks of such types are as they were. -/
def Keep (w w' : World) (Q : TypeId → Prop) : Prop := ∀ b t, Ty w b t → Q t → w'.heap[b]? = w.heap[b]?
theorem Keep.below {w w' : World} {Q : TypeId → Prop} (h : Below w.heap.size w w') : Keep w w' Q := fun b _ ht _ => h.block b ht.lt
theorem Keep.grown {w w' : World} {Q : TypeId → Prop} {g : Nat} {t : TypeId} (h : w.grownBy w' (some g)) (hg : Ty w g t) (hq : ¬ Q t) : Keep w w' Q := fun b s hb hs => h.block b hb.lt (fun e => by
  injection e with e
  subst e
  by_cases hst : s = t
  · exact hq (hst ▸ hs)
  · exact (hb.ne hg hst) rfl)
theorem Keep.less {w w' : World} {Q S : TypeId → Prop} (h : Keep w w' Q) (hs : ∀ t, S t → Q t) : Keep w w' S := fun b t ht hq => h b t ht (hs t hq)
theorem Keep.ty {w w' : World} {Q : TypeId → Prop} (h : Keep w w' Q) {b : Nat} {t : TypeId} (ht : Ty w b t) (hq : Q t) : Ty w' b t := by
  have e := h b t ht hq
  obtain ⟨cs, fr, k⟩ := ht
  exact ⟨cs, fr, by rw [e]; exact k⟩
theorem Keep.cell {w w' : World} {Q : TypeId → Prop} (h : Keep w w' Q) {b : Nat} {t : TypeId} (ht : Ty w b t) (hq : Q t) (o : Nat) : w'.cell? ⟨b, o, none⟩ = w.cell? ⟨b, o, none⟩ := World.cell?_of_block (h b t ht hq)
/-- A slice whose parts, of so many cells each, are such. -/
def Sl (w : World) (t : TypeId) (sz : Nat) (v : Value) (n : Nat) (P : Nat → Nat → Nat → Prop) : Prop :=
  ∃ A c, v = .slice A n c ∧ n ≤ c ∧ n ≤ maxLen ∧ (0 < n → ∃ b off, A = some ⟨b, off, none⟩ ∧ Ty w b t ∧ ∀ k, k < n → P k b (off + k * sz))
theorem Sl.keep {w w' : World} {Q : TypeId → Prop} {t : TypeId} {sz n : Nat} {v : Value} {P P' : Nat → Nat → Nat → Prop} (h : Sl w t sz v n P) (hk : Keep w w' Q) (hq : Q t) (hp : ∀ k b o, Ty w b t → P k b o → P' k b o) : Sl w' t sz v n P' := by
  obtain ⟨A, c, rfl, h1, h2, h3⟩ := h
  refine ⟨A, c, rfl, h1, h2, fun h0 => ?_⟩
  obtain ⟨b, off, rfl, ht, hc⟩ := h3 h0
  exact ⟨b, off, rfl, hk.ty ht hq, fun k hk' => hp k b _ ht (hc k hk')⟩
theorem sl_nil (w : World) (t : TypeId) (sz : Nat) (P : Nat → Nat → Nat → Prop) : Sl w t sz (.slice none 0 0) 0 P := ⟨none, 0, rfl, Nat.le_refl _, Nat.zero_le _, fun h => absurd h (by simp)⟩
/-- Texts. -/
def SlT (w : World) (v : Value) (l : List (List Nat)) : Prop := Sl w 9 1 v l.length fun k b o => w.cell? ⟨b, o, none⟩ = some (.string (str (l.getD k [])))
theorem SlT.keep {w w' : World} {Q : TypeId → Prop} {v : Value} {l : List (List Nat)} (h : SlT w v l) (hk : Keep w w' Q) (hq : Q 9) : SlT w' v l :=
  Sl.keep h hk hq fun _ _ o ht hc => (hk.cell ht hq o).trans hc
theorem OwnT.sl {w : World} {base : Nat} {v : Value} {l : List (List Nat)} (h : OwnT w base v l) : SlT w v l := by
  have h' := h
  rcases h.2 with ⟨rfl, h0⟩ | ⟨g, cap, cur, rfl, hb, hg, hn, hm, hs, ht⟩
  · have : l = [] := List.eq_nil_of_length_eq_zero h0
    subst this
    exact sl_nil _ _ _ _
  · refine ⟨_, cap, rfl, hn, Nat.le_trans hn hm, fun h0 => ⟨g, 0, rfl, ⟨cur, (0, 0), hg⟩, fun k hk => ?_⟩⟩
    rw [show 0 + k * 1 = k from by omega]
    exact OwnT.cell h' hk
/-- An action's things. -/
def SlD (w : World) (v : Value) (l : List Ac.D) : Prop := Sl w 101 3 v l.length fun k b o => w.cell? ⟨b, o, none⟩ = some (.int .i64 ((l.getD k ⟨0, 0, []⟩).kind : Int)) ∧ w.cell? ⟨b, o + 1, none⟩ = some (.int .i64 ((l.getD k ⟨0, 0, []⟩).n : Int)) ∧ w.cell? ⟨b, o + 2, none⟩ = some (.string (str (l.getD k ⟨0, 0, []⟩).text))
theorem SlD.keep {w w' : World} {Q : TypeId → Prop} {v : Value} {l : List Ac.D} (h : SlD w v l) (hk : Keep w w' Q) (hq : Q 101) : SlD w' v l :=
  Sl.keep h hk hq fun _ _ o ht hc => ⟨(hk.cell ht hq o).trans hc.1, (hk.cell ht hq (o + 1)).trans hc.2.1, (hk.cell ht hq (o + 2)).trans hc.2.2⟩
theorem OwnD.sl {w : World} {base : Nat} {v : Value} {l : List Ac.D} (h : OwnD w base v l) : SlD w v l := by
  have hr := h.rd
  rcases h.2 with ⟨rfl, h0⟩ | ⟨g, cap, cur, rfl, hb, hg, hn, hm, hs, ht⟩
  · have : l = [] := List.eq_nil_of_length_eq_zero h0
    subst this
    exact sl_nil _ _ _ _
  · refine ⟨_, cap, rfl, hn, Nat.le_trans hn hm, fun h0 => ⟨g, 0, rfl, ⟨cur, (0, 0), hg⟩, fun k hk => ?_⟩⟩
    obtain ⟨b, off, e, p0, p1, p2⟩ := hr.at k hk
    injection e with e
    injection e with e1 e2
    subst e1 e2
    rw [List.getD_eq_getElem?_getD, List.getElem?_eq_getElem hk]
    exact ⟨p0, p1, p2⟩
theorem SlD.rd {w : World} {v : Value} {l : List Ac.D} (h : SlD w v l) : RdD w v l := by
  obtain ⟨A, c, rfl, h1, h2, h3⟩ := h
  refine ⟨A, c, rfl, h1, h2, fun h0 => ?_⟩
  obtain ⟨b, off, rfl, _, hc⟩ := h3 h0
  refine ⟨b, off, rfl, fun k hk => ?_⟩
  have := hc k hk
  dsimp only at this
  rw [List.getD_eq_getElem?_getD, List.getElem?_eq_getElem hk] at this
  exact this
/-- Actions. -/
def SlA (w : World) (v : Value) (l : List (List Ac.D)) : Prop := Sl w 59 1 v l.length fun k b o => ∃ u, w.cell? ⟨b, o, none⟩ = some u ∧ SlD w u (l.getD k [])
theorem SlA.keep {w w' : World} {Q : TypeId → Prop} {v : Value} {l : List (List Ac.D)} (h : SlA w v l) (hk : Keep w w' Q) (hq : Q 59) (hq2 : Q 101) : SlA w' v l :=
  Sl.keep h hk hq fun _ _ o ht hc => by
    obtain ⟨u, hu, hd⟩ := hc
    exact ⟨u, (hk.cell ht hq o).trans hu, hd.keep hk hq2⟩
/-- The types that rules are made of. -/
def RuleTy (t : TypeId) : Prop := t = 9 ∨ t = 101 ∨ t = 59 ∨ t = 41
def emptyRule : Mn.Rule := ⟨[], [], [], [], false⟩
/-- Five cells that are a rule. -/
def RuleAt (w : World) (r : Mn.Rule) (b o : Nat) : Prop := ∃ u1 u2 u3 u4, w.cell? ⟨b, o, none⟩ = some u1 ∧ w.cell? ⟨b, o + 1, none⟩ = some u2 ∧ w.cell? ⟨b, o + 2, none⟩ = some u3 ∧ w.cell? ⟨b, o + 3, none⟩ = some u4 ∧ w.cell? ⟨b, o + 4, none⟩ = some (.bool r.phony) ∧
  SlT w u1 r.outs ∧ SlT w u2 r.ins ∧ SlT w u3 r.order ∧ SlA w u4 r.acts
def SlR (w : World) (v : Value) (l : List Mn.Rule) : Prop := Sl w 41 5 v l.length fun k b o => RuleAt w (l.getD k emptyRule) b o
theorem SlR.keep {w w' : World} {v : Value} {l : List Mn.Rule} (h : SlR w v l) (hk : Keep w w' RuleTy) : SlR w' v l :=
  Sl.keep h hk (.inr (.inr (.inr rfl))) fun _ _ o ht hc => by
    obtain ⟨u1, u2, u3, u4, c1, c2, c3, c4, c5, s1, s2, s3, s4⟩ := hc
    have hq : RuleTy 41 := .inr (.inr (.inr rfl))
    exact ⟨u1, u2, u3, u4, (hk.cell ht hq o).trans c1, (hk.cell ht hq (o + 1)).trans c2, (hk.cell ht hq (o + 2)).trans c3, (hk.cell ht hq (o + 3)).trans c4, (hk.cell ht hq (o + 4)).trans c5, s1.keep hk (.inl rfl), s2.keep hk (.inl rfl), s3.keep hk (.inl rfl), s4.keep hk (.inr (.inr (.inl rfl))) (.inr (.inl rfl))⟩
theorem SlR.under {w w' : World} {v : Value} {l : List Mn.Rule} (h : SlR w v l) (hb : Below w.heap.size w w') : SlR w' v l := h.keep (Keep.below hb)
end Go.Proofs.YtgjehlegcmeeoaaGreatDoor

/- Lines of words as they read; two rows of them that are the same are told so. -/
namespace Go.Proofs.YtgjehlegcmeeoaaGreatDoor
set_option maxRecDepth 100000
open Go.ChangeShapes Go.WideShapes Go.ChangeAt Go.RowKit

/-- A slice of words that reads as a row. -/
def RdW (w : World) (v : Value) (R : List Ln.W) : Prop :=
  ∃ A c, v = .slice A R.length c ∧ R.length ≤ c ∧ R.length ≤ maxLen ∧ (0 < R.length → ∃ b off, A = some ⟨b, off, none⟩ ∧ ∀ k (h : k < R.length), w.cell? ⟨b, off + k * 4, none⟩ = some (.string (str (R[k]'h).text)) ∧ w.cell? ⟨b, off + k * 4 + 1, none⟩ = some (.int .i64 (R[k]'h).line) ∧ w.cell? ⟨b, off + k * 4 + 2, none⟩ = some (.int .i64 (R[k]'h).col) ∧ w.cell? ⟨b, off + k * 4 + 3, none⟩ = some (.bool (R[k]'h).q))
/-- A slice of slices of words that reads as rows. -/
def RdL (w : World) (v : Value) (LL : List (List Ln.W)) : Prop :=
  ∃ A c, v = .slice A LL.length c ∧ LL.length ≤ c ∧ LL.length ≤ maxLen ∧ (0 < LL.length → ∃ b off, A = some ⟨b, off, none⟩ ∧ ∀ i (h : i < LL.length), ∃ u, w.cell? ⟨b, off + i, none⟩ = some u ∧ RdW w u (LL[i]'h))
theorem OwnW.rd {w : World} {base : Nat} {v : Value} {R : List Ln.W} (h : OwnW w base v R) : RdW w v R := by
  have h' := h
  rcases h.2 with ⟨rfl, h0⟩ | ⟨g, cap, cur, rfl, hb, hg, hn, hm, hs, ht⟩
  · exact ⟨none, 0, by rw [h0], by omega, by unfold maxLen; omega, fun h => by omega⟩
  · refine ⟨_, cap, rfl, hn, Nat.le_trans hn hm, fun _ => ⟨g, 0, rfl, fun k hk => ?_⟩⟩
    have hc : ∀ j, j < 4 → w.cell? ⟨g, 0 + k * 4 + j, none⟩ = (cellsW (R[k]'hk))[j]? := fun j hj => by
      rw [show 0 + k * 4 + j = k * 4 + j from by omega, World.ownsRow.cellAt h' (k * 4 + j) (by omega), rowW_at R k j hk hj]
    exact ⟨hc 0 (by omega), hc 1 (by omega), hc 2 (by omega), hc 3 (by omega)⟩
theorem St.rd {w : World} {base : Nat} {v u : Value} {LL : List (List Ln.W)} {R : List Ln.W} (h : St w base v LL u R) : RdL w v LL := by
  obtain ⟨us, h1, h2, h3, h4, _⟩ := h
  have h2' := h2
  rcases h2.2 with ⟨rfl, h0⟩ | ⟨g, cap, cur, rfl, hb, hg, hn, hm, hs, ht⟩
  · exact ⟨none, 0, by rw [h0], by omega, by unfold maxLen; omega, fun h => by omega⟩
  · refine ⟨_, cap, rfl, hn, Nat.le_trans hn hm, fun _ => ⟨g, 0, rfl, fun i hi => ⟨us.getD i undef, ?_, ?_⟩⟩⟩
    · rw [show 0 + i = i from by omega, World.ownsRow.cellAt h2' i (by omega), List.getD_eq_getElem?_getD, List.getElem?_eq_getElem (by omega)]
      rfl
    · have := (h4 i hi).rd
      rw [List.getD_eq_getElem?_getD (l := LL), List.getElem?_eq_getElem hi] at this
      exact this
theorem RdW.under {w w' : World} {v : Value} {R : List Ln.W} (h : RdW w v R) (hb : Below w.heap.size w w') : RdW w' v R := by
  obtain ⟨A, c, rfl, h1, h2, h3⟩ := h
  refine ⟨A, c, rfl, h1, h2, fun h0 => ?_⟩
  obtain ⟨b, off, rfl, hc⟩ := h3 h0
  exact ⟨b, off, rfl, fun k hk => ⟨cell_later hb (hc k hk).1, cell_later hb (hc k hk).2.1, cell_later hb (hc k hk).2.2.1, cell_later hb (hc k hk).2.2.2⟩⟩
theorem RdL.under {w w' : World} {v : Value} {LL : List (List Ln.W)} (h : RdL w v LL) (hb : Below w.heap.size w w') : RdL w' v LL := by
  obtain ⟨A, c, rfl, h1, h2, h3⟩ := h
  refine ⟨A, c, rfl, h1, h2, fun h0 => ?_⟩
  obtain ⟨b, off, rfl, hc⟩ := h3 h0
  refine ⟨b, off, rfl, fun i hi => ?_⟩
  obtain ⟨u, hu1, hu2⟩ := hc i hi
  exact ⟨u, cell_later hb hu1, hu2.under hb⟩
end Go.Proofs.YtgjehlegcmeeoaaGreatDoor

/- Package mani's own reader as it lies in memory. -/
namespace Go.Proofs.YtgjehlegcmeeoaaGreatDoor
set_option maxRecDepth 100000
open Go.ChangeShapes Go.WideShapes Go.ChangeAt Go.RowKit

/-- Blocks below a place, of such types, are as they were. -/
def KeepB (w w' : World) (hi : Nat) (Q : TypeId → Prop) : Prop := ∀ b t, b < hi → Ty w b t → Q t → w'.heap[b]? = w.heap[b]?
theorem KeepB.below {w w' : World} {hi : Nat} {Q : TypeId → Prop} (h : Below w.heap.size w w') : KeepB w w' hi Q := fun b _ _ ht _ => h.block b ht.lt
theorem KeepB.ty {w w' : World} {hi : Nat} {Q : TypeId → Prop} (h : KeepB w w' hi Q) {b : Nat} {t : TypeId} (hb : b < hi) (ht : Ty w b t) (hq : Q t) : Ty w' b t := by
  have e := h b t hb ht hq
  obtain ⟨cs, fr, k⟩ := ht
  exact ⟨cs, fr, by rw [e]; exact k⟩
theorem KeepB.cell {w w' : World} {hi : Nat} {Q : TypeId → Prop} (h : KeepB w w' hi Q) {b : Nat} {t : TypeId} (hb : b < hi) (ht : Ty w b t) (hq : Q t) (o : Nat) : w'.cell? ⟨b, o, none⟩ = w.cell? ⟨b, o, none⟩ := World.cell?_of_block (h b t hb ht hq)
/-- A slice whose parts, of so many cells each, are such, and lie below a place. -/
def SlB (w : World) (hi : Nat) (t : TypeId) (sz : Nat) (v : Value) (n : Nat) (P : Nat → Nat → Nat → Prop) : Prop :=
  ∃ A c, v = .slice A n c ∧ n ≤ c ∧ n ≤ maxLen ∧ (0 < n → ∃ b off, A = some ⟨b, off, none⟩ ∧ b < hi ∧ Ty w b t ∧ ∀ k, k < n → P k b (off + k * sz))
theorem SlB.keep {w w' : World} {hi : Nat} {Q : TypeId → Prop} {t : TypeId} {sz n : Nat} {v : Value} {P P' : Nat → Nat → Nat → Prop} (h : SlB w hi t sz v n P) (hk : KeepB w w' hi Q) (hq : Q t) (hp : ∀ k b o, b < hi → Ty w b t → P k b o → P' k b o) : SlB w' hi t sz v n P' := by
  obtain ⟨A, c, rfl, h1, h2, h3⟩ := h
  refine ⟨A, c, rfl, h1, h2, fun h0 => ?_⟩
  obtain ⟨b, off, rfl, hb, ht, hc⟩ := h3 h0
  exact ⟨b, off, rfl, hb, hk.ty hb ht hq, fun k hk' => hp k b _ hb ht (hc k hk')⟩
theorem SlB.more {w : World} {hi hi' : Nat} {t : TypeId} {sz n : Nat} {v : Value} {P P' : Nat → Nat → Nat → Prop} (h : SlB w hi t sz v n P) (hh : hi ≤ hi') (hp : ∀ k b o, P k b o → P' k b o) : SlB w hi' t sz v n P' := by
  obtain ⟨A, c, rfl, h1, h2, h3⟩ := h
  refine ⟨A, c, rfl, h1, h2, fun h0 => ?_⟩
  obtain ⟨b, off, rfl, hb, ht, hc⟩ := h3 h0
  exact ⟨b, off, rfl, by omega, ht, fun k hk => hp _ _ _ (hc k hk)⟩
theorem slB_nil (w : World) (hi : Nat) (t : TypeId) (sz : Nat) (P : Nat → Nat → Nat → Prop) : SlB w hi t sz (.slice none 0 0) 0 P := ⟨none, 0, rfl, Nat.le_refl _, Nat.zero_le _, fun h => absurd h (by simp)⟩
theorem SlB.parts {w : World} {hi : Nat} {t : TypeId} {sz n : Nat} {v : Value} {P : Nat → Nat → Nat → Prop} (h : SlB w hi t sz v n P) : ∃ A c, v = .slice A n c ∧ n ≤ c := by
  obtain ⟨A, c, e, h, _⟩ := h
  exact ⟨A, c, e, h⟩
/-- Words. -/
def SlW (w : World) (hi : Nat) (v : Value) (R : List Ln.W) : Prop := SlB w hi 55 4 v R.length fun k b o =>
  w.cell? ⟨b, o, none⟩ = some (.string (str (R.getD k Mo.word0).text)) ∧ w.cell? ⟨b, o + 1, none⟩ = some (.int .i64 (R.getD k Mo.word0).line) ∧ w.cell? ⟨b, o + 2, none⟩ = some (.int .i64 (R.getD k Mo.word0).col) ∧ w.cell? ⟨b, o + 3, none⟩ = some (.bool (R.getD k Mo.word0).q)
theorem SlW.keep {w w' : World} {hi : Nat} {Q : TypeId → Prop} {v : Value} {R : List Ln.W} (h : SlW w hi v R) (hk : KeepB w w' hi Q) (hq : Q 55) : SlW w' hi v R :=
  SlB.keep h hk hq fun _ _ o hb ht hc => ⟨(hk.cell hb ht hq o).trans hc.1, (hk.cell hb ht hq (o + 1)).trans hc.2.1, (hk.cell hb ht hq (o + 2)).trans hc.2.2.1, (hk.cell hb ht hq (o + 3)).trans hc.2.2.2⟩
theorem SlW.more {w : World} {hi hi' : Nat} {v : Value} {R : List Ln.W} (h : SlW w hi v R) (hh : hi ≤ hi') : SlW w hi' v R := SlB.more h hh fun _ _ _ h => h
theorem slW_nil (w : World) (hi : Nat) : SlW w hi (.slice none 0 0) [] := slB_nil _ _ _ _ _
theorem SlW.parts {w : World} {hi : Nat} {v : Value} {R : List Ln.W} (h : SlW w hi v R) : ∃ A c, v = .slice A R.length c ∧ R.length ≤ c := SlB.parts h
theorem SlW.rd {w : World} {hi : Nat} {v : Value} {R : List Ln.W} (h : SlW w hi v R) : RdW w v R := by
  obtain ⟨A, c, rfl, h1, h2, h3⟩ := h
  refine ⟨A, c, rfl, h1, h2, fun h0 => ?_⟩
  obtain ⟨b, off, rfl, _, _, hc⟩ := h3 h0
  refine ⟨b, off, rfl, fun k hk => ?_⟩
  have := hc k hk
  dsimp only at this
  rw [List.getD_eq_getElem?_getD, List.getElem?_eq_getElem hk] at this
  exact this
theorem OwnW.slB {w : World} {base hi : Nat} {v : Value} {R : List Ln.W} (h : OwnW w base v R) (hh : w.heap.size ≤ hi) : SlW w hi v R := by
  have hl := h.lt
  have hr := h.rd
  have h' := h
  rcases h.2 with ⟨rfl, h0⟩ | ⟨g, cap, cur, rfl, hb, hg, hn, hm, hs, ht⟩
  · have : R = [] := List.eq_nil_of_length_eq_zero h0
    subst this
    exact slW_nil _ _
  · refine ⟨_, cap, rfl, hn, Nat.le_trans hn hm, fun h0 => ⟨g, 0, rfl, ?_, ⟨cur, (0, 0), hg⟩, fun k hk => ?_⟩⟩
    · have := (hl g rfl).2
      omega
    · obtain ⟨A, c, e, _, _, hx⟩ := hr
      obtain ⟨b, off, e2, hc⟩ := hx h0
      injection e with e1 _ _
      rw [e2] at e1
      injection e1 with e1
      injection e1 with e1 e3
      subst e1 e3
      have := hc k hk
      rw [List.getD_eq_getElem?_getD, List.getElem?_eq_getElem hk]
      exact this
/-- The words behind the first. -/
theorem SlW.tail {w : World} {hi : Nat} {A A' : Option Addr} {n c d k : Nat} {R : List Ln.W} (h : SlW w hi (.slice A n c) R) (hk : k ≤ n) (hd : n - k ≤ d) (hA : k < n → ∀ b off, A = some ⟨b, off, none⟩ → A' = some ⟨b, off + k * 4, none⟩) : SlW w hi (.slice A' (n - k) d) (R.drop k) := by
  obtain ⟨B, c', e, h1, h2, h3⟩ := h
  injection e with e1 e2 e3
  subst e1 e2 e3
  refine ⟨A', d, by rw [List.length_drop], by rw [List.length_drop]; exact hd, by rw [List.length_drop]; clear h3; omega, fun h0 => ?_⟩
  rw [List.length_drop] at h0
  obtain ⟨b, off, rfl, hb, ht, hc⟩ := h3 (by clear h3; omega)
  refine ⟨b, off + k * 4, hA (by clear h3; omega) b off rfl, hb, ht, fun j hj => ?_⟩
  rw [List.length_drop] at hj
  have := hc (k + j) (by clear h3; omega)
  dsimp only at this ⊢
  rw [show off + (k + j) * 4 = off + k * 4 + j * 4 from by omega] at this
  rw [List.getD_eq_getElem?_getD, List.getElem?_drop, ← List.getD_eq_getElem?_getD]
  exact this
theorem SlW.head {w : World} {hi : Nat} {A : Option Addr} {n c k d : Nat} {R : List Ln.W} (h : SlW w hi (.slice A n c) R) (hk : k ≤ n) (hd : k ≤ d) : SlW w hi (.slice A k d) (R.take k) := by
  obtain ⟨B, c', e, h1, h2, h3⟩ := h
  injection e with e1 e2 e3
  subst e1 e2 e3
  have hl : (R.take k).length = k := by rw [List.length_take]; omega
  refine ⟨A, d, by rw [hl], by rw [hl]; exact hd, by rw [hl]; clear h3; omega, fun h0 => ?_⟩
  rw [hl] at h0
  obtain ⟨b, off, rfl, hb, ht, hc⟩ := h3 (by clear h3; omega)
  refine ⟨b, off, rfl, hb, ht, fun j hj => ?_⟩
  rw [hl] at hj
  have := hc j (by clear h3; omega)
  dsimp only at this ⊢
  rw [List.getD_eq_getElem?_getD, List.getElem?_take, if_pos hj, ← List.getD_eq_getElem?_getD]
  exact this
theorem SlW.at {w : World} {hi : Nat} {A : Option Addr} {n c : Nat} {R : List Ln.W} (h : SlW w hi (.slice A n c) R) (k : Nat) (hk : k < R.length) (x : Ln.W) (hx : R.getD k Mo.word0 = x) : ∃ b off, A = some ⟨b, off, none⟩ ∧ b < hi ∧ Ty w b 55 ∧ w.cell? ⟨b, off + k * 4, none⟩ = some (.string (str x.text)) ∧ w.cell? ⟨b, off + k * 4 + 1, none⟩ = some (.int .i64 x.line) ∧ w.cell? ⟨b, off + k * 4 + 2, none⟩ = some (.int .i64 x.col) ∧ w.cell? ⟨b, off + k * 4 + 3, none⟩ = some (.bool x.q) := by
  subst hx
  obtain ⟨A', c', e, _, _, hx⟩ := h
  injection e with e1 e2 e3
  subst e1
  obtain ⟨b, off, rfl, hb, ht, hc⟩ := hx (by omega)
  exact ⟨b, off, rfl, hb, ht, hc k hk⟩
/-- Texts. -/
def SlTB (w : World) (hi : Nat) (v : Value) (l : List (List Nat)) : Prop := SlB w hi 9 1 v l.length fun k b o => w.cell? ⟨b, o, none⟩ = some (.string (str (l.getD k [])))
theorem SlTB.keep {w w' : World} {hi : Nat} {Q : TypeId → Prop} {v : Value} {l : List (List Nat)} (h : SlTB w hi v l) (hk : KeepB w w' hi Q) (hq : Q 9) : SlTB w' hi v l :=
  SlB.keep h hk hq fun _ _ o hb ht hc => (hk.cell hb ht hq o).trans hc
theorem SlTB.more {w : World} {hi hi' : Nat} {v : Value} {l : List (List Nat)} (h : SlTB w hi v l) (hh : hi ≤ hi') : SlTB w hi' v l := SlB.more h hh fun _ _ _ h => h
theorem SlTB.sl {w : World} {hi : Nat} {v : Value} {l : List (List Nat)} (h : SlTB w hi v l) : SlT w v l := by
  obtain ⟨A, c, rfl, h1, h2, h3⟩ := h
  refine ⟨A, c, rfl, h1, h2, fun h0 => ?_⟩
  obtain ⟨b, off, rfl, _, ht, hc⟩ := h3 h0
  exact ⟨b, off, rfl, ht, hc⟩
theorem OwnT.slB {w : World} {base hi : Nat} {v : Value} {l : List (List Nat)} (h : OwnT w base v l) (hh : w.heap.size ≤ hi) : SlTB w hi v l := by
  have hl := h.lt
  have hs := h.sl
  obtain ⟨A, c, rfl, h1, h2, h3⟩ := hs
  refine ⟨A, c, rfl, h1, h2, fun h0 => ?_⟩
  obtain ⟨b, off, rfl, ht, hc⟩ := h3 h0
  have := (hl b rfl).2
  exact ⟨b, off, rfl, by omega, ht, hc⟩
/-- An action's things, and actions. -/
def SlDB (w : World) (hi : Nat) (v : Value) (l : List Ac.D) : Prop := SlB w hi 101 3 v l.length fun k b o => w.cell? ⟨b, o, none⟩ = some (.int .i64 ((l.getD k ⟨0, 0, []⟩).kind : Int)) ∧ w.cell? ⟨b, o + 1, none⟩ = some (.int .i64 ((l.getD k ⟨0, 0, []⟩).n : Int)) ∧ w.cell? ⟨b, o + 2, none⟩ = some (.string (str (l.getD k ⟨0, 0, []⟩).text))
theorem SlDB.keep {w w' : World} {hi : Nat} {Q : TypeId → Prop} {v : Value} {l : List Ac.D} (h : SlDB w hi v l) (hk : KeepB w w' hi Q) (hq : Q 101) : SlDB w' hi v l :=
  SlB.keep h hk hq fun _ _ o hb ht hc => ⟨(hk.cell hb ht hq o).trans hc.1, (hk.cell hb ht hq (o + 1)).trans hc.2.1, (hk.cell hb ht hq (o + 2)).trans hc.2.2⟩
theorem SlDB.more {w : World} {hi hi' : Nat} {v : Value} {l : List Ac.D} (h : SlDB w hi v l) (hh : hi ≤ hi') : SlDB w hi' v l := SlB.more h hh fun _ _ _ h => h
theorem SlDB.sl {w : World} {hi : Nat} {v : Value} {l : List Ac.D} (h : SlDB w hi v l) : SlD w v l := by
  obtain ⟨A, c, rfl, h1, h2, h3⟩ := h
  refine ⟨A, c, rfl, h1, h2, fun h0 => ?_⟩
  obtain ⟨b, off, rfl, _, ht, hc⟩ := h3 h0
  exact ⟨b, off, rfl, ht, hc⟩
theorem OwnD.slB {w : World} {base hi : Nat} {v : Value} {l : List Ac.D} (h : OwnD w base v l) (hh : w.heap.size ≤ hi) : SlDB w hi v l := by
  have hl := h.lt
  have hs := h.sl
  obtain ⟨A, c, rfl, h1, h2, h3⟩ := hs
  refine ⟨A, c, rfl, h1, h2, fun h0 => ?_⟩
  obtain ⟨b, off, rfl, ht, hc⟩ := h3 h0
  have := (hl b rfl).2
  exact ⟨b, off, rfl, by omega, ht, hc⟩
def SlAB (w : World) (hi : Nat) (v : Value) (l : List (List Ac.D)) : Prop := SlB w hi 59 1 v l.length fun k b o => ∃ u, w.cell? ⟨b, o, none⟩ = some u ∧ SlDB w hi u (l.getD k [])
theorem SlAB.keep {w w' : World} {hi : Nat} {Q : TypeId → Prop} {v : Value} {l : List (List Ac.D)} (h : SlAB w hi v l) (hk : KeepB w w' hi Q) (hq : Q 59) (hq2 : Q 101) : SlAB w' hi v l :=
  SlB.keep h hk hq fun _ _ o hb ht hc => by
    obtain ⟨u, hu, hd⟩ := hc
    exact ⟨u, (hk.cell hb ht hq o).trans hu, hd.keep hk hq2⟩
theorem SlAB.more {w : World} {hi hi' : Nat} {v : Value} {l : List (List Ac.D)} (h : SlAB w hi v l) (hh : hi ≤ hi') : SlAB w hi' v l := SlB.more h hh fun _ _ _ ⟨u, h1, h2⟩ => ⟨u, h1, h2.more hh⟩
theorem SlAB.sl {w : World} {hi : Nat} {v : Value} {l : List (List Ac.D)} (h : SlAB w hi v l) : SlA w v l := by
  obtain ⟨A, c, rfl, h1, h2, h3⟩ := h
  refine ⟨A, c, rfl, h1, h2, fun h0 => ?_⟩
  obtain ⟨b, off, rfl, _, ht, hc⟩ := h3 h0
  refine ⟨b, off, rfl, ht, fun k hk => ?_⟩
  obtain ⟨u, hu, hd⟩ := hc k hk
  exact ⟨u, hu, hd.sl⟩
/-- What four cells of a rule are. -/
structure Parts (w : World) (hi : Nat) (q : Value × Value × Value × Value) (r : Mn.Rule) : Prop where
  outs : SlTB w hi q.1 r.outs
  ins : SlTB w hi q.2.1 r.ins
  order : SlTB w hi q.2.2.1 r.order
  acts : SlAB w hi q.2.2.2 r.acts
/-- The types that a rule's parts are made of. -/
def PartTy (t : TypeId) : Prop := t = 9 ∨ t = 101 ∨ t = 59 ∨ t = 55
theorem Parts.keep {w w' : World} {hi : Nat} {q : Value × Value × Value × Value} {r : Mn.Rule} (h : Parts w hi q r) (hk : KeepB w w' hi PartTy) : Parts w' hi q r :=
  ⟨h.outs.keep hk (.inl rfl), h.ins.keep hk (.inl rfl), h.order.keep hk (.inl rfl), h.acts.keep hk (.inr (.inr (.inl rfl))) (.inr (.inl rfl))⟩
theorem Parts.more {w : World} {hi hi' : Nat} {q : Value × Value × Value × Value} {r : Mn.Rule} (h : Parts w hi q r) (hh : hi ≤ hi') : Parts w hi' q r :=
  ⟨h.outs.more hh, h.ins.more hh, h.order.more hh, h.acts.more hh⟩
def cellsR (q : Value × Value × Value × Value) (r : Mn.Rule) : List Value := [q.1, q.2.1, q.2.2.1, q.2.2.2, .bool r.phony]
theorem cellsR_len (q : Value × Value × Value × Value) (r : Mn.Rule) : (cellsR q r).length = 5 := rfl
def rowR (f : Nat → Value × Value × Value × Value) (l : List Mn.Rule) : Nat → List Value
  | 0 => []
  | n + 1 => rowR f l n ++ cellsR (f n) (l.getD n emptyRule)
theorem rowR_len (f : Nat → Value × Value × Value × Value) (l : List Mn.Rule) (n : Nat) : (rowR f l n).length = n * 5 := by
  induction n with
  | zero => rfl
  | succ n ih => rw [rowR, List.length_append, ih, cellsR_len]; omega
theorem rowR_at (f : Nat → Value × Value × Value × Value) (l : List Mn.Rule) : ∀ (n k j : Nat), k < n → j < 5 → (rowR f l n)[k * 5 + j]? = (cellsR (f k) (l.getD k emptyRule))[j]?
  | n + 1, k, j, h, hj => by
    have hl := rowR_len f l n
    by_cases hk : k < n
    · rw [rowR, List.getElem?_append_left (by omega)]
      exact rowR_at f l n k j hk hj
    · obtain rfl : k = n := by omega
      rw [rowR, List.getElem?_append_right (by omega), hl, show k * 5 + j - k * 5 = j from by omega]
theorem rowR_congr {f g : Nat → Value × Value × Value × Value} {l m : List Mn.Rule} : ∀ (n : Nat), (∀ k, k < n → f k = g k ∧ l.getD k emptyRule = m.getD k emptyRule) → rowR f l n = rowR g m n
  | 0, _ => rfl
  | n + 1, h => by rw [rowR, rowR, rowR_congr n (fun k hk => h k (by omega)), (h n (by omega)).1, (h n (by omega)).2]
/-- The reader's rules: a row of its own. -/
def RulesB (w : World) (base hi : Nat) (v : Value) (l : List Mn.Rule) : Prop := ∃ f : Nat → Value × Value × Value × Value,
  w.ownsRow base 41 5 v l.length (rowR f l l.length) ∧ (∀ k, v.ownBlock = some k → k < hi) ∧ ∀ k, k < l.length → Parts w hi (f k) (l.getD k emptyRule)
theorem rulesB_nil (w : World) (base hi : Nat) : RulesB w base hi (.slice none 0 0) [] := ⟨fun _ => (undef, undef, undef, undef), World.ownsRow_nil w base _ 5, fun k h => (by cases h), fun k hk => absurd hk (Nat.not_lt_zero k)⟩
theorem ownsRow_sames {w w' : World} {base n sz : Nat} {e : TypeId} {v : Value} {xs : List Value} (h : w.ownsRow base e sz v n xs) (hs : ∀ k, v.ownBlock = some k → w'.heap[k]? = w.heap[k]?) : w'.ownsRow base e sz v n xs := by
  refine ⟨h.1, ?_⟩
  rcases h.2 with h2 | ⟨g, cap, cur, rfl, hb, hg, rest⟩
  · exact .inl h2
  · exact .inr ⟨g, cap, cur, rfl, hb, (hs g rfl).trans hg, rest⟩
theorem RulesB.keep {w w' : World} {base hi : Nat} {v : Value} {l : List Mn.Rule} (h : RulesB w base hi v l) (hk : KeepB w w' hi PartTy) (hr : ∀ k, v.ownBlock = some k → w'.heap[k]? = w.heap[k]?) : RulesB w' base hi v l := by
  obtain ⟨f, h1, h2, h3⟩ := h
  exact ⟨f, ownsRow_sames h1 hr, h2, fun k hk' => (h3 k hk').keep hk⟩
theorem RulesB.more {w : World} {base hi hi' : Nat} {v : Value} {l : List Mn.Rule} (h : RulesB w base hi v l) (hh : hi ≤ hi') : RulesB w base hi' v l := by
  obtain ⟨f, h1, h2, h3⟩ := h
  exact ⟨f, h1, fun k hk => by have := h2 k hk; omega, fun k hk => (h3 k hk).more hh⟩
theorem RulesB.ty {w : World} {base hi : Nat} {v : Value} {l : List Mn.Rule} (h : RulesB w base hi v l) : ∀ k, v.ownBlock = some k → Ty w k 41 ∧ base ≤ k ∧ k < w.heap.size := by
  obtain ⟨f, h1, h2, _⟩ := h
  intro k hk
  refine ⟨?_, World.ownsRow.lt h1 k hk⟩
  rcases h1.2 with ⟨rfl, _⟩ | ⟨g, cap, cur, rfl, hb, hg, _⟩
  · cases hk
  · cases hk
    exact ⟨cur, (0, 0), hg⟩
end Go.Proofs.YtgjehlegcmeeoaaGreatDoor

/- Package mani's own reader: all of it, and how it is kept. -/
namespace Go.Proofs.YtgjehlegcmeeoaaGreatDoor
set_option maxRecDepth 100000
open Go.ChangeShapes Go.WideShapes Go.ChangeAt Go.RowKit

/-- A word whose text is bytes. -/
structure GoodW (x : Ln.W) : Prop where
  bytes : ∀ c ∈ x.text, c < 256
  len : x.text.length ≤ 1000000
structure GoodR (r : Mn.Rule) : Prop where
  outs : ∀ t ∈ r.outs, (∀ c ∈ t, c < 256) ∧ t.length ≤ 1000000
  ins : ∀ t ∈ r.ins, (∀ c ∈ t, c < 256) ∧ t.length ≤ 1000000
  order : ∀ t ∈ r.order, (∀ c ∈ t, c < 256) ∧ t.length ≤ 1000000
structure GoodS (s : Mo.S) : Prop where
  first : GoodW s.first
  rest : ∀ x ∈ s.rest, GoodW x
  chosen : ∀ x ∈ s.chosen, GoodW x
  lets : ∀ p ∈ s.lets, ∀ x ∈ p.2, GoodW x
  rules : ∀ r ∈ s.rules, GoodR r
def Fld (s : Mo.S) (lb mb : Nat) (cv rv sv : Value) : Array Value := #[.map (some lb), .map (some mb), cv, rv, .slice none 0 0, .string (str s.first.text), .int .i64 (s.first.line : Int), .int .i64 (s.first.col : Int), .bool s.first.q, sv, .int .i64 (s.e.k : Int), .int .i64 (s.e.line : Int), .int .i64 (s.e.col : Int)]
/-- What is let. -/
def LetsB (w : World) (hi b : Nat) (L : Mn.Lets) : Prop := ∃ f, MapIs w b L.length f ∧ ∀ t, (∀ c ∈ t, c < 256) → match Mn.find t L with
  | none => f t = none
  | some l => ∃ v, f t = some v ∧ SlW w hi v l
def MakersB (w : World) (b : Nat) (M : List (List Nat × Nat)) : Prop := MapIs w b M.length fun t => (Mo.has t M).map fun (i : Nat) => Value.int .i64 (i : Int)
structure MRdIn (w : World) (base hi g lb mb : Nat) (cv rv sv : Value) (s : Mo.S) : Prop where
  blk : Blk w g 57 (Fld s lb mb cv rv sv)
  chosen : SlW w hi cv s.chosen
  rules : RulesB w base hi rv s.rules
  rest : SlW w hi sv s.rest
  lets : LetsB w hi lb s.lets
  makers : MakersB w mb s.makers
  g1 : base ≤ g
  g2 : g < hi
  l1 : base ≤ lb
  l2 : lb < hi
  m1 : base ≤ mb
  m2 : mb < hi
  lm : lb ≠ mb
  top : hi ≤ w.heap.size
  good : GoodS s
def MRd (w : World) (base hi g lb mb : Nat) (s : Mo.S) : Prop := ∃ cv rv sv, MRdIn w base hi g lb mb cv rv sv s

theorem LetsB.keep {w w' : World} {hi b : Nat} {L : Mn.Lets} (h : LetsB w hi b L) (hk : KeepB w w' hi PartTy) (hb : w'.heap[b]? = w.heap[b]?) : LetsB w' hi b L := by
  obtain ⟨f, h1, h2⟩ := h
  refine ⟨f, h1.same hb, fun t ht => ?_⟩
  have := h2 t ht
  revert this
  cases Mn.find t L with
  | none => exact id
  | some l => exact fun ⟨v, hv, hs⟩ => ⟨v, hv, hs.keep hk (.inr (.inr (.inr rfl)))⟩
theorem LetsB.more {w : World} {hi hi' b : Nat} {L : Mn.Lets} (h : LetsB w hi b L) (hh : hi ≤ hi') : LetsB w hi' b L := by
  obtain ⟨f, h1, h2⟩ := h
  refine ⟨f, h1, fun t ht => ?_⟩
  have := h2 t ht
  revert this
  cases Mn.find t L with
  | none => exact id
  | some l => exact fun ⟨v, hv, hs⟩ => ⟨v, hv, hs.more hh⟩
theorem KeepB.same {w w' : World} {hi : Nat} {Q : TypeId → Prop} (h : ∀ k, k < hi → w'.heap[k]? = w.heap[k]?) : KeepB w w' hi Q := fun b _ hb _ _ => h b hb
/-- Nothing of what lies below its end is turned. -/
theorem MRdIn.same {w w' : World} {base hi g lb mb : Nat} {cv rv sv : Value} {s : Mo.S} (h : MRdIn w base hi g lb mb cv rv sv s) (hs : ∀ k, k < hi → w'.heap[k]? = w.heap[k]?) (hz : w.heap.size ≤ w'.heap.size) : MRdIn w' base hi g lb mb cv rv sv s :=
  ⟨(hs g h.g2).trans h.blk, h.chosen.keep (Q := PartTy) (KeepB.same hs) (.inr (.inr (.inr rfl))), h.rules.keep (KeepB.same hs) (fun k hk => hs k (by obtain ⟨f, _, h2, _⟩ := h.rules; exact h2 k hk)), h.rest.keep (Q := PartTy) (KeepB.same hs) (.inr (.inr (.inr rfl))),
    h.lets.keep (KeepB.same hs) (hs lb h.l2), MapIs.same h.makers (hs mb h.m2), h.g1, h.g2, h.l1, h.l2, h.m1, h.m2, h.lm, Nat.le_trans h.top hz, h.good⟩
theorem MRdIn.under {w w' : World} {base hi g lb mb : Nat} {cv rv sv : Value} {s : Mo.S} (h : MRdIn w base hi g lb mb cv rv sv s) (hb : Below w.heap.size w w') : MRdIn w' base hi g lb mb cv rv sv s :=
  h.same (fun k hk => hb.block k (Nat.lt_of_lt_of_le hk h.top)) hb.size
theorem MRdIn.more {w : World} {base hi hi' g lb mb : Nat} {cv rv sv : Value} {s : Mo.S} (h : MRdIn w base hi g lb mb cv rv sv s) (hh : hi ≤ hi') (ht : hi' ≤ w.heap.size) : MRdIn w base hi' g lb mb cv rv sv s :=
  ⟨h.blk, h.chosen.more hh, h.rules.more hh, h.rest.more hh, h.lets.more hh, h.makers, h.g1, Nat.lt_of_lt_of_le h.g2 hh, h.l1, Nat.lt_of_lt_of_le h.l2 hh, h.m1, Nat.lt_of_lt_of_le h.m2 hh, h.lm, ht, h.good⟩
theorem MRd.same {w w' : World} {base hi g lb mb : Nat} {s : Mo.S} (h : MRd w base hi g lb mb s) (hs : ∀ k, k < hi → w'.heap[k]? = w.heap[k]?) (hz : w.heap.size ≤ w'.heap.size) : MRd w' base hi g lb mb s := by
  obtain ⟨cv, rv, sv, h⟩ := h
  exact ⟨cv, rv, sv, h.same hs hz⟩
theorem MRd.under {w w' : World} {base hi g lb mb : Nat} {s : Mo.S} (h : MRd w base hi g lb mb s) (hb : Below w.heap.size w w') : MRd w' base hi g lb mb s := by
  obtain ⟨cv, rv, sv, h⟩ := h
  exact ⟨cv, rv, sv, h.under hb⟩
theorem MRd.alloc {w : World} {base hi g lb mb : Nat} {s : Mo.S} (h : MRd w base hi g lb mb s) (o : Obj) : MRd (w.alloc o) base hi g lb mb s := h.under ((Below.refl _ _).alloc (Nat.le_refl _) _)
theorem MRd.more {w : World} {base hi hi' g lb mb : Nat} {s : Mo.S} (h : MRd w base hi g lb mb s) (hh : hi ≤ hi') (ht : hi' ≤ w.heap.size) : MRd w base hi' g lb mb s := by
  obtain ⟨cv, rv, sv, h⟩ := h
  exact ⟨cv, rv, sv, h.more hh ht⟩
theorem MRd.setHigh {w : World} {base hi g lb mb : Nat} {s : Mo.S} (h : MRd w base hi g lb mb s) {p : Addr} (hp : hi ≤ p.block) (u : Value) : MRd (w.setCell p u) base hi g lb mb s :=
  h.same (fun k hk => Below.heap_setCell _ _ _ _ (by intro e; omega)) (by simp)
theorem MRd.top {w : World} {base hi g lb mb : Nat} {s : Mo.S} (h : MRd w base hi g lb mb s) : base ≤ g ∧ g < hi ∧ hi ≤ w.heap.size ∧ base ≤ mb ∧ mb < hi ∧ base ≤ lb ∧ lb < hi := by
  obtain ⟨cv, rv, sv, h⟩ := h
  exact ⟨h.g1, h.g2, h.top, h.m1, h.m2, h.l1, h.l2⟩
theorem MRd.good {w : World} {base hi g lb mb : Nat} {s : Mo.S} (h : MRd w base hi g lb mb s) : GoodS s := by
  obtain ⟨cv, rv, sv, h⟩ := h
  exact h.good
/-- The reader's own block alone is turned. -/
theorem MRdIn.turn {w w' : World} {base hi g lb mb : Nat} {cv rv sv sv' : Value} {s s' : Mo.S} (h : MRdIn w base hi g lb mb cv rv sv s) (hg : w.grownBy w' (some g)) (hB : Blk w' g 57 (Fld s' lb mb cv rv sv')) (hS : SlW w hi sv' s'.rest)
    (e1 : s'.chosen = s.chosen) (e2 : s'.rules = s.rules) (e3 : s'.lets = s.lets) (e4 : s'.makers = s.makers) (hG : GoodS s') : MRdIn w' base hi g lb mb cv rv sv' s' := by
  have hty : Ty w g 57 := h.blk.ty
  have hk : KeepB w w' hi PartTy := fun b t hb ht hq => hg.block b ht.lt (by
    intro e
    injection e with e
    subst e
    rcases hq with rfl | rfl | rfl | rfl <;> exact absurd rfl (ht.ne hty (by decide)))
  have kr : ∀ k, rv.ownBlock = some k → w'.heap[k]? = w.heap[k]? := fun k hk' => by
    have ht := h.rules.ty k hk'
    exact hg.block k ht.2.2 (by
      intro e
      injection e with e
      subst e
      exact absurd rfl (ht.1.ne hty (by decide)))
  have km : ∀ (b : Nat) (es : Array MapEntry) (c : Nat), w.heap[b]? = some (Obj.map es c) → w'.heap[b]? = w.heap[b]? := fun b es c hm => hg.block b (Array.getElem?_eq_some_iff.1 hm).1 (by
    intro e
    injection e with e
    subst e
    have := h.blk
    unfold Blk at this
    rw [hm] at this
    cases this)
  obtain ⟨f, h1, _⟩ := h.lets
  obtain ⟨es, c, hm⟩ := h1.map
  obtain ⟨es2, c2, hm2⟩ := MapIs.map h.makers
  exact ⟨hB, by rw [e1]; exact h.chosen.keep hk (.inr (.inr (.inr rfl))), by rw [e2]; exact h.rules.keep hk kr, hS.keep hk (.inr (.inr (.inr rfl))), by rw [e3]; exact h.lets.keep hk (km _ _ _ hm), by rw [e4]; exact MapIs.same h.makers (km _ _ _ hm2), h.g1, h.g2, h.l1, h.l2, h.m1, h.m2, h.lm, Nat.le_trans h.top hg.size, hG⟩
end Go.Proofs.YtgjehlegcmeeoaaGreatDoor

/- The document's own answer for lines and words: signs, faults, texts in quotes. -/
namespace Go.Proofs.YtgjehlegcmeeoaaGreatDoor
set_option maxRecDepth 100000
open Go.ChangeShapes Go.WideShapes Go.ChangeAt Go.RowKit

set_option maxRecDepth 100000 in
set_option maxHeartbeats 2000000 in
theorem refsign_any (x : Nat) (w : World) :
    Calls Tryz.prog 44 #[.int .u8 x] w fun e w' => e = .returned (.bool (Ln.sign x)) ∧ w = w' := by
  go_enter Tryz.func44, Tryz.ntmps44
  rcases Ln.sign_split x with ⟨ho, hc⟩ | ⟨ho, c1, c2, c3, c4, c5⟩
  · rw [ho]
    clear ho
    rcases hc with rfl | rfl | rfl | rfl | rfl
    all_goals
      go_wp2
      go_ret
      exact ⟨rfl, rfl⟩
  · rw [ho]
    have d1 : ((x : Int) == 58) = false := by simp; omega
    have d2 : ((x : Int) == 124) = false := by simp; omega
    have d3 : ((x : Int) == 61) = false := by simp; omega
    have d4 : ((x : Int) == 59) = false := by simp; omega
    have d5 : ((x : Int) == 44) = false := by simp; omega
    clear ho c1 c2 c3 c4 c5
    go_wp2
    go_ret
    exact ⟨rfl, rfl⟩
theorem results_tmp_cell {P : Program} {fn : Func} {t p : Tmp} {ty : TypeId} (h : fn.results = #[.tmp t, .cell p ty]) (tmps : Array Value) (w : World) (g : Nat) (bt : TypeId) (cs : Array Value) (fr : Nat × Nat) (d : TypeDesc)
    (hp : tmps.getD p undef = .pointer (some ⟨g, 0, none⟩)) (hg : w.heap[g]? = some (.cells cs bt fr))
    (hu : P.underlying ty = some d) (hd : (match d with | .struct _ | .array _ _ => true | _ => false) = true) (hi : (P.info? ty).map (·.size) = some cs.size) :
    (results fn tmps).run P w = .ok (.tuple #[tmps.getD t undef, .agg cs]) w := by
  have hp' : tmps[p]?.getD undef = .pointer (some ⟨g, 0, none⟩) := by simpa using hp
  simp [results, h, hp', asAddr, run_loadVar_row w g bt ty cs fr d hg hu hd hi]
theorem results_cell_tmp3 {P : Program} {fn : Func} {t1 t2 t3 p : Tmp} {ty : TypeId} (h : fn.results = #[.cell p ty, .tmp t1, .tmp t2, .tmp t3]) (tmps : Array Value) (w : World) (g : Nat) (bt : TypeId) (cs : Array Value) (fr : Nat × Nat) (d : TypeDesc)
    (hp : tmps.getD p undef = .pointer (some ⟨g, 0, none⟩)) (hg : w.heap[g]? = some (.cells cs bt fr))
    (hu : P.underlying ty = some d) (hd : (match d with | .struct _ | .array _ _ => true | _ => false) = true) (hi : (P.info? ty).map (·.size) = some cs.size) :
    (results fn tmps).run P w = .ok (.tuple #[.agg cs, tmps.getD t1 undef, tmps.getD t2 undef, tmps.getD t3 undef]) w := by
  have hp' : tmps[p]?.getD undef = .pointer (some ⟨g, 0, none⟩) := by simpa using hp
  simp [results, h, hp', asAddr, run_loadVar_row w g bt ty cs fr d hg hu hd hi]
theorem reffault_any (k ln col : Int) (w : World) :
    Calls Tryz.prog 26 #[.int .i64 k, .int .i64 ln, .int .i64 col] w fun e w' => e = .returned (.agg #[.int .i64 k, .int .i64 ln, .int .i64 col]) ∧ Below w.heap.size w w' := by
  go_enter Tryz.func26, Tryz.ntmps26
  go_wp2
  refine bodyPost_ret (results_cell_row rfl _ _ w.heap.size _ _ _ _ (by rfl) (heap_alloc_new w _) Tryz.underlying23 rfl (by kernel_rfl)) rfl ?_
  exact ⟨rfl, (Below.refl _ _).alloc (Nat.le_refl _) _⟩
/-- What is told of a text in quotes. -/
def QIs (x : Ln.W) (i : Nat) (w : World) : Ln.Tok → Ending → World → Prop
  | .skip _, _, _ => False
  | .word t m _, e, w' => e = .returned (.tuple #[.agg (cellsW { x with text := t, q := true }).toArray, .int .i64 ((i + m : Nat) : Int), .int .i64 0, .int .i64 0]) ∧ Below w.heap.size w w'
  | .bad k o, e, w' => (∃ y : Ln.W, e = .returned (.tuple #[.agg (cellsW y).toArray, .int .i64 0, .int .i64 (k : Int), .int .i64 ((i + o : Nat) : Int)])) ∧ Below w.heap.size w w'
theorem qis_bad {x : Ln.W} {i k o : Nat} {w w' : World} {T : Ln.Tok} {e : Ending} (h : T = .bad k o) (y : Ln.W) (he : e = .returned (.tuple #[.agg (cellsW y).toArray, .int .i64 0, .int .i64 (k : Int), .int .i64 ((i + o : Nat) : Int)])) (hb : Below w.heap.size w w') : QIs x i w T e w' := by
  rw [h]
  exact ⟨⟨y, he⟩, hb⟩
theorem qis_word {x : Ln.W} {i m : Nat} {t : List Nat} {q : Bool} {w w' : World} {T : Ln.Tok} {e : Ending} (h : T = .word t m q) (he : e = .returned (.tuple #[.agg (cellsW { x with text := t, q := true }).toArray, .int .i64 ((i + m : Nat) : Int), .int .i64 0, .int .i64 0])) (hb : Below w.heap.size w w') : QIs x i w T e w' := by
  rw [h]
  exact ⟨he, hb⟩
set_option maxRecDepth 100000 in
set_option maxHeartbeats 4000000 in
theorem refquoted_any (v : Value) (b : List Nat) (i : Nat) (x : Ln.W) (w : World) (hv : Bytes w v b) (hlt : i < b.length) (hb : b.length ≤ 1000000) :
    Calls Tryz.prog 45 #[v, .int .i64 i, .agg (cellsW x).toArray] w (QIs x i w (Ln.tokq (b.drop (i + 1)))) := by
  have HV := Lib.hid hv
  obtain ⟨hb8, hm, A, c, rfl, hc, hcell⟩ := hv.parts
  obtain ⟨bb, off, rfl, hcell0⟩ := hcell (by omega)
  clear hcell0
  obtain ⟨n, hn⟩ : ∃ n, b.length = n := ⟨_, rfl⟩
  rw [hn] at hlt hb hm hc HV ⊢
  have HN := Lib.hid hn
  have HB8 := Lib.hid (u8_lt hb8)
  obtain ⟨xt, xl, xc, xq⟩ := x
  rw [show (cellsW ⟨xt, xl, xc, xq⟩).toArray = #[.string (str xt), .int .i64 xl, .int .i64 xc, .bool xq] from rfl]
  clear hn hb8 hcell hv hm
  go_enter Tryz.func45, Tryz.ntmps45
  go_wp2_with fail
  go_loopw [10, 11] (fun kv bv wr => ∃ k m : Nat, i + 1 ≤ k ∧ k ≤ n ∧ i + 1 ≤ m ∧ m ≤ k ∧ kv = .int .i64 (k : Int) ∧ Hid (∀ y, i + 1 ≤ y → y < k → Ln.inq (b.getD y 0) = true) ∧ Hid (∀ y, i + 1 ≤ y → y < m → Ln.okq (b.getD y 0) = true) ∧
    Hid (m = k ∨ Ln.okq (b.getD m 0) = false) ∧ ((m = k ∧ bv = .int .i64 (-1)) ∨ (m < k ∧ bv = .int .i64 (m : Int))) ∧
    Blk wr w.heap.size 55 #[.string (str xt), .int .i64 xl, .int .i64 xc, .bool xq] ∧ (∃ cs, Blk wr (w.heap.size + 1) 55 cs ∧ cs.size = 4) ∧ Below w.heap.size w wr) (fun kv _ _ => n - (intOf kv).toNat)
  case atStart =>
    exact ⟨i + 1, i + 1, Nat.le_refl _, by omega, Nat.le_refl _, Nat.le_refl _, by go_num, Lib.hid (by omega), Lib.hid (by omega), Lib.hid (.inl rfl), .inl ⟨rfl, rfl⟩, Blk.alloc (heap_alloc_new w _) _, ⟨_, by rw [show w.heap.size + 1 = (w.alloc (.cells #[.string (str xt), .int .i64 xl, .int .i64 xc, .bool xq] 55)).heap.size from by simp]; exact heap_alloc_new _ _, rfl⟩, ((Below.refl _ _).alloc (Nat.le_refl _) _).alloc (by simp) _⟩
  case round =>
    obtain ⟨k, m, h1, h2, h3, h4, rfl, hin, hok, hbad, hbv, hB, ⟨cs, hC, hcs⟩, hbl⟩ := hrel
    have hV := HV.out.under hbl
    obtain ⟨c0, c1, c2, c3, rfl⟩ : ∃ c0 c1 c2 c3, cs = #[c0, c1, c2, c3] := by
      obtain ⟨l⟩ := cs
      rcases l with _ | ⟨c0, _ | ⟨c1, _ | ⟨c2, _ | ⟨c3, _ | ⟨c4, l⟩⟩⟩⟩⟩ <;> simp at hcs
      exact ⟨c0, c1, c2, c3, rfl⟩
    clear hcs
    have g0 : wr.cell? ⟨w.heap.size, 0, none⟩ = some (.string (str xt)) := hB.at 0
    have g1 : wr.cell? ⟨w.heap.size, 1, none⟩ = some (.int .i64 xl) := hB.at 1
    have g2 : wr.cell? ⟨w.heap.size, 2, none⟩ = some (.int .i64 xc) := hB.at 2
    have g3 : wr.cell? ⟨w.heap.size, 3, none⟩ = some (.bool xq) := hB.at 3
    have G : Hid (∀ j, wr.frozen? ⟨w.heap.size, j, none⟩ = false) := Lib.hid hB.free
    have d0 : wr.cell? ⟨w.heap.size + 1, 0, none⟩ = some c0 := hC.at 0
    have d1 : wr.cell? ⟨w.heap.size + 1, 1, none⟩ = some c1 := hC.at 1
    have d2 : wr.cell? ⟨w.heap.size + 1, 2, none⟩ = some c2 := hC.at 2
    have d3 : wr.cell? ⟨w.heap.size + 1, 3, none⟩ = some c3 := hC.at 3
    have f0 := hC.free 0
    have f1 := hC.free 1
    have f2 := hC.free 2
    have f3 := hC.free 3
    by_cases hk : k < n
    · have hkn : (k : Int) < (n : Int) := by omega
      obtain ⟨_, _, A', c', hAe, _, hcell⟩ := hV.parts
      injection hAe with e1 e2 e3
      obtain ⟨b', o', e4, hcl⟩ := hcell (by rw [HN.out]; omega)
      clear hcell
      rw [← e1] at e4
      injection e4 with e4
      injection e4 with e5 e6
      have hck := hcl k (by rw [HN.out]; exact hk)
      rw [← e5, ← e6] at hck
      clear hcl e1 e2 e3 e5 e6
      obtain ⟨z, hz⟩ : ∃ z, b.getD k 0 = z := ⟨_, rfl⟩
      have HZ8 : Hid (z < 256) := Lib.hid (hz ▸ HB8.out k)
      rw [hz] at hck
      have HZ := Lib.hid hz
      clear hz
      by_cases hq : z = 34
      · subst hq
        have hkc : k ≤ c := by omega
        have i1 : (0 : Int) ≤ (i : Int) + 1 := by omega
        have i2 : (i : Int) + 1 ≤ (k : Int) := by omega
        have i3 : (k : Int) ≤ (c : Int) := by omega
        have HQ := Lib.hid (Ln.quote_shut (b := b) (i := i) (k := k) (m := m) h1 (by rw [HN.out]; exact hk) hin.out HZ.out h3 h4 hok.out hbad.out)
        clear hin hok hbad
        have hs := (hV.head h2 hkc).tail (k := i + 1) (d := c - (i + 1)) (A' := some ⟨bb, off + (i + 1), none⟩) h1 (by omega) (fun _ b0 o0 e => by cases e; rfl)
        rw [List.drop_take] at hs
        have hTl : ((b.drop (i + 1)).take (k - (i + 1))).length = k - (i + 1) := by rw [List.length_take, List.length_drop, HN.out]; omega
        obtain ⟨T, hT⟩ : ∃ T, (b.drop (i + 1)).take (k - (i + 1)) = T := ⟨_, rfl⟩
        rw [hT] at hs hTl HQ
        have hcv := run_text hs
        have hsz : (str T).size = k - (i + 1) := by rw [str_size, hTl]
        have gf0 := hB.free 0
        have gf3 := hB.free 3
        have hbs := (hbl.setCell (p := ⟨w.heap.size, 0, none⟩) (by simp) (.string (str T))).setCell (p := ⟨w.heap.size, 3, none⟩) (by simp) (.bool true)
        have hCs : Blk ((wr.setCell ⟨w.heap.size, 0, none⟩ (.string (str T))).setCell ⟨w.heap.size, 3, none⟩ (.bool true)) (w.heap.size + 1) 55 #[c0, c1, c2, c3] := (hC.setOther (by simp) _).setOther (by simp) _
        clear hT hTl hs hV HV
        rcases Nat.lt_or_ge 64 (k - (i + 1)) with hL | hL
        · have hL' : (64 : Int) < ((k - (i + 1) : Nat) : Int) := by omega
          have HQ1 := Lib.hid (HQ.out.trans (if_pos hL))
          clear hL HQ hbv
          go_wp2
          refine bodyPost_ret (results_cell_tmp3 rfl _ _ (w.heap.size + 1) _ _ _ _ rfl ((((hCs.set 0 _).set 1 _).set 2 _).set 3 _) Tryz.underlying55 rfl (by kernel_rfl)) rfl ?_
          exact qis_bad HQ1.out ⟨T, xl, xc, true⟩ rfl ((((hbs.setCell (by simp) _).setCell (by simp) _).setCell (by simp) _).setCell (by simp) _)
        · have hL' : ¬ (64 : Int) < ((k - (i + 1) : Nat) : Int) := by omega
          have HQ1 := Lib.hid (HQ.out.trans (if_neg (by omega)))
          clear hL HQ
          rcases hbv with ⟨rfl, rfl⟩ | ⟨hmk, rfl⟩
          · have HQ2 := Lib.hid (HQ1.out.trans (if_pos rfl))
            have HE : Hid ((m : Int) + 1 = ((i + (m - (i + 1) + 2) : Nat) : Int)) := Lib.hid (by omega)
            clear HQ1
            go_wp2
            refine bodyPost_ret (results_cell_tmp3 rfl _ _ (w.heap.size + 1) _ _ _ _ rfl ((((hCs.set 0 _).set 1 _).set 2 _).set 3 _) Tryz.underlying55 rfl (by kernel_rfl)) rfl ?_
            refine qis_word HQ2.out ?_ ((((hbs.setCell (by simp) _).setCell (by simp) _).setCell (by simp) _).setCell (by simp) _)
            rw [← HE.out]
            rfl
          · have HQ2 := Lib.hid (HQ1.out.trans (if_neg (by omega)))
            have HE : Hid ((m : Int) = ((i + (m - i) : Nat) : Int)) := Lib.hid (by omega)
            have hm0 : (0 : Int) ≤ (m : Int) := by omega
            clear HQ1
            go_wp2
            refine bodyPost_ret (results_cell_tmp3 rfl _ _ (w.heap.size + 1) _ _ _ _ rfl ((((hCs.set 0 _).set 1 _).set 2 _).set 3 _) Tryz.underlying55 rfl (by kernel_rfl)) rfl ?_
            refine qis_bad HQ2.out ⟨T, xl, xc, true⟩ ?_ ((((hbs.setCell (by simp) _).setCell (by simp) _).setCell (by simp) _).setCell (by simp) _)
            rw [← HE.out]
            rfl
      · by_cases hq2 : z = 10
        · subst hq2
          have HQ := Lib.hid (Ln.quote_open (b := b) (i := i) (k := k) h1 (by rw [HN.out]; exact h2) hin.out (.inr HZ.out))
          clear hbv hin hok hbad
          go_wp2
          refine bodyPost_ret (results_cell_tmp3 rfl _ _ (w.heap.size + 1) _ _ _ _ rfl ((((hC.set 0 _).set 1 _).set 2 _).set 3 _) Tryz.underlying55 rfl (by kernel_rfl)) rfl ?_
          exact qis_bad HQ.out ⟨xt, xl, xc, xq⟩ rfl ((((hbl.setCell (by simp) _).setCell (by simp) _).setCell (by simp) _).setCell (by simp) _)
        · have HIN : Hid (∀ y, i + 1 ≤ y → y < k + 1 → Ln.inq (b.getD y 0) = true) := Lib.hid fun y h5 h6 => by
            rcases Nat.lt_or_ge y k with h7 | h7
            · exact hin.out y h5 h7
            · rw [show y = k from by omega, HZ.out]
              simp [Ln.inq, hq, hq2]
          have hz1 : ((z : Int) != 34) = true := by simp; omega
          have hz2 : ((z : Int) != 10) = true := by simp; omega
          clear hin hq hq2
          rcases hbv with ⟨rfl, rfl⟩ | ⟨hmk, rfl⟩
          · have hz3 : (z : Int) < 32 ∨ ((32 : Int) ≤ (z : Int) ∧ (126 : Int) < (z : Int)) ∨ ((32 : Int) ≤ (z : Int) ∧ (z : Int) ≤ 126) := by omega
            have HO1 : Hid (z < 32 ∨ 126 < z → Ln.okq (b.getD m 0) = false) := Lib.hid fun h => by
              rw [HZ.out]
              rcases h with h | h
              · simp [Ln.okq]; omega
              · simp [Ln.okq]; omega
            have HO2 : Hid (32 ≤ z → z ≤ 126 → ∀ y, i + 1 ≤ y → y < m + 1 → Ln.okq (b.getD y 0) = true) := Lib.hid fun ha hb' y h5 h6 => by
              rcases Nat.lt_or_ge y m with h7 | h7
              · exact hok.out y h5 h7
              · rw [show y = m from by omega, HZ.out]
                simp [Ln.okq, ha, hb']
            rcases hz3 with a1 | ⟨a1, a2⟩ | ⟨a1, a2⟩
            · have HO3 := Lib.hid (HO1.out (.inl (by omega)))
              go_wp2
              go_roundw
              case rel => exact ⟨m + 1, m, by omega, by omega, h3, by omega, by go_num, HIN, hok, Lib.hid (.inr HO3.out), .inr ⟨by omega, rfl⟩, hB, ⟨_, hC, rfl⟩, hbl⟩
              case measure => simp [intOf]; omega
            · have HO3 := Lib.hid (HO1.out (.inr (by omega)))
              go_wp2
              go_roundw
              case rel => exact ⟨m + 1, m, by omega, by omega, h3, by omega, by go_num, HIN, hok, Lib.hid (.inr HO3.out), .inr ⟨by omega, rfl⟩, hB, ⟨_, hC, rfl⟩, hbl⟩
              case measure => simp [intOf]; omega
            · have HO3 := Lib.hid (HO2.out (by omega) (by omega))
              go_wp2
              go_roundw
              case rel => exact ⟨m + 1, m + 1, by omega, by omega, by omega, by omega, by go_num, HIN, HO3, Lib.hid (.inl rfl), .inl ⟨rfl, rfl⟩, hB, ⟨_, hC, rfl⟩, hbl⟩
              case measure => simp [intOf]; omega
          · have hm0 : ¬ (m : Int) < 0 := by omega
            go_wp2
            go_roundw
            case rel => exact ⟨k + 1, m, by omega, by omega, h3, by omega, by go_num, HIN, hok, hbad.out.elim (fun h => absurd h (by omega)) (fun h => Lib.hid (.inr h)), .inr ⟨by omega, rfl⟩, hB, ⟨_, hC, rfl⟩, hbl⟩
            case measure => simp [intOf]; omega
    · obtain rfl : k = n := by omega
      have HQ := Lib.hid (Ln.quote_open (b := b) (i := i) (k := k) h1 (by rw [HN.out]; exact h2) hin.out (.inl HN.out.symm))
      clear hbv hin hok hbad
      go_wp2
      refine bodyPost_ret (results_cell_tmp3 rfl _ _ (w.heap.size + 1) _ _ _ _ rfl ((((hC.set 0 _).set 1 _).set 2 _).set 3 _) Tryz.underlying55 rfl (by kernel_rfl)) rfl ?_
      exact qis_bad HQ.out ⟨xt, xl, xc, xq⟩ rfl ((((hbl.setCell (by simp) _).setCell (by simp) _).setCell (by simp) _).setCell (by simp) _)
end Go.Proofs.YtgjehlegcmeeoaaGreatDoor

/- Lines and words, how great they are: plain facts for package mani. -/
namespace Go.Proofs.YtgjehlegcmeeoaaGreatDoor
set_option maxRecDepth 100000
open Go.ChangeShapes Go.WideShapes Go.ChangeAt Go.RowKit

theorem lsp_bad_pos : ∀ (n : Nat) (l : List Nat) (ln col : Nat) (row : List Ln.W) (k a b : Nat), l.length ≤ n → Ln.sp l ln col row = .bad k a b → 1 ≤ k ∧ a ≤ ln + l.length := by
  intro n
  induction n with
  | zero =>
    intro l ln col row k a b h hb
    obtain rfl := List.length_eq_zero_iff.1 (Nat.le_zero.1 h)
    rw [Ln.sp_nil] at hb
    cases hb
  | succ n ih =>
    intro l ln col row k a b h hb
    cases l with
    | nil =>
      rw [Ln.sp_nil] at hb
      cases hb
    | cons c r =>
      rw [List.length_cons] at h ⊢
      by_cases hc : c = 10
      · subst hc
        rw [Ln.sp_nl] at hb
        rcases hs : Ln.sp r (ln + 1) 1 [] with LL | ⟨k', a', b'⟩
        · rw [hs] at hb; cases hb
        · rw [hs] at hb
          injection hb with h1 h2 h3
          subst h1 h2 h3
          have := ih r (ln + 1) 1 [] _ _ _ (by omega) hs
          omega
      · rcases ht : Ln.tok c r with m | ⟨t, m, q⟩ | ⟨kd, o⟩
        · obtain ⟨h1, h2⟩ := Ln.tok_skip_le ht
          rw [Ln.sp_skip hc ht] at hb
          have := ih _ _ _ _ _ _ _ (by rw [List.length_drop, List.length_cons]; omega) hb
          rw [List.length_drop, List.length_cons] at this
          omega
        · obtain ⟨h1, h2⟩ := Ln.tok_word_le ht
          rw [Ln.sp_word hc ht] at hb
          have := ih _ _ _ _ _ _ _ (by rw [List.length_drop, List.length_cons]; omega) hb
          rw [List.length_drop, List.length_cons] at this
          omega
        · rw [Ln.sp_bad hc ht] at hb
          injection hb with h1 h2 h3
          have := Ln.tok_bad ht
          omega
theorem lbad_pos {l : List Nat} {k a b : Nat} (h : Ln.split l = .bad k a b) : 1 ≤ k := (lsp_bad_pos l.length l 1 1 [] k a b (Nat.le_refl _) h).1
theorem own_mem {t : List Nat} {q : Bool} {c : Nat} (h : c ∈ t) : c ∈ Ln.own t q := by
  unfold Ln.own
  split
  · simp [h]
  · exact h
theorem own_len (t : List Nat) (q : Bool) : t.length ≤ (Ln.own t q).length := by
  rw [Ln.own_len]
  omega
theorem pl_good {b : List Nat} (hb : ∀ c ∈ b, c < 256) (hn : b.length ≤ 1000000) : ∀ {xs : List Ln.W} {lo hi : Nat}, Ln.Pl b lo xs hi → (∀ x ∈ xs, GoodW x) ∧ lo + xs.length ≤ hi
  | [], _, _, h => ⟨by simp, h⟩
  | y :: xs, _, _, ⟨fr, _, _, h3, h4, h5, h6, h⟩ => by
    obtain ⟨h7, h8⟩ := pl_good hb hn h
    refine ⟨fun x hx => ?_, by rw [List.length_cons]; omega⟩
    rcases List.mem_cons.1 hx with rfl | hx
    · refine ⟨fun c hc => ?_, by have := own_len x.text x.q; omega⟩
      have := own_mem (q := x.q) hc
      rw [← h6] at this
      exact hb c (List.mem_of_mem_drop (List.mem_of_mem_take this))
    · exact h7 x hx
theorem flat_len : ∀ {LL : List (List Ln.W)}, (∀ R ∈ LL, Ln.Row R) → LL.length ≤ LL.flatten.length ∧ ∀ R ∈ LL, R.length ≤ LL.flatten.length
  | [], _ => ⟨Nat.zero_le _, by simp⟩
  | R :: LL, h => by
    obtain ⟨h1, h3⟩ := flat_len (LL := LL) fun R hR => h R (by simp [hR])
    have h2 : 0 < R.length := by
      have := (h R (by simp)).1
      cases R with
      | nil => exact absurd rfl this
      | cons => simp
    rw [List.length_cons, List.flatten_cons, List.length_append]
    refine ⟨by omega, fun S hS => ?_⟩
    rcases List.mem_cons.1 hS with rfl | hS
    · omega
    · have := h3 S hS
      omega
/-- The lines of a text that is not too long. -/
theorem lwords {b : List Nat} (hb : ∀ c ∈ b, c < 256) (hn : b.length ≤ 1000000) {LL : List (List Ln.W)} (h : Ln.split b = .ok LL) : LL.length ≤ 1000000 ∧ ∀ L ∈ LL, (∀ x ∈ L, GoodW x) ∧ 0 < L.length ∧ L.length ≤ 1000000 := by
  obtain ⟨⟨hi, hp, hh⟩, hr⟩ := Ln.places_is h
  obtain ⟨h1, h2⟩ := pl_good hb hn hp
  obtain ⟨h3, h4⟩ := flat_len hr
  refine ⟨by omega, fun L hL => ⟨fun x hx => h1 x (List.mem_flatten.2 ⟨L, hL, hx⟩), ?_, by have := h4 L hL; omega⟩⟩
  have := (hr L hL).1
  cases L with
  | nil => exact absurd rfl this
  | cons => simp
end Go.Proofs.YtgjehlegcmeeoaaGreatDoor
