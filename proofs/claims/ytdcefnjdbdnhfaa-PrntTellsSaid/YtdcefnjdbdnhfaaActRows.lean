/- Rows of things that are done: read, kept, grown by one; two that are the same are told so. -/
import Derived.Test.YtdcefnjdbdnhfaaText
import Derived.Test.YtdcefnjdbdnhfaaActMath
import Derived.Maps.AppendAt
import Derived.RegionTactic
import Derived.BigQuiet
import Derived.Deep.QuietTactic
namespace Go.Proofs.Ytdcefnjdbdnhfaa
set_option maxRecDepth 100000
open Go.ChangeShapes Go.WideShapes Go.ChangeAt Go.RowKit

def cellsD (x : Ac.D) : List Value := [.int .i64 (x.kind : Int), .int .i64 (x.n : Int), .string (str x.text)]
def rowD (L : List Ac.D) : List Value := L.flatMap cellsD
theorem cellsD_len (x : Ac.D) : (cellsD x).length = 3 := rfl
theorem cellsD_one (x : Ac.D) : ∀ u ∈ cellsD x, u.oneCell' = true := by
  intro u hu
  simp only [cellsD, List.mem_cons, List.not_mem_nil, or_false] at hu
  rcases hu with rfl | rfl | rfl <;> rfl
theorem rowD_len (L : List Ac.D) : (rowD L).length = L.length * 3 := by
  induction L with
  | nil => rfl
  | cons x L ih =>
    simp only [rowD, List.flatMap_cons, List.length_append, cellsD_len, List.length_cons] at ih ⊢
    omega
theorem rowD_snoc (L : List Ac.D) (x : Ac.D) : rowD (L ++ [x]) = rowD L ++ cellsD x := by simp [rowD]
theorem rowD_at : ∀ (L : List Ac.D) (k j : Nat) (h : k < L.length), j < 3 → (rowD L)[k * 3 + j]? = (cellsD (L[k]'h))[j]?
  | x :: L, 0, j, _, hj => by
    rw [rowD, List.flatMap_cons, List.getElem?_append_left (by rw [cellsD_len]; omega), Nat.zero_mul, Nat.zero_add]
    rfl
  | x :: L, k + 1, j, h, hj => by
    rw [rowD, List.flatMap_cons, List.getElem?_append_right (by rw [cellsD_len]; omega), cellsD_len, show (k + 1) * 3 + j - 3 = k * 3 + j from by omega]
    exact rowD_at L k j (by simpa using h) hj
/-- A row of things of the call's own. -/
def OwnD (w : World) (base : Nat) (v : Value) (L : List Ac.D) : Prop := w.ownsRow base 26 3 v L.length (rowD L)
theorem ownD_none (w : World) (base : Nat) : OwnD w base (.slice none 0 0) [] := World.ownsRow_nil w base _ 3
theorem OwnD.grown {w w' : World} {row : Option Nat} {base : Nat} {v : Value} {L : List Ac.D} (h : OwnD w base v L) (hg : w.grownBy w' row) (hne : v.ownBlock = none ∨ v.ownBlock ≠ row) : OwnD w' base v L := World.ownsRow.kept h hg hne
theorem OwnD.under {w w' : World} {base : Nat} {v : Value} {L : List Ac.D} (h : OwnD w base v L) (hb : Below w.heap.size w w') : OwnD w' base v L := h.grown (Below.toGrown hb none) (by cases v.ownBlock <;> simp)
theorem OwnD.alloc {w : World} {base : Nat} {v : Value} {L : List Ac.D} (h : OwnD w base v L) (o : Obj) : OwnD (w.alloc o) base v L := World.ownsRow.alloc h o
theorem OwnD.lt {w : World} {base : Nat} {v : Value} {L : List Ac.D} (h : OwnD w base v L) : Between base w.heap.size v := fun k hk => World.ownsRow.lt h k hk
theorem OwnD.parts {w : World} {base : Nat} {v : Value} {L : List Ac.D} (h : OwnD w base v L) : ∃ A c, v = .slice A L.length c ∧ L.length ≤ c := by
  rcases h.2 with ⟨rfl, h0⟩ | ⟨g, cap, cur, rfl, _, _, hn, _⟩
  · exact ⟨none, 0, by rw [h0], by omega⟩
  · exact ⟨_, _, rfl, hn⟩
theorem OwnD.more {w : World} {base base' : Nat} {v : Value} {L : List Ac.D} (h : OwnD w base v L) (hb : base' ≤ base) : OwnD w base' v L := by
  refine ⟨h.1, ?_⟩
  rcases h.2 with h2 | ⟨g, cap, cur, e, hg, rest⟩
  · exact .inl h2
  · exact .inr ⟨g, cap, cur, e, Nat.le_trans hb hg, rest⟩
theorem OwnD.heap {w W : World} {base : Nat} {v : Value} {L : List Ac.D} (h : OwnD w base v L) (e : W.heap = w.heap) : OwnD W base v L := by
  unfold OwnD World.ownsRow at *
  rw [e]
  exact h
/-- A slice of things that reads as a row. -/
def RdD (w : World) (v : Value) (R : List Ac.D) : Prop :=
  ∃ A c, v = .slice A R.length c ∧ R.length ≤ c ∧ R.length ≤ maxLen ∧ (0 < R.length → ∃ b off, A = some ⟨b, off, none⟩ ∧ ∀ k (h : k < R.length), w.cell? ⟨b, off + k * 3, none⟩ = some (.int .i64 ((R[k]'h).kind : Int)) ∧ w.cell? ⟨b, off + k * 3 + 1, none⟩ = some (.int .i64 ((R[k]'h).n : Int)) ∧ w.cell? ⟨b, off + k * 3 + 2, none⟩ = some (.string (str (R[k]'h).text)))
theorem OwnD.rd {w : World} {base : Nat} {v : Value} {R : List Ac.D} (h : OwnD w base v R) : RdD w v R := by
  have h' := h
  rcases h.2 with ⟨rfl, h0⟩ | ⟨g, cap, cur, rfl, hb, hg, hn, hm, hs, ht⟩
  · exact ⟨none, 0, by rw [h0], by omega, by unfold maxLen; omega, fun h => by omega⟩
  · refine ⟨_, cap, rfl, hn, Nat.le_trans hn hm, fun _ => ⟨g, 0, rfl, fun k hk => ?_⟩⟩
    have hc : ∀ j, j < 3 → w.cell? ⟨g, 0 + k * 3 + j, none⟩ = (cellsD (R[k]'hk))[j]? := fun j hj => by
      rw [show 0 + k * 3 + j = k * 3 + j from by omega, World.ownsRow.cellAt h' (k * 3 + j) (by omega), rowD_at R k j hk hj]
    exact ⟨hc 0 (by omega), hc 1 (by omega), hc 2 (by omega)⟩
theorem RdD.under {w w' : World} {v : Value} {R : List Ac.D} (h : RdD w v R) (hb : Below w.heap.size w w') : RdD w' v R := by
  obtain ⟨A, c, rfl, h1, h2, h3⟩ := h
  refine ⟨A, c, rfl, h1, h2, fun h0 => ?_⟩
  obtain ⟨b, off, rfl, hc⟩ := h3 h0
  exact ⟨b, off, rfl, fun k hk => ⟨cell_later hb (hc k hk).1, cell_later hb (hc k hk).2.1, cell_later hb (hc k hk).2.2⟩⟩
theorem RdD.alloc {w : World} {v : Value} {R : List Ac.D} (h : RdD w v R) (o : Obj) : RdD (w.alloc o) v R := h.under ((Below.refl _ _).alloc (Nat.le_refl _) _)
theorem rdD_none (w : World) : RdD w (.slice none 0 0) [] := ⟨none, 0, rfl, Nat.le_refl _, Nat.zero_le _, fun h => absurd h (by simp)⟩
theorem RdD.parts {w : World} {v : Value} {R : List Ac.D} (h : RdD w v R) : ∃ A c, v = .slice A R.length c ∧ R.length ≤ c := by
  obtain ⟨A, c, e, h, _⟩ := h
  exact ⟨A, c, e, h⟩
theorem RdD.at {w : World} {A : Option Addr} {n c : Nat} {R : List Ac.D} (h : RdD w (.slice A n c) R) (k : Nat) (hk : k < R.length) : ∃ b off, A = some ⟨b, off, none⟩ ∧ w.cell? ⟨b, off + k * 3, none⟩ = some (.int .i64 ((R[k]'hk).kind : Int)) ∧ w.cell? ⟨b, off + k * 3 + 1, none⟩ = some (.int .i64 ((R[k]'hk).n : Int)) ∧ w.cell? ⟨b, off + k * 3 + 2, none⟩ = some (.string (str (R[k]'hk).text)) := by
  obtain ⟨A', c', e, _, _, hx⟩ := h
  injection e with e1 e2 e3
  subst e1
  obtain ⟨b, off, rfl, hc⟩ := hx (by omega)
  exact ⟨b, off, rfl, hc k hk⟩
theorem infoDo : (Try.prog.info? 26).map (fun i => (i.zero, i.size, i.bytes)) = some (some (.agg #[.int .i64 0, .int .i64 0, .string ⟨#[]⟩]), 3, 32) := by kernel_rfl
/-- A row of things, newly made. -/
theorem ownD_lit (w : World) (base : Nat) (L : List Ac.D) (C : Array Value) (n : Nat) (hn : L.length = n) (hC : C.toList = rowD L) (hb : base ≤ w.heap.size) (hm : L.length ≤ 1000000) : OwnD (w.alloc (.cells C 26)) base (.slice (some ⟨w.heap.size, 0, none⟩) n n) L := by
  subst hn
  have hl := rowD_len L
  have hs : C.size = L.length * 3 := by rw [← hl, ← hC]; simp
  exact ⟨hl, .inr ⟨w.heap.size, L.length, C, rfl, hb, heap_alloc_new w _, Nat.le_refl _, by unfold maxLen; omega, hs, by rw [hC, List.take_of_length_le (Nat.le_of_eq hl)]⟩⟩
theorem wpList_append_do {w : World} {ops : Array Oper} {rest : List Oper} {o : Oper} {a : Act} {Q : Exit → Act → World → Prop} (hgd : o.guard = none) (s x : Operand)
    (ho : o.op = .call { callee := .builtin .append, args := #[s, x], argTypes := #[27, 27] }) (base B : Nat) (u : Value) (R : List Ac.D) (z : Ac.D) (hs : a.eval s = u) (hst : OwnD w base u R)
    (hx : a.eval x = .slice (some ⟨B, 0, none⟩) 1 1) (hB : ∀ j y, (cellsD z)[j]? = some y → w.cell? ⟨B, j, none⟩ = some y)
    (hlen : R.length ≤ 1099511627776) (hbase : base ≤ w.heap.size) (R' : List Ac.D) (hR : R ++ [z] = R')
    (h : ∀ u' w', OwnD w' base u' R' → w.grownBy w' u.ownBlock → Below base w w' → wpList Try.prog ops Q rest (a.put o.dst u') w') : wpList Try.prog ops Q (o :: rest) a w := by
  subst hR
  obtain ⟨i, hi, hz0, hz1, hz2⟩ := info_parts infoDo
  refine wpList_append_own_at w hgd s x 27 ho base 26 i (.agg #[.int .i64 0, .int .i64 0, .string ⟨#[]⟩]) 3 32 Try.underlying27 hi hz0 hz1 hz2 (by kernel_rfl) (by decide) u R.length (rowD R) hs hst ⟨B, 0, none⟩ 1 1 (cellsD z) hx rfl ?_ (cellsD_one z) (by unfold maxLen; omega) (by omega) hbase ?_
  · intro j y hy
    rw [add_plain]
    simpa using hB j y hy
  · intro u' w' g1 g2 _ _
    refine h u' w' ?_ g2 ((Below.refl _ _).grown g2 hbase fun k hk => (World.ownsRow.lt hst k hk).1)
    unfold OwnD
    rw [List.length_append, List.length_singleton, rowD_snoc]
    exact g1
set_option maxRecDepth 100000 in
set_option maxHeartbeats 4000000 in
/-- Two actions whose texts are bytes: are they the same? -/
theorem refsameact_any (v1 v2 : Value) (L1 L2 : List Ac.D) (w : World) (h1 : RdD w v1 L1) (h2 : RdD w v2 L2) (t1 : ∀ d ∈ L1, ∀ c ∈ d.text, c < 256) (t2 : ∀ d ∈ L2, ∀ c ∈ d.text, c < 256) :
    Calls Try.prog 16 #[v1, v2] w fun e w' => e = .returned (.bool (decide (L1 = L2))) ∧ ∃ nq, w' = w.drewN nq := by
  obtain ⟨A1, c1, rfl, h11, h12, h13⟩ := h1
  obtain ⟨A2, c2, rfl, h21, h22, h23⟩ := h2
  obtain ⟨N1, hN1⟩ : ∃ N, L1.length = N := ⟨_, rfl⟩
  obtain ⟨N2, hN2⟩ : ∃ N, L2.length = N := ⟨_, rfl⟩
  rw [hN1] at h11 h12
  rw [hN2] at h21 h22
  have HN1 := Lib.hid hN1
  have HN2 := Lib.hid hN2
  have H1 := Lib.hid h13
  have H2 := Lib.hid h23
  have T1 := Lib.hid t1
  have T2 := Lib.hid t2
  unfold maxLen at h12 h22
  rw [hN1, hN2]
  clear h13 h23 hN1 hN2 t1 t2
  go_enter Try.func16, Try.ntmps16
  by_cases hne : N1 = N2
  · subst hne
    go_wp2_with fail
    go_loopw [5] (fun i wr => ∃ k : Nat, k ≤ N1 ∧ i = .int .i64 (k : Int) ∧ Hid (L1.take k = L2.take k) ∧ ∃ nq, wr = w.drewN nq) (fun i _ => N1 - (intOf i).toNat)
    case atStart => exact ⟨0, by omega, rfl, Lib.hid rfl, 0, rfl⟩
    case round =>
      obtain ⟨k, hk, rfl, hpre, nq, rfl⟩ := hrel
      by_cases hlt : k < N1
      · have hkn : (k : Int) < (N1 : Int) := by omega
        have hk1 : k < L1.length := by rw [HN1.out]; exact hlt
        have hk2 : k < L2.length := by rw [HN2.out]; exact hlt
        obtain ⟨b1, o1, rfl, hc1⟩ := H1.out (by rw [HN1.out]; omega)
        obtain ⟨b2, o2, rfl, hc2⟩ := H2.out (by rw [HN2.out]; omega)
        obtain ⟨p0, p1, p2⟩ := hc1 k hk1
        obtain ⟨q0, q1, q2⟩ := hc2 k hk2
        have HNEXT : Hid (L1[k]'hk1 = L2[k]'hk2 → L1.take (k + 1) = L2.take (k + 1)) := Lib.hid (fun e => by rw [List.take_succ_eq_append_getElem hk1, List.take_succ_eq_append_getElem hk2, hpre.out, e])
        have HNOT : Hid (L1[k]'hk1 ≠ L2[k]'hk2 → L1 ≠ L2) := Lib.hid (fun h e => h (by subst e; rfl))
        have HT1 : Hid (∀ c ∈ (L1[k]'hk1).text, c < 256) := Lib.hid (T1.out _ (List.getElem_mem hk1))
        have HT2 : Hid (∀ c ∈ (L2[k]'hk2).text, c < 256) := Lib.hid (T2.out _ (List.getElem_mem hk2))
        obtain ⟨x, hx⟩ : ∃ x, L1[k]'hk1 = x := ⟨_, rfl⟩
        obtain ⟨y, hy⟩ : ∃ y, L2[k]'hk2 = y := ⟨_, rfl⟩
        rw [hx] at p0 p1 p2 HNEXT HNOT HT1
        rw [hy] at q0 q1 q2 HNEXT HNOT HT2
        clear hc1 hc2 hx hy
        obtain ⟨xk, xn, xt⟩ := x
        obtain ⟨yk, yn, yt⟩ := y
        change w.cell? ⟨b1, o1 + k * 3 + 2, none⟩ = some (.string (str xt)) at p2
        change w.cell? ⟨b1, o1 + k * 3 + 1, none⟩ = some (.int .i64 (xn : Int)) at p1
        change w.cell? ⟨b1, o1 + k * 3, none⟩ = some (.int .i64 (xk : Int)) at p0
        change w.cell? ⟨b2, o2 + k * 3 + 2, none⟩ = some (.string (str yt)) at q2
        change w.cell? ⟨b2, o2 + k * 3 + 1, none⟩ = some (.int .i64 (yn : Int)) at q1
        change w.cell? ⟨b2, o2 + k * 3, none⟩ = some (.int .i64 (yk : Int)) at q0
        change Hid (∀ c ∈ xt, c < 256) at HT1
        change Hid (∀ c ∈ yt, c < 256) at HT2
        have hse := str_same HT1.out HT2.out
        by_cases he : xk = yk ∧ xn = yn ∧ xt = yt
        · obtain ⟨rfl, rfl, rfl⟩ := he
          have HN3 := Lib.hid (HNEXT.out rfl)
          clear HNEXT HNOT
          go_wp2
          go_quiet (fail)
          go_wp2
          go_roundw
          case rel => exact ⟨k + 1, hlt, by go_num, HN3, _, rfl⟩
          case measure => simp [intOf]; omega
        · have hD : decide (L1 = L2) = false := decide_eq_false (HNOT.out fun e => he (by injection e with e1 e2 e3; exact ⟨e1, e2, e3⟩))
          have HD := Lib.hid hD
          clear hD HNEXT HNOT
          by_cases hek : xk = yk
          · subst hek
            by_cases hen : xn = yn
            · subst hen
              have het : ((str xt).toList == (str yt).toList) = false := by
                rw [hse]
                exact decide_eq_false fun e => he ⟨rfl, rfl, e⟩
              clear he hse
              go_wp2
              go_quiet (fail)
              go_wp2
              go_ret
              exact ⟨by rw [HD.out]; rfl, _, World.drewN_drewN _ _ _⟩
            · have het : ((xn : Int) == (yn : Int)) = false := by simp; omega
              clear he hse
              go_wp2
              go_quiet (fail)
              go_wp2
              go_ret
              exact ⟨by rw [HD.out]; rfl, _, World.drewN_drewN _ _ _⟩
          · have het : ((xk : Int) == (yk : Int)) = false := by simp; omega
            clear he hse
            go_wp2
            go_quiet (fail)
            go_wp2
            go_ret
            exact ⟨by rw [HD.out]; rfl, _, World.drewN_drewN _ _ _⟩
      · obtain rfl : k = N1 := by omega
        have hD : decide (L1 = L2) = true := decide_eq_true (by
          have := hpre.out
          rwa [List.take_of_length_le (by rw [HN1.out]; exact Nat.le_refl _), List.take_of_length_le (by rw [HN2.out]; exact Nat.le_refl _)] at this)
        have HD := Lib.hid hD
        clear hD
        go_wp2
        go_ret
        exact ⟨by rw [HD.out]; rfl, nq, rfl⟩
  · have hD : decide (L1 = L2) = false := decide_eq_false (fun e => hne (by rw [← HN1.out, ← HN2.out, e]))
    have hn2 : ((N1 : Int) != (N2 : Int)) = true := by simp; omega
    have HD := Lib.hid hD
    clear hD hne
    go_wp2
    go_ret
    exact ⟨by rw [HD.out]; rfl, 0, rfl⟩
end Go.Proofs.Ytdcefnjdbdnhfaa
