/- What package acts answers: which texts, which things and rows of them may be. -/
import Derived.Test.YtldnpedegcbglaaActRef
import Derived.Test.YtldnpedegcbglaaActE
namespace Go.Proofs.Ytldnpedegcbglaa
set_option maxRecDepth 100000
open Go.ChangeShapes Go.WideShapes Go.ChangeAt Go.RowKit

def cellsE (x : Ac.E) : List Value := [.int .i64 (x.kind : Int), .int .i64 x.n, .string (str x.text)]
def rowE (L : List Ac.E) : List Value := L.flatMap cellsE
theorem cellsE_len (x : Ac.E) : (cellsE x).length = 3 := rfl
theorem cellsE_one (x : Ac.E) : ∀ u ∈ cellsE x, u.oneCell' = true := by
  intro u hu
  simp only [cellsE, List.mem_cons, List.not_mem_nil, or_false] at hu
  rcases hu with rfl | rfl | rfl <;> rfl
theorem rowE_len (L : List Ac.E) : (rowE L).length = L.length * 3 := by
  induction L with
  | nil => rfl
  | cons x L ih =>
    simp only [rowE, List.flatMap_cons, List.length_append, cellsE_len, List.length_cons] at ih ⊢
    omega
theorem rowE_snoc (L : List Ac.E) (x : Ac.E) : rowE (L ++ [x]) = rowE L ++ cellsE x := by simp [rowE]
theorem rowE_map (L : List Ac.D) : rowE (L.map Ac.D.e) = rowD L := by
  induction L with
  | nil => rfl
  | cons d L ih =>
    show cellsE d.e ++ rowE (L.map Ac.D.e) = cellsD d ++ rowD L
    rw [ih]
    rfl
theorem rowE_at : ∀ (L : List Ac.E) (k j : Nat) (h : k < L.length), j < 3 → (rowE L)[k * 3 + j]? = (cellsE (L[k]'h))[j]?
  | x :: L, 0, j, _, hj => by
    rw [rowE, List.flatMap_cons, List.getElem?_append_left (by rw [cellsE_len]; omega), Nat.zero_mul, Nat.zero_add]
    rfl
  | x :: L, k + 1, j, h, hj => by
    rw [rowE, List.flatMap_cons, List.getElem?_append_right (by rw [cellsE_len]; omega), cellsE_len, show (k + 1) * 3 + j - 3 = k * 3 + j from by omega]
    exact rowE_at L k j (by simpa using h) hj
/-- A row of things of the call's own, with numbers of any size. -/
def OwnE (w : World) (base : Nat) (v : Value) (L : List Ac.E) : Prop := w.ownsRow base 26 3 v L.length (rowE L)
theorem ownE_none (w : World) (base : Nat) : OwnE w base (.slice none 0 0) [] := World.ownsRow_nil w base _ 3
theorem OwnE.grown {w w' : World} {row : Option Nat} {base : Nat} {v : Value} {L : List Ac.E} (h : OwnE w base v L) (hg : w.grownBy w' row) (hne : v.ownBlock = none ∨ v.ownBlock ≠ row) : OwnE w' base v L := World.ownsRow.kept h hg hne
theorem OwnE.under {w w' : World} {base : Nat} {v : Value} {L : List Ac.E} (h : OwnE w base v L) (hb : Below w.heap.size w w') : OwnE w' base v L := h.grown (Below.toGrown hb none) (by cases v.ownBlock <;> simp)
theorem OwnE.alloc {w : World} {base : Nat} {v : Value} {L : List Ac.E} (h : OwnE w base v L) (o : Obj) : OwnE (w.alloc o) base v L := World.ownsRow.alloc h o
theorem OwnE.parts {w : World} {base : Nat} {v : Value} {L : List Ac.E} (h : OwnE w base v L) : ∃ A c, v = .slice A L.length c ∧ L.length ≤ c := by
  rcases h.2 with ⟨rfl, h0⟩ | ⟨g, cap, cur, rfl, _, _, hn, _⟩
  · exact ⟨none, 0, by rw [h0], by omega⟩
  · exact ⟨_, _, rfl, hn⟩
theorem OwnE.back {w : World} {base : Nat} {v : Value} {L : List Ac.D} (h : OwnE w base v (L.map Ac.D.e)) : OwnD w base v L := by
  unfold OwnE at h
  rw [rowE_map, List.length_map] at h
  exact h
/-- A slice of things that reads as a row. -/
def RdE (w : World) (v : Value) (R : List Ac.E) : Prop :=
  ∃ A c, v = .slice A R.length c ∧ R.length ≤ c ∧ R.length ≤ maxLen ∧ (0 < R.length → ∃ b off, A = some ⟨b, off, none⟩ ∧ ∀ k (h : k < R.length), w.cell? ⟨b, off + k * 3, none⟩ = some (.int .i64 ((R[k]'h).kind : Int)) ∧ w.cell? ⟨b, off + k * 3 + 1, none⟩ = some (.int .i64 (R[k]'h).n) ∧ w.cell? ⟨b, off + k * 3 + 2, none⟩ = some (.string (str (R[k]'h).text)))
theorem OwnE.rd {w : World} {base : Nat} {v : Value} {R : List Ac.E} (h : OwnE w base v R) : RdE w v R := by
  have h' := h
  rcases h.2 with ⟨rfl, h0⟩ | ⟨g, cap, cur, rfl, hb, hg, hn, hm, hs, ht⟩
  · exact ⟨none, 0, by rw [h0], by omega, by unfold maxLen; omega, fun h => by omega⟩
  · refine ⟨_, cap, rfl, hn, Nat.le_trans hn hm, fun _ => ⟨g, 0, rfl, fun k hk => ?_⟩⟩
    have hc : ∀ j, j < 3 → w.cell? ⟨g, 0 + k * 3 + j, none⟩ = (cellsE (R[k]'hk))[j]? := fun j hj => by
      rw [show 0 + k * 3 + j = k * 3 + j from by omega, World.ownsRow.cellAt h' (k * 3 + j) (by omega), rowE_at R k j hk hj]
    exact ⟨hc 0 (by omega), hc 1 (by omega), hc 2 (by omega)⟩
theorem RdD.e {w : World} {v : Value} {R : List Ac.D} (h : RdD w v R) : RdE w v (R.map Ac.D.e) := by
  obtain ⟨A, c, rfl, h1, h2, h3⟩ := h
  refine ⟨A, c, by rw [List.length_map], by rw [List.length_map]; exact h1, by rw [List.length_map]; exact h2, fun h0 => ?_⟩
  rw [List.length_map] at h0
  obtain ⟨b, off, rfl, hc⟩ := h3 h0
  refine ⟨b, off, rfl, fun k hk => ?_⟩
  rw [List.length_map] at hk
  rw [List.getElem_map]
  exact hc k hk
theorem RdE.under {w w' : World} {v : Value} {R : List Ac.E} (h : RdE w v R) (hb : Below w.heap.size w w') : RdE w' v R := by
  obtain ⟨A, c, rfl, h1, h2, h3⟩ := h
  refine ⟨A, c, rfl, h1, h2, fun h0 => ?_⟩
  obtain ⟨b, off, rfl, hc⟩ := h3 h0
  exact ⟨b, off, rfl, fun k hk => ⟨cell_later hb (hc k hk).1, cell_later hb (hc k hk).2.1, cell_later hb (hc k hk).2.2⟩⟩
theorem RdE.at {w : World} {A : Option Addr} {n c : Nat} {R : List Ac.E} (h : RdE w (.slice A n c) R) (k : Nat) (hk : k < R.length) : ∃ b off, A = some ⟨b, off, none⟩ ∧ w.cell? ⟨b, off + k * 3, none⟩ = some (.int .i64 ((R[k]'hk).kind : Int)) ∧ w.cell? ⟨b, off + k * 3 + 1, none⟩ = some (.int .i64 (R[k]'hk).n) ∧ w.cell? ⟨b, off + k * 3 + 2, none⟩ = some (.string (str (R[k]'hk).text)) := by
  obtain ⟨A', c', e, _, _, hx⟩ := h
  injection e with e1 e2 e3
  subst e1
  obtain ⟨b, off, rfl, hc⟩ := hx (by omega)
  exact ⟨b, off, rfl, hc k hk⟩
set_option maxHeartbeats 2000000 in
theorem plain_any (l : List Nat) (w : World) (hl : ∀ c ∈ l, c < 256) (hm : l.length ≤ 1099511627776) :
    Calls Try.prog 61 #[.string (str l)] w fun e w' => e = .returned (.bool (Ac.plainT l)) ∧ w = w' := by
  have hsz := str_size l
  obtain ⟨n, hn⟩ : ∃ n, l.length = n := ⟨_, rfl⟩
  rw [hn] at hm hsz
  have HN := Lib.hid hn
  have HG := Lib.hid (fun k h => str_get hl k h)
  clear hn hl
  obtain ⟨s, hs⟩ : ∃ s, str l = s := ⟨_, rfl⟩
  rw [hs] at hsz HG ⊢
  clear hs
  rcases Nat.lt_or_ge 64 n with h64 | h64
  · have h1 : (64 : Int) < (n : Int) := by omega
    have HW : Hid (Ac.plainT l = false) := Lib.hid (by unfold Ac.plainT; rw [HN.out, decide_eq_false (by omega), Bool.and_false])
    go_enter Try.func61, Try.ntmps61
    go_wp2
    go_ret
    exact ⟨by rw [HW.out] <;> rfl, rfl⟩
  · have h1 : ¬ (64 : Int) < (n : Int) := by omega
    go_enter Try.func61, Try.ntmps61
    go_wp2
    go_loop [9] (fun i => ∃ k : Nat, k ≤ n ∧ i = .int .i64 k ∧ Hid (∀ j, j < k → plainC (l.getD j 0) = true)) (fun i => n - (intOf i).toNat)
    case atStart => exact ⟨0, by omega, rfl, Lib.hid (by omega)⟩
    case round =>
      obtain ⟨k, hk, rfl, hall⟩ := hrel
      by_cases hlt : k < n
      · have hlt' : (k : Int) < (n : Int) := by omega
        have hks : k < s.size := by rw [hsz]; exact hlt
        obtain ⟨x, hx, HX⟩ : ∃ x, (s[k]'hks).toNat = x ∧ Hid (l.getD k 0 = x) := ⟨_, rfl, Lib.hid (HG.out k hks).symm⟩
        have hnext : plainC x = true → ∀ j, j < k + 1 → plainC (l.getD j 0) = true := fun h j hj => by
          rcases Nat.lt_or_ge j k with h1 | h1
          · exact hall.out j h1
          · rw [show j = k from by omega, HX.out]; exact h
        have HNX := Lib.hid hnext
        have hbad : plainC x = false → Ac.plainT l = false := fun h => plainT_not (k := k) (by rw [HN.out]; exact hlt) (by rw [HX.out]; exact h)
        have HBAD := Lib.hid hbad
        clear hnext hbad
        have hways : (x : Int) < 32 ∨ (¬ (x : Int) < 32 ∧ (126 : Int) < (x : Int)) ∨ (¬ (x : Int) < 32 ∧ ¬ (126 : Int) < (x : Int) ∧ x = 34) ∨ (¬ (x : Int) < 32 ∧ ¬ (126 : Int) < (x : Int) ∧ x ≠ 34) := by omega
        rcases hways with c1 | ⟨c1, c2⟩ | ⟨c1, c2, rfl⟩ | ⟨c1, c2, c3⟩
        · have HW := Lib.hid (HBAD.out (by unfold plainC; rw [decide_eq_false (by omega)]; rfl))
          clear HNX HBAD
          go_wp2
          go_ret
          exact ⟨by rw [HW.out] <;> rfl, rfl⟩
        · have HW := Lib.hid (HBAD.out (by unfold plainC; rw [decide_eq_false (show ¬ x ≤ 126 by omega)]; simp))
          clear HNX HBAD
          go_wp2
          go_ret
          exact ⟨by rw [HW.out] <;> rfl, rfl⟩
        · have HW := Lib.hid (HBAD.out rfl)
          clear HNX HBAD
          go_wp2
          go_ret
          exact ⟨by rw [HW.out] <;> rfl, rfl⟩
        · have HW := Lib.hid (HNX.out (by unfold plainC; simp; omega))
          have d34 : ((x : Int) == 34) = false := by simp; omega
          clear HNX HBAD c3
          go_wp2
          go_round
          case rel => exact ⟨k + 1, by omega, by go_num, HW⟩
          case measure => simp [intOf]; omega
      · obtain rfl : k = n := by omega
        have HW := Lib.hid (plainT_of fun j hj => hall.out j (by rw [HN.out] at hj; exact hj))
        go_wp2
        go_ret
        refine ⟨?_, rfl⟩
        rw [HW.out, HN.out, decide_eq_true h64] <;> rfl
theorem begins_any (k : Nat) (w : World) (hk : k ≤ 1000000) :
    Calls Try.prog 49 #[.int .i64 (k : Int)] w fun e w' => e = .returned (.bool (Ac.isFirst k)) ∧ w = w' := by
  have hways : k = 1 ∨ k = 2 ∨ k = 3 ∨ (k ≠ 1 ∧ k ≠ 2 ∧ k ≠ 3) := by omega
  rcases hways with rfl | rfl | rfl | ⟨h1, h2, h3⟩
  · go_enter Try.func49, Try.ntmps49
    go_wp2
    go_ret
    exact ⟨rfl, rfl⟩
  · go_enter Try.func49, Try.ntmps49
    go_wp2
    go_ret
    exact ⟨rfl, rfl⟩
  · go_enter Try.func49, Try.ntmps49
    go_wp2
    go_ret
    exact ⟨rfl, rfl⟩
  · have d1 : ((k : Int) == 1) = false := by simp; omega
    have d2 : ((k : Int) == 2) = false := by simp; omega
    have d3 : ((k : Int) == 3) = false := by simp; omega
    have HW : Hid (Ac.isFirst k = false) := Lib.hid (by simp [Ac.isFirst, h1, h2, h3])
    go_enter Try.func49, Try.ntmps49
    go_wp2
    go_ret
    exact ⟨by rw [HW.out] <;> rfl, rfl⟩

set_option maxRecDepth 100000 in
set_option maxHeartbeats 8000000 in
theorem right_any (x : Ac.E) (w : World) (hk : x.kind ≤ 1000000) (ht : (∀ c ∈ x.text, c < 256) ∧ x.text.length ≤ 1099511627776) :
    Calls Try.prog 50 #[.agg (cellsE x).toArray] w fun e w' => e = .returned (.bool (Ac.right x)) ∧ Below w.heap.size w w' := by
  obtain ⟨xk, xn, xt⟩ := x
  change xk ≤ 1000000 at hk
  change (∀ c ∈ xt, c < 256) ∧ xt.length ≤ 1099511627776 at ht
  have HTX := Lib.hid ht
  have HBA : Hid (∀ o, Below w.heap.size w (w.alloc o)) := Lib.hid (fun o => (Below.refl _ _).alloc (Nat.le_refl _) o)
  have hte : ((str xt).toList == []) = decide (xt = []) := by
    have := str_same (l := xt) (m := []) HTX.out.1 (by simp)
    rw [str_toList [], List.map_nil] at this
    exact this
  have hte2 : (str xt).toList.isEmpty = decide (xt = []) := by
    cases xt with
    | nil => rw [str_empty]; rfl
    | cons => rw [str_some]; rfl
  clear ht
  rw [show (cellsE ⟨xk, xn, xt⟩).toArray = #[.int .i64 (xk : Int), .int .i64 xn, .string (str xt)] from rfl]
  obtain ⟨T, hT⟩ : ∃ T, T = Ac.right ⟨xk, xn, xt⟩ := ⟨_, rfl⟩
  rw [← hT]
  have HT := Lib.hid hT
  clear hT
  have hkind : xk = 0 ∨ xk = 1 ∨ xk = 2 ∨ xk = 3 ∨ xk = 4 ∨ xk = 5 ∨ xk = 6 ∨ xk = 7 ∨ xk = 8 ∨ xk = 9 ∨ xk = 10 ∨ xk = 11 ∨ 12 ≤ xk := by omega
  rcases hkind with rfl | rfl | rfl | rfl | rfl | rfl | rfl | rfl | rfl | rfl | rfl | rfl | hbig
  · as_aux_lemma =>
      have HW : Hid (T = false) := Lib.hid (by rw [HT.out]; simp [Ac.right])
      clear HT
      go_enter Try.func50, Try.ntmps50
      go_wp2
      go_ret
      exact ⟨by rw [HW.out] <;> rfl, HBA.out _⟩
  · as_aux_lemma =>
      by_cases hz : xn = 0
      · subst hz
        have HW : Hid (T = Ac.plainT xt) := Lib.hid (by rw [HT.out]; simp [Ac.right, Ac.most, Ac.isText])
        clear HT hte hte2
        go_enter Try.func50, Try.ntmps50
        go_wp2_with fail
        refine (plain_any xt _ HTX.out.1 HTX.out.2).mono ?_
        rintro e w2 ⟨rfl, rfl⟩
        go_wp2
        go_ret
        exact ⟨by rw [HW.out] <;> rfl, HBA.out _⟩
      · have hzd : (xn == 0) = false := by simpa using hz
        have HW : Hid (T = false) := Lib.hid (by rw [HT.out]; simp [Ac.right, Ac.most]; omega)
        clear HT
        go_enter Try.func50, Try.ntmps50
        go_wp2
        go_ret
        exact ⟨by rw [HW.out] <;> rfl, HBA.out _⟩
  · as_aux_lemma =>
      by_cases h0 : 0 ≤ xn
      · by_cases hm : xn ≤ 15
        · rcases hem : decide (xt = []) with _ | _
          · rw [hem] at hte hte2
            have HW : Hid (T = false) := Lib.hid (by rw [HT.out]; simp [Ac.right, Ac.isText]; simp at hem; simp [hem])
            clear hem
            clear HT
            go_enter Try.func50, Try.ntmps50
            go_wp2
            go_ret
            exact ⟨by rw [HW.out] <;> rfl, HBA.out _⟩
          · rw [hem] at hte hte2
            have HW : Hid (T = true) := Lib.hid (by rw [HT.out]; simp at hem; subst hem; simp [Ac.right, Ac.isText, Ac.most, Ac.plainT]; omega)
            clear hem
            clear HT
            go_enter Try.func50, Try.ntmps50
            go_wp2
            go_ret
            exact ⟨by rw [HW.out] <;> rfl, HBA.out _⟩
        · have HW0 : (15 : Int) < xn := by omega
          have HW : Hid (T = false) := Lib.hid (by rw [HT.out]; simp [Ac.right, Ac.most]; omega)
          clear HT
          go_enter Try.func50, Try.ntmps50
          go_wp2
          go_ret
          exact ⟨by rw [HW.out] <;> rfl, HBA.out _⟩
      · have HW0 : xn < (0 : Int) := by omega
        have HW : Hid (T = false) := Lib.hid (by rw [HT.out]; simp [Ac.right]; omega)
        clear HT
        go_enter Try.func50, Try.ntmps50
        go_wp2
        go_ret
        exact ⟨by rw [HW.out] <;> rfl, HBA.out _⟩
  · as_aux_lemma =>
      by_cases hz : xn = 0
      · subst hz
        rcases hem : decide (xt = []) with _ | _
        · rw [hem] at hte hte2
          have HW : Hid (T = false) := Lib.hid (by rw [HT.out]; simp [Ac.right, Ac.isText]; simp at hem; simp [hem])
          clear hem
          clear HT
          go_enter Try.func50, Try.ntmps50
          go_wp2
          go_ret
          exact ⟨by rw [HW.out] <;> rfl, HBA.out _⟩
        · rw [hem] at hte hte2
          have HW : Hid (T = true) := Lib.hid (by rw [HT.out]; simp at hem; subst hem; simp [Ac.right, Ac.isText, Ac.most, Ac.plainT])
          clear hem
          clear HT
          go_enter Try.func50, Try.ntmps50
          go_wp2
          go_ret
          exact ⟨by rw [HW.out] <;> rfl, HBA.out _⟩
      · have hzd : (xn == 0) = false := by simpa using hz
        have HW : Hid (T = false) := Lib.hid (by rw [HT.out]; simp [Ac.right, Ac.most]; omega)
        clear HT
        go_enter Try.func50, Try.ntmps50
        go_wp2
        go_ret
        exact ⟨by rw [HW.out] <;> rfl, HBA.out _⟩
  · as_aux_lemma =>
      by_cases hz : xn = 0
      · subst hz
        rcases hem : decide (xt = []) with _ | _
        · rw [hem] at hte hte2
          have HW : Hid (T = false) := Lib.hid (by rw [HT.out]; simp [Ac.right, Ac.isText]; simp at hem; simp [hem])
          clear hem
          clear HT
          go_enter Try.func50, Try.ntmps50
          go_wp2
          go_ret
          exact ⟨by rw [HW.out] <;> rfl, HBA.out _⟩
        · rw [hem] at hte hte2
          have HW : Hid (T = true) := Lib.hid (by rw [HT.out]; simp at hem; subst hem; simp [Ac.right, Ac.isText, Ac.most, Ac.plainT])
          clear hem
          clear HT
          go_enter Try.func50, Try.ntmps50
          go_wp2
          go_ret
          exact ⟨by rw [HW.out] <;> rfl, HBA.out _⟩
      · have hzd : (xn == 0) = false := by simpa using hz
        have HW : Hid (T = false) := Lib.hid (by rw [HT.out]; simp [Ac.right, Ac.most]; omega)
        clear HT
        go_enter Try.func50, Try.ntmps50
        go_wp2
        go_ret
        exact ⟨by rw [HW.out] <;> rfl, HBA.out _⟩
  · as_aux_lemma =>
      by_cases hz : xn = 0
      · subst hz
        rcases hem : decide (xt = []) with _ | _
        · rw [hem] at hte hte2
          have HW : Hid (T = false) := Lib.hid (by rw [HT.out]; simp [Ac.right, Ac.isText]; simp at hem; simp [hem])
          clear hem
          clear HT
          go_enter Try.func50, Try.ntmps50
          go_wp2
          go_ret
          exact ⟨by rw [HW.out] <;> rfl, HBA.out _⟩
        · rw [hem] at hte hte2
          have HW : Hid (T = true) := Lib.hid (by rw [HT.out]; simp at hem; subst hem; simp [Ac.right, Ac.isText, Ac.most, Ac.plainT])
          clear hem
          clear HT
          go_enter Try.func50, Try.ntmps50
          go_wp2
          go_ret
          exact ⟨by rw [HW.out] <;> rfl, HBA.out _⟩
      · have hzd : (xn == 0) = false := by simpa using hz
        have HW : Hid (T = false) := Lib.hid (by rw [HT.out]; simp [Ac.right, Ac.most]; omega)
        clear HT
        go_enter Try.func50, Try.ntmps50
        go_wp2
        go_ret
        exact ⟨by rw [HW.out] <;> rfl, HBA.out _⟩
  · as_aux_lemma =>
      by_cases hz : xn = 0
      · subst hz
        rcases hem : decide (xt = []) with _ | _
        · rw [hem] at hte hte2
          have HW : Hid (T = false) := Lib.hid (by rw [HT.out]; simp [Ac.right, Ac.isText]; simp at hem; simp [hem])
          clear hem
          clear HT
          go_enter Try.func50, Try.ntmps50
          go_wp2
          go_ret
          exact ⟨by rw [HW.out] <;> rfl, HBA.out _⟩
        · rw [hem] at hte hte2
          have HW : Hid (T = true) := Lib.hid (by rw [HT.out]; simp at hem; subst hem; simp [Ac.right, Ac.isText, Ac.most, Ac.plainT])
          clear hem
          clear HT
          go_enter Try.func50, Try.ntmps50
          go_wp2
          go_ret
          exact ⟨by rw [HW.out] <;> rfl, HBA.out _⟩
      · have hzd : (xn == 0) = false := by simpa using hz
        have HW : Hid (T = false) := Lib.hid (by rw [HT.out]; simp [Ac.right, Ac.most]; omega)
        clear HT
        go_enter Try.func50, Try.ntmps50
        go_wp2
        go_ret
        exact ⟨by rw [HW.out] <;> rfl, HBA.out _⟩
  · as_aux_lemma =>
      by_cases h0 : 0 ≤ xn
      · by_cases hm : xn ≤ 999
        · rcases hem : decide (xt = []) with _ | _
          · rw [hem] at hte hte2
            have HW : Hid (T = false) := Lib.hid (by rw [HT.out]; simp [Ac.right, Ac.isText]; simp at hem; simp [hem])
            clear hem
            clear HT
            go_enter Try.func50, Try.ntmps50
            go_wp2
            go_ret
            exact ⟨by rw [HW.out] <;> rfl, HBA.out _⟩
          · rw [hem] at hte hte2
            have HW : Hid (T = true) := Lib.hid (by rw [HT.out]; simp at hem; subst hem; simp [Ac.right, Ac.isText, Ac.most, Ac.plainT]; omega)
            clear hem
            clear HT
            go_enter Try.func50, Try.ntmps50
            go_wp2
            go_ret
            exact ⟨by rw [HW.out] <;> rfl, HBA.out _⟩
        · have HW0 : (999 : Int) < xn := by omega
          have HW : Hid (T = false) := Lib.hid (by rw [HT.out]; simp [Ac.right, Ac.most]; omega)
          clear HT
          go_enter Try.func50, Try.ntmps50
          go_wp2
          go_ret
          exact ⟨by rw [HW.out] <;> rfl, HBA.out _⟩
      · have HW0 : xn < (0 : Int) := by omega
        have HW : Hid (T = false) := Lib.hid (by rw [HT.out]; simp [Ac.right]; omega)
        clear HT
        go_enter Try.func50, Try.ntmps50
        go_wp2
        go_ret
        exact ⟨by rw [HW.out] <;> rfl, HBA.out _⟩
  · as_aux_lemma =>
      by_cases h0 : 0 ≤ xn
      · by_cases hm : xn ≤ 999
        · rcases hem : decide (xt = []) with _ | _
          · rw [hem] at hte hte2
            have HW : Hid (T = false) := Lib.hid (by rw [HT.out]; simp [Ac.right, Ac.isText]; simp at hem; simp [hem])
            clear hem
            clear HT
            go_enter Try.func50, Try.ntmps50
            go_wp2
            go_ret
            exact ⟨by rw [HW.out] <;> rfl, HBA.out _⟩
          · rw [hem] at hte hte2
            have HW : Hid (T = true) := Lib.hid (by rw [HT.out]; simp at hem; subst hem; simp [Ac.right, Ac.isText, Ac.most, Ac.plainT]; omega)
            clear hem
            clear HT
            go_enter Try.func50, Try.ntmps50
            go_wp2
            go_ret
            exact ⟨by rw [HW.out] <;> rfl, HBA.out _⟩
        · have HW0 : (999 : Int) < xn := by omega
          have HW : Hid (T = false) := Lib.hid (by rw [HT.out]; simp [Ac.right, Ac.most]; omega)
          clear HT
          go_enter Try.func50, Try.ntmps50
          go_wp2
          go_ret
          exact ⟨by rw [HW.out] <;> rfl, HBA.out _⟩
      · have HW0 : xn < (0 : Int) := by omega
        have HW : Hid (T = false) := Lib.hid (by rw [HT.out]; simp [Ac.right]; omega)
        clear HT
        go_enter Try.func50, Try.ntmps50
        go_wp2
        go_ret
        exact ⟨by rw [HW.out] <;> rfl, HBA.out _⟩
  · as_aux_lemma =>
      by_cases hz : xn = 0
      · subst hz
        rcases hem : decide (xt = []) with _ | _
        · rw [hem] at hte hte2
          have HW : Hid (T = false) := Lib.hid (by rw [HT.out]; simp [Ac.right, Ac.isText]; simp at hem; simp [hem])
          clear hem
          clear HT
          go_enter Try.func50, Try.ntmps50
          go_wp2
          go_ret
          exact ⟨by rw [HW.out] <;> rfl, HBA.out _⟩
        · rw [hem] at hte hte2
          have HW : Hid (T = true) := Lib.hid (by rw [HT.out]; simp at hem; subst hem; simp [Ac.right, Ac.isText, Ac.most, Ac.plainT])
          clear hem
          clear HT
          go_enter Try.func50, Try.ntmps50
          go_wp2
          go_ret
          exact ⟨by rw [HW.out] <;> rfl, HBA.out _⟩
      · have hzd : (xn == 0) = false := by simpa using hz
        have HW : Hid (T = false) := Lib.hid (by rw [HT.out]; simp [Ac.right, Ac.most]; omega)
        clear HT
        go_enter Try.func50, Try.ntmps50
        go_wp2
        go_ret
        exact ⟨by rw [HW.out] <;> rfl, HBA.out _⟩
  · as_aux_lemma =>
      by_cases hz : xn = 0
      · subst hz
        have HW : Hid (T = Ac.plainT xt) := Lib.hid (by rw [HT.out]; simp [Ac.right, Ac.most, Ac.isText])
        clear HT hte hte2
        go_enter Try.func50, Try.ntmps50
        go_wp2_with fail
        refine (plain_any xt _ HTX.out.1 HTX.out.2).mono ?_
        rintro e w2 ⟨rfl, rfl⟩
        go_wp2
        go_ret
        exact ⟨by rw [HW.out] <;> rfl, HBA.out _⟩
      · have hzd : (xn == 0) = false := by simpa using hz
        have HW : Hid (T = false) := Lib.hid (by rw [HT.out]; simp [Ac.right, Ac.most]; omega)
        clear HT
        go_enter Try.func50, Try.ntmps50
        go_wp2
        go_ret
        exact ⟨by rw [HW.out] <;> rfl, HBA.out _⟩
  · as_aux_lemma =>
      by_cases hz : xn = 0
      · subst hz
        rcases hem : decide (xt = []) with _ | _
        · rw [hem] at hte hte2
          have HW : Hid (T = false) := Lib.hid (by rw [HT.out]; simp [Ac.right, Ac.isText]; simp at hem; simp [hem])
          clear hem
          clear HT
          go_enter Try.func50, Try.ntmps50
          go_wp2
          go_ret
          exact ⟨by rw [HW.out] <;> rfl, HBA.out _⟩
        · rw [hem] at hte hte2
          have HW : Hid (T = true) := Lib.hid (by rw [HT.out]; simp at hem; subst hem; simp [Ac.right, Ac.isText, Ac.most, Ac.plainT])
          clear hem
          clear HT
          go_enter Try.func50, Try.ntmps50
          go_wp2
          go_ret
          exact ⟨by rw [HW.out] <;> rfl, HBA.out _⟩
      · have hzd : (xn == 0) = false := by simpa using hz
        have HW : Hid (T = false) := Lib.hid (by rw [HT.out]; simp [Ac.right, Ac.most]; omega)
        clear HT
        go_enter Try.func50, Try.ntmps50
        go_wp2
        go_ret
        exact ⟨by rw [HW.out] <;> rfl, HBA.out _⟩
  · as_aux_lemma =>
      have d1 : ((xk : Int) == 1) = false := by simp; omega
      have d2 : ((xk : Int) == 2) = false := by simp; omega
      have d3 : ((xk : Int) == 3) = false := by simp; omega
      have d4 : ((xk : Int) == 4) = false := by simp; omega
      have d5 : ((xk : Int) == 5) = false := by simp; omega
      have d6 : ((xk : Int) == 6) = false := by simp; omega
      have d7 : ((xk : Int) == 7) = false := by simp; omega
      have d8 : ((xk : Int) == 8) = false := by simp; omega
      have d9 : ((xk : Int) == 9) = false := by simp; omega
      have d10 : ((xk : Int) == 10) = false := by simp; omega
      have d11 : ((xk : Int) == 11) = false := by simp; omega
      have hbg : ¬ xk ≤ 11 := by omega
      have HW : Hid (T = false) := Lib.hid (by rw [HT.out]; simp [Ac.right, hbg])
      clear HT
      go_enter Try.func50, Try.ntmps50
      go_wp2
      go_ret
      exact ⟨by rw [HW.out] <;> rfl, HBA.out _⟩
end Go.Proofs.Ytldnpedegcbglaa
