/- The document's parser: a line in which no name stands for words. -/
import Derived.Test.YtemliglhippdcaaManiRef
import Derived.Test.YtemliglhippdcaaZ04
import Derived.Test.YtemliglhippdcaaActRef
import Derived.Test.YtemliglhippdcaaZ00
namespace Go.Proofs.Ytemliglhippdcaa
set_option maxRecDepth 100000
open Go.ChangeShapes Go.WideShapes Go.ChangeAt Go.RowKit

/-- A word that stands for itself. -/
structure PlainW (x : Ln.W) : Prop where
  bytes : ∀ c ∈ x.text, c < 256
  len : x.text.length ≤ 1000000
  own : x.q = true ∨ (0 < x.text.length ∧ x.text.headD 0 ≠ 36)
set_option maxHeartbeats 8000000 in
theorem refput_any (g : Nat) (v : Value) (L : List Ln.W) (w : World) (hv : RdW w v L) (hL : 0 < L.length) (hL2 : L.length ≤ 100000) (hP : ∀ x ∈ L, PlainW x) :
    Calls Try.prog 51 #[.pointer (some ⟨g, 0, none⟩), v] w fun e w' => ∃ u, e = .returned u ∧ OwnW w' w.heap.size u L ∧ Below w.heap.size w w' := by
  have HP := Lib.hid hP
  have HV := Lib.hid hv
  obtain ⟨A, c, rfl, hlc, hlm, hx⟩ := hv
  obtain ⟨n, hn⟩ : ∃ n, L.length = n := ⟨_, rfl⟩
  rw [hn] at HV hL hL2 hlc ⊢
  have HN := Lib.hid hn
  obtain ⟨b, off, rfl, -⟩ := hx (by omega)
  have h1c : (1 : Int) ≤ (c : Int) := by omega
  have HH := Lib.hid (HV.out.headws (k := 1) (d := c) (by omega) (by omega))
  have HTK : Hid ((L.take 1).length = 1) := Lib.hid (by rw [List.length_take]; omega)
  have HB1 : Hid (∀ o, Below w.heap.size w (w.alloc o)) := Lib.hid (fun o => (Below.refl _ _).alloc (Nat.le_refl _) o)
  clear hP hn hlm hx
  go_enter Try.func51, Try.ntmps51
  go_wp2_with (at_builtin; refine wpList_append_wsr rfl _ _ rfl w.heap.size _ [] (L.take 1) rfl (ownWs_empty w w.heap.size (Nat.le_refl _)) ⟨b, off, none⟩ 1 c rfl HTK.out ((HH.out.under (HB1.out _)).lies) ?_ (HB1.out _).size (L.take 1) rfl ?_)
  case refine_1 => rw [HTK.out]; simp
  case refine_2 =>
    intro v2 w2 hg2
    obtain ⟨ho2, _, hb2⟩ := hg2
    have HO2 := Lib.hid ho2
    have HB2 : Hid (Below w.heap.size w w2) := Lib.hid ((HB1.out _).trans hb2)
    clear ho2 hb2
    go_wp2_with fail
    go_loopw [5, 6] (fun s i wr => ∃ k : Nat, 1 ≤ k ∧ k ≤ n ∧ i = .int .i64 (k : Int) ∧ OwnW wr w.heap.size s (L.take k) ∧ Below w.heap.size w wr) (fun _ i _ => n - (intOf i).toNat)
    case atStart => exact ⟨1, Nat.le_refl _, by omega, rfl, HO2.out, HB2.out⟩
    case round =>
      obtain ⟨k, hk1, hk, rfl, ho, hbz⟩ := hrel
      obtain ⟨wz, rfl⟩ : ∃ wx : World, wx = wr := ⟨_, rfl⟩
      obtain ⟨lv, rfl⟩ : ∃ l : Value, l = u5 := ⟨_, rfl⟩
      have HO := Lib.hid ho
      have HBZ := Lib.hid hbz
      have hsz := hbz.size
      clear ho hbz
      by_cases hlt : k < n
      · have hkI : (k : Int) < (n : Int) := by omega
        have hkL : k < L.length := by rw [HN.out]; exact hlt
        obtain ⟨b', off', e, p0, p1, p2, p3⟩ := (HV.out.under HBZ.out).at2 k hkL
        injection e with e
        injection e with e1 e2
        subst e1 e2
        have HX := Lib.hid (HP.out (L[k]'hkL) (List.getElem_mem hkL))
        have HTK2 : Hid (L.take k ++ [L[k]'hkL] = L.take (k + 1)) := Lib.hid (List.take_succ_eq_append_getElem hkL).symm
        have HTL : Hid ((L.take k).length ≤ 100000) := Lib.hid (by rw [List.length_take]; omega)
        obtain ⟨x, hx⟩ : ∃ x, L[k]'hkL = x := ⟨_, rfl⟩
        rw [hx] at p0 p1 p2 p3 HX HTK2
        obtain ⟨xt, xl, xc, xq⟩ := x
        change wz.cell? ⟨b, off + k * 4, none⟩ = some (.string (str xt)) at p0
        change wz.cell? ⟨b, off + k * 4 + 1, none⟩ = some (.int .i64 (xl : Int)) at p1
        change wz.cell? ⟨b, off + k * 4 + 2, none⟩ = some (.int .i64 (xc : Int)) at p2
        change wz.cell? ⟨b, off + k * 4 + 3, none⟩ = some (.bool xq) at p3
        have HBO : Hid (∀ o, Below w.heap.size w (wz.alloc o)) := Lib.hid (fun o => HBZ.out.alloc hsz o)
        have HNEW : Hid (Blk ((wz.alloc (.cells #[.string (str xt), .int .i64 xl, .int .i64 xc, .bool xq] 70)).alloc (.cells #[.string (str xt), .int .i64 xl, .int .i64 xc, .bool xq] 70)) (wz.heap.size + 1) 70 (cellsW ⟨xt, xl, xc, xq⟩).toArray) := Lib.hid (by
          have := heap_alloc_new (wz.alloc (.cells #[.string (str xt), .int .i64 xl, .int .i64 xc, .bool xq] 70)) (.cells (cellsW ⟨xt, xl, xc, xq⟩).toArray 70)
          rwa [World.size_alloc] at this)
        have HRD : Hid (LieWs ((wz.alloc (.cells #[.string (str xt), .int .i64 xl, .int .i64 xc, .bool xq] 70)).alloc (.cells #[.string (str xt), .int .i64 xl, .int .i64 xc, .bool xq] 70)) ⟨wz.heap.size + 1, 0, none⟩ [⟨xt, xl, xc, xq⟩]) := Lib.hid (fun j y hy => by
          rw [add_plain, Nat.zero_add, HNEW.out.at j, List.getElem?_toArray]
          simpa [rowW] using hy)
        clear hx hkL
        by_cases hq : xq = true
        · subst hq
          go_wp2_with (at_builtin; refine wpList_append_wsr rfl _ _ rfl w.heap.size _ (L.take k) [⟨xt, xl, xc, true⟩] rfl ((HO.out.allocs _).allocs _) ⟨wz.heap.size + 1, 0, none⟩ 1 1 rfl rfl HRD.out ?_ (by simp; omega) (L.take (k + 1)) HTK2.out ?_)
          case refine_1 => have := HTL.out; simp; omega
          case refine_2 =>
            intro v3 w3 hg3
            obtain ⟨ho3, _, hb3⟩ := hg3
            have HO3 := Lib.hid ho3
            have HB3 : Hid (Below w.heap.size w w3) := Lib.hid (((HBO.out _).alloc (HBO.out _).size _).trans hb3)
            clear ho3 hb3
            go_wp2
            go_roundw
            case rel => exact ⟨k + 1, by omega, hlt, by go_num, HO3.out, HB3.out⟩
            case measure => simp [intOf]; omega
        · obtain rfl : xq = false := by simpa using hq
          obtain ⟨h0, h36⟩ := HX.out.own.resolve_left (by simp)
          obtain ⟨d, r, rfl⟩ : ∃ d r, xt = d :: r := by
            rcases xt with _ | ⟨d, r⟩
            · simp at h0
            · exact ⟨d, r, rfl⟩
          have hg : ∀ h, ((str (d :: r))[0]'h).toNat = d := fun h => str_get (l := d :: r) HX.out.bytes 0 h
          have hpos : 0 < (str (d :: r)).size := by rw [str_size]; simp
          have hd36 : ((d : Int) != 36) = true := by
            have : d ≠ 36 := h36
            simp
            omega
          clear hq h0 h36
          go_wp2_with (at_builtin; refine wpList_append_wsr rfl _ _ rfl w.heap.size _ (L.take k) [⟨d :: r, xl, xc, false⟩] rfl ((HO.out.allocs _).allocs _) ⟨wz.heap.size + 1, 0, none⟩ 1 1 rfl rfl HRD.out ?_ (by simp; omega) (L.take (k + 1)) HTK2.out ?_)
          case refine_1 => have := HTL.out; simp; omega
          case refine_2 =>
            intro v3 w3 hg3
            obtain ⟨ho3, _, hb3⟩ := hg3
            have HO3 := Lib.hid ho3
            have HB3 : Hid (Below w.heap.size w w3) := Lib.hid (((HBO.out _).alloc (HBO.out _).size _).trans hb3)
            clear ho3 hb3
            go_wp2
            go_roundw
            case rel => exact ⟨k + 1, by omega, hlt, by go_num, HO3.out, HB3.out⟩
            case measure => simp [intOf]; omega
      · obtain rfl : k = n := by omega
        have hkI : ¬ (k : Int) < (k : Int) := by omega
        have HFIN : Hid (OwnW wz w.heap.size lv L) := Lib.hid (by
          have := HO.out
          rwa [List.take_of_length_le (by rw [HN.out]; exact Nat.le_refl _)] at this)
        go_wp2
        go_ret
        exact ⟨_, rfl, HFIN.out, HBZ.out⟩
end Go.Proofs.Ytemliglhippdcaa

/- What package acts answers: which texts, which things and rows of them may be. -/
namespace Go.Proofs.Ytemliglhippdcaa
set_option maxRecDepth 100000
open Go.ChangeShapes Go.WideShapes Go.ChangeAt Go.RowKit

def cellsE (x : Ac.E) : List Value := [.int .i64 (x.kind : Int), .int .i64 x.n, .string (str x.text)]
def rowE (L : List Ac.E) : List Value := L.flatMap cellsE
theorem cellsE_len (x : Ac.E) : (cellsE x).length = 3 := rfl
theorem cellsE_one (x : Ac.E) : ∀ u ∈ cellsE x, u.oneCell' = true := by
  intro u hu
  simp only [cellsE, List.mem_cons, List.not_mem_nil, or_false] at hu
  rcases hu with rfl | rfl | rfl <;> rfl
theorem rowE_len (L : List Ac.E) : (rowE L).length = L.length * 3 := by
  induction L with
  | nil => rfl
  | cons x L ih =>
    simp only [rowE, List.flatMap_cons, List.length_append, cellsE_len, List.length_cons] at ih ⊢
    omega
theorem rowE_snoc (L : List Ac.E) (x : Ac.E) : rowE (L ++ [x]) = rowE L ++ cellsE x := by simp [rowE]
theorem rowE_map (L : List Ac.D) : rowE (L.map Ac.D.e) = rowD L := by
  induction L with
  | nil => rfl
  | cons d L ih =>
    show cellsE d.e ++ rowE (L.map Ac.D.e) = cellsD d ++ rowD L
    rw [ih]
    rfl
theorem rowE_at : ∀ (L : List Ac.E) (k j : Nat) (h : k < L.length), j < 3 → (rowE L)[k * 3 + j]? = (cellsE (L[k]'h))[j]?
  | x :: L, 0, j, _, hj => by
    rw [rowE, List.flatMap_cons, List.getElem?_append_left (by rw [cellsE_len]; omega), Nat.zero_mul, Nat.zero_add]
    rfl
  | x :: L, k + 1, j, h, hj => by
    rw [rowE, List.flatMap_cons, List.getElem?_append_right (by rw [cellsE_len]; omega), cellsE_len, show (k + 1) * 3 + j - 3 = k * 3 + j from by omega]
    exact rowE_at L k j (by simpa using h) hj
/-- A row of things of the call's own, with numbers of any size. -/
def OwnE (w : World) (base : Nat) (v : Value) (L : List Ac.E) : Prop := w.ownsRow base 145 3 v L.length (rowE L)
theorem ownE_none (w : World) (base : Nat) : OwnE w base (.slice none 0 0) [] := World.ownsRow_nil w base _ 3
theorem OwnE.grown {w w' : World} {row : Option Nat} {base : Nat} {v : Value} {L : List Ac.E} (h : OwnE w base v L) (hg : w.grownBy w' row) (hne : v.ownBlock = none ∨ v.ownBlock ≠ row) : OwnE w' base v L := World.ownsRow.kept h hg hne
theorem OwnE.under {w w' : World} {base : Nat} {v : Value} {L : List Ac.E} (h : OwnE w base v L) (hb : Below w.heap.size w w') : OwnE w' base v L := h.grown (Below.toGrown hb none) (by cases v.ownBlock <;> simp)
theorem OwnE.alloc {w : World} {base : Nat} {v : Value} {L : List Ac.E} (h : OwnE w base v L) (o : Obj) : OwnE (w.alloc o) base v L := World.ownsRow.alloc h o
theorem OwnE.parts {w : World} {base : Nat} {v : Value} {L : List Ac.E} (h : OwnE w base v L) : ∃ A c, v = .slice A L.length c ∧ L.length ≤ c := by
  rcases h.2 with ⟨rfl, h0⟩ | ⟨g, cap, cur, rfl, _, _, hn, _⟩
  · exact ⟨none, 0, by rw [h0], by omega⟩
  · exact ⟨_, _, rfl, hn⟩
theorem OwnE.back {w : World} {base : Nat} {v : Value} {L : List Ac.D} (h : OwnE w base v (L.map Ac.D.e)) : OwnD w base v L := by
  unfold OwnE at h
  rw [rowE_map, List.length_map] at h
  exact h
/-- A slice of things that reads as a row. -/
def RdE (w : World) (v : Value) (R : List Ac.E) : Prop :=
  ∃ A c, v = .slice A R.length c ∧ R.length ≤ c ∧ R.length ≤ maxLen ∧ (0 < R.length → ∃ b off, A = some ⟨b, off, none⟩ ∧ ∀ k (h : k < R.length), w.cell? ⟨b, off + k * 3, none⟩ = some (.int .i64 ((R[k]'h).kind : Int)) ∧ w.cell? ⟨b, off + k * 3 + 1, none⟩ = some (.int .i64 (R[k]'h).n) ∧ w.cell? ⟨b, off + k * 3 + 2, none⟩ = some (.string (str (R[k]'h).text)))
theorem OwnE.rd {w : World} {base : Nat} {v : Value} {R : List Ac.E} (h : OwnE w base v R) : RdE w v R := by
  have h' := h
  rcases h.2 with ⟨rfl, h0⟩ | ⟨g, cap, cur, rfl, hb, hg, hn, hm, hs, ht⟩
  · exact ⟨none, 0, by rw [h0], by omega, by unfold maxLen; omega, fun h => by omega⟩
  · refine ⟨_, cap, rfl, hn, Nat.le_trans hn hm, fun _ => ⟨g, 0, rfl, fun k hk => ?_⟩⟩
    have hc : ∀ j, j < 3 → w.cell? ⟨g, 0 + k * 3 + j, none⟩ = (cellsE (R[k]'hk))[j]? := fun j hj => by
      rw [show 0 + k * 3 + j = k * 3 + j from by omega, World.ownsRow.cellAt h' (k * 3 + j) (by omega), rowE_at R k j hk hj]
    exact ⟨hc 0 (by omega), hc 1 (by omega), hc 2 (by omega)⟩
theorem RdD.e {w : World} {v : Value} {R : List Ac.D} (h : RdD w v R) : RdE w v (R.map Ac.D.e) := by
  obtain ⟨A, c, rfl, h1, h2, h3⟩ := h
  refine ⟨A, c, by rw [List.length_map], by rw [List.length_map]; exact h1, by rw [List.length_map]; exact h2, fun h0 => ?_⟩
  rw [List.length_map] at h0
  obtain ⟨b, off, rfl, hc⟩ := h3 h0
  refine ⟨b, off, rfl, fun k hk => ?_⟩
  rw [List.length_map] at hk
  rw [List.getElem_map]
  exact hc k hk
theorem RdE.under {w w' : World} {v : Value} {R : List Ac.E} (h : RdE w v R) (hb : Below w.heap.size w w') : RdE w' v R := by
  obtain ⟨A, c, rfl, h1, h2, h3⟩ := h
  refine ⟨A, c, rfl, h1, h2, fun h0 => ?_⟩
  obtain ⟨b, off, rfl, hc⟩ := h3 h0
  exact ⟨b, off, rfl, fun k hk => ⟨cell_later hb (hc k hk).1, cell_later hb (hc k hk).2.1, cell_later hb (hc k hk).2.2⟩⟩
theorem RdE.at {w : World} {A : Option Addr} {n c : Nat} {R : List Ac.E} (h : RdE w (.slice A n c) R) (k : Nat) (hk : k < R.length) : ∃ b off, A = some ⟨b, off, none⟩ ∧ w.cell? ⟨b, off + k * 3, none⟩ = some (.int .i64 ((R[k]'hk).kind : Int)) ∧ w.cell? ⟨b, off + k * 3 + 1, none⟩ = some (.int .i64 (R[k]'hk).n) ∧ w.cell? ⟨b, off + k * 3 + 2, none⟩ = some (.string (str (R[k]'hk).text)) := by
  obtain ⟨A', c', e, _, _, hx⟩ := h
  injection e with e1 e2 e3
  subst e1
  obtain ⟨b, off, rfl, hc⟩ := hx (by omega)
  exact ⟨b, off, rfl, hc k hk⟩
end Go.Proofs.Ytemliglhippdcaa

/- What package acts answers: is a row of things an action? -/
namespace Go.Proofs.Ytemliglhippdcaa
set_option maxRecDepth 100000
open Go.ChangeShapes Go.WideShapes Go.ChangeAt Go.RowKit

theorem okL_of_all {L : List Ac.E} (h : ∀ i (h : i < L.length), Ac.okX (decide (i = 0)) (L[i]'h) = true) : Ac.okL L = (decide (1 ≤ L.length) && decide (L.length ≤ 8)) := by
  cases L with
  | nil => rfl
  | cons d r =>
    show (Ac.okX true d && r.all (Ac.okX false) && decide (r.length + 1 ≤ 8)) = _
    rw [show Ac.okX true d = true from h 0 (by simp), show r.all (Ac.okX false) = true from List.all_eq_true.2 fun x hx => by
      obtain ⟨i, hi, rfl⟩ := List.getElem_of_mem hx
      have := h (i + 1) (by simpa using hi)
      rw [List.getElem_cons_succ] at this
      exact this]
    simp
theorem okL_not_at {L : List Ac.E} {i : Nat} (hi : i < L.length) (h : Ac.okX (decide (i = 0)) (L[i]'hi) = false) : Ac.okL L = false := by
  cases L with
  | nil => rfl
  | cons d r =>
    show (Ac.okX true d && r.all (Ac.okX false) && decide (r.length + 1 ≤ 8)) = false
    cases i with
    | zero =>
      rw [show Ac.okX true d = false from h]
      rfl
    | succ i =>
      rw [show r.all (Ac.okX false) = false from ?_]
      · simp
      · rw [List.all_eq_false]
        refine ⟨r[i]'(by simpa using hi), List.getElem_mem _, ?_⟩
        rw [List.getElem_cons_succ] at h
        rw [show Ac.okX false (r[i]'(by simpa using hi)) = false from h]
        simp
theorem okL_many {L : List Ac.E} (h : L.length < 1 ∨ 8 < L.length) : Ac.okL L = false := by
  cases L with
  | nil => rfl
  | cons d r =>
    show (Ac.okX true d && r.all (Ac.okX false) && decide (r.length + 1 ≤ 8)) = false
    rw [List.length_cons] at h
    rw [decide_eq_false (by omega), Bool.and_false]
end Go.Proofs.Ytemliglhippdcaa
