/- The trace in plain words: where its commits end, what a Fix does, a step at a time, and what it comes to. -/
import Derived.Test.YtfheaognfocofaaZ10
import Derived.Test.YtfheaognfocofaaZRecoCut
namespace Go.Proofs.Ytfheaognfocofaa
set_option maxRecDepth 100000
namespace Lg
open Sf

/-! Where the commits of any bytes end. -/
noncomputable def cnt (b : List Nat) : Nat := (Fr.ex_scan b).choose
theorem cnt_scn (b : List Nat) : Fr.Scn b (cnt b) := (Fr.ex_scan b).choose_spec
theorem scn_one {b : List Nat} {N M : Nat} (h : Fr.Scn b N) (h' : Fr.Scn b M) : N = M := by
  rcases Nat.lt_trichotomy N M with h1 | h1 | h1
  · have := h'.1 N h1
    rw [h.2] at this
    cases this
  · exact h1
  · have := h.1 M h1
    rw [h'.2] at this
    cases this
/-- The frames of any bytes. -/
noncomputable def rws (b : List Nat) : List (List Nat) := Fr.rows b (cnt b)
noncomputable def ed (b : List Nat) : Nat := Rc.ends (rws b)
noncomputable def ld (b : List Nat) : List Rc.D := Rc.lead (rws b)
theorem of_scn {b : List Nat} {N : Nat} (h : Fr.Scn b N) : rws b = Fr.rows b N := by
  rw [rws, scn_one (cnt_scn b) h]
theorem lead_len {f : List Nat → Option Rc.D} (L : List (List Nat)) : (Rc.leadBy f L).length ≤ L.length := by
  induction L with
  | nil => exact Nat.le_refl _
  | cons x r ih =>
    rcases h : f x with _ | d
    · rw [Rc.leadBy_none h]; simp
    · rw [Rc.leadBy_some h]; simpa using ih
theorem lead_take {f : List Nat → Option Rc.D} (L : List (List Nat)) : Rc.leadBy f (L.take (Rc.leadBy f L).length) = Rc.leadBy f L := by
  induction L with
  | nil => rfl
  | cons x r ih =>
    rcases h : f x with _ | d
    · rw [Rc.leadBy_none h]; rfl
    · rw [Rc.leadBy_some h, List.length_cons, List.take_succ_cons, Rc.leadBy_some h, ih]
theorem lead_rws (b : List Nat) : (ld b).length ≤ cnt b := by
  have := lead_len (f := Rc.openD) (rws b)
  rw [rws, Fr.rows_length] at this
  exact this
theorem ed_pos (b : List Nat) : ed b = Fr.pos b (ld b).length := (Rc.pos_size (cnt_scn b) (lead_rws b)).symm
theorem ed_le (b : List Nat) : ed b ≤ b.length := by
  rw [ed_pos]
  exact ((cnt_scn b).le (lead_rws b)).1
theorem whole_take {c : List Nat} {m : Nat} (h : Fr.whole c = true) (hm : 10 + Fr.told c ≤ m) : Fr.whole (c.take m) = true ∧ Fr.told (c.take m) = Fr.told c ∧ Fr.held (c.take m) = Fr.held c := by
  obtain ⟨h1, h2, h3, h4⟩ := Fr.whole_iff.1 h
  have ht : Fr.told (c.take m) = Fr.told c := by
    unfold Fr.told
    rw [List.take_take, Nat.min_eq_left (by omega)]
  refine ⟨Fr.whole_iff.2 ?_, ht, ?_⟩
  · rw [ht, List.length_take, List.drop_take, List.take_take, List.take_take, Nat.min_eq_left (show 4 ≤ m - (6 + Fr.told c) by omega), Nat.min_eq_left (show 6 + Fr.told c ≤ m by omega)]
    exact ⟨by omega, h2, by omega, h4⟩
  · unfold Fr.held
    rw [ht, List.drop_take, List.take_take, Nat.min_eq_left (by omega)]
theorem pos_mono (b : List Nat) {j k : Nat} (h : j ≤ k) : Fr.pos b j ≤ Fr.pos b k := by
  induction k with
  | zero => obtain rfl : j = 0 := by omega
            exact Nat.le_refl _
  | succ k ih =>
    rcases Nat.lt_or_ge j (k + 1) with h1 | h1
    · exact Nat.le_trans (ih (by omega)) (Nat.le_add_right _ _)
    · obtain rfl : j = k + 1 := by omega
      exact Nat.le_refl _
theorem scn_take {b : List Nat} {N n : Nat} (h : Fr.Scn b N) (hn : n ≤ N) : Fr.Scn (b.take (Fr.pos b n)) n ∧ Fr.rows (b.take (Fr.pos b n)) n = (Fr.rows b N).take n := by
  have hs : ∀ k, k < n → Fr.whole ((b.take (Fr.pos b n)).drop (Fr.pos b k)) = true ∧ Fr.told ((b.take (Fr.pos b n)).drop (Fr.pos b k)) = Fr.told (b.drop (Fr.pos b k)) ∧ Fr.held ((b.take (Fr.pos b n)).drop (Fr.pos b k)) = Fr.held (b.drop (Fr.pos b k)) := fun k hk => by
    rw [List.drop_take]
    refine whole_take (h.1 k (by omega)) ?_
    have h1 := pos_mono b (show k + 1 ≤ n by omega)
    have h2 : Fr.pos b (k + 1) = Fr.pos b k + (10 + Fr.told (b.drop (Fr.pos b k))) := rfl
    omega
  have hp : ∀ k, k ≤ n → Fr.pos (b.take (Fr.pos b n)) k = Fr.pos b k := by
    intro k
    induction k with
    | zero => intro _; rfl
    | succ k ih =>
      intro hk
      show Fr.pos (b.take (Fr.pos b n)) k + (10 + Fr.told ((b.take (Fr.pos b n)).drop (Fr.pos (b.take (Fr.pos b n)) k))) = Fr.pos b k + (10 + Fr.told (b.drop (Fr.pos b k)))
      rw [ih (by omega), (hs k (by omega)).2.1]
  refine ⟨⟨fun k hk => ?_, ?_⟩, ?_⟩
  · rw [hp k (by omega)]
    exact (hs k hk).1
  · rw [hp n (Nat.le_refl _), List.drop_of_length_le (by rw [List.length_take]; omega)]
    rfl
  · apply List.ext_getElem
    · rw [Fr.rows_length, List.length_take, Fr.rows_length]; omega
    · intro j h1 h2
      rw [Fr.rows_length] at h1
      simp only [Fr.rows, List.getElem_map, List.getElem_range, List.getElem_take]
      rw [hp j (by omega), (hs j h1).2.2]
theorem rws_cut (b : List Nat) : rws (b.take (ed b)) = (rws b).take (ld b).length := by
  have h := scn_take (cnt_scn b) (lead_rws b)
  rw [ed_pos, of_scn h.1, h.2]
  rfl
theorem ld_cut (b : List Nat) : ld (b.take (ed b)) = ld b := by
  unfold ld
  rw [rws_cut]
  exact lead_take _
theorem cut_len (b : List Nat) : (b.take (ed b)).length = ed b := by
  have := ed_le b
  rw [List.length_take]
  omega
theorem ed_cut (b : List Nat) : ed (b.take (ed b)) = ed b := by
  have h := ld_cut b
  have e : ∀ c, ed c = Rc.size ((rws c).take (ld c).length) := fun _ => rfl
  rw [e, h, rws_cut, List.take_take, Nat.min_self, ← e]
/-- Commits, and a part of one more behind. -/
theorem rws_tell {L : List Rc.D} (hL : ∀ d ∈ L, Rc.NumOk d) (x : List Nat) (hx : x.length ≤ 10000) (m : Nat) (hm : m < (Fr.frm x).length) : rws (Fr.frs (L.map Rc.body) ++ (Fr.frm x).take m) = L.map Rc.body := by
  have hB : ∀ y ∈ L.map Rc.body ++ [x], y.length ≤ 10000 := fun y hy => by
    rcases List.mem_append.1 hy with h | h
    · obtain ⟨d, hd, rfl⟩ := List.mem_map.1 h
      have := Rc.body_len (hL d hd)
      omega
    · rw [List.mem_singleton.1 h]; exact hx
  have e1 : (L.map Rc.body ++ [x]).take (L.map Rc.body).length = L.map Rc.body := List.take_left
  have e2 : Fr.frs (L.map Rc.body ++ [x]) = Fr.frs (L.map Rc.body) ++ Fr.frm x := by rw [Rc.frs_append]; simp [Fr.frs]
  have e3 : (Fr.frs (L.map Rc.body ++ [x])).take ((Fr.frs (L.map Rc.body)).length + m) = Fr.frs (L.map Rc.body) ++ (Fr.frm x).take m := by rw [e2, List.take_length_add_append]
  have h := Rc.scn_frs (L.map Rc.body ++ [x]) hB ((Fr.frs (L.map Rc.body)).length + m) (L.map Rc.body).length (by simp) (by rw [e1]; omega) (.inr (by
    rw [List.take_of_length_le (by simp), e2, List.length_append]
    omega))
  rw [e1, e3] at h
  rw [of_scn h.1, h.2]
theorem ld_tell {L : List Rc.D} (hL : ∀ d ∈ L, Rc.NumOk d) (x : List Nat) (hx : x.length ≤ 10000) (m : Nat) (hm : m < (Fr.frm x).length) : ld (Fr.frs (L.map Rc.body) ++ (Fr.frm x).take m) = L ∧ ed (Fr.frs (L.map Rc.body) ++ (Fr.frm x).take m) = (Fr.frs (L.map Rc.body)).length := by
  unfold ld ed
  rw [rws_tell hL x hx m hm]
  exact ⟨Rc.lead_map L hL, Rc.ends_map L hL⟩
theorem ld_all {L : List Rc.D} (hL : ∀ d ∈ L, Rc.NumOk d) : ld (Fr.frs (L.map Rc.body)) = L ∧ ed (Fr.frs (L.map Rc.body)) = (Fr.frs (L.map Rc.body)).length := by
  have := ld_tell hL [] (by simp) 0 (by rw [Fr.frm_length]; omega)
  rwa [List.take_zero, List.append_nil] at this

/-! A Fix. -/
def tr : List Nat := [116, 114, 97, 99, 101]
structure Fx where
  name : List Nat
  lk : Int
  temp : List Nat
  stamp : Int
  whole : List Nat
  next : Nat
  told : Nat
noncomputable def Fx.read (s : S) (x : Fx) : S × Fx × Nat :=
  if (Sf.read s tr).2.2 = 0 ∧ ed (Sf.read s tr).1 = (Sf.read s tr).1.length then (s, { x with stamp := ((Sf.read s tr).2.1 : Int) }, 1)
  else (s, { x with stamp := ((Sf.read s tr).2.1 : Int), whole := (Sf.read s tr).1.take (ed (Sf.read s tr).1), next := 1 }, 0)
def Fx.put (s : S) (x : Fx) : S × Fx × Nat :=
  if (putS s x.temp x.whole).2.2 = 2 then ((putS s x.temp x.whole).1, { x with whole := [] }, 4)
  else ((putS s x.temp x.whole).1, { x with whole := [], next := 2 }, 0)
def Fx.gs (x : Fx) : List (List Nat × Int) := if x.stamp = 0 then [(x.name, x.lk)] else [(x.name, x.lk), (tr, x.stamp)]
def Fx.mv (s : S) (x : Fx) : S × Fx × Nat :=
  if (Sf.move s x.temp tr x.gs).2.2 = 0 then ((Sf.move s x.temp tr x.gs).1, { x with stamp := ((Sf.move s x.temp tr x.gs).2.1 : Int) }, 1)
  else ((Sf.move s x.temp tr x.gs).1, { x with next := 3 }, 0)
noncomputable def Fx.doo (s : S) (x : Fx) : S × Fx × Nat :=
  if x.next = 0 then x.read s else if x.next = 1 then x.put s else if x.next = 2 then x.mv s else ((Sf.drop s x.temp []).1, x, 2)
noncomputable def Fx.step (s : S) (x : Fx) : S × Fx × Nat :=
  if x.told = 0 then ((x.doo s).1, { (x.doo s).2.1 with told := (x.doo s).2.2 }, (x.doo s).2.2) else (s, x, x.told)
theorem step_of {s s' : S} {x x' : Fx} {q : Nat} (h0 : x.told = 0) (h : x.doo s = (s', x', q)) : x.step s = (s', { x' with told := q }, q) := by
  unfold Fx.step
  rw [if_pos h0, h]
def begin (name : List Nat) (lk : Int) (temp : List Nat) : Fx := ⟨name, lk, temp, 0, [], 0, 0⟩
noncomputable def run : Nat → S → Fx → S × Fx × Nat
  | 0, s, x => (s, x, 0)
  | k + 1, s, x => if (x.step s).2.2 = 0 then run k (x.step s).1 (x.step s).2.1 else x.step s
theorem run_zero {k : Nat} {s s' : S} {x x' : Fx} (h : x.step s = (s', x', 0)) : run (k + 1) s x = run k s' x' := by rw [run, h, if_pos rfl]
theorem run_end {k n : Nat} {s s' : S} {x x' : Fx} (h : x.step s = (s', x', n + 1)) : run (k + 1) s x = (s', x', n + 1) := by rw [run, h, if_neg (by simp)]

/-! The files of the statements: the log's lock, and the trace, if it is there. -/
def lgL : List Nat := [108, 111, 99, 107, 47, 108, 111, 103]
def lgT : List Nat := [116, 109, 112, 47, 49, 46, 49, 46, 50]
def trl : Option (List Nat × Nat) → List Fi
  | none => []
  | some (t, k) => [⟨tr, t, k⟩]
def lw : Option (List Nat × Nat) → List Nat
  | none => []
  | some (t, _) => t
def lk' : Option (List Nat × Nat) → Nat
  | none => 0
  | some (_, k) => k
abbrev aa (b : List Nat) (j : Nat) (o : Option (List Nat × Nat)) (r : Int) (n : Nat) (c : Int) : S := ⟨⟨lgL, b, j⟩ :: trl o, r, n, c⟩
abbrev at' (b : List Nat) (j : Nat) (W : List Nat) (m : Nat) (o : Option (List Nat × Nat)) (r : Int) (n : Nat) (c : Int) : S := ⟨⟨lgL, b, j⟩ :: ⟨lgT, W, m⟩ :: trl o, r, n, c⟩
variable {b W t B : List Nat} {j m k n : Nat} {o : Option (List Nat × Nat)} {r c lk : Int}
theorem file_l : Nm.file lgL = true := by decide
theorem file_t : Nm.file lgT = true := by decide
theorem file_r : Nm.file tr = true := by decide
theorem used_aa : used (aa b j o r n c).l = b.length + (lw o).length := by rcases o with _ | ⟨t, k⟩ <;> simp [used, trl, lw]
theorem used_at : used (at' b j W m o r n c).l = b.length + W.length + (lw o).length := by rcases o with _ | ⟨t, k⟩ <;> simp [used, trl, lw] <;> omega
theorem bytes_aa : Sf.bytes (aa b j o r n c).l tr = lw o := by rcases o with _ | ⟨t, k⟩ <;> simp [Sf.bytes, Sf.get, trl, lw, lgL, tr]
theorem stamp_aa : Sf.stamp (aa b j o r n c).l tr = lk' o := by rcases o with _ | ⟨t, k⟩ <;> simp [Sf.stamp, Sf.get, trl, lk', lgL, tr]
theorem read_none : Sf.read (aa b j none r n c) tr = ([], 0, 4) := by
  unfold Sf.read
  rw [if_pos file_r]
  rfl
theorem read_some : Sf.read (aa b j (some (t, k)) r n c) tr = (t, k, 0) := by
  unfold Sf.read
  rw [if_pos file_r]
  rfl
theorem put_t : Sf.put (aa b j o r n c).l ⟨lgT, W, m⟩ = (at' b j W m o r n c).l := by
  rcases o with _ | ⟨t, k⟩ <;> rfl
theorem putS_t (h : ((b.length + (lw o).length + W.length : Nat) : Int) ≤ r) : putS (aa b j o r n c) lgT W = (at' b j W (n + 1) o r (n + 1) c, n + 1, 0) := by
  have hb : Sf.bytes (aa b j o r n c).l lgT = [] := by rcases o with _ | ⟨t, k⟩ <;> simp [Sf.bytes, Sf.get, trl, lgL, lgT, tr]
  have hf : fits (aa b j o r n c) lgT W.length = true := by
    unfold fits
    rw [hb, used_aa]
    simp only [List.length_nil, Bool.or_eq_true, decide_eq_true_eq]
    right
    show _ ≤ r
    omega
  unfold putS
  rw [if_pos file_t, if_pos hf]
  show ((⟨Sf.put (aa b j o r n c).l ⟨lgT, W, n + 1⟩, r, n + 1, c⟩ : S), n + 1, 0) = _
  rw [put_t]
def gsOf (lk : Int) (o : Option (List Nat × Nat)) : List (List Nat × Int) :=
  match o with
  | none => [(lgL, lk)]
  | some (_, k) => [(lgL, lk), (tr, (k : Int))]
theorem guards_at : guards (at' b j W m o r n c).l (gsOf lk o) = decide ((j : Int) = lk) := by
  rcases o with _ | ⟨t, k⟩ <;> simp [guards, Sf.guard, gsOf, Sf.stamp, Sf.get, trl, lgL, lgT, tr]
theorem move_ok (h : (j : Int) = lk) : Sf.move (at' b j W m o r n c) lgT tr (gsOf lk o) = (aa b j (some (W, n + 1)) r (n + 1) c, n + 1, 0) := by
  have hr : Sf.refuse (at' b j W m o r n c).l (gsOf lk o) [lgT, tr] = 0 := by
    unfold Sf.refuse
    rw [guards_at, decide_eq_true h]
    rfl
  have hg : Sf.get (at' b j W m o r n c).l lgT = some ⟨lgT, W, m⟩ := by simp [Sf.get, lgL, lgT]
  unfold Sf.move
  rw [if_neg (by decide), if_pos hr, if_pos (by rw [hg]; rfl)]
  have e1 : Sf.bytes (at' b j W m o r n c).l lgT = W := by unfold Sf.bytes; rw [hg]; rfl
  rw [e1]
  have e2 : Sf.put (Sf.gone (at' b j W m o r n c).l lgT) ⟨tr, W, n + 1⟩ = (aa b j (some (W, n + 1)) r (n + 1) c).l := by
    rcases o with _ | ⟨t, k⟩ <;> rfl
  show ((⟨Sf.put (Sf.gone (at' b j W m o r n c).l lgT) ⟨tr, W, n + 1⟩, r, n + 1, c⟩ : S), n + 1, 0) = _
  rw [e2]
theorem move_off (h : ¬ (j : Int) = lk) : Sf.move (at' b j W m o r n c) lgT tr (gsOf lk o) = (at' b j W m o r n c, 0, 5) := by
  have hr : Sf.refuse (at' b j W m o r n c).l (gsOf lk o) [lgT, tr] = 5 := by
    unfold Sf.refuse
    rw [guards_at, decide_eq_false h]
    rfl
  unfold Sf.move
  rw [if_neg (by decide), if_neg (by rw [hr]; omega), hr]
theorem drop_t : Sf.drop (at' b j W m o r n c) lgT [] = (aa b j o r n c, 0) := by
  have hg : Sf.get (at' b j W m o r n c).l lgT = some ⟨lgT, W, m⟩ := by simp [Sf.get, lgL, lgT]
  have hr : Sf.refuse (at' b j W m o r n c).l [] [lgT] = 0 := rfl
  unfold Sf.drop
  rw [if_pos hr, if_pos (by rw [hg]; rfl)]
  have e : Sf.gone (at' b j W m o r n c).l lgT = (aa b j o r n c).l := by
    rcases o with _ | ⟨t, k⟩ <;> simp [Sf.gone, trl, lgL, lgT, tr]
  show ((⟨Sf.gone (at' b j W m o r n c).l lgT, r, n, c⟩ : S), 0) = _
  rw [e]

/-- The steps of a Fix. -/
theorem st_whole (h : ed t = t.length) : (begin lgL lk lgT).step (aa b j (some (t, k)) r n c) = (aa b j (some (t, k)) r n c, ⟨lgL, lk, lgT, (k : Int), [], 0, 1⟩, 1) := by
  have h1 : (begin lgL lk lgT).doo (aa b j (some (t, k)) r n c) = (aa b j (some (t, k)) r n c, ⟨lgL, lk, lgT, (k : Int), [], 0, 0⟩, 1) := by
    show Fx.read _ _ = _
    unfold Fx.read
    rw [read_some, if_pos ⟨rfl, h⟩]
    rfl
  exact step_of rfl h1
/-- What stands of the trace. -/
noncomputable def stands (o : Option (List Nat × Nat)) : List Nat := (lw o).take (ed (lw o))
/-- Is there no trace, or one that is not whole? -/
def Torn (o : Option (List Nat × Nat)) : Prop := ∀ t k, o = some (t, k) → ed t ≠ t.length
theorem st_torn (h : Torn o) : (begin lgL lk lgT).step (aa b j o r n c) = (aa b j o r n c, ⟨lgL, lk, lgT, (lk' o : Int), stands o, 1, 0⟩, 0) := by
  have h1 : (begin lgL lk lgT).doo (aa b j o r n c) = (aa b j o r n c, ⟨lgL, lk, lgT, (lk' o : Int), stands o, 1, 0⟩, 0) := by
    show Fx.read _ _ = _
    unfold Fx.read
    rcases o with _ | ⟨t, k⟩
    · rw [read_none, if_neg (by simp)]
      rfl
    · rw [read_some, if_neg (fun e => h t k rfl e.2)]
      rfl
  exact step_of rfl h1
theorem st_put (h : ((b.length + (lw o).length + W.length : Nat) : Int) ≤ r) (q : Int) : Fx.step (aa b j o r n c) ⟨lgL, lk, lgT, q, W, 1, 0⟩ = (at' b j W (n + 1) o r (n + 1) c, ⟨lgL, lk, lgT, q, [], 2, 0⟩, 0) := by
  have h1 : Fx.doo (aa b j o r n c) ⟨lgL, lk, lgT, q, W, 1, 0⟩ = (at' b j W (n + 1) o r (n + 1) c, ⟨lgL, lk, lgT, q, [], 2, 0⟩, 0) := by
    show Fx.put _ _ = _
    unfold Fx.put
    rw [putS_t h, if_neg (by simp)]
  exact step_of rfl h1
theorem gs_of (h : ∀ t k, o = some (t, k) → k ≠ 0) (U : List Nat) (a q : Nat) : Fx.gs ⟨lgL, lk, lgT, (lk' o : Int), U, a, q⟩ = gsOf lk o := by
  unfold Fx.gs gsOf
  rcases o with _ | ⟨t, k⟩
  · exact if_pos rfl
  · rw [if_neg (by have := h t k rfl; show ¬ ((k : Nat) : Int) = 0; omega)]
    rfl
theorem st_move (h : (j : Int) = lk) (h0 : ∀ t k, o = some (t, k) → k ≠ 0) : Fx.step (at' b j W m o r n c) ⟨lgL, lk, lgT, (lk' o : Int), [], 2, 0⟩ = (aa b j (some (W, n + 1)) r (n + 1) c, ⟨lgL, lk, lgT, ((n + 1 : Nat) : Int), [], 2, 1⟩, 1) := by
  have h1 : Fx.doo (at' b j W m o r n c) ⟨lgL, lk, lgT, (lk' o : Int), [], 2, 0⟩ = (aa b j (some (W, n + 1)) r (n + 1) c, ⟨lgL, lk, lgT, ((n + 1 : Nat) : Int), [], 2, 0⟩, 1) := by
    show Fx.mv _ _ = _
    unfold Fx.mv
    rw [gs_of h0, move_ok h, if_pos rfl]
  exact step_of rfl h1
theorem st_off (h : ¬ (j : Int) = lk) (h0 : ∀ t k, o = some (t, k) → k ≠ 0) : Fx.step (at' b j W m o r n c) ⟨lgL, lk, lgT, (lk' o : Int), [], 2, 0⟩ = (at' b j W m o r n c, ⟨lgL, lk, lgT, (lk' o : Int), [], 3, 0⟩, 0) := by
  have h1 : Fx.doo (at' b j W m o r n c) ⟨lgL, lk, lgT, (lk' o : Int), [], 2, 0⟩ = (at' b j W m o r n c, ⟨lgL, lk, lgT, (lk' o : Int), [], 3, 0⟩, 0) := by
    show Fx.mv _ _ = _
    unfold Fx.mv
    rw [gs_of h0, move_off h, if_neg (by simp)]
  exact step_of rfl h1
theorem st_drop (q : Int) : Fx.step (at' b j W m o r n c) ⟨lgL, lk, lgT, q, [], 3, 0⟩ = (aa b j o r n c, ⟨lgL, lk, lgT, q, [], 3, 2⟩, 2) := by
  have h1 : Fx.doo (at' b j W m o r n c) ⟨lgL, lk, lgT, q, [], 3, 0⟩ = (aa b j o r n c, ⟨lgL, lk, lgT, q, [], 3, 0⟩, 2) := by
    show ((Sf.drop _ _ _).1, _, _) = _
    rw [drop_t]
  exact step_of rfl h1
theorem stands_len (o : Option (List Nat × Nat)) : (stands o).length ≤ (lw o).length := by
  unfold stands
  rw [List.length_take]
  omega
theorem run_whole (i : Nat) (h : ed t = t.length) : run (i + 1) (aa b j (some (t, k)) r n c) (begin lgL lk lgT) = (aa b j (some (t, k)) r n c, ⟨lgL, lk, lgT, (k : Int), [], 0, 1⟩, 1) := run_end (st_whole h)
theorem run_torn (i : Nat) (h : Torn o) (hj : (j : Int) = lk) (h0 : ∀ t k, o = some (t, k) → k ≠ 0) (hr : ((b.length + (lw o).length + (lw o).length : Nat) : Int) ≤ r) : run (i + 3) (aa b j o r n c) (begin lgL lk lgT) = (aa b j (some (stands o, n + 2)) r (n + 2) c, ⟨lgL, lk, lgT, ((n + 2 : Nat) : Int), [], 2, 1⟩, 1) := by
  have := stands_len o
  rw [run_zero (st_torn h), run_zero (st_put (by omega) _), run_end (st_move hj h0)]
theorem run_off (i : Nat) (h : Torn o) (hj : ¬ (j : Int) = lk) (h0 : ∀ t k, o = some (t, k) → k ≠ 0) (hr : ((b.length + (lw o).length + (lw o).length : Nat) : Int) ≤ r) : run (i + 4) (aa b j o r n c) (begin lgL lk lgT) = (aa b j o r (n + 1) c, ⟨lgL, lk, lgT, (lk' o : Int), [], 3, 2⟩, 2) := by
  have := stands_len o
  rw [run_zero (st_torn h), run_zero (st_put (by omega) _), run_zero (st_off hj h0), run_end (st_drop _)]
end Lg
end Go.Proofs.Ytfheaognfocofaa

/- The trace in plain words: what is told behind it. -/
namespace Go.Proofs.Ytfheaognfocofaa
set_option maxRecDepth 100000
namespace Lg
open Sf
variable {b W t B : List Nat} {j m k n : Nat} {o : Option (List Nat × Nat)} {r c σ τ lk : Int}
theorem guards_aa : guards (aa b j (some (t, k)) r n c).l [(lgL, σ), (tr, τ)] = (decide ((j : Int) = σ) && decide ((k : Int) = τ)) := by
  simp [guards, Sf.guard, Sf.stamp, Sf.get, trl, lgL, tr]
theorem refuse_aa (h : (decide ((j : Int) = σ) && decide ((k : Int) = τ)) = true) : Sf.refuse (aa b j (some (t, k)) r n c).l [(lgL, σ), (tr, τ)] [tr] = 0 := by
  unfold Sf.refuse
  rw [guards_aa, h]
  rfl
theorem refuse_not (h : (decide ((j : Int) = σ) && decide ((k : Int) = τ)) = false) : Sf.refuse (aa b j (some (t, k)) r n c).l [(lgL, σ), (tr, τ)] [tr] = 5 := by
  unfold Sf.refuse
  rw [guards_aa, h]
  rfl
theorem wr_aa (W : List Nat) : wr (aa b j o r n c) tr W = aa b j (some (W, n + 1)) r (n + 1) c := by
  have e : Sf.put (aa b j o r n c).l ⟨tr, W, n + 1⟩ = (aa b j (some (W, n + 1)) r (n + 1) c).l := by
    rcases o with _ | ⟨t, k⟩ <;> rfl
  show (⟨Sf.put (aa b j o r n c).l ⟨tr, W, n + 1⟩, r, n + 1, c⟩ : S) = _
  rw [e]
theorem app_ok (h1 : (j : Int) = σ) (h2 : (k : Int) = τ) (hr : ((b.length + t.length + B.length : Nat) : Int) ≤ r) : Sf.app (aa b j (some (t, k)) r n (-1)) tr B [(lgL, σ), (tr, τ)] = (aa b j (some (t ++ B, n + 1)) r (n + 1) (-1), n + 1, 0) := by
  have hp : Sf.part (aa b j (some (t, k)) r n (-1)) B.length = (aa b j (some (t, k)) r n (-1), B.length, 0) := by
    unfold Sf.part
    rw [if_pos rfl, if_pos]
    rw [used_aa]
    show (B.length : Int) ≤ max (r - ((b.length + t.length : Nat) : Int)) 0
    omega
  unfold Sf.app
  rw [if_pos (refuse_aa (by simp [h1, h2])), hp, if_pos rfl, bytes_aa, wr_aa]
  rfl
theorem app_not (h : (decide ((j : Int) = σ) && decide ((k : Int) = τ)) = false) : Sf.app (aa b j (some (t, k)) r n c) tr B [(lgL, σ), (tr, τ)] = (aa b j (some (t, k)) r n c, 0, 5) := by
  unfold Sf.app
  rw [if_neg (by rw [refuse_not h]; omega), refuse_not h]
/-- What a cut leaves: the bytes, and the stamps given. -/
theorem app_cut (h1 : (j : Int) = σ) (h2 : (k : Int) = τ) (q : Nat) (hq : q ≤ B.length) : ∃ k' n', Sf.app (aa b j (some (t, k)) r n (q : Int)) tr B [(lgL, σ), (tr, τ)] = (aa b j (some (t ++ B.take q, k')) r n' (-1), 0, 7) ∧ n ≤ n' ∧ n' ≤ n + 1 ∧ (k' = k ∨ k' = n + 1) := by
  have hp : Sf.part (aa b j (some (t, k)) r n (q : Int)) B.length = (aa b j (some (t, k)) r n (-1), q, 7) := by
    unfold Sf.part
    rw [if_neg (by show ¬ (q : Int) = -1; omega)]
    have : (min (B.length : Int) (q : Int)).toNat = q := by omega
    rw [show (aa b j (some (t, k)) r n (q : Int)).cut = (q : Int) from rfl, this]
  unfold Sf.app
  rw [if_pos (refuse_aa (by simp [h1, h2])), hp, if_neg (by simp)]
  by_cases h0 : 0 < q
  · rw [if_pos h0, wr_aa, bytes_aa]
    exact ⟨n + 1, n + 1, rfl, by omega, by omega, .inr rfl⟩
  · obtain rfl : q = 0 := by omega
    rw [if_neg (by simp)]
    refine ⟨k, n, ?_, by omega, by omega, .inl rfl⟩
    rw [List.take_zero, List.append_nil]
theorem putS_tr (hr : ((b.length + W.length : Nat) : Int) ≤ r) : putS (aa b j o r n c) tr W = (aa b j (some (W, n + 1)) r (n + 1) c, n + 1, 0) := by
  have hf : fits (aa b j o r n c) tr W.length = true := by
    unfold fits
    rw [bytes_aa, used_aa]
    simp only [Bool.or_eq_true, decide_eq_true_eq]
    right
    show _ ≤ r
    omega
  unfold putS
  rw [if_pos file_r, if_pos hf, wr_aa]
theorem putS_lg (hr : ((W.length + (lw o).length : Nat) : Int) ≤ r) : putS (aa b j o r n c) lgL W = (aa W (n + 1) o r (n + 1) c, n + 1, 0) := by
  have hb : Sf.bytes (aa b j o r n c).l lgL = b := by rcases o with _ | ⟨t, k⟩ <;> simp [Sf.bytes, Sf.get, trl, lgL]
  have hf : fits (aa b j o r n c) lgL W.length = true := by
    unfold fits
    rw [hb, used_aa]
    simp only [Bool.or_eq_true, decide_eq_true_eq]
    right
    show _ ≤ r
    omega
  have e : Sf.put (aa b j o r n c).l ⟨lgL, W, n + 1⟩ = (aa W (n + 1) o r (n + 1) c).l := by
    rcases o with _ | ⟨t, k⟩ <;> rfl
  unfold putS
  rw [if_pos file_l, if_pos hf]
  show ((⟨Sf.put (aa b j o r n c).l ⟨lgL, W, n + 1⟩, r, n + 1, c⟩ : S), n + 1, 0) = _
  rw [e]
/-- Files of none: a first one. -/
theorem putS_new (hr : (W.length : Int) ≤ r) : putS ⟨[], r, n, c⟩ lgL W = (aa W (n + 1) none r (n + 1) c, n + 1, 0) := by
  have hf : fits ⟨[], r, n, c⟩ lgL W.length = true := by
    unfold fits
    simp only [Bool.or_eq_true, decide_eq_true_eq]
    right
    show ((0 : Nat) : Int) + ((W.length : Int) - ((0 : Nat) : Int)) ≤ r
    omega
  unfold putS
  rw [if_pos file_l, if_pos hf]
  rfl
abbrev tt1 (t : List Nat) (k : Nat) (r : Int) (n : Nat) (c : Int) : S := ⟨[⟨tr, t, k⟩], r, n, c⟩
theorem putS_newt (hr : (W.length : Int) ≤ r) : putS ⟨[], r, n, c⟩ tr W = (tt1 W (n + 1) r (n + 1) c, n + 1, 0) := by
  have hf : fits ⟨[], r, n, c⟩ tr W.length = true := by
    unfold fits
    simp only [Bool.or_eq_true, decide_eq_true_eq]
    right
    show ((0 : Nat) : Int) + ((W.length : Int) - ((0 : Nat) : Int)) ≤ r
    omega
  unfold putS
  rw [if_pos file_r, if_pos hf]
  rfl
theorem putS_lgt (hr : ((W.length + t.length : Nat) : Int) ≤ r) : putS (tt1 t k r n c) lgL W = (aa W (n + 1) (some (t, k)) r (n + 1) c, n + 1, 0) := by
  have hb : Sf.bytes (tt1 t k r n c).l lgL = [] := by simp [Sf.bytes, Sf.get, lgL, tr]
  have hf : fits (tt1 t k r n c) lgL W.length = true := by
    unfold fits
    rw [hb]
    simp only [Bool.or_eq_true, decide_eq_true_eq, used, List.map_cons, List.map_nil, List.sum_cons, List.sum_nil, List.length_nil]
    right
    omega
  have e : Sf.put (tt1 t k r n c).l ⟨lgL, W, n + 1⟩ = (aa W (n + 1) (some (t, k)) r (n + 1) c).l := by
    rfl
  unfold putS
  rw [if_pos file_l, if_pos hf]
  show ((⟨Sf.put (tt1 t k r n c).l ⟨lgL, W, n + 1⟩, r, n + 1, c⟩ : S), n + 1, 0) = _
  rw [e]
end Lg
end Go.Proofs.Ytfheaognfocofaa
