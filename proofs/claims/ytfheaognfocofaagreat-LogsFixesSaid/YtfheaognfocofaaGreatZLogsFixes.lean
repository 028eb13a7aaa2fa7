/- LogsFixes: a trace that is whole is left; one that is cut off, or has something behind that is none, is made whole; the statement's walk. -/
import Derived.Test.YtfheaognfocofaaGreatZLogsWant
import Derived.Test.YtfheaognfocofaaGreatZRecoRefDone
namespace Go.Proofs.YtfheaognfocofaaGreat
set_option maxRecDepth 100000
open Go.ChangeShapes Go.WideShapes Go.ChangeAt Go.RowKit Go.ChangeMaps
open Sf Lg

namespace Lg
def nft (l : List Int) (k : Nat) : List Nat := Fr.frs ((Rc.nums (l.take k) k).map Rc.body)
theorem nft_zero (l : List Int) : nft l 0 = [] := rfl
theorem nft_next (l : List Int) {k : Nat} (hk : k < l.length) : nft l k ++ Fr.frm (Rc.body (Rc.num (l.getD k 0))) = nft l (k + 1) := by
  have e : ∀ j, Rc.nums (l.take j) j = (l.take j).map Rc.num := fun j => by
    unfold Rc.nums
    rw [List.take_take, Nat.min_self]
  unfold nft
  rw [e, e, List.take_succ_eq_append_getElem hk, List.map_append, List.map_append, Rc.frs_append]
  rw [List.getD_eq_getElem?_getD, List.getElem?_eq_getElem hk]
  simp [Fr.frs]
theorem nft_len (l : List Int) (k : Nat) : (nft l k).length ≤ 60 * k := by
  have h := frs_le (L := Rc.nums (l.take k) k) (Rc.nums_ok _ _)
  have h2 := Rc.nums_len (l.take k) k
  have h3 : min k (l.take k).length ≤ k := Nat.min_le_left _ _
  unfold nft
  omega
theorem list_aa {b : List Nat} {j n : Nat} {o : Option (List Nat × Nat)} {r c : Int} : Sf.list (aa b j o r n c).l [116, 109, 112] = [] := by
  rcases o with _ | ⟨t, k⟩ <;> rfl
/-- Where a Fix stands behind q of two rounds: whole, or not let, or still to come. -/
def FInv (there mine : Bool) (T : List Nat) (j q n was : Nat) (o : Option (List Nat × Nat)) : Prop :=
  j ≤ 2 ∧ lk' o ≤ n ∧ n ≤ 4 + 2 * q ∧ (lw o).length ≤ 2000 ∧ (∀ t k, o = some (t, k) → k ≠ 0) ∧ ld (lw o) = ld T ∧ was = lk' o ∧
  ((∃ t k, o = some (t, k) ∧ ed t = t.length ∧ (q = 0 → there = true ∧ t = T) ∧ (mine = true ∨ (there = true ∧ ed T = T.length))) ∨ (Torn o ∧ (there = true → ed T ≠ T.length) ∧ lw o = T ∧ ((mine = true ∧ q = 0) ∨ mine = false)))
def FLk (mine : Bool) (j : Nat) : Int := if mine = true then (j : Int) else (j : Int) + 1
theorem fstep {there mine : Bool} {T : List Nat} {j q n was : Nat} {o : Option (List Nat × Nat)} (h : FInv there mine T j q n was o) (hq : q < 2) :
    ∃ o' n' X kk, Lg.run 8 (aa [120] j o 1048576 n (-1)) (Lg.begin lgL (FLk mine j) lgT) = (aa [120] j o' 1048576 n' (-1), X, kk) ∧ X.told = kk ∧
      ((kk = 1 ∧ ∃ t k, o' = some (t, k) ∧ X.stamp = (k : Int) ∧ ed t = t.length ∧ ld t = ld T ∧ t.length ≤ 2000 ∧ (decide (q = 1) || (there && decide (ed T = T.length))) = decide (k = was) ∧ (mine = true ∨ (there = true ∧ ed T = T.length)) ∧ FInv there mine T j (q + 1) n' k o') ∨
       (kk = 2 ∧ mine = false ∧ (there = true → ed T ≠ T.length) ∧ lw o' = T ∧ was = lk' o' ∧ T.length ≤ 2000 ∧ FInv there mine T j (q + 1) n' was o')) := by
  obtain ⟨hj, hkn, hn, hlen, h0, hld, hwas, hc⟩ := h
  rcases hc with ⟨t, k, rfl, he, hq0, hm⟩ | ⟨hto, hth, hT, hm⟩
  · have hle : t.length ≤ 2000 := hlen
    refine ⟨_, n, _, 1, run_whole 7 he, rfl, .inl ⟨rfl, t, k, rfl, rfl, he, hld, hle, ?_, hm, hj, hkn, by omega, hlen, h0, hld, rfl, .inl ⟨t, k, rfl, he, fun e => by omega, hm⟩⟩⟩
    have hk : was = k := hwas
    rw [hk, decide_eq_true rfl]
    rcases (show q = 0 ∨ q = 1 by omega) with e | e
    · obtain ⟨e1, e2⟩ := hq0 e
      have e3 : ed T = T.length := by rw [← e2]; exact he
      rw [e1, decide_eq_true e3]
      simp
    · rw [decide_eq_true e]
      rfl
  · have hlo := stands_len o
    have hs : ed (stands o) = (stands o).length := by
      unfold stands
      rw [ed_cut, cut_len]
    have hsl : ld (stands o) = ld T := by
      unfold stands
      rw [ld_cut, hld]
    have hr : (([120].length + (lw o).length + (lw o).length : Nat) : Int) ≤ 1048576 := by
      simp only [List.length_cons, List.length_nil]
      omega
    rcases hm with ⟨hm, hq0⟩ | hm
    · subst hm hq0
      refine ⟨_, n + 2, _, 1, run_torn 5 hto (by unfold FLk; rw [if_pos rfl]) h0 hr, rfl, .inl ⟨rfl, stands o, n + 2, rfl, rfl, hs, hsl, by omega, ?_, .inl rfl, hj, Nat.le_refl _, by omega, by show (stands o).length ≤ 2000; omega, fun t k e => by injection e with e; injection e with _ e; omega, hsl, rfl, .inl ⟨stands o, n + 2, rfl, hs, fun e => by omega, .inl rfl⟩⟩⟩
      rw [decide_eq_false (show ¬ n + 2 = was by omega), decide_eq_false (show ¬ 0 = 1 by omega), Bool.false_or]
      rcases there with _ | _
      · rfl
      · rw [decide_eq_false (hth rfl)]
        rfl
    · subst hm
      exact ⟨o, n + 1, _, 2, run_off 4 hto (by unfold FLk; rw [if_neg (by simp)]; omega) h0 hr, rfl, .inr ⟨rfl, rfl, hth, hT, hwas, by rw [← hT]; exact hlen, hj, by omega, by omega, hlen, h0, hld, hwas, .inr ⟨hto, hth, hT, .inr rfl⟩⟩⟩
theorem finv0 {there mine : Bool} {TT : List Nat} {j : Nat} {o : Option (List Nat × Nat)} (h1 : lw o = TT) (h2 : TT.length ≤ 800) (h3 : lk' o ≤ 1) (h4 : ∀ t k, o = some (t, k) → k ≠ 0) (hj : j ≤ 2 ∧ 1 ≤ j) (h5 : (there = true ∧ o = some (TT, 1)) ∨ (there = false ∧ o = none)) : FInv there mine TT j 0 j (lk' o) o := by
  refine ⟨hj.1, by omega, by omega, by rw [h1]; omega, h4, by rw [h1], rfl, ?_⟩
  have hm : (mine = true ∧ 0 = 0) ∨ mine = false := by cases mine <;> simp
  rcases h5 with ⟨rfl, rfl⟩ | ⟨rfl, rfl⟩
  · by_cases he : ed TT = TT.length
    · exact .inl ⟨TT, 1, rfl, he, fun _ => ⟨rfl, rfl⟩, .inr ⟨rfl, he⟩⟩
    · exact .inr ⟨fun t k e => by injection e with e; injection e with e _; rw [← e]; exact he, fun _ => he, rfl, hm⟩
  · exact .inr ⟨fun t k e => (nomatch e), fun e => (nomatch e), h1, hm⟩
theorem lead_mem {f : List Nat → Option Rc.D} (L : List (List Nat)) : ∀ d ∈ Rc.leadBy f L, ∃ x ∈ L, f x = some d := by
  induction L with
  | nil => intro d hd; cases hd
  | cons x r ih =>
    intro d hd
    rcases h : f x with _ | e
    · rw [Rc.leadBy_none h] at hd; cases hd
    · rw [Rc.leadBy_some h] at hd
      rcases List.mem_cons.1 hd with rfl | hd
      · exact ⟨x, List.mem_cons_self, h⟩
      · obtain ⟨y, hy, e⟩ := ih d hd
        exact ⟨y, List.mem_cons_of_mem _ hy, e⟩
theorem ld_byte (b : List Nat) : ∀ d ∈ ld b, ∀ c ∈ d.1, c < 256 := by
  intro d hd
  obtain ⟨x, _, hx⟩ := lead_mem (f := Rc.openD) (rws b) d hd
  unfold Rc.openD at hx
  split at hx
  · rename_i h
    injection hx with hx
    rw [← hx]
    simp only [Bool.and_eq_true] at h
    exact openD_lt h.2
  · cases hx
theorem lgread2 {b : List Nat} {j n : Nat} {o : Option (List Nat × Nat)} {r c : Int} : ∃ e, Sf.read (aa b j o r n c) tr = (lw o, lk' o, e) := by
  rcases o with _ | ⟨t, k⟩
  · exact ⟨4, read_none⟩
  · exact ⟨0, read_some⟩
theorem ld_few' (b : List Nat) : 10 * (ld b).length ≤ b.length := by
  have h := (cnt_scn b).le (lead_rws b)
  omega
end Lg
end Go.Proofs.YtfheaognfocofaaGreat
