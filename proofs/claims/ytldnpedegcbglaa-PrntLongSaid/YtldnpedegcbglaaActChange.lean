/- What package acts makes of one thing that is no first one. -/
import Derived.Test.YtldnpedegcbglaaActStep
namespace Go.Proofs.Ytldnpedegcbglaa
set_option maxRecDepth 100000
open Go.ChangeShapes Go.WideShapes Go.ChangeAt Go.RowKit

def ChangedIs (base : Nat) (w : World) (e : Ending) (w' : World) : Option (List Nat) → Prop
  | some b => (∃ u, e = .returned (.tuple #[u, .bool true]) ∧ Mine w' base u b) ∧ Below base w w'
  | none => (∃ u, e = .returned (.tuple #[u, .bool false])) ∧ Below base w w'
theorem changed_none {base : Nat} {w w' : World} {e : Ending} {T : Option (List Nat)} (h : T = none) (u : Value) (he : e = .returned (.tuple #[u, .bool false])) (hb : Below base w w') : ChangedIs base w e w' T := by
  rw [h]
  exact ⟨⟨u, he⟩, hb⟩
theorem changed_some {base : Nat} {w w' : World} {e : Ending} {T : Option (List Nat)} {b : List Nat} (h : T = some b) (u : Value) (he : e = .returned (.tuple #[u, .bool true])) (hm : Mine w' base u b) (hb : Below base w w') : ChangedIs base w e w' T := by
  rw [h]
  exact ⟨⟨u, he, hm⟩, hb⟩
theorem changed_none' {base : Nat} {w w' : World} {e : Ending} {T : Option (List Nat)} (h : T = none) (q : Bool) (hq : q = false) (u : Value) (he : e = .returned (.tuple #[u, .bool q])) (hb : Below base w w') : ChangedIs base w e w' T := by
  subst hq
  exact changed_none h u he hb
theorem changed_some' {base : Nat} {w w' : World} {e : Ending} {T : Option (List Nat)} {b : List Nat} (h : T = some b) (q : Bool) (hq : q = true) (u : Value) (he : e = .returned (.tuple #[u, .bool q])) (hm : Mine w' base u b) (hb : Below base w w') : ChangedIs base w e w' T := by
  subst hq
  exact changed_some h u he hm hb
theorem few_of {b : List Nat} (h : b.length ≤ 256) : few b = some b := by unfold few; rw [if_pos h]
theorem few_not {b : List Nat} (h : ¬ b.length ≤ 256) : few b = none := by unfold few; rw [if_neg h]
set_option maxHeartbeats 8000000 in
theorem change_any (base : Nat) (x : Ac.D) (v : Value) (l : List Nat) (w : World) (h : Mine w base v l) (hB : base ≤ w.heap.size) (hl : l.length ≤ 256) (ht : (∀ c ∈ x.text, c < 256) ∧ x.text.length ≤ 64) (hk : 4 ≤ x.kind ∧ x.kind ≤ 11) (hn : x.n ≤ 1000000) (T : Option (List Nat)) (hT : T = stepD [] x l) :
    Calls Try.prog 43 #[.agg (cellsD x).toArray, v] w fun e w' => ChangedIs base w e w' T := by
  obtain ⟨xk, xn, xt⟩ := x
  change 4 ≤ xk ∧ xk ≤ 11 at hk
  change xn ≤ 1000000 at hn
  have HTX : Hid ((∀ c ∈ xt, c < 256) ∧ xt.length ≤ 64) := Lib.hid ht
  have HT := Lib.hid hT
  have H := Lib.hid (fun o => h.alloc o)
  have HBX : Hid (∀ o, Below base w (w.alloc o)) := Lib.hid (fun o => (Below.refl _ _).alloc hB o)
  have HS : Hid (∀ o, base ≤ (w.alloc o).heap.size) := Lib.hid (fun o => by rw [World.size_alloc]; omega)
  obtain ⟨A, c, rfl, hc, _⟩ := h.parts
  obtain ⟨m, hm⟩ : ∃ m, l.length = m := ⟨_, rfl⟩
  rw [hm] at hl hc H ⊢
  have hmI : (m : Int) ≤ 256 := by omega
  have HM := Lib.hid hm
  have HL : Hid (∀ b : List Nat, b.length ≤ m → few b = some b) := Lib.hid (fun b hb => few_of (by omega))
  clear hm hT ht
  rw [show (cellsD ⟨xk, xn, xt⟩).toArray = #[.int .i64 (xk : Int), .int .i64 (xn : Int), .string (str xt)] from rfl]
  have hkind : xk = 4 ∨ xk = 5 ∨ xk = 6 ∨ xk = 7 ∨ xk = 8 ∨ xk = 9 ∨ xk = 10 ∨ xk = 11 := by omega
  clear hk
  rcases hkind with rfl | rfl | rfl | rfl | rfl | rfl | rfl | rfl
  · as_aux_lemma =>
      have HT2 : Hid (T = some (l.map Ac.upper)) := Lib.hid (by rw [HT.out]; exact HL.out _ (by rw [List.length_map, HM.out]; exact Nat.le_refl _))
      go_enter Try.func43, Try.ntmps43
      go_wp2_with fail
      refine (shift_any base _ l 97 65 _ (H.out _) (by rw [HM.out]; omega) (by omega) (by omega)).mono ?_
      rintro e w2 ⟨rfl, hm2, hb2⟩
      rw [turned_upper] at hm2
      have HM2 := Lib.hid hm2
      have HB2 := Lib.hid ((HBX.out (.cells #[.int .i64 4, .int .i64 (xn : Int), .string (str xt)] 26)).trans hb2)
      clear hm2 hb2
      go_wp2
      go_ret2
      exact changed_some HT2.out _ rfl HM2.out HB2.out
  · as_aux_lemma =>
      have HT2 : Hid (T = some (l.map Ac.lower)) := Lib.hid (by rw [HT.out]; exact HL.out _ (by rw [List.length_map, HM.out]; exact Nat.le_refl _))
      go_enter Try.func43, Try.ntmps43
      go_wp2_with fail
      refine (shift_any base _ l 65 97 _ (H.out _) (by rw [HM.out]; omega) (by omega) (by omega)).mono ?_
      rintro e w2 ⟨rfl, hm2, hb2⟩
      rw [turned_lower] at hm2
      have HM2 := Lib.hid hm2
      have HB2 := Lib.hid ((HBX.out (.cells #[.int .i64 5, .int .i64 (xn : Int), .string (str xt)] 26)).trans hb2)
      clear hm2 hb2
      go_wp2
      go_ret2
      exact changed_some HT2.out _ rfl HM2.out HB2.out
  · as_aux_lemma =>
      have HT2 : Hid (T = some l.reverse) := Lib.hid (by rw [HT.out]; exact HL.out _ (by rw [List.length_reverse, HM.out]; exact Nat.le_refl _))
      go_enter Try.func43, Try.ntmps43
      go_wp2_with fail
      refine (rev_any base _ l _ (H.out _) (by rw [HM.out]; omega)).mono ?_
      rintro e w2 ⟨rfl, hm2, hb2⟩
      have HM2 := Lib.hid hm2
      have HB2 := Lib.hid ((HBX.out (.cells #[.int .i64 6, .int .i64 (xn : Int), .string (str xt)] 26)).trans hb2)
      clear hm2 hb2
      go_wp2
      go_ret2
      exact changed_some HT2.out _ rfl HM2.out HB2.out
  · as_aux_lemma =>
      obtain ⟨k, hk⟩ : ∃ k, min xn m = k := ⟨_, rfl⟩
      have hkm : k ≤ m := by omega
      have hkI : min (xn : Int) (m : Int) = (k : Int) := by omega
      have hk0 : (0 : Int) ≤ (k : Int) := by omega
      have hkc : (k : Int) ≤ (c : Int) := by omega
      have hk256 : (k : Int) ≤ 256 := by omega
      have HT2 : Hid (T = some (l.take k)) := Lib.hid (by
        rw [HT.out]
        show few (l.take xn) = _
        rw [show l.take xn = l.take k from by rw [← hk, ← HM.out, List.take_eq_take_iff]; omega]
        exact HL.out _ (by rw [List.length_take, HM.out]; omega))
      have HM2 : Hid (∀ o, Mine (w.alloc o) base (.slice A k c) (l.take k)) := Lib.hid (fun o => (H.out o).take hkm)
      clear hk
      go_enter Try.func43, Try.ntmps43
      go_wp2
      go_ret2
      exact changed_some HT2.out _ rfl (HM2.out _) (HBX.out _)
  · as_aux_lemma =>
      obtain ⟨k, hk⟩ : ∃ k, min xn m = k := ⟨_, rfl⟩
      have hkm : k ≤ m := by omega
      have hkI : min (xn : Int) (m : Int) = (k : Int) := by omega
      have hk0 : (0 : Int) ≤ (k : Int) := by omega
      have hkc : (k : Int) ≤ (m : Int) := by omega
      have hk256 : (m : Int) - (k : Int) ≤ 256 := by omega
      have HT2 : Hid (T = some (l.drop k)) := Lib.hid (by
        rw [HT.out]
        show few (l.drop xn) = _
        rw [show l.drop xn = l.drop k from by
          rcases Nat.le_total xn m with h | h
          · rw [show k = xn from by omega]
          · rw [show k = m from by omega, List.drop_of_length_le (by rw [HM.out]; exact h), List.drop_of_length_le (by rw [HM.out]; exact Nat.le_refl _)]]
        exact HL.out _ (by rw [List.length_drop, HM.out]; omega))
      rcases A with _ | ⟨b, off, spot⟩
      · have HM2 : Hid (∀ o, m = 0 ∧ k = 0 ∧ c = 0 ∧ Mine (w.alloc o) base (.slice none 0 0) (l.drop k)) := Lib.hid (fun o => by
          obtain ⟨_, A', c', e, _, _, hx⟩ := H.out o
          injection e with e1 e2 e3
          subst e1 e3
          rcases hx with ⟨_, rfl⟩ | ⟨b, off, e, _⟩
          · have : m = 0 := by omega
            subst this
            have hk0 : k = 0 := by omega
            subst hk0
            refine ⟨rfl, rfl, rfl, ?_⟩
            rw [List.eq_nil_of_length_eq_zero HM.out]
            exact mine_none _ _
          · cases e)
        obtain ⟨rfl, rfl, rfl, -⟩ := HM2.out default
        go_enter Try.func43, Try.ntmps43
        go_wp2
        go_ret2
        exact changed_some HT2.out _ rfl (HM2.out _).2.2.2 (HBX.out _)
      · obtain rfl : spot = none := by
          obtain ⟨_, A', c', e, _, _, hx⟩ := H.out default
          injection e with e1 e2 e3
          subst e1
          rcases hx with ⟨e, _⟩ | ⟨b', off', e, _⟩
          · cases e
          · injection e with e
            injection e
        have HM2 : Hid (∀ o o', (k < c → o' = off + k) → Mine (w.alloc o) base (.slice (some ⟨b, o', none⟩) (m - k) (c - k)) (l.drop k)) := Lib.hid (fun o o' ho => (H.out o).drop hkm ho)
        by_cases hck : c = k
        · subst hck
          have hmc : m = c := by omega
          subst hmc
          clear hk
          go_enter Try.func43, Try.ntmps43
          go_wp2
          go_ret2
          exact changed_some HT2.out _ rfl (by have := HM2.out (.cells #[.int .i64 8, .int .i64 (xn : Int), .string (str xt)] 26) off (by omega); simpa using this) (HBX.out _)
        · clear hk
          go_enter Try.func43, Try.ntmps43
          go_wp2
          go_ret2
          exact changed_some' HT2.out _ (decide_eq_true (by omega)) _ rfl (HM2.out _ _ (fun _ => rfl)) (HBX.out _)
  · as_aux_lemma =>
      go_enter Try.func43, Try.ntmps43
      go_wp2_with fail
      refine (twice_any _ l _ (H.out _).bytes (by rw [HM.out]; exact hl)).mono ?_
      rintro e w2 ⟨u, rfl, hm2, hb2⟩
      have HM2 := Lib.hid (hm2.more (HS.out (.cells #[.int .i64 9, .int .i64 (xn : Int), .string (str xt)] 26)))
      have HB2 := Lib.hid ((HBX.out (.cells #[.int .i64 9, .int .i64 (xn : Int), .string (str xt)] 26)).trans (hb2.mono (HS.out _)))
      obtain ⟨A2, c2, rfl, _, _⟩ := HM2.out.parts
      have HLN : Hid (T = few (l ++ l)) := Lib.hid HT.out
      clear hm2 hb2
      obtain ⟨q, hq⟩ : ∃ q, (l ++ l).length = q := ⟨_, rfl⟩
      have HQ := Lib.hid hq
      rw [hq] at HM2 ⊢
      clear hq
      by_cases hfit : q ≤ 256
      · have hfI : (q : Int) ≤ 256 := by omega
        have HT2 : Hid (T = some (l ++ l)) := Lib.hid (by rw [HLN.out]; exact few_of (by rw [HQ.out]; exact hfit))
        go_wp2
        go_ret2
        exact changed_some HT2.out _ rfl HM2.out HB2.out
      · have hfI : ¬ (q : Int) ≤ 256 := by omega
        have HT2 : Hid (T = none) := Lib.hid (by rw [HLN.out]; exact few_not (by rw [HQ.out]; exact hfit))
        go_wp2
        go_ret2
        exact changed_none' HT2.out _ (decide_eq_false (by omega)) _ rfl HB2.out
  · as_aux_lemma =>
      go_enter Try.func43, Try.ntmps43
      go_wp2_with fail
      refine (join_any _ l xt _ (H.out _).bytes (by rw [HM.out]; omega) HTX.out.1 HTX.out.2).mono ?_
      rintro e w2 ⟨u, rfl, hm2, hb2⟩
      have HM2 := Lib.hid (hm2.mine.more (HS.out (.cells #[.int .i64 10, .int .i64 (xn : Int), .string (str xt)] 26)))
      have HB2 := Lib.hid ((HBX.out (.cells #[.int .i64 10, .int .i64 (xn : Int), .string (str xt)] 26)).trans (hb2.mono (HS.out _)))
      obtain ⟨A2, c2, rfl, _, _⟩ := HM2.out.parts
      have HLN : Hid (T = few (Ac.joined xt l)) := Lib.hid HT.out
      clear hm2 hb2
      obtain ⟨J, hJ⟩ : ∃ J, Ac.joined xt l = J := ⟨_, rfl⟩
      rw [hJ] at HM2 HLN ⊢
      clear hJ
      obtain ⟨q, hq⟩ : ∃ q, J.length = q := ⟨_, rfl⟩
      have HQ := Lib.hid hq
      rw [hq] at HM2 ⊢
      clear hq
      by_cases hfit : q ≤ 256
      · have hfI : (q : Int) ≤ 256 := by omega
        have HT2 : Hid (T = some J) := Lib.hid (by rw [HLN.out]; exact few_of (by rw [HQ.out]; exact hfit))
        go_wp2
        go_ret2
        exact changed_some HT2.out _ rfl HM2.out HB2.out
      · have hfI : ¬ (q : Int) ≤ 256 := by omega
        have HT2 : Hid (T = none) := Lib.hid (by rw [HLN.out]; exact few_not (by rw [HQ.out]; exact hfit))
        go_wp2
        go_ret2
        exact changed_none' HT2.out _ (decide_eq_false (by omega)) _ rfl HB2.out
  · as_aux_lemma =>
      have HT2 : Hid (T = none) := Lib.hid (by rw [HT.out]; rfl)
      go_enter Try.func43, Try.ntmps43
      go_wp2
      go_ret2
      exact changed_none HT2.out _ rfl (HBX.out _)
end Go.Proofs.Ytldnpedegcbglaa
