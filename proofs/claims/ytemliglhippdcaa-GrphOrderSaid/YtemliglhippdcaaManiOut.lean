/- The document's own answer for manifests: its parser: whether a name is an output already. -/
import Derived.Test.YtemliglhippdcaaManiMem
namespace Go.Proofs.Ytemliglhippdcaa
set_option maxRecDepth 100000
open Go.ChangeShapes Go.WideShapes Go.ChangeAt Go.RowKit

theorem Sl.at {w : World} {t : TypeId} {sz n c : Nat} {A : Option Addr} {P : Nat → Nat → Nat → Prop} (h : Sl w t sz (.slice A n c) n P) {k : Nat} (hk : k < n) : ∃ b off, A = some ⟨b, off, none⟩ ∧ P k b (off + k * sz) := by
  obtain ⟨A', c', e, _, _, h3⟩ := h
  injection e with e1 _ _
  subst e1
  obtain ⟨b, off, rfl, _, hc⟩ := h3 (by omega)
  exact ⟨b, off, rfl, hc k hk⟩
theorem Sl.parts {w : World} {t : TypeId} {sz n : Nat} {v : Value} {P : Nat → Nat → Nat → Prop} (h : Sl w t sz v n P) : ∃ A c, v = .slice A n c ∧ n ≤ c := by
  obtain ⟨A, c, rfl, h1, _⟩ := h
  exact ⟨A, c, rfl, h1⟩
theorem taken_no {rules : List Mn.Rule} {t : List Nat} (h : ∀ i (hi : i < rules.length), t ∉ (rules[i]'hi).outs) : Mn.taken rules t = false := by
  unfold Mn.taken
  rw [List.any_eq_false]
  intro r hr
  obtain ⟨i, hi, rfl⟩ := List.getElem_of_mem hr
  simpa using h i hi
theorem taken_yes {rules : List Mn.Rule} {t : List Nat} {i : Nat} (hi : i < rules.length) (h : t ∈ (rules[i]'hi).outs) : Mn.taken rules t = true := by
  unfold Mn.taken
  rw [List.any_eq_true]
  exact ⟨_, List.getElem_mem hi, by simpa using h⟩
set_option maxRecDepth 100000 in
set_option maxHeartbeats 8000000 in
theorem refout_any (g : Nat) (t : List Nat) (rules : List Mn.Rule) (rv dv lv fv : Value) (e : Mn.F) (w : World) (h : Pb w g rv dv lv fv e) (hr : SlR w rv rules) (hn : rules.length ≤ 1000000) (ho : ∀ r ∈ rules, r.outs.length ≤ 1000000 ∧ ∀ x ∈ r.outs, ∀ c ∈ x, c < 256) (ht : ∀ c ∈ t, c < 256) :
    Calls Try.prog 27 #[.pointer (some ⟨g, 0, none⟩), .string (str t)] w fun en w' => en = .returned (.bool (Mn.taken rules t)) ∧ w = w' := by
  have p0 := h.at 0
  change w.cell? ⟨g, 0, none⟩ = some rv at p0
  have HR := Lib.hid hr
  have HO := Lib.hid ho
  have HT := Lib.hid ht
  obtain ⟨A, c, rfl, hc⟩ := hr.parts
  obtain ⟨n, hN⟩ : ∃ n, rules.length = n := ⟨_, rfl⟩
  have HR' : Hid (Sl w 40 5 (.slice A n c) n fun k b o => RuleAt w (rules.getD k emptyRule) b o) := Lib.hid (by rw [← hN]; exact hr)
  rw [hN] at p0 hn hc
  have HN := Lib.hid hN
  have HNS := Lib.hid hn
  clear h hr ho ht hN hn hc HR
  obtain ⟨st, hst⟩ : ∃ st, str t = st := ⟨_, rfl⟩
  rw [hst]
  have HST := Lib.hid hst
  clear hst
  go_enter Try.func27, Try.ntmps27
  go_wp2_with fail
  go_loopg [5] n (fun gg iv wr => ∃ i : Nat, Hid (i ≤ n ∧ n - i ≤ gg) ∧ iv = .int .i64 (i : Int) ∧ Hid (∀ j (hj : j < rules.length), j < i → t ∉ (rules[j]'hj).outs) ∧ w = wr)
  case atStart => exact ⟨0, Lib.hid (by omega), rfl, Lib.hid (fun j hj h => absurd h (by omega)), rfl⟩
  case round =>
    obtain ⟨i, HI, rfl, hall, rfl⟩ := hrel
    by_cases hlt : i < n
    · have hltI : (i : Int) < (n : Int) := by omega
      have hiL : i < rules.length := by rw [HN.out]; exact hlt
      obtain ⟨B, off, rfl, hra⟩ := HR'.out.at hlt
      rw [List.getD_eq_getElem?_getD, List.getElem?_eq_getElem hiL] at hra
      have HOX := Lib.hid (HO.out _ (List.getElem_mem hiL))
      have HYES := Lib.hid (fun h => taken_yes (t := t) hiL h)
      have HNX : Hid (t ∉ (rules[i]'hiL).outs → ∀ j (hj : j < rules.length), j < i + 1 → t ∉ (rules[j]'hj).outs) := Lib.hid (fun hno j hj hji => by
        rcases Nat.lt_or_ge j i with h | h
        · exact hall.out j hj h
        · obtain rfl : j = i := by omega
          exact hno)
      obtain ⟨r, hr⟩ : ∃ r, rules[i]'hiL = r := ⟨_, rfl⟩
      rw [hr] at HOX HYES HNX
      change RuleAt w (rules[i]'hiL) B (off + i * 5) at hra
      rw [hr] at hra
      clear hr hiL
      obtain ⟨u1, u2, u3, u4, q0, -, -, -, -, s1, -, -, -⟩ := hra
      obtain ⟨A1, c1, rfl, hc1⟩ := s1.parts
      obtain ⟨m, hm⟩ : ∃ m, r.outs.length = m := ⟨_, rfl⟩
      have HS1 : Hid (Sl w 9 1 (.slice A1 m c1) m fun k b o => w.cell? ⟨b, o, none⟩ = some (.string (str (r.outs.getD k [])))) := Lib.hid (by rw [← hm]; exact s1)
      rw [hm] at q0
      have HMM := Lib.hid hm
      have HNB : Hid (m ≤ 1000000 ∧ n ≤ 1000000) := Lib.hid ⟨by rw [← hm]; exact HOX.out.1, HNS.out⟩
      clear s1 hc1 hm
      go_wp2_with fail
      go_loopg [6] m (fun gg kv wr => ∃ k : Nat, Hid (k ≤ m ∧ m - k ≤ gg) ∧ kv = .int .i64 (k : Int) ∧ Hid (∀ j (hj : j < r.outs.length), j < k → (r.outs[j]'hj) ≠ t) ∧ w = wr)
      case atStart => exact ⟨0, Lib.hid (by omega), rfl, Lib.hid (fun j hj h => absurd h (by omega)), rfl⟩
      case round =>
        obtain ⟨k, HK, rfl, hno, rfl⟩ := hrel
        by_cases hlt2 : k < m
        · have hlt2I : (k : Int) < (m : Int) := by omega
          have hkL : k < r.outs.length := by rw [HMM.out]; exact hlt2
          obtain ⟨B2, off2, rfl, q1⟩ := HS1.out.at hlt2
          rw [Nat.mul_one] at q1
          rw [List.getD_eq_getElem?_getD, List.getElem?_eq_getElem hkL] at q1
          change w.cell? ⟨B2, off2 + k, none⟩ = some (.string (str (r.outs[k]'hkL))) at q1
          have hcmp : ((str (r.outs[k]'hkL)).toList == (str t).toList) = decide (r.outs[k]'hkL = t) := str_same (HOX.out.2 _ (List.getElem_mem hkL)) HT.out
          have HNO : Hid (r.outs[k]'hkL ≠ t → ∀ j (hj : j < r.outs.length), j < k + 1 → (r.outs[j]'hj) ≠ t) := Lib.hid (fun hne j hj hjk => by
            rcases Nat.lt_or_ge j k with h | h
            · exact hno.out j hj h
            · obtain rfl : j = k := by omega
              exact hne)
          have HIN : Hid (r.outs[k]'hkL = t → Mn.taken rules t = true) := Lib.hid (fun h => HYES.out (h ▸ List.getElem_mem hkL))
          obtain ⟨y, hy⟩ : ∃ y, r.outs[k]'hkL = y := ⟨_, rfl⟩
          rw [hy] at q1 hcmp HNO HIN
          clear hy hkL hno
          rw [HST.out] at hcmp
          obtain ⟨sy, hsy⟩ : ∃ sy, str y = sy := ⟨_, rfl⟩
          rw [hsy] at q1 hcmp
          clear hsy
          by_cases hyt : y = t
          · have HW := Lib.hid (HIN.out hyt)
            rw [decide_eq_true hyt] at hcmp
            clear hyt HIN HNO
            go_wp2_with fail
            go_ret
            exact ⟨by rw [HW.out] <;> rfl, rfl⟩
          · have HW := Lib.hid (HNO.out hyt)
            rw [decide_eq_false hyt] at hcmp
            clear hyt HIN HNO
            have hk8 : k ≤ 1000000 := by have := HNB.out; omega
            go_wp2
            go_roundg (m - (k + 1))
            case measure => have := HK.out; omega
            case rel => exact ⟨k + 1, Lib.hid (by omega), by go_num, HW, rfl⟩
        · obtain rfl : k = m := by have := HK.out; omega
          have hno2 : t ∉ r.outs := fun hin => by
            obtain ⟨j, hj, e⟩ := List.getElem_of_mem hin
            exact hno.out j hj (by rw [HMM.out] at hj; exact hj) e
          have HW := Lib.hid (HNX.out hno2)
          have hi8 : i ≤ 1000000 := by have := HNB.out; omega
          clear hno2 hlt2 hno
          go_wp2
          go_roundg (n - (i + 1))
          case measure => have := HI.out; omega
          case rel => exact ⟨i + 1, Lib.hid (by omega), by go_num, HW, rfl⟩
    · obtain rfl : i = n := by have := HI.out; omega
      have HW : Hid (Mn.taken rules t = false) := Lib.hid (taken_no fun j hj => hall.out j hj (by rw [HN.out] at hj; exact hj))
      clear hall hlt
      go_wp2
      go_ret
      exact ⟨by rw [HW.out] <;> rfl, rfl⟩
end Go.Proofs.Ytemliglhippdcaa
