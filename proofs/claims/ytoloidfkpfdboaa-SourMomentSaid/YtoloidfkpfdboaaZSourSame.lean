/- Package fettleref1: whether two rows of numbers are the same; fettlelaw15's own small calls. -/
import Derived.Test.YtoloidfkpfdboaaZSourTell
import Derived.Test.YtoloidfkpfdboaaZPrntSame
import Derived.Test.YtoloidfkpfdboaaZ08
namespace Go.Proofs.Ytoloidfkpfdboaa
set_option maxRecDepth 100000
open Go.ChangeShapes Go.WideShapes Go.ChangeAt Go.RowKit Go.ChangeMaps
open Sf

theorem srsame_next {A B : List Nat} {n k : Nat} (ha : A.length = n) (hb : B.length = n) (hk : k < n) (h : A.take k = B.take k) (he : A.getD k 0 = B.getD k 0) : A.take (k + 1) = B.take (k + 1) := by
  rw [List.take_succ_eq_append_getElem (by omega), List.take_succ_eq_append_getElem (by omega), h]
  rw [List.getD_eq_getElem?_getD, List.getD_eq_getElem?_getD, List.getElem?_eq_getElem (by omega), List.getElem?_eq_getElem (by omega)] at he
  rw [show A[k] = B[k] from he]
set_option maxHeartbeats 4000000 in
theorem srints_any (A B : List Nat) (va vb : Value) (w : World) (ha : SrI w va A) (hb : SrI w vb B) (hm : A.length ≤ 1000000) (hm2 : B.length ≤ 1000000) :
    Calls Try.prog 16 #[va, vb] w fun e w' => e = .returned (.bool (decide (A = B))) ∧ Below w.heap.size w w' := by
  obtain ⟨P1, c1, rfl, hc1, hp1⟩ := ha
  obtain ⟨P2, c2, rfl, hc2, hp2⟩ := hb
  obtain ⟨n, hn⟩ : ∃ n, A.length = n := ⟨_, rfl⟩
  obtain ⟨m, hmm⟩ : ∃ m, B.length = m := ⟨_, rfl⟩
  have HP1 := Lib.hid hp1
  have HP2 := Lib.hid hp2
  have HN := Lib.hid hn
  have HM := Lib.hid hmm
  rw [hn] at hc1 hm ⊢
  rw [hmm] at hc2 hm2 ⊢
  clear hp1 hp2 hn hmm
  by_cases hnm : n = m
  · subst hnm
    go_enter Try.func16, Try.ntmps16
    go_wp2_with fail
    go_loopw [5] (fun iv wr => ∃ k : Nat, k ≤ n ∧ iv = .int .i64 (k : Int) ∧ Hid (A.take k = B.take k) ∧ ∃ nq, wr = w.drewN nq) (fun iv _ => n - (intOf iv).toNat)
    case atStart => exact ⟨0, by omega, rfl, Lib.hid (by simp), 0, rfl⟩
    case round =>
      obtain ⟨k, hk, rfl, HT, nq, rfl⟩ := hrel
      by_cases hlt : k < n
      · have hlt' : (k : Int) < (n : Int) := by omega
        obtain ⟨g1, o1, rfl, e1⟩ := HP1.out (by rw [HN.out]; omega)
        have e1 := e1 k (by rw [HN.out]; exact hlt)
        obtain ⟨g2, o2, rfl, e2⟩ := HP2.out (by rw [HM.out]; omega)
        have e2 := e2 k (by rw [HM.out]; exact hlt)
        obtain ⟨l1, hl1⟩ : ∃ l, A.getD k 0 = l := ⟨_, rfl⟩
        obtain ⟨l2, hl2⟩ : ∃ l, B.getD k 0 = l := ⟨_, rfl⟩
        rw [hl1] at e1
        rw [hl2] at e2
        have HL1 := Lib.hid hl1
        have HL2 := Lib.hid hl2
        clear hl1 hl2
        by_cases hd : l1 = l2
        · have HT2 : Hid (A.take (k + 1) = B.take (k + 1)) := Lib.hid (srsame_next HN.out HM.out hlt HT.out (by rw [HL1.out, HL2.out]; exact hd))
          subst hd
          go_wp2_with fail
          go_quiet (fail)
          go_wp2
          go_roundw
          case rel => exact ⟨k + 1, by omega, by go_num, HT2, _, rfl⟩
          case measure => simp [intOf]; omega
        · have HV : Hid (decide (A = B) = false) := Lib.hid (decide_eq_false fun e => hd (by rw [← HL1.out, ← HL2.out, e]))
          have hdi : ¬ (l1 : Int) = (l2 : Int) := by omega
          clear hd
          go_wp2_with fail
          go_quiet (fail)
          go_wp2
          go_ret
          exact ⟨by rw [HV.out]; rfl, (sr_drewN w _).trans (sr_drewN (w.drewN _) _)⟩
      · obtain rfl : k = n := by omega
        have HV : Hid (decide (A = B) = true) := Lib.hid (decide_eq_true (by
          have := HT.out
          rwa [List.take_of_length_le (by rw [HN.out]; exact Nat.le_refl _), List.take_of_length_le (by rw [HM.out]; exact Nat.le_refl _)] at this))
        go_wp2
        go_ret
        exact ⟨by rw [HV.out]; rfl, sr_drewN w _⟩
  · have HV : Hid (decide (A = B) = false) := Lib.hid (decide_eq_false fun e => hnm (by rw [← HN.out, ← HM.out, e]))
    have hnz : ((n : Int) == (m : Int)) = false := by simp; omega
    clear hnm
    go_enter Try.func16, Try.ntmps16
    go_wp2
    go_ret
    exact ⟨by rw [HV.out]; rfl, Below.refl _ _⟩
/-- Whether two rows of texts are the same. -/
theorem sameS_next {A B : List (List Nat)} {n k : Nat} (ha : A.length = n) (hb : B.length = n) (hk : k < n) (h : A.take k = B.take k) (he : A.getD k [] = B.getD k []) : A.take (k + 1) = B.take (k + 1) := by
  rw [List.take_succ_eq_append_getElem (by omega), List.take_succ_eq_append_getElem (by omega), h]
  rw [List.getD_eq_getElem?_getD, List.getD_eq_getElem?_getD, List.getElem?_eq_getElem (by omega), List.getElem?_eq_getElem (by omega)] at he
  rw [show A[k] = B[k] from he]

namespace Sr
def made (t : List Nat) : Bool := decide (t = [97]) || decide (t = [98])
end Sr
theorem srmade_any (t : List Nat) (w : World) (ht : ∀ c ∈ t, c < 256) : Calls Try.prog 10 #[.string (str t)] w fun e w' => e = .returned (.bool (Sr.made t)) ∧ w = w' := by
  have h1 := str_same (l := t) (m := [97]) ht (by decide)
  have h2 := str_same (l := t) (m := [98]) ht (by decide)
  have k1 : ({ data := #[97] } : ByteArray) = str [97] := rfl
  have k2 : ({ data := #[98] } : ByteArray) = str [98] := rfl
  have HM : Hid (Sr.made t = (decide (t = [97]) || decide (t = [98]))) := Lib.hid rfl
  by_cases e1 : t = [97]
  · rw [decide_eq_true e1] at h1 HM
    clear e1
    go_enter Try.func10, Try.ntmps10
    go_wp2
    go_ret
    exact ⟨by rw [HM.out]; rfl, rfl⟩
  · rw [decide_eq_false e1] at h1 HM
    obtain ⟨z, hz⟩ : ∃ z, decide (t = [98]) = z := ⟨_, rfl⟩
    rw [hz] at h2 HM
    clear e1 hz
    go_enter Try.func10, Try.ntmps10
    go_wp2
    go_ret
    exact ⟨by rw [HM.out]; simp, rfl⟩
theorem srmade_is (w : World) : SrMade w (.func (.func 10) #[] #[]) Sr.made :=
  ⟨_, _, rfl, fun _ _ => rfl, fun t w' ht _ => by
    have := srmade_any t w' ht.1
    refine (show Calls Try.prog 10 (#[.string (str t)] ++ #[]) w' _ from by simpa using this).mono ?_
    rintro e w'' ⟨he, rfl⟩
    exact ⟨he, Below.refl _ _⟩⟩
end Go.Proofs.Ytoloidfkpfdboaa
