/- What package reco answers: a commit's bytes. -/
import Derived.Test.YtfheaognfocofaaZReco
import Derived.Test.YtfheaognfocofaaZ04
namespace Go.Proofs.Ytfheaognfocofaa
set_option maxRecDepth 100000
open Go.ChangeShapes Go.WideShapes Go.ChangeAt Go.RowKit

set_option maxHeartbeats 1000000 in
theorem number_any (n : Int) (w : World) : Calls Try.prog 44 #[.int .i64 n] w fun e w' => e = .returned (.bool (Rc.okN n)) ∧ w = w' := by
  go_enter Try.func44, Try.ntmps44
  by_cases h1 : 0 ≤ n
  · by_cases h2 : n ≤ 1099511627776
    · have HE : Hid (Rc.okN n = true) := Lib.hid (by simp [Rc.okN, h1, h2])
      go_wp2
      go_ret
      exact ⟨by rw [HE.out]; rfl, rfl⟩
    · have HE : Hid (Rc.okN n = false) := Lib.hid (by simp [Rc.okN, h2])
      go_wp2
      go_ret
      exact ⟨by rw [HE.out]; rfl, rfl⟩
  · have HE : Hid (Rc.okN n = false) := Lib.hid (by simp [Rc.okN, h1])
    go_wp2
    go_ret
    exact ⟨by rw [HE.out]; rfl, rfl⟩

set_option maxRecDepth 100000 in
set_option maxHeartbeats 8000000 in
theorem rdone_is (t p : List Nat) (who inc : Int) (pv : Value) (l : List Nat) (w : World) (hp : Bytes w pv p) (ht : ∀ c ∈ t, c < 256) (hm : t.length ≤ 1000000) (hpm : p.length ≤ 1000000) (hl : Rc.done t p who inc = l) :
    Calls Try.prog 27 #[doneV (str t) who inc pv] w (Made w.heap.size l w) := by
  have HL := Lib.hid hl
  obtain ⟨_, _, Ap, cp, rfl, hcp, _⟩ := hp.parts
  obtain ⟨np, hnp⟩ : ∃ n, p.length = n := ⟨_, rfl⟩
  have HNP := Lib.hid hnp
  obtain ⟨E1, hE1⟩ : ∃ E, [] ++ Cd.enc t.length ++ t = E := ⟨_, rfl⟩
  obtain ⟨E2, hE2⟩ : ∃ E, E1 ++ Cd.enc p.length ++ p = E := ⟨_, rfl⟩
  obtain ⟨E3, hE3⟩ : ∃ E, E2 ++ Cd.enc (Cd.held who) = E := ⟨_, rfl⟩
  have z1 : E1.length = t.length + 6 := by rw [← hE1]; simp [Cd.enc_length]; omega
  have z2 : E2.length = t.length + p.length + 12 := by rw [← hE2, List.length_append, List.length_append, z1]; simp [Cd.enc_length]; omega
  have z3 : E3.length = t.length + p.length + 18 := by rw [← hE3, List.length_append, z2]; simp [Cd.enc_length]
  have HIF : Hid (Rc.okD t p who inc = true → E3 ++ Cd.enc (Cd.held inc) = l) := Lib.hid fun h => by
    rw [← HL.out, Rc.done, if_pos h, Rc.dbody, ← hE3, ← hE2, ← hE1]
  have HNO : Hid (Rc.okD t p who inc = false → l = []) := Lib.hid fun h => by rw [← HL.out, Rc.done_not h]
  obtain ⟨k, hk⟩ : ∃ k, Nm.ok t = k := ⟨_, rfl⟩
  have HOK : Hid (Rc.okD t p who inc = (k && decide (np ≤ 4000) && Rc.okN who && Rc.okN inc)) := Lib.hid (by rw [Rc.okD, hk, hnp])
  have C0 : Hid (∀ W, Calls Try.prog 43 #[.string (str t)] W fun e w' => e = .returned (.bool k) ∧ W = w') := Lib.hid fun W => by rw [← hk]; exact nok_any t W ht (by omega)
  have C1 : Hid (∀ W u, Bytes W u t → Calls Try.prog 45 #[.slice none 0 0, u] W (Made W.heap.size E1 W)) := Lib.hid fun W u h => made_calls (bytes_any _ u [] t W (bytes_none _) h (by simp) (by omega)) hE1
  have C2 : Hid (∀ W u y, Bytes W u E1 → Bytes W y p → Calls Try.prog 45 #[u, y] W (Made W.heap.size E2 W)) := Lib.hid fun W u y h h' => made_calls (bytes_any u y E1 p W h h' (by omega) (by omega)) hE2
  have C3 : Hid (∀ W u, Bytes W u E2 → Calls Try.prog 46 #[u, .int .i64 who] W (Made W.heap.size E3 W)) := Lib.hid fun W u h => made_calls (num_any u E2 who W h (by omega)) hE3
  have C4 : Hid (∀ W u, Bytes W u E3 → Rc.okD t p who inc = true → Calls Try.prog 46 #[u, .int .i64 inc] W (Made W.heap.size l W)) := Lib.hid fun W u h h' => made_calls (num_any u E3 inc W h (by omega)) (HIF.out h')
  have HCV : Hid (∀ W : World, ∃ cap mz, (convert 9 28 (.string (str t))).run Try.prog W = .ok (.slice (some ⟨W.heap.size, 0, none⟩) t.length cap) ((W.alloc (.cells (bytesRow (str t) cap) 5 mz)).drew) ∧ Bytes (W.alloc (.cells (bytesRow (str t) cap) 5 mz)).drew (.slice (some ⟨W.heap.size, 0, none⟩) t.length cap) t) := Lib.hid fun W => conv_bytes t W ht hm
  rw [hnp] at hp hcp hpm ⊢
  have HP := Lib.hid hp
  clear hp hl hnp hE1 hE2 hE3 z1 z2 z3 hk HL HIF
  obtain ⟨nt, hnt⟩ : ∃ n, t.length = n := ⟨_, rfl⟩
  rw [hnt] at HCV
  obtain ⟨s, hs⟩ : ∃ s, str t = s := ⟨_, rfl⟩
  rw [hs] at C0 HCV ⊢
  clear hs hnt hm ht
  obtain ⟨w1, hw1⟩ : ∃ w1, w.alloc (.cells #[.string s, .int .i64 who, .int .i64 inc, .slice Ap np cp] 39) = w1 := ⟨_, rfl⟩
  obtain ⟨g, hg⟩ : ∃ g, w.heap.size = g := ⟨_, rfl⟩
  have HB1 : Hid (Below w.heap.size w w1) := Lib.hid (by rw [← hw1]; exact (Below.refl _ _).alloc (Nat.le_refl _) _)
  have HBK : Hid (Blk w1 g 39 #[.string s, .int .i64 who, .int .i64 inc, .slice Ap np cp]) := Lib.hid (by rw [← hw1, ← hg]; exact heap_alloc_new w _)
  have HP1 : Hid (Bytes w1 (.slice Ap np cp) p) := Lib.hid (by rw [← hw1]; exact HP.out.alloc _)
  have HK : Hid (∀ w', Below w1.heap.size w1 w' → w'.cell? ⟨g, 0, none⟩ = some (.string s) ∧ w'.cell? ⟨g, 1, none⟩ = some (.int .i64 who) ∧ w'.cell? ⟨g, 2, none⟩ = some (.int .i64 inc) ∧ w'.cell? ⟨g, 3, none⟩ = some (.slice Ap np cp)) := Lib.hid fun W hb => by
    have k := HBK.out.under hb
    exact ⟨k.at 0, k.at 1, k.at 2, k.at 3⟩
  clear HBK HP
  go_enter Try.func27, Try.ntmps27
  have k0 := HK.out w1 (Below.refl _ _)
  obtain ⟨k00, k01, k02, k03⟩ := k0
  go_wp2_with fail
  clear hw1 hg
  refine (C0.out w1).mono ?_
  rintro e w' ⟨rfl, rfl⟩
  have hnil : Made w.heap.size [] w (.returned (.slice none 0 0)) w1 := ⟨_, rfl, own_none _ _, HB1.out⟩
  have HNIL := Lib.hid hnil
  clear hnil
  rcases k with _ | _
  · skip
    go_wp2
    go_ret
    rw [HNO.out (by rw [HOK.out]; simp)]
    exact HNIL.out
  by_cases hpb : 4000 < np
  · have hpI : (4000 : Int) < (np : Int) := by omega
    go_wp2
    go_ret
    rw [HNO.out (by rw [HOK.out]; simp; omega)]
    exact HNIL.out
  have hpI : ¬ (4000 : Int) < (np : Int) := by omega
  have HPD : Hid (decide (np ≤ 4000) = true) := Lib.hid (by rw [decide_eq_true_eq]; omega)
  clear hpb
  obtain ⟨k1, hk1⟩ : ∃ k, Rc.okN who = k := ⟨_, rfl⟩
  obtain ⟨k2, hk2⟩ : ∃ k, Rc.okN inc = k := ⟨_, rfl⟩
  have C5 : Hid (∀ W, Calls Try.prog 44 #[.int .i64 who] W fun e w' => e = .returned (.bool k1) ∧ W = w') := Lib.hid fun W => by rw [← hk1]; exact number_any who W
  have C6 : Hid (∀ W, Calls Try.prog 44 #[.int .i64 inc] W fun e w' => e = .returned (.bool k2) ∧ W = w') := Lib.hid fun W => by rw [← hk2]; exact number_any inc W
  rw [hk1, hk2, HPD.out] at HOK
  clear hk1 hk2
  go_wp2_with fail
  refine (C5.out w1).mono ?_
  rintro e w' ⟨rfl, rfl⟩
  rcases k1 with _ | _
  · skip
    go_wp2
    go_ret
    rw [HNO.out (by rw [HOK.out]; simp)]
    exact HNIL.out
  go_wp2_with fail
  refine (C6.out w1).mono ?_
  rintro e w' ⟨rfl, rfl⟩
  rcases k2 with _ | _
  · skip
    go_wp2
    go_ret
    rw [HNO.out (by rw [HOK.out]; simp)]
    exact HNIL.out
  have HYES : Hid (Rc.okD t p who inc = true) := Lib.hid (by rw [HOK.out]; rfl)
  go_upto_region 3 with fail
  obtain ⟨cap0, mz0, cv0, by0⟩ := HCV.out w1.drew
  have hb0 : Below w1.heap.size w1 ((w1.drew.alloc (.cells (bytesRow s cap0) 5 mz0)).drew) := (((Below.refl _ _).drew).alloc (Nat.le_refl _) _).drew
  have m0 := HK.out w1.drew (Below.refl _ _).drew
  have m1 := HK.out _ hb0
  go_region_held (fun w' => w'.cell? ⟨g, 0, none⟩ = some (.string s) ∧ w'.cell? ⟨g, 1, none⟩ = some (.int .i64 who) ∧ w'.cell? ⟨g, 2, none⟩ = some (.int .i64 inc) ∧ w'.cell? ⟨g, 3, none⟩ = some (.slice Ap np cp)) (first | exact m0 | exact m1 | exact m2 | exact m3 | go_keep)
    (first
    | (go_at_call_of 45 (Value.slice Ap np cp); refine (C2.out _ _ _ ho2.bytes ((HP1.out.under hm2))).mono ?_; rintro e w3 ⟨v3, rfl, ho3, hb3⟩; have hm3 : Below w1.heap.size w1 w3 := hm2.trans (hb3.mono hm2.size); have m3 := HK.out w3 hm3)
    | (go_at_call 45; refine (C1.out _ _ by0).mono ?_; rintro e w2 ⟨v2, rfl, ho2, hb2⟩; have hm2 : Below w1.heap.size w1 w2 := hb0.trans (hb2.mono hb0.size); have m2 := HK.out w2 hm2))
  have m4 := HK.out w3.drew hm3.drew
  go_upto_region 4 with fail
  go_region_held (fun w' => w'.cell? ⟨g, 0, none⟩ = some (.string s) ∧ w'.cell? ⟨g, 1, none⟩ = some (.int .i64 who) ∧ w'.cell? ⟨g, 2, none⟩ = some (.int .i64 inc) ∧ w'.cell? ⟨g, 3, none⟩ = some (.slice Ap np cp)) (first | exact m3 | exact m4 | exact m5 | exact m6 | go_keep)
    (first
    | (go_at_call_of 46 (Value.int .i64 who); refine (C3.out w3.drew _ (ho3.bytes.heap rfl)).mono ?_; rintro e w4 ⟨v4, rfl, ho4, hb4⟩; have hm4 : Below w1.heap.size w1 w4 := hm3.drew.trans (hb4.mono hm3.size); have m5 := HK.out w4 hm4)
    | (go_at_call_of 46 v4; refine (C4.out _ _ ho4.bytes HYES.out).mono ?_; rintro e w5 ⟨v5, rfl, ho5, hb5⟩; have hm5 : Below w1.heap.size w1 w5 := hm4.trans (hb5.mono hm4.size); have m6 := HK.out w5 hm5; have hz5 := hm4.size))
  go_wp2
  go_ret
  exact ⟨_, rfl, ho5.more (Nat.le_trans HB1.out.size hz5), HB1.out.trans (hm5.mono HB1.out.size)⟩
end Go.Proofs.Ytfheaognfocofaa
