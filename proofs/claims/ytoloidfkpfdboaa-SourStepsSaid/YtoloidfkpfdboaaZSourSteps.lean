/- SourSteps: each step does one file call at most; behind the last nothing is done any more. -/
import Derived.Test.YtoloidfkpfdboaaZSourOut
import Derived.Test.YtoloidfkpfdboaaZSourAwake
import Derived.Deep.LoopGhost
namespace Go.Proofs.Ytoloidfkpfdboaa
set_option maxRecDepth 100000
open Go.ChangeShapes Go.WideShapes Go.ChangeAt Go.RowKit Go.ChangeMaps
open Sf

namespace Sr
def stL (n : Nat) : List (List Nat) := (List.range n).map fun i => [112 + i]
theorem stL_len (n : Nat) : (stL n).length = n := by simp [stL]
theorem stL_at {n i : Nat} (h : i < n) : (stL n).getD i [] = [112 + i] := by simp [stL, List.getD_eq_getElem?_getD, h]
theorem stL_next (n : Nat) : stL n ++ [[112 + n]] = stL (n + 1) := by simp [stL, List.range_succ]
theorem st_file {i : Nat} (h : i < 8) : Nm.file [112 + i] = true := by
  have h8 : i = 0 ∨ i = 1 ∨ i = 2 ∨ i = 3 ∨ i = 4 ∨ i = 5 ∨ i = 6 ∨ i = 7 := by omega
  rcases h8 with rfl | rfl | rfl | rfl | rfl | rfl | rfl | rfl <;> decide +kernel
theorem st_nice {i : Nat} (h : i < 8) : Nice [112 + i] := ⟨fun c hc => by
  have : c = 112 + i := by simpa using hc
  omega, by simp⟩
theorem stL_mem {n : Nat} {t : List Nat} (h : t ∈ stL n) : ∃ i, i < n ∧ t = [112 + i] := by
  obtain ⟨i, hi, rfl⟩ := List.mem_map.1 h
  exact ⟨i, List.mem_range.1 hi, rfl⟩
theorem stL_nice {n : Nat} (hn : n ≤ 8) : ∀ t ∈ stL n, (∀ c ∈ t, c < 256) ∧ t.length ≤ 1048576 := fun t ht => by
  obtain ⟨i, hi, e⟩ := stL_mem ht
  have h : Nice t := by rw [e]; exact st_nice (i := i) (by omega)
  exact h
theorem stL_few {n : Nat} (hn : n ≤ 8) : (stL n).length ≤ 1000000 := by rw [stL_len]; omega
theorem st_md (i : Nat) : made [112 + i] = false := by
  unfold made
  rw [decide_eq_false (by simp; omega), decide_eq_false (by simp; omega)]
  rfl
/-- The files as they are laid. -/
structure St (s : S) (k : Nat) : Prop where
  get : ∀ i, i < k → Sf.get s.l [112 + i] = some ⟨[112 + i], [i], i + 1⟩
  next : s.next = k
  used : used s.l ≤ k
  room : s.room = 10000
  good : Sf.Good s
theorem st_begin : St (new 10000) 0 := ⟨fun i hi => by omega, rfl, Nat.le_refl _, rfl, good_new _⟩
theorem St.put {s : S} {k : Nat} (h : St s k) (hk : k < 8) : putS s [112 + k] [k] = (wr s [112 + k] [k], k + 1, 0) ∧ St (wr s [112 + k] [k]) (k + 1) := by
  have hu := h.used
  refine ⟨?_, fun i hi => ?_, by show s.next + 1 = _; rw [h.next], ?_, h.room, good_wr h.good (st_nice hk).1 (st_nice hk).2⟩
  · rw [sput_ok _ _ (st_file hk) (by rw [h.room]; simp; omega), h.next]
  · rw [sget_wr]
    by_cases e : i = k
    · subst e
      rw [if_pos rfl, h.next]
    · rw [if_neg (by simp; omega)]
      exact h.get i (by omega)
  · have := sused_wr h.good.1 [112 + k] [k]
    simp at this
    omega
/-- The files ahead of step j: n names, one more write of the last one ahead of step a, where a is below n. -/
def stF (s : S) (n a : Nat) (j : Nat) : S := if a < n ∧ a ≤ j then wr s [112 + (n - 1)] [99] else s
theorem stF_hist {s : S} {n a : Nat} (h : St s n) (hn : n < 8) : Hist (stF s n a) (n + 1) := by
  refine ⟨fun j => ?_, fun j t => ?_⟩
  · unfold stF
    by_cases h1 : a < n ∧ a ≤ j
    · rw [if_pos h1, if_pos ⟨h1.1, by omega⟩]
      exact .inl rfl
    · rw [if_neg h1]
      by_cases h2 : a < n ∧ a ≤ j + 1
      · rw [if_pos h2]
        exact .inr ⟨by omega, _, _, rfl⟩
      · rw [if_neg h2]
        exact .inl rfl
  · have hle : ∀ {s : S}, Sf.Good s → Sf.stamp s.l t ≤ s.next := fun {s} hg => by
      unfold Sf.stamp
      rcases e : Sf.get s.l t with _ | x
      · exact Nat.zero_le _
      · exact (hg.2.1 x (Sf.get_some e).1).2.2.2
    unfold stF
    split
    · have hn0 : n - 1 < 8 := by omega
      exact hle (good_wr h.good (st_nice hn0).1 (st_nice hn0).2)
    · exact hle h.good
theorem stF_get {s : S} {n a i : Nat} (h : St s n) (hi : i < n) (j : Nat) : Sf.get (stF s n a j).l [112 + i] = if a < n ∧ a ≤ j ∧ i = n - 1 then some ⟨[112 + i], [99], n + 1⟩ else some ⟨[112 + i], [i], i + 1⟩ := by
  unfold stF
  by_cases h1 : a < n ∧ a ≤ j
  · rw [if_pos h1, sget_wr]
    by_cases h2 : i = n - 1
    · subst h2
      rw [if_pos rfl, if_pos ⟨h1.1, h1.2, rfl⟩, h.next]
    · rw [if_neg (by simp; omega), if_neg (by omega)]
      exact h.get i hi
  · rw [if_neg h1, if_neg (by omega)]
    exact h.get i hi
theorem stF_there {s : S} {n a : Nat} (h : St s n) (hn : n < 8) : There made (stF s n a) (stL n) := by
  intro j t ht
  obtain ⟨i, hi, rfl⟩ := stL_mem ht
  refine ⟨st_file (by omega), ?_⟩
  rw [stF_get h hi]
  split
  · exact ⟨_, _, [99], rfl, by unfold value; rw [st_md]; rfl, by simp⟩
  · exact ⟨_, _, [i], rfl, by unfold value; rw [st_md]; rfl, by simp⟩
theorem stF_same {s : S} {n a : Nat} (h : St s n) : ∀ k, k < (stL n).length → T (stF s n a) ((stL n).length + k) ((stL n).getD k []) = T (stF s n a) k ((stL n).getD k []) := by
  intro k hk
  rw [stL_len] at hk ⊢
  rw [stL_at hk]
  have e : Sf.get (stF s n a (n + k)).l [112 + k] = Sf.get (stF s n a k).l [112 + k] := by
    rw [stF_get h hk, stF_get h hk]
    by_cases h1 : a < n ∧ a ≤ k ∧ k = n - 1
    · rw [if_pos h1, if_pos ⟨h1.1, by omega, h1.2.2⟩]
    · rw [if_neg h1]
      by_cases h2 : a < n ∧ a ≤ n + k ∧ k = n - 1
      · exfalso
        omega
      · rw [if_neg h2]
  unfold T Sf.stamp
  rw [e]
/-- The files at the head of round j. -/
def stH (s : S) (n a j : Nat) : S := if a < n ∧ a < j then wr s [112 + (n - 1)] [99] else s
theorem stH_next (s : S) (n a j : Nat) : stH s n a (j + 1) = stF s n a j := by
  unfold stH stF
  by_cases h : a < n ∧ a < j + 1
  · rw [if_pos h, if_pos ⟨h.1, by omega⟩]
  · rw [if_neg h, if_neg (by omega)]
theorem stH_used {s : S} {n : Nat} (h : St s n) (hn : n < 8) (a j : Nat) : used (stH s n a j).l ≤ 10 ∧ (stH s n a j).next ≤ 10 ∧ (stH s n a j).room = 10000 ∧ used (stF s n a j).l ≤ 10 := by
  have h1 := h.used
  have h2 := sused_wr h.good.1 [112 + (n - 1)] [99]
  have h3 := h.next
  have h4 := h.room
  simp at h2
  refine ⟨?_, ?_, ?_, ?_⟩ <;> (first | unfold stH | unfold stF) <;> split <;> first | omega | (show s.next + 1 ≤ 10; omega) | exact h4
/-- A round of the law: it goes on, or it is all over. -/
def StPh (s : S) (n a D i : Nat) (x : R) : Prop := (i ≤ D ∧ Pass made (stF s n a) (stL n) (n + 1) (i - 1) 0 x ∧ Here x) ∨ (i = D + 1 ∧ x.told = 1 ∧ x.vals.length = n ∧ x.stamps.length = n)
theorem stPh_begin {s : S} {n a D : Nat} (hD : 1 ≤ D) : StPh s n a D 1 ⟨stL n, [], [], 0, 0⟩ := .inl ⟨hD, pass_begin _ _ _ _, here_begin _⟩
theorem StPh.step {s : S} {n a D i : Nat} {x : R} (h : StPh s n a D i x) (hs : St s n) (hn : n < 8) (hD : (n = 0 ∧ D = 1) ∨ (0 < n ∧ D = 2 * n)) (hi : i ≤ D) (h1 : 1 ≤ i) :
    Here x ∧ ∃ x', Sr.step made (stF s n a (i - 1)) x = (x', if i = D then 1 else 0) ∧ StPh s n a D (i + 1) x' := by
  rcases h with ⟨_, hp, hh⟩ | ⟨e, _⟩
  · refine ⟨hh, ?_⟩
    rcases hD with ⟨rfl, rfl⟩ | ⟨h0, rfl⟩
    · obtain rfl : i = 1 := by omega
      have hv : x.vals.length = 0 := Nat.le_zero.1 hp.most
      refine ⟨{ x with told := 1 }, by rw [if_pos rfl]; exact step_nil hp.told hp.names, .inr ⟨rfl, rfl, hv, ?_⟩⟩
      show x.stamps.length = 0
      rw [hp.same, hv]
    · have hon := hp.on (stF_there hs hn) (stF_same hs) (by rw [stL_len]; exact h0)
      rw [stL_len] at hon
      by_cases hlt : i = 2 * n
      · obtain ⟨x', e1, e2, e3, e4⟩ := hon.2 (by omega)
        exact ⟨x', by rw [if_pos hlt]; exact e1, .inr ⟨by omega, e2, e3, e4⟩⟩
      · obtain ⟨x', e1, e2⟩ := hon.1 (by omega)
        refine ⟨x', by rw [if_neg hlt]; exact e1, .inl ⟨by omega, ?_, ?_⟩⟩
        · rw [show i + 1 - 1 = i - 1 + 1 by omega]
          exact e2
        · have := hh.step made (stF s n a (i - 1))
          rw [e1] at this
          exact this
  · omega
theorem stF_write {s : S} {n a i : Nat} (h : St s n) (hn : n < 8) (he : i - 1 = a) (ha : a < n) : putS (stH s n a (i - 1)) [112 + (n - 1)] [99] = (stF s n a (i - 1), n + 1, 0) := by
  unfold stH stF
  rw [if_neg (by omega), if_pos ⟨ha, by omega⟩]
  have hu := h.used
  rw [sput_ok _ _ (st_file (by omega)) (by rw [h.room]; simp; omega), h.next]
theorem stF_not {s : S} {n a i : Nat} (he : ¬ (i - 1 = a ∧ a < n)) : stH s n a (i - 1) = stF s n a (i - 1) := by
  unfold stH stF
  by_cases h : a < n ∧ a < i - 1
  · rw [if_pos h, if_pos ⟨h.1, by omega⟩]
  · rw [if_neg h, if_neg (by omega)]
theorem stH_head {s : S} {n a i : Nat} (hi : 1 ≤ i) : stH s n a (i + 1 - 1) = stF s n a (i - 1) := by
  rw [show i + 1 - 1 = i - 1 + 1 by omega]
  exact stH_next s n a (i - 1)
end Sr
set_option maxRecDepth 100000 in
set_option maxHeartbeats 8000000 in
theorem srsteps_any (nn aa : Int) (w : World) : Calls Try.prog 3 #[.int .i64 nn, .int .i64 aa] w fun e w' => e = .returned (.bool true) ∧ Below w.heap.size w w' := by
  have kc := fun (w : World) (C : Array Value) (n c : Nat) => Lib.run_convert_bytes_const (P := Try.prog) w 25 5 C n c Try.underlying25 Try.underlying5
  obtain ⟨n, hn, hn7⟩ := lg_and nn 7 (by decide)
  have hn' : bits .and .i64 nn 7 = (n : Int) := hn
  obtain ⟨a, ha, ha31⟩ := lg_and aa 31 (by decide)
  have ha' : bits .and .i64 aa 31 = (a : Int) := ha
  clear hn ha
  go_enter Try.func3, Try.ntmps3
  go_wp2_with fail
  refine (fs_new 10000 w).mono ?_
  rintro e w1 ⟨p, rfl, h1⟩
  have H1 : Hid (Fk (fun _ => False) w w1 p (new 10000)) := Lib.hid h1.keep
  clear h1
  go_wp2_with fail
  go_loopg [6, 7] n (fun gg s6 s7 wr => ∃ (k : Nat) (s : S) (K : Nat → Prop), k ≤ n ∧ n - k ≤ gg ∧ s7 = .int .i64 (k : Int) ∧ Hid (Sr.St s k) ∧ Hid (Fk K w wr p s) ∧ Hid (OwnT wr w.heap.size s6 (Sr.stL k)) ∧ Hid (∀ j, s6.ownBlock = some j → K j))
  case atStart => exact ⟨0, _, _, by omega, by omega, rfl, Lib.hid Sr.st_begin, H1, Lib.hid (ownT_none _ _), Lib.hid fun j hj => by simp [Value.ownBlock] at hj⟩
  case round =>
    clear H1
    obtain ⟨k, s, K, hk, hgg, rfl, HS, HF, HO, HK⟩ := hrel
    obtain ⟨wz, rfl⟩ : ∃ wx : World, wx = wr := ⟨_, rfl⟩
    by_cases hlt : k < n
    · have hltI : (k : Int) < (n : Int) := by omega
      have kt := run_text (bytes_one wz (112 + (k : Int)) (112 + k) 5 (0, 0) (by omega) (by omega))
      obtain ⟨W1, hW1⟩ : ∃ W, wz.alloc (.cells #[.int .u8 (112 + (k : Int))] 5) = W := ⟨_, rfl⟩
      have hb1 : Below wz.heap.size wz W1 := by rw [← hW1]; exact (Below.refl _ _).alloc (Nat.le_refl _) _
      have hb2 : Below W1.heap.size W1 (W1.alloc (.cells #[.string (str [112 + k])] 9)) := (Below.refl _ _).alloc (Nat.le_refl _) _
      have hb12 := hb1.trans (hb2.mono hb1.size)
      obtain ⟨v3, w3, hr3, ho3, hg3, hat3⟩ := run_append_srT (T := 24) (ty := 24) Try.underlying24 (HO.out.under hb12) (srT_lit W1 W1.heap.size rfl [[112 + k]] 1 rfl 9 (0, 0)) (by rw [Sr.stL_len]; simp; omega) (Nat.le_trans HF.out.fs.below.size hb12.size)
      rw [Sr.stL_next] at ho3
      obtain ⟨K3, hK3⟩ : ∃ K' : Nat → Prop, (fun j => K j ∨ ((W1.alloc (.cells #[.string (str [112 + k])] 9)).heap.size ≤ j ∧ j < w3.heap.size)) = K' := ⟨_, rfl⟩
      have hf3 := (HF.out.under hb12).grownNew (fun b hb => ⟨HK.out b hb, (HO.out.lt b hb).1⟩) hg3
      have HKV : Hid (∀ j, v3.ownBlock = some j → K3 j) := Lib.hid fun j hj => by
        rw [← hK3]
        rcases hat3 with h | h
        · exact .inl (HK.out j (h ▸ hj))
        · have := (ho3.lt j hj).2
          rw [h] at hj
          injection hj with hj
          exact .inr ⟨by omega, this⟩
      rw [hK3] at hf3
      have hput := HS.out.put (show k < 8 by omega)
      have HF3 := Lib.hid hf3
      have HO3 := Lib.hid ho3
      have HR3 := Lib.hid hr3
      have HP := Lib.hid hput.1
      have HS2 := Lib.hid hput.2
      have HU : Hid (s.next ≤ 1073741824 ∧ used s.l ≤ 8) := Lib.hid (by have := HS.out.next; have := HS.out.used; omega)
      have HW1 := Lib.hid hW1
      clear hb1 hb2 hb12 hr3 ho3 hg3 hat3 hK3 hf3 hput HS HF HO HK hW1
      go_upto_region 10 with fail
      rw [HW1.out]
      clear kt HW1
      obtain ⟨A3, c3, rfl⟩ := ownT_sl HO3.out
      obtain ⟨n3, hn3⟩ : ∃ n3, (Sr.stL (k + 1)).length = n3 := ⟨_, rfl⟩
      rw [hn3] at HR3 HO3 HKV
      clear hn3
      go_upto_region 11 with (first
        | (at_builtin; refine wpList_append_eq rfl _ _ 24 rfl _ _ rfl rfl HR3.out ?_)
        | fail)
      have hba : ∀ o, Below w3.heap.size w3 (w3.alloc o) := fun o => (Below.refl _ _).alloc (Nat.le_refl _) o
      have HBA := Lib.hid hba
      clear hba
      go_wp2_with fail
      refine (fk_put [112 + k] [k] _ (HF3.out.under (HBA.out _)) (Sr.st_nice (by omega)) (bytes_one w3 (k : Int) k 5 (0, 0) rfl (by omega)) HU.out.1 (by have := HU.out.2; simp; omega)).mono ?_
      rw [HP.out]
      rintro e w5 ⟨rfl, hf5, hk5⟩
      have HF5 := Lib.hid hf5
      have HO5 : Hid (OwnT w5 w.heap.size (.slice A3 n3 c3) (Sr.stL (k + 1))) := Lib.hid (ownsRow_block (HO3.out.under (HBA.out _)) fun j hj => hk5.2 j (HKV.out j hj))
      clear hf5 hk5 HF3 HO3 HR3 HBA
      go_wp2
      go_roundg (n - (k + 1))
      case rel => exact ⟨k + 1, _, _, by omega, by omega, by go_num, HS2, HF5, HO5, HKV⟩
      case measure => omega
    · obtain rfl : k = n := by omega
      clear hlt hk hgg kc
      have HOT := HO.out.srT
      obtain ⟨Al, cl, rfl⟩ := ownT_sl HO.out
      rw [Sr.stL_len] at HO HK HOT ⊢
      have HSR := Lib.hid HOT
      clear HOT
      have HMD := Lib.hid (fun W => srmade_is W)
      have CN := Lib.hid (srnew_any HF.out HSR.out (Sr.stL_nice (show k ≤ 8 by omega)) (Sr.stL_few (show k ≤ 8 by omega)) (.func 10) #[] #[])
      go_wp2_with fail
      refine CN.out.mono ?_
      rintro e w4 ⟨g, rfl, hgs, hs4, hb4⟩
      obtain ⟨K4, hK4⟩ : ∃ K', (fun j => K j ∨ j = g) = K' := ⟨_, rfl⟩
      have HKG : Hid (K4 g ∧ w.heap.size ≤ g ∧ ∀ j, (Value.slice Al k cl).ownBlock = some j → K4 j ∧ j ≠ g) := Lib.hid (by
        rw [← hK4]
        exact ⟨.inr rfl, Nat.le_trans HF.out.fs.below.size hgs, fun j hj => ⟨.inl (HK.out j hj), by have := (HO.out.lt j hj).2; omega⟩⟩)
      rw [hK4] at hs4
      have H4 := Lib.hid hs4
      have HO4 := Lib.hid (HO.out.under hb4)
      clear hs4 hgs hb4 hK4 HSR HF HO HK
      go_wp2_with fail
      obtain ⟨D, hD⟩ : ∃ D : Nat, max (2 * (k : Int)) 1 = (D : Int) := ⟨(max (2 * (k : Int)) 1).toNat, by omega⟩
      have HD : Hid ((k = 0 ∧ D = 1) ∨ (0 < k ∧ D = 2 * k)) := Lib.hid (by omega)
      rw [hD]
      have HPH := Lib.hid (Sr.stPh_begin (s := s) (n := k) (a := a) (D := D) (by omega))
      have H40 : Hid (SrAt K4 w w4 p g (Sr.stH s k a 0) (.func (.func 10) #[] #[]) ⟨Sr.stL k, [], [], 0, 0⟩) := Lib.hid (by
        unfold Sr.stH
        rw [if_neg (by omega)]
        exact H4.out)
      clear hD H4
      go_loopg [11] D (fun gg s11 wr => ∃ (i : Nat) (x : Sr.R), 1 ≤ i ∧ i ≤ D + 1 ∧ D + 1 - i ≤ gg ∧ s11 = .int .i64 (i : Int) ∧ Hid (Sr.StPh s k a D i x) ∧ Hid (SrAt K4 w wr p g (Sr.stH s k a (i - 1)) (.func (.func 10) #[] #[]) x) ∧ Hid (OwnT wr w.heap.size (.slice Al k cl) (Sr.stL k)))
      case atStart => exact ⟨1, _, by omega, by omega, by omega, rfl, HPH, H40, HO4⟩
      case round =>
        clear HPH H40 HO4
        obtain ⟨i, x, hi1, hi, hgg, rfl, HPH, HSA, HO⟩ := hrel
        obtain ⟨wy, rfl⟩ : ∃ wx : World, wx = wr := ⟨_, rfl⟩
        have hDb : D ≤ 14 := by have := HD.out; omega
        by_cases hlt : i ≤ D
        · have hltI : (i : Int) ≤ (D : Int) := by omega
          obtain ⟨hh, x2, hst, hph2⟩ := HPH.out.step HS.out (by omega) HD.out hlt hi1
          have HPH2 := Lib.hid hph2
          have C : Hid (∀ W, SrAt K4 w W p g (Sr.stF s k a (i - 1)) (.func (.func 10) #[] #[]) x → Calls Try.prog 11 #[.pointer (some ⟨g, 0, none⟩), .pointer (some ⟨p, 0, none⟩)] W (SrIs K4 w W p g (Sr.stF s k a (i - 1)) (.func (.func 10) #[] #[]) (x2, if i = D then 1 else 0))) := Lib.hid fun W hW => by
            rw [← hst]
            exact srstep_any hW hh HKG.out.1 HKG.out.2.1 (HMD.out W) (by have := (Sr.stH_used HS.out (show k < 8 by omega) a (i - 1)).2.2.2; omega)
          obtain ⟨kk, hkk⟩ : ∃ kk : Nat, (if i = D then 1 else 0) = kk := ⟨_, rfl⟩
          rw [hkk] at C
          have HEND : Hid ((kk = 1 ∧ i = D) ∨ (kk = 0 ∧ i ≠ D)) := Lib.hid (by
            by_cases h : i = D
            · rw [if_pos h] at hkk
              exact .inl ⟨hkk.symm, h⟩
            · rw [if_neg h] at hkk
              exact .inr ⟨hkk.symm, h⟩)
          have HHD : Hid (∀ W, SrAt K4 w W p g (Sr.stF s k a (i - 1)) (.func (.func 10) #[] #[]) x2 → SrAt K4 w W p g (Sr.stH s k a (i + 1 - 1)) (.func (.func 10) #[] #[]) x2) := Lib.hid fun W hW => by
            rw [Sr.stH_head hi1]
            exact hW
          clear hh hst hph2 hkk HPH
          by_cases hwr : i - 1 = a ∧ a < k
          · have hc1 : ((i : Int) - 1 == (a : Int)) = true := by simp; omega
            have hc2 : (k : Int) > 0 := by omega
            have hc3 : (a : Int) < (k : Int) := by omega
            obtain ⟨r, hr⟩ : ∃ r : Nat, (k : Int) - 1 = (r : Int) := ⟨k - 1, by omega⟩
            have hrk : k - 1 = r := by omega
            have hr1 : (r : Int) < (k : Int) := by omega
            have hput := Sr.stF_write HS.out (show k < 8 by omega) hwr.1 hwr.2
            rw [hrk] at hput
            have HP := Lib.hid hput
            have hal := ownT_at HO.out (k := r) (by rw [Sr.stL_len]; omega)
            rw [Sr.stL_len, Sr.stL_at (show r < k by omega)] at hal
            obtain ⟨bl, c2, hae, hcell⟩ := hal
            injection hae with h1 h2 h3
            subst h1 h3
            have HU := Lib.hid (Sr.stH_used HS.out (show k < 8 by omega) a (i - 1))
            have CP : Hid (∀ vb, Bytes (wy.alloc (.cells #[.int .u8 99] 5)) vb [99] → Calls Try.prog 8 #[.pointer (some ⟨p, 0, none⟩), .string (str [112 + r]), vb] (wy.alloc (.cells #[.int .u8 99] 5)) fun e w' => e = .returned (.tuple #[.int .i64 ((k + 1 : Nat) : Int), .int .i64 ((0 : Nat) : Int)]) ∧ SrAt K4 w w' p g (Sr.stF s k a (i - 1)) (.func (.func 10) #[] #[]) x ∧ Kept K4 (wy.alloc (.cells #[.int .u8 99] 5)) w') := Lib.hid fun vb hb => by
              have := sr_put [112 + r] [99] vb (HSA.out.under ((Below.refl _ _).alloc (Nat.le_refl _) _)) HKG.out.1 (Sr.st_nice (i := r) (by omega)) hb (by have := HU.out; omega) (by have := HU.out; simp; omega)
              rw [HP.out] at this
              exact this
            have HBA : Hid (Below wy.heap.size wy (wy.alloc (.cells #[.int .u8 99] 5))) := Lib.hid ((Below.refl _ _).alloc (Nat.le_refl _) _)
            have HWR := Lib.hid hwr
            have HLT := Lib.hid hlt
            clear hput hrk hwr HSA
            go_wp2_with fail
            refine (CP.out _ (bytes_new wy _ rfl [99] _ _ (by simp) (by simp))).mono ?_
            rintro e w5 ⟨rfl, hs5, hk5⟩
            have H5 := Lib.hid hs5
            have HO5 : Hid (OwnT w5 w.heap.size (.slice (some ⟨bl, 0, none⟩) k cl) (Sr.stL k)) := Lib.hid (ownsRow_block (HO.out.under HBA.out) fun j hj => hk5.2 j (HKG.out.2.2 j hj).1)
            clear hs5 hk5 CP HO HBA hcell
            go_wp2_with fail
            refine (C.out w5 H5.out).mono ?_
            rintro e w6 ⟨rfl, hs6, hk6⟩
            have H6 := Lib.hid (HHD.out _ hs6)
            have HO6 : Hid (OwnT w6 w.heap.size (.slice (some ⟨bl, 0, none⟩) k cl) (Sr.stL k)) := Lib.hid (ownsRow_block HO5.out fun j hj => hk6.2 j (HKG.out.2.2 j hj))
            clear hs6 hk6 C
            rcases HEND.out with ⟨rfl, he⟩ | ⟨rfl, he⟩
            · have heI : ((i : Int) == (D : Int)) = true := by simp; omega
              clear he
              go_wp2
              go_roundg (D + 1 - (i + 1))
              case rel => exact ⟨i + 1, x2, by omega, by omega, by omega, by go_num, HPH2, H6, HO6⟩
              case measure => omega
            · have heI : ((i : Int) == (D : Int)) = false := by simp; omega
              clear he
              go_wp2
              go_roundg (D + 1 - (i + 1))
              case rel => exact ⟨i + 1, x2, by omega, by omega, by omega, by go_num, HPH2, H6, HO6⟩
              case measure => omega
          · have hSA : SrAt K4 w wy p g (Sr.stF s k a (i - 1)) (.func (.func 10) #[] #[]) x := by
              rw [← Sr.stF_not hwr]
              exact HSA.out
            have H5 := Lib.hid hSA
            have hor : ((i : Int) - 1 == (a : Int)) = false ∨ (((i : Int) - 1 == (a : Int)) = true ∧ ¬ ((k : Int) > 0)) ∨ (((i : Int) - 1 == (a : Int)) = true ∧ ((k : Int) > 0) ∧ ¬ ((a : Int) < (k : Int))) := by
              by_cases h1 : i - 1 = a
              · right
                have h2 : ((i : Int) - 1 == (a : Int)) = true := by simp; omega
                by_cases h3 : 0 < k
                · exact .inr ⟨h2, by omega, fun h4 => hwr ⟨h1, by omega⟩⟩
                · exact .inl ⟨h2, by omega⟩
              · left
                simp
                omega
            clear hSA HSA hwr
            rcases hor with hc1 | ⟨hc1, hc2⟩ | ⟨hc1, hc2, hc3⟩
            all_goals
              go_wp2_with fail
              refine (C.out wy H5.out).mono ?_
              rintro e w6 ⟨rfl, hs6, hk6⟩
              have H6 := Lib.hid (HHD.out _ hs6)
              have HO6 : Hid (OwnT w6 w.heap.size (.slice Al k cl) (Sr.stL k)) := Lib.hid (ownsRow_block HO.out fun j hj => hk6.2 j (HKG.out.2.2 j hj))
              clear hs6 hk6 C
              rcases HEND.out with ⟨rfl, he⟩ | ⟨rfl, he⟩
              · have heI : ((i : Int) == (D : Int)) = true := by simp; omega
                clear he
                go_wp2
                go_roundg (D + 1 - (i + 1))
                case rel => exact ⟨i + 1, x2, by omega, by omega, by omega, by go_num, HPH2, H6, HO6⟩
                case measure => omega
              · have heI : ((i : Int) == (D : Int)) = false := by simp; omega
                clear he
                go_wp2
                go_roundg (D + 1 - (i + 1))
                case rel => exact ⟨i + 1, x2, by omega, by omega, by omega, by go_num, HPH2, H6, HO6⟩
                case measure => omega
        · obtain rfl : i = D + 1 := by omega
          have HFIN : Hid (x.told = 1 ∧ x.vals.length = k ∧ x.stamps.length = k) := Lib.hid (by
            rcases HPH.out with ⟨h, _⟩ | ⟨_, h⟩
            · omega
            · exact h)
          have hltI : ¬ (((D + 1 : Nat) : Int) ≤ (D : Int)) := by omega
          have HU := Lib.hid (Sr.stH_used HS.out (show k < 8 by omega) a (D + 1 - 1))
          obtain ⟨sz, hsz⟩ : ∃ sz, Sr.stH s k a (D + 1 - 1) = sz := ⟨_, rfl⟩
          rw [hsz] at HSA HU
          have CV := Lib.hid (srvalues_any HSA.out HFIN.out.1)
          clear hsz hlt hi1 hi hgg HPH HO
          go_wp2_with fail
          refine CV.out.mono ?_
          rintro e w5 ⟨v5, us5, rfl, ho5, hb5⟩
          obtain ⟨A5, c5, rfl⟩ := ownRx_sl ho5
          obtain ⟨K5, hK5⟩ : ∃ K' : Nat → Prop, (fun j => K4 j ∨ (wy.heap.size ≤ j ∧ j < w5.heap.size)) = K' := ⟨_, rfl⟩
          have hs5 := HSA.out.grow (K' := K5) hb5 fun j hj => by
            rw [← hK5] at hj
            exact hj
          have HKG5 : Hid (K5 g) := Lib.hid (by rw [← hK5]; exact .inl HKG.out.1)
          have HV5 := Lib.hid ho5
          have HKV : Hid (∀ j, wy.heap.size ≤ j → j < w5.heap.size → K5 j) := Lib.hid fun j h1 h2 => by
            rw [← hK5]
            exact .inr ⟨h1, h2⟩
          have H5 := Lib.hid hs5
          rw [HFIN.out.2.1] at HV5 ⊢
          have kp : ({ data := #[112] } : ByteArray) = str [112 + 0] := rfl
          clear ho5 hb5 hK5 hs5 CV HSA
          go_wp2_with fail
          refine (sr_put [112 + 0] [77] _ (H5.out.under ((Below.refl _ _).alloc (Nat.le_refl _) _)) HKG5.out (Sr.st_nice (i := 0) (by omega)) (bytes_new w5 _ rfl [77] _ _ (by simp) (by simp)) (by have := HU.out; omega) (by have := HU.out; simp; omega)).mono ?_
          obtain ⟨P, hP⟩ : ∃ P, putS sz [112 + 0] [77] = P := ⟨_, rfl⟩
          have HUP : Hid (used P.1.l ≤ 274877906944) := Lib.hid (by
            have h1 := HU.out
            have h2 : used (putS sz [112 + 0] [77]).1.l ≤ used sz.l + 1 := by
              unfold putS
              split
              · split
                · have := Sr.sused_wr H5.out.fk.fs.good.1 [112 + 0] [77]
                  simpa using this
                · exact Nat.le_succ _
              · exact Nat.le_succ _
            rw [hP] at h2
            omega)
          rw [hP]
          rintro e w6 ⟨rfl, hs6, hk6⟩
          have hv6 : OwnRx w6 wy.heap.size (.slice A5 k c5) us5 x.vals := (HV5.out.under ((Below.refl _ _).alloc (Nat.le_refl _) (.cells #[.int .u8 77] 5))).blocks (fun j e => hk6.2 j (HKV.out j (World.ownsRow.lt HV5.out.2.1 j e).1 (World.ownsRow.lt HV5.out.2.1 j e).2)) fun u hu j e => by
            obtain ⟨m, hm, rfl⟩ := List.getElem_of_mem hu
            have := HV5.out.2.2.2 m (by rw [← HV5.out.1]; exact hm)
            rw [List.getD_eq_getElem?_getD, List.getElem?_eq_getElem hm] at this
            exact hk6.2 j (HKV.out j (this.lt j e).1 (this.lt j e).2)
          have H6 := Lib.hid hs6
          have HV6 := Lib.hid hv6.ownR.rows
          have CV2 := Lib.hid (srvalues_any hs6 HFIN.out.1)
          clear hs6 hk6 hv6 hP HV5 H5 HU kp
          go_wp2_with fail
          refine CV2.out.mono ?_
          rintro e w7 ⟨v7, us7, rfl, ho7, hb7⟩
          have HR7 := Lib.hid ho7.ownR.rows
          have HV7 := Lib.hid (HV6.out.under hb7)
          have H7 := Lib.hid (H6.out.under hb7)
          clear ho7 hb7 CV2 H6 HV6
          go_wp2_with fail
          refine (samerows_any _ _ x.vals x.vals _ HV7.out HR7.out).mono ?_
          rw [decide_eq_true rfl]
          rintro e w8 ⟨rfl, m8, hw8⟩
          have H8 := Lib.hid (H7.out.under (show Below w7.heap.size w7 w8 by rw [hw8]; exact sr_drewN w7 m8))
          have CST := Lib.hid (srstamps_any H8.out HFIN.out.1)
          clear hw8 HV7 HR7 H7
          go_wp2_with fail
          refine CST.out.mono ?_
          rintro e w9 ⟨v9, rfl, ho9, hb9⟩
          obtain ⟨A9, c9, rfl⟩ := ownI_sl ho9
          have H9 := Lib.hid (H8.out.under hb9)
          rw [HFIN.out.2.2]
          have CS := srstep_any H9.out (fun h0 => by have := HFIN.out.1; omega) HKG5.out HKG.out.2.1 (HMD.out w9) HUP.out
          rw [Sr.step_told (by have := HFIN.out.1; omega), HFIN.out.1] at CS
          have CS' := Lib.hid CS
          clear ho9 hb9 H8 CST CS
          go_wp2_with fail
          refine CS'.out.mono ?_
          rintro e w10 ⟨rfl, hs10, -⟩
          have HB10 := Lib.hid hs10.fk.fs.below
          clear hs10 CS' H9
          go_wp2_with fail
          refine (srawake_any w10).mono ?_
          rintro e w11 ⟨rfl, hb11⟩
          have H11 := Lib.hid (HB10.out.trans (hb11.mono HB10.out.size))
          clear hb11
          go_wp2
          go_ret
          exact ⟨rfl, H11.out⟩
end Go.Proofs.Ytoloidfkpfdboaa
