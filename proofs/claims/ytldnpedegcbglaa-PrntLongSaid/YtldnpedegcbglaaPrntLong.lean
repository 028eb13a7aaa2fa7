/- PrntLong: as many inputs as may be, as long as may be, have a print that is one; one more, or one byte more, has none that is read. -/
import Derived.Test.YtldnpedegcbglaaPrntOwn
import Derived.Deep.RegionWith
import Derived.Deep.RegionHeld
import Derived.Test.YtldnpedegcbglaaRegion
import Derived.StillTailTactics
namespace Go.Proofs.Ytldnpedegcbglaa
set_option maxRecDepth 100000
open Go.ChangeShapes Go.WideShapes Go.ChangeAt Go.RowKit

theorem pwp_region_tail {P : Program} {id : Nat} {Q : Exit → Act → World → Prop} {a : Act} {w : World} {l : List Oper} (n : Nat) (hm : P.follows .mixedOrders = true) (hB : Region.lexTailB .any l.toArray n = true)
    (h : wpStill P l.toArray w.drew (fun a' => wpList P l.toArray Q (l.drop n) a' w.drew) (l.take n) a) : (Code.region id l.toArray true).wp P Q a w := wp_region_still_tail n hm hB h
def ones (k : Nat) : List (List Nat) := (List.range k).map fun i => [i]
theorem ones_next (k : Nat) : ones k ++ [[k]] = ones (k + 1) := by unfold ones; rw [List.range_succ, List.map_append]; rfl
theorem ones_len (k : Nat) : (ones k).length = k := by unfold ones; rw [List.length_map, List.length_range]
def longJ (n s : Nat) : List (List Nat) := ones n ++ [List.replicate s 0]
theorem longJ_len (n s : Nat) : (longJ n s).length = n + 1 := by unfold longJ; rw [List.length_append, ones_len]; rfl
theorem longJ_all {n s : Nat} {m : Nat} (hm : 1 ≤ m) (hs : s ≤ m) : ∀ x ∈ longJ n s, x.length ≤ m := by
  intro x hx
  unfold longJ at hx
  rw [List.mem_append, List.mem_singleton] at hx
  rcases hx with hx | rfl
  · unfold ones at hx
    obtain ⟨i, _, rfl⟩ := List.mem_map.1 hx
    exact hm
  · rw [List.length_replicate]
    exact hs
theorem longJ_few (n s : Nat) : Pr.few (longJ n s) = (decide (n < 8) && decide (s ≤ 256)) := by
  unfold Pr.few
  rw [longJ_len, show decide (n + 1 ≤ 8) = decide (n < 8) from rfl]
  congr 1
  by_cases h : s ≤ 256
  · rw [decide_eq_true h, List.all_eq_true]
    intro x hx
    exact decide_eq_true (longJ_all (by decide) h x hx)
  · rw [decide_eq_false h, List.all_eq_false]
    refine ⟨List.replicate s 0, by unfold longJ; simp, ?_⟩
    rw [List.length_replicate, decide_eq_false h]
    simp
theorem longJ_last (n s : Nat) : (longJ n s).getD n [] = List.replicate s 0 := by
  unfold longJ
  rw [List.getD_eq_getElem?_getD, List.getElem?_append_right (by rw [ones_len]; exact Nat.le_refl _), ones_len, Nat.sub_self]
  rfl
theorem longD_ok {n : Nat} (h : n ≤ 8) : Ac.ok [⟨2, n, []⟩] = true := by
  unfold Ac.ok Ac.okD
  have : n ≤ Ac.most 2 := by unfold Ac.most; simp; omega
  simp [this, Ac.isFirst, Ac.plainT, Ac.isText]
theorem long_run {n s : Nat} (hn : n ≤ 8) (hs : s ≤ 256) : Ac.run [⟨2, n, []⟩] (longJ n s) = some (List.replicate s 0) := by
  unfold Ac.run
  rw [longD_ok hn, if_pos rfl]
  show (match (if n < (longJ n s).length then some ((longJ n s).getD n []) else none) with | none => none | some x => if x.length ≤ 256 then Ac.go (longJ n s) [] x else none) = _
  rw [longJ_len, if_pos (by omega), longJ_last]
  show (if (List.replicate s 0).length ≤ 256 then some (List.replicate s 0) else none) = _
  rw [List.length_replicate, if_pos hs]
theorem pown_one (w : World) (base : Nat) (x : Int) (b : Nat) (h : x = (b : Int)) (hb : b < 256) (hbase : base ≤ w.heap.size) : Own (w.alloc (.cells #[.int .u8 x] 5)) base (.slice (some ⟨w.heap.size, 0, none⟩) 1 1) [b] := by
  subst h
  exact pown_new w base [b] (by simpa using hb) (show 1 ≤ maxLen by decide) hbase
theorem run_make_long (n : Nat) (h : n ≤ 1000000) (w : World) : (Instr.makeSlice 23 (.int .i64 (n : Int)) (.int .i64 (n : Int))).run Try.prog w =
    .ok (.slice (some ⟨w.heap.size, 0, none⟩) n n) (w.alloc (.cells (madeCells #[.int .u8 0] n) 5)) := by
  obtain ⟨i, hi, hz0, hz1, hz2⟩ := info_parts infoU8
  have := run_make (P := Try.prog) w 23 5 i (.int .u8 0) Try.underlying23 hi hz0 .i64 .i64 (n : Int) (n : Int) (by omega) (by omega) (by rw [hz2]; omega) (by omega)
  rw [this, hz1, show ((n : Int)).toNat = n from by omega, Nat.mul_one]
  rfl
set_option maxRecDepth 100000 in
set_option maxHeartbeats 16000000 in
theorem plong_at (a b : Int) (n s : Nat) (ha : (bits .and .i64 a 255).tmod 9 = (n : Int)) (hn : n ≤ 8) (hb : 250 + bits .and .i64 b 15 = (s : Int)) (hs0 : 250 ≤ s) (hs : s ≤ 265) (w : World) :
    Calls Try.prog 3 #[.int .i64 a, .int .i64 b] w fun e w' => e = .returned (.bool true) ∧ Below w.heap.size w w' := by
  have hnn : bits .and .i64 (n : Int) 15 = (n : Int) := by
    have : n = 0 ∨ n = 1 ∨ n = 2 ∨ n = 3 ∨ n = 4 ∨ n = 5 ∨ n = 6 ∨ n = 7 ∨ n = 8 := by omega
    rcases this with rfl | rfl | rfl | rfl | rfl | rfl | rfl | rfl | rfl <;> rfl
  have hmk := fun W => run_make_long s (by omega) W
  go_enter Try.func3, Try.ntmps3
  go_wp2_with fail
  go_loopg [5, 6] n (fun g v iv wr => ∃ k : Nat, k ≤ n ∧ n - k ≤ g ∧ iv = .int .i64 (k : Int) ∧ Hid (OwnR wr w.heap.size v (ones k)) ∧ Hid (Below w.heap.size w wr))
  case atStart => exact ⟨0, Nat.zero_le _, by omega, rfl, Lib.hid (ownR_none _ _), Lib.hid (Below.refl _ _)⟩
  case round =>
    obtain ⟨k, hk, hg, rfl, hO, hB⟩ := hrel
    obtain ⟨wz, rfl⟩ : ∃ wx : World, wx = wr := ⟨_, rfl⟩
    by_cases hlt : k < n
    · have hkI : (k : Int) < (n : Int) := by omega
      have HN1 := Lib.hid (ones_next k)
      have HL1 := Lib.hid (ones_len k)
      clear ha hb hmk hnn
      have ba : Below wz.heap.size wz ((wz.alloc (.cells #[.int .u8 (k : Int)] 5)).alloc (.cells #[.slice (some ⟨wz.heap.size, 0, none⟩) 1 1] 23)) := ((Below.refl _ _).alloc (Nat.le_refl _) _).alloc (by simp) _
      have HC1 : Hid (((wz.alloc (.cells #[.int .u8 (k : Int)] 5)).alloc (.cells #[.slice (some ⟨wz.heap.size, 0, none⟩) 1 1] 23)).cell? ⟨wz.heap.size + 1, 0, none⟩ = some (.slice (some ⟨wz.heap.size, 0, none⟩) 1 1)) := Lib.hid (by simp)
      have HU1 : Hid (Own ((wz.alloc (.cells #[.int .u8 (k : Int)] 5)).alloc (.cells #[.slice (some ⟨wz.heap.size, 0, none⟩) 1 1] 23)) w.heap.size (.slice (some ⟨wz.heap.size, 0, none⟩) 1 1) [k]) := Lib.hid ((pown_one wz w.heap.size (k : Int) k rfl (by omega) hB.out.size).alloc _)
      have HO1 := Lib.hid (hO.out.under ba)
      have HB1 := Lib.hid (hB.out.trans (ba.mono hB.out.size))
      clear ba
      go_wp2_with (at_builtin; refine wpList_append_row rfl _ _ rfl w.heap.size (wz.heap.size + 1) _ (.slice (some ⟨wz.heap.size, 0, none⟩) 1 1) (ones k) [k] rfl HO1.out rfl HU1.out HC1.out (by rw [HL1.out]; omega) HB1.out.size _ HN1.out ?_)
      rintro u' w' ⟨hO', _, _, hb'⟩
      have HO' := Lib.hid hO'
      have HB' := Lib.hid (HB1.out.trans hb')
      clear hO' hb' hO hB HC1 HU1 HO1 HB1
      go_wp2
      go_roundg (n - (k + 1))
      case measure => omega
      case rel => exact ⟨k + 1, hlt, by omega, by go_num, HO', HB'⟩
    · obtain rfl : k = n := by omega
      have HLJ := Lib.hid (longJ_len k s)
      have HL1 := Lib.hid (ones_len k)
      have HFW := Lib.hid (longJ_few k s)
      clear ha hb hlt hg
      have ba : Below wz.heap.size wz ((wz.alloc (.cells (madeCells #[.int .u8 0] s) 5)).alloc (.cells #[.slice (some ⟨wz.heap.size, 0, none⟩) s s] 23)) := ((Below.refl _ _).alloc (Nat.le_refl _) _).alloc (by simp) _
      have HC1 : Hid (((wz.alloc (.cells (madeCells #[.int .u8 0] s) 5)).alloc (.cells #[.slice (some ⟨wz.heap.size, 0, none⟩) s s] 23)).cell? ⟨wz.heap.size + 1, 0, none⟩ = some (.slice (some ⟨wz.heap.size, 0, none⟩) s s)) := Lib.hid (by simp)
      have HU1 : Hid (Own ((wz.alloc (.cells (madeCells #[.int .u8 0] s) 5)).alloc (.cells #[.slice (some ⟨wz.heap.size, 0, none⟩) s s] 23)) w.heap.size (.slice (some ⟨wz.heap.size, 0, none⟩) s s) (List.replicate s 0)) := Lib.hid ((pown_zeros wz w.heap.size s (by omega) hB.out.size).alloc _)
      have HO1 := Lib.hid (hO.out.under ba)
      have HB1 := Lib.hid (hB.out.trans (ba.mono hB.out.size))
      clear ba hO hB
      go_wp2_with (at_builtin; refine wpList_append_row rfl _ _ rfl w.heap.size (wz.heap.size + 1) _ (.slice (some ⟨wz.heap.size, 0, none⟩) s s) (ones k) (List.replicate s 0) rfl HO1.out rfl HU1.out HC1.out (by rw [HL1.out]; omega) HB1.out.size (longJ k s) rfl ?_)
      rintro v2 w2 ⟨hO', _, _, hb'⟩
      have HJ2 := Lib.hid hO'
      have HB2 := Lib.hid (HB1.out.trans hb')
      clear hO' hb' HC1 HU1 HO1 HB1 hmk
      have HA3 : Hid (OwnD (w2.alloc (.cells #[.int .i64 2, .int .i64 (k : Int), .string ⟨#[]⟩] 26)) 0 (.slice (some ⟨w2.heap.size, 0, none⟩) 1 1) [⟨2, k, []⟩]) := Lib.hid (ownD_lit w2 0 [⟨2, k, []⟩] _ 1 rfl rfl (Nat.zero_le _) (by simp))
      have HB3 : Hid (Below w2.heap.size w2 (w2.alloc (.cells #[.int .i64 2, .int .i64 (k : Int), .string ⟨#[]⟩] 26))) := Lib.hid ((Below.refl _ _).alloc (Nat.le_refl _) _)
      have HOK : Hid (Ac.ok [⟨2, k, []⟩] = true) := Lib.hid (longD_ok hn)
      have HALL : Hid (∀ x ∈ longJ k s, x.length ≤ 265) := Lib.hid (longJ_all (by decide) hs)
      obtain ⟨P, hP⟩ : ∃ P, Pr.print (Ac.bytes [⟨2, k, []⟩]) (longJ k s) = P := ⟨_, rfl⟩
      have HPE : Hid (Pr.print (Pr.bytes ([(⟨2, k, []⟩ : Ac.D)].map Pr.ofD)) (longJ k s) = P) := Lib.hid (by rw [(ok_x HOK.out).2.2]; exact hP)
      have HPL : Hid (P.length ≤ 100000) := Lib.hid (by
        rw [← hP, Pr.print_len]
        have h1 := Pr.acts_len HOK.out
        have h2 := Pr.lbs_len (longJ k s) 265 HALL.out
        rw [HLJ.out] at h2
        have h3 : (k + 1) * (6 + 265) ≤ 9 * (6 + 265) := Nat.mul_le_mul_right _ (by omega)
        omega)
      have HPP : Hid (Pr.parse 999 (P.length : Int) P = if Pr.few (longJ k s) then some ([⟨2, k, []⟩], longJ k s) else none) := Lib.hid (by
        have h1 := Pr.acts_len HOK.out
        have := Pr.parse_on (mb := (P.length : Int)) (I := longJ k s) HOK.out (by rw [← hP, Pr.print_len]; omega) (by omega) (by rw [HLJ.out]; omega) (fun x hx => by have := HALL.out x hx; omega)
        rw [hP] at this
        exact this)
      clear hP
      go_wp2_with fail
      refine (pprint_any _ v2 ([(⟨2, k, []⟩ : Ac.D)].map Pr.ofD) (longJ k s) _ HA3.out.rd.x (HJ2.out.rows.under HB3.out) (ok_x HOK.out).1 (ok_x HOK.out).2.1 (by rw [HLJ.out]; omega) (fun x hx => by have := HALL.out x hx; omega)).mono ?_
      rintro e w4 ⟨v4, rfl, ho4, hb4⟩
      rw [HPE.out] at ho4
      have HO4 := Lib.hid ho4.bytes
      have hx4 := HB3.out.trans (hb4.mono HB3.out.size)
      have HB4 := Lib.hid (HB2.out.trans (hx4.mono HB2.out.size))
      have HJ4 := Lib.hid (HJ2.out.under hx4)
      clear ho4 hb4 hx4 HA3 HB3 HPE HJ2 HB2
      by_cases hgd : k < 8 ∧ s ≤ 256
      · obtain ⟨hk8, hs256⟩ := hgd
        rw [decide_eq_true hk8, decide_eq_true hs256] at HFW
        have hk8I : (k : Int) < 8 := by omega
        have hsI : (s : Int) ≤ 256 := by omega
        go_wp2_with fail
        refine (pparse_any v4 P w4 HO4.out HPL.out (some ([⟨2, k, []⟩], longJ k s)) (by rw [HPP.out, HFW.out]; rfl)).mono ?_
        rintro e w5 ⟨⟨u5, x5, rfl, -, hi5⟩, hb5⟩
        have HI5 := Lib.hid hi5.rows
        have HO5 := Lib.hid (HO4.out.under hb5)
        have HB5 := Lib.hid (HB4.out.trans (hb5.mono HB4.out.size))
        have HJ5 := Lib.hid (HJ4.out.under hb5)
        clear hi5 hb5 HO4 HB4 HJ4
        go_wp2_with fail
        refine (pvalue_any v4 P w5 HO5.out HPL.out (some (List.replicate s 0)) (by rw [Pr.value_eq, HPP.out, HFW.out]; exact (long_run hn hs256).symm)).mono ?_
        rintro e w6 ⟨⟨u6, rfl, hm6⟩, hb6⟩
        have HI6 := Lib.hid (HI5.out.under hb6)
        have HB6 := Lib.hid (HB5.out.trans (hb6.mono HB5.out.size))
        have HJ6 := Lib.hid ((HJ5.out.under hb6).rows)
        have rt6 := run_text hm6.bytes
        have HM6 := Lib.hid hm6.bytes
        clear hm6 hb6 HI5 HB5 HJ5 HO5
        obtain ⟨A2, c2, rfl, hc2⟩ := rows2_byte HJ6.out
        obtain ⟨m1, hm1⟩ : ∃ m1, k + 1 = m1 := ⟨_, rfl⟩
        rw [HLJ.out, hm1] at hc2 HJ6 ⊢
        have hkm : (k : Int) < (m1 : Int) := by omega
        have hk0 : (0 : Int) ≤ (k : Int) := by omega
        obtain ⟨b, off, u, rfl, hcu, hbu⟩ := HJ6.out.at (k := k) (by omega)
        clear hm1
        rw [longJ_last] at hbu
        obtain ⟨st, hst⟩ : ∃ st, str (List.replicate s 0) = st := ⟨_, rfl⟩
        have HRT : Hid (∀ W, W.heap = w6.heap → (convert 23 9 u).run Try.prog W = .ok (.string st) W) := Lib.hid (fun W e => by rw [← hst]; exact run_text_at hbu W e)
        have HRV : Hid (∀ W, W.heap = w6.heap → (convert 23 9 u6).run Try.prog W = .ok (.string st) W) := Lib.hid (fun W e => by rw [← hst]; exact run_text_at HM6.out W e)
        have HSR : Hid (∀ W, W.heap = w6.heap → Calls Try.prog 11 #[x5, .slice (some ⟨b, off, none⟩) m1 c2] W fun e w' => e = .returned (.bool true) ∧ ∃ nq, w' = W.drewN nq) := Lib.hid (fun W e => by
          have := samerows_any _ _ (longJ k s) (longJ k s) W (HI6.out.heap e) (HJ6.out.heap e)
          rwa [show decide (longJ k s = longJ k s) = true from decide_eq_true rfl] at this)
        have hsame : (st.toList == st.toList) = true := by simp
        obtain ⟨_, _, A6, c6, rfl, _, _⟩ := HM6.out.parts
        obtain ⟨_, _, Au, cu, rfl, _, _⟩ := hbu.parts
        rw [List.length_replicate] at *
        clear hbu HM6 hst rt6
        go_upto_region 12 with fail
        go_region_held (fun w' => w'.cell? ⟨b, off + k, none⟩ = some (Value.slice Au s cu)) (first | exact hcu | exact s7 | exact s8 | go_keep) (first
          | (go_at_call 11; refine (HSR.out _ (by rfl)).mono ?_; rintro e w7 ⟨rfl, nq, rfl⟩; have s7 : (w6.drewN (1 + nq)).cell? ⟨b, off + k, none⟩ = some (Value.slice Au s cu) := hcu; have r1 := HRT.out (w6.drewN (1 + nq)) rfl; have r2 := HRV.out (w6.drewN (1 + nq)) rfl)
          | (go_at_call 12; refine (pawake_any _).mono ?_; rintro e w8 ⟨rfl, hb8⟩; have s8 := cell_later hb8 s7))
        all_goals
          go_wp2
          go_ret
          exact ⟨rfl, (HB6.out.trans ((pbelow_drewN w6 (1 + nq)).mono HB6.out.size)).trans (hb8.mono HB6.out.size)⟩
      · have HFF : Hid (Pr.few (longJ k s) = false) := Lib.hid (by
          rw [HFW.out]
          by_cases h8 : k < 8
          · rw [decide_eq_false (fun h => hgd ⟨h8, h⟩), Bool.and_false]
          · rw [decide_eq_false h8, Bool.false_and])
        have HGD : Hid (¬ (k < 8 ∧ s ≤ 256)) := Lib.hid hgd
        clear hgd HFW
        go_wp2_with fail
        refine (pparse_any v4 P w4 HO4.out HPL.out none (by rw [HPP.out, HFF.out]; rfl)).mono ?_
        rintro e w5 ⟨rfl, hb5⟩
        have HO5 := Lib.hid (HO4.out.under hb5)
        have HB5 := Lib.hid (HB4.out.trans (hb5.mono HB4.out.size))
        clear hb5 HO4 HB4 HJ4
        go_wp2_with fail
        refine (pvalue_any v4 P w5 HO5.out HPL.out none (by rw [Pr.value_eq, HPP.out, HFF.out]; rfl)).mono ?_
        rintro e w6 ⟨rfl, hb6⟩
        have HB6 := Lib.hid (HB5.out.trans (hb6.mono HB5.out.size))
        clear hb6 HB5 HO5
        clear HLJ HL1 HOK HALL HPL HPP HFF
        go_upto_region 11 with fail
        go_cut [13] (fun q wx => q = .bool false ∧ w6 = wx)
        case first =>
          by_cases h8 : k < 8
          · have hk8I : (k : Int) < 8 := by omega
            have hsB1 : decide ((s : Int) ≤ 256) = false := decide_eq_false (by have := HGD.out; omega)
            have hsB2 : decide (s ≤ 256) = false := decide_eq_false (by have := HGD.out; omega)
            go_wp2_with fail
            go_meet
            exact ⟨rfl, rfl⟩
          · have hkB1 : decide ((k : Int) < 8) = false := decide_eq_false (by omega)
            have hkB2 : decide (k < 8) = false := decide_eq_false h8
            go_wp2_with fail
            go_meet
            exact ⟨rfl, rfl⟩
        case rest =>
          obtain ⟨rfl, rfl⟩ := hcut
          clear HGD
          go_upto_region 12 with fail
          refine wp_region_noPanic ?_
          refine wp_region_held_drew (S := fun _ => True) (by kernel_rfl) (trivial) (fun hHeld => ?_)
          refine takeW 0 (some 59) (oi := ?oT1) (v := ?vT1) ?hiT1 ?hdT1 (by kernel_rfl) (by kernel_rfl) (by kernel_rfl) (fun _ _ _ h => h) ?hwT1 ?hyT1 hHeld ?_
          case hiT1 => (simp only [List.getElem?_toArray, List.getElem?_cons_zero]; with_reducible rfl)
          case hdT1 => rfl
          case hwT1 => rfl
          case hyT1 => (intro w hSw; (try dsimp only at hSw); go_simp; first | done | with_reducible rfl)
          try simp only [Act.put, List.setIfInBounds_toArray, List.set_cons_zero, List.set_cons_succ]
          refine takeW 1 (some 60) (oi := ?oT2) (v := ?vT2) ?hiT2 ?hdT2 (by kernel_rfl) (by kernel_rfl) (by kernel_rfl) (fun _ _ _ h => h) ?hwT2 ?hyT2 hHeld ?_
          case hiT2 => (simp only [List.getElem?_toArray, List.getElem?_cons_succ, List.getElem?_cons_zero]; with_reducible rfl)
          case hdT2 => rfl
          case hwT2 => rfl
          case hyT2 => (intro w hSw; (try dsimp only at hSw); go_simp; first | done | with_reducible rfl)
          try simp only [Act.put, List.setIfInBounds_toArray, List.set_cons_zero, List.set_cons_succ]
          refine takeW 2 (some 61) (oi := ?oT3) (v := ?vT3) ?hiT3 ?hdT3 (by kernel_rfl) (by kernel_rfl) (by kernel_rfl) (fun _ _ _ h => h) ?hwT3 ?hyT3 hHeld ?_
          case hiT3 => (simp only [List.getElem?_toArray, List.getElem?_cons_succ, List.getElem?_cons_zero]; with_reducible rfl)
          case hdT3 => rfl
          case hwT3 => rfl
          case hyT3 => (intro w hSw; (try dsimp only at hSw); go_simp; first | done | with_reducible rfl)
          try simp only [Act.put, List.setIfInBounds_toArray, List.set_cons_zero, List.set_cons_succ]
          refine takeW 3 (some 62) (oi := ?oT4) (v := ?vT4) ?hiT4 ?hdT4 (by kernel_rfl) (by kernel_rfl) (by kernel_rfl) (fun _ _ _ h => h) ?hwT4 ?hyT4 hHeld ?_
          case hiT4 => (simp only [List.getElem?_toArray, List.getElem?_cons_succ, List.getElem?_cons_zero]; with_reducible rfl)
          case hdT4 => rfl
          case hwT4 => rfl
          case hyT4 => (intro w hSw; (try dsimp only at hSw); go_simp; first | done | with_reducible rfl)
          try simp only [Act.put, List.setIfInBounds_toArray, List.set_cons_zero, List.set_cons_succ]
          refine takeW 4 (some 63) (oi := ?oT5) (v := ?vT5) ?hiT5 ?hdT5 (by kernel_rfl) (by kernel_rfl) (by kernel_rfl) (fun _ _ _ h => h) ?hwT5 ?hyT5 hHeld ?_
          case hiT5 => (simp only [List.getElem?_toArray, List.getElem?_cons_succ, List.getElem?_cons_zero]; with_reducible rfl)
          case hdT5 => rfl
          case hwT5 => rfl
          case hyT5 => (intro w hSw; (try dsimp only at hSw); go_simp; first | done | with_reducible rfl)
          try simp only [Act.put, List.setIfInBounds_toArray, List.set_cons_zero, List.set_cons_succ]
          refine takeW 5 (some 64) (oi := ?oT6) (v := ?vT6) ?hiT6 ?hdT6 (by kernel_rfl) (by kernel_rfl) (by kernel_rfl) (fun _ _ _ h => h) ?hwT6 ?hyT6 hHeld ?_
          case hiT6 => (simp only [List.getElem?_toArray, List.getElem?_cons_succ, List.getElem?_cons_zero]; with_reducible rfl)
          case hdT6 => rfl
          case hwT6 => rfl
          case hyT6 => (intro w hSw; (try dsimp only at hSw); go_simp; first | done | with_reducible rfl)
          try simp only [Act.put, List.setIfInBounds_toArray, List.set_cons_zero, List.set_cons_succ]
          refine takeW 6 (some 65) (oi := ?oT7) (v := ?vT7) ?hiT7 ?hdT7 (by kernel_rfl) (by kernel_rfl) (by kernel_rfl) (fun _ _ _ h => h) ?hwT7 ?hyT7 hHeld ?_
          case hiT7 => (simp only [List.getElem?_toArray, List.getElem?_cons_succ, List.getElem?_cons_zero]; with_reducible rfl)
          case hdT7 => rfl
          case hwT7 => rfl
          case hyT7 => (intro w hSw; (try dsimp only at hSw); go_simp; first | done | with_reducible rfl)
          try simp only [Act.put, List.setIfInBounds_toArray, List.set_cons_zero, List.set_cons_succ]
          refine takeW 7 (some 66) (oi := ?oT8) (v := ?vT8) ?hiT8 ?hdT8 (by kernel_rfl) (by kernel_rfl) (by kernel_rfl) (fun _ _ _ h => h) ?hwT8 ?hyT8 hHeld ?_
          case hiT8 => (simp only [List.getElem?_toArray, List.getElem?_cons_succ, List.getElem?_cons_zero]; with_reducible rfl)
          case hdT8 => rfl
          case hwT8 => rfl
          case hyT8 => (intro w hSw; (try dsimp only at hSw); go_simp; first | done | with_reducible rfl)
          try simp only [Act.put, List.setIfInBounds_toArray, List.set_cons_zero, List.set_cons_succ]
          refine takeW 8 (some 67) (oi := ?oT9) (v := ?vT9) ?hiT9 ?hdT9 (by kernel_rfl) (by kernel_rfl) (by kernel_rfl) (fun _ _ _ h => h) ?hwT9 ?hyT9 hHeld ?_
          case hiT9 => (simp only [List.getElem?_toArray, List.getElem?_cons_succ, List.getElem?_cons_zero]; with_reducible rfl)
          case hdT9 => rfl
          case hwT9 => rfl
          case hyT9 => (intro w hSw; (try dsimp only at hSw); go_simp; first | done | with_reducible rfl)
          try simp only [Act.put, List.setIfInBounds_toArray, List.set_cons_zero, List.set_cons_succ]
          refine takeW 9 (some 68) (oi := ?oT10) (v := ?vT10) ?hiT10 ?hdT10 (by kernel_rfl) (by kernel_rfl) (by kernel_rfl) (fun _ _ _ h => h) ?hwT10 ?hyT10 hHeld ?_
          case hiT10 => (simp only [List.getElem?_toArray, List.getElem?_cons_succ, List.getElem?_cons_zero]; with_reducible rfl)
          case hdT10 => rfl
          case hwT10 => rfl
          case hyT10 => (intro w hSw; (try dsimp only at hSw); go_simp; first | done | with_reducible rfl)
          try simp only [Act.put, List.setIfInBounds_toArray, List.set_cons_zero, List.set_cons_succ]
          refine takeW 10 (some 69) (oi := ?oT11) (v := ?vT11) ?hiT11 ?hdT11 (by kernel_rfl) (by kernel_rfl) (by kernel_rfl) (fun _ _ _ h => h) ?hwT11 ?hyT11 hHeld ?_
          case hiT11 => (simp only [List.getElem?_toArray, List.getElem?_cons_succ, List.getElem?_cons_zero]; with_reducible rfl)
          case hdT11 => rfl
          case hwT11 => rfl
          case hyT11 => (intro w hSw; (try dsimp only at hSw); go_simp; first | done | with_reducible rfl)
          try simp only [Act.put, List.setIfInBounds_toArray, List.set_cons_zero, List.set_cons_succ]
          refine takeW 11 (some 70) (oi := ?oT12) (v := ?vT12) ?hiT12 ?hdT12 (by kernel_rfl) (by kernel_rfl) (by kernel_rfl) (fun _ _ _ h => h) ?hwT12 ?hyT12 hHeld ?_
          case hiT12 => (simp only [List.getElem?_toArray, List.getElem?_cons_succ, List.getElem?_cons_zero]; with_reducible rfl)
          case hdT12 => rfl
          case hwT12 => rfl
          case hyT12 => (intro w hSw; (try dsimp only at hSw); go_simp; first | done | with_reducible rfl)
          try simp only [Act.put, List.setIfInBounds_toArray, List.set_cons_zero, List.set_cons_succ]
          refine takeU 12 (some 71) (oi := ?oT13) ?hiT13 ?hdT13 (by kernel_rfl) (by kernel_rfl) (by kernel_rfl) (fun _ _ _ h => h) ?hwT13 hHeld ?_
          case hiT13 => (simp only [List.getElem?_toArray, List.getElem?_cons_succ, List.getElem?_cons_zero]; with_reducible rfl)
          case hdT13 => rfl
          case hwT13 => rfl
          try simp only [Act.put, List.setIfInBounds_toArray, List.set_cons_zero, List.set_cons_succ]
          refine takeU 13 (some 72) (oi := ?oT14) ?hiT14 ?hdT14 (by kernel_rfl) (by kernel_rfl) (by kernel_rfl) (fun _ _ _ h => h) ?hwT14 hHeld ?_
          case hiT14 => (simp only [List.getElem?_toArray, List.getElem?_cons_succ, List.getElem?_cons_zero]; with_reducible rfl)
          case hdT14 => rfl
          case hwT14 => rfl
          try simp only [Act.put, List.setIfInBounds_toArray, List.set_cons_zero, List.set_cons_succ]
          refine takeU 14 (some 73) (oi := ?oT15) ?hiT15 ?hdT15 (by kernel_rfl) (by kernel_rfl) (by kernel_rfl) (fun _ _ _ h => h) ?hwT15 hHeld ?_
          case hiT15 => (simp only [List.getElem?_toArray, List.getElem?_cons_succ, List.getElem?_cons_zero]; with_reducible rfl)
          case hdT15 => rfl
          case hwT15 => rfl
          try simp only [Act.put, List.setIfInBounds_toArray, List.set_cons_zero, List.set_cons_succ]
          refine takeU 15 (some 74) (oi := ?oT16) ?hiT16 ?hdT16 (by kernel_rfl) (by kernel_rfl) (by kernel_rfl) (fun _ _ _ h => h) ?hwT16 hHeld ?_
          case hiT16 => (simp only [List.getElem?_toArray, List.getElem?_cons_succ, List.getElem?_cons_zero]; with_reducible rfl)
          case hdT16 => rfl
          case hwT16 => rfl
          try simp only [Act.put, List.setIfInBounds_toArray, List.set_cons_zero, List.set_cons_succ]
          refine takeU 16 (some 75) (oi := ?oT17) ?hiT17 ?hdT17 (by kernel_rfl) (by kernel_rfl) (by kernel_rfl) (fun _ _ _ h => h) ?hwT17 hHeld ?_
          case hiT17 => (simp only [List.getElem?_toArray, List.getElem?_cons_succ, List.getElem?_cons_zero]; with_reducible rfl)
          case hdT17 => rfl
          case hwT17 => rfl
          try simp only [Act.put, List.setIfInBounds_toArray, List.set_cons_zero, List.set_cons_succ]
          refine takeU 17 (some 76) (oi := ?oT18) ?hiT18 ?hdT18 (by kernel_rfl) (by kernel_rfl) (by kernel_rfl) (fun _ _ _ h => h) ?hwT18 hHeld ?_
          case hiT18 => (simp only [List.getElem?_toArray, List.getElem?_cons_succ, List.getElem?_cons_zero]; with_reducible rfl)
          case hdT18 => rfl
          case hwT18 => rfl
          try simp only [Act.put, List.setIfInBounds_toArray, List.set_cons_zero, List.set_cons_succ]
          refine takeU 18 (some 77) (oi := ?oT19) ?hiT19 ?hdT19 (by kernel_rfl) (by kernel_rfl) (by kernel_rfl) (fun _ _ _ h => h) ?hwT19 hHeld ?_
          case hiT19 => (simp only [List.getElem?_toArray, List.getElem?_cons_succ, List.getElem?_cons_zero]; with_reducible rfl)
          case hdT19 => rfl
          case hwT19 => rfl
          try simp only [Act.put, List.setIfInBounds_toArray, List.set_cons_zero, List.set_cons_succ]
          refine takeU 19 (some 78) (oi := ?oT20) ?hiT20 ?hdT20 (by kernel_rfl) (by kernel_rfl) (by kernel_rfl) (fun _ _ _ h => h) ?hwT20 hHeld ?_
          case hiT20 => (simp only [List.getElem?_toArray, List.getElem?_cons_succ, List.getElem?_cons_zero]; with_reducible rfl)
          case hdT20 => rfl
          case hwT20 => rfl
          try simp only [Act.put, List.setIfInBounds_toArray, List.set_cons_zero, List.set_cons_succ]
          refine takeU 20 (some 79) (oi := ?oT21) ?hiT21 ?hdT21 (by kernel_rfl) (by kernel_rfl) (by kernel_rfl) (fun _ _ _ h => h) ?hwT21 hHeld ?_
          case hiT21 => (simp only [List.getElem?_toArray, List.getElem?_cons_succ, List.getElem?_cons_zero]; with_reducible rfl)
          case hdT21 => rfl
          case hwT21 => rfl
          try simp only [Act.put, List.setIfInBounds_toArray, List.set_cons_zero, List.set_cons_succ]
          refine takeU 21 (some 80) (oi := ?oT22) ?hiT22 ?hdT22 (by kernel_rfl) (by kernel_rfl) (by kernel_rfl) (fun _ _ _ h => h) ?hwT22 hHeld ?_
          case hiT22 => (simp only [List.getElem?_toArray, List.getElem?_cons_succ, List.getElem?_cons_zero]; with_reducible rfl)
          case hdT22 => rfl
          case hwT22 => rfl
          try simp only [Act.put, List.setIfInBounds_toArray, List.set_cons_zero, List.set_cons_succ]
          refine takeU 22 (some 81) (oi := ?oT23) ?hiT23 ?hdT23 (by kernel_rfl) (by kernel_rfl) (by kernel_rfl) (fun _ _ _ h => h) ?hwT23 hHeld ?_
          case hiT23 => (simp only [List.getElem?_toArray, List.getElem?_cons_succ, List.getElem?_cons_zero]; with_reducible rfl)
          case hdT23 => rfl
          case hwT23 => rfl
          try simp only [Act.put, List.setIfInBounds_toArray, List.set_cons_zero, List.set_cons_succ]
          refine takeU 23 (some 82) (oi := ?oT24) ?hiT24 ?hdT24 (by kernel_rfl) (by kernel_rfl) (by kernel_rfl) (fun _ _ _ h => h) ?hwT24 hHeld ?_
          case hiT24 => (simp only [List.getElem?_toArray, List.getElem?_cons_succ, List.getElem?_cons_zero]; with_reducible rfl)
          case hdT24 => rfl
          case hwT24 => rfl
          try simp only [Act.put, List.setIfInBounds_toArray, List.set_cons_zero, List.set_cons_succ]
          refine takeU 24 (some 83) (oi := ?oT25) ?hiT25 ?hdT25 (by kernel_rfl) (by kernel_rfl) (by kernel_rfl) (fun _ _ _ h => h) ?hwT25 hHeld ?_
          case hiT25 => (simp only [List.getElem?_toArray, List.getElem?_cons_succ, List.getElem?_cons_zero]; with_reducible rfl)
          case hdT25 => rfl
          case hwT25 => rfl
          try simp only [Act.put, List.setIfInBounds_toArray, List.set_cons_zero, List.set_cons_succ]
          refine takeW 25 (some 84) (oi := ?oT26) (v := ?vT26) ?hiT26 ?hdT26 (by kernel_rfl) (by kernel_rfl) (by kernel_rfl) (fun _ _ _ h => h) ?hwT26 ?hyT26 hHeld ?_
          case hiT26 => (simp only [List.getElem?_toArray, List.getElem?_cons_succ, List.getElem?_cons_zero]; with_reducible rfl)
          case hdT26 => rfl
          case hwT26 => rfl
          case hyT26 => (intro w hSw; (try dsimp only at hSw); go_simp; first | done | with_reducible rfl)
          try simp only [Act.put, List.setIfInBounds_toArray, List.set_cons_zero, List.set_cons_succ]
          refine takeW 26 (some 85) (oi := ?oT27) (v := ?vT27) ?hiT27 ?hdT27 (by kernel_rfl) (by kernel_rfl) (by kernel_rfl) (fun _ _ _ h => h) ?hwT27 ?hyT27 hHeld ?_
          case hiT27 => (simp only [List.getElem?_toArray, List.getElem?_cons_succ, List.getElem?_cons_zero]; with_reducible rfl)
          case hdT27 => rfl
          case hwT27 => rfl
          case hyT27 => (intro w hSw; (try dsimp only at hSw); go_simp; first | done | with_reducible rfl)
          try simp only [Act.put, List.setIfInBounds_toArray, List.set_cons_zero, List.set_cons_succ]
          refine takeW 27 (some 86) (oi := ?oT28) (v := ?vT28) ?hiT28 ?hdT28 (by kernel_rfl) (by kernel_rfl) (by kernel_rfl) (fun _ _ _ h => h) ?hwT28 ?hyT28 hHeld ?_
          case hiT28 => (simp only [List.getElem?_toArray, List.getElem?_cons_succ, List.getElem?_cons_zero]; with_reducible rfl)
          case hdT28 => rfl
          case hwT28 => rfl
          case hyT28 => (intro w hSw; (try dsimp only at hSw); go_simp; first | done | with_reducible rfl)
          try simp only [Act.put, List.setIfInBounds_toArray, List.set_cons_zero, List.set_cons_succ]
          refine stepOne 28 (o := ?oT29) ?hiT29 (by kernel_rfl) ?hwT29 (fun K hK => ?_)
          case hiT29 => (simp only [List.getElem?_toArray, List.getElem?_cons_succ, List.getElem?_cons_zero]; with_reducible rfl)
          case hwT29 => rfl
          go_simp
          go_at_call 12
          refine (pawake_any _).mono ?_
          rintro e w8 ⟨rfl, hb8⟩
          have HB8 := Lib.hid (HB6.out.trans (((Below.refl _ w6).drew.trans (hb8.mono (by simp))).mono HB6.out.size))
          clear hb8
          refine hK.out _ _ ?_ (fun hHeld => ?_)
          · trivial
          clear hK K
          try simp only [Act.put, List.setIfInBounds_toArray, List.set_cons_zero, List.set_cons_succ]
          refine takeW 29 (some 88) (oi := ?oT30) (v := ?vT30) ?hiT30 ?hdT30 (by kernel_rfl) (by kernel_rfl) (by kernel_rfl) (fun _ _ _ h => h) ?hwT30 ?hyT30 hHeld ?_
          case hiT30 => (simp only [List.getElem?_toArray, List.getElem?_cons_succ, List.getElem?_cons_zero]; with_reducible rfl)
          case hdT30 => rfl
          case hwT30 => rfl
          case hyT30 => (intro w hSw; (try dsimp only at hSw); go_simp; first | done | with_reducible rfl)
          try simp only [Act.put, List.setIfInBounds_toArray, List.set_cons_zero, List.set_cons_succ]
          refine takeW 30 (some 4) (oi := ?oT31) (v := ?vT31) ?hiT31 ?hdT31 (by kernel_rfl) (by kernel_rfl) (by kernel_rfl) (fun _ _ _ h => h) ?hwT31 ?hyT31 hHeld ?_
          case hiT31 => (simp only [List.getElem?_toArray, List.getElem?_cons_succ, List.getElem?_cons_zero]; with_reducible rfl)
          case hdT31 => rfl
          case hwT31 => rfl
          case hyT31 => (intro w hSw; (try dsimp only at hSw); go_simp; first | done | with_reducible rfl)
          try simp only [Act.put, List.setIfInBounds_toArray, List.set_cons_zero, List.set_cons_succ]
          refine wpAnyH_done (by kernel_rfl) ?_ _
          refine NoPanic.normal ?_
          go_wp2
          go_ret
          exact ⟨rfl, HB8.out⟩
theorem plong_any (a b : Int) (w : World) :
    Calls Try.prog 3 #[.int .i64 a, .int .i64 b] w fun e w' => e = .returned (.bool true) ∧ Below w.heap.size w w' := by
  obtain ⟨m, hm, hm1⟩ := and_low a 255 (by decide)
  obtain ⟨s, hs, hs1⟩ := and_low b 15 (by decide)
  refine plong_at a b (m % 9) (250 + s) ?_ (by omega) ?_ (by omega) (by omega) w
  · have := hm
    rw [show ((255 : Nat) : Int) = 255 from rfl] at this
    rw [this, Int.tmod_eq_emod_of_nonneg (by omega)]
    omega
  · have := hs
    rw [show ((15 : Nat) : Int) = 15 from rfl] at this
    rw [this]
    omega
end Go.Proofs.Ytldnpedegcbglaa
