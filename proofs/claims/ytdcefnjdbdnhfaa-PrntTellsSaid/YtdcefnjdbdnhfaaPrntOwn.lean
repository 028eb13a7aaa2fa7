/- PrntOwn: what is read of a print is one's own. -/
import Derived.Test.YtdcefnjdbdnhfaaPrntAwake
import Derived.Test.YtdcefnjdbdnhfaaPrntRows
import Derived.Test.YtdcefnjdbdnhfaaAct
import Derived.Test.YtdcefnjdbdnhfaaInts
import Derived.Deep.CutBlock
namespace Go.Proofs.Ytdcefnjdbdnhfaa
set_option maxRecDepth 100000
open Go.ChangeShapes Go.WideShapes Go.ChangeAt Go.RowKit

theorem pgo_few (ins : List (List Nat)) : ∀ (l : List Ac.D) (b x : List Nat), b.length ≤ 256 → Ac.go ins l b = some x → x.length ≤ 256
  | [], b, x, hb, h => by
    injection h with h
    rw [← h]; exact hb
  | d :: r, b, x, _, h => by
    rw [Ac.go] at h
    split at h
    · cases h
    · rename_i y _
      split at h
      · rename_i hy
        exact pgo_few ins r y x hy h
      · cases h
theorem prun_few {l : List Ac.D} {ins : List (List Nat)} {x : List Nat} (h : Ac.run l ins = some x) : x.length ≤ 256 := by
  unfold Ac.run at h
  split at h
  · exact pgo_few ins l [] x (by simp) h
  · cases h
theorem came_small {base : Nat} {w w' : World} {e : Ending} {T : Option (List Nat)} (h : CameIs base w e w' T) (ht : ∀ x, T = some x → x.length ≤ 256) : ∃ u q l, e = .returned (.tuple #[u, .bool q]) ∧ Mine w' base u l ∧ l.length ≤ 256 ∧ Below base w w' := by
  rcases T with _ | b
  · obtain ⟨rfl, hb⟩ := h
    exact ⟨_, false, [], rfl, mine_none _ _, by simp, hb⟩
  · obtain ⟨⟨u, rfl, hm⟩, hb⟩ := h
    exact ⟨u, true, b, rfl, hm, ht b rfl, hb⟩
def pup (c : Nat) : Nat := (c + 1) % 256
theorem pup_int (x : Nat) : ((pup x : Nat) : Int) = ((x : Int) + 1) % 256 := by unfold pup; omega
theorem pup_lt (x : Nat) : pup x < 256 := Nat.mod_lt _ (by decide)
theorem pfew_of {J : List (List Nat)} (h8 : J.length ≤ 8) (h : ∀ j, j < J.length → (J.getD j []).length ≤ 256) : Pr.few J = true := by
  unfold Pr.few
  rw [decide_eq_true h8, Bool.true_and, List.all_eq_true]
  intro x hx
  obtain ⟨i, hi, rfl⟩ := List.getElem_of_mem hx
  have := h i hi
  rw [List.getD_eq_getElem?_getD, List.getElem?_eq_getElem hi] at this
  exact decide_eq_true this
theorem pfew_all {J : List (List Nat)} (h : Pr.few J = true) : J.length ≤ 8 ∧ ∀ x ∈ J, x.length ≤ 256 := by
  unfold Pr.few at h
  rw [Bool.and_eq_true, decide_eq_true_eq, List.all_eq_true] at h
  exact ⟨h.1, fun x hx => by simpa using h.2 x hx⟩
theorem ok_x {L : List Ac.D} (h : Ac.ok L = true) : (L.map Pr.ofD).length ≤ 100 ∧ (∀ d ∈ L.map Pr.ofD, (∀ c ∈ d.text, c < 256) ∧ d.text.length ≤ 100000) ∧ Pr.bytes (L.map Pr.ofD) = Ac.bytes L := by
  obtain ⟨_, h2, h3⟩ := Ac.ok_small h
  refine ⟨by rw [List.length_map]; omega, fun d hd => ?_, Pr.bytes_of fun d hd => ?_⟩
  · obtain ⟨d', hd', rfl⟩ := List.mem_map.1 hd
    have := h3 d' hd'
    exact ⟨this.2.2.2.2, by show d'.text.length ≤ _; omega⟩
  · have := h3 d hd
    omega
/-- A print of an action and few inputs: its length, and what it is read as. -/
theorem print_back {L : List Ac.D} {J : List (List Nat)} (h : Ac.ok L = true) (hJ : Pr.few J = true) : (Pr.print (Ac.bytes L) J).length ≤ 10000 ∧ Pr.parse 999 ((Pr.print (Ac.bytes L) J).length : Int) (Pr.print (Ac.bytes L) J) = some (L, J) ∧ Pr.value 999 ((Pr.print (Ac.bytes L) J).length : Int) (Pr.print (Ac.bytes L) J) = Ac.run L J := by
  obtain ⟨h8, hx⟩ := pfew_all hJ
  have hl := Pr.acts_len h
  have hp := Pr.print_len (Ac.bytes L) J
  have hq := Pr.lbs_len J 256 hx
  have hm : J.length * (6 + 256) ≤ 8 * (6 + 256) := Nat.mul_le_mul_right _ h8
  have hpar := Pr.parse_on (mb := ((Pr.print (Ac.bytes L) J).length : Int)) (I := J) h (by omega) (by omega) (by omega) (fun x hx' => by have := hx x hx'; omega)
  rw [hJ, if_pos rfl] at hpar
  refine ⟨by omega, hpar, ?_⟩
  rw [Pr.value_eq, hpar]
  rfl
set_option maxRecDepth 100000 in
set_option maxHeartbeats 16000000 in
theorem pown_any (v1 v2 : Value) (zs : List Int) (I : List (List Nat)) (w : World) (h1 : Ints w v1 zs) (h2 : Rows2 w v2 I) :
    Calls Try.prog 4 #[v1, v2] w fun e w' => e = .returned (.bool true) ∧ Below w.heap.size w w' := by
  have H1 := Lib.hid h1
  obtain ⟨A, c, rfl, hc⟩ := rows2_byte h2
  obtain ⟨N, hN⟩ : ∃ n, I.length = n := ⟨_, rfl⟩
  rw [hN] at h2 hc ⊢
  have H2 := Lib.hid h2
  clear h1 h2 hN
  go_enter Try.func4, Try.ntmps4
  go_upto_if 23 with fail
  go_cut [1] (fun q wx => w = wx ∧ ∃ n J, q = .slice A n c ∧ n ≤ 8 ∧ n ≤ c ∧ Hid (J.length = n) ∧ Hid (Rows2 w (.slice A n c) J))
  case first =>
    by_cases h8 : 8 < N
    · have h8I : (8 : Int) < (N : Int) := by omega
      have hc8 : 8 ≤ c := by omega
      go_wp2_with fail
      all_goals go_meet
      exact ⟨rfl, 8, I.take 8, rfl, by omega, by omega, Lib.hid (Rows2.len (H2.out.take (by omega))), Lib.hid (H2.out.take (by omega))⟩
    · have h8I : ¬ (8 : Int) < (N : Int) := by omega
      go_wp2_with fail
      all_goals go_meet
      exact ⟨rfl, N, I, rfl, by omega, hc, Lib.hid H2.out.len, H2⟩
  case rest =>
    obtain ⟨rfl, n, J, rfl, hn8, hnc, HN, HJ⟩ := hcut
    clear hc H2
    go_wp2_with fail
    go_loopg [28] n (fun g iv wr => ∃ k : Nat, k ≤ n ∧ n - k ≤ g ∧ iv = .int .i64 (k : Int) ∧ Hid (∀ j, j < k → (J.getD j []).length ≤ 256) ∧ Hid (w = wr))
    case atStart => exact ⟨0, Nat.zero_le _, by omega, rfl, Lib.hid (fun j hj => absurd hj (by omega)), Lib.hid rfl⟩
    case round =>
      obtain ⟨k, hk, hg, rfl, hall, hw⟩ := hrel
      obtain rfl := hw.out
      clear hw
      by_cases hlt : k < n
      · have hkI : (k : Int) < (n : Int) := by omega
        obtain ⟨b, off, u, rfl, hcu, hbu⟩ := HJ.out.at hlt
        obtain ⟨_, hmu, Au, cu, rfl, hcu2, _⟩ := hbu.parts
        obtain ⟨x, hx⟩ : ∃ x, J.getD k [] = x := ⟨_, rfl⟩
        have HX := Lib.hid hx
        rw [hx] at hcu hbu hmu hcu2
        obtain ⟨q, hq⟩ : ∃ q, x.length = q := ⟨_, rfl⟩
        have HQ := Lib.hid hq
        rw [hq] at hcu hmu hcu2
        clear hbu hx hq
        by_cases hbig : 256 < q
        · have hbI : (256 : Int) < (q : Int) := by omega
          go_wp2_with fail
          refine (pawake_any _).mono ?_
          rintro e w2 ⟨rfl, hb2⟩
          go_wp2
          go_ret
          exact ⟨rfl, hb2⟩
        · have hbI : ¬ (256 : Int) < (q : Int) := by omega
          have HAL : Hid (∀ j, j < k + 1 → (J.getD j []).length ≤ 256) := Lib.hid (fun j hj => by
            rcases Nat.lt_or_ge j k with h | h
            · exact hall.out j h
            · obtain rfl : j = k := by omega
              rw [HX.out, HQ.out]; omega)
          go_wp2
          go_roundg (n - (k + 1))
          case measure => omega
          case rel => exact ⟨k + 1, hlt, by omega, by go_num, HAL, Lib.hid rfl⟩
      · obtain rfl : k = n := by omega
        have HF : Hid (Pr.few J = true) := Lib.hid (pfew_of (by rw [HN.out]; exact hn8) (by rw [HN.out]; exact hall.out))
        clear hlt hg hall
        go_wp2_with fail
        refine (act_any v1 zs w H1.out).mono ?_
        rintro e w2 ⟨LA, va, rfl, hoa, hka, -, -, hb2⟩
        have HB2 := Lib.hid hb2
        have HRA := Lib.hid hoa.rd.x
        have HKA := Lib.hid hka
        have HJ2 := Lib.hid (HJ.out.under hb2)
        have HPB := Lib.hid (print_back hka HF.out)
        obtain ⟨P, hP⟩ : ∃ P, Pr.print (Ac.bytes LA) J = P := ⟨_, rfl⟩
        have HPE : Hid (Pr.print (Pr.bytes (LA.map Pr.ofD)) J = P) := Lib.hid (by rw [(ok_x hka).2.2]; exact hP)
        rw [hP] at HPB
        clear hb2 hoa hka hP
        go_wp2_with fail
        refine (pprint_any va _ (LA.map Pr.ofD) J w2 HRA.out HJ2.out (ok_x HKA.out).1 (ok_x HKA.out).2.1 (by rw [HN.out]; omega) (fun x hx => by have := (pfew_all HF.out).2 x hx; omega)).mono ?_
        rintro e w3 ⟨v3, rfl, ho3, hb3⟩
        rw [HPE.out] at ho3
        have HO3 := Lib.hid ho3.bytes
        have HB3 := Lib.hid (HB2.out.trans (hb3.mono HB2.out.size))
        have rt3 := run_text ho3.bytes
        clear hb3 ho3 HB2 HRA HJ2 HPE
        go_wp2_with fail
        refine (pparse_any v3 P w3 HO3.out (by have := HPB.out.1; omega) (some (LA, J)) HPB.out.2.1.symm).mono ?_
        rintro e w4 ⟨⟨u4, x4, rfl, -, hi4⟩, hb4⟩
        have HR4 : Hid (Rows8 w4 w3.heap.size x4 k) := Lib.hid (by have := hi4.rows8 (pfew_all HF.out).2; rwa [HN.out] at this)
        have HB4 := Lib.hid hb4
        clear hi4 hb4 rt3
        obtain ⟨A4, c4, rfl, hc4⟩ := HR4.out.parts
        go_wp2_with fail
        go_loopg [51] k (fun g iv wr => ∃ p : Nat, p ≤ k ∧ k - p ≤ g ∧ iv = .int .i64 (p : Int) ∧ Hid (Rows8 wr w3.heap.size (.slice A4 k c4) k) ∧ Hid (Below w3.heap.size w3 wr))
        case atStart => exact ⟨0, by omega, by omega, rfl, HR4, HB4⟩
        case round =>
          obtain ⟨p, hp, hg, rfl, hR, hB⟩ := hrel
          obtain ⟨wz, rfl⟩ : ∃ wx : World, wx = wr := ⟨_, rfl⟩
          by_cases hlt : p < k
          · have hpI : (p : Int) < (k : Int) := by omega
            obtain ⟨g4, u, m, rfl, hcu, hm, l, hl, hmine, his⟩ := hR.out.at hlt
            obtain ⟨Au, cu, rfl, hcu2, hcm⟩ := hmine.parts
            rw [Nat.zero_add] at hcu
            rw [hl] at hcu hcu2 hmine his
            have HM := Lib.hid hmine
            have HI8 := Lib.hid his
            have HL := Lib.hid hl
            clear hmine his hl
            go_wp2_with fail
            go_loopg [57] m (fun g iv wr => ∃ i : Nat, i ≤ m ∧ m - i ≤ g ∧ iv = .int .i64 (i : Int) ∧ Hid (∃ l', l'.length = m ∧ Mine wr w3.heap.size (.slice Au m cu) l' ∧ Is8 wr (.slice Au m cu)) ∧ Hid (Rows8 wr w3.heap.size (.slice (some ⟨g4, 0, none⟩) k c4) k) ∧ Hid (Below w3.heap.size w3 wr))
            case atStart => exact ⟨0, by omega, by omega, rfl, Lib.hid ⟨l, HL.out, HM.out, HI8.out⟩, hR, hB⟩
            case round =>
              obtain ⟨i, hi, hg3, rfl, hM, hR2, hB2⟩ := hrel
              obtain ⟨wi, rfl⟩ : ∃ wx : World, wx = wr := ⟨_, rfl⟩
              by_cases hlt3 : i < m
              · have hiI : (i : Int) < (m : Int) := by omega
                obtain ⟨l', hl', hm', h8'⟩ := hM.out
                obtain ⟨_, b, off, rfl, hb, hbs, hfz, hcell⟩ := hm'.at (by omega)
                have hfk := hfz i hlt3
                have hck := hcell i hlt3
                obtain ⟨x, hx⟩ : ∃ x, l'.getD i 0 = x := ⟨_, rfl⟩
                have HS1 : Hid (Mine (wi.setCell ⟨b, off + i, none⟩ (.int .u8 ((pup x : Nat) : Int))) w3.heap.size (.slice (some ⟨b, off, none⟩) m cu) (l'.set i (pup x))) := Lib.hid (hm'.set hlt3 (pup_lt x))
                have HSET : Hid (∃ l', l'.length = m ∧ Mine (wi.setCell ⟨b, off + i, none⟩ (.int .u8 ((pup x : Nat) : Int))) w3.heap.size (.slice (some ⟨b, off, none⟩) m cu) l' ∧ Is8 (wi.setCell ⟨b, off + i, none⟩ (.int .u8 ((pup x : Nat) : Int))) (.slice (some ⟨b, off, none⟩) m cu)) := Lib.hid ⟨_, by rw [List.length_set]; exact hl', HS1.out, h8'.set _ _⟩
                have HRS : Hid (Rows8 (wi.setCell ⟨b, off + i, none⟩ (.int .u8 ((pup x : Nat) : Int))) w3.heap.size (.slice (some ⟨g4, 0, none⟩) k c4) k) := Lib.hid (hR2.out.set h8'.ne (pup_lt x))
                rw [hx] at hck
                have HBS : Hid (Below w3.heap.size w3 (wi.setCell ⟨b, off + i, none⟩ (.int .u8 ((pup x : Nat) : Int)))) := Lib.hid (hB2.out.setCell (p := ⟨b, off + i, none⟩) hb _)
                clear hcell hfz hx hM hm' h8' hR2 hB2 HS1 hR hB HM HI8
                rw [pup_int] at HSET HRS HBS
                go_wp2
                go_roundg (m - (i + 1))
                case measure => omega
                case rel => exact ⟨i + 1, hlt3, by omega, by go_num, HSET, HRS, HBS⟩
              · obtain rfl : i = m := by omega
                go_wp2
                go_roundg (k - (p + 1))
                case measure => omega
                case rel => exact ⟨p + 1, hlt, by omega, by go_num, hR2, hB2⟩
          · obtain rfl : p = k := by omega
            have HO5 := Lib.hid (HO3.out.under hB.out)
            go_wp2_with fail
            refine (pvalue_any v3 P wz HO5.out (by have := HPB.out.1; omega) _ HPB.out.2.2.symm).mono ?_
            intro e w5 h5
            obtain ⟨u5, q5, l5, rfl, hm5, hl5, hb5⟩ := came_small h5 (fun x hx => prun_few hx)
            have HM5 := Lib.hid (hm5.more (base' := w3.heap.size) hB.out.size)
            have HB5 := Lib.hid (hB.out.trans (hb5.mono hB.out.size))
            obtain ⟨A5, c5, rfl, hc5, hcm5⟩ := hm5.parts
            obtain ⟨m5, hm5e⟩ : ∃ m, l5.length = m := ⟨_, rfl⟩
            rw [hm5e] at HM5 hc5 hl5 ⊢
            have HL5 := Lib.hid hm5e
            clear h5 hm5 hb5 hm5e hlt hg
            go_wp2_with fail
            go_loopg [75] m5 (fun g iv wr => ∃ i : Nat, i ≤ m5 ∧ m5 - i ≤ g ∧ iv = .int .i64 (i : Int) ∧ Hid (∃ l', l'.length = m5 ∧ Mine wr w3.heap.size (.slice A5 m5 c5) l') ∧ Hid (Below w3.heap.size w3 wr))
            case atStart => exact ⟨0, by omega, by omega, rfl, Lib.hid ⟨l5, HL5.out, HM5.out⟩, HB5⟩
            case round =>
              obtain ⟨i, hi, hg3, rfl, hM, hB2⟩ := hrel
              obtain ⟨wi, rfl⟩ : ∃ wx : World, wx = wr := ⟨_, rfl⟩
              by_cases hlt3 : i < m5
              · have hiI : (i : Int) < (m5 : Int) := by omega
                obtain ⟨l', hl', hm'⟩ := hM.out
                obtain ⟨_, b, off, rfl, hb, hbs, hfz, hcell⟩ := hm'.at (by omega)
                have hfk := hfz i hlt3
                have hck := hcell i hlt3
                obtain ⟨x, hx⟩ : ∃ x, l'.getD i 0 = x := ⟨_, rfl⟩
                have HSET : Hid (∃ l', l'.length = m5 ∧ Mine (wi.setCell ⟨b, off + i, none⟩ (.int .u8 ((pup x : Nat) : Int))) w3.heap.size (.slice (some ⟨b, off, none⟩) m5 c5) l') := Lib.hid ⟨_, by rw [List.length_set]; exact hl', hm'.set hlt3 (pup_lt x)⟩
                rw [hx] at hck
                have HBS : Hid (Below w3.heap.size w3 (wi.setCell ⟨b, off + i, none⟩ (.int .u8 ((pup x : Nat) : Int)))) := Lib.hid (hB2.out.setCell (p := ⟨b, off + i, none⟩) hb _)
                clear hcell hfz hx hM hm' hB2 hB HM5 HB5
                rw [pup_int] at HSET HBS
                go_wp2
                go_roundg (m5 - (i + 1))
                case measure => omega
                case rel => exact ⟨i + 1, hlt3, by omega, by go_num, HSET, HBS⟩
              · obtain rfl : i = m5 := by omega
                have HO6 := Lib.hid (HO3.out.under hB2.out)
                clear hlt3 hg3 hM hB HM5 HB5 HO5
                go_wp2_with fail
                refine (pparse_any v3 P wi HO6.out (by have := HPB.out.1; omega) (some (LA, J)) HPB.out.2.1.symm).mono ?_
                rintro e w7 ⟨⟨u7, x7, rfl, -, hi7⟩, hb7⟩
                have HB7 := Lib.hid (hB2.out.trans (hb7.mono hB2.out.size))
                have HW7 := Lib.hid (HB3.out.trans (HB7.out.mono HB3.out.size))
                have rt7 := run_text (HO3.out.under HB7.out)
                have HX7 := Lib.hid hi7.rows
                have HJ7 := Lib.hid (HJ.out.under HW7.out)
                have hse := str_same HO3.out.1 HO3.out.1 (l := P) (m := P)
                rw [decide_eq_true rfl] at hse
                clear hi7 hb7 hB2 HO6
                go_wp2_with fail
                refine (samerows_any _ _ J J w7 HX7.out HJ7.out).mono ?_
                rintro e w8 ⟨rfl, nq, rfl⟩
                rw [show decide (J = J) = true from decide_eq_true rfl]
                go_wp2_with fail
                refine (pawake_any _).mono ?_
                rintro e w9 ⟨rfl, hb9⟩
                have HB9 := Lib.hid (((HW7.out.trans ((pbelow_drewN w7 nq).mono HW7.out.size))).trans (hb9.mono (by have := HW7.out.size; simpa using this)))
                clear hb9
                go_wp2
                go_ret
                exact ⟨rfl, HB9.out⟩
end Go.Proofs.Ytdcefnjdbdnhfaa
