/- PrntTells: prints are what the document says; any bytes are the print of an action and inputs, or none, and have its value, or none. -/
import Derived.Test.YtdcefnjdbdnhfaaPrntCheck
import Derived.Test.YtdcefnjdbdnhfaaPrntOpen
import Derived.Test.YtdcefnjdbdnhfaaActFOk
import Derived.Deep.RegionHeld
import Derived.Deep.RegionHeld3
namespace Go.Proofs.Ytdcefnjdbdnhfaa
set_option maxRecDepth 100000
open Go.ChangeShapes Go.WideShapes Go.ChangeAt Go.RowKit

theorem bytesR_len : ∀ (R : List Pr.X), (∀ d ∈ R, d.text.length ≤ 100) → (Pr.bytes R).length ≤ 6 + R.length * 118 := fun R h => by
  unfold Pr.bytes
  rw [List.length_append, Cd.enc_length]
  have : ∀ (R : List Pr.X), (∀ d ∈ R, d.text.length ≤ 100) → (R.flatMap Pr.bytesX).length ≤ R.length * 118 := by
    intro R h
    induction R with
    | nil => simp
    | cons d R ih =>
      have h1 := ih fun x hx => h x (by simp [hx])
      have h2 := h d (by simp)
      have h3 := bytesX_len d
      rw [List.flatMap_cons, List.length_append, List.length_cons]
      omega
  have := this R h
  omega
theorem tl_apart {w w' : World} {b : Nat} {v x : Value} {l m : List Nat} (h : Own w b v l) (hx : Own w' w.heap.size x m) : x.ownBlock = none ∨ x.ownBlock ≠ v.ownBlock := by
  rcases hb : x.ownBlock with _ | k
  · exact .inl rfl
  · refine .inr fun e => ?_
    have h1 := (hx.lt k hb).1
    have h2 := (h.lt k e.symm).2
    omega
theorem tl_apart_at (x : Value) (g m : Nat) (hx : ∀ k, x.ownBlock = some k → k < m) (hg : m ≤ g) : x.ownBlock = none ∨ x.ownBlock ≠ (Value.slice (some ⟨g, 0, none⟩) 0 0).ownBlock := by
  rcases hb : x.ownBlock with _ | k
  · exact .inl rfl
  · refine .inr fun e => ?_
    have e' : some k = some g := e
    injection e' with e'
    have := hx k hb
    omega
theorem tl_apart_grew {n : Nat} {x v v' : Value} (hap : x.ownBlock = none ∨ x.ownBlock ≠ v.ownBlock) (h3 : v'.ownBlock = v.ownBlock ∨ v'.ownBlock = some n) (hlt : ∀ k, x.ownBlock = some k → k < n) : x.ownBlock = none ∨ x.ownBlock ≠ v'.ownBlock := by
  rcases h3 with h3 | h3
  · rw [h3]; exact hap
  · rcases hb : x.ownBlock with _ | k
    · exact .inl rfl
    · refine .inr fun e => ?_
      rw [h3] at e
      injection e with e
      have := hlt k hb
      omega
theorem tl_heap {w W : World} {base : Nat} {v : Value} {l : List Nat} (h : Own w base v l) (e : W.heap = w.heap) : Own W base v l := by
  unfold Own World.ownsRow at *
  rw [e]
  exact h
set_option maxRecDepth 100000 in
set_option maxHeartbeats 16000000 in
theorem ptells_any (v0 v1 v2 v3 : Value) (R : List Pr.X) (zs : List Int) (I : List (List Nat)) (b : List Nat) (a4 : Int) (y5 : Nat) (w : World) (h0 : RdX w v0 R) (hR : ∀ x ∈ R, (∀ c ∈ x.text, c < 256) ∧ x.text.length ≤ 9223372036854775807) (h1 : Ints w v1 zs) (h2 : Rows2 w v2 I) (h3 : Bytes w v3 b) (h5 : y5 < 256) :
    Calls Try.prog 5 #[v0, v1, v2, v3, .int .i64 a4, .int .u8 (y5 : Int)] w fun e w' => e = .returned (.bool true) ∧ Below w.heap.size w w' := by
  have H0 := Lib.hid h0
  have H1 := Lib.hid h1
  have H2 := Lib.hid h2
  have H3 := Lib.hid h3
  have HR := Lib.hid hR
  obtain ⟨A0, c0, rfl, hc0⟩ := h0.parts
  obtain ⟨A2, c2, rfl, hc2⟩ := rows2_byte h2
  obtain ⟨_, hb3, A3, c3, rfl, hc3, _⟩ := h3.parts
  obtain ⟨n0, hn0⟩ : ∃ n, R.length = n := ⟨_, rfl⟩
  obtain ⟨n2, hn2⟩ : ∃ n, I.length = n := ⟨_, rfl⟩
  obtain ⟨n3, hn3⟩ : ∃ n, b.length = n := ⟨_, rfl⟩
  rw [hn0] at H0 hc0 ⊢
  rw [hn2] at H2 hc2 ⊢
  rw [hn3] at H3 hc3 ⊢
  have HN0 := Lib.hid hn0
  have HN2 := Lib.hid hn2
  have HN3 := Lib.hid hn3
  clear h0 h1 h2 h3 hR hn0 hn2 hn3 hb3
  go_enter Try.func5, Try.ntmps5
  by_cases hb0 : 12 < n0
  · have hb0I : (12 : Int) < (n0 : Int) := by omega
    go_wp2_with fail
    refine (pawake_any _).mono ?_
    rintro e w2 ⟨rfl, hb2⟩
    go_wp2
    go_ret
    exact ⟨rfl, hb2⟩
  have hb0I : ¬ (12 : Int) < (n0 : Int) := by omega
  by_cases hb2 : 9 < n2
  · have hb2I : (9 : Int) < (n2 : Int) := by omega
    go_wp2_with fail
    refine (pawake_any _).mono ?_
    rintro e w2 ⟨rfl, hb2⟩
    go_wp2
    go_ret
    exact ⟨rfl, hb2⟩
  have hb2I : ¬ (9 : Int) < (n2 : Int) := by omega
  by_cases hb3 : 300 < n3
  · have hb3I : (300 : Int) < (n3 : Int) := by omega
    go_wp2_with fail
    refine (pawake_any _).mono ?_
    rintro e w2 ⟨rfl, hb2⟩
    go_wp2
    go_ret
    exact ⟨rfl, hb2⟩
  have hb3I : ¬ (300 : Int) < (n3 : Int) := by omega
  go_wp2_with fail
  go_loopg [46, 13] n0 (fun g iv _ wr => ∃ k : Nat, k ≤ n0 ∧ n0 - k ≤ g ∧ iv = .int .i64 (k : Int) ∧ Hid (∀ j (h : j < R.length), j < k → (R[j]'h).text.length ≤ 100) ∧ Hid (w = wr))
  case atStart => exact ⟨0, Nat.zero_le _, by omega, rfl, Lib.hid (fun j _ hj => absurd hj (by omega)), Lib.hid rfl⟩
  case round =>
    obtain ⟨k, hk, hg, rfl, hall, hw⟩ := hrel
    obtain rfl := hw.out
    clear hw
    by_cases hlt : k < n0
    · have hkI : (k : Int) < (n0 : Int) := by omega
      have hkL : k < R.length := by rw [HN0.out]; exact hlt
      obtain ⟨bb, off, rfl, -, -, p2⟩ := H0.out.at k hkL
      have HRX := Lib.hid (HR.out _ (List.getElem_mem hkL))
      have HAL0 : Hid ((R[k]'hkL).text.length ≤ 100 → ∀ j (h : j < R.length), j < k + 1 → (R[j]'h).text.length ≤ 100) := Lib.hid (fun hx j h hj => by
        rcases Nat.lt_or_ge j k with h' | h'
        · exact hall.out j h h'
        · obtain rfl : j = k := by omega
          exact hx)
      obtain ⟨x, hx⟩ : ∃ x, R[k]'hkL = x := ⟨_, rfl⟩
      rw [hx] at p2 HRX HAL0
      have hsz := str_size x.text
      have HXL : Hid (x.text.length ≤ 9223372036854775807) := Lib.hid HRX.out.2
      obtain ⟨q, hq⟩ : ∃ q, x.text.length = q := ⟨_, rfl⟩
      rw [hq] at hsz HXL HAL0
      obtain ⟨s, hs⟩ : ∃ s, str x.text = s := ⟨_, rfl⟩
      rw [hs] at p2 hsz
      clear hx hkL hs hq
      by_cases hbig : 100 < q
      · have hbI : (100 : Int) < (q : Int) := by omega
        go_wp2_with fail
        refine (pawake_any _).mono ?_
        rintro e w2 ⟨rfl, hb2⟩
        go_wp2
        go_ret
        exact ⟨rfl, hb2⟩
      · have hbI : ¬ (100 : Int) < (q : Int) := by omega
        have HAL := Lib.hid (HAL0.out (by omega))
        clear HAL0
        go_wp2
        go_roundg (n0 - (k + 1))
        case measure => omega
        case rel => exact ⟨k + 1, hlt, by omega, by go_num, HAL, Lib.hid rfl⟩
    · obtain rfl : k = n0 := by omega
      have HTX : Hid (∀ d ∈ R, (∀ c ∈ d.text, c < 256) ∧ d.text.length ≤ 100) := Lib.hid (fun d hd => by
        obtain ⟨j, hj, rfl⟩ := List.getElem_of_mem hd
        exact ⟨(HR.out _ hd).1, hall.out j hj (by rw [HN0.out] at hj; exact hj)⟩)
      clear hlt hg hall
      go_wp2_with fail
      go_loopg [60, 14] n2 (fun g iv _ wr => ∃ k : Nat, k ≤ n2 ∧ n2 - k ≤ g ∧ iv = .int .i64 (k : Int) ∧ Hid (∀ j, j < k → (I.getD j []).length ≤ 280) ∧ Hid (w = wr))
      case atStart => exact ⟨0, Nat.zero_le _, by omega, rfl, Lib.hid (fun j hj => absurd hj (by omega)), Lib.hid rfl⟩
      case round =>
        obtain ⟨p, hp, hg, rfl, hall, hw⟩ := hrel
        obtain rfl := hw.out
        clear hw
        by_cases hlt : p < n2
        · have hpI : (p : Int) < (n2 : Int) := by omega
          obtain ⟨bb, off, u, rfl, hcu, hbu⟩ := H2.out.at hlt
          obtain ⟨_, hmu, Au, cu, rfl, hcu2, _⟩ := hbu.parts
          obtain ⟨x, hx⟩ : ∃ x, I.getD p [] = x := ⟨_, rfl⟩
          have HX := Lib.hid hx
          rw [hx] at hcu hbu hmu hcu2
          obtain ⟨q, hq⟩ : ∃ q, x.length = q := ⟨_, rfl⟩
          have HQ := Lib.hid hq
          rw [hq] at hcu hmu hcu2
          clear hbu hx hq
          by_cases hbig : 280 < q
          · have hbI : (280 : Int) < (q : Int) := by omega
            go_wp2_with fail
            refine (pawake_any _).mono ?_
            rintro e w2 ⟨rfl, hb2⟩
            go_wp2
            go_ret
            exact ⟨rfl, hb2⟩
          · have hbI : ¬ (280 : Int) < (q : Int) := by omega
            have HAL : Hid (∀ j, j < p + 1 → (I.getD j []).length ≤ 280) := Lib.hid (fun j hj => by
              rcases Nat.lt_or_ge j p with h | h
              · exact hall.out j h
              · obtain rfl : j = p := by omega
                rw [HX.out, HQ.out]; omega)
            go_wp2
            go_roundg (n2 - (p + 1))
            case measure => omega
            case rel => exact ⟨p + 1, hlt, by omega, by go_num, HAL, Lib.hid rfl⟩
        · obtain rfl : p = n2 := by omega
          have HIX : Hid (∀ x ∈ I, x.length ≤ 280) := Lib.hid (fun x hx => by
            obtain ⟨j, hj, rfl⟩ := List.getElem_of_mem hx
            have := hall.out j (by rw [HN2.out] at hj; exact hj)
            rwa [List.getD_eq_getElem?_getD, List.getElem?_eq_getElem hj] at this)
          clear hlt hg hall
          have HACT : Hid (∀ W, Below w.heap.size w W → Calls Try.prog 12 #[v1] W fun e w' => ∃ u, e = .returned u ∧ RdX w' u ((actF zs).map Pr.ofD) ∧ Below W.heap.size W w') := Lib.hid (fun W hb => (actf_any v1 zs W (H1.out.under hb)).mono fun e w' ⟨u, he, ho, _, _, hb'⟩ => ⟨u, he, ho.rd.x, hb'⟩)
          have HOKA : Hid (Ac.ok (actF zs) = true) := Lib.hid (actF_ok zs)
          obtain ⟨M, hM⟩ : ∃ M, (actF zs).map Pr.ofD = M := ⟨_, rfl⟩
          have HMX := Lib.hid (ok_x HOKA.out)
          rw [hM] at HACT HMX
          obtain ⟨T, hT⟩ : ∃ T, Pr.print (Pr.bytes M) I = T := ⟨_, rfl⟩
          obtain ⟨S, hS⟩ : ∃ S, Pr.print (Pr.bytes R) I = S := ⟨_, rfl⟩
          have HIL : Hid ((I.flatMap Pr.lb).length ≤ 9 * 286) := Lib.hid (by
            have := Pr.lbs_len I 280 HIX.out
            rw [HN2.out] at this
            have h4 : p * (6 + 280) ≤ 9 * (6 + 280) := Nat.mul_le_mul_right _ (by omega)
            omega)
          have HTL : Hid (12 ≤ T.length ∧ T.length ≤ 5000) := Lib.hid (by
            rw [← hT, Pr.print_len, HMX.out.2.2]
            have := Pr.acts_len HOKA.out
            have := HIL.out
            omega)
          have HSL : Hid (S.length ≤ 10000) := Lib.hid (by
            rw [← hS, Pr.print_len]
            have h1 := HIL.out
            have h2 := bytesR_len R (fun d hd => (HTX.out d hd).2)
            rw [HN0.out] at h2
            have h4 : k * 118 ≤ 12 * 118 := Nat.mul_le_mul_right _ (by omega)
            omega)
          have HPM : Hid (∀ W u, Below w.heap.size w W → RdX W u M → Calls Try.prog 7 #[u, .slice A2 p c2] W (Made W.heap.size T W)) := Lib.hid (fun W u hb hr => by
            rw [← hT]
            exact pprint_any u _ M I W hr (H2.out.under hb) HMX.out.1 HMX.out.2.1 (by rw [HN2.out]; omega) (fun x hx => by have := HIX.out x hx; omega))
          have HRM : Hid (∀ W u, Below w.heap.size w W → RdX W u M → Calls Try.prog 13 #[u, .slice A2 p c2] W (Made W.heap.size T W)) := Lib.hid (fun W u hb hr => by
            rw [← hT]
            exact refpprint_any u _ M I W hr (H2.out.under hb) HMX.out.1 HMX.out.2.1 (by rw [HN2.out]; omega) (fun x hx => by have := HIX.out x hx; omega))
          have HPR : Hid (∀ W, Below w.heap.size w W → Calls Try.prog 7 #[.slice A0 k c0, .slice A2 p c2] W (Made W.heap.size S W)) := Lib.hid (fun W hb => by
            rw [← hS]
            exact pprint_any _ _ R I W (H0.out.under hb) (H2.out.under hb) (by rw [HN0.out]; omega) (fun d hd => ⟨(HTX.out d hd).1, by have := (HTX.out d hd).2; omega⟩) (by rw [HN2.out]; omega) (fun x hx => by have := HIX.out x hx; omega))
          have HRR : Hid (∀ W, Below w.heap.size w W → Calls Try.prog 13 #[.slice A0 k c0, .slice A2 p c2] W (Made W.heap.size S W)) := Lib.hid (fun W hb => by
            rw [← hS]
            exact refpprint_any _ _ R I W (H0.out.under hb) (H2.out.under hb) (by rw [HN0.out]; omega) (fun d hd => ⟨(HTX.out d hd).1, by have := (HTX.out d hd).2; omega⟩) (by rw [HN2.out]; omega) (fun x hx => by have := HIX.out x hx; omega))
          clear hM hT hS
          go_wp2_with fail
          refine (HACT.out w (Below.refl _ _)).mono ?_
          rintro e w3 ⟨va, rfl, ha3, hb3⟩
          have HA3 := Lib.hid ha3
          have HB3 := Lib.hid hb3
          clear ha3 hb3
          go_wp2_with fail
          refine (HRM.out w3 va HB3.out HA3.out).mono ?_
          rintro e w4 ⟨v4, rfl, ho4, hb4⟩
          have HT4 := Lib.hid ho4.bytes
          have HB4 := Lib.hid (HB3.out.trans (hb4.mono HB3.out.size))
          clear ho4 hb4 HA3 HB3
          have hts : ((str T).toList == (str T).toList) = true := by simp
          have hss : ((str S).toList == (str S).toList) = true := by simp
          obtain ⟨sT, hsT⟩ : ∃ s, str T = s := ⟨_, rfl⟩
          obtain ⟨sS, hsS⟩ : ∃ s, str S = s := ⟨_, rfl⟩
          have HCT : Hid (∀ W u, Bytes W u T → (convert 23 9 u).run Try.prog W = .ok (.string sT) W) := Lib.hid (fun W u h => by rw [← hsT]; exact run_text h)
          have HCS : Hid (∀ W u, Bytes W u S → (convert 23 9 u).run Try.prog W = .ok (.string sS) W) := Lib.hid (fun W u h => by rw [← hsS]; exact run_text h)
          rw [hsT] at hts
          rw [hsS] at hss
          clear hsT hsS
          go_upto_region 16 with fail
          go_cut [93] (fun q wx => q = .bool false ∧ Hid (Below w4.heap.size w4 wx))
          case first =>
            have hq0 : Below w4.heap.size w4 w4.drew := (Below.refl _ _).drew
            have rt0 := HCT.out w4.drew v4 (HT4.out.heap rfl)
            go_region_held (fun _ => True) (trivial) (first
              | (go_at_call 12; refine (HACT.out _ (HB4.out.trans (hq0.mono HB4.out.size))).mono ?_; rintro e w5 ⟨va5, rfl, ha5, hb5⟩; have hq5 : Below w4.heap.size w4 w5 := hq0.trans hb5; have rt5 := HCT.out w5 v4 (HT4.out.under hq5))
              | (go_at_call_of 7 va5; refine (HPM.out _ _ (HB4.out.trans (hq5.mono HB4.out.size)) ha5).mono ?_; rintro e w6 ⟨v6, rfl, ho6, hb6⟩; have hq6 : Below w4.heap.size w4 w6 := hq5.trans (hb6.mono hq5.size); have rt6 := HCT.out w6 v4 (HT4.out.under hq6); have ru6 := HCT.out w6 v6 ho6.bytes)
              | (go_at_call 7; refine (HPR.out _ (HB4.out.trans (hq6.mono HB4.out.size))).mono ?_; rintro e w7 ⟨v7, rfl, ho7, hb7⟩; have hq7 : Below w4.heap.size w4 w7 := hq6.trans (hb7.mono hq6.size); have ru7 := HCS.out w7 v7 ho7.bytes)
              | (go_at_call 13; refine (HRR.out _ (HB4.out.trans (hq7.mono HB4.out.size))).mono ?_; rintro e w8 ⟨v8, rfl, ho8, hb8⟩; have hq8 : Below w4.heap.size w4 w8 := hq7.trans (hb8.mono hq7.size); have ru8 := HCS.out w8 v8 ho8.bytes; have rv8 := HCS.out w8 v7 (ho7.bytes.under hb8)))
            all_goals go_wp2_with fail
            all_goals go_meet
            all_goals exact ⟨rfl, Lib.hid hq8⟩
          case rest =>
            obtain ⟨rfl, HB9⟩ := hcut
            obtain ⟨w9, rfl⟩ : ∃ wx : World, wx = wc := ⟨_, rfl⟩
            have HW9 := Lib.hid (HB4.out.trans (HB9.out.mono HB4.out.size))
            have HT9 := Lib.hid (HT4.out.under HB9.out)
            clear hts hss HCT HCS HT4 HB4 HB9 HPM HRM HPR HACT
            have h8T : ∀ c ∈ T, c < 256 := HT9.out.1
            have H8T := Lib.hid h8T
            obtain ⟨nT, hnT⟩ : ∃ n, T.length = n := ⟨_, rfl⟩
            have HNT := Lib.hid hnT
            rw [hnT] at HTL
            obtain ⟨_, _, AT, cT, rfl, hcT, _⟩ := HT9.out.parts
            rw [hnT] at HT9 hcT ⊢
            clear h8T hnT
            have HE9 : Hid (Own (w9.alloc (.cells #[] 5)) w9.heap.size (.slice (some ⟨w9.heap.size, 0, none⟩) 0 0) []) := Lib.hid (own_empty w9 w9.heap.size 0 #[] (Nat.le_refl _) (by unfold maxLen; omega) rfl)
            have ba9 : Below w9.heap.size w9 (w9.alloc (.cells #[] 5)) := (Below.refl _ _).alloc (Nat.le_refl _) _
            have HB9a := Lib.hid ba9
            clear ba9
            go_upto_region 18 with fail
            go_wp2_with (at_builtin; refine wpList_append_bytes rfl _ _ rfl w9.heap.size _ _ [] T rfl HE9.out rfl (HT9.out.under HB9a.out) (by have := HNT.out; have := HTL.out; simp; omega) HB9a.out.size T (List.nil_append _) ?_)
            rintro v10 w10 ⟨ho10, _, _, hb10⟩
            have HO10 := Lib.hid ho10
            have hq10 : Below w9.heap.size w9 w10 := HB9a.out.trans hb10
            have HB10 := Lib.hid hq10
            clear ho10 hb10 hq10 HE9 HB9a
            obtain ⟨_, _, A10, c10, rfl, hc10, _⟩ := HO10.out.bytes.parts
            rw [HNT.out] at HO10 hc10 ⊢
            obtain ⟨m, hm, hm1⟩ := and_low a4 65535 (by decide)
            change bits .and .i64 a4 65535 = (m : Int) at hm
            obtain ⟨kk, hkk, hkk1⟩ : ∃ kk : Nat, (bits .and .i64 a4 65535).tmod (nT : Int) = (kk : Int) ∧ kk < nT := ⟨m % nT, by rw [hm, Int.tmod_eq_emod_of_nonneg (by omega)]; omega, Nat.mod_lt _ (by have := HTL.out; omega)⟩
            have hnz : ((nT : Int) == 0) = false := by have := HTL.out; simp; omega
            have hkI : (kk : Int) < (nT : Int) := by omega
            have hk0 : (0 : Int) ≤ (kk : Int) := by omega
            have hnTI : (nT : Int) ≠ 0 := by omega
            obtain ⟨_, b10, off10, rfl, hbb10, hbs10, hfz, hcl⟩ := HO10.out.mine.at (by omega)
            have hfk := hfz kk hkk1
            have hck := hcl kk hkk1
            have HU11 : Hid (Mine (w10.setCell ⟨b10, off10 + kk, none⟩ (.int .u8 (y5 : Int))) w9.heap.size (.slice (some ⟨b10, off10, none⟩) nT c10) (T.set kk y5)) := Lib.hid (HO10.out.mine.set hkk1 h5)
            have HB11 : Hid (Below w9.heap.size w9 (w10.setCell ⟨b10, off10 + kk, none⟩ (.int .u8 (y5 : Int)))) := Lib.hid (HB10.out.setCell (p := ⟨b10, off10 + kk, none⟩) hbb10 _)
            obtain ⟨w11, hw11⟩ : ∃ w11, w10.setCell ⟨b10, off10 + kk, none⟩ (.int .u8 (y5 : Int)) = w11 := ⟨_, rfl⟩
            rw [hw11] at HU11 HB11
            have HW11 := Lib.hid hw11
            clear hfz hcl hw11 hm
            go_upto_region 21 with fail
            rw [HW11.out]
            go_cut [121, 122, 123] (fun q q2 q3 wx => ∃ g, q = .slice (some ⟨g, 0, none⟩) 6 6 ∧ q2 = .int .i64 6 ∧ q3 = .int .i64 0 ∧ Hid (Rows2 wx (.slice (some ⟨g, 0, none⟩) 6 6) [b, T, T.set kk y5, T.take kk, T ++ [y5], S]) ∧ Hid (Below w9.heap.size w9 wx))
            case first =>
              obtain ⟨n14, hn14⟩ : ∃ n, (T ++ [y5]).length = n := ⟨_, rfl⟩
              have HN14 := Lib.hid hn14
              obtain ⟨nS, hnS⟩ : ∃ n, S.length = n := ⟨_, rfl⟩
              have HNS := Lib.hid hnS
              clear hn14 hnS
              have HR2 : Hid (∀ W, Below w11.heap.size w11 W → Calls Try.prog 13 #[.slice A0 k c0, .slice A2 p c2] W (Made W.heap.size S W)) := Lib.hid (fun W hb => HRR.out W (HW9.out.trans ((HB11.out.trans (hb.mono HB11.out.size)).mono HW9.out.size)))
              have HAL1 : Hid (∀ (X : World) (o : Obj), Below w11.heap.size w11 X → Below w11.heap.size w11 (X.alloc o)) := Lib.hid (fun X o h => h.alloc h.size o)
              have HE0 : Hid (∀ X : World, w11.heap.size ≤ X.heap.size → Own (X.alloc (.cells #[] 5)) w11.heap.size (.slice (some ⟨X.heap.size, 0, none⟩) 0 0) []) := Lib.hid (fun X h => own_empty X w11.heap.size 0 #[] h (by unfold maxLen; omega) rfl)
              have HE1 : Hid (∀ (X : World) (o : Obj), w11.heap.size ≤ X.heap.size → Own ((X.alloc o).alloc (.cells #[] 5)) w11.heap.size (.slice (some ⟨X.heap.size + 1, 0, none⟩) 0 0) []) := Lib.hid (fun X o h => by
                have h1 := own_empty (X.alloc o) w11.heap.size 0 #[] (by simp; omega) (by unfold maxLen; omega) rfl
                rwa [show (X.alloc o).heap.size = X.heap.size + 1 from by simp] at h1)
              have HY0 : Hid (∀ X : World, Bytes (X.alloc (.cells #[.int .u8 (y5 : Int)] 5)) (.slice (some ⟨X.heap.size, 0, none⟩) 1 1) [y5]) := Lib.hid (fun X => bytes_one X (y5 : Int) y5 5 (0, 0) rfl h5)
              have HY1 : Hid (∀ (X : World) (o : Obj), Bytes ((X.alloc o).alloc (.cells #[.int .u8 (y5 : Int)] 5)) (.slice (some ⟨X.heap.size + 1, 0, none⟩) 1 1) [y5]) := Lib.hid (fun X o => by
                have h1 := bytes_one (X.alloc o) (y5 : Int) y5 5 (0, 0) rfl h5
                rwa [show (X.alloc o).heap.size = X.heap.size + 1 from by simp] at h1)
              have HB0 : Hid (∀ W, Below w11.heap.size w11 W → Bytes W (.slice A3 n3 c3) b ∧ Bytes W (.slice AT nT cT) T ∧ Bytes W (.slice (some ⟨b10, off10, none⟩) nT c10) (T.set kk y5) ∧ Bytes W (.slice AT kk cT) (T.take kk)) := Lib.hid (fun W hb => by
                have h9 := HB11.out.trans (hb.mono HB11.out.size)
                have hT := HT9.out.under h9
                exact ⟨H3.out.under (HW9.out.trans (h9.mono HW9.out.size)), hT, HU11.out.bytes.under hb, hT.head (by omega) (by omega)⟩)
              have HFIN : Hid (∀ (W : World) (v14 vp : Value), Below w11.heap.size w11 W → Bytes W v14 (T ++ [y5]) → Bytes W vp S → Rows2 (W.alloc (.cells #[.slice A3 n3 c3, .slice AT nT cT, .slice (some ⟨b10, off10, none⟩) nT c10, .slice AT kk cT, v14, vp] 23)) (.slice (some ⟨W.heap.size, 0, none⟩) 6 6) [b, T, T.set kk y5, T.take kk, T ++ [y5], S] ∧ Below w9.heap.size w9 (W.alloc (.cells #[.slice A3 n3 c3, .slice AT nT cT, .slice (some ⟨b10, off10, none⟩) nT c10, .slice AT kk cT, v14, vp] 23))) := Lib.hid (fun W v14 vp hb h14 hp => by
                obtain ⟨q1, q2, q3, q4⟩ := HB0.out W hb
                refine ⟨rows2_six (us := [.slice A3 n3 c3, .slice AT nT cT, .slice (some ⟨b10, off10, none⟩) nT c10, .slice AT kk cT, v14, vp]) (t := 23) (heap_alloc_new W _) rfl (by simp) fun i hi => ?_, ?_⟩
                · have : i = 0 ∨ i = 1 ∨ i = 2 ∨ i = 3 ∨ i = 4 ∨ i = 5 := by simp at hi; omega
                  rcases this with rfl | rfl | rfl | rfl | rfl | rfl
                  · exact q1.alloc _
                  · exact q2.alloc _
                  · exact q3.alloc _
                  · exact q4.alloc _
                  · exact h14.alloc _
                  · exact hp.alloc _
                · have h9 := HB11.out.trans (hb.mono HB11.out.size)
                  exact h9.alloc h9.size _)
              have hkcT : (kk : Int) ≤ (cT : Int) := by omega
              have hkcT2 : kk ≤ cT := by omega
              go_region_held3 (fun _ => True) (trivial) (first
                | (have hbw : Below w11.heap.size w11 (((w11.alloc (.cells #[] 5)).alloc (.cells #[.int .u8 (y5 : Int)] 5)).drew) := ((HAL1.out _ (.cells #[.int .u8 (y5 : Int)] 5) (HAL1.out _ (.cells #[] 5) (Below.refl _ _)))).drew; refine step_append_bytes (w := ((w11.alloc (.cells #[] 5)).alloc (.cells #[.int .u8 (y5 : Int)] 5)).drew) rfl (.tmp 112) (.tmp 113) rfl w11.heap.size (.slice (some ⟨w11.heap.size, 0, none⟩) 0 0) (.slice AT nT cT) [] T rfl (tl_heap ((HE0.out w11 (Nat.le_refl _)).alloc (.cells #[.int .u8 (y5 : Int)] 5)) (W := ((w11.alloc (.cells #[] 5)).alloc (.cells #[.int .u8 (y5 : Int)] 5)).drew) rfl) rfl (HB0.out _ hbw).2.1 (by have := HNT.out; have := HTL.out; simp; omega) hbw.size T rfl ?_; rintro v13 wa ⟨ho13, hg13, h313, hb13⟩; have hbwa : Below w11.heap.size w11 wa := hbw.trans hb13; have hzB := (((HY1.out w11 (.cells #[] 5))).heap (W := ((w11.alloc (.cells #[] 5)).alloc (.cells #[.int .u8 (y5 : Int)] 5)).drew) rfl).grown hg13 (.inr (by intro e; have e' : (some (w11.heap.size + 1) : Option Nat) = some (w11.heap.size) := e; injection e' with e'; omega)))
                | (go_at_call 13; have hbw : Below w11.heap.size w11 (wa) := hbwa; refine (HR2.out (wa) hbw).mono ?_; rintro e wp ⟨vp, rfl, hop, hxp⟩; obtain ⟨_, _, Ap, cp, hvp, _, _⟩ := hop.bytes.parts; rw [HNS.out] at hvp; subst hvp; have hbwp : Below w11.heap.size w11 wp := hbw.trans (hxp.mono hbw.size); have hszp : wa.heap.size + 0 ≤ wp.heap.size := (by have := hxp.size; (try simp only [World.drew, World.size_alloc] at this); omega); have hPl := hop.lt; have hzB := ((hzB).heap (W := wa) rfl).under hxp; have ho13p := (tl_heap ho13 (W := wa) rfl).under hxp; have hap := tl_apart (tl_heap ho13 (W := wa) rfl) hop; clear ho13; have ho13 := ho13p; have hpP := hop.bytes)
                | (have hbw : Below w11.heap.size w11 (wp) := hbwp; refine step_append_bytes (w := wp) rfl (.tmp 114) (.tmp 116) rfl w11.heap.size v13 (.slice (some ⟨w11.heap.size + 1, 0, none⟩) 1 1) T [y5] rfl (tl_heap ho13 (W := wp) rfl) rfl ((hzB).heap (W := wp) rfl) (by have := HNT.out; have := HTL.out; simp; omega) hbw.size (T ++ [y5]) rfl ?_; rintro v14 wz ⟨ho14, hg14, h314, hb14⟩; obtain ⟨_, _, A14, c14, hv14, _, _⟩ := ho14.bytes.parts; rw [HN14.out] at hv14; subst hv14; have hbwz : Below w11.heap.size w11 wz := hbw.trans hb14; have hpPz := ((hpP).heap (W := wp) rfl).grown hg14 hap; clear hpP; have hpP := hpPz; have hFz := ho14.bytes; have HF := Lib.hid (HFIN.out wz (.slice A14 n14 c14) (.slice Ap nS cp) hbwz hFz hpP))
                | (have hbw : Below w11.heap.size w11 (wa) := hbwa; refine step_append_bytes (w := wa) rfl (.tmp 114) (.tmp 116) rfl w11.heap.size v13 (.slice (some ⟨w11.heap.size + 1, 0, none⟩) 1 1) T [y5] rfl (tl_heap ho13 (W := wa) rfl) rfl ((hzB).heap (W := wa) rfl) (by have := HNT.out; have := HTL.out; simp; omega) hbw.size (T ++ [y5]) rfl ?_; rintro v14 wz ⟨ho14, hg14, h314, hb14⟩; obtain ⟨_, _, A14, c14, hv14, _, _⟩ := ho14.bytes.parts; rw [HN14.out] at hv14; subst hv14; have hbwz : Below w11.heap.size w11 wz := hbw.trans hb14)
                | (go_at_call 13; have hbw : Below w11.heap.size w11 (wz) := hbwz; refine (HR2.out (wz) hbw).mono ?_; rintro e wp ⟨vp, rfl, hop, hxp⟩; obtain ⟨_, _, Ap, cp, hvp, _, _⟩ := hop.bytes.parts; rw [HNS.out] at hvp; subst hvp; have hbwp : Below w11.heap.size w11 wp := hbw.trans (hxp.mono hbw.size); have hszp : wz.heap.size + 0 ≤ wp.heap.size := (by have := hxp.size; (try simp only [World.drew, World.size_alloc] at this); omega); have hPl := hop.lt; have hFz := ((tl_heap ho14 (W := wz) rfl).under hxp).bytes; have hpP := hop.bytes; have HF := Lib.hid (HFIN.out wp (.slice A14 n14 c14) (.slice Ap nS cp) hbwp hFz hpP))
                | (go_at_call 13; have hbw : Below w11.heap.size w11 (((w11.alloc (.cells #[] 5)).alloc (.cells #[.int .u8 (y5 : Int)] 5)).drew) := ((HAL1.out _ (.cells #[.int .u8 (y5 : Int)] 5) (HAL1.out _ (.cells #[] 5) (Below.refl _ _)))).drew; refine (HR2.out (((w11.alloc (.cells #[] 5)).alloc (.cells #[.int .u8 (y5 : Int)] 5)).drew) hbw).mono ?_; rintro e wp ⟨vp, rfl, hop, hxp⟩; obtain ⟨_, _, Ap, cp, hvp, _, _⟩ := hop.bytes.parts; rw [HNS.out] at hvp; subst hvp; have hbwp : Below w11.heap.size w11 wp := hbw.trans (hxp.mono hbw.size); have hszp : w11.heap.size + 2 ≤ wp.heap.size := (by have := hxp.size; (try simp only [World.drew, World.size_alloc] at this); omega); have hPl := hop.lt; have hoE := (tl_heap ((HE0.out w11 (Nat.le_refl _)).alloc (.cells #[.int .u8 (y5 : Int)] 5)) (W := ((w11.alloc (.cells #[] 5)).alloc (.cells #[.int .u8 (y5 : Int)] 5)).drew) rfl).under hxp; have hap := tl_apart (tl_heap ((HE0.out w11 (Nat.le_refl _)).alloc (.cells #[.int .u8 (y5 : Int)] 5)) (W := ((w11.alloc (.cells #[] 5)).alloc (.cells #[.int .u8 (y5 : Int)] 5)).drew) rfl) hop; have hzB := (((HY1.out w11 (.cells #[] 5))).heap (W := ((w11.alloc (.cells #[] 5)).alloc (.cells #[.int .u8 (y5 : Int)] 5)).drew) rfl).under hxp; have hpP := hop.bytes)
                | (have hbw : Below w11.heap.size w11 (wp) := hbwp; refine step_append_bytes (w := wp) rfl (.tmp 112) (.tmp 113) rfl w11.heap.size (.slice (some ⟨w11.heap.size, 0, none⟩) 0 0) (.slice AT nT cT) [] T rfl (tl_heap hoE (W := wp) rfl) rfl (HB0.out _ hbw).2.1 (by have := HNT.out; have := HTL.out; simp; omega) hbw.size T rfl ?_; rintro v13 wa ⟨ho13, hg13, h313, hb13⟩; have hbwa : Below w11.heap.size w11 wa := hbw.trans hb13; have hzB := ((hzB).heap (W := wp) rfl).grown hg13 (.inr (by intro e; have e' : (some (w11.heap.size + 1) : Option Nat) = some (w11.heap.size) := e; injection e' with e'; omega)); have hpPa := ((hpP).heap (W := wp) rfl).grown hg13 hap; have hapa := tl_apart_grew hap h313 (fun k hk => by have := (hPl k hk).2; (try simp only [World.drew, World.size_alloc]); omega); clear hpP; have hpP := hpPa; clear hap; have hap := hapa)
                | (have hbw : Below w11.heap.size w11 (wa) := hbwa; refine step_append_bytes (w := wa) rfl (.tmp 114) (.tmp 116) rfl w11.heap.size v13 (.slice (some ⟨w11.heap.size + 1, 0, none⟩) 1 1) T [y5] rfl (tl_heap ho13 (W := wa) rfl) rfl ((hzB).heap (W := wa) rfl) (by have := HNT.out; have := HTL.out; simp; omega) hbw.size (T ++ [y5]) rfl ?_; rintro v14 wz ⟨ho14, hg14, h314, hb14⟩; obtain ⟨_, _, A14, c14, hv14, _, _⟩ := ho14.bytes.parts; rw [HN14.out] at hv14; subst hv14; have hbwz : Below w11.heap.size w11 wz := hbw.trans hb14; have hpPz := ((hpP).heap (W := wa) rfl).grown hg14 hap; clear hpP; have hpP := hpPz; have hFz := ho14.bytes; have HF := Lib.hid (HFIN.out wz (.slice A14 n14 c14) (.slice Ap nS cp) hbwz hFz hpP))
                | (have hbw : Below w11.heap.size w11 ((w11.alloc (.cells #[] 5)).drew) := ((HAL1.out _ (.cells #[] 5) (Below.refl _ _))).drew; refine step_append_bytes (w := (w11.alloc (.cells #[] 5)).drew) rfl (.tmp 112) (.tmp 113) rfl w11.heap.size (.slice (some ⟨w11.heap.size, 0, none⟩) 0 0) (.slice AT nT cT) [] T rfl (tl_heap (HE0.out w11 (Nat.le_refl _)) (W := (w11.alloc (.cells #[] 5)).drew) rfl) rfl (HB0.out _ hbw).2.1 (by have := HNT.out; have := HTL.out; simp; omega) hbw.size T rfl ?_; rintro v13 wa ⟨ho13, hg13, h313, hb13⟩; have hbwa : Below w11.heap.size w11 wa := hbw.trans hb13)
                | (go_at_call 13; have hbw : Below w11.heap.size w11 ((wa.alloc (.cells #[.int .u8 (y5 : Int)] 5))) := (HAL1.out _ (.cells #[.int .u8 (y5 : Int)] 5) hbwa); refine (HR2.out ((wa.alloc (.cells #[.int .u8 (y5 : Int)] 5))) hbw).mono ?_; rintro e wp ⟨vp, rfl, hop, hxp⟩; obtain ⟨_, _, Ap, cp, hvp, _, _⟩ := hop.bytes.parts; rw [HNS.out] at hvp; subst hvp; have hbwp : Below w11.heap.size w11 wp := hbw.trans (hxp.mono hbw.size); have hszp : wa.heap.size + 1 ≤ wp.heap.size := (by have := hxp.size; (try simp only [World.drew, World.size_alloc] at this); omega); have hPl := hop.lt; have hzB := (((HY0.out wa)).heap (W := (wa.alloc (.cells #[.int .u8 (y5 : Int)] 5))) rfl).under hxp; have ho13p := (tl_heap (ho13.alloc (.cells #[.int .u8 (y5 : Int)] 5)) (W := (wa.alloc (.cells #[.int .u8 (y5 : Int)] 5))) rfl).under hxp; have hap := tl_apart (tl_heap (ho13.alloc (.cells #[.int .u8 (y5 : Int)] 5)) (W := (wa.alloc (.cells #[.int .u8 (y5 : Int)] 5))) rfl) hop; clear ho13; have ho13 := ho13p; have hpP := hop.bytes)
                | (have hbw : Below w11.heap.size w11 (wp) := hbwp; refine step_append_bytes (w := wp) rfl (.tmp 114) (.tmp 116) rfl w11.heap.size v13 (.slice (some ⟨wa.heap.size, 0, none⟩) 1 1) T [y5] rfl (tl_heap ho13 (W := wp) rfl) rfl ((hzB).heap (W := wp) rfl) (by have := HNT.out; have := HTL.out; simp; omega) hbw.size (T ++ [y5]) rfl ?_; rintro v14 wz ⟨ho14, hg14, h314, hb14⟩; obtain ⟨_, _, A14, c14, hv14, _, _⟩ := ho14.bytes.parts; rw [HN14.out] at hv14; subst hv14; have hbwz : Below w11.heap.size w11 wz := hbw.trans hb14; have hpPz := ((hpP).heap (W := wp) rfl).grown hg14 hap; clear hpP; have hpP := hpPz; have hFz := ho14.bytes; have HF := Lib.hid (HFIN.out wz (.slice A14 n14 c14) (.slice Ap nS cp) hbwz hFz hpP))
                | (have hbw : Below w11.heap.size w11 ((wa.alloc (.cells #[.int .u8 (y5 : Int)] 5))) := (HAL1.out _ (.cells #[.int .u8 (y5 : Int)] 5) hbwa); refine step_append_bytes (w := (wa.alloc (.cells #[.int .u8 (y5 : Int)] 5))) rfl (.tmp 114) (.tmp 116) rfl w11.heap.size v13 (.slice (some ⟨wa.heap.size, 0, none⟩) 1 1) T [y5] rfl (tl_heap (ho13.alloc (.cells #[.int .u8 (y5 : Int)] 5)) (W := (wa.alloc (.cells #[.int .u8 (y5 : Int)] 5))) rfl) rfl (((HY0.out wa)).heap (W := (wa.alloc (.cells #[.int .u8 (y5 : Int)] 5))) rfl) (by have := HNT.out; have := HTL.out; simp; omega) hbw.size (T ++ [y5]) rfl ?_; rintro v14 wz ⟨ho14, hg14, h314, hb14⟩; obtain ⟨_, _, A14, c14, hv14, _, _⟩ := ho14.bytes.parts; rw [HN14.out] at hv14; subst hv14; have hbwz : Below w11.heap.size w11 wz := hbw.trans hb14)
                | (go_at_call 13; have hbw : Below w11.heap.size w11 (wz) := hbwz; refine (HR2.out (wz) hbw).mono ?_; rintro e wp ⟨vp, rfl, hop, hxp⟩; obtain ⟨_, _, Ap, cp, hvp, _, _⟩ := hop.bytes.parts; rw [HNS.out] at hvp; subst hvp; have hbwp : Below w11.heap.size w11 wp := hbw.trans (hxp.mono hbw.size); have hszp : wz.heap.size + 0 ≤ wp.heap.size := (by have := hxp.size; (try simp only [World.drew, World.size_alloc] at this); omega); have hPl := hop.lt; have hFz := ((tl_heap ho14 (W := wz) rfl).under hxp).bytes; have hpP := hop.bytes; have HF := Lib.hid (HFIN.out wp (.slice A14 n14 c14) (.slice Ap nS cp) hbwp hFz hpP))
                | (go_at_call 13; have hbw : Below w11.heap.size w11 (wa) := hbwa; refine (HR2.out (wa) hbw).mono ?_; rintro e wp ⟨vp, rfl, hop, hxp⟩; obtain ⟨_, _, Ap, cp, hvp, _, _⟩ := hop.bytes.parts; rw [HNS.out] at hvp; subst hvp; have hbwp : Below w11.heap.size w11 wp := hbw.trans (hxp.mono hbw.size); have hszp : wa.heap.size + 0 ≤ wp.heap.size := (by have := hxp.size; (try simp only [World.drew, World.size_alloc] at this); omega); have hPl := hop.lt; have ho13p := (tl_heap ho13 (W := wa) rfl).under hxp; have hap := tl_apart (tl_heap ho13 (W := wa) rfl) hop; clear ho13; have ho13 := ho13p; have hpP := hop.bytes)
                | (have hbw : Below w11.heap.size w11 ((wp.alloc (.cells #[.int .u8 (y5 : Int)] 5))) := (HAL1.out _ (.cells #[.int .u8 (y5 : Int)] 5) hbwp); refine step_append_bytes (w := (wp.alloc (.cells #[.int .u8 (y5 : Int)] 5))) rfl (.tmp 114) (.tmp 116) rfl w11.heap.size v13 (.slice (some ⟨wp.heap.size, 0, none⟩) 1 1) T [y5] rfl (tl_heap (ho13.alloc (.cells #[.int .u8 (y5 : Int)] 5)) (W := (wp.alloc (.cells #[.int .u8 (y5 : Int)] 5))) rfl) rfl (((HY0.out wp)).heap (W := (wp.alloc (.cells #[.int .u8 (y5 : Int)] 5))) rfl) (by have := HNT.out; have := HTL.out; simp; omega) hbw.size (T ++ [y5]) rfl ?_; rintro v14 wz ⟨ho14, hg14, h314, hb14⟩; obtain ⟨_, _, A14, c14, hv14, _, _⟩ := ho14.bytes.parts; rw [HN14.out] at hv14; subst hv14; have hbwz : Below w11.heap.size w11 wz := hbw.trans hb14; have hpPz := (((hpP.alloc (.cells #[.int .u8 (y5 : Int)] 5))).heap (W := (wp.alloc (.cells #[.int .u8 (y5 : Int)] 5))) rfl).grown hg14 hap; clear hpP; have hpP := hpPz; have hFz := ho14.bytes; have HF := Lib.hid (HFIN.out wz (.slice A14 n14 c14) (.slice Ap nS cp) hbwz hFz hpP))
                | (go_at_call 13; have hbw : Below w11.heap.size w11 ((w11.alloc (.cells #[] 5)).drew) := ((HAL1.out _ (.cells #[] 5) (Below.refl _ _))).drew; refine (HR2.out ((w11.alloc (.cells #[] 5)).drew) hbw).mono ?_; rintro e wp ⟨vp, rfl, hop, hxp⟩; obtain ⟨_, _, Ap, cp, hvp, _, _⟩ := hop.bytes.parts; rw [HNS.out] at hvp; subst hvp; have hbwp : Below w11.heap.size w11 wp := hbw.trans (hxp.mono hbw.size); have hszp : w11.heap.size + 1 ≤ wp.heap.size := (by have := hxp.size; (try simp only [World.drew, World.size_alloc] at this); omega); have hPl := hop.lt; have hoE := (tl_heap (HE0.out w11 (Nat.le_refl _)) (W := (w11.alloc (.cells #[] 5)).drew) rfl).under hxp; have hap := tl_apart (tl_heap (HE0.out w11 (Nat.le_refl _)) (W := (w11.alloc (.cells #[] 5)).drew) rfl) hop; have hpP := hop.bytes)
                | (have hbw : Below w11.heap.size w11 ((wp.alloc (.cells #[.int .u8 (y5 : Int)] 5))) := (HAL1.out _ (.cells #[.int .u8 (y5 : Int)] 5) hbwp); refine step_append_bytes (w := (wp.alloc (.cells #[.int .u8 (y5 : Int)] 5))) rfl (.tmp 112) (.tmp 113) rfl w11.heap.size (.slice (some ⟨w11.heap.size, 0, none⟩) 0 0) (.slice AT nT cT) [] T rfl (tl_heap (hoE.alloc (.cells #[.int .u8 (y5 : Int)] 5)) (W := (wp.alloc (.cells #[.int .u8 (y5 : Int)] 5))) rfl) rfl (HB0.out _ hbw).2.1 (by have := HNT.out; have := HTL.out; simp; omega) hbw.size T rfl ?_; rintro v13 wa ⟨ho13, hg13, h313, hb13⟩; have hbwa : Below w11.heap.size w11 wa := hbw.trans hb13; have hzB := (((HY0.out wp)).heap (W := (wp.alloc (.cells #[.int .u8 (y5 : Int)] 5))) rfl).grown hg13 (.inr (by intro e; have e' : (some (wp.heap.size) : Option Nat) = some (w11.heap.size) := e; injection e' with e'; omega)); have hpPa := (((hpP.alloc (.cells #[.int .u8 (y5 : Int)] 5))).heap (W := (wp.alloc (.cells #[.int .u8 (y5 : Int)] 5))) rfl).grown hg13 hap; have hapa := tl_apart_grew hap h313 (fun k hk => by have := (hPl k hk).2; (try simp only [World.drew, World.size_alloc]); omega); clear hpP; have hpP := hpPa; clear hap; have hap := hapa)
                | (have hbw : Below w11.heap.size w11 (wa) := hbwa; refine step_append_bytes (w := wa) rfl (.tmp 114) (.tmp 116) rfl w11.heap.size v13 (.slice (some ⟨wp.heap.size, 0, none⟩) 1 1) T [y5] rfl (tl_heap ho13 (W := wa) rfl) rfl ((hzB).heap (W := wa) rfl) (by have := HNT.out; have := HTL.out; simp; omega) hbw.size (T ++ [y5]) rfl ?_; rintro v14 wz ⟨ho14, hg14, h314, hb14⟩; obtain ⟨_, _, A14, c14, hv14, _, _⟩ := ho14.bytes.parts; rw [HN14.out] at hv14; subst hv14; have hbwz : Below w11.heap.size w11 wz := hbw.trans hb14; have hpPz := ((hpP).heap (W := wa) rfl).grown hg14 hap; clear hpP; have hpP := hpPz; have hFz := ho14.bytes; have HF := Lib.hid (HFIN.out wz (.slice A14 n14 c14) (.slice Ap nS cp) hbwz hFz hpP))
                | (have hbw : Below w11.heap.size w11 (wp) := hbwp; refine step_append_bytes (w := wp) rfl (.tmp 112) (.tmp 113) rfl w11.heap.size (.slice (some ⟨w11.heap.size, 0, none⟩) 0 0) (.slice AT nT cT) [] T rfl (tl_heap hoE (W := wp) rfl) rfl (HB0.out _ hbw).2.1 (by have := HNT.out; have := HTL.out; simp; omega) hbw.size T rfl ?_; rintro v13 wa ⟨ho13, hg13, h313, hb13⟩; have hbwa : Below w11.heap.size w11 wa := hbw.trans hb13; have hpPa := ((hpP).heap (W := wp) rfl).grown hg13 hap; have hapa := tl_apart_grew hap h313 (fun k hk => by have := (hPl k hk).2; (try simp only [World.drew, World.size_alloc]); omega); clear hpP; have hpP := hpPa; clear hap; have hap := hapa)
                | (have hbw : Below w11.heap.size w11 ((wa.alloc (.cells #[.int .u8 (y5 : Int)] 5))) := (HAL1.out _ (.cells #[.int .u8 (y5 : Int)] 5) hbwa); refine step_append_bytes (w := (wa.alloc (.cells #[.int .u8 (y5 : Int)] 5))) rfl (.tmp 114) (.tmp 116) rfl w11.heap.size v13 (.slice (some ⟨wa.heap.size, 0, none⟩) 1 1) T [y5] rfl (tl_heap (ho13.alloc (.cells #[.int .u8 (y5 : Int)] 5)) (W := (wa.alloc (.cells #[.int .u8 (y5 : Int)] 5))) rfl) rfl (((HY0.out wa)).heap (W := (wa.alloc (.cells #[.int .u8 (y5 : Int)] 5))) rfl) (by have := HNT.out; have := HTL.out; simp; omega) hbw.size (T ++ [y5]) rfl ?_; rintro v14 wz ⟨ho14, hg14, h314, hb14⟩; obtain ⟨_, _, A14, c14, hv14, _, _⟩ := ho14.bytes.parts; rw [HN14.out] at hv14; subst hv14; have hbwz : Below w11.heap.size w11 wz := hbw.trans hb14; have hpPz := (((hpP.alloc (.cells #[.int .u8 (y5 : Int)] 5))).heap (W := (wa.alloc (.cells #[.int .u8 (y5 : Int)] 5))) rfl).grown hg14 hap; clear hpP; have hpP := hpPz; have hFz := ho14.bytes; have HF := Lib.hid (HFIN.out wz (.slice A14 n14 c14) (.slice Ap nS cp) hbwz hFz hpP))
                | (have hbw : Below w11.heap.size w11 (((w11.alloc (.cells #[.int .u8 (y5 : Int)] 5)).alloc (.cells #[] 5)).drew) := ((HAL1.out _ (.cells #[] 5) (HAL1.out _ (.cells #[.int .u8 (y5 : Int)] 5) (Below.refl _ _)))).drew; refine step_append_bytes (w := ((w11.alloc (.cells #[.int .u8 (y5 : Int)] 5)).alloc (.cells #[] 5)).drew) rfl (.tmp 112) (.tmp 113) rfl w11.heap.size (.slice (some ⟨w11.heap.size + 1, 0, none⟩) 0 0) (.slice AT nT cT) [] T rfl (tl_heap (HE1.out w11 (.cells #[.int .u8 (y5 : Int)] 5) (Nat.le_refl _)) (W := ((w11.alloc (.cells #[.int .u8 (y5 : Int)] 5)).alloc (.cells #[] 5)).drew) rfl) rfl (HB0.out _ hbw).2.1 (by have := HNT.out; have := HTL.out; simp; omega) hbw.size T rfl ?_; rintro v13 wa ⟨ho13, hg13, h313, hb13⟩; have hbwa : Below w11.heap.size w11 wa := hbw.trans hb13; have hzB := ((((HY0.out w11).alloc (.cells #[] 5))).heap (W := ((w11.alloc (.cells #[.int .u8 (y5 : Int)] 5)).alloc (.cells #[] 5)).drew) rfl).grown hg13 (.inr (by intro e; have e' : (some (w11.heap.size) : Option Nat) = some (w11.heap.size + 1) := e; injection e' with e'; omega)))
                | (go_at_call 13; have hbw : Below w11.heap.size w11 (wa) := hbwa; refine (HR2.out (wa) hbw).mono ?_; rintro e wp ⟨vp, rfl, hop, hxp⟩; obtain ⟨_, _, Ap, cp, hvp, _, _⟩ := hop.bytes.parts; rw [HNS.out] at hvp; subst hvp; have hbwp : Below w11.heap.size w11 wp := hbw.trans (hxp.mono hbw.size); have hszp : wa.heap.size + 0 ≤ wp.heap.size := (by have := hxp.size; (try simp only [World.drew, World.size_alloc] at this); omega); have hPl := hop.lt; have hzB := ((hzB).heap (W := wa) rfl).under hxp; have ho13p := (tl_heap ho13 (W := wa) rfl).under hxp; have hap := tl_apart (tl_heap ho13 (W := wa) rfl) hop; clear ho13; have ho13 := ho13p; have hpP := hop.bytes)
                | (have hbw : Below w11.heap.size w11 (wp) := hbwp; refine step_append_bytes (w := wp) rfl (.tmp 114) (.tmp 116) rfl w11.heap.size v13 (.slice (some ⟨w11.heap.size, 0, none⟩) 1 1) T [y5] rfl (tl_heap ho13 (W := wp) rfl) rfl ((hzB).heap (W := wp) rfl) (by have := HNT.out; have := HTL.out; simp; omega) hbw.size (T ++ [y5]) rfl ?_; rintro v14 wz ⟨ho14, hg14, h314, hb14⟩; obtain ⟨_, _, A14, c14, hv14, _, _⟩ := ho14.bytes.parts; rw [HN14.out] at hv14; subst hv14; have hbwz : Below w11.heap.size w11 wz := hbw.trans hb14; have hpPz := ((hpP).heap (W := wp) rfl).grown hg14 hap; clear hpP; have hpP := hpPz; have hFz := ho14.bytes; have HF := Lib.hid (HFIN.out wz (.slice A14 n14 c14) (.slice Ap nS cp) hbwz hFz hpP))
                | (have hbw : Below w11.heap.size w11 (wa) := hbwa; refine step_append_bytes (w := wa) rfl (.tmp 114) (.tmp 116) rfl w11.heap.size v13 (.slice (some ⟨w11.heap.size, 0, none⟩) 1 1) T [y5] rfl (tl_heap ho13 (W := wa) rfl) rfl ((hzB).heap (W := wa) rfl) (by have := HNT.out; have := HTL.out; simp; omega) hbw.size (T ++ [y5]) rfl ?_; rintro v14 wz ⟨ho14, hg14, h314, hb14⟩; obtain ⟨_, _, A14, c14, hv14, _, _⟩ := ho14.bytes.parts; rw [HN14.out] at hv14; subst hv14; have hbwz : Below w11.heap.size w11 wz := hbw.trans hb14)
                | (go_at_call 13; have hbw : Below w11.heap.size w11 (wz) := hbwz; refine (HR2.out (wz) hbw).mono ?_; rintro e wp ⟨vp, rfl, hop, hxp⟩; obtain ⟨_, _, Ap, cp, hvp, _, _⟩ := hop.bytes.parts; rw [HNS.out] at hvp; subst hvp; have hbwp : Below w11.heap.size w11 wp := hbw.trans (hxp.mono hbw.size); have hszp : wz.heap.size + 0 ≤ wp.heap.size := (by have := hxp.size; (try simp only [World.drew, World.size_alloc] at this); omega); have hPl := hop.lt; have hFz := ((tl_heap ho14 (W := wz) rfl).under hxp).bytes; have hpP := hop.bytes; have HF := Lib.hid (HFIN.out wp (.slice A14 n14 c14) (.slice Ap nS cp) hbwp hFz hpP))
                | (go_at_call 13; have hbw : Below w11.heap.size w11 (((w11.alloc (.cells #[.int .u8 (y5 : Int)] 5)).alloc (.cells #[] 5)).drew) := ((HAL1.out _ (.cells #[] 5) (HAL1.out _ (.cells #[.int .u8 (y5 : Int)] 5) (Below.refl _ _)))).drew; refine (HR2.out (((w11.alloc (.cells #[.int .u8 (y5 : Int)] 5)).alloc (.cells #[] 5)).drew) hbw).mono ?_; rintro e wp ⟨vp, rfl, hop, hxp⟩; obtain ⟨_, _, Ap, cp, hvp, _, _⟩ := hop.bytes.parts; rw [HNS.out] at hvp; subst hvp; have hbwp : Below w11.heap.size w11 wp := hbw.trans (hxp.mono hbw.size); have hszp : w11.heap.size + 2 ≤ wp.heap.size := (by have := hxp.size; (try simp only [World.drew, World.size_alloc] at this); omega); have hPl := hop.lt; have hoE := (tl_heap (HE1.out w11 (.cells #[.int .u8 (y5 : Int)] 5) (Nat.le_refl _)) (W := ((w11.alloc (.cells #[.int .u8 (y5 : Int)] 5)).alloc (.cells #[] 5)).drew) rfl).under hxp; have hap := tl_apart (tl_heap (HE1.out w11 (.cells #[.int .u8 (y5 : Int)] 5) (Nat.le_refl _)) (W := ((w11.alloc (.cells #[.int .u8 (y5 : Int)] 5)).alloc (.cells #[] 5)).drew) rfl) hop; have hzB := ((((HY0.out w11).alloc (.cells #[] 5))).heap (W := ((w11.alloc (.cells #[.int .u8 (y5 : Int)] 5)).alloc (.cells #[] 5)).drew) rfl).under hxp; have hpP := hop.bytes)
                | (have hbw : Below w11.heap.size w11 (wp) := hbwp; refine step_append_bytes (w := wp) rfl (.tmp 112) (.tmp 113) rfl w11.heap.size (.slice (some ⟨w11.heap.size + 1, 0, none⟩) 0 0) (.slice AT nT cT) [] T rfl (tl_heap hoE (W := wp) rfl) rfl (HB0.out _ hbw).2.1 (by have := HNT.out; have := HTL.out; simp; omega) hbw.size T rfl ?_; rintro v13 wa ⟨ho13, hg13, h313, hb13⟩; have hbwa : Below w11.heap.size w11 wa := hbw.trans hb13; have hzB := ((hzB).heap (W := wp) rfl).grown hg13 (.inr (by intro e; have e' : (some (w11.heap.size) : Option Nat) = some (w11.heap.size + 1) := e; injection e' with e'; omega)); have hpPa := ((hpP).heap (W := wp) rfl).grown hg13 hap; have hapa := tl_apart_grew hap h313 (fun k hk => by have := (hPl k hk).2; (try simp only [World.drew, World.size_alloc]); omega); clear hpP; have hpP := hpPa; clear hap; have hap := hapa)
                | (have hbw : Below w11.heap.size w11 (wa) := hbwa; refine step_append_bytes (w := wa) rfl (.tmp 114) (.tmp 116) rfl w11.heap.size v13 (.slice (some ⟨w11.heap.size, 0, none⟩) 1 1) T [y5] rfl (tl_heap ho13 (W := wa) rfl) rfl ((hzB).heap (W := wa) rfl) (by have := HNT.out; have := HTL.out; simp; omega) hbw.size (T ++ [y5]) rfl ?_; rintro v14 wz ⟨ho14, hg14, h314, hb14⟩; obtain ⟨_, _, A14, c14, hv14, _, _⟩ := ho14.bytes.parts; rw [HN14.out] at hv14; subst hv14; have hbwz : Below w11.heap.size w11 wz := hbw.trans hb14; have hpPz := ((hpP).heap (W := wa) rfl).grown hg14 hap; clear hpP; have hpP := hpPz; have hFz := ho14.bytes; have HF := Lib.hid (HFIN.out wz (.slice A14 n14 c14) (.slice Ap nS cp) hbwz hFz hpP))
                | (go_at_call 13; have hbw : Below w11.heap.size w11 ((w11.alloc (.cells #[.int .u8 (y5 : Int)] 5)).drew) := ((HAL1.out _ (.cells #[.int .u8 (y5 : Int)] 5) (Below.refl _ _))).drew; refine (HR2.out ((w11.alloc (.cells #[.int .u8 (y5 : Int)] 5)).drew) hbw).mono ?_; rintro e wp ⟨vp, rfl, hop, hxp⟩; obtain ⟨_, _, Ap, cp, hvp, _, _⟩ := hop.bytes.parts; rw [HNS.out] at hvp; subst hvp; have hbwp : Below w11.heap.size w11 wp := hbw.trans (hxp.mono hbw.size); have hszp : w11.heap.size + 1 ≤ wp.heap.size := (by have := hxp.size; (try simp only [World.drew, World.size_alloc] at this); omega); have hPl := hop.lt; have hzB := (((HY0.out w11)).heap (W := (w11.alloc (.cells #[.int .u8 (y5 : Int)] 5)).drew) rfl).under hxp; have hpP := hop.bytes)
                | (have hap : (Value.slice Ap nS cp).ownBlock = none ∨ (Value.slice Ap nS cp).ownBlock ≠ (Value.slice (some ⟨wp.heap.size, 0, none⟩) 0 0).ownBlock := tl_apart_at (.slice Ap nS cp) _ _ (fun k hk => (hPl k hk).2) (by omega); have hbw : Below w11.heap.size w11 ((wp.alloc (.cells #[] 5))) := (HAL1.out _ (.cells #[] 5) hbwp); refine step_append_bytes (w := (wp.alloc (.cells #[] 5))) rfl (.tmp 112) (.tmp 113) rfl w11.heap.size (.slice (some ⟨wp.heap.size, 0, none⟩) 0 0) (.slice AT nT cT) [] T rfl (tl_heap (HE0.out wp hbwp.size) (W := (wp.alloc (.cells #[] 5))) rfl) rfl (HB0.out _ hbw).2.1 (by have := HNT.out; have := HTL.out; simp; omega) hbw.size T rfl ?_; rintro v13 wa ⟨ho13, hg13, h313, hb13⟩; have hbwa : Below w11.heap.size w11 wa := hbw.trans hb13; have hzB := (((hzB.alloc (.cells #[] 5))).heap (W := (wp.alloc (.cells #[] 5))) rfl).grown hg13 (.inr (by intro e; have e' : (some (w11.heap.size) : Option Nat) = some (wp.heap.size) := e; injection e' with e'; omega)); have hpPa := (((hpP.alloc (.cells #[] 5))).heap (W := (wp.alloc (.cells #[] 5))) rfl).grown hg13 hap; have hapa := tl_apart_grew hap h313 (fun k hk => by have := (hPl k hk).2; (try simp only [World.drew, World.size_alloc]); omega); clear hpP; have hpP := hpPa; clear hap; have hap := hapa)
                | (have hbw : Below w11.heap.size w11 (wa) := hbwa; refine step_append_bytes (w := wa) rfl (.tmp 114) (.tmp 116) rfl w11.heap.size v13 (.slice (some ⟨w11.heap.size, 0, none⟩) 1 1) T [y5] rfl (tl_heap ho13 (W := wa) rfl) rfl ((hzB).heap (W := wa) rfl) (by have := HNT.out; have := HTL.out; simp; omega) hbw.size (T ++ [y5]) rfl ?_; rintro v14 wz ⟨ho14, hg14, h314, hb14⟩; obtain ⟨_, _, A14, c14, hv14, _, _⟩ := ho14.bytes.parts; rw [HN14.out] at hv14; subst hv14; have hbwz : Below w11.heap.size w11 wz := hbw.trans hb14; have hpPz := ((hpP).heap (W := wa) rfl).grown hg14 hap; clear hpP; have hpP := hpPz; have hFz := ho14.bytes; have HF := Lib.hid (HFIN.out wz (.slice A14 n14 c14) (.slice Ap nS cp) hbwz hFz hpP))
                | (go_at_call 13; have hbw : Below w11.heap.size w11 (w11.drew) := ((Below.refl _ _)).drew; refine (HR2.out (w11.drew) hbw).mono ?_; rintro e wp ⟨vp, rfl, hop, hxp⟩; obtain ⟨_, _, Ap, cp, hvp, _, _⟩ := hop.bytes.parts; rw [HNS.out] at hvp; subst hvp; have hbwp : Below w11.heap.size w11 wp := hbw.trans (hxp.mono hbw.size); have hszp : w11.heap.size + 0 ≤ wp.heap.size := (by have := hxp.size; (try simp only [World.drew, World.size_alloc] at this); omega); have hPl := hop.lt; have hpP := hop.bytes)
                | (have hap : (Value.slice Ap nS cp).ownBlock = none ∨ (Value.slice Ap nS cp).ownBlock ≠ (Value.slice (some ⟨wp.heap.size, 0, none⟩) 0 0).ownBlock := tl_apart_at (.slice Ap nS cp) _ _ (fun k hk => (hPl k hk).2) (by omega); have hbw : Below w11.heap.size w11 (((wp.alloc (.cells #[] 5)).alloc (.cells #[.int .u8 (y5 : Int)] 5))) := (HAL1.out _ (.cells #[.int .u8 (y5 : Int)] 5) (HAL1.out _ (.cells #[] 5) hbwp)); refine step_append_bytes (w := ((wp.alloc (.cells #[] 5)).alloc (.cells #[.int .u8 (y5 : Int)] 5))) rfl (.tmp 112) (.tmp 113) rfl w11.heap.size (.slice (some ⟨wp.heap.size, 0, none⟩) 0 0) (.slice AT nT cT) [] T rfl (tl_heap ((HE0.out wp hbwp.size).alloc (.cells #[.int .u8 (y5 : Int)] 5)) (W := ((wp.alloc (.cells #[] 5)).alloc (.cells #[.int .u8 (y5 : Int)] 5))) rfl) rfl (HB0.out _ hbw).2.1 (by have := HNT.out; have := HTL.out; simp; omega) hbw.size T rfl ?_; rintro v13 wa ⟨ho13, hg13, h313, hb13⟩; have hbwa : Below w11.heap.size w11 wa := hbw.trans hb13; have hzB := (((HY1.out wp (.cells #[] 5))).heap (W := ((wp.alloc (.cells #[] 5)).alloc (.cells #[.int .u8 (y5 : Int)] 5))) rfl).grown hg13 (.inr (by intro e; have e' : (some (wp.heap.size + 1) : Option Nat) = some (wp.heap.size) := e; injection e' with e'; omega)); have hpPa := ((((hpP.alloc (.cells #[] 5)).alloc (.cells #[.int .u8 (y5 : Int)] 5))).heap (W := ((wp.alloc (.cells #[] 5)).alloc (.cells #[.int .u8 (y5 : Int)] 5))) rfl).grown hg13 hap; have hapa := tl_apart_grew hap h313 (fun k hk => by have := (hPl k hk).2; (try simp only [World.drew, World.size_alloc]); omega); clear hpP; have hpP := hpPa; clear hap; have hap := hapa)
                | (have hbw : Below w11.heap.size w11 (wa) := hbwa; refine step_append_bytes (w := wa) rfl (.tmp 114) (.tmp 116) rfl w11.heap.size v13 (.slice (some ⟨wp.heap.size + 1, 0, none⟩) 1 1) T [y5] rfl (tl_heap ho13 (W := wa) rfl) rfl ((hzB).heap (W := wa) rfl) (by have := HNT.out; have := HTL.out; simp; omega) hbw.size (T ++ [y5]) rfl ?_; rintro v14 wz ⟨ho14, hg14, h314, hb14⟩; obtain ⟨_, _, A14, c14, hv14, _, _⟩ := ho14.bytes.parts; rw [HN14.out] at hv14; subst hv14; have hbwz : Below w11.heap.size w11 wz := hbw.trans hb14; have hpPz := ((hpP).heap (W := wa) rfl).grown hg14 hap; clear hpP; have hpP := hpPz; have hFz := ho14.bytes; have HF := Lib.hid (HFIN.out wz (.slice A14 n14 c14) (.slice Ap nS cp) hbwz hFz hpP))
                | (have hap : (Value.slice Ap nS cp).ownBlock = none ∨ (Value.slice Ap nS cp).ownBlock ≠ (Value.slice (some ⟨wp.heap.size, 0, none⟩) 0 0).ownBlock := tl_apart_at (.slice Ap nS cp) _ _ (fun k hk => (hPl k hk).2) (by omega); have hbw : Below w11.heap.size w11 ((wp.alloc (.cells #[] 5))) := (HAL1.out _ (.cells #[] 5) hbwp); refine step_append_bytes (w := (wp.alloc (.cells #[] 5))) rfl (.tmp 112) (.tmp 113) rfl w11.heap.size (.slice (some ⟨wp.heap.size, 0, none⟩) 0 0) (.slice AT nT cT) [] T rfl (tl_heap (HE0.out wp hbwp.size) (W := (wp.alloc (.cells #[] 5))) rfl) rfl (HB0.out _ hbw).2.1 (by have := HNT.out; have := HTL.out; simp; omega) hbw.size T rfl ?_; rintro v13 wa ⟨ho13, hg13, h313, hb13⟩; have hbwa : Below w11.heap.size w11 wa := hbw.trans hb13; have hpPa := (((hpP.alloc (.cells #[] 5))).heap (W := (wp.alloc (.cells #[] 5))) rfl).grown hg13 hap; have hapa := tl_apart_grew hap h313 (fun k hk => by have := (hPl k hk).2; (try simp only [World.drew, World.size_alloc]); omega); clear hpP; have hpP := hpPa; clear hap; have hap := hapa)
                | (have hbw : Below w11.heap.size w11 ((wa.alloc (.cells #[.int .u8 (y5 : Int)] 5))) := (HAL1.out _ (.cells #[.int .u8 (y5 : Int)] 5) hbwa); refine step_append_bytes (w := (wa.alloc (.cells #[.int .u8 (y5 : Int)] 5))) rfl (.tmp 114) (.tmp 116) rfl w11.heap.size v13 (.slice (some ⟨wa.heap.size, 0, none⟩) 1 1) T [y5] rfl (tl_heap (ho13.alloc (.cells #[.int .u8 (y5 : Int)] 5)) (W := (wa.alloc (.cells #[.int .u8 (y5 : Int)] 5))) rfl) rfl (((HY0.out wa)).heap (W := (wa.alloc (.cells #[.int .u8 (y5 : Int)] 5))) rfl) (by have := HNT.out; have := HTL.out; simp; omega) hbw.size (T ++ [y5]) rfl ?_; rintro v14 wz ⟨ho14, hg14, h314, hb14⟩; obtain ⟨_, _, A14, c14, hv14, _, _⟩ := ho14.bytes.parts; rw [HN14.out] at hv14; subst hv14; have hbwz : Below w11.heap.size w11 wz := hbw.trans hb14; have hpPz := (((hpP.alloc (.cells #[.int .u8 (y5 : Int)] 5))).heap (W := (wa.alloc (.cells #[.int .u8 (y5 : Int)] 5))) rfl).grown hg14 hap; clear hpP; have hpP := hpPz; have hFz := ho14.bytes; have HF := Lib.hid (HFIN.out wz (.slice A14 n14 c14) (.slice Ap nS cp) hbwz hFz hpP))
                | (have hap : (Value.slice Ap nS cp).ownBlock = none ∨ (Value.slice Ap nS cp).ownBlock ≠ (Value.slice (some ⟨wp.heap.size + 1, 0, none⟩) 0 0).ownBlock := tl_apart_at (.slice Ap nS cp) _ _ (fun k hk => (hPl k hk).2) (by omega); have hbw : Below w11.heap.size w11 (((wp.alloc (.cells #[.int .u8 (y5 : Int)] 5)).alloc (.cells #[] 5))) := (HAL1.out _ (.cells #[] 5) (HAL1.out _ (.cells #[.int .u8 (y5 : Int)] 5) hbwp)); refine step_append_bytes (w := ((wp.alloc (.cells #[.int .u8 (y5 : Int)] 5)).alloc (.cells #[] 5))) rfl (.tmp 112) (.tmp 113) rfl w11.heap.size (.slice (some ⟨wp.heap.size + 1, 0, none⟩) 0 0) (.slice AT nT cT) [] T rfl (tl_heap (HE1.out wp (.cells #[.int .u8 (y5 : Int)] 5) hbwp.size) (W := ((wp.alloc (.cells #[.int .u8 (y5 : Int)] 5)).alloc (.cells #[] 5))) rfl) rfl (HB0.out _ hbw).2.1 (by have := HNT.out; have := HTL.out; simp; omega) hbw.size T rfl ?_; rintro v13 wa ⟨ho13, hg13, h313, hb13⟩; have hbwa : Below w11.heap.size w11 wa := hbw.trans hb13; have hzB := ((((HY0.out wp).alloc (.cells #[] 5))).heap (W := ((wp.alloc (.cells #[.int .u8 (y5 : Int)] 5)).alloc (.cells #[] 5))) rfl).grown hg13 (.inr (by intro e; have e' : (some (wp.heap.size) : Option Nat) = some (wp.heap.size + 1) := e; injection e' with e'; omega)); have hpPa := ((((hpP.alloc (.cells #[.int .u8 (y5 : Int)] 5)).alloc (.cells #[] 5))).heap (W := ((wp.alloc (.cells #[.int .u8 (y5 : Int)] 5)).alloc (.cells #[] 5))) rfl).grown hg13 hap; have hapa := tl_apart_grew hap h313 (fun k hk => by have := (hPl k hk).2; (try simp only [World.drew, World.size_alloc]); omega); clear hpP; have hpP := hpPa; clear hap; have hap := hapa)
                | (have hbw : Below w11.heap.size w11 (wa) := hbwa; refine step_append_bytes (w := wa) rfl (.tmp 114) (.tmp 116) rfl w11.heap.size v13 (.slice (some ⟨wp.heap.size, 0, none⟩) 1 1) T [y5] rfl (tl_heap ho13 (W := wa) rfl) rfl ((hzB).heap (W := wa) rfl) (by have := HNT.out; have := HTL.out; simp; omega) hbw.size (T ++ [y5]) rfl ?_; rintro v14 wz ⟨ho14, hg14, h314, hb14⟩; obtain ⟨_, _, A14, c14, hv14, _, _⟩ := ho14.bytes.parts; rw [HN14.out] at hv14; subst hv14; have hbwz : Below w11.heap.size w11 wz := hbw.trans hb14; have hpPz := ((hpP).heap (W := wa) rfl).grown hg14 hap; clear hpP; have hpP := hpPz; have hFz := ho14.bytes; have HF := Lib.hid (HFIN.out wz (.slice A14 n14 c14) (.slice Ap nS cp) hbwz hFz hpP))
                | fail)
              all_goals go_wp2_with fail
              all_goals go_meet
              all_goals exact ⟨_, rfl, rfl, rfl, Lib.hid HF.out.1, Lib.hid HF.out.2⟩
            case rest =>
              obtain ⟨g, rfl, rfl, rfl, HX, HBX⟩ := hcut
              obtain ⟨wx, rfl⟩ : ∃ wy : World, wy = wc := ⟨_, rfl⟩
              have HALL : Hid (∀ i, i < 6 → (([b, T, T.set kk y5, T.take kk, T ++ [y5], S] : List (List Nat)).getD i []).length ≤ 10000) := Lib.hid (fun i hi => by
                have hb := HN3.out
                have ht := HNT.out
                have hs := HSL.out
                have htl := HTL.out
                have : i = 0 ∨ i = 1 ∨ i = 2 ∨ i = 3 ∨ i = 4 ∨ i = 5 := by omega
                rcases this with rfl | rfl | rfl | rfl | rfl | rfl
                · show b.length ≤ _; omega
                · show T.length ≤ _; omega
                · show (T.set kk y5).length ≤ _; rw [List.length_set]; omega
                · show (T.take kk).length ≤ _; rw [List.length_take]; omega
                · show (T ++ [y5]).length ≤ _; rw [List.length_append]; simp; omega
                · show S.length ≤ _; omega)
              obtain ⟨X, hX⟩ : ∃ X, ([b, T, T.set kk y5, T.take kk, T ++ [y5], S] : List (List Nat)) = X := ⟨_, rfl⟩
              rw [hX] at HX HALL
              have HWX := Lib.hid (HW9.out.trans (HBX.out.mono HW9.out.size))
              clear hX HU11 HB11 HW11 HT9 HO10 HB10 HBX hfk hck
              go_wp2_with fail
              go_loopg [123, 19, 20, 21, 22, 23, 24, 25, 26, 27, 28, 29] 6 (fun gg iv _ _ _ _ _ _ _ _ _ _ _ wr => ∃ j : Nat, j ≤ 6 ∧ 6 - j ≤ gg ∧ iv = .int .i64 (j : Int) ∧ Hid (Below wx.heap.size wx wr))
              case atStart => exact ⟨0, by omega, by omega, rfl, Lib.hid (Below.refl _ _)⟩
              case round =>
                obtain ⟨j, hj, hg, rfl, hB⟩ := hrel
                obtain ⟨wz, rfl⟩ : ∃ wy : World, wy = wr := ⟨_, rfl⟩
                by_cases hlt : j < 6
                · have hjI : (j : Int) < 6 := by omega
                  obtain ⟨bb, off, u, he, hcu, hbu⟩ := (HX.out.under hB.out).at hlt
                  injection he with he1
                  injection he1 with he3 he4
                  subst he3 he4
                  rw [Nat.zero_add] at hcu
                  have HXL := Lib.hid (HALL.out j hlt)
                  obtain ⟨x, hx⟩ : ∃ x, X.getD j [] = x := ⟨_, rfl⟩
                  rw [hx] at hbu HXL
                  have HU := Lib.hid hbu
                  clear hx hbu
                  obtain ⟨PP, hPP⟩ : ∃ P, Pr.parse 999 10000 x = P := ⟨_, rfl⟩
                  obtain ⟨VV, hVV⟩ : ∃ P, Pr.value 999 10000 x = P := ⟨_, rfl⟩
                  have HTXT : Hid (∀ d ∈ (PP.map Prod.fst).getD [], ∀ c ∈ d.text, c < 256) := Lib.hid (by rw [← hPP]; exact parse_texts HU.out.1)
                  have HC1 : Hid (∀ W, Below wz.heap.size wz W → Calls Try.prog 8 #[u] W fun e w' => ∃ u y, e = .returned (.tuple #[u, y, .bool PP.isSome]) ∧ RdD w' u ((PP.map Prod.fst).getD []) ∧ Rows2 w' y ((PP.map Prod.snd).getD []) ∧ Below W.heap.size W w') := Lib.hid (fun W hb => by rw [← hPP]; exact pparse_said u x W (HU.out.under hb) HXL.out)
                  have HC2 : Hid (∀ W, Below wz.heap.size wz W → Calls Try.prog 14 #[u] W fun e w' => ∃ u y, e = .returned (.tuple #[u, y, .bool PP.isSome]) ∧ RdD w' u ((PP.map Prod.fst).getD []) ∧ Rows2 w' y ((PP.map Prod.snd).getD []) ∧ Below W.heap.size W w') := Lib.hid (fun W hb => by rw [← hPP]; exact refpparse_said u x W (HU.out.under hb) HXL.out)
                  have HC3 : Hid (∀ W, Below wz.heap.size wz W → Calls Try.prog 9 #[u] W fun e w' => ∃ u, e = .returned (.tuple #[u, .bool VV.isSome]) ∧ Bytes w' u (VV.getD []) ∧ Below W.heap.size W w') := Lib.hid (fun W hb => by rw [← hVV]; exact pvalue_said u x W (HU.out.under hb) HXL.out)
                  have HC4 : Hid (∀ W, Below wz.heap.size wz W → Calls Try.prog 15 #[u] W fun e w' => ∃ u, e = .returned (.tuple #[u, .bool VV.isSome]) ∧ Bytes w' u (VV.getD []) ∧ Below W.heap.size W w') := Lib.hid (fun W hb => by rw [← hVV]; exact refpvalue_said u x W (HU.out.under hb) HXL.out)
                  obtain ⟨q1, hq1⟩ : ∃ q, PP.isSome = q := ⟨_, rfl⟩
                  obtain ⟨q2, hq2⟩ : ∃ q, VV.isSome = q := ⟨_, rfl⟩
                  obtain ⟨LL, hLL⟩ : ∃ L, (PP.map Prod.fst).getD [] = L := ⟨_, rfl⟩
                  obtain ⟨JJ, hJJ⟩ : ∃ L, (PP.map Prod.snd).getD [] = L := ⟨_, rfl⟩
                  obtain ⟨VL, hVL⟩ : ∃ L, VV.getD [] = L := ⟨_, rfl⟩
                  rw [hq1, hLL, hJJ] at HC1 HC2
                  rw [hq2, hVL] at HC3 HC4
                  rw [hLL] at HTXT
                  clear hPP hVV hq1 hq2 hLL hJJ hVL
                  go_wp2_with fail
                  refine (HC1.out wz (Below.refl _ _)).mono ?_
                  rintro e x1 ⟨a1, p1, rfl, ha1, hp1, hx1⟩
                  have hz1 : Below wz.heap.size wz x1 := hx1
                  have HZ1 := Lib.hid hz1
                  have HA1 := Lib.hid ha1
                  have HP1 := Lib.hid hp1
                  clear ha1 hp1 hx1 hz1
                  go_wp2_with fail
                  refine (HC2.out x1 HZ1.out).mono ?_
                  rintro e x2 ⟨a2, p2, rfl, ha2, hp2, hx2⟩
                  have HZ2 := Lib.hid (HZ1.out.trans (hx2.mono HZ1.out.size))
                  have HA12 := Lib.hid (HA1.out.under hx2)
                  have HP12 := Lib.hid (HP1.out.under hx2)
                  have HA2 := Lib.hid ha2
                  have HP2 := Lib.hid hp2
                  clear ha2 hp2 hx2 HA1 HP1
                  go_wp2_with fail
                  refine (HC3.out x2 HZ2.out).mono ?_
                  rintro e x3 ⟨a3, rfl, ha3, hx3⟩
                  have HZ3 := Lib.hid (HZ2.out.trans (hx3.mono HZ2.out.size))
                  have HA13 := Lib.hid (HA12.out.under hx3)
                  have HP13 := Lib.hid (HP12.out.under hx3)
                  have HA23 := Lib.hid (HA2.out.under hx3)
                  have HP23 := Lib.hid (HP2.out.under hx3)
                  have HV3 := Lib.hid ha3
                  clear ha3 hx3 HA12 HP12 HA2 HP2
                  go_wp2_with fail
                  refine (HC4.out x3 HZ3.out).mono ?_
                  rintro e x4 ⟨a4', rfl, ha4, hx4⟩
                  have HZ4 := Lib.hid (HZ3.out.trans (hx4.mono HZ3.out.size))
                  have HA14 := Lib.hid (HA13.out.under hx4)
                  have HP14 := Lib.hid (HP13.out.under hx4)
                  have HA24 := Lib.hid (HA23.out.under hx4)
                  have HP24 := Lib.hid (HP23.out.under hx4)
                  have HV34 := Lib.hid (HV3.out.under hx4)
                  have HV4 := Lib.hid ha4
                  clear ha4 hx4 HA13 HP13 HA23 HP23 HV3 HC1 HC2 HC3 HC4
                  have hqq1 : (q1 != q1) = false := by simp
                  have hqq2 : (q2 != q2) = false := by simp
                  go_wp2_with fail
                  refine (refsameact_any _ _ LL LL x4 HA14.out HA24.out HTXT.out HTXT.out).mono ?_
                  rintro e x5 ⟨rfl, nq5, rfl⟩
                  rw [show decide (LL = LL) = true from decide_eq_true rfl]
                  go_wp2_with fail
                  refine (samerows_any _ _ JJ JJ _ (HP14.out.heap (by rfl)) (HP24.out.heap (by rfl))).mono ?_
                  rintro e x6 ⟨rfl, nq6, rfl⟩
                  rw [show decide (JJ = JJ) = true from decide_eq_true rfl]
                  have rtv1 := run_text_at HV34.out ((x4.drewN nq5).drewN nq6) rfl
                  have rtv2 := run_text_at HV4.out ((x4.drewN nq5).drewN nq6) rfl
                  have rtv3 := run_text_at HV34.out (x4.drewN (nq5 + nq6)) rfl
                  have rtv4 := run_text_at HV4.out (x4.drewN (nq5 + nq6)) rfl
                  have hse : ((str VL).toList != (str VL).toList) = false := by simp
                  go_wp2
                  go_roundg (6 - (j + 1))
                  case measure => omega
                  case rel => exact ⟨j + 1, hlt, by omega, by go_num, Lib.hid (hB.out.trans ((HZ4.out.trans ((pbelow_drewN x4 (nq5 + nq6)).mono HZ4.out.size)).mono hB.out.size))⟩
                · obtain rfl : j = 6 := by omega
                  clear hlt
                  go_wp2_with fail
                  refine (pawake_any _).mono ?_
                  rintro e w2 ⟨rfl, hb2⟩
                  go_wp2
                  go_ret
                  exact ⟨rfl, (HWX.out.trans (hB.out.mono HWX.out.size)).trans (hb2.mono (Nat.le_trans HWX.out.size hB.out.size))⟩
end Go.Proofs.Ytdcefnjdbdnhfaa
