/- What comes of an action, as the document says. -/
import Derived.Test.YtdcefnjdbdnhfaaPrntCh2
import Derived.Test.YtdcefnjdbdnhfaaPrntRef2
namespace Go.Proofs.Ytdcefnjdbdnhfaa
set_option maxRecDepth 100000
open Go.ChangeShapes Go.WideShapes Go.ChangeAt Go.RowKit

theorem refchanged_any (d : Ac.D) (b : List Nat) (I : List (List Nat)) (vb vi : Value) (w : World) (h1 : 1 ≤ d.kind) (h2 : d.kind ≤ 11) (ht : ∀ c ∈ d.text, c < 256) (htl : d.text.length ≤ 64) (hb : Bytes w vb b) (hbl : b.length ≤ 1000) (hi : Rows2 w vi I) (hI : I.length ≤ 1000) (hx : ∀ x ∈ I, x.length ≤ 100000) :
    Calls Try.prog 35 #[.agg #[.int .i64 (d.kind : Int), .int .i64 (d.n : Int), .string (str d.text)], vb, vi] w fun e w' => CameIs w.heap.size w e w' (Ac.changed d b I) := by
  obtain ⟨k, n, t⟩ := d
  change 1 ≤ k at h1
  change k ≤ 11 at h2
  change ∀ c ∈ t, c < 256 at ht
  change t.length ≤ 64 at htl
  rcases Ac.kind_cases h1 h2 with e | e | e | e | e | e | e | e | e | e | e <;> subst e
  · exact rch1 n t vb vi w ht htl
  · exact rch2 n t I vb vi w hi hx _ rfl
  · exact rch3 n t I vb vi w hi hI hx
  · exact rch4 n t b vb vi w hb hbl
  · exact rch5 n t b vb vi w hb hbl
  · exact rch6 n t b vb vi w hb hbl
  · exact rch7 n t b vb vi w hb hbl
  · exact rch8 n t b vb vi w hb hbl
  · exact rch9 n t b vb vi w hb hbl
  · exact rch10 n t b vb vi w hb hbl ht htl
  · exact rch11 n t vb vi w
set_option maxRecDepth 100000 in
set_option maxHeartbeats 8000000 in
theorem refrun_any (v vi : Value) (L : List Ac.D) (I : List (List Nat)) (w : World) (hv : RdD w v L) (hi : Rows2 w vi I) (hI : I.length ≤ 1000) (hx : ∀ x ∈ I, x.length ≤ 100000) (ht : ∀ d ∈ L, (∀ c ∈ d.text, c < 256) ∧ d.text.length ≤ 1099511627776) (T : Option (List Nat)) (hT : T = Ac.run L I) :
    Calls Try.prog 17 #[v, vi] w fun e w' => CameIs w.heap.size w e w' T := by
  have HV := Lib.hid hv
  have HI := Lib.hid hi
  have HX := Lib.hid hx
  have HOK : Hid (Calls Try.prog 34 #[v] w fun e w' => e = .returned (.bool (Ac.ok L)) ∧ Below w.heap.size w w') := Lib.hid (refokact_any v L w hv ht)
  obtain ⟨A, c, rfl, hc⟩ := hv.parts
  obtain ⟨n, hn⟩ : ∃ n, L.length = n := ⟨_, rfl⟩
  rw [hn] at hc HV HOK ⊢
  have HN := Lib.hid hn
  rcases hok : Ac.ok L with _ | _
  · have HTN : Hid (T = none) := Lib.hid (by rw [hT]; unfold Ac.run; rw [hok]; rfl)
    rw [hok] at HOK
    clear hok hT hn hv hi hx ht
    go_enter Try.func17, Try.ntmps17
    go_wp2_with fail
    refine HOK.out.mono ?_
    rintro e w1 ⟨rfl, hb1⟩
    go_wp2
    go_ret2
    exact came_none HTN.out rfl hb1
  · have HSM := Lib.hid (Ac.ok_small hok)
    have HTR : Hid (T = Ac.go I L []) := Lib.hid (by rw [hT]; unfold Ac.run; rw [hok]; rfl)
    rw [hok] at HOK
    have hn8 : n ≤ 8 := by have := HSM.out.2.1; omega
    clear hok hT hn hv hi hx ht
    go_enter Try.func17, Try.ntmps17
    go_wp2_with fail
    refine HOK.out.mono ?_
    rintro e w1 ⟨rfl, hb1⟩
    have HB1 := Lib.hid hb1
    clear hb1 HOK
    go_wp2_with fail
    go_loopg [6, 7, 8, 9] n (fun q u i _ _ wr => ∃ k : Nat, k ≤ n ∧ n - k ≤ q ∧ i = .int .i64 (k : Int) ∧ Hid (∃ bk, bk.length ≤ 256 ∧ Mine wr w.heap.size u bk ∧ T = Ac.go I (L.drop k) bk) ∧ Hid (Below w.heap.size w wr))
    case atStart => exact ⟨0, by omega, by omega, rfl, Lib.hid ⟨[], by simp, mine_none _ _, by rw [List.drop_zero]; exact HTR.out⟩, HB1⟩
    case round =>
      obtain ⟨k, hk, hq, rfl, hM, hBl⟩ := hrel
      obtain ⟨bk, hbk, hm, hgo⟩ := hM.out
      obtain ⟨wz, rfl⟩ : ∃ wx : World, wx = wr := ⟨_, rfl⟩
      have HMK := Lib.hid hm
      have HGO := Lib.hid hgo
      have HBK := Lib.hid hbk
      clear hM hm hgo hbk
      by_cases hlt : k < n
      · have hkI : (k : Int) < (n : Int) := by omega
        have hkL : k < L.length := by rw [HN.out]; exact hlt
        obtain ⟨b, off, rfl, p0, p1, p2⟩ := (HV.out.under hBl.out).at k hkL
        have HGD := Lib.hid (HSM.out.2.2 _ (List.getElem_mem hkL))
        have HDR := Lib.hid (List.drop_eq_getElem_cons hkL)
        obtain ⟨d, hd⟩ : ∃ d, L[k]'hkL = d := ⟨_, rfl⟩
        rw [hd] at p0 p1 p2 HGD HDR
        clear hd hkL
        obtain ⟨x, hxc⟩ : ∃ x, Ac.changed d bk I = x := ⟨_, rfl⟩
        have HXC := Lib.hid hxc
        have HCC : Hid (Calls Try.prog 35 #[.agg #[.int .i64 (d.kind : Int), .int .i64 (d.n : Int), .string (str d.text)], u6, vi] wz fun e w' => CameIs wz.heap.size wz e w' x) := Lib.hid (by
          rw [← hxc]
          have h1 := HGD.out
          exact refchanged_any d bk I u6 vi wz h1.1 h1.2.1 h1.2.2.2.2 h1.2.2.2.1 HMK.out.bytes (by have := HBK.out; omega) (HI.out.under hBl.out) hI HX.out)
        clear hxc
        go_wp2_with fail
        refine HCC.out.mono ?_
        intro e w2 h2
        obtain ⟨u2, q2, l2, rfl, hm2, hb2, hx2, -⟩ := came_is h2
        have HM2 := Lib.hid (hm2.more (base' := w.heap.size) hBl.out.size)
        have HB2 := Lib.hid (hBl.out.trans (hb2.mono hBl.out.size))
        have HX2 := Lib.hid hx2
        obtain ⟨A2, c2, rfl, hc2, hcm2⟩ := hm2.parts
        obtain ⟨m2, hm2e⟩ : ∃ m, l2.length = m := ⟨_, rfl⟩
        rw [hm2e] at HM2 hc2 ⊢
        have HL2 := Lib.hid hm2e
        clear h2 hm2 hb2 hx2 hm2e p0 p1 p2 HCC
        rcases q2 with _ | _
        · have HTN : Hid (T = none) := Lib.hid (by rw [HGO.out, HDR.out, Ac.go, HXC.out, HX2.out]; rfl)
          go_wp2_with fail
          go_ret2
          exact came_none HTN.out rfl HB2.out
        · by_cases hbig : 256 < m2
          · have hbI : (256 : Int) < (m2 : Int) := by omega
            have HTN : Hid (T = none) := Lib.hid (by
              rw [HGO.out, HDR.out, Ac.go, HXC.out, HX2.out]
              show (if l2.length ≤ 256 then _ else none) = none
              rw [HL2.out, if_neg (by omega)])
            go_wp2_with fail
            go_ret2
            exact came_none HTN.out rfl HB2.out
          · have hbI : ¬ (256 : Int) < (m2 : Int) := by omega
            have HTG : Hid (T = Ac.go I (L.drop (k + 1)) l2) := Lib.hid (by
              rw [HGO.out, HDR.out, Ac.go, HXC.out, HX2.out]
              show (if l2.length ≤ 256 then _ else none) = _
              rw [HL2.out, if_pos (by omega)])
            go_wp2_with fail
            go_roundg (n - (k + 1))
            case measure => omega
            case rel => exact ⟨k + 1, hlt, by omega, by go_num, Lib.hid ⟨l2, by rw [HL2.out]; omega, HM2.out, HTG.out⟩, HB2⟩
      · obtain rfl : k = n := by omega
        have HTS : Hid (T = some bk) := Lib.hid (by rw [HGO.out, List.drop_of_length_le (by rw [HN.out]; exact Nat.le_refl _)]; rfl)
        clear hlt
        go_wp2
        go_ret2
        exact came_some HTS.out _ rfl HMK.out hBl.out
set_option maxRecDepth 100000 in
set_option maxHeartbeats 8000000 in
theorem refpvalue_any (v : Value) (b : List Nat) (w : World) (hv : Bytes w v b) (hb : b.length ≤ 100000) (T : Option (List Nat)) (hT : T = Pr.value 11 10000 b) (hbig : b.length ≤ 10000) :
    Calls Try.prog 15 #[v] w fun e w' => CameIs w.heap.size w e w' T := by
  have HP : Hid (Calls Try.prog 14 #[v] w fun e w' => PairIs w e w' (Pr.parse 11 10000 b)) := Lib.hid (refpparse_any v b w hv hb)
  obtain ⟨K, hK⟩ : ∃ K, Pr.parse 11 10000 b = K := ⟨_, rfl⟩
  have HG : Hid (∀ L I, K = some (L, I) → Ac.ok L = true ∧ I.length ≤ 8 ∧ ∀ x ∈ I, x.length ≤ 256 ∧ ∀ c ∈ x, c < 256) := Lib.hid (fun L I h => by
    rw [← hK, Pr.parse_two (m' := 10000) (by omega) (by omega)] at h
    exact Pr.parse_good hv.parts.1 h)
  have HT : Hid (T = Pr.came K) := Lib.hid (by rw [hT, Pr.value_eq, hK])
  rw [hK] at HP
  clear hT hK hv hbig
  go_enter Try.func15, Try.ntmps15
  go_wp2_with fail
  refine HP.out.mono ?_
  intro e w1 h1
  obtain ⟨u1, v1, q1, L, I, rfl, hu, hi, hb1, hk⟩ := pair_is h1
  clear h1 HP
  rcases q1 with _ | _
  · have HN : Hid (T = none) := Lib.hid (by rw [HT.out, hk]; rfl)
    have HB := Lib.hid hb1
    clear hk hu hi HG HT hb1
    go_wp2_with fail
    go_ret2
    exact came_none HN.out rfl HB.out
  · have HN : Hid (T = Ac.run L I) := Lib.hid (by rw [HT.out, hk]; rfl)
    have HGL := Lib.hid (HG.out L I hk)
    have HU := Lib.hid hu
    have HI := Lib.hid hi
    have HB := Lib.hid hb1
    clear hk hu hi HG HT hb1
    go_wp2_with fail
    refine (refrun_any u1 v1 L I w1 HU.out.rd HI.out.rows (by have := HGL.out.2.1; omega) (fun x hx => by have := (HGL.out.2.2 x hx).1; omega) (fun d hd => by
      obtain ⟨_, _, h3⟩ := Ac.ok_small HGL.out.1
      have := h3 d hd
      exact ⟨this.2.2.2.2, by omega⟩) T HN.out).mono ?_
    intro e w2 h2
    obtain ⟨u2, q2, l2, rfl, hm2, hb2, hk2⟩ := came_is h2
    have HM2 := Lib.hid (hm2.more (base' := w.heap.size) HB.out.size)
    have HB2 := Lib.hid (HB.out.trans (hb2.mono HB.out.size))
    have HK2 := Lib.hid hk2
    clear h2 hm2 hb2 hk2
    go_wp2_with fail
    go_ret2
    rcases q2 with _ | _
    · exact came_none (by rw [HK2.out.1]; rfl) (by rw [HK2.out.2 rfl]; rfl) HB2.out
    · exact came_some (by rw [HK2.out.1]; rfl) _ rfl HM2.out HB2.out
end Go.Proofs.Ytdcefnjdbdnhfaa
