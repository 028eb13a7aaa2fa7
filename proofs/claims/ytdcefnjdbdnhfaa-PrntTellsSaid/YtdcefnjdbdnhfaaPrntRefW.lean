/- An action's bytes, and a print, as the document writes them. -/
import Derived.Test.YtdcefnjdbdnhfaaPrntWrite
import Derived.Test.YtdcefnjdbdnhfaaCodeRef
import Derived.Deep.RegionHeld
namespace Go.Proofs.Ytdcefnjdbdnhfaa
set_option maxRecDepth 100000
open Go.ChangeShapes Go.WideShapes Go.ChangeAt Go.RowKit

set_option maxRecDepth 100000 in
set_option maxHeartbeats 16000000 in
theorem refactbytes_any (v : Value) (L : List Pr.X) (w : World) (hv : RdX w v L) (hL : L.length ≤ 1000) (ht : ∀ d ∈ L, (∀ c ∈ d.text, c < 256) ∧ d.text.length ≤ 100000) :
    Calls Try.prog 29 #[v] w (Made w.heap.size (Pr.bytes L) w) := by
  have HV := Lib.hid hv
  have HT := Lib.hid ht
  have HPL := Lib.hid (preX_len L (fun d hd => (ht d hd).2))
  have HPE := Lib.hid (preX_end L)
  have HP0 : Hid (preX L 0 = Cd.enc L.length) := Lib.hid (by simp [preX])
  obtain ⟨A, c, rfl, hc⟩ := hv.parts
  obtain ⟨n, hn⟩ : ∃ n, L.length = n := ⟨_, rfl⟩
  rw [hn] at hc hL HV HPL HPE HP0 ⊢
  have HN := Lib.hid hn
  have HNM : Hid (∀ W, Calls Try.prog 27 #[.slice none 0 0, .int .i64 (n : Int)] W (Made W.heap.size (Cd.enc n) W)) := Lib.hid (fun W => by
    have := refnum_any (.slice none 0 0) [] (n : Int) W (bytes_none W) (by simp)
    rwa [List.nil_append, Pr.held_nat (by omega)] at this)
  clear hn ht hv
  go_enter Try.func29, Try.ntmps29
  go_wp2_with fail
  refine (HNM.out _).mono ?_
  rintro e w2 ⟨v2, rfl, ho2, hb2⟩
  rw [← HP0.out] at ho2
  have HO2 := Lib.hid ho2
  have HB2 := Lib.hid hb2
  clear ho2 hb2 HNM
  go_wp2_with fail
  go_loopg [3, 4] n (fun g bv iv wr => ∃ k : Nat, k ≤ n ∧ n - k ≤ g ∧ iv = .int .i64 (k : Int) ∧ Hid (Own wr w.heap.size bv (preX L k)) ∧ Hid (Below w.heap.size w wr))
  case atStart => exact ⟨0, by omega, by omega, rfl, HO2, HB2⟩
  case round =>
    obtain ⟨k, hk, hg, rfl, hO, hbl⟩ := hrel
    obtain ⟨wz, rfl⟩ : ∃ wx : World, wx = wr := ⟨_, rfl⟩
    by_cases hlt : k < n
    · have hkI : (k : Int) < (n : Int) := by omega
      have hk0 : (0 : Int) ≤ (k : Int) := by omega
      have hkL : k < L.length := by rw [HN.out]; exact hlt
      obtain ⟨b, off, rfl, p0, p1, p2⟩ := (HV.out.under hbl.out).at k hkL
      have HTX := Lib.hid (HT.out _ (List.getElem_mem hkL))
      have HNX := Lib.hid (preX_next L k hkL)
      obtain ⟨x, hx⟩ : ∃ x, L[k]'hkL = x := ⟨_, rfl⟩
      rw [hx] at p0 p1 p2 HTX HNX
      clear hx hkL
      obtain ⟨xk, xn, xt⟩ := x
      change wz.cell? ⟨b, off + k * 3, none⟩ = some (.int .i64 xk) at p0
      change wz.cell? ⟨b, off + k * 3 + 1, none⟩ = some (.int .i64 xn) at p1
      change wz.cell? ⟨b, off + k * 3 + 2, none⟩ = some (.string (str xt)) at p2
      change Hid ((∀ c ∈ xt, c < 256) ∧ xt.length ≤ 100000) at HTX
      have HPK := Lib.hid (HPL.out k hk)
      have HPB : Hid ((preX L k).length ≤ 200000000) := Lib.hid (by have := HPL.out k hk; have h4 : k * 100018 ≤ 1000 * 100018 := Nat.mul_le_mul_right _ (by omega); omega)
      have hsz := str_size xt
      obtain ⟨q, hq⟩ : ∃ q, xt.length = q := ⟨_, rfl⟩
      rw [hq] at hsz
      have HQ : Hid (xt.length = q ∧ q ≤ 100000) := Lib.hid ⟨hq, by have := HTX.out.2; omega⟩
      have HCV : Hid (∀ W : World, ∃ cap mz, (convert 9 23 (.string (str xt))).run Try.prog W = .ok (.slice (some ⟨W.heap.size, 0, none⟩) q cap) ((W.alloc (.cells (bytesRow (str xt) cap) 5 mz)).drew) ∧ Bytes (W.alloc (.cells (bytesRow (str xt) cap) 5 mz)).drew (.slice (some ⟨W.heap.size, 0, none⟩) q cap) xt) := Lib.hid (fun W => by
        obtain ⟨cap, mz, hcv, hc1, hc2, hc3⟩ := conv_text (str xt) W (by rw [hsz]; have := HQ.out.2; unfold maxLen; omega)
        rw [hsz] at hcv hc1
        exact ⟨cap, mz, hcv, ((mine_text W xt _ rfl _ cap q hsz HTX.out.1 (by rw [hsz]; exact hc1) hc2 mz hc3 _ (Nat.le_refl _)).bytes).heap rfl⟩)
      have HN1 : Hid (∀ W, Below wz.heap.size wz W → Calls Try.prog 27 #[u3, .int .i64 xk] W (Made W.heap.size (preX L k ++ Cd.enc (Cd.held xk)) W)) := Lib.hid (fun W hb => refnum_any _ _ xk W (hO.out.under hb).bytes (by have := HPB.out; omega))
      have HN2 : Hid (∀ W u, Bytes W u (preX L k ++ Cd.enc (Cd.held xk)) → Calls Try.prog 27 #[u, .int .i64 xn] W (Made W.heap.size (preX L k ++ Cd.enc (Cd.held xk) ++ Cd.enc (Cd.held xn)) W)) := Lib.hid (fun W u hu => refnum_any u _ xn W hu (by rw [List.length_append, Cd.enc_length]; have := HPB.out; omega))
      have HN3 : Hid (∀ W u y, Bytes W u (preX L k ++ Cd.enc (Cd.held xk) ++ Cd.enc (Cd.held xn)) → Bytes W y xt → Calls Try.prog 28 #[u, y] W (Made W.heap.size (preX L (k + 1)) W)) := Lib.hid (fun W u y hu hy => by
        have := refbytes_any u y _ xt W hu hy (by rw [List.length_append, List.length_append, Cd.enc_length, Cd.enc_length]; have := HPB.out; omega) (by have := HQ.out; omega)
        rw [HNX.out]
        unfold Pr.bytesX Pr.lb
        simpa [List.append_assoc] using this)
      have hb0 : Below wz.heap.size wz wz.drew := (Below.refl _ _).drew
      obtain ⟨s, hs⟩ : ∃ s, str xt = s := ⟨_, rfl⟩
      rw [hs] at p2 HCV
      clear hq hsz hs
      have HC3 : Hid (∀ W, Below wz.heap.size wz W → W.cell? ⟨b, off + k * 3, none⟩ = some (.int .i64 xk) ∧ W.cell? ⟨b, off + k * 3 + 1, none⟩ = some (.int .i64 xn) ∧ W.cell? ⟨b, off + k * 3 + 2, none⟩ = some (.string s)) := Lib.hid (fun W hb => ⟨cell_later hb p0, cell_later hb p1, cell_later hb p2⟩)
      obtain ⟨cap0, mz0, cv0, by0⟩ := HCV.out wz.drew
      have hbv : Below wz.heap.size wz ((wz.drew.alloc (.cells (bytesRow s cap0) 5 mz0)).drew) := (hb0.alloc (Nat.le_refl _) _).drew
      go_upto_region 5 with fail
      go_region_held (fun w' => w'.cell? ⟨b, off + k * 3, none⟩ = some (Value.int .i64 xk) ∧ w'.cell? ⟨b, off + k * 3 + 1, none⟩ = some (Value.int .i64 xn) ∧ w'.cell? ⟨b, off + k * 3 + 2, none⟩ = some (Value.string s)) (first | exact ⟨p0, p1, p2⟩ | exact s3 | exact s4 | exact s5 | go_keep)
        (first
        | (go_at_call_of 27 u3; refine (HN1.out _ hb0).mono ?_; rintro e w3 ⟨v3, rfl, ho3, hb3⟩; have hbn : Below wz.heap.size wz w3 := hb0.trans hb3; have s3 := HC3.out w3 hbn; obtain ⟨cap3, mz3, cv3, by3⟩ := HCV.out w3)
        | (go_at_call_of 27 u3; refine (HN1.out _ hbv).mono ?_; rintro e w3 ⟨v3, rfl, ho3, hb3⟩; have hbn : Below wz.heap.size wz w3 := hbv.trans (hb3.mono hbv.size); have s3 := HC3.out w3 hbn; have by3a := by0.under hb3)
        | (go_at_call_of 27 v3; refine (HN2.out _ _ ho3.bytes).mono ?_; rintro e w4 ⟨v4, rfl, ho4, hb4⟩; have hbm : Below wz.heap.size wz w4 := hbn.trans (hb4.mono hbn.size); have s4 := HC3.out w4 hbm; obtain ⟨cap4, mz4, cv4, by4⟩ := HCV.out w4; try (have by4a := by3a.under hb4))
        | (go_at_call_of 27 v3; refine (HN2.out ((w3.alloc (.cells (bytesRow s cap3) 5 mz3)).drew) _ ((ho3.bytes.alloc (.cells (bytesRow s cap3) 5 mz3)).heap rfl)).mono ?_; rintro e w4 ⟨v4, rfl, ho4, hb4⟩; have hbm : Below wz.heap.size wz w4 := (hbn.alloc hbn.size (.cells (bytesRow s cap3) 5 mz3)).drew.trans (hb4.mono (Nat.le_trans hbn.size (by simp))); have s4 := HC3.out w4 hbm; have by4a := by3.under hb4)
        | (go_at_call 28; refine (HN3.out ((w4.alloc (.cells (bytesRow s cap4) 5 mz4)).drew) _ _ ((ho4.bytes.alloc (.cells (bytesRow s cap4) 5 mz4)).heap rfl) by4).mono ?_; rintro e w5 ⟨v5, rfl, ho5, hb5⟩; have hbe : Below wz.heap.size wz w5 := (hbm.alloc hbm.size (.cells (bytesRow s cap4) 5 mz4)).drew.trans (hb5.mono (Nat.le_trans hbm.size (by simp))); have s5 := HC3.out w5 hbe; have HO5 := Lib.hid (ho5.more (base' := w.heap.size) (Nat.le_trans (Nat.le_trans hbl.out.size hbm.size) (by simp))); have HB5 := Lib.hid (hbl.out.trans (hbe.mono hbl.out.size)))
        | (go_at_call 28; refine (HN3.out _ _ _ ho4.bytes by4a).mono ?_; rintro e w5 ⟨v5, rfl, ho5, hb5⟩; have hbe : Below wz.heap.size wz w5 := hbm.trans (hb5.mono hbm.size); have s5 := HC3.out w5 hbe; have HO5 := Lib.hid (ho5.more (base' := w.heap.size) (by have h1 := hbl.out.size; have h2 := hbm.size; omega)); have HB5 := Lib.hid (hbl.out.trans (hbe.mono hbl.out.size))))
      all_goals go_wp2
      all_goals go_roundg (n - (k + 1))
      all_goals first
        | omega
        | exact ⟨k + 1, hlt, by omega, by go_num, HO5, HB5⟩
    · obtain rfl : k = n := by omega
      have HO3 := hO.out
      rw [HPE.out] at HO3
      have HO4 := Lib.hid HO3
      clear HO3
      go_wp2
      go_ret
      exact ⟨_, rfl, HO4.out, hbl.out⟩
set_option maxRecDepth 100000 in
set_option maxHeartbeats 8000000 in
theorem refpprint_any (v vi : Value) (L : List Pr.X) (I : List (List Nat)) (w : World) (hv : RdX w v L) (hi : Rows2 w vi I) (hL : L.length ≤ 100) (ht : ∀ d ∈ L, (∀ c ∈ d.text, c < 256) ∧ d.text.length ≤ 100000) (hI : I.length ≤ 1000) (hx : ∀ x ∈ I, x.length ≤ 100000) :
    Calls Try.prog 13 #[v, vi] w (Made w.heap.size (Pr.print (Pr.bytes L) I) w) := by
  have HW : Hid (Calls Try.prog 29 #[v] w (Made w.heap.size (Pr.bytes L) w)) := Lib.hid (refactbytes_any v L w hv (by omega) ht)
  have HI := Lib.hid hi
  have HX := Lib.hid hx
  obtain ⟨M, hM⟩ : ∃ M, Pr.bytes L = M := ⟨_, rfl⟩
  have HML : Hid (M.length ≤ 20000000) := Lib.hid (by
    have := preX_len L (fun d hd => (ht d hd).2) L.length (Nat.le_refl _)
    rw [preX_end, hM] at this
    have h4 : L.length * 100018 ≤ 100 * 100018 := Nat.mul_le_mul_right _ hL
    omega)
  rw [hM] at HW ⊢
  obtain ⟨A, c, rfl, hc⟩ := rows2_byte hi
  have HPL := Lib.hid (preI_len M I hx)
  have HPE := Lib.hid (preI_end M I)
  have HPN := Lib.hid (preI_next M I)
  obtain ⟨n, hn⟩ : ∃ n, I.length = n := ⟨_, rfl⟩
  rw [hn] at hc hI HI HPL HPE HPN ⊢
  have HP0 : Hid (Pr.lb M ++ Cd.enc n = preI M I 0) := Lib.hid (by unfold preI; rw [hn]; simp)
  have HN := Lib.hid hn
  have HB1C : Hid (∀ W u, Bytes W u M → Calls Try.prog 28 #[.slice none 0 0, u] W (Made W.heap.size (Pr.lb M) W)) := Lib.hid (fun W u hu => by
    have := refbytes_any (.slice none 0 0) u [] M W (bytes_none _) hu (by simp) (by have := HML.out; omega)
    unfold Pr.lb
    simpa using this)
  have HB2C : Hid (∀ W u, Bytes W u (Pr.lb M) → Calls Try.prog 27 #[u, .int .i64 (n : Int)] W (Made W.heap.size (preI M I 0) W)) := Lib.hid (fun W u hu => by
    have := refnum_any u (Pr.lb M) (n : Int) W hu (by have := HML.out; rw [Pr.lb_length]; omega)
    rwa [Pr.held_nat (by omega), HP0.out] at this)
  clear hn hv hi hx ht hL hM
  go_enter Try.func13, Try.ntmps13
  go_wp2_with fail
  refine HW.out.mono ?_
  rintro e w1 ⟨v1, rfl, ho1, hb1⟩
  have HO1 := Lib.hid ho1.bytes
  have HB1 := Lib.hid hb1
  clear ho1 hb1 HW
  go_wp2_with fail
  refine (HB1C.out w1 v1 HO1.out).mono ?_
  rintro e w2 ⟨v2, rfl, ho2, hb2⟩
  have HO2 := Lib.hid ho2.bytes
  have HB2 := Lib.hid (HB1.out.trans (hb2.mono HB1.out.size))
  clear ho2 hb2 HO1 HB1
  go_wp2_with fail
  refine (HB2C.out w2 v2 HO2.out).mono ?_
  rintro e w3 ⟨v3, rfl, ho3, hb3⟩
  have HO3 := Lib.hid (ho3.more (base' := w.heap.size) HB2.out.size)
  have HB3 := Lib.hid (HB2.out.trans (hb3.mono HB2.out.size))
  clear ho3 hb3 HO2 HB2 HP0 HB1C HB2C
  go_wp2_with fail
  go_loopg [5, 6] n (fun q bv iv wr => ∃ k : Nat, k ≤ n ∧ n - k ≤ q ∧ iv = .int .i64 (k : Int) ∧ Hid (Own wr w.heap.size bv (preI M I k)) ∧ Hid (Below w.heap.size w wr))
  case atStart => exact ⟨0, by omega, by omega, rfl, HO3, HB3⟩
  case round =>
    obtain ⟨k, hk, hq, rfl, hO, hB⟩ := hrel
    obtain ⟨wz, rfl⟩ : ∃ wx : World, wx = wr := ⟨_, rfl⟩
    by_cases hlt : k < n
    · have hkI : (k : Int) < (n : Int) := by omega
      obtain ⟨b, off, u, rfl, hcu, hbu⟩ := (HI.out.under hB.out).at hlt
      have HXK : Hid ((I.getD k []).length ≤ 100000) := Lib.hid (by
        have hk' : k < I.length := by rw [HN.out]; exact hlt
        rw [List.getD_eq_getElem?_getD, List.getElem?_eq_getElem hk']
        exact HX.out _ (List.getElem_mem hk'))
      have HNX := Lib.hid (HPN.out k hlt)
      obtain ⟨x, hxe⟩ : ∃ x, I.getD k [] = x := ⟨_, rfl⟩
      rw [hxe] at hbu HXK HNX
      have HBU := Lib.hid hbu
      have HC4 : Hid (Calls Try.prog 28 #[u5, u] wz (Made wz.heap.size (preI M I (k + 1)) wz)) := Lib.hid (by
        have := refbytes_any u5 u (preI M I k) x wz hO.out.bytes HBU.out (by have h1 := HPL.out k hk; have h4 : k * 100006 ≤ 1000 * 100006 := Nat.mul_le_mul_right _ (by omega); have := HML.out; omega) (by have := HXK.out; omega)
        rw [HNX.out]
        unfold Pr.lb
        rwa [List.append_assoc] at this)
      clear hxe hbu
      go_wp2_with fail
      refine HC4.out.mono ?_
      rintro e w4 ⟨v4, rfl, ho4, hb4⟩
      have HO4 := Lib.hid (ho4.more (base' := w.heap.size) hB.out.size)
      have HB4 := Lib.hid (hB.out.trans (hb4.mono hB.out.size))
      clear ho4 hb4 hcu hO hB
      go_wp2
      go_roundg (n - (k + 1))
      case measure => omega
      case rel => exact ⟨k + 1, hlt, by omega, by go_num, HO4, HB4⟩
    · obtain rfl : k = n := by omega
      have HO3 := hO.out
      rw [HPE.out] at HO3
      have HO4 := Lib.hid HO3
      clear HO3
      go_wp2
      go_ret
      exact ⟨_, rfl, HO4.out, hB.out⟩
end Go.Proofs.Ytdcefnjdbdnhfaa
