/- An action's bytes, and a print, as packages acts and prnt write them, whatever its numbers are. -/
import Derived.Test.YtldnpedegcbglaaPrntMath
import Derived.Test.YtldnpedegcbglaaActRows
import Derived.Test.YtldnpedegcbglaaActRight
import Derived.Test.YtldnpedegcbglaaCode
import Derived.Test.YtldnpedegcbglaaActStep
import Derived.Test.YtldnpedegcbglaaRowsB
import Derived.Deep.DeepCutAuto
import Derived.Deep.CutRange
import Derived.Deep.RegionWith
namespace Go.Proofs.Ytldnpedegcbglaa
set_option maxRecDepth 100000
open Go.ChangeShapes Go.WideShapes Go.ChangeAt Go.RowKit

/-- A slice of things, with numbers of any size, that reads as a row. -/
def RdX (w : World) (v : Value) (R : List Pr.X) : Prop :=
  ∃ A c, v = .slice A R.length c ∧ R.length ≤ c ∧ R.length ≤ maxLen ∧ (0 < R.length → ∃ b off, A = some ⟨b, off, none⟩ ∧ ∀ k (h : k < R.length), w.cell? ⟨b, off + k * 3, none⟩ = some (.int .i64 (R[k]'h).kind) ∧ w.cell? ⟨b, off + k * 3 + 1, none⟩ = some (.int .i64 (R[k]'h).n) ∧ w.cell? ⟨b, off + k * 3 + 2, none⟩ = some (.string (str (R[k]'h).text)))
theorem RdX.under {w w' : World} {v : Value} {R : List Pr.X} (h : RdX w v R) (hb : Below w.heap.size w w') : RdX w' v R := by
  obtain ⟨A, c, rfl, h1, h2, h3⟩ := h
  refine ⟨A, c, rfl, h1, h2, fun h0 => ?_⟩
  obtain ⟨b, off, rfl, hc⟩ := h3 h0
  exact ⟨b, off, rfl, fun k hk => ⟨cell_later hb (hc k hk).1, cell_later hb (hc k hk).2.1, cell_later hb (hc k hk).2.2⟩⟩
theorem RdX.parts {w : World} {v : Value} {R : List Pr.X} (h : RdX w v R) : ∃ A c, v = .slice A R.length c ∧ R.length ≤ c := by
  obtain ⟨A, c, e, h, _⟩ := h
  exact ⟨A, c, e, h⟩
theorem RdX.at {w : World} {A : Option Addr} {n c : Nat} {R : List Pr.X} (h : RdX w (.slice A n c) R) (k : Nat) (hk : k < R.length) : ∃ b off, A = some ⟨b, off, none⟩ ∧ w.cell? ⟨b, off + k * 3, none⟩ = some (.int .i64 (R[k]'hk).kind) ∧ w.cell? ⟨b, off + k * 3 + 1, none⟩ = some (.int .i64 (R[k]'hk).n) ∧ w.cell? ⟨b, off + k * 3 + 2, none⟩ = some (.string (str (R[k]'hk).text)) := by
  obtain ⟨A', c', e, _, _, hx⟩ := h
  injection e with e1 e2 e3
  subst e1
  obtain ⟨b, off, rfl, hc⟩ := hx (by omega)
  exact ⟨b, off, rfl, hc k hk⟩
theorem RdD.x {w : World} {v : Value} {R : List Ac.D} (h : RdD w v R) : RdX w v (R.map Pr.ofD) := by
  obtain ⟨A, c, rfl, h1, h2, h3⟩ := h
  refine ⟨A, c, by rw [List.length_map], by rw [List.length_map]; exact h1, by rw [List.length_map]; exact h2, fun h0 => ?_⟩
  rw [List.length_map] at h0
  obtain ⟨b, off, rfl, hc⟩ := h3 h0
  refine ⟨b, off, rfl, fun k hk => ?_⟩
  have hk' : k < R.length := by rw [List.length_map] at hk; exact hk
  have := hc k hk'
  rw [List.getElem_map]
  exact this
/-- The first k things' bytes. -/
def preX (L : List Pr.X) (k : Nat) : List Nat := Cd.enc L.length ++ (L.take k).flatMap Pr.bytesX
theorem preX_next (L : List Pr.X) (k : Nat) (h : k < L.length) : preX L (k + 1) = preX L k ++ Pr.bytesX (L[k]'h) := by
  unfold preX
  rw [List.take_succ_eq_append_getElem h, List.flatMap_append, List.append_assoc]
  simp
theorem preX_end (L : List Pr.X) : preX L L.length = Pr.bytes L := by unfold preX Pr.bytes; rw [List.take_length]
theorem bytesX_len (d : Pr.X) : (Pr.bytesX d).length = 18 + d.text.length := by
  unfold Pr.bytesX Pr.lb
  simp only [List.length_append, Cd.enc_length]
  omega
theorem preX_len (L : List Pr.X) (h : ∀ d ∈ L, d.text.length ≤ 100000) : ∀ k, k ≤ L.length → (preX L k).length ≤ 6 + k * 100018
  | 0, _ => by simp [preX, Cd.enc_length]
  | k + 1, hk => by
    have ih := preX_len L h k (by omega)
    rw [preX_next L k hk, List.length_append, bytesX_len]
    have := h _ (List.getElem_mem hk)
    omega
theorem numx (v : Value) (l : List Nat) (n : Int) (w : World) (h : Bytes w v l) (hl : l.length ≤ 1000000) : Calls Try.prog 21 #[v, .int .i64 n] w (Made w.heap.size (l ++ Cd.enc (Cd.held n)) w) := num_any v l n w h (by omega)
set_option maxRecDepth 100000 in
set_option maxHeartbeats 16000000 in
theorem writex_any (v : Value) (L : List Pr.X) (w : World) (hv : RdX w v L) (hL : L.length ≤ 1000) (ht : ∀ d ∈ L, (∀ c ∈ d.text, c < 256) ∧ d.text.length ≤ 100000) :
    Calls Try.prog 23 #[v] w (Made w.heap.size (Pr.bytes L) w) := by
  have HV := Lib.hid hv
  have HT := Lib.hid ht
  have HPL := Lib.hid (preX_len L (fun d hd => (ht d hd).2))
  have HPE := Lib.hid (preX_end L)
  have HP0 : Hid (preX L 0 = Cd.enc L.length) := Lib.hid (by simp [preX])
  obtain ⟨A, c, rfl, hc⟩ := hv.parts
  obtain ⟨n, hn⟩ : ∃ n, L.length = n := ⟨_, rfl⟩
  rw [hn] at hc hL HV HPL HPE HP0 ⊢
  have HN := Lib.hid hn
  have HNM : Hid (∀ W, Calls Try.prog 21 #[.slice none 0 0, .int .i64 (n : Int)] W (Made W.heap.size (Cd.enc n) W)) := Lib.hid (fun W => by
    have := numx (.slice none 0 0) [] (n : Int) W (bytes_none W) (by simp)
    rwa [List.nil_append, Pr.held_nat (by omega)] at this)
  clear hn ht hv
  go_enter Try.func23, Try.ntmps23
  go_wp2_with fail
  refine (HNM.out _).mono ?_
  rintro e w2 ⟨v2, rfl, ho2, hb2⟩
  rw [← HP0.out] at ho2
  have HO2 := Lib.hid ho2
  have HB2 := Lib.hid hb2
  clear ho2 hb2 HNM
  go_wp2_with fail
  go_loopg [3, 12] n (fun g bv iv wr => ∃ k : Nat, k ≤ n ∧ n - k ≤ g ∧ iv = .int .i64 (k : Int) ∧ Hid (Own wr w.heap.size bv (preX L k)) ∧ Hid (Below w.heap.size w wr))
  case atStart => exact ⟨0, by omega, by omega, rfl, HO2, HB2⟩
  case round =>
    obtain ⟨k, hk, hg, rfl, hO, hbl⟩ := hrel
    obtain ⟨wz, rfl⟩ : ∃ wx : World, wx = wr := ⟨_, rfl⟩
    by_cases hlt : k < n
    · have hkI : (k : Int) < (n : Int) := by omega
      have hkL : k < L.length := by rw [HN.out]; exact hlt
      obtain ⟨b, off, rfl, p0, p1, p2⟩ := (HV.out.under hbl.out).at k hkL
      have HTX := Lib.hid (HT.out _ (List.getElem_mem hkL))
      have HNX := Lib.hid (preX_next L k hkL)
      obtain ⟨x, hx⟩ : ∃ x, L[k]'hkL = x := ⟨_, rfl⟩
      rw [hx] at p0 p1 p2 HTX HNX
      clear hx hkL
      obtain ⟨xk, xn, xt⟩ := x
      change wz.cell? ⟨b, off + k * 3, none⟩ = some (.int .i64 xk) at p0
      change wz.cell? ⟨b, off + k * 3 + 1, none⟩ = some (.int .i64 xn) at p1
      change wz.cell? ⟨b, off + k * 3 + 2, none⟩ = some (.string (str xt)) at p2
      change Hid ((∀ c ∈ xt, c < 256) ∧ xt.length ≤ 100000) at HTX
      obtain ⟨w1, hw1⟩ : ∃ w1, w1 = wz.alloc (.cells #[.int .i64 xk, .int .i64 xn, .string (str xt)] 26) := ⟨_, rfl⟩
      have HW1 : Hid (w1.heap.size = wz.heap.size + 1 ∧ Below wz.heap.size wz w1) := Lib.hid ⟨by rw [hw1]; simp, by rw [hw1]; exact (Below.refl _ _).alloc (Nat.le_refl _) _⟩
      have HBK : Hid (Blk w1 wz.heap.size 26 #[.int .i64 xk, .int .i64 xn, .string (str xt)]) := Lib.hid (by rw [hw1]; exact heap_alloc_new wz _)
      have HN1 : Hid (∀ W, Calls Try.prog 21 #[.slice none 0 0, .int .i64 xk] W (Made W.heap.size (Cd.enc (Cd.held xk)) W)) := Lib.hid (fun W => by
        have := numx (.slice none 0 0) [] xk W (bytes_none W) (by simp)
        rwa [List.nil_append] at this)
      have HN2 : Hid (∀ W u, Bytes W u (Cd.enc (Cd.held xk)) → Calls Try.prog 21 #[u, .int .i64 xn] W (Made W.heap.size (Cd.enc (Cd.held xk) ++ Cd.enc (Cd.held xn)) W)) := Lib.hid (fun W u hu => numx u (Cd.enc (Cd.held xk)) xn W hu (by rw [Cd.enc_length]; omega))
      have cn : ∀ W, Below w1.heap.size w1 W → W.cell? ⟨wz.heap.size, 1, none⟩ = some (.int .i64 xn) := fun W hb => (HBK.out.under hb).at 1
      have HCN := Lib.hid cn
      have c0 := HBK.out.at 0
      have c1 := HBK.out.at 1
      change w1.cell? ⟨wz.heap.size, 0, none⟩ = some (.int .i64 xk) at c0
      change w1.cell? ⟨wz.heap.size, 1, none⟩ = some (.int .i64 xn) at c1
      clear cn
      go_upto_region 5 with fail
      rw [← hw1]
      clear hw1 p0 p1 p2
      go_cut [6] (fun s6 wx => Hid (Bytes wx s6 (Cd.enc (Cd.held xk) ++ Cd.enc (Cd.held xn))) ∧ Hid (Below w1.heap.size w1 wx))
      case first =>
        go_region_with (first | (go_at_call_of 21 (Value.slice none 0 0); refine (HN1.out _).mono ?_; rintro e w3 ⟨v3, rfl, ho3, hb3⟩; have hbn : Below w1.heap.size w1 w3 := ((Below.refl _ w1).drew).trans hb3; have cn3 := HCN.out w3 hbn) | (go_at_call 21; refine (HN2.out _ _ ho3.bytes).mono ?_; rintro e w4 ⟨v4, rfl, ho4, hb4⟩; have hbm : Below w1.heap.size w1 w4 := hbn.trans (hb4.mono hbn.size)))
        all_goals (go_wp2_with fail; go_meet; exact ⟨Lib.hid ho4.bytes, Lib.hid hbm⟩)
      case rest =>
        obtain ⟨hB6, hb6⟩ := hcut
        obtain ⟨wx, rfl⟩ : ∃ wx : World, wx = wc := ⟨_, rfl⟩
        have c2 := (HBK.out.under hb6.out).at 2
        change wx.cell? ⟨wz.heap.size, 2, none⟩ = some (.string (str xt)) at c2
        have hsz := str_size xt
        obtain ⟨q, hq⟩ : ∃ q, xt.length = q := ⟨_, rfl⟩
        rw [hq] at hsz
        have HQ : Hid (xt.length = q ∧ q ≤ 100000) := Lib.hid ⟨hq, by have := HTX.out.2; omega⟩
        obtain ⟨cap, mz, hcv, hc1, hc2, hc3⟩ := conv_text (str xt) wx (by rw [hsz]; have := HQ.out.2; unfold maxLen; omega)
        rw [hsz] at hcv hc1
        have HX0 : Hid (Bytes ((wx.alloc (.cells (bytesRow (str xt) cap) 5 mz)).drew) (.slice (some ⟨wx.heap.size, 0, none⟩) q cap) xt) := Lib.hid (((mine_text wx xt _ rfl _ cap q hsz HTX.out.1 (by rw [hsz]; exact hc1) hc2 mz hc3 _ (Nat.le_refl _)).bytes).heap rfl)
        have HBX : Hid (Below wx.heap.size wx ((wx.alloc (.cells (bytesRow (str xt) cap) 5 mz)).drew)) := Lib.hid ((Below.refl _ _).alloc (Nat.le_refl _) _).drew
        have HW3 : Hid (Below wz.heap.size wz wx) := Lib.hid (HW1.out.2.trans (hb6.out.mono (by have := HW1.out.1; omega)))
        have HCB : Hid (∀ W, Bytes W u6 (Cd.enc (Cd.held xk) ++ Cd.enc (Cd.held xn)) → Bytes W (.slice (some ⟨wx.heap.size, 0, none⟩) q cap) xt → Calls Try.prog 22 #[u6, .slice (some ⟨wx.heap.size, 0, none⟩) q cap] W (Made W.heap.size (Pr.bytesX ⟨xk, xn, xt⟩) W)) := Lib.hid (fun W h1 h2 => by
          have := bytes_any u6 _ _ xt W h1 h2 (by simp [Cd.enc_length]) (by have := HQ.out; omega)
          unfold Pr.bytesX Pr.lb
          simpa [List.append_assoc] using this)
        clear hc1 hc2 hc3 hq c0 c1
        obtain ⟨s, hs⟩ : ∃ s, str xt = s := ⟨_, rfl⟩
        rw [hs] at hsz c2 hcv HX0 HBX
        clear hs
        go_wp2_with fail
        refine (HCB.out _ (hB6.out.under HBX.out) HX0.out).mono ?_
        rintro e w5 ⟨v5, rfl, ho5, hb5⟩
        have HB5 := Lib.hid (HBX.out.trans (hb5.mono HBX.out.size))
        have HW5 := Lib.hid (HW3.out.trans (HB5.out.mono HW3.out.size))
        have HO5 := Lib.hid (hO.out.under HW5.out)
        have HX5 := Lib.hid ho5.bytes
        clear hb5 ho5 hcv c2
        go_wp2_with (at_builtin; refine wpList_append_bytes rfl _ _ rfl w.heap.size _ _ (preX L k) (Pr.bytesX ⟨xk, xn, xt⟩) rfl HO5.out rfl HX5.out ?_ ?_ (preX L (k + 1)) HNX.out.symm ?_)
        case refine_1 =>
          have h1 := HPL.out k hk
          have h2 := bytesX_len ⟨xk, xn, xt⟩
          change _ = 18 + xt.length at h2
          have h3 := HQ.out
          have h4 : k * 100018 ≤ 1000 * 100018 := Nat.mul_le_mul_right _ (by omega)
          omega
        case refine_2 => exact Nat.le_trans hbl.out.size HW5.out.size
        case refine_3 =>
          rintro u' w' ⟨hO', _, _, hb'⟩
          have HO' := Lib.hid hO'
          have HB' := Lib.hid ((hbl.out.trans (HW5.out.mono hbl.out.size)).trans hb')
          clear hO' hb'
          go_wp2
          go_roundg (n - (k + 1))
          case measure => omega
          case rel => exact ⟨k + 1, hlt, by omega, by go_num, HO', HB'⟩
    · obtain rfl : k = n := by omega
      have HO3 := hO.out
      rw [HPE.out] at HO3
      have HO4 := Lib.hid HO3
      clear HO3
      go_wp2
      go_ret
      exact ⟨_, rfl, HO4.out, hbl.out⟩
/-- The first k inputs' bytes, behind an action's. -/
def preI (M : List Nat) (I : List (List Nat)) (k : Nat) : List Nat := Pr.lb M ++ (Cd.enc I.length ++ (I.take k).flatMap Pr.lb)
theorem preI_next (M : List Nat) (I : List (List Nat)) (k : Nat) (h : k < I.length) : preI M I (k + 1) = preI M I k ++ Pr.lb (I.getD k []) := by
  unfold preI
  rw [List.take_succ_eq_append_getElem h, List.flatMap_append, List.getD_eq_getElem?_getD, List.getElem?_eq_getElem h]
  simp [List.append_assoc]
theorem preI_end (M : List Nat) (I : List (List Nat)) : preI M I I.length = Pr.print M I := by unfold preI Pr.print; rw [List.take_length]
theorem preI_len (M : List Nat) (I : List (List Nat)) (h : ∀ x ∈ I, x.length ≤ 100000) (k : Nat) (hk : k ≤ I.length) : (preI M I k).length ≤ 12 + M.length + k * 100006 := by
  have h1 := Pr.lbs_len (I.take k) 100000 (fun x hx => h x (List.mem_of_mem_take hx))
  rw [List.length_take, Nat.min_eq_left hk] at h1
  unfold preI
  rw [List.length_append, List.length_append, Pr.lb_length, Cd.enc_length]
  omega
theorem rows2_byte {w : World} {v : Value} {I : List (List Nat)} (h : Rows2 w v I) : ∃ A c, v = .slice A I.length c ∧ I.length ≤ c := by
  obtain ⟨_, A, c, rfl, hc, _⟩ := h
  exact ⟨A, c, rfl, hc⟩
set_option maxRecDepth 100000 in
set_option maxHeartbeats 8000000 in
theorem pprint_any (v vi : Value) (L : List Pr.X) (I : List (List Nat)) (w : World) (hv : RdX w v L) (hi : Rows2 w vi I) (hL : L.length ≤ 100) (ht : ∀ d ∈ L, (∀ c ∈ d.text, c < 256) ∧ d.text.length ≤ 100000) (hI : I.length ≤ 1000) (hx : ∀ x ∈ I, x.length ≤ 100000) :
    Calls Try.prog 8 #[v, vi] w (Made w.heap.size (Pr.print (Pr.bytes L) I) w) := by
  have HW : Hid (Calls Try.prog 23 #[v] w (Made w.heap.size (Pr.bytes L) w)) := Lib.hid (writex_any v L w hv (by omega) ht)
  have HI := Lib.hid hi
  have HX := Lib.hid hx
  obtain ⟨M, hM⟩ : ∃ M, Pr.bytes L = M := ⟨_, rfl⟩
  have HML : Hid (M.length ≤ 20000000) := Lib.hid (by
    have := preX_len L (fun d hd => (ht d hd).2) L.length (Nat.le_refl _)
    rw [preX_end, hM] at this
    have h4 : L.length * 100018 ≤ 100 * 100018 := Nat.mul_le_mul_right _ hL
    omega)
  rw [hM] at HW ⊢
  obtain ⟨A, c, rfl, hc⟩ := rows2_byte hi
  have HPL := Lib.hid (preI_len M I hx)
  have HPE := Lib.hid (preI_end M I)
  have HPN := Lib.hid (preI_next M I)
  obtain ⟨n, hn⟩ : ∃ n, I.length = n := ⟨_, rfl⟩
  rw [hn] at hc hI HI HPL HPE HPN ⊢
  have HP0 : Hid (Pr.lb M ++ Cd.enc n = preI M I 0) := Lib.hid (by unfold preI; rw [hn]; simp)
  have HN := Lib.hid hn
  clear hn hv hi hx ht hL hM
  go_enter Try.func8, Try.ntmps8
  go_wp2_with fail
  refine HW.out.mono ?_
  rintro e w1 ⟨v1, rfl, ho1, hb1⟩
  have HO1 := Lib.hid ho1.bytes
  have HB1 := Lib.hid hb1
  clear ho1 hb1 HW
  go_wp2_with fail
  refine (bytes_is (.slice none 0 0) v1 [] M (Pr.lb M) w1 (bytes_none _) HO1.out (by simp) (by have := HML.out; omega) (by unfold Pr.lb; rw [List.nil_append])).mono ?_
  rintro e w2 ⟨v2, rfl, ho2, hb2⟩
  have HO2 := Lib.hid ho2.bytes
  have HB2 := Lib.hid (HB1.out.trans (hb2.mono HB1.out.size))
  clear ho2 hb2 HO1 HB1
  go_wp2_with fail
  refine (num_is v2 (Pr.lb M) (preI M I 0) (n : Int) w2 HO2.out (by have := HML.out; rw [Pr.lb_length]; omega) (by rw [Pr.held_nat (by omega)]; exact HP0.out)).mono ?_
  rintro e w3 ⟨v3, rfl, ho3, hb3⟩
  have HO3 := Lib.hid (ho3.more (base' := w.heap.size) HB2.out.size)
  have HB3 := Lib.hid (HB2.out.trans (hb3.mono HB2.out.size))
  clear ho3 hb3 HO2 HB2 HP0
  go_wp2_with fail
  go_loopg [5, 16] n (fun q bv iv wr => ∃ k : Nat, k ≤ n ∧ n - k ≤ q ∧ iv = .int .i64 (k : Int) ∧ Hid (Own wr w.heap.size bv (preI M I k)) ∧ Hid (Below w.heap.size w wr))
  case atStart => exact ⟨0, by omega, by omega, rfl, HO3, HB3⟩
  case round =>
    obtain ⟨k, hk, hq, rfl, hO, hB⟩ := hrel
    obtain ⟨wz, rfl⟩ : ∃ wx : World, wx = wr := ⟨_, rfl⟩
    by_cases hlt : k < n
    · have hkI : (k : Int) < (n : Int) := by omega
      obtain ⟨b, off, u, rfl, hcu, hbu⟩ := (HI.out.under hB.out).at hlt
      have HXK : Hid ((I.getD k []).length ≤ 100000) := Lib.hid (by
        have hk' : k < I.length := by rw [HN.out]; exact hlt
        rw [List.getD_eq_getElem?_getD, List.getElem?_eq_getElem hk']
        exact HX.out _ (List.getElem_mem hk'))
      have HNX := Lib.hid (HPN.out k hlt)
      obtain ⟨x, hxe⟩ : ∃ x, I.getD k [] = x := ⟨_, rfl⟩
      rw [hxe] at hbu HXK HNX
      have HBU := Lib.hid hbu
      clear hxe hbu
      go_wp2_with fail
      refine (bytes_is (.slice none 0 0) u [] x (Pr.lb x) wz (bytes_none _) HBU.out (by simp) (by have := HXK.out; omega) (by unfold Pr.lb; rw [List.nil_append])).mono ?_
      rintro e w4 ⟨v4, rfl, ho4, hb4⟩
      have HO4 := Lib.hid ho4.bytes
      have HP4 := Lib.hid (hO.out.under hb4)
      have HB4 := Lib.hid (hB.out.trans (hb4.mono hB.out.size))
      clear ho4 hb4 hcu
      go_wp2_with (at_builtin; refine wpList_append_bytes rfl _ _ rfl w.heap.size _ _ (preI M I k) (Pr.lb x) rfl HP4.out rfl HO4.out ?_ ?_ (preI M I (k + 1)) HNX.out.symm ?_)
      case refine_1 =>
        have h1 := HPL.out k hk
        have h2 := Pr.lb_length x
        have h3 := HXK.out
        have h4 : k * 100006 ≤ 1000 * 100006 := Nat.mul_le_mul_right _ (by omega)
        have h5 := HML.out
        omega
      case refine_2 => exact HB4.out.size
      case refine_3 =>
        rintro u' w' ⟨hO', _, _, hb'⟩
        have HO' := Lib.hid hO'
        have HB' := Lib.hid (HB4.out.trans hb')
        clear hO' hb'
        go_wp2
        go_roundg (n - (k + 1))
        case measure => omega
        case rel => exact ⟨k + 1, hlt, by omega, by go_num, HO', HB'⟩
    · obtain rfl : k = n := by omega
      have HO3 := hO.out
      rw [HPE.out] at HO3
      have HO4 := Lib.hid HO3
      clear HO3
      go_wp2
      go_ret
      exact ⟨_, rfl, HO4.out, hB.out⟩
end Go.Proofs.Ytldnpedegcbglaa
