/- An action's bytes, as package acts writes them. -/
import Derived.Test.YtfeaolcgjkkadaaDoorActRows
import Derived.Test.YtfeaolcgjkkadaaDoorCode
import Derived.Test.YtfeaolcgjkkadaaDoorActStep
import Derived.Deep.DeepCutAuto
import Derived.Deep.CutRange
import Derived.Deep.RegionWith
namespace Go.Proofs.YtfeaolcgjkkadaaDoor
set_option maxRecDepth 100000
open Go.ChangeShapes Go.WideShapes Go.ChangeAt Go.RowKit

theorem held_nat {n : Nat} (h : n ≤ 1000000) : Cd.held (n : Int) = n := by unfold Cd.held; omega
theorem num_small (v : Value) (l : List Nat) (n : Nat) (w : World) (h : Bytes w v l) (hl : l.length ≤ 1000000) (hn : n ≤ 1000000) : Calls Tryd.prog 24 #[v, .int .i64 (n : Int)] w (Made w.heap.size (l ++ Cd.enc n) w) := by
  have := num_any v l (n : Int) w h (by omega)
  rwa [held_nat hn] at this
/-- The first k things' bytes. -/
def pre (L : List Ac.D) (k : Nat) : List Nat := Cd.enc L.length ++ (L.take k).flatMap Ac.bytesD
theorem pre_next (L : List Ac.D) (k : Nat) (h : k < L.length) : pre L (k + 1) = pre L k ++ Ac.bytesD (L[k]'h) := by
  unfold pre
  rw [List.take_succ_eq_append_getElem h, List.flatMap_append, List.append_assoc]
  simp
theorem pre_end (L : List Ac.D) : pre L L.length = Ac.bytes L := by unfold pre Ac.bytes; rw [List.take_length]
theorem bytesD_len (d : Ac.D) : (Ac.bytesD d).length = 18 + d.text.length := by
  unfold Ac.bytesD
  simp only [List.length_append, Cd.enc_length]
  omega
theorem pre_len (L : List Ac.D) (h : ∀ d ∈ L, d.text.length ≤ 100000) : ∀ k, k ≤ L.length → (pre L k).length ≤ 6 + k * 100018
  | 0, _ => by simp [pre, Cd.enc_length]
  | k + 1, hk => by
    have ih := pre_len L h k (by omega)
    rw [pre_next L k hk, List.length_append, bytesD_len]
    have := h _ (List.getElem_mem hk)
    omega
set_option maxRecDepth 100000 in
set_option maxHeartbeats 16000000 in
theorem write_any (v : Value) (L : List Ac.D) (w : World) (hv : RdD w v L) (hL : L.length ≤ 1000) (ht : ∀ d ∈ L, d.kind ≤ 1000000 ∧ d.n ≤ 1000000 ∧ (∀ c ∈ d.text, c < 256) ∧ d.text.length ≤ 100000) :
    Calls Tryd.prog 15 #[v] w (Made w.heap.size (Ac.bytes L) w) := by
  have HV := Lib.hid hv
  have HT := Lib.hid ht
  have HPL := Lib.hid (pre_len L (fun d hd => (ht d hd).2.2.2))
  have HPE := Lib.hid (pre_end L)
  have HP0 : Hid (pre L 0 = Cd.enc L.length) := Lib.hid (by simp [pre])
  obtain ⟨A, c, rfl, hc⟩ := hv.parts
  obtain ⟨n, hn⟩ : ∃ n, L.length = n := ⟨_, rfl⟩
  rw [hn] at hc hL HV HPL HPE HP0 ⊢
  have HN := Lib.hid hn
  have HNM : Hid (∀ W, Calls Tryd.prog 24 #[.slice none 0 0, .int .i64 (n : Int)] W (Made W.heap.size (Cd.enc n) W)) := Lib.hid (fun W => by
    have := num_small (.slice none 0 0) [] n W (bytes_none W) (by simp) (by omega)
    rwa [List.nil_append] at this)
  clear hn ht hv
  go_enter Tryd.func15, Tryd.ntmps15
  go_wp2_with fail
  refine (HNM.out _).mono ?_
  rintro e w2 ⟨v2, rfl, ho2, hb2⟩
  rw [← HP0.out] at ho2
  have HO2 := Lib.hid ho2
  have HB2 := Lib.hid hb2
  clear ho2 hb2 HNM
  go_wp2_with fail
  go_loopg [3, 12] n (fun g bv iv wr => ∃ k : Nat, k ≤ n ∧ n - k ≤ g ∧ iv = .int .i64 (k : Int) ∧ Hid (Own wr w.heap.size bv (pre L k)) ∧ Hid (Below w.heap.size w wr))
  case atStart => exact ⟨0, by omega, by omega, rfl, HO2, HB2⟩
  case round =>
    obtain ⟨k, hk, hg, rfl, hO, hbl⟩ := hrel
    obtain ⟨wz, rfl⟩ : ∃ wx : World, wx = wr := ⟨_, rfl⟩
    by_cases hlt : k < n
    · have hkI : (k : Int) < (n : Int) := by omega
      have hkL : k < L.length := by rw [HN.out]; exact hlt
      obtain ⟨b, off, rfl, p0, p1, p2⟩ := (HV.out.under hbl.out).at k hkL
      have HTX := Lib.hid (HT.out _ (List.getElem_mem hkL))
      have HNX := Lib.hid (pre_next L k hkL)
      obtain ⟨x, hx⟩ : ∃ x, L[k]'hkL = x := ⟨_, rfl⟩
      rw [hx] at p0 p1 p2 HTX HNX
      clear hx hkL
      obtain ⟨xk, xn, xt⟩ := x
      change wz.cell? ⟨b, off + k * 3, none⟩ = some (.int .i64 (xk : Int)) at p0
      change wz.cell? ⟨b, off + k * 3 + 1, none⟩ = some (.int .i64 (xn : Int)) at p1
      change wz.cell? ⟨b, off + k * 3 + 2, none⟩ = some (.string (str xt)) at p2
      change Hid (xk ≤ 1000000 ∧ xn ≤ 1000000 ∧ (∀ c ∈ xt, c < 256) ∧ xt.length ≤ 100000) at HTX
      obtain ⟨w1, hw1⟩ : ∃ w1, w1 = wz.alloc (.cells #[.int .i64 (xk : Int), .int .i64 (xn : Int), .string (str xt)] 28) := ⟨_, rfl⟩
      have HW1 : Hid (w1.heap.size = wz.heap.size + 1 ∧ Below wz.heap.size wz w1) := Lib.hid ⟨by rw [hw1]; simp, by rw [hw1]; exact (Below.refl _ _).alloc (Nat.le_refl _) _⟩
      have HBK : Hid (Blk w1 wz.heap.size 28 #[.int .i64 (xk : Int), .int .i64 (xn : Int), .string (str xt)]) := Lib.hid (by rw [hw1]; exact heap_alloc_new wz _)
      have HN1 : Hid (∀ W, Calls Tryd.prog 24 #[.slice none 0 0, .int .i64 (xk : Int)] W (Made W.heap.size (Cd.enc xk) W)) := Lib.hid (fun W => by
        have := num_small (.slice none 0 0) [] xk W (bytes_none W) (by simp) HTX.out.1
        rwa [List.nil_append] at this)
      have HN2 : Hid (∀ W u, Bytes W u (Cd.enc xk) → Calls Tryd.prog 24 #[u, .int .i64 (xn : Int)] W (Made W.heap.size (Cd.enc xk ++ Cd.enc xn) W)) := Lib.hid (fun W u hu => num_small u (Cd.enc xk) xn W hu (by rw [Cd.enc_length]; omega) HTX.out.2.1)
      have cn : ∀ W, Below w1.heap.size w1 W → W.cell? ⟨wz.heap.size, 1, none⟩ = some (.int .i64 (xn : Int)) := fun W hb => (HBK.out.under hb).at 1
      have HCN := Lib.hid cn
      have c0 := HBK.out.at 0
      have c1 := HBK.out.at 1
      change w1.cell? ⟨wz.heap.size, 0, none⟩ = some (.int .i64 (xk : Int)) at c0
      change w1.cell? ⟨wz.heap.size, 1, none⟩ = some (.int .i64 (xn : Int)) at c1
      clear cn
      go_upto_region 5 with fail
      rw [← hw1]
      clear hw1 p0 p1 p2
      go_cut [6] (fun s6 wx => Hid (Bytes wx s6 (Cd.enc xk ++ Cd.enc xn)) ∧ Hid (Below w1.heap.size w1 wx))
      case first =>
        go_region_with (first | (go_at_call_of 24 (Value.slice none 0 0); refine (HN1.out _).mono ?_; rintro e w3 ⟨v3, rfl, ho3, hb3⟩; have hbn : Below w1.heap.size w1 w3 := ((Below.refl _ w1).drew).trans hb3; have cn3 := HCN.out w3 hbn) | (go_at_call 24; refine (HN2.out _ _ ho3.bytes).mono ?_; rintro e w4 ⟨v4, rfl, ho4, hb4⟩; have hbm : Below w1.heap.size w1 w4 := hbn.trans (hb4.mono hbn.size)))
        all_goals (go_wp2_with fail; go_meet; exact ⟨Lib.hid ho4.bytes, Lib.hid hbm⟩)
      case rest =>
        obtain ⟨hB6, hb6⟩ := hcut
        obtain ⟨wx, rfl⟩ : ∃ wx : World, wx = wc := ⟨_, rfl⟩
        have c2 := (HBK.out.under hb6.out).at 2
        change wx.cell? ⟨wz.heap.size, 2, none⟩ = some (.string (str xt)) at c2
        have hsz := str_size xt
        obtain ⟨q, hq⟩ : ∃ q, xt.length = q := ⟨_, rfl⟩
        rw [hq] at hsz
        have HQ : Hid (xt.length = q ∧ q ≤ 100000) := Lib.hid ⟨hq, by have := HTX.out.2.2.2; omega⟩
        obtain ⟨cap, mz, hcv, hc1, hc2, hc3⟩ := conv_text (str xt) wx (by rw [hsz]; have := HQ.out.2; unfold maxLen; omega)
        rw [hsz] at hcv hc1
        have HX0 : Hid (Bytes ((wx.alloc (.cells (bytesRow (str xt) cap) 5 mz)).drew) (.slice (some ⟨wx.heap.size, 0, none⟩) q cap) xt) := Lib.hid (((mine_text wx xt _ rfl _ cap q hsz HTX.out.2.2.1 (by rw [hsz]; exact hc1) hc2 mz hc3 _ (Nat.le_refl _)).bytes).heap rfl)
        have HBX : Hid (Below wx.heap.size wx ((wx.alloc (.cells (bytesRow (str xt) cap) 5 mz)).drew)) := Lib.hid ((Below.refl _ _).alloc (Nat.le_refl _) _).drew
        have HW3 : Hid (Below wz.heap.size wz wx) := Lib.hid (HW1.out.2.trans (hb6.out.mono (by have := HW1.out.1; omega)))
        have HCB : Hid (∀ W, Bytes W u6 (Cd.enc xk ++ Cd.enc xn) → Bytes W (.slice (some ⟨wx.heap.size, 0, none⟩) q cap) xt → Calls Tryd.prog 25 #[u6, .slice (some ⟨wx.heap.size, 0, none⟩) q cap] W (Made W.heap.size (Ac.bytesD ⟨xk, xn, xt⟩) W)) := Lib.hid (fun W h1 h2 => by
          have := bytes_any u6 _ _ xt W h1 h2 (by simp [Cd.enc_length]) (by have := HQ.out; omega)
          unfold Ac.bytesD
          simpa [List.append_assoc] using this)
        clear hc1 hc2 hc3 hq c0 c1
        obtain ⟨s, hs⟩ : ∃ s, str xt = s := ⟨_, rfl⟩
        rw [hs] at hsz c2 hcv HX0 HBX
        clear hs
        go_wp2_with fail
        refine (HCB.out _ (hB6.out.under HBX.out) HX0.out).mono ?_
        rintro e w5 ⟨v5, rfl, ho5, hb5⟩
        have HB5 := Lib.hid (HBX.out.trans (hb5.mono HBX.out.size))
        have HW5 := Lib.hid (HW3.out.trans (HB5.out.mono HW3.out.size))
        have HO5 := Lib.hid (hO.out.under HW5.out)
        have HX5 := Lib.hid ho5.bytes
        clear hb5 ho5 hcv c2
        go_wp2_with (at_builtin; refine wpList_append_bytes rfl _ _ rfl w.heap.size _ _ (pre L k) (Ac.bytesD ⟨xk, xn, xt⟩) rfl HO5.out rfl HX5.out ?_ ?_ (pre L (k + 1)) HNX.out.symm ?_)
        case refine_1 =>
          have h1 := HPL.out k hk
          have h2 := bytesD_len ⟨xk, xn, xt⟩
          change _ = 18 + xt.length at h2
          have h3 := HQ.out
          have h4 : k * 100018 ≤ 1000 * 100018 := Nat.mul_le_mul_right _ (by omega)
          omega
        case refine_2 => exact Nat.le_trans hbl.out.size HW5.out.size
        case refine_3 =>
          rintro u' w' ⟨hO', _, _, hb'⟩
          have HO' := Lib.hid hO'
          have HB' := Lib.hid ((hbl.out.trans (HW5.out.mono hbl.out.size)).trans hb')
          clear hO' hb'
          go_wp2
          go_roundg (n - (k + 1))
          case measure => omega
          case rel => exact ⟨k + 1, hlt, by omega, by go_num, HO', HB'⟩
    · obtain rfl : k = n := by omega
      have HO3 := hO.out
      rw [HPE.out] at HO3
      have HO4 := Lib.hid HO3
      clear HO3
      go_wp2
      go_ret
      exact ⟨_, rfl, HO4.out, hbl.out⟩
end Go.Proofs.YtfeaolcgjkkadaaDoor
