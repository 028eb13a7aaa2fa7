/- The library's Reverse at bytes of the call's own. -/
import Derived.Test.YtldnpedegcbglaaActBytes
namespace Go.Proofs.Ytldnpedegcbglaa
set_option maxRecDepth 100000
open Go.ChangeShapes Go.WideShapes Go.ChangeAt Go.RowKit

/-- The first i and the last i stand in each other's place. -/
def sw (l : List Nat) (i : Nat) : List Nat := (List.range l.length).map fun j => if j < i ∨ l.length - i ≤ j then l.getD (l.length - 1 - j) 0 else l.getD j 0
theorem sw_len (l : List Nat) (i : Nat) : (sw l i).length = l.length := by simp [sw]
theorem sw_at (l : List Nat) (i j : Nat) (h : j < l.length) : (sw l i).getD j 0 = if j < i ∨ l.length - i ≤ j then l.getD (l.length - 1 - j) 0 else l.getD j 0 := by
  unfold sw
  rw [List.getD_eq_getElem?_getD, List.getElem?_map, List.getElem?_range h]
  rfl
theorem ext_getD {a b : List Nat} (hl : a.length = b.length) (h : ∀ j, j < a.length → a.getD j 0 = b.getD j 0) : a = b := by
  refine List.ext_getElem hl fun j h1 h2 => ?_
  have := h j h1
  rw [List.getD_eq_getElem?_getD, List.getD_eq_getElem?_getD, List.getElem?_eq_getElem h1, List.getElem?_eq_getElem h2] at this
  exact this
theorem sw_zero (l : List Nat) : sw l 0 = l := by
  refine ext_getD (sw_len l 0) fun j hj => ?_
  rw [sw_len] at hj
  rw [sw_at l 0 j hj, if_neg (by omega)]
theorem sw_next (l : List Nat) (i j : Nat) (h : i < j) (hj : j + i + 1 = l.length) : ((sw l i).set i (l.getD j 0)).set j (l.getD i 0) = sw l (i + 1) := by
  refine ext_getD (by simp [sw_len]) fun k hk => ?_
  simp only [List.length_set, sw_len] at hk
  rw [getD_set, getD_set, List.length_set, sw_len, sw_at l i k hk, sw_at l (i + 1) k hk]
  by_cases h1 : j = k
  · subst h1
    rw [if_pos ⟨rfl, by omega⟩, if_pos (by omega)]
    congr 1
    omega
  · rw [if_neg (by omega)]
    by_cases h2 : i = k
    · subst h2
      rw [if_pos ⟨rfl, by omega⟩, if_pos (by omega)]
      congr 1
      omega
    · rw [if_neg (by omega)]
      by_cases h3 : k < i ∨ l.length - i ≤ k
      · rw [if_pos h3, if_pos (by omega)]
      · rw [if_neg h3, if_neg (by omega)]
theorem sw_end (l : List Nat) (i : Nat) (h : l.length ≤ i + i + 1) : sw l i = l.reverse := by
  refine ext_getD (by rw [sw_len, List.length_reverse]) fun j hj => ?_
  rw [sw_len] at hj
  have e : l.reverse.getD j 0 = l.getD (l.length - 1 - j) 0 := by
    rw [List.getD_eq_getElem?_getD, List.getD_eq_getElem?_getD, List.getElem?_reverse hj]
  rw [sw_at l i j hj, e]
  by_cases h1 : j < i ∨ l.length - i ≤ j
  · rw [if_pos h1]
  · rw [if_neg h1]
    congr 1
    omega
set_option maxHeartbeats 4000000 in
theorem rev_any (base : Nat) (v : Value) (l : List Nat) (w : World) (h : Mine w base v l) (hl : l.length ≤ 1000000) :
    Calls Try.prog 53 #[v] w fun e w' => e = .returned (.tuple #[]) ∧ Mine w' base v l.reverse ∧ Below base w w' := by
  have H := Lib.hid h
  obtain ⟨A, c, rfl, hc, _⟩ := h.parts
  obtain ⟨n, hn⟩ : ∃ n, l.length = n := ⟨_, rfl⟩
  rw [hn] at hl hc H ⊢
  have HN := Lib.hid hn
  clear hn h
  go_enter Try.func53, Try.ntmps53
  go_wp2
  go_loopw [2, 3] (fun iv jv wr => ∃ (i : Nat) (jz : Int), i ≤ n ∧ iv = .int .i64 (i : Int) ∧ jv = .int .i64 jz ∧ Hid (jz + i + 1 = n) ∧ Hid (Mine wr base (.slice A n c) (sw l i)) ∧ Hid (Below base w wr)) (fun iv _ _ => n - (intOf iv).toNat)
  case atStart => exact ⟨0, (n : Int) - 1, Nat.zero_le _, rfl, rfl, Lib.hid (by omega), Lib.hid (by rw [sw_zero]; exact H.out), Lib.hid (Below.refl _ _)⟩
  case round =>
    obtain ⟨i, jz, hi, rfl, rfl, hj, hM, hbl⟩ := hrel
    by_cases hlt : (i : Int) < jz
    · obtain ⟨j, rfl⟩ : ∃ j : Nat, jz = j := ⟨jz.toNat, by omega⟩
      have hjn : j < n := by have := hj.out; omega
      have hij : i < j := by omega
      have hin : i < n := by omega
      obtain ⟨_, b, off, rfl, hb, hbs, hfz, hcell⟩ := hM.out.at (by omega)
      have hf1 := hfz i hin
      have hf2 := hfz j hjn
      have hc1 := hcell i hin
      have hc2 := hcell j hjn
      rw [sw_at _ _ _ (by rw [HN.out]; exact hin), if_neg (by rw [HN.out]; have := hj.out; omega)] at hc1
      rw [sw_at _ _ _ (by rw [HN.out]; exact hjn), if_neg (by rw [HN.out]; have := hj.out; omega)] at hc2
      have hx256 : l.getD i 0 < 256 := u8_lt (fun c hc => H.out.1 c hc) i
      have hy256 : l.getD j 0 < 256 := u8_lt (fun c hc => H.out.1 c hc) j
      have HSET : Hid (∀ W : World, W.heap = wr.heap → Mine ((W.setCell ⟨b, off + i, none⟩ (.int .u8 ((l.getD j 0 : Nat) : Int))).setCell ⟨b, off + j, none⟩ (.int .u8 ((l.getD i 0 : Nat) : Int))) base (.slice (some ⟨b, off, none⟩) n c) (sw l (i + 1))) := Lib.hid (fun W e => by
        have := (((hM.out.heap e).set hin hy256).set hjn hx256)
        rwa [sw_next l i j hij (by rw [HN.out]; have := hj.out; omega)] at this)
      have HBS : Hid (∀ (W : World) (u u' : Value), Below base w W → Below base w ((W.setCell ⟨b, off + i, none⟩ u).setCell ⟨b, off + j, none⟩ u')) := Lib.hid (fun W u u' h => (h.setCell (p := ⟨b, off + i, none⟩) hb u).setCell (p := ⟨b, off + j, none⟩) hb u')
      have hne : (⟨b, off + i, none⟩ : Addr) ≠ ⟨b, off + j, none⟩ := fun e => by injection e with _ e; omega
      have HJ := Lib.hid hj.out
      obtain ⟨x, hx⟩ : ∃ x, l.getD i 0 = x := ⟨_, rfl⟩
      obtain ⟨y, hy⟩ : ∃ y, l.getD j 0 = y := ⟨_, rfl⟩
      rw [hx] at hc1 hx256 HSET
      rw [hy] at hc2 hy256 HSET
      clear hcell hfz hx hy hM hj
      go_wp2_with fail
      go_region
      go_wp2
      go_roundw
      case rel => exact ⟨i + 1, (j : Int) - 1, by omega, by go_num, by go_num, Lib.hid (by have := HJ.out; omega), Lib.hid ((HSET.out wr rfl).heap rfl), Lib.hid (HBS.out wr _ _ hbl.out).drew⟩
      case measure => simp [intOf]; omega
    · have HM : Hid (Mine wr base (.slice A n c) l.reverse) := Lib.hid (by have := hM.out; rwa [sw_end l i (by rw [HN.out]; have := hj.out; omega)] at this)
      clear hj
      go_wp2
      go_end0
      exact ⟨rfl, HM.out, hbl.out⟩
end Go.Proofs.Ytldnpedegcbglaa
