/- What package acts does to bytes that are the call's own: letters turned, backwards, twice, with a text between. -/
import Derived.Test.YtldnpedegcbglaaMine
import Derived.Test.YtldnpedegcbglaaActMath
import Derived.Lib.AppendStr
import Derived.Lib.Hide
import Derived.RegionTactic
import Derived.BigQuiet
import Derived.Deep.QuietTactic
namespace Go.Proofs.Ytldnpedegcbglaa
set_option maxRecDepth 100000
open Go.ChangeShapes Go.WideShapes Go.ChangeAt Go.RowKit

def turned (f t c : Nat) : Nat := if f ≤ c ∧ c < f + 26 then c - f + t else c
theorem turned_upper (l : List Nat) : l.map (turned 97 65) = l.map Ac.upper := List.map_congr_left fun c _ => by
  unfold turned Ac.upper
  by_cases h : 97 ≤ c ∧ c ≤ 122
  · rw [if_pos (by omega), if_pos h]; omega
  · rw [if_neg (by omega), if_neg h]
theorem turned_lower (l : List Nat) : l.map (turned 65 97) = l.map Ac.lower := List.map_congr_left fun c _ => by
  unfold turned Ac.lower
  by_cases h : 65 ≤ c ∧ c ≤ 90
  · rw [if_pos (by omega), if_pos h]; omega
  · rw [if_neg (by omega), if_neg h]
/-- The first k are turned. -/
def half (g : Nat → Nat) (l : List Nat) (k : Nat) : List Nat := (l.take k).map g ++ l.drop k
theorem half_len (g : Nat → Nat) (l : List Nat) (k : Nat) : (half g l k).length = l.length := by
  unfold half
  rw [List.length_append, List.length_map, List.length_take, List.length_drop]
  omega
theorem half_at (g : Nat → Nat) (l : List Nat) (k : Nat) (h : k < l.length) : (half g l k).getD k 0 = l.getD k 0 := by
  unfold half
  rw [List.getD_eq_getElem?_getD, List.getD_eq_getElem?_getD, List.getElem?_append_right (by rw [List.length_map, List.length_take]; omega), List.length_map, List.length_take, List.getElem?_drop]
  congr 2
  omega
theorem half_set (g : Nat → Nat) (l : List Nat) (k : Nat) (h : k < l.length) : (half g l k).set k (g (l.getD k 0)) = half g l (k + 1) := by
  unfold half
  have e : (List.map g (l.take k)).length = k := by rw [List.length_map, List.length_take]; omega
  rw [List.set_append_right _ _ (by omega), e, Nat.sub_self, List.drop_eq_getElem_cons h, List.take_succ_eq_append_getElem h, List.map_append, List.append_assoc, List.getD_eq_getElem?_getD, List.getElem?_eq_getElem h]
  rfl
theorem half_same (g : Nat → Nat) (l : List Nat) (k : Nat) (h : k < l.length) (e : g (l.getD k 0) = l.getD k 0) : half g l k = half g l (k + 1) := by
  rw [← half_set g l k h, e, ← half_at g l k h, List.getD_eq_getElem?_getD, List.getElem?_eq_getElem (by rw [half_len]; exact h)]
  exact (List.set_getElem_self _).symm
theorem half_end (g : Nat → Nat) (l : List Nat) (k : Nat) (h : k = l.length) : half g l k = l.map g := by
  subst h
  unfold half
  rw [List.take_length, List.drop_length, List.append_nil]

set_option maxHeartbeats 2000000 in
theorem shift_any (base : Nat) (v : Value) (l : List Nat) (f t : Nat) (w : World) (h : Mine w base v l) (hl : l.length ≤ 1000000) (hf : f ≤ 97) (ht : t ≤ 97) :
    Calls Try.prog 52 #[v, .int .u8 (f : Int), .int .u8 (t : Int)] w fun e w' => e = .returned (.tuple #[]) ∧ Mine w' base v (l.map (turned f t)) ∧ Below base w w' := by
  have H := Lib.hid h
  obtain ⟨A, c, rfl, hc, _⟩ := h.parts
  obtain ⟨n, hn⟩ : ∃ n, l.length = n := ⟨_, rfl⟩
  rw [hn] at hl hc H ⊢
  have HN := Lib.hid hn
  clear hn h
  go_enter Try.func52, Try.ntmps52
  go_wp2
  go_loopw [10] (fun iv wr => ∃ k : Nat, k ≤ n ∧ iv = .int .i64 (k : Int) ∧ Hid (Mine wr base (.slice A n c) (half (turned f t) l k)) ∧ Hid (Below base w wr)) (fun iv _ => n - (intOf iv).toNat)
  case atStart => exact ⟨0, Nat.zero_le _, rfl, Lib.hid H.out, Lib.hid (Below.refl _ _)⟩
  case round =>
    obtain ⟨k, hk, rfl, hM, hbl⟩ := hrel
    by_cases hlt : k < n
    · have hkI : (k : Int) < (n : Int) := by omega
      obtain ⟨_, b, off, rfl, hb, hbs, hfz, hcell⟩ := hM.out.at (by omega)
      have hfk := hfz k hlt
      have hck := hcell k hlt
      rw [half_at _ _ _ (by rw [HN.out]; exact hlt)] at hck
      have hx256 : l.getD k 0 < 256 := u8_lt (fun c hc => H.out.1 c hc) k
      have HSET : Hid (∀ y, y = turned f t (l.getD k 0) → y < 256 → Mine (wr.setCell ⟨b, off + k, none⟩ (.int .u8 (y : Int))) base (.slice (some ⟨b, off, none⟩) n c) (half (turned f t) l (k + 1))) := Lib.hid (fun y hy hy2 => by
        have := hM.out.set hlt hy2
        rw [hy, half_set _ _ _ (by rw [HN.out]; exact hlt), ← hy] at this
        exact this)
      have HSAME : Hid (turned f t (l.getD k 0) = l.getD k 0 → Mine wr base (.slice (some ⟨b, off, none⟩) n c) (half (turned f t) l (k + 1))) := Lib.hid (fun e => by
        have := hM.out
        rwa [half_same _ _ _ (by rw [HN.out]; exact hlt) e] at this)
      have HBS : Hid (∀ u, Below base w (wr.setCell ⟨b, off + k, none⟩ u)) := Lib.hid (fun u => hbl.out.setCell (p := ⟨b, off + k, none⟩) hb u)
      obtain ⟨x, hx⟩ : ∃ x, l.getD k 0 = x := ⟨_, rfl⟩
      rw [hx] at hck hx256 HSET HSAME
      clear hcell hfz hx hM
      by_cases h1 : f ≤ x
      · have h1I : (f : Int) ≤ (x : Int) := by omega
        by_cases h2 : x < f + 26
        · have h2I : (x : Int) < (f : Int) + 26 := by omega
          have HM := Lib.hid (HSET.out (x - f + t) (by unfold turned; rw [if_pos ⟨h1, h2⟩]) (by omega))
          clear HSET HSAME
          go_wp2
          go_roundw
          case rel => exact ⟨k + 1, hlt, by go_num, Lib.hid (by have := HM.out; rwa [show ((x - f + t : Nat) : Int) = (x : Int) - (f : Int) + (t : Int) from by omega] at this), Lib.hid (HBS.out _)⟩
          case measure => simp [intOf]; omega
        · have h2I : ¬ (x : Int) < (f : Int) + 26 := by omega
          have HM := Lib.hid (HSAME.out (by unfold turned; rw [if_neg (by omega)]))
          clear HSET HSAME
          go_wp2
          go_roundw
          case rel => exact ⟨k + 1, hlt, by go_num, HM, hbl⟩
          case measure => simp [intOf]; omega
      · have h1I : ¬ (f : Int) ≤ (x : Int) := by omega
        have HM := Lib.hid (HSAME.out (by unfold turned; rw [if_neg (by omega)]))
        clear HSET HSAME
        go_wp2
        go_roundw
        case rel => exact ⟨k + 1, hlt, by go_num, HM, hbl⟩
        case measure => simp [intOf]; omega
    · obtain rfl : k = n := by omega
      have HM : Hid (Mine wr base (.slice A k c) (l.map (turned f t))) := Lib.hid (by have := hM.out; rwa [half_end _ _ _ HN.out.symm] at this)
      go_wp2
      go_end0
      exact ⟨rfl, HM.out, hbl.out⟩
end Go.Proofs.Ytldnpedegcbglaa
