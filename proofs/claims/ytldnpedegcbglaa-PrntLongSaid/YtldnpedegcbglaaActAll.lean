/- How an action begins: the text, an input, all inputs, one behind the other. -/
import Derived.Test.YtldnpedegcbglaaActBytes
import Derived.Test.YtldnpedegcbglaaRowsB
namespace Go.Proofs.Ytldnpedegcbglaa
set_option maxRecDepth 100000
open Go.ChangeShapes Go.WideShapes Go.ChangeAt Go.RowKit

/-- What came of an action, or that nothing did. -/
def CameIs (base : Nat) (w : World) (e : Ending) (w' : World) : Option (List Nat) → Prop
  | some b => (∃ u, e = .returned (.tuple #[u, .bool true]) ∧ Mine w' base u b) ∧ Below base w w'
  | none => e = .returned (.tuple #[.slice none 0 0, .bool false]) ∧ Below base w w'
theorem came_none {base : Nat} {w w' : World} {e : Ending} {T : Option (List Nat)} (h : T = none) (he : e = .returned (.tuple #[.slice none 0 0, .bool false])) (hb : Below base w w') : CameIs base w e w' T := by
  rw [h]
  exact ⟨he, hb⟩
theorem came_some {base : Nat} {w w' : World} {e : Ending} {T : Option (List Nat)} {b : List Nat} (h : T = some b) (u : Value) (he : e = .returned (.tuple #[u, .bool true])) (hm : Mine w' base u b) (hb : Below base w w') : CameIs base w e w' T := by
  rw [h]
  exact ⟨⟨u, he, hm⟩, hb⟩
def few (b : List Nat) : Option (List Nat) := if b.length ≤ 256 then some b else none
theorem flat_more (L : List (List Nat)) (k : Nat) : (L.take k).flatten.length ≤ L.flatten.length := by
  have := congrArg (fun x => x.flatten.length) (List.take_append_drop k L)
  simp only [List.flatten_append, List.length_append] at this
  omega
theorem flat_next (L : List (List Nat)) (k : Nat) (h : k < L.length) : (L.take (k + 1)).flatten = (L.take k).flatten ++ L.getD k [] := by
  rw [List.take_succ_eq_append_getElem h, List.flatten_append, List.getD_eq_getElem?_getD, List.getElem?_eq_getElem h]
  simp
set_option maxHeartbeats 4000000 in
theorem all_any (v : Value) (L : List (List Nat)) (w : World) (h : Rows2 w v L) (hL : L.length ≤ 1000000) (hx : ∀ x ∈ L, x.length ≤ 1000000) (T : Option (List Nat)) (hT : T = few L.flatten) :
    Calls Try.prog 51 #[v] w fun e w' => CameIs w.heap.size w e w' T := by
  have H := Lib.hid h
  have HX := Lib.hid hx
  have HT := Lib.hid hT
  obtain ⟨_, A, c, rfl, hc, _⟩ := h
  obtain ⟨n, hn⟩ : ∃ n, L.length = n := ⟨_, rfl⟩
  rw [hn] at hL hc H ⊢
  have HN := Lib.hid hn
  clear hn hx hT
  go_enter Try.func51, Try.ntmps51
  go_wp2
  go_loopw [4, 9] (fun av iv wr => ∃ k m : Nat, k ≤ n ∧ iv = .int .i64 (k : Int) ∧ m ≤ 256 ∧ Hid ((L.take k).flatten.length = m) ∧ Hid (Own wr w.heap.size av (L.take k).flatten) ∧ Hid (Below w.heap.size w wr)) (fun _ iv _ => n - (intOf iv).toNat)
  case atStart => exact ⟨0, 0, Nat.zero_le _, rfl, Nat.zero_le _, Lib.hid rfl, Lib.hid (own_none _ _), Lib.hid (Below.refl _ _)⟩
  case round =>
    obtain ⟨k, m, hk, rfl, hm, hlen, hO, hbl⟩ := hrel
    by_cases hlt : k < n
    · have hkI : (k : Int) < (n : Int) := by omega
      obtain ⟨b, off, u, rfl, hcell, hu⟩ := (H.out.under hbl.out).at hlt
      have hnx := flat_next L k (by rw [HN.out]; exact hlt)
      have hmo := flat_more L (k + 1)
      have hxl : (L.getD k []).length ≤ 1000000 := by
        rw [List.getD_eq_getElem?_getD, List.getElem?_eq_getElem (by rw [HN.out]; exact hlt)]
        exact HX.out _ (List.getElem_mem _)
      obtain ⟨x, hx⟩ : ∃ x, L.getD k [] = x := ⟨_, rfl⟩
      rw [hx] at hu hnx hxl
      clear hx
      have HU := Lib.hid hu
      obtain ⟨_, _, A2, c2, rfl, _, _⟩ := hu.parts
      obtain ⟨q, hq⟩ : ∃ q, x.length = q := ⟨_, rfl⟩
      rw [hq] at hxl HU hcell
      have HQ := Lib.hid hq
      have HNX := Lib.hid hnx
      have HMO := Lib.hid hmo
      clear hq hnx hmo hu
      obtain ⟨Ao, co, hoe, hoc⟩ : ∃ Ao co, u4 = .slice Ao m co ∧ m ≤ co := by
        have h1 := hO.out.bytes.parts
        rw [hlen.out] at h1
        obtain ⟨_, _, A3, c3, e, h3, _⟩ := h1
        exact ⟨A3, c3, e, h3⟩
      subst hoe
      obtain ⟨F, hF⟩ : ∃ F, (L.take k).flatten = F := ⟨_, rfl⟩
      rw [hF] at hO hlen HNX
      clear hF
      by_cases hfit : m + q ≤ 256
      · have hfI : ¬ (256 : Int) < (m : Int) + (q : Int) := by omega
        go_wp2_with (at_builtin; refine wpList_append_bytes rfl _ _ rfl w.heap.size _ _ F x rfl hO.out rfl HU.out ?_ ?_ (L.take (k + 1)).flatten HNX.out.symm ?_)
        case refine_1 => rw [hlen.out, HQ.out]; omega
        case refine_2 => exact hbl.out.size
        case refine_3 =>
          rintro u' w' ⟨hO', _, _, hb'⟩
          have HO' := Lib.hid hO'
          have HB' := Lib.hid (hbl.out.trans hb')
          clear hO' hb'
          go_wp2
          go_roundw
          case rel => exact ⟨k + 1, m + q, hlt, by go_num, hfit, Lib.hid (by rw [HNX.out, List.length_append, hlen.out, HQ.out]), HO', HB'⟩
          case measure => simp [intOf]; omega
      · have hfI : (256 : Int) < (m : Int) + (q : Int) := by omega
        have HT2 : Hid (T = none) := Lib.hid (by
          rw [HT.out]
          unfold few
          rw [if_neg]
          have := HMO.out
          rw [HNX.out, List.length_append, hlen.out, HQ.out] at this
          omega)
        go_wp2
        go_ret2
        exact came_none HT2.out rfl hbl.out
    · obtain rfl : k = n := by omega
      have hO2 := hO.out
      have hl2 := hlen.out
      rw [← HN.out, List.take_length] at hO2 hl2
      have HO2 := Lib.hid hO2.mine
      have HT2 : Hid (T = some L.flatten) := Lib.hid (by
        rw [HT.out]
        unfold few
        rw [if_pos (by omega)])
      clear hO2 hl2
      go_wp2
      go_ret2
      exact came_some HT2.out _ rfl HO2.out hbl.out
end Go.Proofs.Ytldnpedegcbglaa
