/- A text between bytes of the call's own. -/
import Derived.Test.YtldnpedegcbglaaActBytes
namespace Go.Proofs.Ytldnpedegcbglaa
set_option maxRecDepth 100000
open Go.ChangeShapes Go.WideShapes Go.ChangeAt Go.RowKit

theorem strCells_row8 {t : List Nat} (ht : ∀ c ∈ t, c < 256) : Lib.strCells (str t) = row8 t := by
  unfold Lib.strCells row8
  have := str_data t
  show _ = _
  simp only [str, List.map_map]
  refine List.map_congr_left fun c hc => ?_
  have h := ht c hc
  simp
  omega
theorem wpList_append_str {w : World} {ops : Array Oper} {rest : List Oper} {o : Oper} {a : Act} {Q : Exit → Act → World → Prop} (hgd : o.guard = none) (s x : Operand)
    (ho : o.op = .call { callee := .builtin .append, args := #[s, x], argTypes := #[23, 9] }) (base : Nat) (v : Value) (l m : List Nat) (hs : a.eval s = v) (hown : Own w base v l) (hx : a.eval x = .string (str m)) (hm : ∀ c ∈ m, c < 256)
    (hlen : l.length + m.length ≤ 70368744177664) (hbase : base ≤ w.heap.size) (r : List Nat) (hr : l ++ m = r)
    (h : ∀ v' w', Own w' base v' r → Below base w w' → wpList Try.prog ops Q rest (a.put o.dst v') w') : wpList Try.prog ops Q (o :: rest) a w := by
  subst hr
  obtain ⟨i, hi, hz0, hz1, hz2⟩ := info_parts infoU8
  refine Lib.wpList_append_own_string (w := w) hgd s x 23 9 ho base 5 i Try.underlying23 Try.underlying9 hi hz0 hz1 hz2 v l.length (row8 l) hs hown.1 (str m) hx (by rw [str_size]; unfold maxLen; omega) (by rw [str_size]; omega) hbase ?_
  intro v' w' h2 h3 _
  refine h v' w' ⟨?_, fun c hc => (List.mem_append.1 hc).elim (hown.2 c) (hm c)⟩ ((Below.refl _ _).grown h3 hbase fun k hk => (hown.lt k hk).1)
  rw [strCells_row8 hm, str_size] at h2
  rw [List.length_append]
  unfold row8 at h2 ⊢
  rw [List.map_append]
  exact h2
theorem joined_snoc (t : List Nat) (x : Nat) : ∀ l : List Nat, l ≠ [] → Ac.joined t (l ++ [x]) = Ac.joined t l ++ (t ++ [x])
  | [], h => absurd rfl h
  | [c], _ => by simp [Ac.joined]
  | c :: d :: r, _ => by
    show c :: (t ++ Ac.joined t (d :: r ++ [x])) = (c :: (t ++ Ac.joined t (d :: r))) ++ (t ++ [x])
    rw [joined_snoc t x (d :: r) (by simp)]
    simp
theorem joined_len (t : List Nat) : ∀ l : List Nat, (Ac.joined t l).length ≤ l.length * (t.length + 1)
  | [] => by simp [Ac.joined]
  | [c] => by simp [Ac.joined]
  | c :: d :: r => by
    have := joined_len t (d :: r)
    simp only [Ac.joined, List.length_cons, List.length_append] at this ⊢
    rw [Nat.add_mul _ 1 (t.length + 1)]
    omega
theorem joined_lt {t l : List Nat} (ht : ∀ c ∈ t, c < 256) (hl : ∀ c ∈ l, c < 256) : ∀ c ∈ Ac.joined t l, c < 256 := by
  induction l with
  | nil => simp [Ac.joined]
  | cons c l ih =>
    cases l with
    | nil => simpa [Ac.joined] using hl
    | cons d r =>
      intro x hx
      simp only [Ac.joined, List.mem_cons, List.mem_append] at hx
      rcases hx with rfl | hx | hx
      · exact hl _ (by simp)
      · exact ht _ hx
      · exact ih (fun y hy => hl y (by simp [hy])) x hx
set_option maxHeartbeats 4000000 in
theorem join_any (v : Value) (l t : List Nat) (w : World) (h : Bytes w v l) (hl : l.length ≤ 1000) (ht : ∀ c ∈ t, c < 256) (htl : t.length ≤ 64) :
    Calls Try.prog 55 #[v, .string (str t)] w (Made w.heap.size (Ac.joined t l) w) := by
  have H := Lib.hid h
  obtain ⟨_, _, A, c, rfl, hc, _⟩ := h.parts
  obtain ⟨n, hn⟩ : ∃ n, l.length = n := ⟨_, rfl⟩
  rw [hn] at hl hc H ⊢
  have HN := Lib.hid hn
  have HT := Lib.hid ht
  have HTL := Lib.hid htl
  have HLEN : Hid (∀ k, k ≤ n → (Ac.joined t (l.take k)).length ≤ 65000) := Lib.hid (fun k hk => by
    have h1 := joined_len t (l.take k)
    rw [List.length_take] at h1
    have h2 : min k l.length * (t.length + 1) ≤ 1000 * 65 := Nat.mul_le_mul (by omega) (by omega)
    omega)
  clear hn h ht htl
  go_enter Try.func55, Try.ntmps55
  go_wp2
  go_loopw [5, 10] (fun jv iv wr => ∃ k : Nat, k ≤ n ∧ iv = .int .i64 (k : Int) ∧ Hid (Own wr w.heap.size jv (Ac.joined t (l.take k))) ∧ Hid (Below w.heap.size w wr)) (fun _ iv _ => n - (intOf iv).toNat)
  case atStart => exact ⟨0, Nat.zero_le _, rfl, Lib.hid (own_none _ _), Lib.hid (Below.refl _ _)⟩
  case round =>
    obtain ⟨k, hk, rfl, hO, hbl⟩ := hrel
    by_cases hlt : k < n
    · have hkI : (k : Int) < (n : Int) := by omega
      obtain ⟨_, _, A', c', e, _, hx⟩ := (H.out.under hbl.out).parts
      injection e with e1 e2 e3
      subst e1 e3
      obtain ⟨b, off, rfl, hcell⟩ := hx (by omega)
      have hck := hcell k (by omega)
      have hx256 : l.getD k 0 < 256 := u8_lt H.out.1 k
      have HTK : Hid (l.take (k + 1) = l.take k ++ [l.getD k 0]) := Lib.hid (take_snoc l k (by rw [HN.out]; exact hlt))
      obtain ⟨x, hx'⟩ : ∃ x, l.getD k 0 = x := ⟨_, rfl⟩
      rw [hx'] at hck hx256 HTK
      clear hcell hx hx' e2
      rcases Nat.eq_zero_or_pos k with h0 | h0
      · have h0I : ¬ (0 : Int) < (k : Int) := by omega
        have HJ : Hid (Ac.joined t (l.take k) ++ [x] = Ac.joined t (l.take (k + 1))) := Lib.hid (by rw [HTK.out, h0]; rfl)
        clear h0
        go_wp2_with (at_builtin; refine wpList_append_bytes rfl _ _ rfl w.heap.size _ _ (Ac.joined t (l.take k)) [x] rfl (hO.out.alloc _) rfl (bytes_one _ _ _ _ _ rfl hx256) ?_ ?_ (Ac.joined t (l.take (k + 1))) HJ.out ?_)
        case refine_1 => have := HLEN.out k (by omega); simp; omega
        case refine_2 => have := hbl.out.size; simp; omega
        case refine_3 =>
          rintro u' w' ⟨hO', _, _, hb'⟩
          have HO' := Lib.hid hO'
          have HB' := Lib.hid ((hbl.out.alloc hbl.out.size (.cells #[.int .u8 (x : Int)] 5)).trans hb')
          clear hO' hb'
          go_wp2
          go_roundw
          case rel => exact ⟨k + 1, hlt, by go_num, HO', HB'⟩
          case measure => simp [intOf]; omega
      · have h0I : (0 : Int) < (k : Int) := by omega
        have HNE : Hid (l.take k ≠ []) := Lib.hid (fun e => by
          have := congrArg List.length e
          rw [List.length_take, HN.out] at this
          simp at this
          omega)
        have HJ : Hid ((Ac.joined t (l.take k) ++ t) ++ [x] = Ac.joined t (l.take (k + 1))) := Lib.hid (by rw [HTK.out, joined_snoc t x _ HNE.out, List.append_assoc])
        go_wp2_with (at_builtin; refine wpList_append_str rfl _ _ rfl w.heap.size _ (Ac.joined t (l.take k)) t rfl hO.out rfl HT.out ?_ ?_ (Ac.joined t (l.take k) ++ t) rfl ?_)
        case refine_1 => have := HLEN.out k (by omega); have := HTL.out; omega
        case refine_2 => exact hbl.out.size
        case refine_3 =>
          rintro u2 w2 hO2 hb2
          have HO2 := Lib.hid hO2
          have HB2 := Lib.hid (hbl.out.trans hb2)
          clear hO2 hb2 hck
          go_wp2_with (at_builtin; refine wpList_append_bytes rfl _ _ rfl w.heap.size _ _ (Ac.joined t (l.take k) ++ t) [x] rfl (HO2.out.alloc _) rfl (bytes_one _ _ _ _ _ rfl hx256) ?_ ?_ (Ac.joined t (l.take (k + 1))) HJ.out ?_)
          case refine_1 => have := HLEN.out k (by omega); have := HTL.out; simp; omega
          case refine_2 => have := HB2.out.size; simp; omega
          case refine_3 =>
            rintro u' w' ⟨hO', _, _, hb'⟩
            have HO' := Lib.hid hO'
            have HB' := Lib.hid ((HB2.out.alloc HB2.out.size (.cells #[.int .u8 (x : Int)] 5)).trans hb')
            clear hO' hb'
            go_wp2
            go_roundw
            case rel => exact ⟨k + 1, hlt, by go_num, HO', HB'⟩
            case measure => simp [intOf]; omega
    · obtain rfl : k = n := by omega
      have hO2 := hO.out
      rw [← HN.out, List.take_length] at hO2
      have HO' := Lib.hid hO2
      clear hO2
      go_wp2
      go_ret
      exact ⟨_, rfl, HO'.out, hbl.out⟩
end Go.Proofs.Ytldnpedegcbglaa
