/- What package code answers: numbers and bytes behind bytes; a reader. -/
import Derived.Test.YtfeaolcgjkkadaaDoorBytes
import Derived.Test.YtfeaolcgjkkadaaDoorCodeMath
import Derived.Deep.DeepCutAuto
import Derived.Deep.LoopGhost
import Derived.IntWalk
import Derived.BigQuiet
import Derived.Deep.QuietTactic
import Derived.Deep.RegionWith
namespace Go.Proofs.YtfeaolcgjkkadaaDoor
set_option maxRecDepth 100000
open Go.ChangeShapes Go.WideShapes Go.ChangeAt Go.RowKit

theorem ret_bool {a b : Bool} (h : a = b) : Ending.returned (.bool a) = .returned (.bool b) := by rw [h]
theorem byte_at (m j : Nat) : (m : Int) / 2 ^ (8 * j) % 256 = ((m / 2 ^ (8 * j) % 256 : Nat) : Int) := by
  rw [Int.natCast_emod, Int.natCast_ediv, Int.natCast_pow]
  rfl

set_option maxHeartbeats 1000000 in
theorem put_any (base : Nat) (v : Value) (l : List Nat) (n : Int) (w : World) (h : Own w base v l) (hl : l.length ≤ 1099511627776) (hB : base ≤ w.heap.size) :
    Calls Tryd.prog 37 #[v, .int .i64 n] w (Made base (l ++ Cd.enc (Cd.held n)) w) := by
  have HE := Cd.held_eq n
  have hd := Cd.held_le n
  obtain ⟨m, hm⟩ : ∃ m, Cd.held n = m := ⟨_, rfl⟩
  rw [hm] at HE hd ⊢
  clear hm
  have H := Lib.hid h
  have hn : (n < 0 → (m : Int) = 0) ∧ (1099511627776 < n → (m : Int) = 1099511627776) ∧ (0 ≤ n → n ≤ 1099511627776 → (m : Int) = n) := by omega
  have HM := Lib.hid hn
  clear HE h hn
  go_enter Tryd.func37, Tryd.ntmps37
  go_upto_region 1 with fail
  go_cut [1] (fun q wx => q = .int .i64 (m : Int) ∧ wx = w)
  case first =>
    go_wp2_with fail
    all_goals go_meet
    · exact ⟨by rw [HM.out.2.1 (by omega)], rfl⟩
    · exact ⟨by rw [HM.out.1 (by omega)], rfl⟩
    · exact ⟨by rw [HM.out.2.2 (by omega) (by omega)], rfl⟩
  case rest =>
    obtain ⟨rfl, rfl⟩ := hcut
    clear HM
    go_wp2
    go_loopw [0, 5] (fun v i wr => ∃ k : Nat, k ≤ 6 ∧ i = .int .i64 ((k : Int) - 1) ∧ Own wr base v (l ++ (Cd.enc m).take (6 - k)) ∧ Below base wc wr) (fun _ i _ => (intOf i + 1).toNat)
    case atStart => exact ⟨6, by omega, rfl, by simpa using H.out, Below.refl _ _⟩
    case round =>
      obtain ⟨k, hk, rfl, ho, hb⟩ := hrel
      rcases k with _ | j
      · go_wp2
        go_ret
        exact ⟨_, rfl, by simpa [Cd.enc] using ho, hb⟩
      · have HO := Lib.hid (ho.alloc (.cells #[.int .u8 ((m : Int) / 2 ^ (8 * j) % 256)] 5))
        clear ho
        go_wp2_with (at_builtin; refine wpList_append_bytes rfl _ _ rfl base _ _ (l ++ (Cd.enc m).take (6 - (j + 1))) [m / 2 ^ (8 * j) % 256] rfl HO.out rfl (bytes_one _ _ _ _ _ (byte_at m j) (Nat.mod_lt _ (by decide))) ?_ ?_ (l ++ (Cd.enc m).take (6 - j)) (by rw [List.append_assoc, Cd.enc_next m j (by omega)]) ?_)
        case refine_1 => simp [Cd.enc]; omega
        case refine_2 => have := hb.size; simp; omega
        case refine_3 =>
          intro v' w' hg
          obtain ⟨ho', _, _, hb'⟩ := hg
          have HO' := Lib.hid ho'
          have hb2 := (hb.alloc (by have := hb.size; omega) (.cells #[.int .u8 ((m : Int) / 2 ^ (8 * j) % 256)] 5)).trans hb'
          clear ho' hb hb'
          go_wp2
          go_roundw
          case rel => exact ⟨j, by omega, rfl, HO'.out, hb2⟩
          case measure => simp [intOf]

theorem run_make_room (n k : Nat) (h : n + k ≤ 70368744177664) (w : World) : (Instr.makeSlice 39 (.int .i64 0) (.int .i64 ((n : Int) + (k : Int)))).run Tryd.prog w =
    .ok (.slice (some ⟨w.heap.size, 0, none⟩) 0 (n + k)) (w.alloc (.cells (madeCells #[.int .u8 0] (n + k)) 5)) := by
  obtain ⟨i, hi, hz0, hz1, hz2⟩ := info_parts infoU8
  have := run_make (P := Tryd.prog) w 39 5 i (.int .u8 0) Tryd.underlying39 hi hz0 .i64 .i64 0 ((n : Int) + (k : Int)) (by omega) (by omega) (by rw [hz2]; omega) (by omega)
  rw [this, hz1, show ((n : Int) + (k : Int)).toNat = n + k from by omega, Nat.mul_one]
  rfl

set_option maxHeartbeats 1000000 in
theorem room_any (v : Value) (l : List Nat) (k : Nat) (w : World) (h : Bytes w v l) (hl : l.length ≤ 1099511627776) (hk : k ≤ 2199023255552) :
    Calls Tryd.prog 38 #[v, .int .i64 (k : Int)] w (Made w.heap.size l w) := by
  have H := Lib.hid h
  obtain ⟨_, _, A, c, rfl, _, _⟩ := h.parts
  clear h
  obtain ⟨n, hn⟩ : ∃ n, l.length = n := ⟨_, rfl⟩
  rw [hn] at H hl ⊢
  have HN := Lib.hid hn
  clear hn
  have hmk := fun W => run_make_room n k (by omega) W
  go_enter Tryd.func38, Tryd.ntmps38
  go_wp2_with (at_builtin; refine wpList_append_bytes rfl _ _ rfl w.heap.size _ _ [] l rfl (own_empty w _ _ _ (Nat.le_refl _) ?_ ?_) rfl (H.out.alloc _) ?_ ?_ l rfl ?_)
  case refine_1 => unfold maxLen; omega
  case refine_2 => exact size_madeCells _ _
  case refine_3 => simp [HN.out]; omega
  case refine_4 => simp
  case refine_5 =>
    intro v' w' hg
    obtain ⟨ho', _, _, hb'⟩ := hg
    go_wp2
    go_ret
    exact ⟨_, rfl, ho', ((Below.refl _ _).alloc (Nat.le_refl _) _).trans hb'⟩

theorem room_is (v : Value) (l : List Nat) (q : Int) (k : Nat) (w : World) (h : Bytes w v l) (hl : l.length ≤ 1099511627776) (hq : q = (k : Int)) (hk : k ≤ 2199023255552) :
    Calls Tryd.prog 38 #[v, .int .i64 q] w (Made w.heap.size l w) := by
  subst hq
  exact room_any v l k w h hl hk

set_option maxHeartbeats 1000000 in
theorem num_any (v : Value) (l : List Nat) (n : Int) (w : World) (h : Bytes w v l) (hl : l.length ≤ 1099511627776) :
    Calls Tryd.prog 24 #[v, .int .i64 n] w (Made w.heap.size (l ++ Cd.enc (Cd.held n)) w) := by
  go_enter Tryd.func24, Tryd.ntmps24
  go_wp2_with (go_at_call 38; refine (room_any v l 6 w h hl (by omega)).mono ?_; rintro e w' ⟨v', rfl, ho, hb⟩)
  have HO := Lib.hid ho
  clear ho
  have hz := hb.size
  go_wp2_with (go_at_call 37; refine (put_any w.heap.size _ l n _ HO.out hl hz).mono ?_; rintro e w'' ⟨v'', rfl, ho'', hb''⟩)
  go_ret
  exact ⟨_, rfl, ho'', hb.trans hb''⟩

set_option maxHeartbeats 1000000 in
theorem bytes_any (v x : Value) (l m : List Nat) (w : World) (h : Bytes w v l) (hx : Bytes w x m) (hl : l.length ≤ 549755813888) (hm : m.length ≤ 549755813888) :
    Calls Tryd.prog 25 #[v, x] w (Made w.heap.size (l ++ Cd.enc m.length ++ m) w) := by
  have H := Lib.hid h
  have HX := Lib.hid hx
  obtain ⟨_, _, A, c, rfl, _, _⟩ := hx.parts
  clear h hx
  obtain ⟨n, hn⟩ : ∃ n, m.length = n := ⟨_, rfl⟩
  rw [hn] at HX hm ⊢
  have hheld : Cd.held (n : Int) = n := by unfold Cd.held; omega
  have HH := Lib.hid hheld
  have HN := Lib.hid hn
  clear hn hheld
  obtain ⟨r, hr⟩ : ∃ r, l ++ Cd.enc n ++ m = r := ⟨_, rfl⟩
  rw [hr]
  have HR := Lib.hid hr
  clear hr
  go_enter Tryd.func25, Tryd.ntmps25
  go_wp2_with fail
  refine (room_is v l _ (6 + n) w H.out (by omega) (by omega) (by omega)).mono ?_
  rintro e w' ⟨v', rfl, ho, hb⟩
  have HO := Lib.hid ho
  clear ho
  have hz := hb.size
  go_wp2_with fail
  refine (put_any w.heap.size _ l _ _ HO.out (by omega) hz).mono ?_
  rintro e w'' ⟨v'', rfl, ho'', hb''⟩
  rw [HH.out] at ho''
  have HO2 := Lib.hid ho''
  have hz'' := hb''.size
  have HX2 := Lib.hid (HX.out.under (hb.trans hb''))
  clear ho'' HO
  go_wp2_with (at_builtin; refine wpList_append_bytes rfl _ _ rfl w.heap.size _ _ _ m rfl HO2.out rfl HX2.out ?_ ?_ r HR.out ?_)
  case refine_1 => simp [HN.out, Cd.enc]; omega
  case refine_2 => omega
  case refine_3 =>
    intro v' w' hg
    obtain ⟨ho', _, _, hb'⟩ := hg
    have HO3 := Lib.hid ho'
    clear ho'
    go_wp2
    go_ret
    exact ⟨_, rfl, HO3.out, hb.trans (hb''.trans hb')⟩

theorem num_is (v : Value) (l r : List Nat) (n : Int) (w : World) (h : Bytes w v l) (hl : l.length ≤ 1099511627776) (hr : l ++ Cd.enc (Cd.held n) = r) :
    Calls Tryd.prog 24 #[v, .int .i64 n] w (Made w.heap.size r w) := by
  subst hr
  exact num_any v l n w h hl
theorem bytes_is (v x : Value) (l m r : List Nat) (w : World) (h : Bytes w v l) (hx : Bytes w x m) (hl : l.length ≤ 549755813888) (hm : m.length ≤ 549755813888) (hr : l ++ Cd.enc m.length ++ m = r) :
    Calls Tryd.prog 25 #[v, x] w (Made w.heap.size r w) := by
  subst hr
  exact bytes_any v x l m w h hx hl hm
end Go.Proofs.YtfeaolcgjkkadaaDoor
