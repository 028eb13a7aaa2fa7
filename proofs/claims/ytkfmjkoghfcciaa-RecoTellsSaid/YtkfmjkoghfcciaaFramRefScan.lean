/- What the document's own Scan answers; rows that are the same. -/
import Derived.Test.YtkfmjkoghfcciaaFramRef
import Derived.Deep.DeepMust
namespace Go.Proofs.Ytkfmjkoghfcciaa
set_option maxRecDepth 100000
open Go.ChangeShapes Go.WideShapes Go.ChangeAt Go.RowKit

def RefScanIs (base : Nat) (l : List Nat) (N : Nat) (w : World) (e : Ending) (w' : World) : Prop :=
  ∃ u, e = .returned (.tuple #[u, .int .i64 ((Fr.pos l N : Nat) : Int)]) ∧ OwnR w' base u (Fr.rows l N) ∧ Below base w w'

set_option maxHeartbeats 2000000 in
theorem refscan_any (v : Value) (l : List Nat) (N : Nat) (w : World) (h : Bytes w v l) (hS : Fr.Scn l N) (hl : l.length ≤ 1099511627776) :
    Calls Try.prog 90 #[v] w (RefScanIs w.heap.size l N w) := by
  have H := Lib.hid h
  obtain ⟨_, _, A, c, rfl, _, _⟩ := h.parts
  obtain ⟨n, hn⟩ : ∃ n, l.length = n := ⟨_, rfl⟩
  rw [hn] at H hl ⊢
  have HN := Lib.hid hn
  have HS := Lib.hid hS
  clear h hn hS
  go_enter Try.func90, Try.ntmps90
  go_wp2_with fail
  go_loopw [4, 5] (fun u i wr => ∃ k : Nat, k ≤ N ∧ i = .int .i64 ((Fr.pos l k : Nat) : Int) ∧ OwnR wr w.heap.size u (Fr.rows l k) ∧ Below w.heap.size w wr) (fun _ i _ => n - (intOf i).toNat)
  case atStart => exact ⟨0, Nat.zero_le _, rfl, ownR_none _ _, Below.refl _ _⟩
  case round =>
    obtain ⟨k, hk, rfl, ho, hb⟩ := hrel
    have hle := (HS.out.le hk).1
    have hkl := (HS.out.le hk).2
    have HR := Lib.hid (Fr.rows_succ l k)
    have HLL := Lib.hid (Fr.rows_length l k)
    have HSK := Lib.hid (show k < N → Fr.whole (l.drop (Fr.pos l k)) = true from HS.out.1 k)
    have HSN := Lib.hid (show k = N → Fr.whole (l.drop (Fr.pos l k)) = false from fun e => by subst e; exact HS.out.2)
    have HNX := Lib.hid (show Fr.pos l (k + 1) = Fr.pos l k + (10 + Fr.told (l.drop (Fr.pos l k))) from rfl)
    have HTL := Lib.hid (show k < N → Fr.pos l k + 10 + Fr.told (l.drop (Fr.pos l k)) ≤ l.length from fun h => Fr.pos_next (HS.out.1 k h))
    obtain ⟨p, hp⟩ : ∃ p, Fr.pos l k = p := ⟨_, rfl⟩
    rw [hp] at hle hkl HSK HSN HNX HTL HR ⊢
    have HP := Lib.hid hp
    have HO := Lib.hid ho
    have hz := hb.size
    clear hp ho
    go_wp2_with fail
    refine (frame_any _ l p _ (H.out.under hb) (by rw [HN.out]; exact hl) hle).mono ?_
    rintro e w1 ⟨hb1, ⟨hw, x, rfl, hox⟩ | ⟨hw, x, y, rfl⟩⟩
    · have hlt : k < N := by
        rcases Nat.lt_or_ge k N with h | h
        · exact h
        · rw [HSN.out (by omega)] at hw
          cases hw
      have htl := HTL.out hlt
      rw [HN.out] at htl
      obtain ⟨T, hT⟩ : ∃ T, Fr.told (l.drop p) = T := ⟨_, rfl⟩
      rw [hT] at htl HNX ⊢
      have HX := Lib.hid (hox.more (base' := w.heap.size) hz)
      have HO1 := Lib.hid (HO.out.under hb1)
      have hb2 := hb.trans (hb1.mono hz)
      have hz1 := hb2.size
      obtain ⟨_, _, Ax, cx, rfl, _, _⟩ := hox.bytes.parts
      clear hw hT hox hb1
      go_wp2_with (at_builtin; refine wpList_append_row rfl _ _ rfl w.heap.size w1.heap.size _ (.slice Ax (Fr.held (l.drop p)).length cx) (Fr.rows l k) (Fr.held (l.drop p)) rfl ?_ rfl ?_ ?_ ?_ ?_ (Fr.rows l (k + 1)) HR.out.symm ?_)
      case refine_1 => exact HO1.out.under ((Below.refl _ _).alloc (Nat.le_refl _) _)
      case refine_2 => exact HX.out.alloc _
      case refine_3 => exact (show Blk _ w1.heap.size 30 #[.slice Ax (Fr.held (l.drop p)).length cx] from heap_alloc_new w1 _).at 0
      case refine_4 => rw [HLL.out]; have := HN.out; omega
      case refine_5 => simp; omega
      case refine_6 =>
        rintro v' w' ⟨ho', _, _, hb'⟩
        have HO' := Lib.hid ho'
        have hb3 : Below w.heap.size w w' := hb2.trans ((((Below.refl _ w1).alloc (Nat.le_refl _) (.cells #[.slice Ax (Fr.held (l.drop p)).length cx] 30)).mono hz1).trans hb')
        clear ho' hb' hb2
        go_wp2
        go_roundw
        case rel => exact ⟨k + 1, hlt, by rw [HNX.out]; simp, HO'.out, hb3⟩
        case measure => simp [intOf]; omega
    · have hkN : k = N := by
        rcases Nat.lt_or_ge k N with h | h
        · rw [HSK.out h] at hw
          cases hw
        · omega
      subst hkN
      have hB1 := hb.trans (hb1.mono hz)
      have HO1 := Lib.hid (HO.out.under hb1)
      obtain ⟨Au, cu, rfl, _⟩ := HO1.out.parts
      clear hw hb1 HSK HSN HTL
      go_wp2
      go_ret2
      exact ⟨_, by rw [HP.out]; rfl, HO1.out, hB1⟩

theorem drewN_add (w : World) (m q : Nat) : (w.drewN m).drewN q = w.drewN (m + q) := by
  simp [World.drewN, Nat.add_assoc]
end Go.Proofs.Ytkfmjkoghfcciaa
