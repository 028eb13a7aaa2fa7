/- CodeForms: whichever row of known numbers is picked, it has just the six bytes that are written beside it, and these are no number within a lesser bound. -/
import Derived.Test.YtgfhfmpcdmcplaaCodeAwake
import Derived.Deep.RegionHeld3
import Derived.RegionTactic
namespace Go.Proofs.Ytgfhfmpcdmcplaa
open Go.ChangeShapes Go.WideShapes Go.ChangeAt Go.RowKit

/-- A row of the table: the number, and its bytes. -/
def Row (n : Int) (s : ByteArray) : Prop := s.size = 6 ∧ s.data.toList.map (·.toNat) = Cd.enc (Cd.held n)

theorem row_dec {n : Int} {s : ByteArray} (h : Row n s) : Cd.dec ((s.data.toList.map (·.toNat)).take 6) = Cd.held n := by
  rw [h.2, List.take_of_length_le (by rw [Cd.enc_length]; exact Nat.le_refl _), Cd.dec_enc _ (by have := Cd.held_le n; omega)]
theorem and_low8 (a : Int) : 0 ≤ bits .and .i64 a 255 ∧ bits .and .i64 a 255 ≤ 255 := by
  have h : bits .and .i64 a 255 = IntKind.i64.wrap ((BitVec.ofInt 64 a &&& BitVec.ofInt 64 255).toNat : Int) := rfl
  have hx : (BitVec.ofInt 64 a &&& BitVec.ofInt 64 255).toNat ≤ 255 := by
    rw [BitVec.toNat_and]
    exact Nat.le_trans Nat.and_le_right (by decide)
  rw [h, IntKind.wrap_i64]
  omega

/-- A reader that was made behind N blocks. -/
def Pk (N : Nat) (L : List Nat) (w : World) (lo g : Nat) : Prop := Rdr w lo g g (some L) ∧ N ≤ lo ∧ lo ≤ g ∧ g < w.heap.size
theorem Pk.under {N : Nat} {L : List Nat} {w w' : World} {lo g : Nat} (h : Pk N L w lo g) (hb : Below w.heap.size w w') : Pk N L w' lo g := ⟨h.1.under hb, h.2.1, h.2.2.1, by have := hb.size; have := h.2.2.2; omega⟩
def Two (wx : World) (L : List Nat) (s6 s7 : Value) (wy : World) : Prop := ∃ (lo1 g1 lo2 g2 : Nat), s6 = .pointer (some ⟨g1, 0, none⟩) ∧ s7 = .pointer (some ⟨g2, 0, none⟩) ∧ Pk wx.heap.size L wy lo1 g1 ∧ Pk wx.heap.size L wy lo2 g2 ∧ (g1 < lo2 ∨ g2 < lo1) ∧ Below wx.heap.size wx wy
theorem two_of {wx wy : World} {L : List Nat} {lo1 g1 lo2 g2 : Nat} (h1 : Pk wx.heap.size L wy lo1 g1) (h2 : Pk wx.heap.size L wy lo2 g2) (h : g1 < lo2 ∨ g2 < lo1) (hb : Below wx.heap.size wx wy) :
    Two wx L (.pointer (some ⟨g1, 0, none⟩)) (.pointer (some ⟨g2, 0, none⟩)) wy := ⟨lo1, g1, lo2, g2, rfl, rfl, h1, h2, h, hb⟩
theorem Two.drew {wx wy : World} {L : List Nat} {s6 s7 : Value} (h : Two wx L s6 s7 wy) : Two wx L s6 s7 wy.drew := by
  obtain ⟨lo1, g1, lo2, g2, h1, h2, h3, h4, h5, h6⟩ := h
  exact ⟨lo1, g1, lo2, g2, h1, h2, h3.under (Below.refl _ _).drew, h4.under (Below.refl _ _).drew, h5, h6.drew⟩

set_option maxHeartbeats 4000000 in
theorem cforms_at (a : Int) (m : Int) (hm : (bits .and .i64 a 255).tmod 9 = m) (h9 : m = 0 ∨ m = 1 ∨ m = 2 ∨ m = 3 ∨ m = 4 ∨ m = 5 ∨ m = 6 ∨ m = 7 ∨ m = 8) (w : World) :
    Calls Try.prog 3 #[.int .i64 a] w fun e w' => e = .returned (.bool true) ∧ Below w.heap.size w w' := by
  have kb := fun (w : World) (s : ByteArray) => run_bytes_of_string (P := Try.prog) w 9 26 5 s Try.underlying9 Try.underlying26 Try.underlying5
  go_enter Try.func3, Try.ntmps3
  go_upto_region 2 with fail
  go_cut [4] (fun s4 wx => ∃ (g : Nat) (n : Int) (s : ByteArray), s4 = .pointer (some ⟨g, 0, none⟩) ∧ wx.cell? ⟨g, 0, none⟩ = some (.int .i64 n) ∧ wx.cell? ⟨g, 1, none⟩ = some (.string s) ∧ Row n s ∧ Below w.heap.size w wx)
  case first =>
    rcases h9 with rfl | rfl | rfl | rfl | rfl | rfl | rfl | rfl | rfl
    · go_wp2_with fail
      go_meet
      exact ⟨w.heap.size + 1, 0, ByteArray.mk #[0, 0, 0, 0, 0, 0], rfl, by simp [go_sem], by simp [go_sem], by unfold Row; decide +kernel, ((Below.refl _ _).alloc (Nat.le_refl _) _).alloc (by simp) _⟩
    · go_wp2_with fail
      go_meet
      exact ⟨w.heap.size + 1, 1, ByteArray.mk #[0, 0, 0, 0, 0, 1], rfl, by simp [go_sem], by simp [go_sem], by unfold Row; decide +kernel, ((Below.refl _ _).alloc (Nat.le_refl _) _).alloc (by simp) _⟩
    · go_wp2_with fail
      go_meet
      exact ⟨w.heap.size + 1, 255, ByteArray.mk #[0, 0, 0, 0, 0, 255], rfl, by simp [go_sem], by simp [go_sem], by unfold Row; decide +kernel, ((Below.refl _ _).alloc (Nat.le_refl _) _).alloc (by simp) _⟩
    · go_wp2_with fail
      go_meet
      exact ⟨w.heap.size + 1, 65536, ByteArray.mk #[0, 0, 0, 1, 0, 0], rfl, by simp [go_sem], by simp [go_sem], by unfold Row; decide +kernel, ((Below.refl _ _).alloc (Nat.le_refl _) _).alloc (by simp) _⟩
    · go_wp2_with fail
      go_meet
      exact ⟨w.heap.size + 1, 1099511627776, ByteArray.mk #[1, 0, 0, 0, 0, 0], rfl, by simp [go_sem], by simp [go_sem], by unfold Row; decide +kernel, ((Below.refl _ _).alloc (Nat.le_refl _) _).alloc (by simp) _⟩
    · go_wp2_with fail
      go_meet
      exact ⟨w.heap.size + 1, 1099511627777, ByteArray.mk #[1, 0, 0, 0, 0, 0], rfl, by simp [go_sem], by simp [go_sem], by unfold Row; decide +kernel, ((Below.refl _ _).alloc (Nat.le_refl _) _).alloc (by simp) _⟩
    · go_wp2_with fail
      go_meet
      exact ⟨w.heap.size + 1, -1, ByteArray.mk #[0, 0, 0, 0, 0, 0], rfl, by simp [go_sem], by simp [go_sem], by unfold Row; decide +kernel, ((Below.refl _ _).alloc (Nat.le_refl _) _).alloc (by simp) _⟩
    · go_wp2_with fail
      go_meet
      exact ⟨w.heap.size + 1, -9223372036854775808, ByteArray.mk #[0, 0, 0, 0, 0, 0], rfl, by simp [go_sem], by simp [go_sem], by unfold Row; decide +kernel, ((Below.refl _ _).alloc (Nat.le_refl _) _).alloc (by simp) _⟩
    · go_wp2_with fail
      go_meet
      exact ⟨w.heap.size + 1, 9223372036854775807, ByteArray.mk #[1, 0, 0, 0, 0, 0], rfl, by simp [go_sem], by simp [go_sem], by unfold Row; decide +kernel, ((Below.refl _ _).alloc (Nat.le_refl _) _).alloc (by simp) _⟩
  case rest =>
    obtain ⟨g, n, s, rfl, hn, hs, hrow, hb⟩ := hcut
    clear hm h9
    obtain ⟨wx, rfl⟩ : ∃ wx : World, wx = wc := ⟨_, rfl⟩
    go_upto_region 3 with fail
    go_cut [5] (fun s5 wz => s5 = .int .i64 (Cd.held n : Int) ∧ wx = wz)
    case first =>
      have HE := Lib.hid (Cd.held_eq n)
      go_wp2_with fail
      all_goals go_meet
      all_goals (refine ⟨?_, rfl⟩; have := HE.out; congr 1; omega)
    case rest =>
      obtain ⟨rfl, rfl⟩ := hcut
      obtain ⟨L, hL⟩ : ∃ L, Cd.enc (Cd.held n) = L := ⟨_, rfl⟩
      have hL6 : L.length = 6 := by rw [← hL]; rfl
      have HL6 := Lib.hid hL6
      have HLs := Lib.hid (hrow.2.trans hL)
      have hs6 := Lib.hid hrow.1
      have hcl : ∀ o, (wx.alloc o).cell? ⟨g, 1, none⟩ = some (Value.string s) := fun o => (World.cell?_alloc_lt wx o _ (World.block_lt_of_cell? wx _ hs)).trans hs
      have hgl : g < wx.heap.size := World.block_lt_of_cell? wx _ hs
      have HLN := Lib.hid (show [] ++ Cd.enc (Cd.held n) = L from hL)
      clear hL hL6
      have hsx0 : wx.heap.size ≤ wx.heap.size := Nat.le_refl _
      go_upto_region 4 with fail
      go_cut [6, 7] (fun s6 s7 wy => Two wx L s6 s7 wy)
      case first =>
        go_region_with (go_at_call 6; (refine (read_any _ L _ (by repeat (first | ((with_reducible refine bytes_of_text _ s _ _ ?_ _ _ HLs.out ?_ ?_ _) <;> (first | (with_reducible exact grownCap_ge _ _ _ _) | (rw [hs6.out]; decide) | simp)) | (with_reducible refine Bytes.alloc ?_ _) | (with_reducible refine Bytes.drew ?_) | (with_reducible refine Bytes.under ?_ hq4))) (by rw [HL6.out]; decide)).mono ?_); (rintro e w' ⟨gn, rfl, hq1, hq2, hq3, hq4⟩); (have hbx : Below wx.heap.size wx w' := (by refine Below.trans ?_ (hq4.mono (by first | omega | (simp; omega) | simp)); repeat (first | (with_reducible exact Below.refl _ _) | (with_reducible refine Below.alloc ?_ (by first | omega | (simp; omega) | simp) _) | (with_reducible refine Below.drew ?_) | (with_reducible exact hbx)))); (have hsx := hbx.size); (have hkd := cell_later hbx hs); (have hke : ∀ o, (w'.alloc o).cell? ⟨g, 1, none⟩ = some (Value.string s) := fun o => (World.cell?_alloc_lt w' o _ (by simp; omega)).trans hkd); (try (have Q := Pk.under P (by refine Below.trans ?_ (hq4.mono (by first | omega | (simp; omega) | simp)); repeat (first | (with_reducible exact Below.refl _ _) | (with_reducible refine Below.alloc ?_ (by first | omega | (simp; omega) | simp) _) | (with_reducible refine Below.drew ?_))))); (have P : Pk wx.heap.size L w' _ gn := ⟨hq3, (by first | omega | (simp; omega) | simp), hq1, hq2⟩))
        all_goals
          go_wp2_with fail
          go_meet
          have hlt := P.2.1
          exact two_of Q P (.inl (by first | omega | (simp; omega))) hbx
      case rest =>
        obtain ⟨lo1, g1, lo2, g2, rfl, rfl, hp1, hp2, hord, hbw⟩ := hcut
        have hW := Lib.hid hp1
        have hW2 := Lib.hid hp2
        have hn2 := cell_later hbw hn
        have hs2 := cell_later hbw hs
        have hgn : g < wc.heap.size := World.block_lt_of_cell? wc _ hs2
        have hb2 : Below w.heap.size w wc := hb.trans (hbw.mono hb.size)
        have hd : Cd.dec (L.take 6) = Cd.held n := by rw [← HLs.out]; exact row_dec hrow
        have hf1 : Cd.fits (some L) (Cd.held n) = true := Cd.fits_some.2 ⟨by rw [HL6.out]; decide, by rw [hd]; exact Int.le_refl _⟩
        have hf2 : Cd.fits (some L) ((Cd.held n : Int) - 1) = false := Cd.fits_great (by rw [hd]; omega)
        have k1 : Cd.numS (some L) (Cd.held n) = some [] := by simp [Cd.numS, hf1, Cd.rest]; rw [HL6.out]; exact Nat.le_refl _
        have k2 : ((Cd.numN (some L) (Cd.held n) : Nat) : Int) = (Cd.held n : Int) := by simp [Cd.numN, hf1, Cd.rest, hd]
        have k3 : Cd.numS (some L) ((Cd.held n : Int) - 1) = none := by simp [Cd.numS, hf2]
        have k4 : ((Cd.numN (some L) ((Cd.held n : Int) - 1) : Nat) : Int) = 0 := by simp [Cd.numN, hf2]
        have K1 := Lib.hid k1
        have K2 := Lib.hid k2
        have K3 := Lib.hid k3
        have K4 := Lib.hid k4
        have hhl := Cd.held_le n
        have o1 := hp1.2.1
        have o2 := hp2.2.1
        have o3 := hp1.2.2.1
        have o4 := hp2.2.2.1
        have o5 := hp1.2.2.2
        have o6 := hp2.2.2.2
        have o7 : g1 ≠ g2 := by omega
        have hbsz := hb.size
        have o8 : w.heap.size ≤ g1 := by omega
        have o9 : w.heap.size ≤ g2 := by omega
        clear k1 k2 k3 k4 hf1 hf2 hd hp1 hp2 hcl hn hs hb hbw
        obtain ⟨wy, rfl⟩ : ∃ wy : World, wy = wc := ⟨_, rfl⟩
        have hstr : ((str L).toList == s.toList) = true := by
          rw [str_toList, ← HLs.out, ByteArray.toList_eq, List.map_map]
          simp [Function.comp_def]
        obtain ⟨H, hH⟩ : ∃ H, Cd.held n = H := ⟨_, rfl⟩
        rw [hH] at K1 K2 K3 K4 hhl ⊢
        clear hH
        have hH1 : IntKind.i64.wrap ((H : Int) - 1) = (H : Int) - 1 := IntWalk.i64_in _ (by omega)
        go_wp2_with fail
        refine (rnum_is lo1 g1 g1 _ (some []) _ _ _ hW.out.1 K1.out K2.out).mono ?_
        rintro e w1 ⟨rfl, hr1, hg1⟩
        have HR1 := Lib.hid hr1
        have HR2 := Lib.hid (hW2.out.1.grown hg1 (by intro k hk; injection hk with hk; subst hk; exact ⟨o7, by omega⟩))
        have hbl : Below w.heap.size w w1 := hb2.trans (Below.ofGrown hg1 (by have := hb2.size; omega) hb2.size)
        have hs3 := hg1.cell hs2 (by simp; omega)
        have hn3 := hg1.cell hn2 (by simp; omega)
        clear hr1 hg1 hW hW2 hs2 hn2 hb2
        go_wp2_with fail
        go_region_held (fun w' => w'.cell? ⟨g, 0, none⟩ = some (Value.int .i64 n) ∧ w'.cell? ⟨g, 1, none⟩ = some (Value.string s)) (first | exact ⟨hn3, hs3⟩ | exact ⟨hn4, hs4⟩ | exact ⟨hn5, hs5⟩ | exact ⟨hn9, hs9⟩ | go_keep)
          (first
          | (go_at_call 8; ((with_reducible refine (num_is _ [] L n _ (bytes_none _) (by decide) HLN.out).mono ?_); rintro e w2 ⟨v2, rfl, ho2, hb2⟩); (have hbb : Below w1.heap.size w1 w2 := ⟨hb2.os, hb2.tape, hb2.output, hb2.size, hb2.block⟩); (have kt := run_text ho2.bytes); (have kt2 := run_text ho2.bytes.drew); (have R1 := Lib.hid (HR1.out.under hbb)); (have R2 := Lib.hid (HR2.out.under hbb)); (have hbm := hbl.trans (hbb.mono hbl.size)); (have hs4 := cell_later hbb hs3); (have hn4 := cell_later hbb hn3))
          | (go_at_call 9; ((with_reducible refine (end_is lo1 g1 g1 (some []) true _ ?_ rfl).mono ?_); (exact Rdr.heap R1.out rfl); (rintro e w' ⟨rfl, rfl⟩)))
          | (go_at_call 7; ((with_reducible refine (rnum_is lo2 g2 g2 _ none _ _ _ ?_ K3.out K4.out).mono ?_); (exact Rdr.heap R2.out rfl); (rintro e w3 ⟨rfl, hr3, hg3⟩)); (have hbn := hbm.trans (Below.ofGrown hg3 (by omega) hbm.size)); (have hs5 := hg3.cell hs4 (by simp; omega)); (have hn5 := hg3.cell hn4 (by simp; omega)))
          | (go_at_call 10; ((with_reducible refine (ok_is lo2 g2 g2 none false _ ?_ rfl).mono ?_); (exact Rdr.heap hr3 rfl); (rintro e w' ⟨rfl, rfl⟩)))
          | (go_at_call 11; ((with_reducible refine (awake_any _).mono ?_); rintro e w9 ⟨rfl, hb9⟩); (have hbz := hbn.trans (hb9.mono hbn.size)); (have hs9 : w9.cell? ⟨g, 1, none⟩ = some (Value.string s) := (hb9.cell (p := ⟨g, 1, none⟩) (World.block_lt_of_cell? _ _ hs5)).trans hs5); (have hn9 : w9.cell? ⟨g, 0, none⟩ = some (Value.int .i64 n) := (hb9.cell (p := ⟨g, 0, none⟩) (World.block_lt_of_cell? _ _ hn5)).trans hn5)))
        go_wp2
        go_ret
        exact ⟨rfl, hbz⟩

theorem cforms_any (a : Int) (w : World) : Calls Try.prog 3 #[.int .i64 a] w fun e w' => e = .returned (.bool true) ∧ Below w.heap.size w w' := by
  have h := and_low8 a
  refine cforms_at a _ rfl ?_ w
  rw [Int.tmod_eq_emod_of_nonneg h.1]
  omega

set_option maxRecDepth 100000 in
theorem cforms_lifted (os : Os) (started : os.Started) (H : Type) (enc : TypeId × Value → H) :
    ReturnsInHanded {} Try.checked os 3 .any (Rows.codeFormsSpec.pre6 enc Try.prog Try.f3 Rows.codeFormsRow.domain false) (Rows.codeFormsSpec.post enc Try.prog Try.f3 false true false false) := by
  refine returnsInHanded_of_change (C := Try.checked) own started (by kernel_rfl) Try.func3
    (ChangeSpec.witness6 (enc := enc) (C := Try.checked) false ⟨#[], #[.int .i64 0], []⟩ 8 (by kernel_rfl) (by kernel_rfl) (by kernel_rfl) (by kernel_rfl)) ?_
  intro W base args ds gs before hval hW _ _
  have hW' := hW
  obtain ⟨p, q, hA, hV, _, _, _⟩ := hW
  rw [show Try.f3.params.toList = [3] from by kernel_rfl] at hA
  obtain ⟨v0, d0, rfl, rfl, h0⟩ := trodAll_one hA
  obtain ⟨a, rfl, rfl, rfl, _⟩ := open_int Try.underlying3 (hval 0 3 v0 (by kernel_rfl) rfl) h0
  refine (cforms_any a W).mono fun e W' ⟨he, hb⟩ => ⟨_, he, ?_⟩
  exact law_post laidOut (by kernel_rfl) (by kernel_rfl) Try.underlying4 rfl hW' (by simp [Rows.codeFormsSpec]) hb

theorem cforms_holds : Rows.CodeFormsSaid :=
  OpenClaim.holds_of_wide 3 Try.f3 rfl rfl rfl rfl rfl rfl rfl ⟨rfl, rfl, rfl, rfl, rfl⟩ rfl rfl rfl rfl rfl (by kernel_rfl) Try.func3 (by kernel_rfl)
    (of_decide_eq_true (by kernel_rfl)) (by unfold Func.isWrapper; first | (rw [if_pos (by decide +kernel)]; kernel_rfl) | (rw [if_neg (by decide +kernel)]; exact ⟨rfl, rfl⟩))
    (fun os started H enc _ => cforms_lifted os started H enc)

#print axioms cforms_holds
end Go.Proofs.Ytgfhfmpcdmcplaa
