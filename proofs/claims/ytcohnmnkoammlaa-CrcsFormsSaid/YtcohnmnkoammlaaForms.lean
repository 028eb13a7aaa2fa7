/- CrcsForms: whichever row of known bytes is picked, its sum is the one that is written beside it. -/
import Derived.Test.YtcohnmnkoammlaaCrcs
import Derived.Deep.RegionHeld3
import Derived.Deep.DeepCutAuto
import Derived.BigQuiet
import Derived.Deep.QuietTactic
import Derived.RegionTactic
import Derived.Deep.RegionWith
namespace Go.Proofs.Ytcohnmnkoammlaa
open Go.ChangeShapes Go.WideShapes Go.ChangeAt Go.RowKit

/-- The string's bytes, laid as a row. -/
theorem bytes_of_string (w : World) (s : ByteArray) (e : TypeId) (cap : Nat) (hc : s.size ≤ cap) (hs : s.size ≤ 9223372036854775807) (m : Nat × Nat) :
    Bytes (w.alloc (.cells (bytesRow s cap) e m)) (.slice (some ⟨w.heap.size, 0, none⟩) s.size cap) (s.data.toList.map (·.toNat)) := by
  refine ⟨fun c hc => ?_, by simpa using hs, .inr ⟨w.heap.size, 0, cap, by simp, by simpa using hc, fun i hi => ?_⟩⟩
  · obtain ⟨b, _, rfl⟩ := List.mem_map.1 hc
    exact UInt8.toNat_lt b
  · have hi' : i < s.size := by simpa using hi
    have e1 : (w.alloc (.cells (bytesRow s cap) e m)).heap[w.heap.size]? = some (.cells (bytesRow s cap) e m) := heap_alloc_new w _
    have hd : i < s.data.size := hi'
    have e2 : (bytesRow s cap)[i]? = some (.int .u8 ((s.data[i].toNat : Nat) : Int)) := by
      unfold bytesRow
      rw [Array.getElem?_append_left (by rw [Array.size_map]; exact hd), Array.getElem?_map, Array.getElem?_eq_getElem hd]
      rfl
    unfold World.cell?
    rw [show 0 + i = i from by omega, e1]
    refine e2.trans ?_
    simp [Array.getElem?_eq_getElem hd]
/-- A row of the table: the text's sum. -/
def Pair (s : ByteArray) (c : Int) : Prop := s.size ≤ 100 ∧ ((Crc.sum (s.data.toList.map (·.toNat)) : Nat) : Int) = c

set_option maxHeartbeats 1000000 in
theorem forms_at (a : Int) (m : Int) (hm : (bits .and .i64 a 255).tmod 8 = m) (h8 : m = 0 ∨ m = 1 ∨ m = 2 ∨ m = 3 ∨ m = 4 ∨ m = 5 ∨ m = 6 ∨ m = 7) (w : World) :
    Calls Try.prog 3 #[.int .i64 a] w fun e w' => e = .returned (.bool true) ∧ Below w.heap.size w w' := by
  have kb := fun (w : World) (s : ByteArray) => run_bytes_of_string (P := Try.prog) w 9 26 5 s Try.underlying9 Try.underlying26 Try.underlying5
  go_enter Try.func3, Try.ntmps3
  go_upto_region 2 with fail
  go_cut [4] (fun s4 wx => ∃ (g : Nat) (s : ByteArray) (c : Int), s4 = .pointer (some ⟨g, 0, none⟩) ∧ wx.cell? ⟨g, 0, none⟩ = some (.string s) ∧ wx.cell? ⟨g, 1, none⟩ = some (.int .u32 c) ∧ Pair s c ∧ Below w.heap.size w wx)
  case first =>
    rcases h8 with rfl | rfl | rfl | rfl | rfl | rfl | rfl | rfl
    · go_wp2_with fail
      go_meet
      exact ⟨w.heap.size + 1, ByteArray.mk #[], 0, rfl, by simp [go_sem], by simp [go_sem], by unfold Pair; decide +kernel, ((Below.refl _ _).alloc (Nat.le_refl _) _).alloc (by simp) _⟩
    · go_wp2_with fail
      go_meet
      exact ⟨w.heap.size + 1, ByteArray.mk #[97], 3904355907, rfl, by simp [go_sem], by simp [go_sem], by unfold Pair; decide +kernel, ((Below.refl _ _).alloc (Nat.le_refl _) _).alloc (by simp) _⟩
    · go_wp2_with fail
      go_meet
      exact ⟨w.heap.size + 1, ByteArray.mk #[97, 98, 99], 891568578, rfl, by simp [go_sem], by simp [go_sem], by unfold Pair; decide +kernel, ((Below.refl _ _).alloc (Nat.le_refl _) _).alloc (by simp) _⟩
    · go_wp2_with fail
      go_meet
      exact ⟨w.heap.size + 1, ByteArray.mk #[49, 50, 51, 52, 53, 54, 55, 56, 57], 3421780262, rfl, by simp [go_sem], by simp [go_sem], by unfold Pair; decide +kernel, ((Below.refl _ _).alloc (Nat.le_refl _) _).alloc (by simp) _⟩
    · go_wp2_with fail
      go_meet
      exact ⟨w.heap.size + 1, ByteArray.mk #[0], 3523407757, rfl, by simp [go_sem], by simp [go_sem], by unfold Pair; decide +kernel, ((Below.refl _ _).alloc (Nat.le_refl _) _).alloc (by simp) _⟩
    · go_wp2_with fail
      go_meet
      exact ⟨w.heap.size + 1, ByteArray.mk #[0, 0, 0, 0], 558161692, rfl, by simp [go_sem], by simp [go_sem], by unfold Pair; decide +kernel, ((Below.refl _ _).alloc (Nat.le_refl _) _).alloc (by simp) _⟩
    · go_wp2_with fail
      go_meet
      exact ⟨w.heap.size + 1, ByteArray.mk #[255, 255, 255, 255], 4294967295, rfl, by simp [go_sem], by simp [go_sem], by unfold Pair; decide +kernel, ((Below.refl _ _).alloc (Nat.le_refl _) _).alloc (by simp) _⟩
    · go_wp2_with fail
      go_meet
      exact ⟨w.heap.size + 1, ByteArray.mk #[84, 104, 101, 32, 113, 117, 105, 99, 107, 32, 98, 114, 111, 119, 110, 32, 102, 111, 120, 32, 106, 117, 109, 112, 115, 32, 111, 118, 101, 114, 32, 116, 104, 101, 32, 108, 97, 122, 121, 32, 100, 111, 103], 1095738169, rfl, by simp [go_sem], by simp [go_sem], by unfold Pair; decide +kernel, ((Below.refl _ _).alloc (Nat.le_refl _) _).alloc (by simp) _⟩
  case rest =>
    obtain ⟨g, s, c, rfl, hs, hc, hp, hb⟩ := hcut
    have hs1 : ∀ o, (wc.alloc o).cell? ⟨g, 0, none⟩ = some (.string s) := fun o => (World.cell?_alloc_lt wc o _ (World.block_lt_of_cell? wc _ hs)).trans hs
    have hc1 : ∀ o, (wc.alloc o).cell? ⟨g, 1, none⟩ = some (.int .u32 c) := fun o => (World.cell?_alloc_lt wc o _ (World.block_lt_of_cell? wc _ hc)).trans hc
    go_wp2_with fail
    go_region_with (first | (go_at_call 6; refine (sum_is _ (s.data.toList.map (·.toNat)) _ c ?_ hp.2).mono ?_; exact bytes_of_string wc s _ _ (grownCap_ge _ _ _ _) (by have := hp.1; omega) _; rintro e w' ⟨rfl, rfl⟩) | (go_at_call 7; refine (awake_any _).mono ?_; rintro e w' ⟨rfl, hbw⟩))
    all_goals
      go_wp2
      go_ret
      refine ⟨rfl, Below.trans ?_ (hbw.mono (by have := hb.size; simp; omega))⟩
      repeat (first | exact hb.alloc hb.size _ | refine Below.drew ?_)

theorem and_low (a : Int) : 0 ≤ bits .and .i64 a 255 ∧ bits .and .i64 a 255 ≤ 255 := by
  have h : bits .and .i64 a 255 = IntKind.i64.wrap ((BitVec.ofInt 64 a &&& BitVec.ofInt 64 255).toNat : Int) := rfl
  have hx : (BitVec.ofInt 64 a &&& BitVec.ofInt 64 255).toNat ≤ 255 := by
    rw [BitVec.toNat_and]
    exact Nat.le_trans Nat.and_le_right (by decide)
  rw [h, IntKind.wrap_i64]
  omega

theorem forms_any (a : Int) (w : World) : Calls Try.prog 3 #[.int .i64 a] w fun e w' => e = .returned (.bool true) ∧ Below w.heap.size w w' := by
  have h := and_low a
  refine forms_at a _ rfl ?_ w
  rw [Int.tmod_eq_emod_of_nonneg h.1]
  omega

set_option maxRecDepth 100000 in
theorem forms_lifted (os : Os) (started : os.Started) (H : Type) (enc : TypeId × Value → H) :
    ReturnsInHanded {} Try.checked os 3 .any (Rows.crcsFormsSpec.pre6 enc Try.prog Try.f3 Rows.crcsFormsRow.domain false) (Rows.crcsFormsSpec.post enc Try.prog Try.f3 false true false false) := by
  refine returnsInHanded_of_change (C := Try.checked) own started (by kernel_rfl) Try.func3
    (ChangeSpec.witness6 (enc := enc) (C := Try.checked) false ⟨#[], #[.int .i64 0], []⟩ 8 (by kernel_rfl) (by kernel_rfl) (by kernel_rfl) (by kernel_rfl)) ?_
  intro W base args ds gs before hval hW _ _
  have hW' := hW
  obtain ⟨p, q, hA, hV, _, _, _⟩ := hW
  rw [show Try.f3.params.toList = [3] from by kernel_rfl] at hA
  obtain ⟨v0, d0, rfl, rfl, h0⟩ := trodAll_one hA
  obtain ⟨a, rfl, rfl, rfl, _⟩ := open_int Try.underlying3 (hval 0 3 v0 (by kernel_rfl) rfl) h0
  refine (forms_any a W).mono fun e W' ⟨he, hb⟩ => ⟨_, he, ?_⟩
  exact law_post laidOut (by kernel_rfl) (by kernel_rfl) Try.underlying4 rfl hW' (by simp [Rows.crcsFormsSpec]) hb

theorem forms_holds : Rows.CrcsFormsSaid :=
  OpenClaim.holds_of_wide 3 Try.f3 rfl rfl rfl rfl rfl rfl rfl ⟨rfl, rfl, rfl, rfl, rfl⟩ rfl rfl rfl rfl rfl (by kernel_rfl) Try.func3 (by kernel_rfl)
    (of_decide_eq_true (by kernel_rfl)) (by unfold Func.isWrapper; first | (rw [if_pos (by decide +kernel)]; kernel_rfl) | (rw [if_neg (by decide +kernel)]; exact ⟨rfl, rfl⟩))
    (fun os started H enc _ => forms_lifted os started H enc)

#print axioms forms_holds
end Go.Proofs.Ytcohnmnkoammlaa
