/- ActsGrow: a text of so many letters, doubled so often, comes to its length, or to nothing where it is more than may be. -/
import Derived.Test.YtfeaolcgjkkadaaDoorActAwake
import Derived.Deep.DeepCutAuto
namespace Go.Proofs.YtfeaolcgjkkadaaDoor
set_option maxRecDepth 100000
open Go.ChangeShapes Go.WideShapes Go.ChangeAt Go.RowKit

def growL (N i : Nat) : List Ac.D := ⟨1, 0, List.replicate N 120⟩ :: List.replicate i ⟨9, 0, []⟩
theorem growL_next (N i : Nat) : growL N i ++ [⟨9, 0, []⟩] = growL N (i + 1) := by
  unfold growL
  rw [List.replicate_succ', List.cons_append]
theorem growL_good {N i : Nat} (hN : N ≤ 63) : ∀ d ∈ growL N i, d.kind ≤ 1000000 ∧ (∀ c ∈ d.text, c < 256) ∧ d.text.length ≤ 1099511627776 := by
  intro d hd
  rcases List.mem_cons.1 hd with rfl | hd
  · refine ⟨by show 1 ≤ _; decide, fun c hc => ?_, by simp; omega⟩
    rw [List.eq_of_mem_replicate hc]
    decide
  · rw [List.eq_of_mem_replicate hd]
    exact ⟨by decide, by simp, by simp⟩
set_option maxRecDepth 100000 in
set_option maxHeartbeats 8000000 in
theorem grow_at (a b : Int) (N t : Nat) (hm : bits .and .i64 a 63 = (N : Int)) (hN : N ≤ 63) (hb : (bits .and .i64 b 255).tmod 8 = (t : Int)) (ht : t ≤ 7) (w : World) (hTab : Tabs w) :
    Calls Tryd.prog 7 #[.int .i64 a, .int .i64 b] w fun e w' => e = .returned (.bool true) ∧ Below w.heap.size w w' := by
  have HTab := Lib.hid hTab
  have HG := Lib.hid (Ac.grow_is N t hN ht)
  have HGD := Lib.hid (growL_good (i := t) hN)
  clear hTab
  have s0 : ({ data := #[] } : ByteArray) = str [] := rfl
  go_enter Tryd.func7, Tryd.ntmps7
  go_wp2_with fail
  go_loop [5, 6] (fun tv iv => ∃ j : Nat, j ≤ N ∧ tv = .string (str (List.replicate j 120)) ∧ iv = .int .i64 (j : Int)) (fun _ iv => N - (intOf iv).toNat)
  case atStart => exact ⟨0, by omega, rfl, rfl⟩
  case round =>
    obtain ⟨j, hj, rfl, rfl⟩ := hrel
    by_cases hlt : j < N
    · have hjN : (j : Int) < (N : Int) := by omega
      have hf := str_fits (l := List.replicate j 120) (m := [120]) (by simp; omega)
      have hadd : str (List.replicate j 120) ++ { data := #[120] } = str (List.replicate (j + 1) 120) := by
        rw [List.replicate_succ']
        exact str_add _ [120]
      go_wp2_with fail
      case roundEnd =>
        exact ⟨⟨j + 1, by omega, rfl, rfl⟩, by simp [intOf]; omega⟩
    · obtain rfl : j = N := by omega
      clear s0
      obtain ⟨s, hs⟩ : ∃ s, str (List.replicate j 120) = s := ⟨_, rfl⟩
      have HO0 : Hid (OwnD (w.alloc (.cells #[.int .i64 1, .int .i64 0, .string s] 28)) w.heap.size (.slice (some ⟨w.heap.size, 0, none⟩) 1 1) (growL j 0)) := Lib.hid (by rw [← hs]; exact ownD_lit w w.heap.size (growL j 0) _ 1 rfl rfl (Nat.le_refl _) (by simp [growL]))
      have HB0 : Hid (Below w.heap.size w (w.alloc (.cells #[.int .i64 1, .int .i64 0, .string s] 28))) := Lib.hid ((Below.refl _ _).alloc (Nat.le_refl _) _)
      rw [hs]
      go_wp2_with fail
      go_loopg [7, 8] t (fun g dv iv wr => ∃ i : Nat, i ≤ t ∧ t - i ≤ g ∧ iv = .int .i64 (i : Int) ∧ Hid (OwnD wr w.heap.size dv (growL j i)) ∧ Hid (Below w.heap.size w wr))
      case atStart => exact ⟨0, by omega, by omega, rfl, HO0, HB0⟩
      case round =>
        obtain ⟨i, hi, hg, rfl, hO, hbl⟩ := hrel
        obtain ⟨wz, rfl⟩ : ∃ wx : World, wx = wr := ⟨_, rfl⟩
        clear HO0 HB0
        by_cases hlt : i < t
        · have hitI : (i : Int) < (t : Int) := by omega
          have hlen : (growL j i).length = i + 1 := by simp [growL]
          have HLEN := Lib.hid hlen
          clear hlen
          go_wp2_with (at_builtin; refine wpList_append_do rfl _ _ rfl w.heap.size wz.heap.size _ (growL j i) ⟨9, 0, []⟩ rfl (hO.out.alloc _) rfl ?_ (by rw [HLEN.out]; omega) ?_ (growL j (i + 1)) (growL_next j i) ?_)
          case refine_1 =>
            intro jj y hy
            have h : Blk (wz.alloc (.cells (cellsD ⟨9, 0, []⟩).toArray 28)) wz.heap.size 28 (cellsD ⟨9, 0, []⟩).toArray := heap_alloc_new _ _
            have := h.at jj
            rw [List.getElem?_toArray, hy] at this
            exact this
          case refine_2 => exact (hbl.out.alloc hbl.out.size _).size
          case refine_3 =>
            rintro u' w' hO' - hb'
            have HO' := Lib.hid hO'
            have HB' := Lib.hid ((hbl.out.alloc hbl.out.size (.cells (cellsD ⟨9, 0, []⟩).toArray 28)).trans hb')
            clear hO' hb'
            go_wp2
            go_roundg (t - (i + 1))
            case measure => omega
            case rel => exact ⟨i + 1, hlt, by omega, by go_num, HO', HB'⟩
        · obtain rfl : i = t := by omega
          clear hlt hg
          go_wp2_with fail
          obtain ⟨X, hX⟩ : ∃ X, j * 2 ^ i = X := ⟨_, rfl⟩
          have hXB : X ≤ 8064 := by
            rw [← hX]
            exact Nat.mul_le_mul hN (Nat.pow_le_pow_right (by decide) ht)
          have HX := Lib.hid hX
          rw [hX] at HG
          have hw : wrap64 ((j : Int) * 2 ^ i) = (X : Int) := by
            have e : (j : Int) * 2 ^ i = (X : Int) := by rw [← hX]; push_cast; rfl
            rw [e]
            unfold wrap64
            omega
          clear hX
          have hrun := run_any u7 (.slice none 0 0) (growL j i) [] wz hO.out.rd (rows2_none _) (by decide) (by simp) HGD.out _ HG.out.symm
          refine hrun.mono ?_
          intro e w2 hc
          by_cases hlim : X ≤ 256
          · rw [if_pos hlim] at hc
            obtain ⟨⟨v2, rfl, hm2⟩, hb2⟩ := hc
            obtain ⟨A2, c2, rfl, hc2, -⟩ := hm2.parts
            rw [List.length_replicate]
            have HB2 := Lib.hid (hbl.out.trans (hb2.mono hbl.out.size))
            clear hrun hm2 hb2 hc2 HG
            have hXI : (X : Int) ≤ 256 := by omega
            go_wp2_with fail
            refine (awake_any _ (HTab.out.under HB2.out)).mono ?_
            rintro e w3 ⟨rfl, hb3⟩
            have HB3 := Lib.hid (HB2.out.trans (hb3.mono HB2.out.size))
            clear hb3
            go_wp2
            go_ret
            exact ⟨rfl, HB3.out⟩
          · rw [if_neg hlim] at hc
            obtain ⟨rfl, hb2⟩ := hc
            have HB2 := Lib.hid (hbl.out.trans (hb2.mono hbl.out.size))
            have hXI : decide ((X : Int) ≤ 256) = false := decide_eq_false (by omega)
            clear hrun hb2 HG
            go_wp2_with fail
            refine (awake_any _ (HTab.out.under HB2.out)).mono ?_
            rintro e w3 ⟨rfl, hb3⟩
            have HB3 := Lib.hid (HB2.out.trans (hb3.mono HB2.out.size))
            clear hb3
            go_wp2
            go_ret
            exact ⟨rfl, HB3.out⟩
end Go.Proofs.YtfeaolcgjkkadaaDoor
