/- The program's own answer for temps' texts. -/
import Derived.Test.YtpgoofkpcbbhjaaDoorNameApi
import Derived.RegionTactic
import Derived.BigQuiet
import Derived.Deep.QuietTactic
namespace Go.Proofs.YtpgoofkpcbbhjaaDoor
open Go.ChangeShapes Go.WideShapes Go.ChangeAt Go.RowKit

theorem trim_call (l : List Nat) (w : World) :
    Calls Tryd.prog 17 #[.string (str l), .string { data := #[116, 109, 112, 47] }] w fun e w' => e = .returned (.string (trim l)) ∧ w' = w :=
  Tryd.strings_TrimPrefix (str l) { data := #[116, 109, 112, 47] } w
theorem split_call (l : List Nat) (w : World) (hm : l.length ≤ 1073741824) (hT : Tabs w) :
    Calls Tryd.prog 16 #[.string (trim l), .string { data := #[46] }, .int .i64 3] w fun e w' =>
      e = .returned (.slice (some ⟨w.heap.size, 0, none⟩) (pcs l).length (min 3 ((trim l).size + 1))) ∧ w' = w.alloc (.cells (Lib.cellsOf (pcs l) (min 3 ((trim l).size + 1))) 9) := by
  obtain ⟨-, ⟨M, hM⟩, -⟩ := hT
  exact Tryd.strings_SplitN (trim l) { data := #[46] } 3 M w (by have := trim_size l; omega) hM (by decide) (by decide) (by decide)
theorem pcs_not {l : List Nat} (h : (pcs l).length ≠ 3) : Nm.isOf l = false := by
  rcases hq : Nm.isOf l with _ | _
  · rfl
  · obtain ⟨x, y, z, -, -, -, rfl⟩ := Nm.isOf_temp hq
    rw [pcs_temp] at h
    exact absurd rfl h
theorem str_data_nat (n : Nat) : (str (Nm.dec n)).data.toList = (Nm.dec n).map UInt8.ofNat := str_data _
/-- What the parts of a temp are read as. -/
theorem pcs_of {l : List Nat} {B0 B1 B2 : ByteArray} (h : pcs l = [B0, B1, B2]) (hq : Nm.isOf l = true) :
    ∃ x y z : Nat, x ≤ 999 ∧ y ≤ 99999 ∧ z ≤ 99999 ∧ l = Nm.temp x y z ∧ Lib.atoiAll B0.data.toList = .ok (x : Int) ∧ Lib.atoiAll B1.data.toList = .ok (y : Int) ∧ Lib.atoiAll B2.data.toList = .ok (z : Int) := by
  obtain ⟨x, y, z, hx, hy, hz, rfl⟩ := Nm.isOf_temp hq
  rw [pcs_temp] at h
  injection h with h0 h
  injection h with h1 h
  injection h with h2 _
  subst h0 h1 h2
  refine ⟨x, y, z, hx, hy, hz, rfl, ?_, ?_, ?_⟩
  · rw [str_data_nat]; exact Nm.atoi_dec (by omega)
  · rw [str_data_nat]; exact Nm.atoi_dec hy
  · rw [str_data_nat]; exact Nm.atoi_dec hz
theorem held_nat {x m : Nat} (h : x ≤ m) : Nm.held (x : Int) m = x := by unfold Nm.held; omega
/-- At the end: what is made of the three numbers is the text again just if it is a temp. -/
theorem of_end {l : List Nat} {B0 B1 B2 : ByteArray} (h : pcs l = [B0, B1, B2]) {v0 v1 v2 : Int} (h0 : Lib.atoiAll B0.data.toList = .ok v0) (h1 : Lib.atoiAll B1.data.toList = .ok v1) (h2 : Lib.atoiAll B2.data.toList = .ok v2) :
    (Nm.temp (Nm.held v0 999) (Nm.held v1 99999) (Nm.held v2 99999) = l ∧ Nm.isOf l = true ∧ v0 = (Nm.ofWho l : Nat) ∧ v1 = (Nm.ofInc l : Nat)) ∨ (Nm.temp (Nm.held v0 999) (Nm.held v1 99999) (Nm.held v2 99999) ≠ l ∧ Nm.isOf l = false) := by
  rcases hq : Nm.isOf l with _ | _
  · refine .inr ⟨fun e => ?_, rfl⟩
    have := (Nm.temp_of (Nm.held_le v0 999) (Nm.held_le v1 99999) (Nm.held_le v2 99999)).1
    rw [e, hq] at this
    cases this
  · obtain ⟨x, y, z, hx, hy, hz, rfl, e0, e1, e2⟩ := pcs_of h hq
    rw [h0] at e0
    rw [h1] at e1
    rw [h2] at e2
    injection e0 with e0
    injection e1 with e1
    injection e2 with e2
    subst e0 e1 e2
    have ht := Nm.temp_of hx hy hz
    exact .inl ⟨by rw [held_nat hx, held_nat hy, held_nat hz], rfl, by rw [ht.2.1], by rw [ht.2.2]⟩

theorem heap_alloc_new' (w : World) (o : Obj) {k : Nat} (h : k = w.heap.size) : (w.alloc o).heap[k]? = some o := by subst h; exact heap_alloc_new w o
set_option maxRecDepth 100000 in
set_option maxHeartbeats 4000000 in
theorem of_any (l : List Nat) (w : World) (hl : ∀ c ∈ l, c < 256) (hm : l.length ≤ 1073741824) (hT : Tabs w) :
    Calls Tryd.prog 6 #[.string (str l)] w (OfIs l w) := by
  have HC1 := Lib.hid (trim_call l w)
  have HC2 := Lib.hid (split_call l w hm hT)
  have HT := Lib.hid hT
  have HL := Lib.hid hl
  clear hT hl
  obtain ⟨n, hn⟩ : ∃ n, (pcs l).length = n := ⟨_, rfl⟩
  have HN := Lib.hid hn
  have hz := pcs_size l
  have hcap := pcs_len l
  obtain ⟨N, hN⟩ : ∃ N, min 3 ((trim l).size + 1) = N := ⟨_, rfl⟩
  rw [hn, hN] at HC2 hcap
  have HB : Hid (n = 3 → ∃ B0 B1 B2, pcs l = [B0, B1, B2] ∧ Lib.cellsOf (pcs l) N = #[.string B0, .string B1, .string B2] ∧ B0.size ≤ 281474976710656 ∧ B1.size ≤ 281474976710656 ∧ B2.size ≤ 281474976710656) := Lib.hid (by
    intro h3
    have hN3 : N = 3 := by omega
    subst h3
    rcases hp : pcs l with _ | ⟨B0, _ | ⟨B1, _ | ⟨B2, _ | ⟨u, L⟩⟩⟩⟩
    · rw [hp] at hn; simp at hn
    · rw [hp] at hn; simp at hn
    · rw [hp] at hn; simp at hn
    · rw [hp] at hz
      refine ⟨B0, B1, B2, rfl, ?_, ?_, ?_, ?_⟩
      · rw [hN3]; rfl
      · have := hz B0 (by simp); omega
      · have := hz B1 (by simp); omega
      · have := hz B2 (by simp); omega
    · rw [hp] at hn; simp at hn)
  clear hn hz hcap hN hm
  obtain ⟨t, ht⟩ : ∃ t, trim l = t := ⟨_, rfl⟩
  rw [ht] at HC1 HC2
  clear ht
  go_enter Tryd.func6, Tryd.ntmps6
  go_wp2_with fail
  refine HC1.out.mono ?_
  rintro e w' ⟨rfl, rfl⟩
  go_wp2_with fail
  refine HC2.out.mono ?_
  rintro e w1 ⟨rfl, rfl⟩
  by_cases h3 : n = 3
  · obtain ⟨B0, B1, B2, hp, hcells, z0, z1, z2⟩ := HB.out h3
    subst h3
    rw [hcells]
    have HP := Lib.hid hp
    have Z0 := Lib.hid z0
    have Z1 := Lib.hid z1
    have Z2 := Lib.hid z2
    clear hp hcells z0 z1 z2
    clear HB HC1 HC2 HN
    go_wp2_with fail
    go_loopw [19] (fun i wr => ∃ k : Nat, k ≤ 3 ∧ i = .int .i64 k ∧ ∃ v0 v1 v2 : Int, Blk wr (w'.heap.size + 1) 38 #[.int .i64 v0, .int .i64 v1, .int .i64 v2] ∧ Blk wr w'.heap.size 9 #[.string B0, .string B1, .string B2] ∧
      Hid ((1 ≤ k → Lib.atoiAll B0.data.toList = .ok v0) ∧ (2 ≤ k → Lib.atoiAll B1.data.toList = .ok v1) ∧ (3 ≤ k → Lib.atoiAll B2.data.toList = .ok v2)) ∧ Below w'.heap.size w' wr) (fun i _ => 3 - (intOf i).toNat)
    case atStart => exact ⟨0, by omega, rfl, 0, 0, 0, heap_alloc_new' _ _ (by simp), Blk.alloc (heap_alloc_new w' _) _, Lib.hid ⟨by omega, by omega, by omega⟩, ((Below.refl _ _).alloc (Nat.le_refl _) _).alloc (by simp) _⟩
    case round =>
      obtain ⟨k, hk, rfl, v0, v1, v2, hn, hs, hv, hb⟩ := hrel
      have hk' : k = 0 ∨ k = 1 ∨ k = 2 ∨ k = 3 := by omega
      rcases hk' with rfl | rfl | rfl | rfl
      · have c0 : wr.cell? ⟨w'.heap.size, 0, none⟩ = some (.string B0) := hs.at 0
        go_wp2_with fail
        refine (atoi_any B0 wr Z0.out (HT.out.under hb)).mono ?_
        rintro e w2 ⟨hb2, ⟨v, hv', rfl⟩ | ⟨hno, v, te, pe, rfl⟩⟩
        · have hn2 := hn.under hb2
          have hs2 := hs.under hb2
          have f0 := hn2.free 0
          have b0 : w2.cell? ⟨w'.heap.size + 1, 0, none⟩ = some (.int .i64 v0) := hn2.at 0
          have HV := Lib.hid hv'
          have hb3 := hb.trans (hb2.mono hb.size)
          clear hv' c0 hn hs hb hb2
          go_wp2
          go_roundw
          case rel => exact ⟨1, by omega, by go_num, v, v1, v2, hn2.set 0 (.int .i64 v), hs2.setOther (by simp) _, Lib.hid ⟨fun _ => HV.out, by omega, by omega⟩, hb3.setCell (by simp) _⟩
          case measure => simp [intOf]
        · have HZ : Hid (Nm.isOf l = false) := Lib.hid (by
            rcases hq : Nm.isOf l with _ | _
            · rfl
            · obtain ⟨x, y, z, -, -, -, -, e0, e1, e2⟩ := pcs_of HP.out hq
              exact absurd e0 (hno _))
          have hb3 := hb.trans (hb2.mono hb.size)
          clear hno c0 hn hs hb hb2
          go_wp2
          go_ret3
          exact ofIs_not HZ.out hb3
      · have c0 : wr.cell? ⟨w'.heap.size, 1, none⟩ = some (.string B1) := hs.at 1
        go_wp2_with fail
        refine (atoi_any B1 wr Z1.out (HT.out.under hb)).mono ?_
        rintro e w2 ⟨hb2, ⟨v, hv', rfl⟩ | ⟨hno, v, te, pe, rfl⟩⟩
        · have hn2 := hn.under hb2
          have hs2 := hs.under hb2
          have f0 := hn2.free 1
          have b0 : w2.cell? ⟨w'.heap.size + 1, 1, none⟩ = some (.int .i64 v1) := hn2.at 1
          have HV := Lib.hid hv'
          have hb3 := hb.trans (hb2.mono hb.size)
          clear hv' c0 hn hs hb hb2
          go_wp2
          go_roundw
          case rel => exact ⟨2, by omega, by go_num, v0, v, v2, hn2.set 1 (.int .i64 v), hs2.setOther (by simp) _, Lib.hid ⟨fun _ => hv.out.1 (by omega), fun _ => HV.out, by omega⟩, hb3.setCell (by simp) _⟩
          case measure => simp [intOf]
        · have HZ : Hid (Nm.isOf l = false) := Lib.hid (by
            rcases hq : Nm.isOf l with _ | _
            · rfl
            · obtain ⟨x, y, z, -, -, -, -, e0, e1, e2⟩ := pcs_of HP.out hq
              exact absurd e1 (hno _))
          have hb3 := hb.trans (hb2.mono hb.size)
          clear hno c0 hn hs hb hb2
          go_wp2
          go_ret3
          exact ofIs_not HZ.out hb3
      · have c0 : wr.cell? ⟨w'.heap.size, 2, none⟩ = some (.string B2) := hs.at 2
        go_wp2_with fail
        refine (atoi_any B2 wr Z2.out (HT.out.under hb)).mono ?_
        rintro e w2 ⟨hb2, ⟨v, hv', rfl⟩ | ⟨hno, v, te, pe, rfl⟩⟩
        · have hn2 := hn.under hb2
          have hs2 := hs.under hb2
          have f0 := hn2.free 2
          have b0 : w2.cell? ⟨w'.heap.size + 1, 2, none⟩ = some (.int .i64 v2) := hn2.at 2
          have HV := Lib.hid hv'
          have hb3 := hb.trans (hb2.mono hb.size)
          clear hv' c0 hn hs hb hb2
          go_wp2
          go_roundw
          case rel => exact ⟨3, by omega, by go_num, v0, v1, v, hn2.set 2 (.int .i64 v), hs2.setOther (by simp) _, Lib.hid ⟨fun _ => hv.out.1 (by omega), fun _ => hv.out.2.1 (by omega), fun _ => HV.out⟩, hb3.setCell (by simp) _⟩
          case measure => simp [intOf]
        · have HZ : Hid (Nm.isOf l = false) := Lib.hid (by
            rcases hq : Nm.isOf l with _ | _
            · rfl
            · obtain ⟨x, y, z, -, -, -, -, e0, e1, e2⟩ := pcs_of HP.out hq
              exact absurd e2 (hno _))
          have hb3 := hb.trans (hb2.mono hb.size)
          clear hno c0 hn hs hb hb2
          go_wp2
          go_ret3
          exact ofIs_not HZ.out hb3
      · have b0 : wr.cell? ⟨w'.heap.size + 1, 0, none⟩ = some (.int .i64 v0) := hn.at 0
        have b1 : wr.cell? ⟨w'.heap.size + 1, 1, none⟩ = some (.int .i64 v1) := hn.at 1
        have b2 : wr.cell? ⟨w'.heap.size + 1, 2, none⟩ = some (.int .i64 v2) := hn.at 2
        have hend := of_end HP.out (hv.out.1 (by omega)) (hv.out.2.1 (by omega)) (hv.out.2.2 (by omega))
        have HE := Lib.hid hend
        clear hend
        go_wp2_with fail
        refine (temp_any v0 v1 v2 wr (HT.out.under hb)).mono ?_
        rintro e w2 ⟨rfl, hb2⟩
        have c0 : w2.cell? ⟨w'.heap.size + 1, 0, none⟩ = some (.int .i64 v0) := (hn.under hb2).at 0
        have c1 : w2.cell? ⟨w'.heap.size + 1, 1, none⟩ = some (.int .i64 v1) := (hn.under hb2).at 1
        have hb3 := hb.trans (hb2.mono hb.size)
        have hsame := str_same (Nm.temp_byte (Nm.held v0 999) (Nm.held v1 99999) (Nm.held v2 99999)) HL.out
        obtain ⟨T, hT⟩ : ∃ T, Nm.temp (Nm.held v0 999) (Nm.held v1 99999) (Nm.held v2 99999) = T := ⟨_, rfl⟩
        rw [hT] at hsame HE ⊢
        clear hT b0 b1 b2 hb hb2 hn hs hv
        rcases HE.out with ⟨h1, h2, h3, h4⟩ | ⟨h1, h2⟩
        · rw [decide_eq_true h1] at hsame
          have HF := Lib.hid (show (Nm.isOf l = true ∧ v0 = (Nm.ofWho l : Nat) ∧ v1 = (Nm.ofInc l : Nat)) from ⟨h2, h3, h4⟩)
          clear h1 h2 h3 h4 HE
          go_wp2_with fail
          go_region
          go_wp2
          go_ret3
          refine ⟨?_, hb3.drew⟩
          rw [← HF.out.2.1, ← HF.out.2.2, HF.out.1]
          rfl
        · rw [decide_eq_false h1] at hsame
          have HZ := Lib.hid h2
          clear h1 h2 HE
          go_wp2
          go_ret3
          exact ofIs_not HZ.out hb3
  · have HZ := Lib.hid (pcs_not (l := l) (by rw [HN.out]; exact h3))
    have hn3 : ((n : Int) != 3) = true := by simp; omega
    clear h3
    go_wp2
    go_ret3
    exact ofIs_not HZ.out ((Below.refl _ _).alloc (Nat.le_refl _) _)
end Go.Proofs.YtpgoofkpcbbhjaaDoor
