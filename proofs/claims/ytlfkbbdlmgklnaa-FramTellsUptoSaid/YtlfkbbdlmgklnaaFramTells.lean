/- FramTells: bytes are framed, and frames found in any bytes, one behind the other, as the document says. -/
import Derived.Test.YtlfkbbdlmgklnaaFramAwake
import Derived.Test.YtlfkbbdlmgklnaaFive
import Derived.Deep.CutBlock
import Derived.Deep.DeepMust
namespace Go.Proofs.Ytlfkbbdlmgklnaa
open Go.ChangeShapes Go.WideShapes Go.ChangeAt Go.RowKit Go.Shelf

attribute [local go_sem] Oper.semAt_some

/-- The block that a loop over a function leaves to be taken up at the call's end. -/
def markOf (D : Nat) : Deferred := { target := .collected D, args := #[] }
def Marks (lo : Nat) (W : World) (Ds : List Nat) : Prop := Ds.Nodup ∧ ∀ D ∈ Ds, lo ≤ D ∧ W.heap[D]? = some (.deferred (some []))
theorem marks_none (lo : Nat) (W : World) : Marks lo W [] := ⟨List.nodup_nil, by simp⟩
theorem Marks.under {lo : Nat} {A B : World} {Ds : List Nat} (h : Marks lo A Ds) (hb : Below A.heap.size A B) : Marks lo B Ds :=
  ⟨h.1, fun D hD => ⟨(h.2 D hD).1, (hb.block D (Array.getElem?_eq_some_iff.1 (h.2 D hD).2).1).trans (h.2 D hD).2⟩⟩
theorem Marks.lt {lo : Nat} {A : World} {Ds : List Nat} (h : Marks lo A Ds) : ∀ D ∈ Ds, D < A.heap.size := fun D hD => (Array.getElem?_eq_some_iff.1 (h.2 D hD).2).1

theorem leaves_marks {F : Fence} {n : Nat} {P : Program} {fn : Func} {tmps : Array Value} {R : Ending → World → Prop} : ∀ (Ds : List Nat) (W : World), Ds.Nodup → (∀ D ∈ Ds, W.heap[D]? = some (.deferred (some []))) →
    (∀ W' : World, (∀ k, k ∉ Ds → W'.heap[k]? = W.heap[k]?) → W'.os = W.os → W'.tape = W.tape → W'.output = W.output → W.heap.size ≤ W'.heap.size → LeavesInM F n P fn tmps R [] .returning W') →
    LeavesInM F n P fn tmps R (Ds.map markOf) .returning W
  | [], W, _, _, h => h W (fun _ _ => rfl) rfl rfl rfl (Nat.le_refl _)
  | D :: Ds, W, hn, hd, h => by
    obtain ⟨hn1, hn2⟩ := List.nodup_cons.1 hn
    refine ⟨by simp, .inl ⟨D, _, rfl, run_takeDeferred (hd D (by simp)), leaves_marks Ds _ hn2 (fun E hE => ?_) fun W' hk ho ht hu hz => h W' (fun k hkn => ?_) ho ht hu (by simpa using hz)⟩⟩
    · rw [World.putObj_heap_other (by rintro rfl; exact hn1 hE)]
      exact hd E (by simp [hE])
    · rw [hk k (fun e => hkn (by simp [e])), World.putObj_heap_other (fun e => hkn (by simp [e]))]

/-- The frame at the beginning of a round. -/
def tellsFrame (v0 v1 vb vu : Value) (at_ by_ : Int) (g k T j : Nat) (ds : List Deferred) (y : Nat → Value) : Act :=
  { tmps := #[v0, v1, .int .i64 at_, .int .u8 by_, undef, undef, undef, undef, .pointer (some ⟨g, 0, none⟩), vb, vu, .int .i64 (k : Int), y 12, y 13, y 14, y 15, y 16, y 17, y 18, y 19, y 20, y 21, y 22, y 23, y 24, y 25, y 26, y 27, y 28, y 29, y 30, y 31, y 32, y 33, y 34, y 35, y 36, y 37, y 38, y 39, y 40, y 41, y 42, y 43, y 44, y 45, y 46, y 47, y 48, y 49, y 50, y 51, y 52, y 53, y 54, y 55, y 56, y 57, y 58, y 59, y 60, y 61, y 62, y 63, y 64, y 65, y 66, y 67, y 68, .slice (some ⟨T, 0, none⟩) 5 5, .int .i64 5, .int .i64 (j : Int), y 72, y 73, y 74, y 75, y 76, y 77, y 78, y 79, y 80, y 81, y 82, y 83, y 84, y 85, y 86, y 87, y 88, y 89, y 90, y 91, y 92, y 93, y 94, y 95, y 96, y 97, y 98, y 99, y 100, y 101, y 102, y 103, y 104, y 105, y 106, y 107, y 108, y 109, y 110, y 111, y 112, y 113, y 114, y 115, y 116, y 117, y 118, y 119, y 120, y 121, y 122, y 123, y 124, y 125, y 126, y 127, y 128, y 129, y 130, y 131, y 132], defers := ds }

set_option maxRecDepth 100000 in
set_option maxHeartbeats 40000000 in
theorem tells_short (v0 v1 : Value) (raw : List Nat) (L : List (List Nat)) (at_ by_ : Int) (w : World) (hr : Bytes w v0 raw) (hL : Rows2 w v1 L) (hl : raw.length ≤ 300) (hn : L.length ≤ 12) (hT : L.flatten.length ≤ 1048576) (hby : 0 ≤ by_ ∧ by_ < 256) :
    Calls Try.prog 3 #[v0, v1, .int .i64 at_, .int .u8 by_] w fun e w' => e = .returned (.bool true) ∧ Below w.heap.size w w' := by
  have HR := Lib.hid hr
  have HL := Lib.hid hL
  obtain ⟨_, _, A0, c0, rfl, hc0, _⟩ := hr.parts
  obtain ⟨_, A1, c1, rfl, hc1, _⟩ := hL
  obtain ⟨R, hR⟩ : ∃ n, raw.length = n := ⟨_, rfl⟩
  obtain ⟨n, hn'⟩ : ∃ n, L.length = n := ⟨_, rfl⟩
  rw [hR] at HR hl hc0 ⊢
  rw [hn'] at HL hn hc1 ⊢
  have HRL := Lib.hid hR
  have HLL := Lib.hid hn'
  have HT := Lib.hid hT
  have r1 : ¬ (300 : Int) < (R : Int) := by omega
  have r2 : ¬ (12 : Int) < (n : Int) := by omega
  clear hr hR hn' hT
  obtain ⟨L1, hL1⟩ : ∃ L1, Fr.frs (L.take 10) = L1 := ⟨_, rfl⟩
  have hL1l : L1.length ≤ 1048676 := by
    rw [← hL1, frs_length]
    have := flat_le L 10
    have := HT.out
    have := List.length_take_le 10 L
    omega
  have HL1 := Lib.hid hL1
  have HL1L := Lib.hid hL1l
  clear hL1 hL1l
  refine (callsIn_wide (n := 0)).1 (callsIn_of_wp_marks Try.func3 rfl trivial (wpIn_wide.2 (wp_calm ?_)) rfl)
  simp only [Try.ntmps3, List.size_toArray, List.length_cons, List.length_nil, Nat.reduceAdd, Nat.reduceSub, Array.replicate_succ, Array.replicate_zero, List.push_toArray, List.append_toArray, List.nil_append, List.cons_append]
  have hb0 : Below w.heap.size w (w.alloc (.cells #[.bool false] 4)) := (Below.refl _ w).alloc (Nat.le_refl _) _
  have hz0 : (w.alloc (.cells #[.bool false] 4)).heap.size = w.heap.size + 1 := by simp
  go_wp2_with fail
  refine (frames_any _ L _ (HL.out.under hb0) HT.out).mono ?_
  rintro e w1 ⟨v3, rfl, ho1, hb1⟩
  have B8 := Lib.hid ((show Blk (w.alloc (.cells #[.bool false] 4)) w.heap.size 4 #[.bool false] from heap_alloc_new w _).under hb1)
  rw [HL1.out] at ho1
  have hB1 : Below w.heap.size w w1 := hb0.trans (hb1.mono (by omega))
  have hz1 : w.heap.size + 1 ≤ w1.heap.size := by have := hb1.size; omega
  have HR1 := Lib.hid (HR.out.under hB1)
  have hbtw := ho1.between
  obtain ⟨_, _, Ab, cb, rfl, hcb, _⟩ := ho1.bytes.parts
  obtain ⟨M, hM⟩ : ∃ M, L1.length = M := ⟨_, rfl⟩
  rw [hM] at ho1 hcb hbtw ⊢
  have HM := Lib.hid hM
  have HV := Lib.hid (show Bytes _ _ _ ∧ Between _ _ _ from ⟨ho1.bytes, hbtw⟩)
  have hM1 : M ≤ 1048676 := by have := HL1L.out; omega
  clear ho1 hb0 hb1 hz0 hM hbtw
  go_upto_region 4 with fail
  go_cut [42] from 23 to 132 (fun t wx => t = .bool false ∧ Below w1.heap.size w1 wx)
  case first =>
    obtain ⟨L2, hL2⟩ : ∃ L2, L1 ++ Fr.frm raw = L2 := ⟨_, rfl⟩
    have HL2 := Lib.hid hL2
    clear hL2
    go_region_held (fun _ => True) (trivial)
      (first
      | (go_at_call 6; ((with_reducible refine (put_is _ _ L1 raw L2 _ ?_ ?_ ?_ ?_ HL2.out).mono ?_); (exact HV.out.1.heap rfl); (exact HR1.out.heap rfl); (rw [HM.out]; omega); (rw [HRL.out]; omega); (rintro e w2 ⟨x1, rfl, ho2, hb2⟩)); (have hb2' : Below w1.heap.size w1 w2 := ⟨hb2.os, hb2.tape, hb2.output, hb2.size, hb2.block⟩); (have HO2 := Lib.hid ho2.bytes); (have kt := run_text ho2.bytes); (clear ho2))
      | (go_at_call 7; ((with_reducible refine (refput_is _ _ L1 raw L2 _ ?_ ?_ ?_ ?_ HL2.out).mono ?_); (exact (HV.out.1.under hb2').heap rfl); (exact (HR1.out.under hb2').heap rfl); (rw [HM.out]; omega); (rw [HRL.out]; omega); (rintro e w3 ⟨x2, rfl, ho3, hb3⟩)); (have hb3' : Below w2.heap.size w2 w3 := ⟨hb3.os, hb3.tape, hb3.output, hb3.size, hb3.block⟩); (have kt2 := run_text ho3.bytes); (have kt3 := run_text (HO2.out.under hb3')); (clear ho3)))
    all_goals
      have hbx : Below w1.heap.size w1 w3 := hb2'.trans (hb3'.mono hb2'.size)
      go_wp2_with fail
      go_meet
      exact ⟨rfl, hbx⟩
  case rest =>
    obtain ⟨rfl, hbx⟩ := hcut
    obtain ⟨wa, rfl⟩ : ∃ wx : World, wx = wc := ⟨_, rfl⟩
    have hBa : Below w.heap.size w wa := hB1.trans (hbx.mono (by omega))
    have hza := hBa.size
    have hz2 := hbx.size
    have HVa := Lib.hid (HV.out.1.under hbx)
    go_upto_region 6 with fail
    go_cut [10] from 23 to 132 (fun c wx => ∃ (Ac : Option Addr) (cc : Nat), c = .slice Ac M cc ∧ M ≤ cc ∧ Own wx wa.heap.size c L1 ∧ Below wa.heap.size wa wx)
    case first =>
      go_wp2_with (at_builtin; refine wpList_append_bytes rfl _ _ rfl wa.heap.size _ _ [] L1 rfl (own_empty wa _ 0 #[] (Nat.le_refl _) (by unfold maxLen; omega) rfl) rfl (HVa.out.alloc _) ?_ ?_ L1 rfl ?_)
      case refine_1 => simp [HM.out]; omega
      case refine_2 => simp
      case refine_3 =>
        intro vc w2 hg
        obtain ⟨ho2, _, _, hb2'⟩ := hg
        have hb2 : Below wa.heap.size wa w2 := ((Below.refl _ _).alloc (Nat.le_refl _) _).trans hb2'
        obtain ⟨_, _, Ac, cc, hce, hcc, _⟩ := ho2.bytes.parts
        rw [HM.out] at hce hcc
        go_wp2_with fail
        go_meet
        exact ⟨Ac, cc, hce, hcc, ho2, hb2⟩
    case rest =>
      obtain ⟨Ac, cc, rfl, hcc, ho2, hb2⟩ := hcut
      obtain ⟨we, rfl⟩ : ∃ wx : World, wx = wc := ⟨_, rfl⟩
      go_upto_if 48 with fail
      go_cut [11] from 23 to 132 (fun kv wx => ∃ (k : Nat) (Lc : List Nat), kv = .int .i64 (k : Int) ∧ k ≤ M ∧ Lc.length = M ∧ Own wx wa.heap.size (.slice Ac M cc) Lc ∧ Below wa.heap.size wa wx)
      case first =>
        have HO2 := Lib.hid ho2
        rcases Nat.eq_zero_or_pos M with h0 | h0
        · subst h0
          go_wp2_with fail
          go_meet
          exact ⟨0, L1, rfl, Nat.le_refl _, HM.out, HO2.out, hb2⟩
        · obtain ⟨g, rfl, hg, hfz, hcl⟩ := ho2.addr h0
          obtain ⟨p, hp, hpe⟩ := low_rem at_ M h0
          obtain ⟨b8, hb8, rfl⟩ : ∃ b8 : Nat, b8 < 256 ∧ by_ = (b8 : Int) := ⟨by_.toNat, by omega, by omega⟩
          have hc1 := hcl p hp
          have hf1 := hfz p
          have h0' : (0 : Int) < (M : Int) := by omega
          clear hcl hfz ho2
          go_wp2_with fail
          go_meet
          exact ⟨p, L1.set p b8, rfl, by omega, by rw [List.length_set]; exact HM.out, HO2.out.set hb8, hb2.setCell hg _⟩
      case rest =>
        obtain ⟨k, Lc, rfl, hk, hLc, ho3, hb3⟩ := hcut
        obtain ⟨wd, rfl⟩ : ∃ wx : World, wx = wc := ⟨_, rfl⟩
        have hB2 : Below w.heap.size w wd := hBa.trans (hb3.mono hza)
        have hB12 : Below w1.heap.size w1 wd := hbx.trans (hb3.mono hz2)
        have HBr := Lib.hid (HR.out.under hB2)
        have HBb := Lib.hid (HV.out.1.under hB12)
        have HBc := Lib.hid ho3.bytes
        have hk1 : (k : Int) ≤ (cb : Int) := by omega
        have hk2 : (0 : Int) ≤ (k : Int) := by omega
        have hk3 : k ≤ cb := by omega
        have HLc := Lib.hid hLc
        clear ho2 hLc ho3 HVa
        go_upto_region 11 with fail
        go_cut [69, 70, 71] from 23 to 132 (fun s1 s2 s3 wx => ∃ T : Nat, s1 = .slice (some ⟨T, 0, none⟩) 5 5 ∧ s2 = .int .i64 5 ∧ s3 = .int .i64 0 ∧ Five T wx ∧ Below wd.heap.size wd wx)
        case first =>
          go_region_held3 (fun _ => True) (trivial) (first
            | (refine step_append_bytes rfl (.tmp 64) (.tmp 65) rfl wd.heap.size (.slice (some ⟨wd.heap.size, 0, none⟩) 0 0) (.slice Ab M cb) [] L1 (by simp [Act.eval]) (own_empty _ _ 0 #[] (show wd.heap.size ≤ _ from Nat.le_refl _) (by unfold maxLen; omega) rfl) (by simp [Act.eval]) ((HBb.out.heap rfl).alloc _) (by simp [HM.out]; omega) (by simp) L1 rfl ?_; rintro x1 wf ⟨ho4, _, _, hb4⟩; have hb4' : Below wd.heap.size wd wf := ⟨hb4.os, hb4.tape, hb4.output, Nat.le_trans (by simp) hb4.size, fun k hk => (hb4.block k hk).trans (Below.heap_alloc _ _ k hk)⟩; have hsf := hb4'.size)
            | (refine step_append_bytes rfl (.tmp 66) (.tmp 67) rfl wd.heap.size x1 (.slice A0 R c0) L1 raw (by simp [Act.eval]) (Own.heap ho4 rfl) (by simp [Act.eval]) ((HBr.out.under hb4').heap rfl) (by rw [HM.out, HRL.out]; omega) (Nat.le_trans hsf (Nat.le_refl _)) _ rfl ?_; rintro x2 wg ⟨ho5, _, _, hb5⟩; have hb5' : Below wd.heap.size wd wg := hb4'.trans ⟨hb5.os, hb5.tape, hb5.output, hb5.size, hb5.block⟩; have hx2 := ho5.bytes; have hx2' := hx2; obtain ⟨_, _, Ax, cx, rfl, hcx, _⟩ := hx2.parts))
          have g1 : Good wg (.slice A0 R c0) := ⟨raw, HBr.out.under hb5', by rw [HRL.out]; omega⟩
          have g2 : Good wg (.slice Ab M cb) := ⟨L1, HBb.out.under hb5', by rw [HM.out]; omega⟩
          have g3 : Good wg (.slice Ac M cc) := ⟨Lc, HBc.out.under hb5', by rw [HLc.out]; omega⟩
          have g4 : Good wg (.slice Ab k cb) := ⟨L1.take k, (HBb.out.under hb5').head hk hk3, by rw [List.length_take, HM.out]; omega⟩
          have g5 : Good wg (.slice Ax (L1.length + raw.length) cx) := ⟨L1 ++ raw, by rw [← List.length_append]; exact hx2', by rw [List.length_append, HM.out, HRL.out]; omega⟩
          have hz := hb5'.alloc hb5'.size (.cells #[.slice A0 R c0, .slice Ab M cb, .slice Ac M cc, .slice Ab k cb, .slice Ax (L1.length + raw.length) cx] 22)
          go_wp2_with fail
          go_meet
          exact ⟨wg.heap.size, rfl, rfl, rfl, Five.heap (five_of g1 g2 g3 g4 g5) rfl, ⟨hz.os, hz.tape, hz.output, hz.size, hz.block⟩⟩
        case rest =>
          obtain ⟨T, rfl, rfl, rfl, hF, hbF⟩ := hcut
          obtain ⟨wl, rfl⟩ : ∃ wx : World, wx = wc := ⟨_, rfl⟩
          have HF := Lib.hid hF
          have hBl : Below w.heap.size w wl := hB2.trans (hbF.mono hB2.size)
          have hB1l : Below w1.heap.size w1 wl := hB12.trans (hbF.mono hB12.size)
          have B8l := Lib.hid (B8.out.under hB1l)
          have hzl := hBl.size
          clear hF hbF HBr HBb HBc HLc hB12 hB2 B8
          go_wp2_with fail
          refine wp_loop (fun a' w' => ∃ (j : Nat) (Ds : List Nat), (j ≤ 5 ∧ Marks wl.heap.size w' Ds ∧ Below wl.heap.size wl w') ∧ a' = tellsFrame (.slice A0 R c0) (.slice A1 n c1) (.slice Ab M cb) (.slice Ac M cc) at_ by_ w.heap.size k T j (Ds.map markOf) fun i => a'.tmps.getD i undef) (fun a' _ => 5 - (intOf (a'.tmps.getD 71 undef)).toNat) ?start ?round
          case start => exact ⟨0, [], ⟨by omega, marks_none _ _, Below.refl _ _⟩, rfl⟩
          case round =>
            rintro a wr ⟨j, Ds, ⟨hj, hm, hb⟩, ha⟩
            obtain ⟨y, hy⟩ : ∃ y : Nat → Value, a = tellsFrame (.slice A0 R c0) (.slice A1 n c1) (.slice Ab M cb) (.slice Ac M cc) at_ by_ w.heap.size k T j (Ds.map markOf) y := ⟨_, ha⟩
            clear ha
            unfold tellsFrame at hy
            subst hy
            have hzr := hb.size
            by_cases hj5 : j < 5
            · have hj5' : (j : Int) < 5 := by omega
              obtain ⟨x, hcx, l, hlx, hll⟩ := HF.out.under hb j hj5
              obtain ⟨N, hS⟩ := Fr.ex_scan l
              have HX := Lib.hid hlx
              have HS := Lib.hid hS
              have HLL := Lib.hid (show l.length ≤ 1099511627776 by omega)
              have HMK := Lib.hid hm
              clear hlx hS hll hm
              go_wp2_with fail
              refine (scan_any _ l N wr HX.out HS.out HLL.out).mono ?_
              rintro e w2 ⟨u2, rfl, ho2, hb2⟩
              have HX2 := Lib.hid (HX.out.under hb2)
              have hz2r := hb2.size
              have hrl := Fr.rows_length l N
              obtain ⟨Lr, hLr⟩ : ∃ Lr, Fr.rows l N = Lr := ⟨_, rfl⟩
              obtain ⟨P, hP⟩ : ∃ P, Fr.pos l N = P := ⟨_, rfl⟩
              rw [hLr] at ho2 hrl
              rw [hP]
              have HLR := Lib.hid hLr
              have HP := Lib.hid hP
              have HO2 := Lib.hid ho2
              obtain ⟨Au, cu, rfl, _⟩ := ho2.parts
              rw [hrl] at HO2 ⊢
              have HRL2 := Lib.hid hrl
              clear ho2 hLr hP hrl
              go_wp2_with fail
              refine (refscan_any _ l N w2 HX2.out HS.out HLL.out).mono ?_
              rintro e w3 ⟨u3, rfl, ho3, hb3⟩
              rw [HLR.out] at ho3
              rw [HP.out]
              obtain ⟨Am, cm, rfl, _⟩ := ho3.parts
              rw [HRL2.out] at ho3 ⊢
              have HO3 := Lib.hid (ho3.more hz2r)
              have HO23 := Lib.hid (HO2.out.under hb3)
              have hb23 : Below wr.heap.size wr w3 := hb2.trans (hb3.mono hz2r)
              have HX3 := Lib.hid (HX2.out.under hb3)
              have hz3r := hb23.size
              clear ho3 hb2 hb3 HX2 HO2
              have hx16 := (show Blk (w3.alloc (.cells #[.slice Am N cm] 23)) w3.heap.size 23 #[.slice Am N cm] from heap_alloc_new w3 _).at 0
              go_wp2_with fail
              have hal : Below w3.heap.size w3 (w3.alloc (.cells #[.slice Am N cm] 23)) := (Below.refl _ _).alloc (Nat.le_refl _) _
              refine (same_is _ _ Lr _ (HO23.out.under hal).rows (HO3.out.under hal).rows).mono ?_
              rintro e w' ⟨rfl, m, rfl⟩
              obtain ⟨w4, hw4⟩ : ∃ w4, (w3.alloc (.cells #[.slice Am N cm] 23)).drewN m = w4 := ⟨_, rfl⟩
              have h34 : Below w3.heap.size w3 w4 := by rw [← hw4]; exact ⟨hal.os, hal.tape, hal.output, hal.size, hal.block⟩
              have hz4 : w4.heap.size = w3.heap.size + 1 := by rw [← hw4]; show (w3.alloc _).heap.size = _; simp
              have B16 := Lib.hid (show Blk w4 w3.heap.size 23 #[.slice Am N cm] from by rw [← hw4]; exact heap_alloc_new w3 _)
              have HO4 := Lib.hid (HO3.out.under h34)
              have HX4 := Lib.hid (HX3.out.under h34)
              have hb24 : Below wr.heap.size wr w4 := hb23.trans (h34.mono hz3r)
              rw [hw4]
              clear hw4 h34 hal HO23 HO3 HX3 hx16 hb23
              have hb45 : Below w4.heap.size w4 ((w4.alloc (.cells #[.int .i64 0] 3)).alloc (.cells #[.int .i64 0] 3)) := ((Below.refl _ _).alloc (Nat.le_refl _) _).alloc (by simp) _
              go_wp2_with fail
              refine (all_any _ l _ (HX4.out.under hb45) HLL.out).mono ?_
              rintro e w6 ⟨Bn, u6, rfl, hbx6, hb6⟩
              have hsz5 : ((w4.alloc (.cells #[.int .i64 0] 3)).alloc (.cells #[.int .i64 0] 3)).heap.size = w3.heap.size + 3 := by simp; omega
              rw [hsz5] at hbx6
              have b18 : Blk ((w4.alloc (.cells #[.int .i64 0] 3)).alloc (.cells #[.int .i64 0] 3)) (w3.heap.size + 1) 3 #[.int .i64 0] := by
                rw [← hz4]
                exact Blk.alloc (heap_alloc_new w4 _) _
              have b19 : Blk ((w4.alloc (.cells #[.int .i64 0] 3)).alloc (.cells #[.int .i64 0] 3)) (w3.heap.size + 1 + 1) 3 #[.int .i64 0] := by
                have := heap_alloc_new (w4.alloc (.cells #[.int .i64 0] 3)) (.cells #[.int .i64 0] 3)
                rw [World.size_alloc, hz4] at this
                exact this
              have h46 : Below w4.heap.size w4 w6 := hb45.trans (hb6.mono hb45.size)
              have B18 := Lib.hid (b18.under hb6)
              have B19 := Lib.hid (b19.under hb6)
              have B166 := Lib.hid (B16.out.under h46)
              have HO6 := Lib.hid (HO4.out.under h46)
              have HBX := Lib.hid hbx6
              have hb26 : Below wr.heap.size wr w6 := hb24.trans (h46.mono (by omega))
              have hz6 : w3.heap.size + 3 ≤ w6.heap.size := by have := hb6.size; omega
              clear hb45 hb6 b18 b19 h46 hbx6 B16 HO4 HX4 hb24 hsz5
              have knil := fun (W : World) (f : Fn) (a b : Array Value) => run_eql_func_nil (P := Try.prog) W f a b Try.underlying31
              go_wp2_with fail
              obtain ⟨G, hG⟩ : ∃ G, w3.heap.size = G := ⟨_, rfl⟩
              rw [hG] at hz3r hz4 B18 B19 B166 HBX hz6 ⊢
              clear hG
              refine wp_range (gf := 19) (lb := #[.pointer (some ⟨Bn, 0, none⟩)]) rfl (enters_of Try.func19 (by kernel_rfl) rfl) (all_iter l N (G + 3) w6.heap.size Bn u6 w6 HBX.out HS.out HLL.out)
                (Keeps.refl _ _ _) (Nat.le_refl _) (fun _ => rfl) (fun k x A B r ho hg hr => ⟨ho.1, ho.2.kept hg (by rintro _ ⟨⟩; exact hr)⟩)
                (fun i W => Blk W G 23 #[.slice Am N cm] ∧ Blk W (G + 1) 3 #[.int .i64 (i : Int)] ∧ Blk W (G + 1 + 1) 3 #[.int .i64 ((Fr.pos l i : Nat) : Int)] ∧ OwnR W wr.heap.size (.slice Am N cm) Lr ∧ Below wr.heap.size wr W)
                (fun i A B row hs hg hr => ⟨hs.1.kept hg fun r e => (hr r e).2, hs.2.1.kept hg fun r e => (hr r e).2, hs.2.2.1.kept hg fun r e => (hr r e).2, hs.2.2.2.1.grown hg fun r e => .inr (hr r e).2, Below.keptFrom hs.2.2.2.2 hg fun r e => by have := (hr r e).1; omega⟩)
                ⟨B166.out, B18.out, B19.out, HO6.out, hb26⟩ ?a1 ?assign ?body ?done
              case assign =>
                intro l' x W K hK
                dsimp only [frEnc]
                gi_wp2
                exact hK
              case body =>
                rintro l' i ⟨q, xv⟩ W hi ⟨h1, h2, h3, h4, h5⟩ ⟨rfl, ho⟩ hzW
                dsimp only at ho ⊢
                have hrow := Fr.rows_at l N i hi
                rw [HLR.out] at hrow
                have hnx := pos_next_of HS.out hi
                have hhl := Fr.held_length (HS.out.1 i hi)
                have htl := (Fr.whole_iff.1 (HS.out.1 i hi)).2.1
                obtain ⟨F, hF⟩ : ∃ F, Fr.held (l.drop (Fr.pos l i)) = F := ⟨_, rfl⟩
                rw [hF] at ho hhl hrow
                rw [← hhl] at hnx htl
                obtain ⟨q, hq⟩ : ∃ q, Fr.pos l i = q := ⟨_, rfl⟩
                rw [hq] at hnx h3 ⊢
                obtain ⟨_, _, Ax, cx, rfl, _, _⟩ := ho.bytes.parts
                obtain ⟨Tl, hTl⟩ : ∃ Tl, F.length = Tl := ⟨_, rfl⟩
                rw [hTl] at ho hnx htl ⊢
                have hqb : q + 10 + Tl ≤ 1099511627776 := by have := HLL.out; omega
                have hib : i ≤ 1099511627776 := by have := HLL.out; have := (HS.out.le (Nat.le_refl N)); omega
                obtain ⟨b, off, uk, rfl, ck, yk⟩ := h4.rows.at (k := i) hi
                rw [hrow] at yk
                have t1 := fun jj : Nat => run_text_at ho.bytes (W.drewN jj) rfl
                have t2 := fun jj : Nat => run_text_at yk (W.drewN jj) rfl
                have hx16 : W.cell? ⟨G, 0, none⟩ = some (.slice (some ⟨b, off, none⟩) N cm) := h1.at 0
                have hx18 : W.cell? ⟨G + 1, 0, none⟩ = some (.int .i64 (i : Int)) := h2.at 0
                have hx19 : W.cell? ⟨G + 1 + 1, 0, none⟩ = some (.int .i64 (q : Int)) := h3.at 0
                have fx18 := h2.free 0
                have fx19 := h3.free 0
                have hi' : (i : Int) < (N : Int) := by omega
                have hd : decide (N ≤ i) = false := decide_eq_false (by omega)
                have hd' : decide ((N : Int) ≤ (i : Int)) = false := decide_eq_false (by omega)
                have HNX := Lib.hid hnx.1
                have H1 := Lib.hid h1
                have H2 := Lib.hid h2
                have H3 := Lib.hid h3
                have H4 := Lib.hid h4
                clear ho hrow hhl hF hq hTl hnx yk h1 h2 h3 h4
                gi_wp2
                refine wpIn_region_quiet (by kernel_rfl) (by kernel_rfl) (by kernel_rfl) (by rintro ⟨_, _, h⟩; exact h) ?_
                repeat (go_big_quiet_step (fail))
                refine wpQuiet_nil ?_
                rintro _ ⟨nq, rfl⟩
                gi_wp2
                have e1 : (q : Int) + 10 + (Tl : Int) = ((Fr.pos l (i + 1) : Nat) : Int) := by rw [HNX.out]; omega
                have e2 : (i : Int) + 1 = ((i + 1 : Nat) : Int) := by omega
                rw [e1, e2]
                have hbq : Below W.heap.size W (W.drewN nq) := ⟨rfl, rfl, rfl, Nat.le_refl _, fun _ _ => rfl⟩
                have K3 := (H3.out.under hbq).set 0 (.int .i64 ((Fr.pos l (i + 1) : Nat) : Int))
                have K2 := (H2.out.under hbq).setOther (p := ⟨G + 1 + 1, 0, none⟩) (by first | (simp; done) | (simp; omega)) (.int .i64 ((Fr.pos l (i + 1) : Nat) : Int))
                have kf : KeepsFrom w6.heap.size W (W.drewN nq) := KeepsFrom.heap (KeepsFrom.refl _ W) rfl
                have kk : Keeps (G + 3) w6.heap.size W (W.drewN nq) := (Keeps.refl _ _ W).heap rfl
                refine ⟨kf.trans (((KeepsOthers.setCell _ _ _).trans (KeepsOthers.setCell _ _ _)).from _), (kk.trans (Keeps.setCell _ _ (by first | (simp; done) | (simp; omega)))).trans (Keeps.setCell _ _ (by first | (simp; done) | (simp; omega))), ((H1.out.under hbq).setOther (by first | (simp; done) | (simp; omega)) _).setOther (by first | (simp; done) | (simp; omega)) _, K2.set 0 _, K3.setOther (by first | (simp; done) | (simp; omega)) _, ?_, ?_⟩
                · exact ((H4.out.under hbq).setOther (H3.out.under hbq) (by decide) (by decide) 0 _).setOther K2 (by decide) (by decide) 0 _
                · exact ((h5.trans (hbq.mono (by have := h5.size; omega))).setCell (p := ⟨G + 1 + 1, 0, none⟩) (by simp; omega) _).setCell (p := ⟨G + 1, 0, none⟩) (by simp; omega) _
              case done =>
                rintro D W hD ⟨h1, h2, h3, h4, h5⟩ hK
                have hx16 : W.cell? ⟨G, 0, none⟩ = some (.slice Am N cm) := h1.at 0
                have hx18 : W.cell? ⟨G + 1, 0, none⟩ = some (.int .i64 (N : Int)) := h2.at 0
                have HK := Lib.hid hK
                clear h1 h2 h3 h4 hK knil
                go_wp2
                have hlt := HMK.out.lt
                have hnd : (D :: Ds).Nodup := List.nodup_cons.2 ⟨fun h => by have := hlt D h; omega, HMK.out.1⟩
                refine ⟨⟨j + 1, D :: Ds, ⟨by omega, ⟨hnd, fun D' hD' => ?_⟩, hb.trans (h5.mono hzr)⟩, rfl⟩, ?_⟩
                · rcases List.mem_cons.1 hD' with rfl | hD'
                  · exact ⟨by omega, HK.out⟩
                  · exact (HMK.out.under h5).2 D' hD'
                · simp [intOf]
                  omega
            · have hj5e : j = 5 := by omega
              subst hj5e
              have B8r := Lib.hid (B8l.out.under hb)
              have HMK := Lib.hid hm
              clear hm
              go_wp2_with fail
              refine (awake_any _).mono ?_
              rintro e w7 ⟨rfl, hb7⟩
              have B8s := Lib.hid (B8r.out.under hb7)
              have hx8 : w7.cell? ⟨w.heap.size, 0, none⟩ = some (.bool false) := B8s.out.at 0
              have fx8 := B8s.out.free 0
              go_wp2
              have hwz := hb7.size
              have hBz : Below w.heap.size w (w7.setCell ⟨w.heap.size, 0, none⟩ (.bool true)) := ((hBl.trans (hb.mono hzl)).trans (hb7.mono (by omega))).setCell (p := ⟨w.heap.size, 0, none⟩) (Nat.le_refl _) _
              have B8z := B8s.out.set 0 (.bool true)
              have M7 := HMK.out.under hb7
              show LeavesInM _ _ _ _ _ _ _ _ _
              have hsl := B8l.out.size
              refine leaves_marks Ds _ M7.1 (fun D hD => ?_) fun W' hk ho ht hu hz => ?_
              · rw [Below.heap_setCell w7 ⟨w.heap.size, 0, none⟩ _ D (by have := (M7.2 D hD).1; simp; omega)]
                exact (M7.2 D hD).2
              · have hni : ∀ i, i ≤ w.heap.size → i ∉ Ds := fun i hi hD => by have := (M7.2 i hD).1; omega
                have hc : W'.cell? ⟨w.heap.size, 0, none⟩ = some (.bool true) := by
                  have := B8z.at 0
                  rw [← World.cell?_of_block (hk w.heap.size (hni _ (Nat.le_refl _)))] at this
                  exact this
                refine ⟨.bool true, ?_, rfl, ⟨ho.trans hBz.os, ht.trans hBz.tape, hu.trans hBz.output, Nat.le_trans hBz.size hz, fun i hi => (hk i (hni i (Nat.le_of_lt hi))).trans (hBz.block i hi)⟩⟩
                simp [results, Try.f3, go_sem, hc]
end Go.Proofs.Ytlfkbbdlmgklnaa
