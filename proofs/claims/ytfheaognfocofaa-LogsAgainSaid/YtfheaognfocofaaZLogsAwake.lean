/- What layer 14's statements ask beside: the known answers of package logs. -/
import Derived.Test.YtfheaognfocofaaZ14
import Derived.Test.YtfheaognfocofaaZArtiAwake
namespace Go.Proofs.Ytfheaognfocofaa
set_option maxRecDepth 100000
open Go.ChangeShapes Go.WideShapes Go.ChangeAt Go.RowKit Go.ChangeMaps
open Sf Lg

/-- A block that is newly made is kept besides. -/
theorem Fk.put_in {K : Nat → Prop} {w0 w w1 : World} {p g : Nat} {s : S} (h : Fk K w0 w p s) (hb : Below w.heap.size w w1) (h1 : w.heap.size ≤ g) (h2 : g < w1.heap.size) : Fk (fun k => K k ∨ k = g) w0 w1 p s :=
  h.grow hb _ fun _ hk => hk.elim .inl fun e => .inr (by subst e; exact ⟨h1, h2⟩)
theorem Fk.box {K : Nat → Prop} {w0 w : World} {p : Nat} {s : S} (h : Fk K w0 w p s) (ty : TypeId) (x : Array Value) : ∃ w1 g K', w.alloc (.cells x ty) = w1 ∧ w.heap.size = g ∧ Fk K' w0 w1 p s ∧ K' g ∧ (∀ k, K k → K' k) ∧ Blk w1 g ty x ∧ Below w.heap.size w w1 ∧ w0.heap.size ≤ g :=
  ⟨_, _, _, rfl, rfl, h.put_in ((Below.refl _ _).alloc (Nat.le_refl _) _) (Nat.le_refl _) (by simp), .inr rfl, fun _ => .inl, heap_alloc_new _ _, (Below.refl _ _).alloc (Nat.le_refl _) _, h.fs.below.size⟩

theorem rdG_two' (w : World) (q : Nat) (hq : q = w.heap.size) (t u : List Nat) (k j : Int) : RdG (w.alloc (.cells #[.string (str t), .int .i64 k, .string (str u), .int .i64 j] 30)) (.slice (some ⟨q, 0, none⟩) 2 2) [(t, k), (u, j)] := by
  subst hq
  exact rdG_two w t u k j
theorem lg_nices {k j : Int} : ∀ x ∈ [(lgL, k), (tr, j)], Nice x.1 := by
  intro x hx
  rcases List.mem_cons.1 hx with rfl | hx
  · exact nice_lgL
  · rw [List.mem_singleton.1 hx]
    exact nice_tr
def awF : List Nat := Fr.frm (Rc.done [97] [112] 0 0)
theorem awF_len : awF.length = 36 := by decide +kernel
theorem awD_ne : Rc.done [97] [112] 0 0 ≠ [] := by decide +kernel
theorem aw_frs : Fr.frs ([([97], [112], 0, 0)].map Rc.body) = awF := by simp [Fr.frs, awF, Rc.body]
theorem aw_num : ∀ d ∈ ([([97], [112], 0, 0)] : List Rc.D), Rc.NumOk d := by
  intro d hd
  rw [List.mem_singleton.1 hd]
  exact ⟨by decide, by decide, by decide, by decide, by decide⟩
theorem aw_ed : ed awF = 36 := by
  have := (ld_all aw_num).2
  rw [aw_frs, awF_len] at this
  exact this
theorem aw_ld : ld awF = [([97], [112], 0, 0)] := by
  have := (ld_all aw_num).1
  rwa [aw_frs] at this
theorem tell1 : tellF (aa [120] 1 (some ([], 3)) 1000 3 (-1)) [97] [112] 0 0 [(lgL, 1), (tr, 3)] = (aa [120] 1 (some (awF, 4)) 1000 4 (-1), 4, 0) := by
  unfold tellF
  rw [if_neg awD_ne]
  exact app_ok (t := []) rfl rfl (by show ((1 + 0 + awF.length : Nat) : Int) ≤ 1000; rw [awF_len]; decide)
theorem tell2 : tellF (aa [120] 1 (some (awF, 4)) 1000 4 (-1)) [97] [112] 0 0 [(lgL, 1), (tr, 3)] = (aa [120] 1 (some (awF, 4)) 1000 4 (-1), 0, 5) := by
  unfold tellF
  rw [if_neg awD_ne]
  exact app_not (by decide)
theorem tell3 : tellF (aa [120] 1 (some (awF, 4)) 1000 4 (-1)) [] [] 0 0 [] = (aa [120] 1 (some (awF, 4)) 1000 4 (-1), 0, 6) := by
  unfold tellF
  rw [if_pos (by decide +kernel)]
set_option maxRecDepth 100000 in
set_option maxHeartbeats 8000000 in
theorem lgawake_any (w : World) : Calls Try.prog 16 #[] w fun e w' => e = .returned (.bool true) ∧ Below w.heap.size w w' := by
  have kc := fun (w : World) (C : Array Value) (n c : Nat) => Lib.run_convert_bytes_const (P := Try.prog) w 28 5 C n c Try.underlying28 Try.underlying5
  have kc2 := fun (w : World) (O : Obj) (C : Array Value) (n c : Nat) => aconvert_second (P := Try.prog) w O 28 5 C n c Try.underlying28 Try.underlying5
  have kl : ({ data := #[108, 111, 99, 107, 47, 108, 111, 103] } : ByteArray) = str lgL := rfl
  have kt : ({ data := #[116, 109, 112, 47, 49, 46, 49, 46, 50] } : ByteArray) = str lgT := rfl
  have kr : ({ data := #[116, 114, 97, 99, 101] } : ByteArray) = str tr := rfl
  go_enter Try.func16, Try.ntmps16
  go_wp2_with fail
  refine (fs_new 1000 w).mono ?_
  rintro e w1 ⟨p, rfl, h1⟩
  have H1 : Hid (Fk (fun _ => False) w w1 p ⟨[], 1000, 0, -1⟩) := Lib.hid h1.keep
  clear h1
  go_wp2_with fail
  refine (fk_put lgL [120] _ (H1.out.alloc _) nice_lgL (bytes_new w1 _ rfl [120] _ _ (by simp) (by simp)) (by show 0 ≤ _; omega) (by show 0 + 1 ≤ _; omega)).mono ?_
  rw [putS_new (by simp)]
  rintro e w2 ⟨rfl, h2, -⟩
  have H2 : Hid (Fk (fun _ => False) w w2 p (aa [120] 1 none 1000 1 (-1))) := Lib.hid h2
  clear h2
  go_upto_region 6 with fail
  obtain ⟨w3, g, K3, hw3, hg3, h3, kg, -, b3, bb3, bg⟩ := H2.out.box 30 #[.string (str lgL), .int .i64 1]
  rw [hw3, hg3]
  have H3 := Lib.hid h3
  have KG := Lib.hid kg
  have B3 := Lib.hid b3
  have c0 := b3.at 0
  have c1 := b3.at 1
  clear hw3 hg3 h3 kg b3 bb3 H2
  go_wp2_with fail
  refine (fxnew_any lgL lgT 1 w3).mono ?_
  rintro e w4 ⟨gx, rfl, hgx, hx, hb4⟩
  obtain ⟨K4, hK4⟩ : ∃ K', (fun k => K3 k ∨ k = gx) = K' := ⟨_, rfl⟩
  have KX : Hid (K4 gx ∧ K4 g) := Lib.hid (by rw [← hK4]; exact ⟨.inr rfl, .inl KG.out⟩)
  have HX : Hid (FxRun K4 w w4 p gx 5 0 0 (aa [120] 1 (some (stands none, 3)) 1000 3 (-1), ⟨lgL, 1, lgT, ((3 : Nat) : Int), [], 2, 1⟩, 1) 1 1) := Lib.hid (by rw [← hK4]; exact FxRun.new (FxAt.begun H3.out hb4 hgx hx) (run_torn 2 (fun t k e => by cases e) rfl (fun t k e => by cases e) (by decide)) (Nat.le_refl _) (Nat.le_refl _))
  have B4 := Lib.hid (B3.out.under hb4)
  have HGX : Hid (w.heap.size ≤ gx ∧ gx ≠ g) := Lib.hid ⟨Nat.le_trans H3.out.fs.below.size hgx, by have := B3.out.size; omega⟩
  clear hK4 hgx hx hb4 B3 H3 c0 c1 KG
  go_upto_block 0 with fail
  go_cut [6] (fun s6 wx => s6 = .int .i64 1 ∧ Hid (FxAt K4 w wx p gx (aa [120] 1 (some (stands none, 3)) 1000 3 (-1)) ⟨lgL, 1, lgT, ((3 : Nat) : Int), [], 2, 1⟩) ∧ Hid (Blk wx g 30 #[.string (str lgL), .int .i64 1]))
  case first =>
    go_wp2_with fail
    go_loopg [6, 7] 6 (fun gg s6 s7 wr => ∃ i q : Nat, i ≤ 5 ∧ 6 - i ≤ gg ∧ s6 = .int .i64 (q : Int) ∧ s7 = .int .i64 (i : Int) ∧ Hid (FxRun K4 w wr p gx 5 i q (aa [120] 1 (some (stands none, 3)) 1000 3 (-1), ⟨lgL, 1, lgT, ((3 : Nat) : Int), [], 2, 1⟩, 1) 1 1) ∧ Hid (Blk wr g 30 #[.string (str lgL), .int .i64 1]))
    case atStart => exact ⟨0, 0, by omega, by omega, rfl, rfl, HX, B4⟩
    case round =>
      clear HX B4
      obtain ⟨i, q, hi, hgg, rfl, rfl, HXi, B⟩ := hrel
      obtain ⟨wz, rfl⟩ : ∃ wx : World, wx = wr := ⟨_, rfl⟩
      by_cases hlt : i < 5 ∧ q = 0
      · obtain ⟨hlt, rfl⟩ := hlt
        have hltI : (i : Int) < 5 := by omega
        have C := Lib.hid (fxrun_any HXi.out hlt (by omega) (by omega) (by omega) KX.out.1 HGX.out.1)
        go_wp2_with fail
        refine C.out.mono ?_
        rintro e w5 ⟨q, rfl, h5, k5⟩
        have H5 := Lib.hid h5
        have B5 := Lib.hid (k5.blk ⟨KX.out.2, HGX.out.2.symm⟩ B.out)
        clear h5 k5 C HXi B
        go_wp2_with fail
        go_roundg (6 - (i + 1))
        case rel => exact ⟨i + 1, q, by omega, by omega, rfl, by go_num, H5, B5⟩
        case measure => omega
      · have hor : ¬ ((i : Int) < 5) ∨ ((i : Int) < 5 ∧ ((q : Int) == 0) = false) := by
          by_cases h : i < 5
          · exact .inr ⟨by omega, lg_ne fun e => hlt ⟨h, e⟩⟩
          · exact .inl (by omega)
        obtain ⟨rfl, hX⟩ := HXi.out.done rfl (by omega) (by omega)
        have H := Lib.hid hX
        clear hX hlt HXi
        rcases hor with h1 | ⟨h1, h2⟩
        all_goals
          go_wp2
          go_meet
          exact ⟨rfl, H, B⟩
  case rest =>
    obtain ⟨rfl, HX5, B5⟩ := hcut
    obtain ⟨wz, rfl⟩ : ∃ wy : World, wy = wc := ⟨_, rfl⟩
    clear HX B4
    obtain ⟨v, x1, -, -, x4⟩ := HX5.out
    have HX6 := Lib.hid (fxtold_any _ v gx wz x1)
    have H6 := Lib.hid HX5.out.fk
    clear x1 x4 HX5
    go_wp2_with fail
    refine HX6.out.mono ?_
    rintro e w6 ⟨rfl, hb6⟩
    have H7 := Lib.hid (H6.out.under hb6)
    have B7 := Lib.hid (B5.out.under hb6)
    rw [show trV ⟨lgL, 1, lgT, ((3 : Nat) : Int), [], 2, 1⟩ = .tuple #[guardV tr 3, .bool true] from rfl]
    clear hb6 HX6 H6 B5
    go_upto_region 15 with fail
    obtain ⟨w8, t, K8, hw8, ht8, h8, kt8, kk8, b8, bb8, bt⟩ := H7.out.box 30 #[.string (str tr), .int .i64 3]
    rw [hw8, ht8]
    have H8 : Hid (Fk K8 w w8 p (aa [120] 1 (some ([], 3)) 1000 3 (-1))) := Lib.hid (by
      have e : stands none = [] := by unfold stands lw; simp
      rw [e] at h8
      exact h8)
    have BG := Lib.hid (B7.out.under bb8)
    have BT := Lib.hid b8
    have KGT : Hid (K8 g ∧ K8 t) := Lib.hid ⟨kk8 _ KX.out.2, kt8⟩
    have g0 := fun o => (BG.out.alloc o).at 0
    have g1 := fun o => (BG.out.alloc o).at 1
    have t0 := fun o => (BT.out.alloc o).at 0
    have t1 := fun o => (BT.out.alloc o).at 1
    clear hw8 ht8 h8 kt8 kk8 b8 bb8 H7 B7
    have ka : ({ data := #[97] } : ByteArray) = str [97] := rfl
    go_wp2_with fail
    refine (lgtell_any (s := aa [120] 1 (some ([], 3)) 1000 3 (-1)) [97] [112] 0 0 [(lgL, 1), (tr, 3)] _ _ ((H8.out.alloc _).alloc _) ((bytes_new w8 _ rfl [112] _ _ (by simp) (by simp)).alloc _) (by simp) (by simp) (by simp) (rdG_two' _ _ (by simp) lgL tr 1 3) lg_nices (by show 3 ≤ _; omega) (by show 1 + 0 + 0 + 5000 ≤ _; omega)).mono ?_
    rw [tell1]
    rintro e w9 ⟨rfl, h9, k9⟩
    have H9 := Lib.hid h9
    have BG9 := Lib.hid (k9.blk KGT.out.1 ((BG.out.alloc _).alloc _))
    have BT9 := Lib.hid (k9.blk KGT.out.2 ((BT.out.alloc _).alloc _))
    have g0 := fun o => (BG9.out.alloc o).at 0
    have g1 := fun o => (BG9.out.alloc o).at 1
    have t0 := fun o => (BT9.out.alloc o).at 0
    have t1 := fun o => (BT9.out.alloc o).at 1
    clear h9 k9 H8 BG BT
    go_wp2_with fail
    refine (lgtell_any (s := aa [120] 1 (some (awF, 4)) 1000 4 (-1)) [97] [112] 0 0 [(lgL, 1), (tr, 3)] _ _ ((H9.out.alloc _).alloc _) ((bytes_new w9 _ rfl [112] _ _ (by simp) (by simp)).alloc _) (by simp) (by simp) (by simp) (rdG_two' _ _ (by simp) lgL tr 1 3) lg_nices (by show 4 ≤ _; omega) (by rw [used_aa]; show 1 + awF.length + 5000 ≤ _; rw [awF_len]; omega)).mono ?_
    rw [tell2]
    rintro e w10 ⟨rfl, h10, k10⟩
    have H10 := Lib.hid h10
    have BT10 := Lib.hid (k10.blk KGT.out.2 ((BT9.out.alloc _).alloc _))
    clear h10 k10 H9 BG9 BT9 g0 g1 t0 t1
    go_wp2_with fail
    refine (lgtell_any (s := aa [120] 1 (some (awF, 4)) 1000 4 (-1)) [] [] 0 0 [] _ _ H10.out (bytes_nil w10) (by simp) (by simp) (by simp) (rdG_none _ 0 none) (by simp) (by show 4 ≤ _; omega) (by rw [used_aa]; show 1 + awF.length + 5000 ≤ _; rw [awF_len]; omega)).mono ?_
    rw [tell3]
    rintro e w11 ⟨rfl, h11, k11⟩
    have H11 := Lib.hid h11
    have BT11 := Lib.hid (k11.blk KGT.out.2 BT10.out)
    clear h11 k11 H10 BT10
    go_wp2_with fail
    refine (fs_read tr w w11 p _ H11.out.fs nice_tr (by rw [used_aa]; show 1 + awF.length ≤ _; rw [awF_len]; omega)).mono ?_
    rw [read_some]
    rintro e w12 ⟨v12, rfl, ho12, hb12⟩
    have H12 := Lib.hid (H11.out.under hb12)
    have BT12 := Lib.hid (BT11.out.under hb12)
    have HO := Lib.hid ho12.bytes
    obtain ⟨_, _, A12, c12, rfl, _, _⟩ := ho12.bytes.parts
    rw [awF_len] at HO ⊢
    clear ho12 hb12 H11 BT11
    go_wp2_with fail
    refine (reftrace_any _ awF _ _ w12 HO.out (cnt_scn awF) (by rw [awF_len]; omega) rfl).mono ?_
    rintro e w13 ⟨hb13, u13, rfl, ho13⟩
    have H13 := Lib.hid (H12.out.under hb13)
    have b13 := BT12.out.under hb13
    have t0 := b13.at 0
    rw [show Rc.ends (Fr.rows awF (cnt awF)) = 36 from aw_ed]
    have hld : Rc.lead (Fr.rows awF (cnt awF)) = [([97], [112], 0, 0)] := aw_ld
    rw [hld] at ho13
    obtain ⟨A13, c13, rfl, _⟩ := ho13.parts
    have CS := fs_stamp tr w w13 p _ H13.out.fs nice_tr
    rw [stamp_aa] at CS
    have CS' := Lib.hid CS
    have hss := str_same (l := tr) (m := tr) (by decide) (by decide)
    rw [decide_eq_true rfl] at hss
    clear hb13 ho13 hld H12 BT12 HO b13 CS
    go_wp2_with fail
    refine CS'.out.mono ?_
    rintro e w14 ⟨rfl, rfl⟩
    have HEND := Lib.hid H13.out.fs.below
    clear CS' H13
    go_wp2
    go_ret
    exact ⟨rfl, HEND.out⟩
end Go.Proofs.Ytfheaognfocofaa
