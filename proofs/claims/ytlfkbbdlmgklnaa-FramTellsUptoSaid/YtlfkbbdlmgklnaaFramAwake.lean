/- What FramTells asks first: known frames, written and found; frames of rows. -/
import Derived.Test.YtlfkbbdlmgklnaaFramScan
import Derived.Test.YtlfkbbdlmgklnaaFramRefScan
namespace Go.Proofs.Ytlfkbbdlmgklnaa
open Go.ChangeShapes Go.WideShapes Go.ChangeAt Go.RowKit Go.Shelf

attribute [local go_sem] Oper.semAt_some

/-- Frames, one behind the other. -/
def Fr.frs (L : List (List Nat)) : List Nat := (L.map Fr.frm).flatten
theorem frs_next (L : List (List Nat)) (k : Nat) (h : k < L.length) : Fr.frs (L.take k) ++ Fr.frm (L.getD k []) = Fr.frs (L.take (k + 1)) := by
  unfold Fr.frs
  rw [List.take_succ_eq_append_getElem h, List.map_append, List.flatten_append, List.getD_eq_getElem?_getD, List.getElem?_eq_getElem h]
  simp
theorem frs_length : ∀ (L : List (List Nat)), (Fr.frs L).length = L.flatten.length + 10 * L.length
  | [] => rfl
  | x :: L => by
    have := frs_length L
    unfold Fr.frs at *
    simp [Fr.frm_length] at *
    omega

set_option maxHeartbeats 2000000 in
theorem frames_any (v : Value) (L : List (List Nat)) (w : World) (h : Rows2 w v L) (hT : L.flatten.length ≤ 1048576) :
    Calls Try.prog 5 #[v] w (Made w.heap.size (Fr.frs (L.take 10)) w) := by
  have H := Lib.hid h
  obtain ⟨hm, A, c, rfl, hc, _⟩ := h
  obtain ⟨n, hn⟩ : ∃ n, L.length = n := ⟨_, rfl⟩
  rw [hn] at H hm hc ⊢
  have HN := Lib.hid hn
  have HT := Lib.hid hT
  clear hn hT
  go_enter Try.func5, Try.ntmps5
  go_wp2_with fail
  go_loopw [3, 4] (fun u i wr => ∃ k : Nat, k ≤ 10 ∧ k ≤ n ∧ i = .int .i64 k ∧ Own wr w.heap.size u (Fr.frs (L.take k)) ∧ Below w.heap.size w wr) (fun _ i _ => 10 - (intOf i).toNat)
  case atStart => exact ⟨0, by omega, by omega, rfl, own_none _ _, Below.refl _ _⟩
  case round =>
    obtain ⟨k, hk1, hk2, rfl, ho, hb⟩ := hrel
    have hz := hb.size
    have HO := Lib.hid ho
    clear ho
    by_cases hlt : k < n ∧ k < 10
    · obtain ⟨h1, h2⟩ := hlt
      have h1' : (k : Int) < (n : Int) := by omega
      have h2' : (k : Int) < 10 := by omega
      obtain ⟨b, off, u, rfl, hcu, hu⟩ := (H.out.under hb).at h1
      have HU := Lib.hid hu
      have hnx := frs_next L k (by rw [HN.out]; exact h1)
      have hl1 : (Fr.frs (L.take k)).length ≤ 1048676 := by
        rw [frs_length]
        have := flat_le L k
        have := HT.out
        have := List.length_take_le k L
        omega
      have hl2 : (L.getD k []).length ≤ 1048576 := by
        have h3 := flat_take L k (by rw [HN.out]; exact h1)
        have h4 := flat_le L (k + 1)
        rw [h3, List.length_append] at h4
        have := HT.out
        omega
      have HX := Lib.hid (show _ ∧ _ ∧ _ from ⟨hnx, hl1, hl2⟩)
      clear hu hnx hl1 hl2
      go_wp2_with fail
      refine (refput_is _ _ (Fr.frs (L.take k)) (L.getD k []) (Fr.frs (L.take (k + 1))) _ HO.out.bytes HU.out (by have := HX.out.2.1; omega) (by have := HX.out.2.2; omega) HX.out.1).mono ?_
      rintro e w1 ⟨v1, rfl, ho1, hb1⟩
      have HO1 := Lib.hid (ho1.more hz)
      have hb2 := hb.trans (hb1.mono hz)
      clear ho1 hb1
      go_wp2
      go_roundw
      case rel => exact ⟨k + 1, by omega, by omega, by go_num, HO1.out, hb2⟩
      case measure => simp [intOf]; omega
    · have hor : ¬ ((k : Int) < (n : Int)) ∨ ((k : Int) < (n : Int) ∧ ¬ ((k : Int) < 10)) := by omega
      have he : L.take k = L.take 10 := by
        rcases Nat.lt_or_ge k 10 with h | h
        · rw [List.take_of_length_le (by rw [HN.out]; omega), List.take_of_length_le (by rw [HN.out]; omega)]
        · rw [show k = 10 from by omega]
      have HE := Lib.hid he
      clear he hlt
      rcases hor with h1 | ⟨h1, h2⟩
      all_goals
        go_wp2
        go_ret
        exact ⟨_, rfl, by rw [← HE.out]; exact HO.out, hb⟩

theorem OwnR.setOther {w : World} {base g : Nat} {v : Value} {L : List (List Nat)} {e : TypeId} {cs : Array Value} (h : OwnR w base v L) (hb : Blk w g e cs) (h1 : e ≠ 22) (h2 : e ≠ 5) (i : Nat) (x : Value) : OwnR (w.setCell ⟨g, i, none⟩ x) base v L := by
  obtain ⟨us, e1, e2, e4, e3⟩ := h
  have hg := grown_setCell w ⟨g, i, none⟩ x
  have apart : ∀ {ty : TypeId} {n sz : Nat} {u : Value} {xs : List Value}, w.ownsRow base ty sz u n xs → ty ≠ e → u.ownBlock = none ∨ u.ownBlock ≠ some g := by
    intro ty n sz u xs hu hne
    rcases hu.2 with ⟨rfl, _⟩ | ⟨g', cap, cur, rfl, _, hgc, _⟩
    · exact .inl rfl
    · refine .inr fun e5 => ?_
      simp [Value.ownBlock] at e5
      subst e5
      rw [show w.heap[g']? = some (.cells cs e (0, 0)) from hb] at hgc
      injection hgc with e6
      injection e6 with _ e7
      exact hne e7.symm
  exact ⟨us, e1, e2.kept hg (apart e2 (Ne.symm h1)), e4, fun j hj => (e3 j hj).grown hg (apart (e3 j hj).1 (Ne.symm h2))⟩

/-- The two known frames. -/
def aw1 : List Nat := [0, 0, 0, 0, 0, 1, 97, 190, 194, 191, 241]
def aw2 : List Nat := [0, 0, 0, 0, 0, 1, 97, 190, 194, 191, 241, 0, 0, 0, 0, 0, 0, 177, 194, 161, 163]
def aw3 : List Nat := [0, 0, 0, 0, 0, 1, 97, 190, 194, 191, 241, 0, 0, 0, 0, 0, 0, 177, 194, 161, 163, 1, 2, 3]
theorem aw1_eq : [] ++ Fr.frm [97] = aw1 := by decide +kernel
theorem aw2_eq : aw1 ++ Fr.frm [] = aw2 := by decide +kernel
theorem scn_two (b : List Nat) (h0 : Fr.whole (b.drop (Fr.pos b 0)) = true) (h1 : Fr.whole (b.drop (Fr.pos b 1)) = true) (h2 : Fr.whole (b.drop (Fr.pos b 2)) = false) : Fr.Scn b 2 := by
  refine ⟨fun k hk => ?_, h2⟩
  have : k = 0 ∨ k = 1 := by omega
  rcases this with rfl | rfl
  · exact h0
  · exact h1
theorem aw2_scn : Fr.Scn aw2 2 := scn_two _ (by decide +kernel) (by decide +kernel) (by decide +kernel)
theorem aw3_scn : Fr.Scn aw3 2 := scn_two _ (by decide +kernel) (by decide +kernel) (by decide +kernel)
theorem aw3_rows : Fr.rows aw3 2 = [[97], []] := by decide +kernel
theorem aw3_pos : Fr.pos aw3 2 = 21 := by decide +kernel
def awN (k : Nat) : Int := if k = 0 then 0 else if k = 1 then 1 else 12
theorem awN_next {k : Nat} (h : k < 2) : awN k + ((Fr.pos aw2 k : Nat) : Int) + (((Fr.held (aw2.drop (Fr.pos aw2 k))).length : Nat) : Int) = awN (k + 1) := by
  have : k = 0 ∨ k = 1 := by omega
  rcases this with rfl | rfl <;> decide +kernel

set_option maxRecDepth 100000 in
set_option maxHeartbeats 4000000 in
theorem awake_any (w : World) : Calls Try.prog 4 #[] w fun e w' => e = .returned (.bool true) ∧ Below w.heap.size w w' := by
  have kc := fun (w : World) (C : Array Value) (n c : Nat) => Lib.run_convert_bytes_const (P := Try.prog) w 22 5 C n c Try.underlying22 Try.underlying5
  refine (callsIn_wide (n := 0)).1 (callsIn_of_wp_marks Try.func4 rfl trivial (wpIn_wide.2 ?_) rfl)
  simp only [Try.ntmps4, List.size_toArray, List.length_nil, Nat.reduceSub, Array.replicate_succ, Array.replicate_zero, List.push_toArray, List.append_toArray, List.nil_append, List.cons_append]
  go_wp2_with fail
  refine (put_is _ _ [] [97] aw1 _ (bytes_none _) (bytes_new w _ rfl [97] _ _ (by decide) (by decide)) (by simp) (by simp) aw1_eq).mono ?_
  rintro e w1 ⟨v1, rfl, ho1, hb1⟩
  have HO1 := Lib.hid ho1
  have hB1 : Below w.heap.size w w1 := ((Below.refl _ _).alloc (Nat.le_refl _) _).trans (hb1.mono (by simp))
  have hz1 := hB1.size
  clear ho1 hb1
  go_wp2_with fail
  refine (put_is _ _ aw1 [] aw2 _ HO1.out.bytes (bytes_none _) (by decide) (by simp) aw2_eq).mono ?_
  rintro e w2 ⟨v2, rfl, ho2, hb2⟩
  obtain ⟨_, _, A2, c2, rfl, _, _⟩ := ho2.bytes.parts
  rw [show aw2.length = 21 from rfl] at ho2 ⊢
  have HO2 := Lib.hid ho2.bytes
  have HBT := Lib.hid ho2.between
  have hB2 : Below w.heap.size w w2 := hB1.trans (hb2.mono hz1)
  have hz2 := hB2.size
  clear ho2 hb2 HO1
  go_wp2_with (at_builtin; refine wpList_append_bytes rfl _ _ rfl w2.heap.size _ _ [] aw2 rfl (own_empty w2 _ 0 #[] (Nat.le_refl _) (by unfold maxLen; omega) rfl) rfl (HO2.out.alloc _) ?_ ?_ aw2 rfl ?_)
  case refine_1 => decide
  case refine_2 => simp
  case refine_3 =>
    intro v3 w3 hg3
    obtain ⟨ho3, _, _, hb3'⟩ := hg3
    have hb3 : Below w2.heap.size w2 w3 := ((Below.refl _ _).alloc (Nat.le_refl _) _).trans hb3'
    have HO3 := Lib.hid ho3
    have HV3 := Lib.hid (HO2.out.under hb3)
    have hB3 : Below w.heap.size w w3 := hB2.trans (hb3.mono hz2)
    have hz3 := hb3.size
    clear ho3 hb3' hb3 HO2
    go_wp2_with (at_builtin; refine wpList_append_bytes rfl _ _ rfl w2.heap.size _ _ aw2 [1, 2, 3] rfl (HO3.out.alloc _) rfl (bytes_new w3 _ rfl [1, 2, 3] _ _ (by decide) (by decide)) ?_ ?_ aw3 rfl ?_)
    case refine_1 => decide
    case refine_2 => simp; omega
    case refine_3 =>
      intro v4 w4 hg4
      obtain ⟨ho4, _, _, hb4'⟩ := hg4
      have hb4 : Below w2.heap.size w3 w4 := ((Below.refl _ _).alloc (by omega) _).trans hb4'
      have HO4 := Lib.hid ho4
      have HV4 := Lib.hid (HV3.out.below hb4 fun k hk _ => (HBT.out k hk).2)
      have hB4 : Below w.heap.size w w4 := hB3.trans (hb4.mono hz2)
      have hz4 := hB4.size
      clear ho4 hb4 hb4' HV3 HO3 hB3
      go_wp2_with fail
      refine (scan_any _ aw3 2 _ HO4.out.bytes aw3_scn (by decide)).mono ?_
      rintro e w5 ⟨u5, rfl, ho5, hb5⟩
      rw [aw3_pos]
      rw [aw3_rows] at ho5
      have HO5 := Lib.hid (ho5.more (base' := w.heap.size) hz4)
      have HV5 := Lib.hid (HV4.out.under hb5)
      have hB5 : Below w.heap.size w w5 := hB4.trans (hb5.mono hz4)
      have hz5 := hB5.size
      obtain ⟨A5, c5, rfl, _⟩ := ho5.parts
      clear ho5 hb5 HV4 HO4 hB4
      go_wp2_with fail
      refine (all_any _ aw2 _ (HV5.out.alloc _) (by decide)).mono ?_
      rintro e w6 ⟨Bn, u6, rfl, hbx, hb6⟩
      have b4 : Blk (w5.alloc (.cells #[.int .i64 0] 3)) w5.heap.size 3 #[.int .i64 0] := heap_alloc_new w5 _
      have B4 := Lib.hid (b4.under hb6)
      have hba : Below w5.heap.size w5 (w5.alloc (.cells #[.int .i64 0] 3)) := (Below.refl _ _).alloc (Nat.le_refl _) _
      have hsz : (w5.alloc (.cells #[.int .i64 0] 3)).heap.size = w5.heap.size + 1 := by simp
      have HO6 := Lib.hid ((HO5.out.under hba).under hb6)
      have hB6 : Below w.heap.size w w6 := hB5.trans ((hba.mono hz5).trans (hb6.mono (by rw [hsz]; omega)))
      have hz6 : w5.heap.size + 1 ≤ w6.heap.size := by have := hb6.size; rwa [hsz] at this
      rw [hsz] at hbx
      have HX := Lib.hid hbx
      clear hbx b4 hb6 hba hsz HO5 HV5 hB5 hB2 hB1 kc
      have knil := fun (W : World) (f : Fn) (a b : Array Value) => run_eql_func_nil (P := Try.prog) W f a b Try.underlying31
      go_wp2_with fail
      refine wp_range (gf := 19) (lb := #[.pointer (some ⟨Bn, 0, none⟩)]) rfl (enters_of Try.func19 (by kernel_rfl) rfl) (all_iter aw2 2 (w5.heap.size + 1) w6.heap.size Bn u6 w6 HX.out aw2_scn (by decide))
        (Keeps.refl _ _ _) (Nat.le_refl _) (fun _ => rfl) (fun k x A B r ho hg hr => ⟨ho.1, ho.2.kept hg (by rintro _ ⟨⟩; exact hr)⟩)
        (fun k W => Blk W w5.heap.size 3 #[.int .i64 (awN k)] ∧ OwnR W w.heap.size (.slice A5 2 c5) [[97], []] ∧ Below w.heap.size w W)
        (fun k A B row hs hg hr => ⟨hs.1.kept hg fun r e => (hr r e).2, hs.2.1.grown hg fun r e => .inr (hr r e).2, Below.keptFrom hs.2.2 hg fun r e => by have := (hr r e).1; omega⟩)
        ⟨B4.out, HO6.out, hB6⟩
        ?a1 ?assign ?body ?done
      case assign =>
        intro l' x W K hK
        dsimp only [frEnc]
        gi_wp2
        exact hK
      case body =>
        rintro l' k ⟨p, xv⟩ W hk ⟨h1, h2, h3⟩ ⟨rfl, ho⟩ hzW
        have hnx := awN_next hk
        dsimp only at ho ⊢
        obtain ⟨_, _, Ax, cx, rfl, _, _⟩ := ho.bytes.parts
        have hp1 := (aw2_scn.le (Nat.le_of_lt hk)).1
        rw [show aw2.length = 21 from rfl] at hp1
        have ht1 := Fr.held_length (aw2_scn.1 k hk)
        have ht2 := (Fr.whole_iff.1 (aw2_scn.1 k hk)).2.1
        rw [← ht1] at ht2
        have ha : 0 ≤ awN k ∧ awN k ≤ 12 := by
          unfold awN
          split
          · omega
          · split <;> omega
        obtain ⟨T, hT⟩ : ∃ T, (Fr.held (aw2.drop (Fr.pos aw2 k))).length = T := ⟨_, rfl⟩
        rw [hT] at ht2 hnx ⊢
        obtain ⟨q, hq⟩ : ∃ q, Fr.pos aw2 k = q := ⟨_, rfl⟩
        rw [hq] at hp1 hnx ⊢
        obtain ⟨a, hae⟩ : ∃ a, awN k = a := ⟨_, rfl⟩
        rw [hae] at h1 hnx ha
        have hx := h1.at 0
        have fx := h1.free 0
        have hx' : W.cell? ⟨w5.heap.size, 0, none⟩ = some (.int .i64 a) := hx
        have H1 := Lib.hid h1
        have H2 := Lib.hid h2
        have HN := Lib.hid hnx
        have hz5W : w5.heap.size < W.heap.size := by omega
        clear ho ht1 hT hq hae hx h1 h2 hnx
        gi_wp2
        rw [HN.out]
        refine ⟨(KeepsOthers.setCell _ _ _).from _, Keeps.setCell _ _ (by simp; omega), H1.out.set 0 _, H2.out.setOther H1.out (by decide) (by decide) 0 _, h3.setCell (p := ⟨w5.heap.size, 0, none⟩) hz5 _⟩
      case done =>
        rintro D W hD ⟨h1, h2, h3⟩ hK
        have hx : W.cell? ⟨w5.heap.size, 0, none⟩ = some (.int .i64 12) := h1.at 0
        obtain ⟨b, off, u0, rfl, c0, y0⟩ := h2.rows.at (k := 0) (by omega)
        obtain ⟨b', off', u1, e, c1, y1⟩ := h2.rows.at (k := 1) (by omega)
        injection e with e
        injection e with e1 e2
        subst e1 e2
        have t0 := run_text y0
        obtain ⟨_, _, A1, d1, rfl, _, _⟩ := y1.parts
        have c0' : W.cell? ⟨b, off, none⟩ = some u0 := c0
        have c1' : W.cell? ⟨b, off + 1, none⟩ = some (.slice A1 0 d1) := c1
        have q0 : ((str [97]).toList == [97]) = true := by rw [str_toList]; decide
        have H3 := Lib.hid h3
        have HK := Lib.hid hK
        clear y0 y1 h1 h2 c0 c1 h3 hK knil
        go_wp2
        have hB := H3.out
        have hsW := hB.size
        refine ⟨by simp, .inl ⟨_, _, rfl, run_takeDeferred HK.out, ?_⟩⟩
        exact ⟨_, results_tmp rfl _ _ _, rfl, Below.keptFrom hB (grownBy_putObj' _ D _) (by rintro _ ⟨⟩; omega)⟩
end Go.Proofs.Ytlfkbbdlmgklnaa
