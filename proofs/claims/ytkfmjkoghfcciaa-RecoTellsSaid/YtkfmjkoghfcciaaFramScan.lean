/- What package fram's Scan answers. -/
import Derived.Test.YtkfmjkoghfcciaaFramAll
import Derived.Test.YtkfmjkoghfcciaaKept
namespace Go.Proofs.Ytkfmjkoghfcciaa
set_option maxRecDepth 100000
open Go.ChangeShapes Go.WideShapes Go.ChangeAt Go.RowKit Go.Shelf

attribute [local go_sem] Oper.semAt_some

theorem OwnR.cells {w : World} {base : Nat} {v : Value} {L : List (List Nat)} (h : OwnR w base v L) : ∀ (j : Nat) (o : Obj), v.ownBlock = some j → w.heap[j]? = some o → o.isCells = true := by
  obtain ⟨us, _, h2, _⟩ := h
  exact own_cells h2
theorem Own.kept {w w' : World} {base : Nat} {v : Value} {l : List Nat} {row : Option Nat} (h : Own w base v l) (hg : w.grownBy w' row) (hr : ∀ r, row = some r → ∃ o : Obj, w.heap[r]? = some o ∧ o.isCells = false) : Own w' base v l := by
  refine h.grown hg ?_
  rcases hv : v.ownBlock with _ | g
  · exact .inl rfl
  · refine .inr fun e => ?_
    obtain ⟨o, ho, hc⟩ := hr g e.symm
    rw [own_cells h.1 g o hv ho] at hc
    cases hc

def ScanIs (base : Nat) (l : List Nat) (N : Nat) (w : World) (e : Ending) (w' : World) : Prop :=
  ∃ u, e = .returned (.tuple #[u, .int .i64 ((Fr.pos l N : Nat) : Int)]) ∧ OwnR w' base u (Fr.rows l N) ∧ Below base w w'

set_option maxHeartbeats 4000000 in
theorem scan_any (v : Value) (l : List Nat) (N : Nat) (w : World) (h : Bytes w v l) (hS : Fr.Scn l N) (hl : l.length ≤ 1099511627776) :
    Calls Try.prog 74 #[v] w (ScanIs w.heap.size l N w) := by
  have H := Lib.hid h
  obtain ⟨_, _, A, c, rfl, _, _⟩ := h.parts
  obtain ⟨n, hn⟩ : ∃ n, l.length = n := ⟨_, rfl⟩
  rw [hn] at H hl ⊢
  have HN := Lib.hid hn
  clear h hn
  refine (callsIn_wide (n := 0)).1 (callsIn_of_wp_marks Try.func74 rfl trivial (wpIn_wide.2 ?_) rfl)
  simp only [Try.ntmps74, List.size_toArray, List.length_cons, List.length_nil, Nat.reduceAdd, Nat.reduceSub, Array.replicate_succ, Array.replicate_zero, List.push_toArray, List.append_toArray, List.nil_append, List.cons_append]
  go_wp2_with fail
  have hB0 : Below w.heap.size w ((w.alloc (.cells #[.slice none 0 0] 23)).alloc (.cells #[.int .i64 0] 3)) := ((Below.refl _ w).alloc (Nat.le_refl _) _).alloc (by simp) _
  refine (all_any _ l _ (H.out.under hB0) (by rw [HN.out]; exact hl)).mono ?_
  rintro e w1 ⟨Bn, u, rfl, hbx, hb1⟩
  have b4 : Blk ((w.alloc (.cells #[.slice none 0 0] 23)).alloc (.cells #[.int .i64 0] 3)) w.heap.size 23 #[.slice none 0 0] := Blk.alloc (heap_alloc_new w _) _
  have b5 : Blk ((w.alloc (.cells #[.slice none 0 0] 23)).alloc (.cells #[.int .i64 0] 3)) (w.heap.size + 1) 3 #[.int .i64 0] := by
    have := heap_alloc_new (w.alloc (.cells #[.slice none 0 0] 23)) (.cells #[.int .i64 0] 3)
    rwa [World.size_alloc] at this
  have B4 := Lib.hid (b4.under hb1)
  have B5 := Lib.hid (b5.under hb1)
  have HX := Lib.hid hbx
  have hB1 : Below w.heap.size w w1 := hB0.trans (hb1.mono hB0.size)
  have hz : w.heap.size + 2 ≤ w1.heap.size := by have := hb1.size; simp at this; omega
  have hlo : ((w.alloc (.cells #[.slice none 0 0] 23)).alloc (.cells #[.int .i64 0] 3)).heap.size = w.heap.size + 2 := by simp
  rw [hlo] at HX
  clear hbx b4 b5 hb1 hlo hB0
  go_wp2_with fail
  refine wp_range (gf := 115) (lb := #[.pointer (some ⟨Bn, 0, none⟩)]) rfl (enters_of Try.func115 (by kernel_rfl) rfl) (all_iter l N (w.heap.size + 2) w1.heap.size Bn u w1 HX.out hS (by rw [HN.out]; exact hl))
    (Keeps.refl _ _ _) (Nat.le_refl _) (fun _ => rfl) (fun k x A B r ho hg hr => ⟨ho.1, ho.2.kept hg (by rintro _ ⟨⟩; exact hr)⟩)
    (fun k W => (∃ hv, Blk W w.heap.size 23 #[hv] ∧ OwnR W w1.heap.size hv (Fr.rows l k)) ∧ Blk W (w.heap.size + 1) 3 #[.int .i64 ((Fr.pos l k : Nat) : Int)] ∧ Below w.heap.size w W)
    (fun k A B row hs hg hr => ⟨hs.1.imp fun hv h => ⟨h.1.kept hg fun r e => (hr r e).2, h.2.grown hg fun r e => .inr (hr r e).2⟩, hs.2.1.kept hg fun r e => (hr r e).2, Below.keptFrom hs.2.2 hg fun r e => by have := (hr r e).1; omega⟩)
    ⟨⟨_, B4.out, ownR_none _ _⟩, B5.out, hB1⟩
    (fun x => { tmps := #[.slice A n c, undef, .slice none 0 0, .int .i64 0, .pointer (some ⟨w.heap.size, 0, none⟩), .pointer (some ⟨w.heap.size + 1, 0, none⟩), .int .i64 x.1, x.2, .slice A n c, .func (.func 115) #[] #[.pointer (some ⟨Bn, 0, none⟩)], .int .i64 x.1, x.2, undef, undef, undef, undef, undef, undef, undef, undef, undef, undef, undef, undef], defers := [] }) ?assign ?body ?done
  case assign =>
    intro l' x W K hK
    obtain ⟨p, xv⟩ := x
    dsimp only [frEnc]
    gi_wp2
    exact hK
  case body =>
    rintro l' k ⟨p, xv⟩ W hk ⟨⟨hv, h1, h2⟩, h3, h4⟩ ⟨rfl, ho⟩ hzW
    have hle := (hS.le (Nat.le_of_lt hk)).1
    have hwh := hS.1 k hk
    have hnx := pos_next_of hS hk
    have hhl := Fr.held_length hwh
    have htl := (Fr.whole_iff.1 hwh).2.1
    have hrs := Fr.rows_succ l k
    have hkl := (hS.le (Nat.le_of_lt hk)).2
    dsimp only at ho ⊢
    obtain ⟨F, hF⟩ : ∃ F, Fr.held (l.drop (Fr.pos l k)) = F := ⟨_, rfl⟩
    rw [hF] at ho hhl hrs
    rw [← hhl] at hnx
    rw [← hhl] at htl
    obtain ⟨p, hp⟩ : ∃ p, Fr.pos l k = p := ⟨_, rfl⟩
    rw [hp] at hnx h3 hle hkl ⊢
    obtain ⟨L, hL⟩ : ∃ L, Fr.rows l k = L := ⟨_, rfl⟩
    have hLl : L.length = k := by rw [← hL]; exact Fr.rows_length l k
    rw [hL] at h2 hrs
    obtain ⟨_, _, Ax, cx, rfl, _, _⟩ := ho.bytes.parts
    obtain ⟨T, hT⟩ : ∃ T, F.length = T := ⟨_, rfl⟩
    rw [hT] at ho hnx htl ⊢
    rw [HN.out] at hle hnx
    have HR := Lib.hid hrs.symm
    have HP := Lib.hid hnx.1
    have hn1 := hnx.2
    have H1 := Lib.hid h1
    have H2 := Lib.hid h2
    have H3 := Lib.hid h3
    have HO := Lib.hid ho
    have HLL := Lib.hid hLl
    have hx4 : W.cell? ⟨w.heap.size, 0, none⟩ = some hv := h1.at 0
    clear hwh hhl hF hp hL hrs hT hnx h1 h2 h3 ho hLl
    gi_wp2_with (gi_at_builtin; refine wpListIn_append_row rfl _ _ rfl w1.heap.size W.heap.size hv (.slice Ax T cx) L F rfl ?_ rfl ?_ ?_ ?_ ?_ (Fr.rows l (k + 1)) HR.out ?_)
    case refine_1 => exact H2.out.under ((Below.refl _ _).alloc (Nat.le_refl _) _)
    case refine_2 => exact HO.out.alloc _
    case refine_3 => exact (show Blk _ W.heap.size 30 #[.slice Ax T cx] from heap_alloc_new W _).at 0
    case refine_4 => rw [HLL.out]; omega
    case refine_5 => simp; omega
    case refine_6 =>
      rintro v' w' ⟨ho', hg', hat', hb'⟩
      have hba : Below W.heap.size W (W.alloc (.cells #[.slice Ax T cx] 30)) := (Below.refl _ _).alloc (Nat.le_refl _) _
      have hbw : Below w1.heap.size W w' := (hba.mono hzW).trans hb'
      have B4' := Lib.hid (H1.out.below hbw (by omega))
      have B5' := Lib.hid (H3.out.below hbw (by omega))
      have hx4' : w'.cell? ⟨w.heap.size, 0, none⟩ = some hv := B4'.out.at 0
      have fx4' := B4'.out.free 0
      have hx5' : w'.cell? ⟨w.heap.size + 1, 0, none⟩ = some (.int .i64 (p : Int)) := B5'.out.at 0
      have fx5' := B5'.out.free 0
      have hkf : KeepsFrom w1.heap.size W w' := ((KeepsOthers.alloc W _).trans (KeepsOthers.of_grownBy hg' (H2.out.under hba).cells)).from _
      have hkk : Keeps (w.heap.size + 2) w1.heap.size W w' := ⟨hbw.size, fun j _ hj => hbw.block j hj⟩
      have HO' := Lib.hid ho'
      have hone : v'.oneCell' = true := by
        obtain ⟨A', c', e, _⟩ := ho'.parts
        rw [e]
        rfl
      obtain ⟨A', c', rfl, _⟩ := ho'.parts
      clear hx4 ho' hg' hat' hone hba
      gi_wp2
      have e1 : (p : Int) + 6 + (T : Int) + 4 = ((Fr.pos l (k + 1) : Nat) : Int) := by rw [HP.out]; omega
      rw [e1]
      refine ⟨hkf.trans (((KeepsOthers.setCell _ _ _).trans (KeepsOthers.setCell _ _ _)).from _), (hkk.trans (Keeps.setCell _ _ (by simp; omega))).trans (Keeps.setCell _ _ (by simp)), ⟨_, (B4'.out.set 0 _).setOther (by simp) _, (HO'.out.setCell (by simp; omega) _).setCell (by simp; omega) _⟩, (B5'.out.setOther (by simp) _).set 0 _, ?_⟩
      exact ((h4.trans (hbw.mono (by omega))).setCell (p := ⟨w.heap.size, 0, none⟩) (Nat.le_refl _) _).setCell (p := ⟨w.heap.size + 1, 0, none⟩) (by simp) _
  case done =>
    rintro D W hD ⟨⟨hv, h1, h2⟩, h3, h4⟩ hK
    have hx4 : W.cell? ⟨w.heap.size, 0, none⟩ = some hv := h1.at 0
    have hx5 : W.cell? ⟨w.heap.size + 1, 0, none⟩ = some (.int .i64 ((Fr.pos l N : Nat) : Int)) := h3.at 0
    have H2 := Lib.hid h2
    have HK := Lib.hid hK
    clear h1 h2 h3 hK
    go_wp2_with fail
    go_quiet (fail)
    go_wp2
    have hK : (W.drewN nq).heap[D]? = some (.deferred (some [])) := HK.out
    have hwW := h4.size
    have hbq : Below W.heap.size W (W.drewN nq) := ⟨rfl, rfl, rfl, Nat.le_refl _, fun _ _ => rfl⟩
    refine ⟨by simp, .inl ⟨_, _, rfl, run_takeDeferred hK, ?_⟩⟩
    refine ⟨_, results_tmp2 rfl _ _ _, hv, rfl, ?_, Below.keptFrom (h4.trans (hbq.mono (by omega))) (grownBy_putObj' _ D _) (by rintro _ ⟨⟩; omega)⟩
    exact ((H2.out.under hbq).grown (grownBy_putObj' _ D _) (by rintro _ ⟨⟩; exact .inr ⟨_, hK, rfl⟩)).more (by omega)
end Go.Proofs.Ytkfmjkoghfcciaa
