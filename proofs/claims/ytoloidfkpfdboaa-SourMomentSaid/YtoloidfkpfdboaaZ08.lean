/- What package fram's iterator hands over; what Scan answers. -/
import Derived.Test.YtoloidfkpfdboaaZFram
import Derived.Test.YtoloidfkpfdboaaZ06
import Derived.Test.YtoloidfkpfdboaaZ02
import Derived.Test.YtoloidfkpfdboaaZ07
namespace Go.Proofs.Ytoloidfkpfdboaa
set_option maxRecDepth 100000
open Go.ChangeShapes Go.WideShapes Go.ChangeAt Go.RowKit Go.Shelf

attribute [local go_sem] Oper.semAt_some

/-- What the k-th round is handed: where the frame begins, and what it holds, in a row of its own. -/
def FrOk (base : Nat) (l : List Nat) (k : Nat) (x : Int × Value) (W : World) : Prop :=
  x.1 = ((Fr.pos l k : Nat) : Int) ∧ Own W base x.2 (Fr.held (l.drop (Fr.pos l k)))
def frEnc (x : Int × Value) : Array Value := #[.int .i64 x.1, x.2]

/-- The iterator's value: a box that holds a copy of the bytes. -/
def Boxes (w : World) (lo hi Bn : Nat) (v : Value) (l : List Nat) : Prop :=
  lo ≤ Bn ∧ Bn < hi ∧ hi ≤ w.heap.size ∧ w.cell? ⟨Bn, 0, none⟩ = some v ∧ Own w lo v l ∧ Between lo hi v

set_option maxHeartbeats 1000000 in
theorem all_any (v : Value) (l : List Nat) (w : World) (h : Bytes w v l) (hl : l.length ≤ 1099511627776) :
    Calls Try.prog 61 #[v] w fun e w' => ∃ Bn u, e = .returned (.func (.func 66) #[] #[.pointer (some ⟨Bn, 0, none⟩)]) ∧ Boxes w' w.heap.size w'.heap.size Bn u l ∧ Below w.heap.size w w' := by
  have H := Lib.hid h
  obtain ⟨_, _, A, c, rfl, _, _⟩ := h.parts
  clear h
  have hb0 : Below w.heap.size w (w.alloc (.cells #[.slice A l.length c] 25)) := (Below.refl _ w).alloc (Nat.le_refl _) _
  have H0 := Lib.hid (H.out.under hb0)
  go_enter Try.func61, Try.ntmps61
  go_wp2_with fail
  refine (clone_any _ l _ H0.out hl).mono ?_
  rintro e w1 ⟨v1, rfl, ho1, hb1⟩
  have hz : w.heap.size + 1 ≤ w1.heap.size := by have := hb1.size; simpa using this
  have hB : Blk (w.alloc (.cells #[.slice A l.length c] 25)) w.heap.size 25 #[.slice A l.length c] := heap_alloc_new w _
  have HB := Lib.hid (hB.under hb1)
  have hx : w1.cell? ⟨w.heap.size, 0, none⟩ = some (.slice A l.length c) := HB.out.at 0
  have fx := HB.out.free 0
  have HO := Lib.hid (ho1.more (base' := w.heap.size + 1) (by simp))
  have hB1 : Below w.heap.size w w1 := hb0.trans (hb1.mono (by simp))
  have hv := ho1.oneCell
  obtain ⟨_, _, A1, c1, rfl, _, _⟩ := ho1.bytes.parts
  clear ho1 hB hb1 hb0 hv
  go_wp2
  go_ret
  have hne : (Value.slice A1 l.length c1).ownBlock ≠ some w.heap.size := fun e => by have := (HO.out.lt _ e).1; omega
  have hO2 := (HO.out.more (base' := w.heap.size) (by omega)).grown (grown_setCell w1 ⟨w.heap.size, 0, none⟩ (.slice A1 l.length c1)) (.inr hne)
  exact ⟨_, _, rfl, ⟨Nat.le_refl _, by simp; omega, Nat.le_refl _, (HB.out.set 0 _).at 0, hO2, hO2.between⟩, hB1.setCell (p := ⟨w.heap.size, 0, none⟩) (Nat.le_refl _) _⟩

theorem Bytes.keeps {lo hi : Nat} {A B : World} {v : Value} {l : List Nat} (h : Bytes A v l) (hv : Between lo hi v) (hk : Keeps lo hi A B) : Bytes B v l :=
  h.same fun k _ e => hk.block k (hv k e).1 (hv k e).2
theorem cell_keeps {lo hi : Nat} {A B : World} {p : Addr} {x : Value} (h : A.cell? p = some x) (h1 : lo ≤ p.block) (h2 : p.block < hi) (hk : Keeps lo hi A B) : B.cell? p = some x := by
  rw [← h]
  unfold World.cell?
  rw [hk.block _ h1 h2]

theorem pos_next_of {l : List Nat} {N k : Nat} (h : Fr.Scn l N) (hk : k < N) : Fr.pos l (k + 1) = Fr.pos l k + (10 + Fr.told (l.drop (Fr.pos l k))) ∧ Fr.pos l k + 10 + Fr.told (l.drop (Fr.pos l k)) ≤ l.length :=
  ⟨rfl, Fr.pos_next (h.1 k hk)⟩

set_option maxHeartbeats 4000000 in
theorem all_iter (l : List Nat) (N lo hi Bn : Nat) (u : Value) (w0 : World) (hB : Boxes w0 lo hi Bn u l) (hS : Fr.Scn l N) (hl : l.length ≤ 1099511627776) :
    Iter Try.prog 66 #[.pointer (some ⟨Bn, 0, none⟩)] frEnc N (FrOk w0.heap.size l) lo hi w0 := by
  intro l' J W hK hJ hY h0
  obtain ⟨hb1, hb2, hb3, hb4, hb5, hb6⟩ := hB
  obtain ⟨_, hm, A, c, rfl, hc, _⟩ := hb5.bytes.parts
  obtain ⟨n, hn⟩ : ∃ n, l.length = n := ⟨_, rfl⟩
  have HN := Lib.hid hn
  have HB := Lib.hid hb5.bytes
  have HJ := Lib.hid hJ
  have HY := Lib.hid hY
  have HW := Lib.hid hb6
  rw [hn] at hb4 HB hc hl HW
  clear hJ hY hb5 hn hm hb6
  refine callsIn_of_wp Try.func66 rfl trivial ?_ rfl
  simp only [Try.ntmps66, List.size_toArray, List.length_cons, List.length_nil, Nat.reduceAdd, Nat.reduceSub, Array.replicate_succ, Array.replicate_zero, List.push_toArray, List.append_toArray, List.nil_append, List.cons_append]
  gi_wp2
  gi_loopw [3] (fun i wr => ∃ k : Nat, k ≤ N ∧ i = .int .i64 ((Fr.pos l k : Nat) : Int) ∧ J k wr ∧ Keeps lo hi w0 wr) (fun i _ => n - (intOf i).toNat)
  case atStart => exact ⟨0, Nat.zero_le _, rfl, h0, hK⟩
  case round =>
    obtain ⟨k, hk, rfl, hj, hkp⟩ := hrel
    have hpl := (hS.le hk).1
    rw [HN.out] at hpl
    have hcell := cell_keeps (p := ⟨Bn, 0, none⟩) hb4 hb1 hb2 hkp
    have HBr := Lib.hid (HB.out.keeps HW.out hkp)
    obtain ⟨p, hp⟩ : ∃ p, Fr.pos l k = p := ⟨_, rfl⟩
    rw [hp] at hpl ⊢
    have HP := Lib.hid hp
    clear hp
    have hpl' : (p : Int) ≤ (n : Int) := by omega
    by_cases hcp : c = p
    all_goals
      gi_wp2_with fail
      refine ⟨trivial, rfl, (callsIn_wide.2 (first_any _ (l.drop p) _ ?_ (by rw [List.length_drop, HN.out]; omega))).mono ?_⟩
      · first
        | exact Bytes.tail (n := n) (k := p) HBr.out (by omega) (by omega) (fun h => by omega)
        | exact Bytes.tail (n := n) (k := p) HBr.out (by omega) (by omega) (fun _ b' off' e => by subst e; rw [Option.map_some, add_plain])
      rintro e w1 ⟨x, rfl, hx, hbb⟩
      have HJ1 := Lib.hid (HJ.out _ _ _ hj hbb)
      have hk1 : Keeps lo hi w0 w1 := hkp.trans (Keeps.under hbb (Nat.le_trans hb3 hkp.size))
      clear hcell HBr hj hkp hbb
      rcases Nat.lt_or_ge k N with hlt | hge
      · have hw := hS.1 k hlt
        have hnx := pos_next_of hS hlt
        rw [HP.out] at hw hnx
        obtain ⟨A', c', rfl, hxb⟩ := hx hw
        have ht := (Fr.whole_iff.1 hw).2.1
        have hhl := Fr.held_length hw
        rw [hw]
        obtain ⟨T, hT⟩ : ∃ T, Fr.told (l.drop p) = T := ⟨_, rfl⟩
        rw [hT] at hxb ht hhl hnx ⊢
        rw [HN.out] at hnx
        have HX := Lib.hid hxb
        have HH := Lib.hid hhl
        have HNX := Lib.hid hnx.1
        have hn1 := hnx.2
        clear hx hxb hhl hT hw hnx
        gi_wp2_with fail
        refine ⟨trivial, rfl, (callsIn_wide.2 (clone_any _ (Fr.held (l.drop p)) _ HX.out (by rw [HH.out]; omega))).mono ?_⟩
        rintro e w2 ⟨v2, rfl, ho2, hb2'⟩
        have hj2 := HJ.out _ _ _ HJ1.out hb2'
        have hz1 : w0.heap.size ≤ w1.heap.size := hk1.size
        have hk2 : Keeps lo hi w0 w2 := hk1.trans (Keeps.under hb2' (Nat.le_trans hb3 hk1.size))
        obtain ⟨fn, tmps, assign, body, hy, hR⟩ := HY.out k ((p : Int), v2) w2 hlt hj2 ⟨by rw [HP.out], by rw [HP.out]; exact ho2.more hz1⟩
        dsimp only [frEnc] at hy
        clear ho2 hb2' hj2 HX
        gi_wp2_with fail
        refine ⟨rfl, hR.mono ?_⟩
        rintro e w3 ⟨rfl, hj3, hk3⟩
        clear hy hR
        gi_wp2
        go_roundw
        case rel =>
          refine ⟨k + 1, hlt, ?_, hj3, hk2.trans hk3⟩
          rw [HNX.out]
          congr 1
          omega
        case measure => simp [intOf]; omega
      · obtain rfl : k = N := by omega
        have hw := hS.2
        rw [HP.out] at hw
        rw [hw]
        clear hx hw
        gi_wp2
        refine ⟨trivial, ?_⟩
        gi_wp2
        refine ⟨fun _ h => (by cases h), ?_⟩
        gi_wp2
        refine bodyPost_ret (results_none rfl _ _ _) rfl ?_
        exact ⟨⟨_, rfl⟩, HJ1.out⟩
end Go.Proofs.Ytoloidfkpfdboaa

/- What package fram's Scan answers. -/
namespace Go.Proofs.Ytoloidfkpfdboaa
set_option maxRecDepth 100000
open Go.ChangeShapes Go.WideShapes Go.ChangeAt Go.RowKit Go.Shelf

attribute [local go_sem] Oper.semAt_some

theorem OwnR.cells {w : World} {base : Nat} {v : Value} {L : List (List Nat)} (h : OwnR w base v L) : ∀ (j : Nat) (o : Obj), v.ownBlock = some j → w.heap[j]? = some o → o.isCells = true := by
  obtain ⟨us, _, h2, _⟩ := h
  exact own_cells h2
theorem Own.kept {w w' : World} {base : Nat} {v : Value} {l : List Nat} {row : Option Nat} (h : Own w base v l) (hg : w.grownBy w' row) (hr : ∀ r, row = some r → ∃ o : Obj, w.heap[r]? = some o ∧ o.isCells = false) : Own w' base v l := by
  refine h.grown hg ?_
  rcases hv : v.ownBlock with _ | g
  · exact .inl rfl
  · refine .inr fun e => ?_
    obtain ⟨o, ho, hc⟩ := hr g e.symm
    rw [own_cells h.1 g o hv ho] at hc
    cases hc

def ScanIs (base : Nat) (l : List Nat) (N : Nat) (w : World) (e : Ending) (w' : World) : Prop :=
  ∃ u, e = .returned (.tuple #[u, .int .i64 ((Fr.pos l N : Nat) : Int)]) ∧ OwnR w' base u (Fr.rows l N) ∧ Below base w w'

set_option maxHeartbeats 4000000 in
theorem scan_any (v : Value) (l : List Nat) (N : Nat) (w : World) (h : Bytes w v l) (hS : Fr.Scn l N) (hl : l.length ≤ 1099511627776) :
    Calls Try.prog 53 #[v] w (ScanIs w.heap.size l N w) := by
  have H := Lib.hid h
  obtain ⟨_, _, A, c, rfl, _, _⟩ := h.parts
  obtain ⟨n, hn⟩ : ∃ n, l.length = n := ⟨_, rfl⟩
  rw [hn] at H hl ⊢
  have HN := Lib.hid hn
  clear h hn
  refine (callsIn_wide (n := 0)).1 (callsIn_of_wp_marks Try.func53 rfl trivial (wpIn_wide.2 ?_) rfl)
  simp only [Try.ntmps53, List.size_toArray, List.length_cons, List.length_nil, Nat.reduceAdd, Nat.reduceSub, Array.replicate_succ, Array.replicate_zero, List.push_toArray, List.append_toArray, List.nil_append, List.cons_append]
  go_wp2_with fail
  have hB0 : Below w.heap.size w ((w.alloc (.cells #[.slice none 0 0] 33)).alloc (.cells #[.int .i64 0] 3)) := ((Below.refl _ w).alloc (Nat.le_refl _) _).alloc (by simp) _
  refine (all_any _ l _ (H.out.under hB0) (by rw [HN.out]; exact hl)).mono ?_
  rintro e w1 ⟨Bn, u, rfl, hbx, hb1⟩
  have b4 : Blk ((w.alloc (.cells #[.slice none 0 0] 33)).alloc (.cells #[.int .i64 0] 3)) w.heap.size 33 #[.slice none 0 0] := Blk.alloc (heap_alloc_new w _) _
  have b5 : Blk ((w.alloc (.cells #[.slice none 0 0] 33)).alloc (.cells #[.int .i64 0] 3)) (w.heap.size + 1) 3 #[.int .i64 0] := by
    have := heap_alloc_new (w.alloc (.cells #[.slice none 0 0] 33)) (.cells #[.int .i64 0] 3)
    rwa [World.size_alloc] at this
  have B4 := Lib.hid (b4.under hb1)
  have B5 := Lib.hid (b5.under hb1)
  have HX := Lib.hid hbx
  have hB1 : Below w.heap.size w w1 := hB0.trans (hb1.mono hB0.size)
  have hz : w.heap.size + 2 ≤ w1.heap.size := by have := hb1.size; simp at this; omega
  have hlo : ((w.alloc (.cells #[.slice none 0 0] 33)).alloc (.cells #[.int .i64 0] 3)).heap.size = w.heap.size + 2 := by simp
  rw [hlo] at HX
  clear hbx b4 b5 hb1 hlo hB0
  go_wp2_with fail
  refine wp_range (gf := 66) (lb := #[.pointer (some ⟨Bn, 0, none⟩)]) rfl (enters_of Try.func66 (by kernel_rfl) rfl) (all_iter l N (w.heap.size + 2) w1.heap.size Bn u w1 HX.out hS (by rw [HN.out]; exact hl))
    (Keeps.refl _ _ _) (Nat.le_refl _) (fun _ => rfl) (fun k x A B r ho hg hr => ⟨ho.1, ho.2.kept hg (by rintro _ ⟨⟩; exact hr)⟩)
    (fun k W => (∃ hv, Blk W w.heap.size 33 #[hv] ∧ OwnR W w1.heap.size hv (Fr.rows l k)) ∧ Blk W (w.heap.size + 1) 3 #[.int .i64 ((Fr.pos l k : Nat) : Int)] ∧ Below w.heap.size w W)
    (fun k A B row hs hg hr => ⟨hs.1.imp fun hv h => ⟨h.1.kept hg fun r e => (hr r e).2, h.2.grown hg fun r e => .inr (hr r e).2⟩, hs.2.1.kept hg fun r e => (hr r e).2, Below.keptFrom hs.2.2 hg fun r e => by have := (hr r e).1; omega⟩)
    ⟨⟨_, B4.out, ownR_none _ _⟩, B5.out, hB1⟩
    (fun x => { tmps := #[.slice A n c, undef, .slice none 0 0, .int .i64 0, .pointer (some ⟨w.heap.size, 0, none⟩), .pointer (some ⟨w.heap.size + 1, 0, none⟩), .int .i64 x.1, x.2, .slice A n c, .func (.func 66) #[] #[.pointer (some ⟨Bn, 0, none⟩)], .int .i64 x.1, x.2, undef, undef, undef, undef, undef, undef, undef, undef, undef, undef, undef, undef], defers := [] }) ?assign ?body ?done
  case assign =>
    intro l' x W K hK
    obtain ⟨p, xv⟩ := x
    dsimp only [frEnc]
    gi_wp2
    exact hK
  case body =>
    rintro l' k ⟨p, xv⟩ W hk ⟨⟨hv, h1, h2⟩, h3, h4⟩ ⟨rfl, ho⟩ hzW
    have hle := (hS.le (Nat.le_of_lt hk)).1
    have hwh := hS.1 k hk
    have hnx := pos_next_of hS hk
    have hhl := Fr.held_length hwh
    have htl := (Fr.whole_iff.1 hwh).2.1
    have hrs := Fr.rows_succ l k
    have hkl := (hS.le (Nat.le_of_lt hk)).2
    dsimp only at ho ⊢
    obtain ⟨F, hF⟩ : ∃ F, Fr.held (l.drop (Fr.pos l k)) = F := ⟨_, rfl⟩
    rw [hF] at ho hhl hrs
    rw [← hhl] at hnx
    rw [← hhl] at htl
    obtain ⟨p, hp⟩ : ∃ p, Fr.pos l k = p := ⟨_, rfl⟩
    rw [hp] at hnx h3 hle hkl ⊢
    obtain ⟨L, hL⟩ : ∃ L, Fr.rows l k = L := ⟨_, rfl⟩
    have hLl : L.length = k := by rw [← hL]; exact Fr.rows_length l k
    rw [hL] at h2 hrs
    obtain ⟨_, _, Ax, cx, rfl, _, _⟩ := ho.bytes.parts
    obtain ⟨T, hT⟩ : ∃ T, F.length = T := ⟨_, rfl⟩
    rw [hT] at ho hnx htl ⊢
    rw [HN.out] at hle hnx
    have HR := Lib.hid hrs.symm
    have HP := Lib.hid hnx.1
    have hn1 := hnx.2
    have H1 := Lib.hid h1
    have H2 := Lib.hid h2
    have H3 := Lib.hid h3
    have HO := Lib.hid ho
    have HLL := Lib.hid hLl
    have hx4 : W.cell? ⟨w.heap.size, 0, none⟩ = some hv := h1.at 0
    clear hwh hhl hF hp hL hrs hT hnx h1 h2 h3 ho hLl
    gi_wp2_with (gi_at_builtin; refine wpListIn_append_row rfl _ _ rfl w1.heap.size W.heap.size hv (.slice Ax T cx) L F rfl ?_ rfl ?_ ?_ ?_ ?_ (Fr.rows l (k + 1)) HR.out ?_)
    case refine_1 => exact H2.out.under ((Below.refl _ _).alloc (Nat.le_refl _) _)
    case refine_2 => exact HO.out.alloc _
    case refine_3 => exact (show Blk _ W.heap.size 25 #[.slice Ax T cx] from heap_alloc_new W _).at 0
    case refine_4 => rw [HLL.out]; omega
    case refine_5 => simp; omega
    case refine_6 =>
      rintro v' w' ⟨ho', hg', hat', hb'⟩
      have hba : Below W.heap.size W (W.alloc (.cells #[.slice Ax T cx] 25)) := (Below.refl _ _).alloc (Nat.le_refl _) _
      have hbw : Below w1.heap.size W w' := (hba.mono hzW).trans hb'
      have B4' := Lib.hid (H1.out.below hbw (by omega))
      have B5' := Lib.hid (H3.out.below hbw (by omega))
      have hx4' : w'.cell? ⟨w.heap.size, 0, none⟩ = some hv := B4'.out.at 0
      have fx4' := B4'.out.free 0
      have hx5' : w'.cell? ⟨w.heap.size + 1, 0, none⟩ = some (.int .i64 (p : Int)) := B5'.out.at 0
      have fx5' := B5'.out.free 0
      have hkf : KeepsFrom w1.heap.size W w' := ((KeepsOthers.alloc W _).trans (KeepsOthers.of_grownBy hg' (H2.out.under hba).cells)).from _
      have hkk : Keeps (w.heap.size + 2) w1.heap.size W w' := ⟨hbw.size, fun j _ hj => hbw.block j hj⟩
      have HO' := Lib.hid ho'
      have hone : v'.oneCell' = true := by
        obtain ⟨A', c', e, _⟩ := ho'.parts
        rw [e]
        rfl
      obtain ⟨A', c', rfl, _⟩ := ho'.parts
      clear hx4 ho' hg' hat' hone hba
      gi_wp2
      have e1 : (p : Int) + 6 + (T : Int) + 4 = ((Fr.pos l (k + 1) : Nat) : Int) := by rw [HP.out]; omega
      rw [e1]
      refine ⟨hkf.trans (((KeepsOthers.setCell _ _ _).trans (KeepsOthers.setCell _ _ _)).from _), (hkk.trans (Keeps.setCell _ _ (by simp; omega))).trans (Keeps.setCell _ _ (by simp)), ⟨_, (B4'.out.set 0 _).setOther (by simp) _, (HO'.out.setCell (by simp; omega) _).setCell (by simp; omega) _⟩, (B5'.out.setOther (by simp) _).set 0 _, ?_⟩
      exact ((h4.trans (hbw.mono (by omega))).setCell (p := ⟨w.heap.size, 0, none⟩) (Nat.le_refl _) _).setCell (p := ⟨w.heap.size + 1, 0, none⟩) (by simp) _
  case done =>
    rintro D W hD ⟨⟨hv, h1, h2⟩, h3, h4⟩ hK
    have hx4 : W.cell? ⟨w.heap.size, 0, none⟩ = some hv := h1.at 0
    have hx5 : W.cell? ⟨w.heap.size + 1, 0, none⟩ = some (.int .i64 ((Fr.pos l N : Nat) : Int)) := h3.at 0
    have H2 := Lib.hid h2
    have HK := Lib.hid hK
    clear h1 h2 h3 hK
    go_wp2_with fail
    go_quiet (fail)
    go_wp2
    have hK : (W.drewN nq).heap[D]? = some (.deferred (some [])) := HK.out
    have hwW := h4.size
    have hbq : Below W.heap.size W (W.drewN nq) := ⟨rfl, rfl, rfl, Nat.le_refl _, fun _ _ => rfl⟩
    refine ⟨by simp, .inl ⟨_, _, rfl, run_takeDeferred hK, ?_⟩⟩
    refine ⟨_, results_tmp2 rfl _ _ _, hv, rfl, ?_, Below.keptFrom (h4.trans (hbq.mono (by omega))) (grownBy_putObj' _ D _) (by rintro _ ⟨⟩; omega)⟩
    exact ((H2.out.under hbq).grown (grownBy_putObj' _ D _) (by rintro _ ⟨⟩; exact .inr ⟨_, hK, rfl⟩)).more (by omega)
end Go.Proofs.Ytoloidfkpfdboaa

/- What package arti answers: what is made beside what it was made of; opened again, or none. -/
namespace Go.Proofs.Ytoloidfkpfdboaa
set_option maxRecDepth 100000
open Go.ChangeShapes Go.WideShapes Go.ChangeAt Go.RowKit

/-- A call that opens an artifact: both its parts in rows of their own, the second one's blocks behind the first one's; or none. -/
def AOpenIs (R : Option (List Nat × List Nat)) (w : World) (e : Ending) (w' : World) : Prop :=
  Below w.heap.size w w' ∧ match R with
  | none => e = .returned (.tuple #[.slice none 0 0, .slice none 0 0, .bool false])
  | some (p, v) => ∃ m x y, e = .returned (.tuple #[x, y, .bool true]) ∧ w.heap.size ≤ m ∧ m ≤ w'.heap.size ∧ Own w' w.heap.size x p ∧ Between w.heap.size m x ∧ Own w' m y v
/-- The same without the rows' places: two texts, and whether. -/
def AOpenSays (base : Nat) (R : Option (List Nat × List Nat)) (w : World) (e : Ending) (w' : World) : Prop :=
  Below base w w' ∧ ∃ x y, e = .returned (.tuple #[x, y, .bool R.isSome]) ∧ Bytes w' x (R.getD ([], [])).1 ∧ Bytes w' y (R.getD ([], [])).2 ∧ Between base w'.heap.size x ∧ Between base w'.heap.size y
theorem between_none (lo hi : Nat) (n c : Nat) : Between lo hi (.slice none n c) := fun k hk => by cases hk
theorem AOpenIs.says {R : Option (List Nat × List Nat)} {w w' : World} {e : Ending} (h : AOpenIs R w e w') : AOpenSays w.heap.size R w e w' := by
  obtain ⟨hb, h⟩ := h
  rcases R with _ | ⟨p, v⟩
  · subst h
    exact ⟨hb, _, _, rfl, bytes_none _, bytes_none _, between_none _ _ _ _, between_none _ _ _ _⟩
  · obtain ⟨m, x, y, rfl, h1, h2, h3, h4, h5⟩ := h
    exact ⟨hb, x, y, rfl, h3.bytes, h5.bytes, h3.between, (h5.more h1).between⟩

set_option maxHeartbeats 4000000 in
theorem aopen_any (v : Value) (l : List Nat) (w : World) (h : Bytes w v l) (hl : l.length ≤ 1099511627776) (R : Option (List Nat × List Nat)) (hR : Ar.opn l = R) :
    Calls Try.prog 50 #[v] w (AOpenIs R w) := by
  have HR := Lib.hid hR
  obtain ⟨N, hS⟩ := Fr.ex_scan l
  have HS := Lib.hid hS
  have HONE := Lib.hid (Ar.one_scn hS)
  obtain ⟨_, _, A0, c0, rfl, _, _⟩ := h.parts
  obtain ⟨n, hn⟩ : ∃ n, l.length = n := ⟨_, rfl⟩
  have H := Lib.hid h
  rw [hn] at H HONE hl ⊢
  have HN := Lib.hid hn
  have hN := (hS.le (Nat.le_refl N)).2
  have hN2 := (hS.le (Nat.le_refl N)).1
  rw [hn] at hN2
  clear h hn hS hR
  go_enter Try.func50, Try.ntmps50
  go_wp2_with fail
  refine (scan_any _ l N w H.out HS.out (by rw [HN.out]; exact hl)).mono ?_
  rintro e w1 ⟨u, rfl, hou, hb1⟩
  have HB1 := Lib.hid hb1
  have HU := Lib.hid hou.rows
  obtain ⟨Au, cu, rfl, _⟩ := hou.parts
  have hrl := Fr.rows_length l N
  rw [hrl] at HU ⊢
  obtain ⟨q, hq⟩ : ∃ q, Fr.pos l N = q := ⟨_, rfl⟩
  rw [hq] at HONE hN hN2 ⊢
  clear hou hb1 hrl hq
  by_cases h1 : N = 1 ∧ q = n
  · obtain ⟨rfl, rfl⟩ := h1
    have ho : Ar.one l = true := by rw [HONE.out]; simp
    obtain ⟨b, off, u, rfl, hcu, hbu⟩ := HU.out.at (k := 0) (by omega)
    rw [Fr.rows_at _ _ _ (by omega)] at hbu
    have hd : Fr.held (l.drop (Fr.pos l 0)) = Fr.held l := rfl
    rw [hd] at hbu
    rw [Nat.add_zero] at hcu
    have hhl := Fr.held_length (b := l) (by simp only [Ar.one, Bool.and_eq_true] at ho; exact ho.1)
    have hht : Fr.told l ≤ 10000 := (Fr.whole_iff.1 (by simp only [Ar.one, Bool.and_eq_true] at ho; exact ho.1)).2.1
    obtain ⟨x, hx⟩ : ∃ x, Fr.held l = x := ⟨_, rfl⟩
    have HR2 : Hid (R = if Cd.endB (Ar.s2 (some x)) then some (Ar.p1 (some x), Ar.v1 (some x)) else none) := Lib.hid (by rw [← HR.out, Ar.opn, ho, hx, Bool.true_and])
    rw [hx] at hbu hhl
    have HBU := Lib.hid hbu
    have hxl : Hid (x.length ≤ 10000) := Lib.hid (by omega)
    obtain ⟨_, _, Ax, cx, rfl, _, _⟩ := hbu.parts
    obtain ⟨xl, hxe⟩ : ∃ k, x.length = k := ⟨_, rfl⟩
    rw [hxe] at HBU hcu
    clear hbu ho hd hhl hht hx hxe HR HONE
    go_wp2_with fail
    refine (read_any _ x w1 HBU.out (by have := hxl.out; omega)).mono ?_
    rintro e w2 ⟨g, rfl, hg1, hg2, hr2, hb2⟩
    have HG : Hid (w1.heap.size ≤ g ∧ g < w2.heap.size) := Lib.hid ⟨hg1, hg2⟩
    have HRD := Lib.hid hr2
    have HB2 := Lib.hid (HB1.out.trans (hb2.mono HB1.out.size))
    have HZ2 := Lib.hid (Nat.le_trans HB1.out.size hg1)
    obtain ⟨S1, hS1⟩ : ∃ s, Cd.bytesS (some x) 4000 = s := ⟨_, rfl⟩
    obtain ⟨P1, hP1⟩ : ∃ s, Cd.bytesL (some x) 4000 = s := ⟨_, rfl⟩
    obtain ⟨S2, hS2⟩ : ∃ s, Cd.bytesS S1 256 = s := ⟨_, rfl⟩
    obtain ⟨P2, hP2⟩ : ∃ s, Cd.bytesL S1 256 = s := ⟨_, rfl⟩
    obtain ⟨q, hq⟩ : ∃ q, Cd.endB S2 = q := ⟨_, rfl⟩
    have HR3 : Hid (R = if q then some (P1, P2) else none) := Lib.hid (by rw [HR2.out, Ar.s2, Ar.v1, Ar.s1, Ar.p1, hS1, hP1, hS2, hP2, hq])
    have HS1 := Lib.hid hS1
    have HS2 := Lib.hid hS2
    have HP1 := Lib.hid hP1
    have HP2 := Lib.hid hP2
    have HQ := Lib.hid hq
    clear hg1 hg2 hr2 hb2 hS1 hS2 hP1 hP2 hq HR2 HBU HU hcu HB1
    go_wp2_with fail
    refine (rbytes_is _ _ g _ S1 _ P1 w2 HRD.out HS1.out HP1.out).mono ?_
    rintro e w3 ⟨v3, rfl, ho3, hr3, hg3⟩
    have HRD3 := Lib.hid hr3
    have HO3 := Lib.hid (ho3.more (base' := w.heap.size) HB2.out.size)
    have HL3 : Hid (∀ k, v3.ownBlock = some k → w2.heap.size ≤ k ∧ k < w3.heap.size) := Lib.hid ho3.lt
    have HB3 := Lib.hid (HB2.out.trans (Below.ofGrown hg3 HZ2.out HB2.out.size))
    have HZ3 := Lib.hid hg3.size
    clear ho3 hr3 hg3 HRD HB2
    go_wp2_with fail
    refine (rbytes_is _ _ g S1 S2 _ P2 w3 HRD3.out HS2.out HP2.out).mono ?_
    rintro e w4 ⟨v4, rfl, ho4, hr4, hg4⟩
    have HRD4 := Lib.hid hr4
    have HO4 := Lib.hid ho4
    have HO34 := Lib.hid (HO3.out.grown hg4 (.inr (fun e => by have := (HL3.out g e).1; have := HG.out.2; omega)))
    have HB4 := Lib.hid (HB3.out.trans (Below.ofGrown hg4 HZ2.out HB3.out.size))
    have HZ4 := Lib.hid hg4.size
    clear ho4 hr4 hg4 HRD3 HB3 HO3
    go_wp2_with fail
    refine (end_is _ _ g S2 q w4 HRD4.out HQ.out).mono ?_
    rintro e w5 ⟨rfl, rfl⟩
    rcases q with _ | _
    · go_wp2
      go_ret3
      exact ⟨HB4.out, by rw [HR3.out]; rfl⟩
    · go_wp2
      go_ret3
      refine ⟨HB4.out, ?_⟩
      rw [HR3.out]
      exact ⟨w3.heap.size, v3, v4, rfl, by have := HZ2.out; have := HG.out; have := HZ3.out; omega, HZ4.out, HO34.out, fun k hk => ⟨(HO34.out.lt k hk).1, (HL3.out k hk).2⟩, HO4.out⟩
  · have HRN : Hid (R = none) := Lib.hid (by
      rw [← HR.out]
      refine Ar.opn_none_of ?_
      rw [HONE.out]
      by_cases hN1 : N = 1
      · have : q ≠ n := fun e => h1 ⟨hN1, e⟩
        simp [this]
      · simp [hN1])
    by_cases hN1 : N = 1
    · subst hN1
      have hqn : ¬ q = n := fun e => h1 ⟨rfl, e⟩
      have hqI : ((q : Int) != (n : Int)) = true := by rw [bne_iff_ne]; omega
      go_wp2
      go_ret3
      exact ⟨HB1.out, by rw [HRN.out]; rfl⟩
    · have hNI : ((N : Int) != 1) = true := by rw [bne_iff_ne]; omega
      go_wp2
      go_ret3
      exact ⟨HB1.out, by rw [HRN.out]; rfl⟩
end Go.Proofs.Ytoloidfkpfdboaa

/- What the document's own answer of layer 11 (fettleref10) is: an artifact made, and opened. -/
namespace Go.Proofs.Ytoloidfkpfdboaa
set_option maxRecDepth 100000
open Go.ChangeShapes Go.WideShapes Go.ChangeAt Go.RowKit

theorem aref_new {w : World} {v : Value} {b : List Nat} (h : Bytes w v b) (hb : b.length ≤ 1099511627776) : Ref (w.alloc (.cells #[v, .bool false] 75)) w.heap.size w.heap.size (some b) :=
  ⟨Nat.le_refl _, v, heap_alloc_new w _, h.alloc _, fun h0 => h.between h0, hb⟩

set_option maxHeartbeats 1000000 in
theorem refamake_is (v x : Value) (l m r : List Nat) (w : World) (h : Bytes w v l) (hx : Bytes w x m) (hl : l.length ≤ 100000000000) (hm : m.length ≤ 100000000000) (hr : Ar.make l m = r) :
    Calls Try.prog 27 #[v, x] w (Made w.heap.size r w) := by
  have HR := Lib.hid hr
  have H := Lib.hid h
  have HX := Lib.hid hx
  clear h hx hr
  go_enter Try.func27, Try.ntmps27
  go_wp2_with fail
  refine (refbytes_any _ v [] l w (bytes_none w) H.out (by simp) (by omega)).mono ?_
  rintro e w1 ⟨v1, rfl, ho1, hb1⟩
  obtain ⟨L1, hL1⟩ : ∃ L1, [] ++ Cd.enc l.length ++ l = L1 := ⟨_, rfl⟩
  rw [hL1] at ho1
  have HO1 := Lib.hid ho1.bytes
  have HX1 := Lib.hid (HX.out.under hb1)
  have HB1 := Lib.hid hb1
  have hl1 : L1.length = l.length + 6 := by rw [← hL1]; simp [Cd.enc_length]; omega
  have HL1 := Lib.hid hL1
  clear ho1 hb1 hL1
  go_wp2_with fail
  refine (refbytes_any v1 x L1 m w1 HO1.out HX1.out (by omega) (by omega)).mono ?_
  rintro e w2 ⟨v2, rfl, ho2, hb2⟩
  obtain ⟨L2, hL2⟩ : ∃ L2, L1 ++ Cd.enc m.length ++ m = L2 := ⟨_, rfl⟩
  rw [hL2] at ho2
  have HO2 := Lib.hid ho2.bytes
  have HB2 := Lib.hid (HB1.out.trans (hb2.mono HB1.out.size))
  have hl2 : L2.length = L1.length + m.length + 6 := by rw [← hL2]; simp [Cd.enc_length]; omega
  have HR2 : Hid ([] ++ Fr.frm L2 = r) := Lib.hid (by rw [← hL2, ← HL1.out]; exact HR.out)
  clear ho2 hb2 hL2 HB1 HX1 HO1
  go_wp2_with fail
  refine (refput_is _ v2 [] L2 r w2 (bytes_none w2) HO2.out (by simp) (by omega) HR2.out).mono ?_
  rintro e w3 ⟨v3, rfl, ho3, hb3⟩
  have HO3 := Lib.hid (ho3.more (base' := w.heap.size) HB2.out.size)
  have HB3 := Lib.hid (HB2.out.trans (hb3.mono HB2.out.size))
  clear ho3 hb3
  go_wp2
  go_ret
  exact ⟨_, rfl, HO3.out, HB3.out⟩

/-- What the one frame that bytes are holds; nothing else. -/
def AWholeIs (l : List Nat) (w : World) (e : Ending) (w' : World) : Prop := ∃ x, e = .returned (.tuple #[x, .bool (Ar.one l)]) ∧ Bytes w' x (if Ar.one l then Fr.held l else []) ∧ Below w.heap.size w w'

set_option maxHeartbeats 2000000 in
theorem refwhole_any (v : Value) (l : List Nat) (w : World) (h : Bytes w v l) (hl : l.length ≤ 1099511627776) :
    Calls Try.prog 36 #[v] w (AWholeIs l w) := by
  obtain ⟨N, hS⟩ := Fr.ex_scan l
  have HS := Lib.hid hS
  have HONE := Lib.hid (Ar.one_scn hS)
  obtain ⟨_, _, A0, c0, rfl, _, _⟩ := h.parts
  obtain ⟨n, hn⟩ : ∃ n, l.length = n := ⟨_, rfl⟩
  have H := Lib.hid h
  rw [hn] at H HONE hl ⊢
  have HN := Lib.hid hn
  have hN := (hS.le (Nat.le_refl N)).2
  have hN2 := (hS.le (Nat.le_refl N)).1
  rw [hn] at hN2
  clear h hn hS
  go_enter Try.func36, Try.ntmps36
  go_wp2_with fail
  refine (refscan_any _ l N w H.out HS.out (by rw [HN.out]; exact hl)).mono ?_
  rintro e w1 ⟨u, rfl, hou, hb1⟩
  have HB1 := Lib.hid hb1
  have HU := Lib.hid hou.rows
  obtain ⟨Au, cu, rfl, _⟩ := hou.parts
  have hrl := Fr.rows_length l N
  rw [hrl] at HU ⊢
  obtain ⟨q, hq⟩ : ∃ q, Fr.pos l N = q := ⟨_, rfl⟩
  rw [hq] at HONE hN hN2 ⊢
  clear hou hb1 hrl hq
  by_cases h1 : N = 1 ∧ q = n
  · obtain ⟨rfl, rfl⟩ := h1
    have ho : Hid (Ar.one l = true) := Lib.hid (by rw [HONE.out]; simp)
    obtain ⟨b, off, u, rfl, hcu, hbu⟩ := HU.out.at (k := 0) (by omega)
    rw [Fr.rows_at _ _ _ (by omega)] at hbu
    have hd : Fr.held (l.drop (Fr.pos l 0)) = Fr.held l := rfl
    rw [hd] at hbu
    rw [Nat.add_zero] at hcu
    have HBU := Lib.hid hbu
    clear hbu HU hd HONE
    go_wp2
    go_ret2
    exact ⟨_, by rw [ho.out]; rfl, by rw [ho.out]; exact HBU.out, HB1.out⟩
  · have ho : Hid (Ar.one l = false) := Lib.hid (by
      rw [HONE.out]
      by_cases hN1 : N = 1
      · have : q ≠ n := fun e => h1 ⟨hN1, e⟩
        simp [this]
      · simp [hN1])
    by_cases hN1 : N = 1
    · subst hN1
      have hqn : ¬ q = n := fun e => h1 ⟨rfl, e⟩
      have hqI : ((q : Int) != (n : Int)) = true := by rw [bne_iff_ne]; omega
      clear h1 HONE
      go_wp2
      go_ret2
      exact ⟨_, by rw [ho.out]; rfl, by rw [ho.out]; exact bytes_none _, HB1.out⟩
    · have hNI : ((N : Int) != 1) = true := by rw [bne_iff_ne]; omega
      clear h1 HONE
      go_wp2
      go_ret2
      exact ⟨_, by rw [ho.out]; rfl, by rw [ho.out]; exact bytes_none _, HB1.out⟩

set_option maxHeartbeats 4000000 in
theorem refaopen_any (v : Value) (l : List Nat) (w : World) (h : Bytes w v l) (hl : l.length ≤ 1099511627776) (R : Option (List Nat × List Nat)) (hR : Ar.opn l = R) :
    Calls Try.prog 29 #[v] w (AOpenSays w.heap.size R w) := by
  have HR := Lib.hid hR
  have H := Lib.hid h
  clear h hR
  go_enter Try.func29, Try.ntmps29
  go_wp2_with fail
  refine (refwhole_any v l w H.out hl).mono ?_
  rintro e w1 ⟨x, rfl, hx, hb1⟩
  obtain ⟨o, ho⟩ : ∃ o, Ar.one l = o := ⟨_, rfl⟩
  rw [ho] at hx ⊢
  obtain ⟨X, hX⟩ : ∃ X, (if o then Fr.held l else []) = X := ⟨_, rfl⟩
  rw [hX] at hx
  obtain ⟨S1, hS1⟩ : ∃ s, Cd.bytesS (some X) 4000 = s := ⟨_, rfl⟩
  obtain ⟨P1, hP1⟩ : ∃ s, Cd.bytesL (some X) 4000 = s := ⟨_, rfl⟩
  obtain ⟨S2, hS2⟩ : ∃ s, Cd.bytesS S1 256 = s := ⟨_, rfl⟩
  obtain ⟨P2, hP2⟩ : ∃ s, Cd.bytesL S1 256 = s := ⟨_, rfl⟩
  obtain ⟨q, hq⟩ : ∃ q, Cd.endB S2 = q := ⟨_, rfl⟩
  have HXL : Hid (X.length ≤ 1099511627776) := Lib.hid (by
    rw [← hX]
    split
    · unfold Fr.held
      rw [List.length_take, List.length_drop]
      omega
    · simp)
  have HR3 : Hid (R = if o && q then some (P1, P2) else none) := Lib.hid (by
    rw [← HR.out, Ar.opn, ho]
    rcases o with _ | _
    · rfl
    · rw [show Fr.held l = X from hX, Ar.s2, Ar.v1, Ar.s1, Ar.p1, hS1, hP1, hS2, hP2, hq])
  have HS1 := Lib.hid hS1
  have HS2 := Lib.hid hS2
  have HP1 := Lib.hid hP1
  have HP2 := Lib.hid hP2
  have HQ := Lib.hid hq
  have HB1 := Lib.hid hb1
  obtain ⟨_, _, Ax, cx, rfl, _, _⟩ := hx.parts
  have HRF := Lib.hid (aref_new hx HXL.out)
  clear hx hb1 ho hX hS1 hP1 hS2 hP2 hq HR
  obtain ⟨g, hg⟩ : ∃ g, w1.heap.size = g := ⟨_, rfl⟩
  obtain ⟨w2, hw2⟩ : ∃ w2, w1.alloc (.cells #[.slice Ax X.length cx, .bool false] 75) = w2 := ⟨_, rfl⟩
  have HB2 : Hid (Below w.heap.size w w2) := Lib.hid (by rw [← hw2]; exact HB1.out.alloc HB1.out.size _)
  have HZ2 : Hid (w.heap.size ≤ g ∧ g < w2.heap.size) := Lib.hid (by rw [← hw2, ← hg]; have := HB1.out.size; simp; omega)
  rw [hg, hw2] at HRF
  have HW2 := Lib.hid hw2
  have HG := Lib.hid hg
  clear hw2 hg
  have HC : Hid (Calls Try.prog 37 #[.pointer (some ⟨g, 0, none⟩), .int .i64 4000] w2 (ToldBytes g g S1 P1 w2)) := Lib.hid (by rw [← HP1.out, ← HS1.out]; exact refrbytes_any g g _ 4000 w2 HRF.out)
  go_wp2_with fail
  rw [HW2.out, HG.out]
  refine HC.out.mono ?_
  rintro e w3 ⟨v3, rfl, ho3, hr3, hg3⟩
  have HRF3 := Lib.hid hr3
  have HO3 := Lib.hid (ho3.more (base' := w.heap.size) HB2.out.size)
  have HL3 : Hid (∀ k, v3.ownBlock = some k → w2.heap.size ≤ k ∧ k < w3.heap.size) := Lib.hid ho3.lt
  have HB3 := Lib.hid (HB2.out.trans (Below.ofGrown hg3 HZ2.out.1 HB2.out.size))
  have HZ3 := Lib.hid hg3.size
  have HC2 : Hid (Calls Try.prog 37 #[.pointer (some ⟨g, 0, none⟩), .int .i64 256] w3 (ToldBytes g g S2 P2 w3)) := Lib.hid (by rw [← HP2.out, ← HS2.out]; exact refrbytes_any g g _ 256 w3 HRF3.out)
  clear ho3 hr3 hg3 HRF HB2 HC HW2 HG
  go_wp2_with fail
  refine HC2.out.mono ?_
  rintro e w4 ⟨v4, rfl, ho4, hr4, hg4⟩
  have HRF4 := Lib.hid hr4
  have HO4 := Lib.hid (ho4.more (base' := w.heap.size) HB3.out.size)
  have HO34 := Lib.hid (HO3.out.grown hg4 (.inr (fun e => by have := (HL3.out g e).1; have := HZ2.out.2; omega)))
  have HB4 := Lib.hid (HB3.out.trans (Below.ofGrown hg4 HZ2.out.1 HB3.out.size))
  have HC4 : Hid (Calls Try.prog 38 #[.pointer (some ⟨g, 0, none⟩)] w4 fun e w' => e = .returned (.bool q) ∧ w4 = w') := Lib.hid (by rw [← HQ.out]; exact refend_any g g S2 w4 HRF4.out)
  clear ho4 hr4 hg4 HRF3 HB3 HO3 HC2
  rcases o with _ | _
  · go_wp2
    go_ret3
    exact ⟨HB4.out, _, _, by rw [HR3.out]; rfl, by rw [HR3.out]; exact bytes_none _, by rw [HR3.out]; exact bytes_none _, between_none _ _ _ _, between_none _ _ _ _⟩
  · go_wp2_with fail
    refine HC4.out.mono ?_
    rintro e w5 ⟨rfl, rfl⟩
    rcases q with _ | _
    · go_wp2
      go_ret3
      exact ⟨HB4.out, _, _, by rw [HR3.out]; rfl, by rw [HR3.out]; exact bytes_none _, by rw [HR3.out]; exact bytes_none _, between_none _ _ _ _, between_none _ _ _ _⟩
    · go_wp2
      go_ret3
      exact ⟨HB4.out, _, _, by rw [HR3.out]; rfl, by rw [HR3.out]; exact HO34.out.bytes, by rw [HR3.out]; exact HO4.out.bytes, HO34.out.between, HO4.out.between⟩
end Go.Proofs.Ytoloidfkpfdboaa
