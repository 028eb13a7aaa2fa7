/- What package fram's iterator hands over; what Scan answers. -/
import Derived.Test.YtkfmjkoghfcciaaFram
import Derived.Test.YtkfmjkoghfcciaaRange
namespace Go.Proofs.Ytkfmjkoghfcciaa
set_option maxRecDepth 100000
open Go.ChangeShapes Go.WideShapes Go.ChangeAt Go.RowKit Go.Shelf

attribute [local go_sem] Oper.semAt_some

/-- What the k-th round is handed: where the frame begins, and what it holds, in a row of its own. -/
def FrOk (base : Nat) (l : List Nat) (k : Nat) (x : Int × Value) (W : World) : Prop :=
  x.1 = ((Fr.pos l k : Nat) : Int) ∧ Own W base x.2 (Fr.held (l.drop (Fr.pos l k)))
def frEnc (x : Int × Value) : Array Value := #[.int .i64 x.1, x.2]

/-- The iterator's value: a box that holds a copy of the bytes. -/
def Boxes (w : World) (lo hi Bn : Nat) (v : Value) (l : List Nat) : Prop :=
  lo ≤ Bn ∧ Bn < hi ∧ hi ≤ w.heap.size ∧ w.cell? ⟨Bn, 0, none⟩ = some v ∧ Own w lo v l ∧ Between lo hi v

set_option maxHeartbeats 1000000 in
theorem all_any (v : Value) (l : List Nat) (w : World) (h : Bytes w v l) (hl : l.length ≤ 1099511627776) :
    Calls Try.prog 95 #[v] w fun e w' => ∃ Bn u, e = .returned (.func (.func 115) #[] #[.pointer (some ⟨Bn, 0, none⟩)]) ∧ Boxes w' w.heap.size w'.heap.size Bn u l ∧ Below w.heap.size w w' := by
  have H := Lib.hid h
  obtain ⟨_, _, A, c, rfl, _, _⟩ := h.parts
  clear h
  have hb0 : Below w.heap.size w (w.alloc (.cells #[.slice A l.length c] 30)) := (Below.refl _ w).alloc (Nat.le_refl _) _
  have H0 := Lib.hid (H.out.under hb0)
  go_enter Try.func95, Try.ntmps95
  go_wp2_with fail
  refine (clone_any _ l _ H0.out hl).mono ?_
  rintro e w1 ⟨v1, rfl, ho1, hb1⟩
  have hz : w.heap.size + 1 ≤ w1.heap.size := by have := hb1.size; simpa using this
  have hB : Blk (w.alloc (.cells #[.slice A l.length c] 30)) w.heap.size 30 #[.slice A l.length c] := heap_alloc_new w _
  have HB := Lib.hid (hB.under hb1)
  have hx : w1.cell? ⟨w.heap.size, 0, none⟩ = some (.slice A l.length c) := HB.out.at 0
  have fx := HB.out.free 0
  have HO := Lib.hid (ho1.more (base' := w.heap.size + 1) (by simp))
  have hB1 : Below w.heap.size w w1 := hb0.trans (hb1.mono (by simp))
  have hv := ho1.oneCell
  obtain ⟨_, _, A1, c1, rfl, _, _⟩ := ho1.bytes.parts
  clear ho1 hB hb1 hb0 hv
  go_wp2
  go_ret
  have hne : (Value.slice A1 l.length c1).ownBlock ≠ some w.heap.size := fun e => by have := (HO.out.lt _ e).1; omega
  have hO2 := (HO.out.more (base' := w.heap.size) (by omega)).grown (grown_setCell w1 ⟨w.heap.size, 0, none⟩ (.slice A1 l.length c1)) (.inr hne)
  exact ⟨_, _, rfl, ⟨Nat.le_refl _, by simp; omega, Nat.le_refl _, (HB.out.set 0 _).at 0, hO2, hO2.between⟩, hB1.setCell (p := ⟨w.heap.size, 0, none⟩) (Nat.le_refl _) _⟩

theorem Bytes.keeps {lo hi : Nat} {A B : World} {v : Value} {l : List Nat} (h : Bytes A v l) (hv : Between lo hi v) (hk : Keeps lo hi A B) : Bytes B v l :=
  h.same fun k _ e => hk.block k (hv k e).1 (hv k e).2
theorem cell_keeps {lo hi : Nat} {A B : World} {p : Addr} {x : Value} (h : A.cell? p = some x) (h1 : lo ≤ p.block) (h2 : p.block < hi) (hk : Keeps lo hi A B) : B.cell? p = some x := by
  rw [← h]
  unfold World.cell?
  rw [hk.block _ h1 h2]

theorem pos_next_of {l : List Nat} {N k : Nat} (h : Fr.Scn l N) (hk : k < N) : Fr.pos l (k + 1) = Fr.pos l k + (10 + Fr.told (l.drop (Fr.pos l k))) ∧ Fr.pos l k + 10 + Fr.told (l.drop (Fr.pos l k)) ≤ l.length :=
  ⟨rfl, Fr.pos_next (h.1 k hk)⟩

set_option maxHeartbeats 4000000 in
theorem all_iter (l : List Nat) (N lo hi Bn : Nat) (u : Value) (w0 : World) (hB : Boxes w0 lo hi Bn u l) (hS : Fr.Scn l N) (hl : l.length ≤ 1099511627776) :
    Iter Try.prog 115 #[.pointer (some ⟨Bn, 0, none⟩)] frEnc N (FrOk w0.heap.size l) lo hi w0 := by
  intro l' J W hK hJ hY h0
  obtain ⟨hb1, hb2, hb3, hb4, hb5, hb6⟩ := hB
  obtain ⟨_, hm, A, c, rfl, hc, _⟩ := hb5.bytes.parts
  obtain ⟨n, hn⟩ : ∃ n, l.length = n := ⟨_, rfl⟩
  have HN := Lib.hid hn
  have HB := Lib.hid hb5.bytes
  have HJ := Lib.hid hJ
  have HY := Lib.hid hY
  have HW := Lib.hid hb6
  rw [hn] at hb4 HB hc hl HW
  clear hJ hY hb5 hn hm hb6
  refine callsIn_of_wp Try.func115 rfl trivial ?_ rfl
  simp only [Try.ntmps115, List.size_toArray, List.length_cons, List.length_nil, Nat.reduceAdd, Nat.reduceSub, Array.replicate_succ, Array.replicate_zero, List.push_toArray, List.append_toArray, List.nil_append, List.cons_append]
  gi_wp2
  gi_loopw [3] (fun i wr => ∃ k : Nat, k ≤ N ∧ i = .int .i64 ((Fr.pos l k : Nat) : Int) ∧ J k wr ∧ Keeps lo hi w0 wr) (fun i _ => n - (intOf i).toNat)
  case atStart => exact ⟨0, Nat.zero_le _, rfl, h0, hK⟩
  case round =>
    obtain ⟨k, hk, rfl, hj, hkp⟩ := hrel
    have hpl := (hS.le hk).1
    rw [HN.out] at hpl
    have hcell := cell_keeps (p := ⟨Bn, 0, none⟩) hb4 hb1 hb2 hkp
    have HBr := Lib.hid (HB.out.keeps HW.out hkp)
    obtain ⟨p, hp⟩ : ∃ p, Fr.pos l k = p := ⟨_, rfl⟩
    rw [hp] at hpl ⊢
    have HP := Lib.hid hp
    clear hp
    have hpl' : (p : Int) ≤ (n : Int) := by omega
    by_cases hcp : c = p
    all_goals
      gi_wp2_with fail
      refine ⟨trivial, rfl, (callsIn_wide.2 (first_any _ (l.drop p) _ ?_ (by rw [List.length_drop, HN.out]; omega))).mono ?_⟩
      · first
        | exact Bytes.tail (n := n) (k := p) HBr.out (by omega) (by omega) (fun h => by omega)
        | exact Bytes.tail (n := n) (k := p) HBr.out (by omega) (by omega) (fun _ b' off' e => by subst e; rw [Option.map_some, add_plain])
      rintro e w1 ⟨x, rfl, hx, hbb⟩
      have HJ1 := Lib.hid (HJ.out _ _ _ hj hbb)
      have hk1 : Keeps lo hi w0 w1 := hkp.trans (Keeps.under hbb (Nat.le_trans hb3 hkp.size))
      clear hcell HBr hj hkp hbb
      rcases Nat.lt_or_ge k N with hlt | hge
      · have hw := hS.1 k hlt
        have hnx := pos_next_of hS hlt
        rw [HP.out] at hw hnx
        obtain ⟨A', c', rfl, hxb⟩ := hx hw
        have ht := (Fr.whole_iff.1 hw).2.1
        have hhl := Fr.held_length hw
        rw [hw]
        obtain ⟨T, hT⟩ : ∃ T, Fr.told (l.drop p) = T := ⟨_, rfl⟩
        rw [hT] at hxb ht hhl hnx ⊢
        rw [HN.out] at hnx
        have HX := Lib.hid hxb
        have HH := Lib.hid hhl
        have HNX := Lib.hid hnx.1
        have hn1 := hnx.2
        clear hx hxb hhl hT hw hnx
        gi_wp2_with fail
        refine ⟨trivial, rfl, (callsIn_wide.2 (clone_any _ (Fr.held (l.drop p)) _ HX.out (by rw [HH.out]; omega))).mono ?_⟩
        rintro e w2 ⟨v2, rfl, ho2, hb2'⟩
        have hj2 := HJ.out _ _ _ HJ1.out hb2'
        have hz1 : w0.heap.size ≤ w1.heap.size := hk1.size
        have hk2 : Keeps lo hi w0 w2 := hk1.trans (Keeps.under hb2' (Nat.le_trans hb3 hk1.size))
        obtain ⟨fn, tmps, assign, body, hy, hR⟩ := HY.out k ((p : Int), v2) w2 hlt hj2 ⟨by rw [HP.out], by rw [HP.out]; exact ho2.more hz1⟩
        dsimp only [frEnc] at hy
        clear ho2 hb2' hj2 HX
        gi_wp2_with fail
        refine ⟨rfl, hR.mono ?_⟩
        rintro e w3 ⟨rfl, hj3, hk3⟩
        clear hy hR
        gi_wp2
        go_roundw
        case rel =>
          refine ⟨k + 1, hlt, ?_, hj3, hk2.trans hk3⟩
          rw [HNX.out]
          congr 1
          omega
        case measure => simp [intOf]; omega
      · obtain rfl : k = N := by omega
        have hw := hS.2
        rw [HP.out] at hw
        rw [hw]
        clear hx hw
        gi_wp2
        refine ⟨trivial, ?_⟩
        gi_wp2
        refine ⟨fun _ h => (by cases h), ?_⟩
        gi_wp2
        refine bodyPost_ret (results_none rfl _ _ _) rfl ?_
        exact ⟨⟨_, rfl⟩, HJ1.out⟩
end Go.Proofs.Ytkfmjkoghfcciaa
