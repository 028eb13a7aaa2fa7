/- RecoTells: any locks and commits have the bytes that the document says, or none; any bytes are a lock, a commit, a trace, as far as it says. -/
import Derived.Test.YtkfmjkoghfcciaaRecoRw
import Derived.Test.YtkfmjkoghfcciaaRecoRefDone
namespace Go.Proofs.Ytkfmjkoghfcciaa
set_option maxRecDepth 100000
open Go.ChangeShapes Go.WideShapes Go.ChangeAt Go.RowKit

theorem lock_says (R : Option Rc.L4) : ∃ a b c d : Int, lockOf R = .tuple #[.agg #[.int .i64 a, .int .i64 b, .int .i64 c, .int .i64 d], .bool R.isSome] := by
  rcases R with _ | ⟨a, b, c, d⟩
  · exact ⟨0, 0, 0, 0, rfl⟩
  · exact ⟨a, b, c, d, rfl⟩
def dOf (R : Option Rc.D) : Rc.D := R.getD ([], [], 0, 0)
theorem OpenDIs.says {R : Option Rc.D} {w w' : World} {e : Ending} (h : OpenDIs R w e w') : Below w.heap.size w w' ∧ ∃ x, e = .returned (.tuple #[.agg #[.string (str (dOf R).1), .int .i64 ((dOf R).2.2.1 : Int), .int .i64 ((dOf R).2.2.2 : Int), x], .bool R.isSome]) ∧ Bytes w' x (dOf R).2.1 := by
  obtain ⟨hb, h⟩ := h
  rcases R with _ | ⟨t, p, a, b⟩
  · subst h
    exact ⟨hb, _, rfl, bytes_none _⟩
  · obtain ⟨x, rfl, hx⟩ := h
    exact ⟨hb, x, rfl, hx.bytes⟩
theorem dOf_lt {l : List Nat} : ∀ c ∈ (dOf (Rc.openD l)).1, c < 256 := by
  unfold Rc.openD
  split
  · rename_i h
    simp only [Bool.and_eq_true] at h
    exact openD_lt h.2
  · simp [dOf]
theorem lead_lt (L : List (List Nat)) : ∀ d ∈ Rc.lead L, ∀ c ∈ d.1, c < 256 := by
  unfold Rc.lead
  induction L with
  | nil => simp [Rc.leadBy]
  | cons x L ih =>
    rcases hx : Rc.openD x with _ | d
    · rw [Rc.leadBy_none hx]; simp
    · rw [Rc.leadBy_some hx]
      intro e he
      rcases List.mem_cons.1 he with rfl | he
      · have := dOf_lt (l := x)
        rw [hx] at this
        exact this
      · exact ih e he
theorem lead_le (L : List (List Nat)) : (Rc.lead L).length ≤ L.length := by
  unfold Rc.lead
  induction L with
  | nil => simp [Rc.leadBy]
  | cons x L ih =>
    rcases hx : Rc.openD x with _ | d
    · rw [Rc.leadBy_none hx]; simp
    · rw [Rc.leadBy_some hx]; simpa using ih
theorem setCell_typed (w : World) (g i : Nat) (u : Value) (cs : Array Value) (e : TypeId) (m : Nat × Nat) (h : w.heap[g]? = some (.cells cs e m)) : (w.setCell ⟨g, i, none⟩ u).heap[g]? = some (.cells (cs.setIfInBounds i u) e m) := by
  simp [World.setCell, Array.getElem?_modify, h]
/-- The first row's other three. -/
def XS (w : World) (base gR : Nat) : Prop := ∀ j, j < 3 → ∃ u l, w.cell? ⟨gR, 1 + j, none⟩ = some u ∧ Sh w base u l ∧ l.length ≤ 4500
theorem XS.under {w w' : World} {base gR : Nat} (h : XS w base gR) (hb : Below w.heap.size w w') : XS w' base gR := fun j hj => by
  obtain ⟨u, l, h1, h2, h3⟩ := h j hj
  exact ⟨u, l, cell_later hb h1, h2.under hb, h3⟩
theorem XS.kept {w w' : World} {base gR : Nat} (h : XS w base gR) (hR : w'.heap[gR]? = w.heap[gR]?) (hk : ∀ u l, Sh w base u l → Sh w' base u l) : XS w' base gR := fun j hj => by
  obtain ⟨u, l, h1, h2, h3⟩ := h j hj
  exact ⟨u, l, (World.cell?_of_block hR).trans h1, hk u l h2, h3⟩

set_option maxRecDepth 100000 in
set_option maxHeartbeats 16000000 in
theorem rtells_any (q1 q2 q3 q4 : Int) (ts : ByteArray) (who inc : Int) (pv v2 vb : Value) (p bb : List Nat) (l2 : List Int) (at_ : Int) (y : Nat) (w : World) (hp : Bytes w pv p) (h2 : Ints w v2 l2) (hb : Bytes w vb bb) (hy : y < 256) :
    Calls Try.prog 7 #[lockV q1 q2 q3 q4, doneV ts who inc pv, v2, vb, .int .i64 at_, .int .u8 (y : Int)] w fun e w' => e = .returned (.bool true) ∧ Below w.heap.size w w' := by
  have HP := Lib.hid hp
  have H2 := Lib.hid h2
  have HBB := Lib.hid hb
  obtain ⟨_, _, Ap, cp, rfl, hcp, _⟩ := hp.parts
  obtain ⟨_, _, Ab, cb, rfl, hcb, _⟩ := hb.parts
  obtain ⟨_, _, A2, c2, rfl, hc2, _⟩ := h2
  obtain ⟨np, hnp⟩ : ∃ n, p.length = n := ⟨_, rfl⟩
  obtain ⟨nb, hnb⟩ : ∃ n, bb.length = n := ⟨_, rfl⟩
  obtain ⟨n2, hn2⟩ : ∃ n, l2.length = n := ⟨_, rfl⟩
  rw [hnp] at HP hcp ⊢
  rw [hnb] at HBB hcb ⊢
  rw [hn2] at H2 hc2 ⊢
  have HNP := Lib.hid hnp
  have HNB := Lib.hid hnb
  have hn2m : n2 ≤ 9223372036854775807 := by
    obtain ⟨_, h, _⟩ := H2.out
    omega
  obtain ⟨t, hts⟩ : ∃ t, ts.data.toList.map (·.toNat) = t := ⟨_, rfl⟩
  have hst : ts = str t := by rw [← hts]; exact str_all ts
  have HTB : Hid (∀ c ∈ t, c < 256) := Lib.hid (by rw [← hts]; exact bytes_lt ts)
  have hsz : ts.size = t.length := by rw [hst, str_size]
  obtain ⟨nt, hnt⟩ : ∃ n, t.length = n := ⟨_, rfl⟩
  rw [hnt] at hsz
  have HNT := Lib.hid hnt
  have HST := Lib.hid hst
  clear hp hb hnp hnb hn2 hts hst hnt
  obtain ⟨PL, hPL⟩ : ∃ P, Rc.lock (Cd.held q1) (Cd.held q2) (Cd.held q3) (Cd.held q4) = P := ⟨_, rfl⟩
  obtain ⟨PD, hPD⟩ : ∃ P, Rc.done t p who inc = P := ⟨_, rfl⟩
  have HPLl : Hid (PL.length = 34) := Lib.hid (by rw [← hPL, Rc.lock_length])
  have HPDl : Hid (PD.length ≤ 4040) := Lib.hid (by rw [← hPD]; exact Rc.done_length _ _ _ _)
  have HPL := Lib.hid hPL
  have HPD := Lib.hid hPD
  clear hPL hPD
  obtain ⟨w1, hw1⟩ : ∃ w1, (w.alloc (.cells #[.int .i64 q1, .int .i64 q2, .int .i64 q3, .int .i64 q4] 66)).alloc (.cells #[.string ts, .int .i64 who, .int .i64 inc, .slice Ap np cp] 59) = w1 := ⟨_, rfl⟩
  obtain ⟨g6, hg6⟩ : ∃ g, w.heap.size = g := ⟨_, rfl⟩
  have hz1 : (w.alloc (.cells #[.int .i64 q1, .int .i64 q2, .int .i64 q3, .int .i64 q4] 66)).heap.size = g6 + 1 := by rw [← hg6]; simp
  have HB1 : Hid (Below w.heap.size w w1) := Lib.hid (by rw [← hw1]; exact ((Below.refl _ _).alloc (Nat.le_refl _) _).alloc (by simp) _)
  have HK6 : Hid (Blk w1 g6 66 #[.int .i64 q1, .int .i64 q2, .int .i64 q3, .int .i64 q4]) := Lib.hid (by rw [← hw1, ← hg6]; exact Blk.alloc (heap_alloc_new w _) _)
  have HK7 : Hid (Blk w1 (g6 + 1) 59 #[.string ts, .int .i64 who, .int .i64 inc, .slice Ap np cp]) := Lib.hid (by
    have := heap_alloc_new (w.alloc (.cells #[.int .i64 q1, .int .i64 q2, .int .i64 q3, .int .i64 q4] 66)) (.cells #[.string ts, .int .i64 who, .int .i64 inc, .slice Ap np cp] 59)
    rw [hw1, hz1] at this
    exact this)
  have HW1 := Lib.hid hw1
  have HG6 := Lib.hid hg6
  clear hw1 hg6 hz1
  have HPW : Hid (∀ W, Below w1.heap.size w1 W → Bytes W (.slice Ap np cp) p) := Lib.hid fun W hb => HP.out.under (HB1.out.trans (hb.mono HB1.out.size))
  have HK : Hid (∀ w', Below w1.heap.size w1 w' → w'.cell? ⟨g6, 0, none⟩ = some (.int .i64 q1) ∧ w'.cell? ⟨g6, 1, none⟩ = some (.int .i64 q2) ∧ w'.cell? ⟨g6, 2, none⟩ = some (.int .i64 q3) ∧ w'.cell? ⟨g6, 3, none⟩ = some (.int .i64 q4) ∧ w'.cell? ⟨g6 + 1, 0, none⟩ = some (.string ts) ∧ w'.cell? ⟨g6 + 1, 1, none⟩ = some (.int .i64 who) ∧ w'.cell? ⟨g6 + 1, 2, none⟩ = some (.int .i64 inc) ∧ w'.cell? ⟨g6 + 1, 3, none⟩ = some (.slice Ap np cp)) := Lib.hid fun W hb => by
    have k6 := HK6.out.under hb
    have k7 := HK7.out.under hb
    exact ⟨k6.at 0, k6.at 1, k6.at 2, k6.at 3, k7.at 0, k7.at 1, k7.at 2, k7.at 3⟩
  go_enter Try.func7, Try.ntmps7
  go_upto_region 1 with fail
  rw [HW1.out, HG6.out]
  clear HW1 HG6 HK6 HK7
  have k0 := HK.out w1 (Below.refl _ _)
  obtain ⟨k00, k01, k02, k03, k04, k05, k06, k07⟩ := k0
  by_cases hg1 : 300 < nb
  · have hI : (300 : Int) < (nb : Int) := by omega
    go_wp2_with fail
    refine (rawake_any _).mono ?_
    rintro e w2 ⟨rfl, hb2⟩
    go_wp2
    go_ret
    exact ⟨rfl, HB1.out.trans (hb2.mono HB1.out.size)⟩
  have hI1 : ¬ (300 : Int) < (nb : Int) := by omega
  by_cases hg2 : 50 < nt
  · have hI : (50 : Int) < (nt : Int) := by omega
    go_wp2_with fail
    refine (rawake_any _).mono ?_
    rintro e w2 ⟨rfl, hb2⟩
    go_wp2
    go_ret
    exact ⟨rfl, HB1.out.trans (hb2.mono HB1.out.size)⟩
  have hI2 : ¬ (50 : Int) < (nt : Int) := by omega
  by_cases hg3 : 300 < np
  · have hI : (300 : Int) < (np : Int) := by omega
    go_wp2_with fail
    refine (rawake_any _).mono ?_
    rintro e w2 ⟨rfl, hb2⟩
    go_wp2
    go_ret
    exact ⟨rfl, HB1.out.trans (hb2.mono HB1.out.size)⟩
  have hI3 : ¬ (300 : Int) < (np : Int) := by omega
  have C1 : Hid (∀ W, Calls Try.prog 45 #[.agg #[.int .i64 q1, .int .i64 q2, .int .i64 q3, .int .i64 q4]] W (Made W.heap.size PL W)) := Lib.hid fun W => rlock_is q1 q2 q3 q4 PL W HPL.out
  have C2 : Hid (∀ W, Calls Try.prog 48 #[.agg #[.int .i64 q1, .int .i64 q2, .int .i64 q3, .int .i64 q4]] W (Made W.heap.size PL W)) := Lib.hid fun W => reflock_is q1 q2 q3 q4 PL W HPL.out
  have C3 : Hid (∀ W, Below w1.heap.size w1 W → Calls Try.prog 42 #[.agg #[.string ts, .int .i64 who, .int .i64 inc, .slice Ap np cp]] W (Made W.heap.size PD W)) := Lib.hid fun W hb => by rw [HST.out]; exact rdone_is t p who inc _ PD W (HPW.out W hb) HTB.out (by rw [HNT.out]; omega) (by rw [HNP.out]; omega) HPD.out
  have C4 : Hid (∀ W, Below w1.heap.size w1 W → Calls Try.prog 49 #[.agg #[.string ts, .int .i64 who, .int .i64 inc, .slice Ap np cp]] W (Made W.heap.size PD W)) := Lib.hid fun W hb => by rw [HST.out]; exact refrdone_is t p who inc _ PD W (HPW.out W hb) HTB.out (by rw [HNT.out]; omega) (by rw [HNP.out]; omega) HPD.out
  have HNB3 : Hid (nb ≤ 300) := Lib.hid (by omega)
  have el : ((str PL).toList != (str PL).toList) = false := by simp
  have ed : ((str PD).toList != (str PD).toList) = false := by simp
  clear HP HPW HST HTB HNT HNP HPL HPD hcp
  go_upto_region 3 with fail
  clear k00 k01 k02 k03 k04 k05 k06 k07 hsz hg1 hg2 hg3 hI1 hI2 hI3
  go_cut [64] (fun q wx => q = .bool false ∧ Hid (Below w1.heap.size w1 wx))
  case first =>
    have k0 := HK.out w1.drew (Below.refl _ _).drew
    refine wp_region_noPanic ?_
    refine wp_region_held_drew (S := fun w' => w'.cell? ⟨g6, 0, none⟩ = some (.int .i64 q1) ∧ w'.cell? ⟨g6, 1, none⟩ = some (.int .i64 q2) ∧ w'.cell? ⟨g6, 2, none⟩ = some (.int .i64 q3) ∧ w'.cell? ⟨g6, 3, none⟩ = some (.int .i64 q4) ∧ w'.cell? ⟨g6 + 1, 0, none⟩ = some (.string ts) ∧ w'.cell? ⟨g6 + 1, 1, none⟩ = some (.int .i64 who) ∧ w'.cell? ⟨g6 + 1, 2, none⟩ = some (.int .i64 inc) ∧ w'.cell? ⟨g6 + 1, 3, none⟩ = some (.slice Ap np cp)) (by kernel_rfl) (k0) (fun hHeld => ?_)
    obtain ⟨wn0, hwn⟩ : ∃ wn, w1.drew = wn := ⟨_, rfl⟩
    have hB0 : Below w1.heap.size w1 wn0 := by rw [← hwn]; exact (Below.refl _ _).drew
    rw [hwn] at hHeld ⊢
    clear hwn
    refine takeW 0 (some 49) (oi := ?oT1) (v := ?vT1) ?hiT1 ?hdT1 (by kernel_rfl) (by kernel_rfl) (by kernel_rfl) (fun _ _ _ h => h) ?hwT1 ?hyT1 hHeld ?_
    case hiT1 => (simp only [List.getElem?_toArray, List.getElem?_cons_zero]; with_reducible rfl)
    case hdT1 => rfl
    case hwT1 => rfl
    case hyT1 => (intro w hSw; (try dsimp only at hSw); go_simp; first | done | with_reducible rfl)
    try simp only [Act.put]
    try simp only [List.setIfInBounds_toArray, List.set_cons_zero, List.set_cons_succ]
    refine takeW 3 (some 52) (oi := ?oT2) (v := ?vT2) ?hiT2 ?hdT2 (by kernel_rfl) (by kernel_rfl) (by kernel_rfl) (fun _ _ _ h => h) ?hwT2 ?hyT2 hHeld ?_
    case hiT2 => (simp only [List.getElem?_toArray, List.getElem?_cons_succ, List.getElem?_cons_zero]; with_reducible rfl)
    case hdT2 => rfl
    case hwT2 => rfl
    case hyT2 => (intro w hSw; (try dsimp only at hSw); go_simp; first | done | with_reducible rfl)
    try simp only [Act.put]
    try simp only [List.setIfInBounds_toArray, List.set_cons_zero, List.set_cons_succ]
    refine stepOne 1 (o := ?oT3) ?hiT3 (by kernel_rfl) ?hwT3 (fun K hK => ?_)
    case hiT3 => (simp only [List.getElem?_toArray, List.getElem?_cons_succ, List.getElem?_cons_zero]; with_reducible rfl)
    case hwT3 => rfl
    go_simp
    go_at_call 45
    refine (C1.out _).mono ?_
    rintro e wn1 ⟨v50, rfl, ho, hb⟩
    have hB1 := hB0.trans (hb.mono hB0.size)
    have by50 := ho.bytes
    have rt50 := run_text by50
    clear ho hb hB0
    refine hK.out _ _ ?_ (fun hHeld => ?_)
    · exact HK.out _ hB1
    clear hK K
    try simp only [Act.put]
    try simp only [List.setIfInBounds_toArray, List.set_cons_zero, List.set_cons_succ]
    refine wpAnyH_ready (rs := [2, 4]) (by kernel_rfl) (by simp) ?_
    refine stepOf 2 (o := ?oT4) ?hiT4 ?hwT4 (fun K hK => ?_) ?_
    case hiT4 => (simp only [List.getElem?_toArray, List.getElem?_cons_succ, List.getElem?_cons_zero]; with_reducible rfl)
    case hwT4 => rfl
    · skip
      go_simp
      refine hK.out _ _ ?_ (fun hHeld => ?_)
      · exact HK.out _ hB1
      clear hK K
      try simp only [Act.put]
      try simp only [List.setIfInBounds_toArray, List.set_cons_zero, List.set_cons_succ]
      refine stepOne 4 (o := ?oT5) ?hiT5 (by kernel_rfl) ?hwT5 (fun K hK => ?_)
      case hiT5 => (simp only [List.getElem?_toArray, List.getElem?_cons_succ, List.getElem?_cons_zero]; with_reducible rfl)
      case hwT5 => rfl
      go_simp
      go_at_call 48
      refine (C2.out _).mono ?_
      rintro e wn2 ⟨v53, rfl, ho, hb⟩
      have hB2 := hB1.trans (hb.mono hB1.size)
      have by53 := ho.bytes
      have rt53 := run_text by53
      clear ho hb hB1
      refine hK.out _ _ ?_ (fun hHeld => ?_)
      · exact HK.out _ hB2
      clear hK K
      try simp only [Act.put]
      try simp only [List.setIfInBounds_toArray, List.set_cons_zero, List.set_cons_succ]
      refine stepOne 5 (o := ?oT6) ?hiT6 (by kernel_rfl) ?hwT6 (fun K hK => ?_)
      case hiT6 => (simp only [List.getElem?_toArray, List.getElem?_cons_succ, List.getElem?_cons_zero]; with_reducible rfl)
      case hwT6 => rfl
      go_simp
      refine hK.out _ _ ?_ (fun hHeld => ?_)
      · exact HK.out _ hB2
      clear hK K
      try simp only [Act.put]
      try simp only [List.setIfInBounds_toArray, List.set_cons_zero, List.set_cons_succ]
      refine takeW 6 (some 55) (oi := ?oT7) (v := ?vT7) ?hiT7 ?hdT7 (by kernel_rfl) (by kernel_rfl) (by kernel_rfl) (fun _ _ _ h => h) ?hwT7 ?hyT7 hHeld ?_
      case hiT7 => (simp only [List.getElem?_toArray, List.getElem?_cons_succ, List.getElem?_cons_zero]; with_reducible rfl)
      case hdT7 => rfl
      case hwT7 => rfl
      case hyT7 => (intro w hSw; (try dsimp only at hSw); go_simp; first | done | with_reducible rfl)
      try simp only [Act.put]
      try simp only [List.setIfInBounds_toArray, List.set_cons_zero, List.set_cons_succ]
      refine takeW 7 (some 56) (oi := ?oT8) (v := ?vT8) ?hiT8 ?hdT8 (by kernel_rfl) (by kernel_rfl) (by kernel_rfl) (fun _ _ _ h => h) ?hwT8 ?hyT8 hHeld ?_
      case hiT8 => (simp only [List.getElem?_toArray, List.getElem?_cons_succ, List.getElem?_cons_zero]; with_reducible rfl)
      case hdT8 => rfl
      case hwT8 => rfl
      case hyT8 => (intro w hSw; (try dsimp only at hSw); go_simp; first | done | with_reducible rfl)
      try simp only [Act.put]
      try simp only [List.setIfInBounds_toArray, List.set_cons_zero, List.set_cons_succ]
      refine takeW 8 (some 57) (oi := ?oT9) (v := ?vT9) ?hiT9 ?hdT9 (by kernel_rfl) (by kernel_rfl) (by kernel_rfl) (fun _ _ _ h => h) ?hwT9 ?hyT9 hHeld ?_
      case hiT9 => (simp only [List.getElem?_toArray, List.getElem?_cons_succ, List.getElem?_cons_zero]; with_reducible rfl)
      case hdT9 => rfl
      case hwT9 => rfl
      case hyT9 => (intro w hSw; (try dsimp only at hSw); go_simp; first | done | with_reducible rfl)
      try simp only [Act.put]
      try simp only [List.setIfInBounds_toArray, List.set_cons_zero, List.set_cons_succ]
      refine takeW 11 (some 60) (oi := ?oT10) (v := ?vT10) ?hiT10 ?hdT10 (by kernel_rfl) (by kernel_rfl) (by kernel_rfl) (fun _ _ _ h => h) ?hwT10 ?hyT10 hHeld ?_
      case hiT10 => (simp only [List.getElem?_toArray, List.getElem?_cons_succ, List.getElem?_cons_zero]; with_reducible rfl)
      case hdT10 => rfl
      case hwT10 => rfl
      case hyT10 => (intro w hSw; (try dsimp only at hSw); go_simp; first | done | with_reducible rfl)
      try simp only [Act.put]
      try simp only [List.setIfInBounds_toArray, List.set_cons_zero, List.set_cons_succ]
      refine stepOne 9 (o := ?oT11) ?hiT11 (by kernel_rfl) ?hwT11 (fun K hK => ?_)
      case hiT11 => (simp only [List.getElem?_toArray, List.getElem?_cons_succ, List.getElem?_cons_zero]; with_reducible rfl)
      case hwT11 => rfl
      go_simp
      go_at_call 42
      refine (C3.out _ hB2).mono ?_
      rintro e wn3 ⟨v58, rfl, ho, hb⟩
      have hB3 := hB2.trans (hb.mono hB2.size)
      have by58 := ho.bytes
      have rt58 := run_text by58
      clear ho hb hB2
      refine hK.out _ _ ?_ (fun hHeld => ?_)
      · exact HK.out _ hB3
      clear hK K
      try simp only [Act.put]
      try simp only [List.setIfInBounds_toArray, List.set_cons_zero, List.set_cons_succ]
      refine wpAnyH_ready (rs := [10, 12]) (by kernel_rfl) (by simp) ?_
      refine stepOf 10 (o := ?oT12) ?hiT12 ?hwT12 (fun K hK => ?_) ?_
      case hiT12 => (simp only [List.getElem?_toArray, List.getElem?_cons_succ, List.getElem?_cons_zero]; with_reducible rfl)
      case hwT12 => rfl
      · skip
        go_simp
        refine hK.out _ _ ?_ (fun hHeld => ?_)
        · exact HK.out _ hB3
        clear hK K
        try simp only [Act.put]
        try simp only [List.setIfInBounds_toArray, List.set_cons_zero, List.set_cons_succ]
        refine stepOne 12 (o := ?oT13) ?hiT13 (by kernel_rfl) ?hwT13 (fun K hK => ?_)
        case hiT13 => (simp only [List.getElem?_toArray, List.getElem?_cons_succ, List.getElem?_cons_zero]; with_reducible rfl)
        case hwT13 => rfl
        go_simp
        go_at_call 49
        refine (C4.out _ hB3).mono ?_
        rintro e wn4 ⟨v61, rfl, ho, hb⟩
        have hB4 := hB3.trans (hb.mono hB3.size)
        have by61 := ho.bytes
        have rt61 := run_text by61
        clear ho hb hB3
        refine hK.out _ _ ?_ (fun hHeld => ?_)
        · exact HK.out _ hB4
        clear hK K
        try simp only [Act.put]
        try simp only [List.setIfInBounds_toArray, List.set_cons_zero, List.set_cons_succ]
        refine stepOne 13 (o := ?oT14) ?hiT14 (by kernel_rfl) ?hwT14 (fun K hK => ?_)
        case hiT14 => (simp only [List.getElem?_toArray, List.getElem?_cons_succ, List.getElem?_cons_zero]; with_reducible rfl)
        case hwT14 => rfl
        go_simp
        refine hK.out _ _ ?_ (fun hHeld => ?_)
        · exact HK.out _ hB4
        clear hK K
        try simp only [Act.put]
        try simp only [List.setIfInBounds_toArray, List.set_cons_zero, List.set_cons_succ]
        refine takeW 14 (some 63) (oi := ?oT15) (v := ?vT15) ?hiT15 ?hdT15 (by kernel_rfl) (by kernel_rfl) (by kernel_rfl) (fun _ _ _ h => h) ?hwT15 ?hyT15 hHeld ?_
        case hiT15 => (simp only [List.getElem?_toArray, List.getElem?_cons_succ, List.getElem?_cons_zero]; with_reducible rfl)
        case hdT15 => rfl
        case hwT15 => rfl
        case hyT15 => (intro w hSw; (try dsimp only at hSw); go_simp; first | done | with_reducible rfl)
        try simp only [Act.put]
        try simp only [List.setIfInBounds_toArray, List.set_cons_zero, List.set_cons_succ]
        refine takeW 15 (some 64) (oi := ?oT16) (v := ?vT16) ?hiT16 ?hdT16 (by kernel_rfl) (by kernel_rfl) (by kernel_rfl) (fun _ _ _ h => h) ?hwT16 ?hyT16 hHeld ?_
        case hiT16 => (simp only [List.getElem?_toArray, List.getElem?_cons_succ, List.getElem?_cons_zero]; with_reducible rfl)
        case hdT16 => rfl
        case hwT16 => rfl
        case hyT16 => (intro w hSw; (try dsimp only at hSw); go_simp; first | done | with_reducible rfl)
        try simp only [Act.put]
        try simp only [List.setIfInBounds_toArray, List.set_cons_zero, List.set_cons_succ]
        refine wpAnyH_done (by kernel_rfl) ?_ _
        refine NoPanic.normal ?_
        go_wp2
        go_meet
        exact ⟨rfl, Lib.hid hB4⟩
      refine stepOf 12 (o := ?oT17) ?hiT17 ?hwT17 (fun K hK => ?_) AllReadyH.nil
      case hiT17 => (simp only [List.getElem?_toArray, List.getElem?_cons_succ, List.getElem?_cons_zero]; with_reducible rfl)
      case hwT17 => rfl
      go_simp
      go_at_call 49
      refine (C4.out _ hB3).mono ?_
      rintro e wn4 ⟨v61, rfl, ho, hb⟩
      have hB4 := hB3.trans (hb.mono hB3.size)
      have by61 := ho.bytes
      replace by58 := by58.under hb
      clear rt58
      have rt58 := run_text by58
      have rt61 := run_text by61
      clear ho hb hB3
      refine hK.out _ _ ?_ (fun hHeld => ?_)
      · exact HK.out _ hB4
      clear hK K
      try simp only [Act.put]
      try simp only [List.setIfInBounds_toArray, List.set_cons_zero, List.set_cons_succ]
      refine wpAnyH_ready (rs := [10, 13]) (by kernel_rfl) (by simp) ?_
      refine stepOf 10 (o := ?oT18) ?hiT18 ?hwT18 (fun K hK => ?_) ?_
      case hiT18 => (simp only [List.getElem?_toArray, List.getElem?_cons_succ, List.getElem?_cons_zero]; with_reducible rfl)
      case hwT18 => rfl
      · skip
        go_simp
        refine hK.out _ _ ?_ (fun hHeld => ?_)
        · exact HK.out _ hB4
        clear hK K
        try simp only [Act.put]
        try simp only [List.setIfInBounds_toArray, List.set_cons_zero, List.set_cons_succ]
        refine stepOne 13 (o := ?oT19) ?hiT19 (by kernel_rfl) ?hwT19 (fun K hK => ?_)
        case hiT19 => (simp only [List.getElem?_toArray, List.getElem?_cons_succ, List.getElem?_cons_zero]; with_reducible rfl)
        case hwT19 => rfl
        go_simp
        refine hK.out _ _ ?_ (fun hHeld => ?_)
        · exact HK.out _ hB4
        clear hK K
        try simp only [Act.put]
        try simp only [List.setIfInBounds_toArray, List.set_cons_zero, List.set_cons_succ]
        refine takeW 14 (some 63) (oi := ?oT20) (v := ?vT20) ?hiT20 ?hdT20 (by kernel_rfl) (by kernel_rfl) (by kernel_rfl) (fun _ _ _ h => h) ?hwT20 ?hyT20 hHeld ?_
        case hiT20 => (simp only [List.getElem?_toArray, List.getElem?_cons_succ, List.getElem?_cons_zero]; with_reducible rfl)
        case hdT20 => rfl
        case hwT20 => rfl
        case hyT20 => (intro w hSw; (try dsimp only at hSw); go_simp; first | done | with_reducible rfl)
        try simp only [Act.put]
        try simp only [List.setIfInBounds_toArray, List.set_cons_zero, List.set_cons_succ]
        refine takeW 15 (some 64) (oi := ?oT21) (v := ?vT21) ?hiT21 ?hdT21 (by kernel_rfl) (by kernel_rfl) (by kernel_rfl) (fun _ _ _ h => h) ?hwT21 ?hyT21 hHeld ?_
        case hiT21 => (simp only [List.getElem?_toArray, List.getElem?_cons_succ, List.getElem?_cons_zero]; with_reducible rfl)
        case hdT21 => rfl
        case hwT21 => rfl
        case hyT21 => (intro w hSw; (try dsimp only at hSw); go_simp; first | done | with_reducible rfl)
        try simp only [Act.put]
        try simp only [List.setIfInBounds_toArray, List.set_cons_zero, List.set_cons_succ]
        refine wpAnyH_done (by kernel_rfl) ?_ _
        refine NoPanic.normal ?_
        go_wp2
        go_meet
        exact ⟨rfl, Lib.hid hB4⟩
      refine stepOf 13 (o := ?oT22) ?hiT22 ?hwT22 (fun K hK => ?_) AllReadyH.nil
      case hiT22 => (simp only [List.getElem?_toArray, List.getElem?_cons_succ, List.getElem?_cons_zero]; with_reducible rfl)
      case hwT22 => rfl
      go_simp
      refine hK.out _ _ ?_ (fun hHeld => ?_)
      · exact HK.out _ hB4
      clear hK K
      try simp only [Act.put]
      try simp only [List.setIfInBounds_toArray, List.set_cons_zero, List.set_cons_succ]
      refine stepOne 10 (o := ?oT23) ?hiT23 (by kernel_rfl) ?hwT23 (fun K hK => ?_)
      case hiT23 => (simp only [List.getElem?_toArray, List.getElem?_cons_succ, List.getElem?_cons_zero]; with_reducible rfl)
      case hwT23 => rfl
      go_simp
      refine hK.out _ _ ?_ (fun hHeld => ?_)
      · exact HK.out _ hB4
      clear hK K
      try simp only [Act.put]
      try simp only [List.setIfInBounds_toArray, List.set_cons_zero, List.set_cons_succ]
      refine takeW 14 (some 63) (oi := ?oT24) (v := ?vT24) ?hiT24 ?hdT24 (by kernel_rfl) (by kernel_rfl) (by kernel_rfl) (fun _ _ _ h => h) ?hwT24 ?hyT24 hHeld ?_
      case hiT24 => (simp only [List.getElem?_toArray, List.getElem?_cons_succ, List.getElem?_cons_zero]; with_reducible rfl)
      case hdT24 => rfl
      case hwT24 => rfl
      case hyT24 => (intro w hSw; (try dsimp only at hSw); go_simp; first | done | with_reducible rfl)
      try simp only [Act.put]
      try simp only [List.setIfInBounds_toArray, List.set_cons_zero, List.set_cons_succ]
      refine takeW 15 (some 64) (oi := ?oT25) (v := ?vT25) ?hiT25 ?hdT25 (by kernel_rfl) (by kernel_rfl) (by kernel_rfl) (fun _ _ _ h => h) ?hwT25 ?hyT25 hHeld ?_
      case hiT25 => (simp only [List.getElem?_toArray, List.getElem?_cons_succ, List.getElem?_cons_zero]; with_reducible rfl)
      case hdT25 => rfl
      case hwT25 => rfl
      case hyT25 => (intro w hSw; (try dsimp only at hSw); go_simp; first | done | with_reducible rfl)
      try simp only [Act.put]
      try simp only [List.setIfInBounds_toArray, List.set_cons_zero, List.set_cons_succ]
      refine wpAnyH_done (by kernel_rfl) ?_ _
      refine NoPanic.normal ?_
      go_wp2
      go_meet
      exact ⟨rfl, Lib.hid hB4⟩
    refine stepOf 4 (o := ?oT26) ?hiT26 ?hwT26 (fun K hK => ?_) AllReadyH.nil
    case hiT26 => (simp only [List.getElem?_toArray, List.getElem?_cons_succ, List.getElem?_cons_zero]; with_reducible rfl)
    case hwT26 => rfl
    go_simp
    go_at_call 48
    refine (C2.out _).mono ?_
    rintro e wn2 ⟨v53, rfl, ho, hb⟩
    have hB2 := hB1.trans (hb.mono hB1.size)
    have by53 := ho.bytes
    replace by50 := by50.under hb
    clear rt50
    have rt50 := run_text by50
    have rt53 := run_text by53
    clear ho hb hB1
    refine hK.out _ _ ?_ (fun hHeld => ?_)
    · exact HK.out _ hB2
    clear hK K
    try simp only [Act.put]
    try simp only [List.setIfInBounds_toArray, List.set_cons_zero, List.set_cons_succ]
    refine wpAnyH_ready (rs := [2, 5]) (by kernel_rfl) (by simp) ?_
    refine stepOf 2 (o := ?oT27) ?hiT27 ?hwT27 (fun K hK => ?_) ?_
    case hiT27 => (simp only [List.getElem?_toArray, List.getElem?_cons_succ, List.getElem?_cons_zero]; with_reducible rfl)
    case hwT27 => rfl
    · skip
      go_simp
      refine hK.out _ _ ?_ (fun hHeld => ?_)
      · exact HK.out _ hB2
      clear hK K
      try simp only [Act.put]
      try simp only [List.setIfInBounds_toArray, List.set_cons_zero, List.set_cons_succ]
      refine stepOne 5 (o := ?oT28) ?hiT28 (by kernel_rfl) ?hwT28 (fun K hK => ?_)
      case hiT28 => (simp only [List.getElem?_toArray, List.getElem?_cons_succ, List.getElem?_cons_zero]; with_reducible rfl)
      case hwT28 => rfl
      go_simp
      refine hK.out _ _ ?_ (fun hHeld => ?_)
      · exact HK.out _ hB2
      clear hK K
      try simp only [Act.put]
      try simp only [List.setIfInBounds_toArray, List.set_cons_zero, List.set_cons_succ]
      refine takeW 6 (some 55) (oi := ?oT29) (v := ?vT29) ?hiT29 ?hdT29 (by kernel_rfl) (by kernel_rfl) (by kernel_rfl) (fun _ _ _ h => h) ?hwT29 ?hyT29 hHeld ?_
      case hiT29 => (simp only [List.getElem?_toArray, List.getElem?_cons_succ, List.getElem?_cons_zero]; with_reducible rfl)
      case hdT29 => rfl
      case hwT29 => rfl
      case hyT29 => (intro w hSw; (try dsimp only at hSw); go_simp; first | done | with_reducible rfl)
      try simp only [Act.put]
      try simp only [List.setIfInBounds_toArray, List.set_cons_zero, List.set_cons_succ]
      refine takeW 7 (some 56) (oi := ?oT30) (v := ?vT30) ?hiT30 ?hdT30 (by kernel_rfl) (by kernel_rfl) (by kernel_rfl) (fun _ _ _ h => h) ?hwT30 ?hyT30 hHeld ?_
      case hiT30 => (simp only [List.getElem?_toArray, List.getElem?_cons_succ, List.getElem?_cons_zero]; with_reducible rfl)
      case hdT30 => rfl
      case hwT30 => rfl
      case hyT30 => (intro w hSw; (try dsimp only at hSw); go_simp; first | done | with_reducible rfl)
      try simp only [Act.put]
      try simp only [List.setIfInBounds_toArray, List.set_cons_zero, List.set_cons_succ]
      refine takeW 8 (some 57) (oi := ?oT31) (v := ?vT31) ?hiT31 ?hdT31 (by kernel_rfl) (by kernel_rfl) (by kernel_rfl) (fun _ _ _ h => h) ?hwT31 ?hyT31 hHeld ?_
      case hiT31 => (simp only [List.getElem?_toArray, List.getElem?_cons_succ, List.getElem?_cons_zero]; with_reducible rfl)
      case hdT31 => rfl
      case hwT31 => rfl
      case hyT31 => (intro w hSw; (try dsimp only at hSw); go_simp; first | done | with_reducible rfl)
      try simp only [Act.put]
      try simp only [List.setIfInBounds_toArray, List.set_cons_zero, List.set_cons_succ]
      refine takeW 11 (some 60) (oi := ?oT32) (v := ?vT32) ?hiT32 ?hdT32 (by kernel_rfl) (by kernel_rfl) (by kernel_rfl) (fun _ _ _ h => h) ?hwT32 ?hyT32 hHeld ?_
      case hiT32 => (simp only [List.getElem?_toArray, List.getElem?_cons_succ, List.getElem?_cons_zero]; with_reducible rfl)
      case hdT32 => rfl
      case hwT32 => rfl
      case hyT32 => (intro w hSw; (try dsimp only at hSw); go_simp; first | done | with_reducible rfl)
      try simp only [Act.put]
      try simp only [List.setIfInBounds_toArray, List.set_cons_zero, List.set_cons_succ]
      refine stepOne 9 (o := ?oT33) ?hiT33 (by kernel_rfl) ?hwT33 (fun K hK => ?_)
      case hiT33 => (simp only [List.getElem?_toArray, List.getElem?_cons_succ, List.getElem?_cons_zero]; with_reducible rfl)
      case hwT33 => rfl
      go_simp
      go_at_call 42
      refine (C3.out _ hB2).mono ?_
      rintro e wn3 ⟨v58, rfl, ho, hb⟩
      have hB3 := hB2.trans (hb.mono hB2.size)
      have by58 := ho.bytes
      have rt58 := run_text by58
      clear ho hb hB2
      refine hK.out _ _ ?_ (fun hHeld => ?_)
      · exact HK.out _ hB3
      clear hK K
      try simp only [Act.put]
      try simp only [List.setIfInBounds_toArray, List.set_cons_zero, List.set_cons_succ]
      refine wpAnyH_ready (rs := [10, 12]) (by kernel_rfl) (by simp) ?_
      refine stepOf 10 (o := ?oT34) ?hiT34 ?hwT34 (fun K hK => ?_) ?_
      case hiT34 => (simp only [List.getElem?_toArray, List.getElem?_cons_succ, List.getElem?_cons_zero]; with_reducible rfl)
      case hwT34 => rfl
      · skip
        go_simp
        refine hK.out _ _ ?_ (fun hHeld => ?_)
        · exact HK.out _ hB3
        clear hK K
        try simp only [Act.put]
        try simp only [List.setIfInBounds_toArray, List.set_cons_zero, List.set_cons_succ]
        refine stepOne 12 (o := ?oT35) ?hiT35 (by kernel_rfl) ?hwT35 (fun K hK => ?_)
        case hiT35 => (simp only [List.getElem?_toArray, List.getElem?_cons_succ, List.getElem?_cons_zero]; with_reducible rfl)
        case hwT35 => rfl
        go_simp
        go_at_call 49
        refine (C4.out _ hB3).mono ?_
        rintro e wn4 ⟨v61, rfl, ho, hb⟩
        have hB4 := hB3.trans (hb.mono hB3.size)
        have by61 := ho.bytes
        have rt61 := run_text by61
        clear ho hb hB3
        refine hK.out _ _ ?_ (fun hHeld => ?_)
        · exact HK.out _ hB4
        clear hK K
        try simp only [Act.put]
        try simp only [List.setIfInBounds_toArray, List.set_cons_zero, List.set_cons_succ]
        refine stepOne 13 (o := ?oT36) ?hiT36 (by kernel_rfl) ?hwT36 (fun K hK => ?_)
        case hiT36 => (simp only [List.getElem?_toArray, List.getElem?_cons_succ, List.getElem?_cons_zero]; with_reducible rfl)
        case hwT36 => rfl
        go_simp
        refine hK.out _ _ ?_ (fun hHeld => ?_)
        · exact HK.out _ hB4
        clear hK K
        try simp only [Act.put]
        try simp only [List.setIfInBounds_toArray, List.set_cons_zero, List.set_cons_succ]
        refine takeW 14 (some 63) (oi := ?oT37) (v := ?vT37) ?hiT37 ?hdT37 (by kernel_rfl) (by kernel_rfl) (by kernel_rfl) (fun _ _ _ h => h) ?hwT37 ?hyT37 hHeld ?_
        case hiT37 => (simp only [List.getElem?_toArray, List.getElem?_cons_succ, List.getElem?_cons_zero]; with_reducible rfl)
        case hdT37 => rfl
        case hwT37 => rfl
        case hyT37 => (intro w hSw; (try dsimp only at hSw); go_simp; first | done | with_reducible rfl)
        try simp only [Act.put]
        try simp only [List.setIfInBounds_toArray, List.set_cons_zero, List.set_cons_succ]
        refine takeW 15 (some 64) (oi := ?oT38) (v := ?vT38) ?hiT38 ?hdT38 (by kernel_rfl) (by kernel_rfl) (by kernel_rfl) (fun _ _ _ h => h) ?hwT38 ?hyT38 hHeld ?_
        case hiT38 => (simp only [List.getElem?_toArray, List.getElem?_cons_succ, List.getElem?_cons_zero]; with_reducible rfl)
        case hdT38 => rfl
        case hwT38 => rfl
        case hyT38 => (intro w hSw; (try dsimp only at hSw); go_simp; first | done | with_reducible rfl)
        try simp only [Act.put]
        try simp only [List.setIfInBounds_toArray, List.set_cons_zero, List.set_cons_succ]
        refine wpAnyH_done (by kernel_rfl) ?_ _
        refine NoPanic.normal ?_
        go_wp2
        go_meet
        exact ⟨rfl, Lib.hid hB4⟩
      refine stepOf 12 (o := ?oT39) ?hiT39 ?hwT39 (fun K hK => ?_) AllReadyH.nil
      case hiT39 => (simp only [List.getElem?_toArray, List.getElem?_cons_succ, List.getElem?_cons_zero]; with_reducible rfl)
      case hwT39 => rfl
      go_simp
      go_at_call 49
      refine (C4.out _ hB3).mono ?_
      rintro e wn4 ⟨v61, rfl, ho, hb⟩
      have hB4 := hB3.trans (hb.mono hB3.size)
      have by61 := ho.bytes
      replace by58 := by58.under hb
      clear rt58
      have rt58 := run_text by58
      have rt61 := run_text by61
      clear ho hb hB3
      refine hK.out _ _ ?_ (fun hHeld => ?_)
      · exact HK.out _ hB4
      clear hK K
      try simp only [Act.put]
      try simp only [List.setIfInBounds_toArray, List.set_cons_zero, List.set_cons_succ]
      refine wpAnyH_ready (rs := [10, 13]) (by kernel_rfl) (by simp) ?_
      refine stepOf 10 (o := ?oT40) ?hiT40 ?hwT40 (fun K hK => ?_) ?_
      case hiT40 => (simp only [List.getElem?_toArray, List.getElem?_cons_succ, List.getElem?_cons_zero]; with_reducible rfl)
      case hwT40 => rfl
      · skip
        go_simp
        refine hK.out _ _ ?_ (fun hHeld => ?_)
        · exact HK.out _ hB4
        clear hK K
        try simp only [Act.put]
        try simp only [List.setIfInBounds_toArray, List.set_cons_zero, List.set_cons_succ]
        refine stepOne 13 (o := ?oT41) ?hiT41 (by kernel_rfl) ?hwT41 (fun K hK => ?_)
        case hiT41 => (simp only [List.getElem?_toArray, List.getElem?_cons_succ, List.getElem?_cons_zero]; with_reducible rfl)
        case hwT41 => rfl
        go_simp
        refine hK.out _ _ ?_ (fun hHeld => ?_)
        · exact HK.out _ hB4
        clear hK K
        try simp only [Act.put]
        try simp only [List.setIfInBounds_toArray, List.set_cons_zero, List.set_cons_succ]
        refine takeW 14 (some 63) (oi := ?oT42) (v := ?vT42) ?hiT42 ?hdT42 (by kernel_rfl) (by kernel_rfl) (by kernel_rfl) (fun _ _ _ h => h) ?hwT42 ?hyT42 hHeld ?_
        case hiT42 => (simp only [List.getElem?_toArray, List.getElem?_cons_succ, List.getElem?_cons_zero]; with_reducible rfl)
        case hdT42 => rfl
        case hwT42 => rfl
        case hyT42 => (intro w hSw; (try dsimp only at hSw); go_simp; first | done | with_reducible rfl)
        try simp only [Act.put]
        try simp only [List.setIfInBounds_toArray, List.set_cons_zero, List.set_cons_succ]
        refine takeW 15 (some 64) (oi := ?oT43) (v := ?vT43) ?hiT43 ?hdT43 (by kernel_rfl) (by kernel_rfl) (by kernel_rfl) (fun _ _ _ h => h) ?hwT43 ?hyT43 hHeld ?_
        case hiT43 => (simp only [List.getElem?_toArray, List.getElem?_cons_succ, List.getElem?_cons_zero]; with_reducible rfl)
        case hdT43 => rfl
        case hwT43 => rfl
        case hyT43 => (intro w hSw; (try dsimp only at hSw); go_simp; first | done | with_reducible rfl)
        try simp only [Act.put]
        try simp only [List.setIfInBounds_toArray, List.set_cons_zero, List.set_cons_succ]
        refine wpAnyH_done (by kernel_rfl) ?_ _
        refine NoPanic.normal ?_
        go_wp2
        go_meet
        exact ⟨rfl, Lib.hid hB4⟩
      refine stepOf 13 (o := ?oT44) ?hiT44 ?hwT44 (fun K hK => ?_) AllReadyH.nil
      case hiT44 => (simp only [List.getElem?_toArray, List.getElem?_cons_succ, List.getElem?_cons_zero]; with_reducible rfl)
      case hwT44 => rfl
      go_simp
      refine hK.out _ _ ?_ (fun hHeld => ?_)
      · exact HK.out _ hB4
      clear hK K
      try simp only [Act.put]
      try simp only [List.setIfInBounds_toArray, List.set_cons_zero, List.set_cons_succ]
      refine stepOne 10 (o := ?oT45) ?hiT45 (by kernel_rfl) ?hwT45 (fun K hK => ?_)
      case hiT45 => (simp only [List.getElem?_toArray, List.getElem?_cons_succ, List.getElem?_cons_zero]; with_reducible rfl)
      case hwT45 => rfl
      go_simp
      refine hK.out _ _ ?_ (fun hHeld => ?_)
      · exact HK.out _ hB4
      clear hK K
      try simp only [Act.put]
      try simp only [List.setIfInBounds_toArray, List.set_cons_zero, List.set_cons_succ]
      refine takeW 14 (some 63) (oi := ?oT46) (v := ?vT46) ?hiT46 ?hdT46 (by kernel_rfl) (by kernel_rfl) (by kernel_rfl) (fun _ _ _ h => h) ?hwT46 ?hyT46 hHeld ?_
      case hiT46 => (simp only [List.getElem?_toArray, List.getElem?_cons_succ, List.getElem?_cons_zero]; with_reducible rfl)
      case hdT46 => rfl
      case hwT46 => rfl
      case hyT46 => (intro w hSw; (try dsimp only at hSw); go_simp; first | done | with_reducible rfl)
      try simp only [Act.put]
      try simp only [List.setIfInBounds_toArray, List.set_cons_zero, List.set_cons_succ]
      refine takeW 15 (some 64) (oi := ?oT47) (v := ?vT47) ?hiT47 ?hdT47 (by kernel_rfl) (by kernel_rfl) (by kernel_rfl) (fun _ _ _ h => h) ?hwT47 ?hyT47 hHeld ?_
      case hiT47 => (simp only [List.getElem?_toArray, List.getElem?_cons_succ, List.getElem?_cons_zero]; with_reducible rfl)
      case hdT47 => rfl
      case hwT47 => rfl
      case hyT47 => (intro w hSw; (try dsimp only at hSw); go_simp; first | done | with_reducible rfl)
      try simp only [Act.put]
      try simp only [List.setIfInBounds_toArray, List.set_cons_zero, List.set_cons_succ]
      refine wpAnyH_done (by kernel_rfl) ?_ _
      refine NoPanic.normal ?_
      go_wp2
      go_meet
      exact ⟨rfl, Lib.hid hB4⟩
    refine stepOf 5 (o := ?oT48) ?hiT48 ?hwT48 (fun K hK => ?_) AllReadyH.nil
    case hiT48 => (simp only [List.getElem?_toArray, List.getElem?_cons_succ, List.getElem?_cons_zero]; with_reducible rfl)
    case hwT48 => rfl
    go_simp
    refine hK.out _ _ ?_ (fun hHeld => ?_)
    · exact HK.out _ hB2
    clear hK K
    try simp only [Act.put]
    try simp only [List.setIfInBounds_toArray, List.set_cons_zero, List.set_cons_succ]
    refine stepOne 2 (o := ?oT49) ?hiT49 (by kernel_rfl) ?hwT49 (fun K hK => ?_)
    case hiT49 => (simp only [List.getElem?_toArray, List.getElem?_cons_succ, List.getElem?_cons_zero]; with_reducible rfl)
    case hwT49 => rfl
    go_simp
    refine hK.out _ _ ?_ (fun hHeld => ?_)
    · exact HK.out _ hB2
    clear hK K
    try simp only [Act.put]
    try simp only [List.setIfInBounds_toArray, List.set_cons_zero, List.set_cons_succ]
    refine takeW 6 (some 55) (oi := ?oT50) (v := ?vT50) ?hiT50 ?hdT50 (by kernel_rfl) (by kernel_rfl) (by kernel_rfl) (fun _ _ _ h => h) ?hwT50 ?hyT50 hHeld ?_
    case hiT50 => (simp only [List.getElem?_toArray, List.getElem?_cons_succ, List.getElem?_cons_zero]; with_reducible rfl)
    case hdT50 => rfl
    case hwT50 => rfl
    case hyT50 => (intro w hSw; (try dsimp only at hSw); go_simp; first | done | with_reducible rfl)
    try simp only [Act.put]
    try simp only [List.setIfInBounds_toArray, List.set_cons_zero, List.set_cons_succ]
    refine takeW 7 (some 56) (oi := ?oT51) (v := ?vT51) ?hiT51 ?hdT51 (by kernel_rfl) (by kernel_rfl) (by kernel_rfl) (fun _ _ _ h => h) ?hwT51 ?hyT51 hHeld ?_
    case hiT51 => (simp only [List.getElem?_toArray, List.getElem?_cons_succ, List.getElem?_cons_zero]; with_reducible rfl)
    case hdT51 => rfl
    case hwT51 => rfl
    case hyT51 => (intro w hSw; (try dsimp only at hSw); go_simp; first | done | with_reducible rfl)
    try simp only [Act.put]
    try simp only [List.setIfInBounds_toArray, List.set_cons_zero, List.set_cons_succ]
    refine takeW 8 (some 57) (oi := ?oT52) (v := ?vT52) ?hiT52 ?hdT52 (by kernel_rfl) (by kernel_rfl) (by kernel_rfl) (fun _ _ _ h => h) ?hwT52 ?hyT52 hHeld ?_
    case hiT52 => (simp only [List.getElem?_toArray, List.getElem?_cons_succ, List.getElem?_cons_zero]; with_reducible rfl)
    case hdT52 => rfl
    case hwT52 => rfl
    case hyT52 => (intro w hSw; (try dsimp only at hSw); go_simp; first | done | with_reducible rfl)
    try simp only [Act.put]
    try simp only [List.setIfInBounds_toArray, List.set_cons_zero, List.set_cons_succ]
    refine takeW 11 (some 60) (oi := ?oT53) (v := ?vT53) ?hiT53 ?hdT53 (by kernel_rfl) (by kernel_rfl) (by kernel_rfl) (fun _ _ _ h => h) ?hwT53 ?hyT53 hHeld ?_
    case hiT53 => (simp only [List.getElem?_toArray, List.getElem?_cons_succ, List.getElem?_cons_zero]; with_reducible rfl)
    case hdT53 => rfl
    case hwT53 => rfl
    case hyT53 => (intro w hSw; (try dsimp only at hSw); go_simp; first | done | with_reducible rfl)
    try simp only [Act.put]
    try simp only [List.setIfInBounds_toArray, List.set_cons_zero, List.set_cons_succ]
    refine stepOne 9 (o := ?oT54) ?hiT54 (by kernel_rfl) ?hwT54 (fun K hK => ?_)
    case hiT54 => (simp only [List.getElem?_toArray, List.getElem?_cons_succ, List.getElem?_cons_zero]; with_reducible rfl)
    case hwT54 => rfl
    go_simp
    go_at_call 42
    refine (C3.out _ hB2).mono ?_
    rintro e wn3 ⟨v58, rfl, ho, hb⟩
    have hB3 := hB2.trans (hb.mono hB2.size)
    have by58 := ho.bytes
    have rt58 := run_text by58
    clear ho hb hB2
    refine hK.out _ _ ?_ (fun hHeld => ?_)
    · exact HK.out _ hB3
    clear hK K
    try simp only [Act.put]
    try simp only [List.setIfInBounds_toArray, List.set_cons_zero, List.set_cons_succ]
    refine wpAnyH_ready (rs := [10, 12]) (by kernel_rfl) (by simp) ?_
    refine stepOf 10 (o := ?oT55) ?hiT55 ?hwT55 (fun K hK => ?_) ?_
    case hiT55 => (simp only [List.getElem?_toArray, List.getElem?_cons_succ, List.getElem?_cons_zero]; with_reducible rfl)
    case hwT55 => rfl
    · skip
      go_simp
      refine hK.out _ _ ?_ (fun hHeld => ?_)
      · exact HK.out _ hB3
      clear hK K
      try simp only [Act.put]
      try simp only [List.setIfInBounds_toArray, List.set_cons_zero, List.set_cons_succ]
      refine stepOne 12 (o := ?oT56) ?hiT56 (by kernel_rfl) ?hwT56 (fun K hK => ?_)
      case hiT56 => (simp only [List.getElem?_toArray, List.getElem?_cons_succ, List.getElem?_cons_zero]; with_reducible rfl)
      case hwT56 => rfl
      go_simp
      go_at_call 49
      refine (C4.out _ hB3).mono ?_
      rintro e wn4 ⟨v61, rfl, ho, hb⟩
      have hB4 := hB3.trans (hb.mono hB3.size)
      have by61 := ho.bytes
      have rt61 := run_text by61
      clear ho hb hB3
      refine hK.out _ _ ?_ (fun hHeld => ?_)
      · exact HK.out _ hB4
      clear hK K
      try simp only [Act.put]
      try simp only [List.setIfInBounds_toArray, List.set_cons_zero, List.set_cons_succ]
      refine stepOne 13 (o := ?oT57) ?hiT57 (by kernel_rfl) ?hwT57 (fun K hK => ?_)
      case hiT57 => (simp only [List.getElem?_toArray, List.getElem?_cons_succ, List.getElem?_cons_zero]; with_reducible rfl)
      case hwT57 => rfl
      go_simp
      refine hK.out _ _ ?_ (fun hHeld => ?_)
      · exact HK.out _ hB4
      clear hK K
      try simp only [Act.put]
      try simp only [List.setIfInBounds_toArray, List.set_cons_zero, List.set_cons_succ]
      refine takeW 14 (some 63) (oi := ?oT58) (v := ?vT58) ?hiT58 ?hdT58 (by kernel_rfl) (by kernel_rfl) (by kernel_rfl) (fun _ _ _ h => h) ?hwT58 ?hyT58 hHeld ?_
      case hiT58 => (simp only [List.getElem?_toArray, List.getElem?_cons_succ, List.getElem?_cons_zero]; with_reducible rfl)
      case hdT58 => rfl
      case hwT58 => rfl
      case hyT58 => (intro w hSw; (try dsimp only at hSw); go_simp; first | done | with_reducible rfl)
      try simp only [Act.put]
      try simp only [List.setIfInBounds_toArray, List.set_cons_zero, List.set_cons_succ]
      refine takeW 15 (some 64) (oi := ?oT59) (v := ?vT59) ?hiT59 ?hdT59 (by kernel_rfl) (by kernel_rfl) (by kernel_rfl) (fun _ _ _ h => h) ?hwT59 ?hyT59 hHeld ?_
      case hiT59 => (simp only [List.getElem?_toArray, List.getElem?_cons_succ, List.getElem?_cons_zero]; with_reducible rfl)
      case hdT59 => rfl
      case hwT59 => rfl
      case hyT59 => (intro w hSw; (try dsimp only at hSw); go_simp; first | done | with_reducible rfl)
      try simp only [Act.put]
      try simp only [List.setIfInBounds_toArray, List.set_cons_zero, List.set_cons_succ]
      refine wpAnyH_done (by kernel_rfl) ?_ _
      refine NoPanic.normal ?_
      go_wp2
      go_meet
      exact ⟨rfl, Lib.hid hB4⟩
    refine stepOf 12 (o := ?oT60) ?hiT60 ?hwT60 (fun K hK => ?_) AllReadyH.nil
    case hiT60 => (simp only [List.getElem?_toArray, List.getElem?_cons_succ, List.getElem?_cons_zero]; with_reducible rfl)
    case hwT60 => rfl
    go_simp
    go_at_call 49
    refine (C4.out _ hB3).mono ?_
    rintro e wn4 ⟨v61, rfl, ho, hb⟩
    have hB4 := hB3.trans (hb.mono hB3.size)
    have by61 := ho.bytes
    replace by58 := by58.under hb
    clear rt58
    have rt58 := run_text by58
    have rt61 := run_text by61
    clear ho hb hB3
    refine hK.out _ _ ?_ (fun hHeld => ?_)
    · exact HK.out _ hB4
    clear hK K
    try simp only [Act.put]
    try simp only [List.setIfInBounds_toArray, List.set_cons_zero, List.set_cons_succ]
    refine wpAnyH_ready (rs := [10, 13]) (by kernel_rfl) (by simp) ?_
    refine stepOf 10 (o := ?oT61) ?hiT61 ?hwT61 (fun K hK => ?_) ?_
    case hiT61 => (simp only [List.getElem?_toArray, List.getElem?_cons_succ, List.getElem?_cons_zero]; with_reducible rfl)
    case hwT61 => rfl
    · skip
      go_simp
      refine hK.out _ _ ?_ (fun hHeld => ?_)
      · exact HK.out _ hB4
      clear hK K
      try simp only [Act.put]
      try simp only [List.setIfInBounds_toArray, List.set_cons_zero, List.set_cons_succ]
      refine stepOne 13 (o := ?oT62) ?hiT62 (by kernel_rfl) ?hwT62 (fun K hK => ?_)
      case hiT62 => (simp only [List.getElem?_toArray, List.getElem?_cons_succ, List.getElem?_cons_zero]; with_reducible rfl)
      case hwT62 => rfl
      go_simp
      refine hK.out _ _ ?_ (fun hHeld => ?_)
      · exact HK.out _ hB4
      clear hK K
      try simp only [Act.put]
      try simp only [List.setIfInBounds_toArray, List.set_cons_zero, List.set_cons_succ]
      refine takeW 14 (some 63) (oi := ?oT63) (v := ?vT63) ?hiT63 ?hdT63 (by kernel_rfl) (by kernel_rfl) (by kernel_rfl) (fun _ _ _ h => h) ?hwT63 ?hyT63 hHeld ?_
      case hiT63 => (simp only [List.getElem?_toArray, List.getElem?_cons_succ, List.getElem?_cons_zero]; with_reducible rfl)
      case hdT63 => rfl
      case hwT63 => rfl
      case hyT63 => (intro w hSw; (try dsimp only at hSw); go_simp; first | done | with_reducible rfl)
      try simp only [Act.put]
      try simp only [List.setIfInBounds_toArray, List.set_cons_zero, List.set_cons_succ]
      refine takeW 15 (some 64) (oi := ?oT64) (v := ?vT64) ?hiT64 ?hdT64 (by kernel_rfl) (by kernel_rfl) (by kernel_rfl) (fun _ _ _ h => h) ?hwT64 ?hyT64 hHeld ?_
      case hiT64 => (simp only [List.getElem?_toArray, List.getElem?_cons_succ, List.getElem?_cons_zero]; with_reducible rfl)
      case hdT64 => rfl
      case hwT64 => rfl
      case hyT64 => (intro w hSw; (try dsimp only at hSw); go_simp; first | done | with_reducible rfl)
      try simp only [Act.put]
      try simp only [List.setIfInBounds_toArray, List.set_cons_zero, List.set_cons_succ]
      refine wpAnyH_done (by kernel_rfl) ?_ _
      refine NoPanic.normal ?_
      go_wp2
      go_meet
      exact ⟨rfl, Lib.hid hB4⟩
    refine stepOf 13 (o := ?oT65) ?hiT65 ?hwT65 (fun K hK => ?_) AllReadyH.nil
    case hiT65 => (simp only [List.getElem?_toArray, List.getElem?_cons_succ, List.getElem?_cons_zero]; with_reducible rfl)
    case hwT65 => rfl
    go_simp
    refine hK.out _ _ ?_ (fun hHeld => ?_)
    · exact HK.out _ hB4
    clear hK K
    try simp only [Act.put]
    try simp only [List.setIfInBounds_toArray, List.set_cons_zero, List.set_cons_succ]
    refine stepOne 10 (o := ?oT66) ?hiT66 (by kernel_rfl) ?hwT66 (fun K hK => ?_)
    case hiT66 => (simp only [List.getElem?_toArray, List.getElem?_cons_succ, List.getElem?_cons_zero]; with_reducible rfl)
    case hwT66 => rfl
    go_simp
    refine hK.out _ _ ?_ (fun hHeld => ?_)
    · exact HK.out _ hB4
    clear hK K
    try simp only [Act.put]
    try simp only [List.setIfInBounds_toArray, List.set_cons_zero, List.set_cons_succ]
    refine takeW 14 (some 63) (oi := ?oT67) (v := ?vT67) ?hiT67 ?hdT67 (by kernel_rfl) (by kernel_rfl) (by kernel_rfl) (fun _ _ _ h => h) ?hwT67 ?hyT67 hHeld ?_
    case hiT67 => (simp only [List.getElem?_toArray, List.getElem?_cons_succ, List.getElem?_cons_zero]; with_reducible rfl)
    case hdT67 => rfl
    case hwT67 => rfl
    case hyT67 => (intro w hSw; (try dsimp only at hSw); go_simp; first | done | with_reducible rfl)
    try simp only [Act.put]
    try simp only [List.setIfInBounds_toArray, List.set_cons_zero, List.set_cons_succ]
    refine takeW 15 (some 64) (oi := ?oT68) (v := ?vT68) ?hiT68 ?hdT68 (by kernel_rfl) (by kernel_rfl) (by kernel_rfl) (fun _ _ _ h => h) ?hwT68 ?hyT68 hHeld ?_
    case hiT68 => (simp only [List.getElem?_toArray, List.getElem?_cons_succ, List.getElem?_cons_zero]; with_reducible rfl)
    case hdT68 => rfl
    case hwT68 => rfl
    case hyT68 => (intro w hSw; (try dsimp only at hSw); go_simp; first | done | with_reducible rfl)
    try simp only [Act.put]
    try simp only [List.setIfInBounds_toArray, List.set_cons_zero, List.set_cons_succ]
    refine wpAnyH_done (by kernel_rfl) ?_ _
    refine NoPanic.normal ?_
    go_wp2
    go_meet
    exact ⟨rfl, Lib.hid hB4⟩
  case rest =>
    obtain ⟨rfl, hcut⟩ := hcut
    obtain ⟨w2, rfl⟩ : ∃ wy : World, wy = wc := ⟨_, rfl⟩
    have HB2 := Lib.hid hcut.out
    clear hcut el ed C1 C3
    go_upto_block 0 with fail
    go_cut [13] (fun tv wx => Hid (∃ X, Own wx w.heap.size tv X ∧ X.length ≤ 1000) ∧ Hid (Below w1.heap.size w1 wx))
    case first =>
      go_wp2_with fail
      go_loopg [13, 14] (min 8 n2) (fun g tv i wr => ∃ k : Nat, k ≤ min 8 n2 ∧ min 8 n2 - k ≤ g ∧ i = .int .i64 (k : Int) ∧ Hid (∃ X, Own wr w.heap.size tv X ∧ X.length ≤ 100 * k) ∧ Hid (Below w1.heap.size w1 wr))
      case atStart => exact ⟨0, by omega, by omega, rfl, Lib.hid ⟨[], own_none _ _, Nat.zero_le _⟩, HB2⟩
      case round =>
        obtain ⟨k, hk, hg, rfl, hT, hbl⟩ := hrel
        obtain ⟨wz, rfl⟩ : ∃ wx : World, wx = wr := ⟨_, rfl⟩
        by_cases hlt : k < min 8 n2
        · have hi0 : (k : Int) < (n2 : Int) := by omega
          have hi1 : (k : Int) < 8 := by omega
          have HBw := Lib.hid (HB1.out.trans (hbl.out.mono HB1.out.size))
          obtain ⟨b, off, rfl, hcz⟩ := (H2.out.under HBw.out).at (k := k) (by omega)
          obtain ⟨z, hz⟩ : ∃ z, l2.getD k 0 = z := ⟨_, rfl⟩
          rw [hz] at hcz
          obtain ⟨d, hd⟩ : ∃ d, Rc.num z = d := ⟨_, rfl⟩
          have HDK : Hid (Rc.NumOk d) := Lib.hid (by rw [← hd]; exact Rc.num_ok z)
          have HC1 : Hid (∀ W, Calls Try.prog 50 #[.int .i64 z] W (NumIs d W)) := Lib.hid fun W => rnum_any' z d W hd
          have HC2 : Hid (∀ W x, Bytes W x d.2.1 → Calls Try.prog 49 #[doneV (str d.1) (d.2.2.1 : Int) (d.2.2.2 : Int) x] W (Made W.heap.size (Rc.body d) W)) := Lib.hid fun W x hx => refrdone_is _ _ _ _ _ _ W hx (Rc.numOk_lt HDK.out) (by have := (Rc.ok_length HDK.out.1).2; omega) (by have := HDK.out.2.1; omega) rfl
          have HBD : Hid ((Rc.body d).length ≤ 50) := Lib.hid (Rc.body_len HDK.out)
          obtain ⟨bd, hbd⟩ : ∃ b, Rc.body d = b := ⟨_, rfl⟩
          rw [hbd] at HC2 HBD
          obtain ⟨s, hs⟩ : ∃ s, str d.1 = s := ⟨_, rfl⟩
          obtain ⟨y1, hy1⟩ : ∃ y : Int, ((d.2.2.1 : Nat) : Int) = y := ⟨_, rfl⟩
          obtain ⟨y2, hy2⟩ : ∃ y : Int, ((d.2.2.2 : Nat) : Int) = y := ⟨_, rfl⟩
          rw [hs, hy1, hy2] at HC2
          have HC1' : Hid (∀ W, Calls Try.prog 50 #[.int .i64 z] W fun e w' => Below W.heap.size W w' ∧ ∃ x, e = .returned (.agg #[.string s, .int .i64 y1, .int .i64 y2, x]) ∧ Own w' W.heap.size x d.2.1) := Lib.hid (by rw [← hs, ← hy1, ← hy2]; exact HC1.out)
          clear hz hd hbd hs hy1 hy2 HC1
          obtain ⟨X, hX, hXl⟩ := hT.out
          have HX := Lib.hid hX
          have HXl := Lib.hid hXl
          obtain ⟨_, _, At, ct, rfl, hct, _⟩ := hX.bytes.parts
          obtain ⟨nx, hnx⟩ : ∃ n, X.length = n := ⟨_, rfl⟩
          rw [hnx] at HX ⊢
          clear hX hXl hT hnx hct
          go_wp2_with fail
          refine (HC1'.out wz).mono ?_
          rintro e w3 ⟨hb3, x3, rfl, ho3⟩
          have HB3 := Lib.hid (hbl.out.trans (hb3.mono hbl.out.size))
          have HB3' := Lib.hid hb3
          have HX3 := Lib.hid ho3.bytes
          obtain ⟨_, _, A3, c3, rfl, _, _⟩ := ho3.bytes.parts
          obtain ⟨np3, hnp3⟩ : ∃ n, d.2.1.length = n := ⟨_, rfl⟩
          rw [hnp3] at HX3 ⊢
          clear hb3 ho3 hnp3
          go_wp2_with fail
          refine (HC2.out w3 _ HX3.out).mono ?_
          rintro e w4 ⟨v4, rfl, ho4, hb4⟩
          have HB4 := Lib.hid (HB3.out.trans (hb4.mono HB3.out.size))
          have HB4' := Lib.hid (HB3'.out.trans (hb4.mono HB3'.out.size))
          have HX4 := Lib.hid ho4.bytes
          clear hb4 ho4 HB3 HB3' HX3
          go_wp2_with fail
          refine (refput_is _ _ X bd _ w4 (HX.out.under HB4'.out).bytes HX4.out (by have := HXl.out; omega) (by have := HBD.out; omega) rfl).mono ?_
          rintro e w5 ⟨v5, rfl, ho5, hb5⟩
          have HB5 := Lib.hid (HB4.out.trans (hb5.mono HB4.out.size))
          have HB5' := Lib.hid (HB4'.out.trans (hb5.mono HB4'.out.size))
          obtain ⟨Y, hY⟩ : ∃ Y, X ++ Fr.frm bd = Y := ⟨_, rfl⟩
          have HYl : Hid (Y.length ≤ 100 * k + 60) := Lib.hid (by rw [← hY, List.length_append, Fr.frm_length]; have := HXl.out; have := HBD.out; omega)
          rw [hY] at ho5
          have HT5 := Lib.hid (ho5.more (base' := w.heap.size) (Nat.le_trans HB1.out.size HB4.out.size))
          have hcz5 := cell_later HB5'.out hcz
          obtain ⟨_, _, A5, c5, rfl, _, _⟩ := ho5.bytes.parts
          obtain ⟨ny, hny⟩ : ∃ n, Y.length = n := ⟨_, rfl⟩
          rw [hny] at HT5 ⊢
          clear hb5 ho5 hY hny HB4 HB4' HB5' HX4 HX hcz hbl HBw
          obtain ⟨r, hr, er⟩ := Rc.and_3 (z / 268435456)
          by_cases hr3 : r = 3
          · subst hr3
            have hrI : (((3 : Nat) : Int) == 3) = true := rfl
            go_wp2_with fail
            refine (refput_is _ _ Y [1, 2] _ _ (HT5.out.alloc _).bytes (bytes_new w5 _ rfl [1, 2] _ _ (by decide) (by decide)) (by have := HYl.out; omega) (by decide) rfl).mono ?_
            rintro e w6 ⟨v6, rfl, ho6, hb6⟩
            have HB6 := Lib.hid ((HB5.out.alloc HB5.out.size _).trans (hb6.mono (Nat.le_trans HB5.out.size (by simp))))
            have HZ6 : Hid (∃ Z, Own w6 w.heap.size v6 Z ∧ Z.length ≤ 100 * (k + 1)) := Lib.hid ⟨_, ho6.more (Nat.le_trans (Nat.le_trans HB1.out.size HB5.out.size) (by simp)), by rw [List.length_append, Fr.frm_length]; have := HYl.out; simp; omega⟩
            clear hb6 ho6
            go_wp2
            go_roundg (min 8 n2 - (k + 1))
            all_goals first
              | omega
              | exact ⟨k + 1, hlt, by omega, by go_num, HZ6, HB6⟩
          · have hrI : ((r : Int) == 3) = false := by simp; omega
            have HZ6 : Hid (∃ Z, Own w5 w.heap.size (.slice A5 ny c5) Z ∧ Z.length ≤ 100 * (k + 1)) := Lib.hid ⟨_, HT5.out, by have := HYl.out; omega⟩
            go_wp2
            go_roundg (min 8 n2 - (k + 1))
            all_goals first
              | omega
              | exact ⟨k + 1, hlt, by omega, by go_num, HZ6, HB5⟩
        · have hk8 : k = min 8 n2 := by omega
          have HX : Hid (∃ X, Own wz w.heap.size u13 X ∧ X.length ≤ 1000) := Lib.hid (by obtain ⟨X, h1, h2⟩ := hT.out; exact ⟨X, h1, by omega⟩)
          have hor : ¬ ((k : Int) < (n2 : Int)) ∨ ((k : Int) < (n2 : Int) ∧ ¬ ((k : Int) < 8)) := by omega
          clear hk8 hlt
          rcases hor with h1 | ⟨h1, h2'⟩
          all_goals
            go_wp2
            go_meet
            exact ⟨HX, hbl⟩
    case rest =>
      obtain ⟨HT, HB3⟩ := hcut
      obtain ⟨w3, rfl⟩ : ∃ wy : World, wy = wc := ⟨_, rfl⟩
      obtain ⟨X, hX, hXl⟩ := HT.out
      have HX := Lib.hid hX
      have HXl := Lib.hid hXl
      obtain ⟨_, _, At, ct, rfl, _, _⟩ := hX.bytes.parts
      obtain ⟨nx, hnx⟩ : ∃ n, X.length = n := ⟨_, rfl⟩
      rw [hnx] at HX ⊢
      have HNX := Lib.hid hnx
      clear hX hXl hnx HT HB2
      go_upto_region 12 with fail
      go_cut [15] (fun q wx => ∃ gR, q = .slice (some ⟨gR, 0, none⟩) 4 4 ∧ Hid (Rw wx w.heap.size gR (.slice (some ⟨gR, 0, none⟩) 4 4) 4) ∧ Hid (XS wx w.heap.size gR) ∧ Hid (gR < wx.heap.size) ∧ Hid (Below w1.heap.size w1 wx))
      case first =>
        have k0 := HK.out w3.drew HB3.out.drew
        have HSB : Hid (Sh w w.heap.size (.slice Ab nb cb) bb) := Lib.hid (HBB.out.sh (by rw [HNB.out]; have := HNB3.out; omega) (Nat.le_refl _))
        refine wp_region_noPanic ?_
        refine wp_region_held_drew (S := fun w' => w'.cell? ⟨g6, 0, none⟩ = some (.int .i64 q1) ∧ w'.cell? ⟨g6, 1, none⟩ = some (.int .i64 q2) ∧ w'.cell? ⟨g6, 2, none⟩ = some (.int .i64 q3) ∧ w'.cell? ⟨g6, 3, none⟩ = some (.int .i64 q4) ∧ w'.cell? ⟨g6 + 1, 0, none⟩ = some (.string ts) ∧ w'.cell? ⟨g6 + 1, 1, none⟩ = some (.int .i64 who) ∧ w'.cell? ⟨g6 + 1, 2, none⟩ = some (.int .i64 inc) ∧ w'.cell? ⟨g6 + 1, 3, none⟩ = some (.slice Ap np cp)) (by kernel_rfl) (k0) (fun hHeld => ?_)
        obtain ⟨wn0, hwn⟩ : ∃ wn, w3.drew = wn := ⟨_, rfl⟩
        have hB0 : Below w1.heap.size w1 wn0 := by rw [← hwn]; exact HB3.out.drew
        have hW3 : Below w3.heap.size w3 wn0 := by rw [← hwn]; exact (Below.refl _ _).drew
        rw [hwn] at hHeld ⊢
        clear hwn
        refine takeW 0 (some 93) (oi := ?oT69) (v := ?vT69) ?hiT69 ?hdT69 (by kernel_rfl) (by kernel_rfl) (by kernel_rfl) (fun _ _ _ h => h) ?hwT69 ?hyT69 hHeld ?_
        case hiT69 => (simp only [List.getElem?_toArray, List.getElem?_cons_zero]; with_reducible rfl)
        case hdT69 => rfl
        case hwT69 => rfl
        case hyT69 => (intro w hSw; (try dsimp only at hSw); go_simp; first | done | with_reducible rfl)
        try simp only [Act.put]
        try simp only [List.setIfInBounds_toArray, List.set_cons_zero, List.set_cons_succ]
        refine takeW 1 (some 94) (oi := ?oT70) (v := ?vT70) ?hiT70 ?hdT70 (by kernel_rfl) (by kernel_rfl) (by kernel_rfl) (fun _ _ _ h => h) ?hwT70 ?hyT70 hHeld ?_
        case hiT70 => (simp only [List.getElem?_toArray, List.getElem?_cons_succ, List.getElem?_cons_zero]; with_reducible rfl)
        case hdT70 => rfl
        case hwT70 => rfl
        case hyT70 => (intro w hSw; (try dsimp only at hSw); go_simp; first | done | with_reducible rfl)
        try simp only [Act.put]
        try simp only [List.setIfInBounds_toArray, List.set_cons_zero, List.set_cons_succ]
        refine takeW 3 (some 96) (oi := ?oT71) (v := ?vT71) ?hiT71 ?hdT71 (by kernel_rfl) (by kernel_rfl) (by kernel_rfl) (fun _ _ _ h => h) ?hwT71 ?hyT71 hHeld ?_
        case hiT71 => (simp only [List.getElem?_toArray, List.getElem?_cons_succ, List.getElem?_cons_zero]; with_reducible rfl)
        case hdT71 => rfl
        case hwT71 => rfl
        case hyT71 => (intro w hSw; (try dsimp only at hSw); go_simp; first | done | with_reducible rfl)
        try simp only [Act.put]
        try simp only [List.setIfInBounds_toArray, List.set_cons_zero, List.set_cons_succ]
        refine takeW 5 (some 98) (oi := ?oT72) (v := ?vT72) ?hiT72 ?hdT72 (by kernel_rfl) (by kernel_rfl) (by kernel_rfl) (fun _ _ _ h => h) ?hwT72 ?hyT72 hHeld ?_
        case hiT72 => (simp only [List.getElem?_toArray, List.getElem?_cons_succ, List.getElem?_cons_zero]; with_reducible rfl)
        case hdT72 => rfl
        case hwT72 => rfl
        case hyT72 => (intro w hSw; (try dsimp only at hSw); go_simp; first | done | with_reducible rfl)
        try simp only [Act.put]
        try simp only [List.setIfInBounds_toArray, List.set_cons_zero, List.set_cons_succ]
        refine stepOne 2 (o := ?oT73) ?hiT73 (by kernel_rfl) ?hwT73 (fun K hK => ?_)
        case hiT73 => (simp only [List.getElem?_toArray, List.getElem?_cons_succ, List.getElem?_cons_zero]; with_reducible rfl)
        case hwT73 => rfl
        go_simp
        go_at_call 48
        refine (C2.out _).mono ?_
        rintro e wn1 ⟨v95, rfl, ho95, hb95⟩
        have hB1 := hB0.trans (hb95.mono hB0.size)
        obtain ⟨_, _, A95, c95, hv95, _, _⟩ := ho95.bytes.parts
        rw [HPLl.out] at hv95
        subst hv95
        have hL := ho95.sh (base := w.heap.size) (by rw [HPLl.out]; decide)
        clear ho95
        refine hK.out _ _ ?_ (fun hHeld => ?_)
        · exact HK.out _ hB1
        clear hK K
        try simp only [Act.put]
        try simp only [List.setIfInBounds_toArray, List.set_cons_zero, List.set_cons_succ]
        refine stepOne 4 (o := ?oT74) ?hiT74 (by kernel_rfl) ?hwT74 (fun K hK => ?_)
        case hiT74 => (simp only [List.getElem?_toArray, List.getElem?_cons_succ, List.getElem?_cons_zero]; with_reducible rfl)
        case hwT74 => rfl
        go_simp
        go_at_call 49
        refine (C4.out _ hB1).mono ?_
        rintro e wn2 ⟨v97, rfl, ho97, hb97⟩
        have hB2 := hB1.trans (hb97.mono hB1.size)
        obtain ⟨_, _, A97, c97, hv97, _, _⟩ := ho97.bytes.parts
        obtain ⟨n97, hn97⟩ : ∃ n, PD.length = n := ⟨_, rfl⟩
        rw [hn97] at hv97
        subst hv97
        replace hL := hL.under hb97
        have hD := ho97.sh (base := w.heap.size) (by have := HPDl.out; omega)
        clear ho97
        refine hK.out _ _ ?_ (fun hHeld => ?_)
        · exact HK.out _ hB2
        clear hK K
        try simp only [Act.put]
        try simp only [List.setIfInBounds_toArray, List.set_cons_zero, List.set_cons_succ]
        refine stepOne 6 (o := ?oT75) ?hiT75 (by kernel_rfl) ?hwT75 (fun K hK => ?_)
        case hiT75 => (simp only [List.getElem?_toArray, List.getElem?_cons_succ, List.getElem?_cons_zero]; with_reducible rfl)
        case hwT75 => rfl
        go_simp
        refine hK.out _ _ ?_ (fun hHeld => ?_)
        · exact HK.out _ (hB2.alloc hB2.size _)
        clear hK K
        try simp only [Act.put]
        try simp only [List.setIfInBounds_toArray, List.set_cons_zero, List.set_cons_succ]
        refine takeW 7 (some 15) (oi := ?oT76) (v := ?vT76) ?hiT76 ?hdT76 (by kernel_rfl) (by kernel_rfl) (by kernel_rfl) (fun _ _ _ h => h) ?hwT76 ?hyT76 hHeld ?_
        case hiT76 => (simp only [List.getElem?_toArray, List.getElem?_cons_succ, List.getElem?_cons_zero]; with_reducible rfl)
        case hdT76 => rfl
        case hwT76 => rfl
        case hyT76 => (intro w hSw; (try dsimp only at hSw); go_simp; first | done | with_reducible rfl)
        try simp only [Act.put]
        try simp only [List.setIfInBounds_toArray, List.set_cons_zero, List.set_cons_succ]
        refine wpAnyH_done (by kernel_rfl) ?_ _
        refine NoPanic.normal ?_
        have hT := (HX.out.sh (base := w.heap.size) (by have := HXl.out; omega)).under (hW3.trans ((hb95.mono hW3.size).trans (hb97.mono (Nat.le_trans hW3.size hb95.size))))
        have hBw := HB1.out.trans (hB2.mono HB1.out.size)
        have hbs := HSB.out.under hBw
        have hba : Below wn2.heap.size wn2 (wn2.alloc (.cells #[.slice Ab nb cb, .slice A95 34 c95, .slice A97 n97 c97, .slice At nx ct] 30)) := (Below.refl _ _).alloc (Nat.le_refl _) _
        have hblk : Blk (wn2.alloc (.cells #[.slice Ab nb cb, .slice A95 34 c95, .slice A97 n97 c97, .slice At nx ct] 30)) wn2.heap.size 30 #[.slice Ab nb cb, .slice A95 34 c95, .slice A97 n97 c97, .slice At nx ct] := heap_alloc_new wn2 _
        go_wp2
        go_meet
        refine ⟨_, rfl, Lib.hid (rw_first wn2 w.heap.size _ _ _ _ _ _ _ _ hBw.size hbs hL hD hT), Lib.hid (fun j hj => ?_), Lib.hid (by simp), Lib.hid (hB2.alloc hB2.size _)⟩
        rcases (show j = 0 ∨ j = 1 ∨ j = 2 by omega) with rfl | rfl | rfl
        · exact ⟨_, _, hblk.at 1, hL.under hba, by rw [HPLl.out]; decide⟩
        · exact ⟨_, _, hblk.at 2, hD.under hba, by have := HPDl.out; omega⟩
        · exact ⟨_, _, hblk.at 3, hT.under hba, by have := HXl.out; omega⟩
      case rest =>
        obtain ⟨gR, rfl, HR, HXS, HGR, HB4⟩ := hcut
        obtain ⟨w4, rfl⟩ : ∃ wy : World, wy = wc := ⟨_, rfl⟩
        clear HX HXl HNX HB3 HBB HNB HNB3 HK C2 C4
        go_wp2_with fail
        have HB4w := Lib.hid (HB1.out.trans (HB4.out.mono HB1.out.size))
        clear HB4
        go_loopg [15, 103] 3 (fun g rv i wr => ∃ k n : Nat, k ≤ 3 ∧ 3 - k ≤ g ∧ i = .int .i64 (k : Int) ∧ n ≤ 4 + 3 * k ∧ Hid (Rw wr w.heap.size gR rv n) ∧ Hid (XS wr w.heap.size gR) ∧ Hid (gR < wr.heap.size) ∧ Hid (Below w.heap.size w wr))
        case atStart => exact ⟨0, 4, by omega, by omega, rfl, by omega, HR, HXS, HGR, HB4w⟩
        case round =>
          obtain ⟨k, n, hk, hg, rfl, hn, hR, hXS, hGR, hbl⟩ := hrel
          obtain ⟨wz, rfl⟩ : ∃ wx : World, wx = wr := ⟨_, rfl⟩
          by_cases hlt : k < 3
          · have hkI : (k : Int) < 3 := by omega
            obtain ⟨u, lx, hcell, hsh, hlx45⟩ := hXS.out k hlt
            obtain ⟨_, _, Ax, cx, rfl, hcx, _⟩ := hsh.1.parts
            obtain ⟨ln, hln⟩ : ∃ n, lx.length = n := ⟨_, rfl⟩
            rw [hln] at hsh hcell hcx
            have HSH := Lib.hid hsh
            have hln5 : ln ≤ 4500 := by omega
            have HLN := Lib.hid hln
            clear hsh hln hlx45
            by_cases h0 : ln = 0
            · subst h0
              have h0I : ¬ ((0 : Int) < ((0 : Nat) : Int)) := by decide
              go_wp2
              go_roundg (3 - (k + 1))
              all_goals first
                | omega
                | exact ⟨k + 1, n, hlt, by omega, by go_num, by omega, hR, hXS, hGR, hbl⟩
            · have h0I : (0 : Int) < (ln : Int) := by omega
              go_wp2_with (at_builtin; refine wpList_append_bytes rfl _ _ rfl wz.heap.size _ _ [] lx rfl (own_empty wz _ 0 #[] (Nat.le_refl _) (by unfold maxLen; omega) rfl) rfl (HSH.out.1.alloc _) ?_ ?_ lx rfl ?_)
              case refine_1 => rw [HLN.out, List.length_nil]; omega
              case refine_2 => simp
              case refine_3 =>
                rintro v3 w5 ⟨ho5, _, _, hb5'⟩
                have hb5 : Below wz.heap.size wz w5 := ((Below.refl _ _).alloc (Nat.le_refl _) _).trans hb5'
                have HM5 := Lib.hid ho5.mine
                have hlx5 : lx.length ≤ 5000 := by rw [HLN.out]; omega
                obtain ⟨A3, c3, hv3, hc3, _⟩ := ho5.mine.parts
                rw [HLN.out] at hv3 hc3
                have HTY : Hid (∀ g, v3.ownBlock = some g → ∃ cs m, w5.heap[g]? = some (.cells cs 5 m)) := Lib.hid fun g hg => (ho5.sh (base := 0) hlx5).2.2 (by intro e; rw [e] at HLN; exact h0 HLN.out.symm) g hg |>.elim (fun h => absurd h (by omega)) id
                subst hv3
                obtain ⟨z, hz0, hz1⟩ : ∃ z : Nat, z ≤ 65535 ∧ bits .and .i64 at_ 65535 = (z : Int) := ⟨_, Ar.and_low16 at_⟩
                obtain ⟨k4, hk0, hk1⟩ := Ar.rem_of z ln (by omega)
                obtain ⟨_, g3, off, rfl, hgb, hgs, hfz, hce⟩ := HM5.out.at (by omega)
                have hfk := hfz k4 hk0
                have hck := hce k4 hk0
                obtain ⟨xq, hxq⟩ : ∃ z, lx.getD k4 0 = z := ⟨_, rfl⟩
                rw [hxq] at hck
                obtain ⟨w6, hw6⟩ : ∃ w6, w5.setCell ⟨g3, off + k4, none⟩ (.int .u8 (y : Int)) = w6 := ⟨_, rfl⟩
                have hb6 : Below wz.heap.size wz w6 := by rw [← hw6]; exact hb5.setCell (p := ⟨g3, off + k4, none⟩) hgb _
                have HU6 : Hid (Sh w6 w.heap.size (.slice (some ⟨g3, off, none⟩) ln c3) (lx.set k4 y)) := Lib.hid ⟨by rw [← hw6]; exact (HM5.out.set hk0 hy).bytes, by rw [List.length_set]; exact hlx5, fun _ j hj => .inr (by
                  have hjg : g3 = j := by simpa [Value.ownBlock] using hj
                  subst hjg
                  obtain ⟨cs, m, hcs⟩ := HTY.out g3 rfl
                  rw [← hw6]
                  exact ⟨_, _, setCell_typed w5 g3 (off + k4) (.int .u8 (y : Int)) cs _ m hcs⟩)⟩
                have HX6 := Lib.hid (HSH.out.under hb6)
                have HR6 := Lib.hid (hR.out.under hb6)
                have HXS6 := Lib.hid (hXS.out.under hb6)
                have HGR6 : Hid (gR < w6.heap.size) := Lib.hid (Nat.lt_of_lt_of_le hGR.out hb6.size)
                have HB6 := Lib.hid (hbl.out.trans (hb6.mono hbl.out.size))
                have HW6 := Lib.hid hw6
                have hk4c : k4 ≤ cx := by omega
                have hk4cI : (k4 : Int) ≤ (cx : Int) := by omega
                have hn9 : Hid (n ≤ 1000) := Lib.hid (by omega)
                clear hw6 hb6 hb5 hb5' ho5 HM5 HTY hxq hgb hgs hfz hce hz0 hc3 hlx5
                go_upto_region 19 with fail
                rw [HW6.out]
                clear HW6 hfk hck hcell
                refine wp_region_noPanic ?_
                refine wp_region_held_drew (S := fun _ => True) (by kernel_rfl) (trivial) (fun hHeld => ?_)
                obtain ⟨wn0, hwn⟩ : ∃ wn, w6.drew = wn := ⟨_, rfl⟩
                have hB0 : Below w6.heap.size w6 wn0 := by rw [← hwn]; exact (Below.refl _ _).drew
                have hP0 : Pool wn0 w6.heap.size [] := pool_none hB0.size
                rw [hwn]
                clear hwn
                refine takeW 0 (some 121) (oi := ?oT77) (v := ?vT77) ?hiT77 ?hdT77 (by kernel_rfl) (by kernel_rfl) (by kernel_rfl) (fun _ _ _ h => h) ?hwT77 ?hyT77 hHeld ?_
                case hiT77 => (simp only [List.getElem?_toArray, List.getElem?_cons_zero]; with_reducible rfl)
                case hdT77 => rfl
                case hwT77 => rfl
                case hyT77 => (intro w hSw; (try dsimp only at hSw); go_simp; first | done | with_reducible rfl)
                try simp only [Act.put]
                try simp only [List.setIfInBounds_toArray, List.set_cons_zero, List.set_cons_succ]
                refine takeW 1 (some 122) (oi := ?oT78) (v := ?vT78) ?hiT78 ?hdT78 (by kernel_rfl) (by kernel_rfl) (by kernel_rfl) (fun _ _ _ h => h) ?hwT78 ?hyT78 hHeld ?_
                case hiT78 => (simp only [List.getElem?_toArray, List.getElem?_cons_succ, List.getElem?_cons_zero]; with_reducible rfl)
                case hdT78 => rfl
                case hwT78 => rfl
                case hyT78 => (intro w hSw; (try dsimp only at hSw); go_simp; first | done | with_reducible rfl)
                try simp only [Act.put]
                try simp only [List.setIfInBounds_toArray, List.set_cons_zero, List.set_cons_succ]
                refine takeW 2 (some 123) (oi := ?oT79) (v := ?vT79) ?hiT79 ?hdT79 (by kernel_rfl) (by kernel_rfl) (by kernel_rfl) (fun _ _ _ h => h) ?hwT79 ?hyT79 hHeld ?_
                case hiT79 => (simp only [List.getElem?_toArray, List.getElem?_cons_succ, List.getElem?_cons_zero]; with_reducible rfl)
                case hdT79 => rfl
                case hwT79 => rfl
                case hyT79 => (intro w hSw; (try dsimp only at hSw); go_simp; first | done | with_reducible rfl)
                try simp only [Act.put]
                try simp only [List.setIfInBounds_toArray, List.set_cons_zero, List.set_cons_succ]
                refine takeW 3 (some 124) (oi := ?oT80) (v := ?vT80) ?hiT80 ?hdT80 (by kernel_rfl) (by kernel_rfl) (by kernel_rfl) (fun _ _ _ h => h) ?hwT80 ?hyT80 hHeld ?_
                case hiT80 => (simp only [List.getElem?_toArray, List.getElem?_cons_succ, List.getElem?_cons_zero]; with_reducible rfl)
                case hdT80 => rfl
                case hwT80 => rfl
                case hyT80 => (intro w hSw; (try dsimp only at hSw); go_simp; first | done | with_reducible rfl)
                try simp only [Act.put]
                try simp only [List.setIfInBounds_toArray, List.set_cons_zero, List.set_cons_succ]
                refine takeW 4 (some 125) (oi := ?oT81) (v := ?vT81) ?hiT81 ?hdT81 (by kernel_rfl) (by kernel_rfl) (by kernel_rfl) (fun _ _ _ h => h) ?hwT81 ?hyT81 hHeld ?_
                case hiT81 => (simp only [List.getElem?_toArray, List.getElem?_cons_succ, List.getElem?_cons_zero]; with_reducible rfl)
                case hdT81 => rfl
                case hwT81 => rfl
                case hyT81 => (intro w hSw; (try dsimp only at hSw); go_simp; first | done | with_reducible rfl)
                try simp only [Act.put]
                try simp only [List.setIfInBounds_toArray, List.set_cons_zero, List.set_cons_succ]
                refine takeW 5 (some 126) (oi := ?oT82) (v := ?vT82) ?hiT82 ?hdT82 (by kernel_rfl) (by kernel_rfl) (by kernel_rfl) (fun _ _ _ h => h) ?hwT82 ?hyT82 hHeld ?_
                case hiT82 => (simp only [List.getElem?_toArray, List.getElem?_cons_succ, List.getElem?_cons_zero]; with_reducible rfl)
                case hdT82 => rfl
                case hwT82 => rfl
                case hyT82 => (intro w hSw; (try dsimp only at hSw); go_simp; first | done | with_reducible rfl)
                try simp only [Act.put]
                try simp only [List.setIfInBounds_toArray, List.set_cons_zero, List.set_cons_succ]
                refine takeW 6 (some 127) (oi := ?oT83) (v := ?vT83) ?hiT83 ?hdT83 (by kernel_rfl) (by kernel_rfl) (by kernel_rfl) (fun _ _ _ h => h) ?hwT83 ?hyT83 hHeld ?_
                case hiT83 => (simp only [List.getElem?_toArray, List.getElem?_cons_succ, List.getElem?_cons_zero]; with_reducible rfl)
                case hdT83 => rfl
                case hwT83 => rfl
                case hyT83 => (intro w hSw; (try dsimp only at hSw); go_simp; first | done | with_reducible rfl)
                try simp only [Act.put]
                try simp only [List.setIfInBounds_toArray, List.set_cons_zero, List.set_cons_succ]
                refine takeW 7 (some 128) (oi := ?oT84) (v := ?vT84) ?hiT84 ?hdT84 (by kernel_rfl) (by kernel_rfl) (by kernel_rfl) (fun _ _ _ h => h) ?hwT84 ?hyT84 hHeld ?_
                case hiT84 => (simp only [List.getElem?_toArray, List.getElem?_cons_succ, List.getElem?_cons_zero]; with_reducible rfl)
                case hdT84 => rfl
                case hwT84 => rfl
                case hyT84 => (intro w hSw; (try dsimp only at hSw); go_simp; first | done | with_reducible rfl)
                try simp only [Act.put]
                try simp only [List.setIfInBounds_toArray, List.set_cons_zero, List.set_cons_succ]
                refine takeW 8 (some 129) (oi := ?oT85) (v := ?vT85) ?hiT85 ?hdT85 (by kernel_rfl) (by kernel_rfl) (by kernel_rfl) (fun _ _ _ h => h) ?hwT85 ?hyT85 hHeld ?_
                case hiT85 => (simp only [List.getElem?_toArray, List.getElem?_cons_succ, List.getElem?_cons_zero]; with_reducible rfl)
                case hdT85 => rfl
                case hwT85 => rfl
                case hyT85 => (intro w hSw; (try dsimp only at hSw); go_simp; first | done | with_reducible rfl)
                try simp only [Act.put]
                try simp only [List.setIfInBounds_toArray, List.set_cons_zero, List.set_cons_succ]
                refine takeW 10 (some 131) (oi := ?oT86) (v := ?vT86) ?hiT86 ?hdT86 (by kernel_rfl) (by kernel_rfl) (by kernel_rfl) (fun _ _ _ h => h) ?hwT86 ?hyT86 hHeld ?_
                case hiT86 => (simp only [List.getElem?_toArray, List.getElem?_cons_succ, List.getElem?_cons_zero]; with_reducible rfl)
                case hdT86 => rfl
                case hwT86 => rfl
                case hyT86 => (intro w hSw; (try dsimp only at hSw); go_simp; first | done | with_reducible rfl)
                try simp only [Act.put]
                try simp only [List.setIfInBounds_toArray, List.set_cons_zero, List.set_cons_succ]
                refine takeW 12 (some 133) (oi := ?oT87) (v := ?vT87) ?hiT87 ?hdT87 (by kernel_rfl) (by kernel_rfl) (by kernel_rfl) (fun _ _ _ h => h) ?hwT87 ?hyT87 hHeld ?_
                case hiT87 => (simp only [List.getElem?_toArray, List.getElem?_cons_succ, List.getElem?_cons_zero]; with_reducible rfl)
                case hdT87 => rfl
                case hwT87 => rfl
                case hyT87 => (intro w hSw; (try dsimp only at hSw); go_simp; first | done | with_reducible rfl)
                try simp only [Act.put]
                try simp only [List.setIfInBounds_toArray, List.set_cons_zero, List.set_cons_succ]
                refine wpAnyH_ready (rs := [9, 13]) (by kernel_rfl) (by simp) ?_
                refine stepOf 9 (o := ?oT88) ?hiT88 ?hwT88 (fun K hK => ?_) ?_
                case hiT88 => (simp only [List.getElem?_toArray, List.getElem?_cons_succ, List.getElem?_cons_zero]; with_reducible rfl)
                case hwT88 => rfl
                · skip
                  go_simp
                  have hPx := hP0.nil
                  have hBx := hB0.alloc hP0.1 (.cells #[] 5)
                  obtain ⟨g130, hg⟩ : ∃ g, wn0.heap.size = g := ⟨_, rfl⟩
                  obtain ⟨wn1, hwm⟩ : ∃ wm, wn0.alloc (.cells #[] 5) = wm := ⟨_, rfl⟩
                  have hP1 : Pool wn1 w6.heap.size [((.slice (some ⟨g130, 0, none⟩) 0 0), [])] := by rw [← hwm, ← hg]; exact hPx
                  have hB1 : Below w6.heap.size w6 wn1 := by rw [← hwm]; exact hBx
                  rw [hwm]
                  rw [hg]
                  clear hwm hg hPx hBx hP0 hB0
                  refine hK.out _ _ ?_ (fun hHeld => ?_)
                  · trivial
                  clear hK K
                  try simp only [Act.put]
                  try simp only [List.setIfInBounds_toArray, List.set_cons_zero, List.set_cons_succ]
                  refine wpAnyH_ready (rs := [11, 13]) (by kernel_rfl) (by simp) ?_
                  refine stepOf 11 (o := ?oT89) ?hiT89 ?hwT89 (fun K hK => ?_) ?_
                  case hiT89 => (simp only [List.getElem?_toArray, List.getElem?_cons_succ, List.getElem?_cons_zero]; with_reducible rfl)
                  case hwT89 => rfl
                  · skip
                    refine wp_append_bytes (.tmp 130) (.tmp 131) rfl w6.heap.size _ _ _ _ rfl (hP1.get 0 rfl) rfl (HX6.out.under hB1).1 (by rw [HLN.out, List.length_nil]; omega) hP1.1 lx rfl ?_
                    rintro v132 wn2 hgr
                    have hP2 : Pool wn2 w6.heap.size [(v132, lx)] := hP1.app 0 rfl hgr
                    have hB2 := hB1.trans hgr.2.2.2
                    clear hgr hP1 hB1
                    refine hK.out _ _ ?_ (fun hHeld => ?_)
                    · trivial
                    clear hK K
                    try simp only [Act.put]
                    try simp only [List.setIfInBounds_toArray, List.set_cons_zero, List.set_cons_succ]
                    refine stepOne 13 (o := ?oT90) ?hiT90 (by kernel_rfl) ?hwT90 (fun K hK => ?_)
                    case hiT90 => (simp only [List.getElem?_toArray, List.getElem?_cons_succ, List.getElem?_cons_zero]; with_reducible rfl)
                    case hwT90 => rfl
                    go_simp
                    have hPx := hP2.one y hy
                    have hBx := hB2.alloc hP2.1 (.cells #[.int .u8 (y : Int)] 5)
                    obtain ⟨g134, hg⟩ : ∃ g, wn2.heap.size = g := ⟨_, rfl⟩
                    obtain ⟨wn3, hwm⟩ : ∃ wm, wn2.alloc (.cells #[.int .u8 (y : Int)] 5) = wm := ⟨_, rfl⟩
                    have hP3 : Pool wn3 w6.heap.size [((.slice (some ⟨g134, 0, none⟩) 1 1), [y]), (v132, lx)] := by rw [← hwm, ← hg]; exact hPx
                    have hB3 : Below w6.heap.size w6 wn3 := by rw [← hwm]; exact hBx
                    rw [hwm]
                    rw [hg]
                    clear hwm hg hPx hBx hP2 hB2
                    refine hK.out _ _ ?_ (fun hHeld => ?_)
                    · trivial
                    clear hK K
                    try simp only [Act.put]
                    try simp only [List.setIfInBounds_toArray, List.set_cons_zero, List.set_cons_succ]
                    refine stepOne 14 (o := ?oT91) ?hiT91 (by kernel_rfl) ?hwT91 (fun K hK => ?_)
                    case hiT91 => (simp only [List.getElem?_toArray, List.getElem?_cons_succ, List.getElem?_cons_zero]; with_reducible rfl)
                    case hwT91 => rfl
                    refine wp_append_bytes (.tmp 132) (.tmp 134) rfl w6.heap.size _ _ _ _ rfl (hP3.get 1 rfl) rfl (hP3.get 0 rfl).bytes (by rw [HLN.out]; simp; omega) hP3.1 (lx ++ [y]) rfl ?_
                    rintro v135 wn4 hgr
                    obtain ⟨_, _, A135, c135, hv, _, _⟩ := hgr.1.bytes.parts
                    obtain ⟨n135, hn135⟩ : ∃ n, (lx ++ [y]).length = n := ⟨_, rfl⟩
                    rw [hn135] at hv
                    subst hv
                    have hP4 : Pool wn4 w6.heap.size [((.slice (some ⟨g134, 0, none⟩) 1 1), [y]), ((.slice A135 n135 c135), (lx ++ [y]))] := hP3.app 1 rfl hgr
                    have hB4 := hB3.trans hgr.2.2.2
                    clear hgr hP3 hB3
                    refine hK.out _ _ ?_ (fun hHeld => ?_)
                    · trivial
                    clear hK K
                    try simp only [Act.put]
                    try simp only [List.setIfInBounds_toArray, List.set_cons_zero, List.set_cons_succ]
                    refine stepOne 15 (o := ?oT92) ?hiT92 (by kernel_rfl) ?hwT92 (fun K hK => ?_)
                    case hiT92 => (simp only [List.getElem?_toArray, List.getElem?_cons_succ, List.getElem?_cons_zero]; with_reducible rfl)
                    case hwT92 => rfl
                    go_simp
                    obtain ⟨g136, hg⟩ : ∃ g, wn4.heap.size = g := ⟨_, rfl⟩
                    obtain ⟨wn5, hwm⟩ : ∃ wm, wn4.alloc (.cells #[.slice (some ⟨g3, off, none⟩) ln c3, .slice Ax k4 cx, .slice A135 n135 c135] 30) = wm := ⟨_, rfl⟩
                    have hK136 : Blk wn5 g136 30 #[.slice (some ⟨g3, off, none⟩) ln c3, .slice Ax k4 cx, .slice A135 n135 c135] := by rw [← hwm, ← hg]; exact heap_alloc_new _ _
                    have hZ : Sh wn5 w.heap.size (.slice A135 n135 c135) (lx ++ [y]) := by rw [← hwm]; exact ((hP4.get 1 rfl).sh (by rw [List.length_append, HLN.out]; simp; omega)).under ((Below.refl _ _).alloc (Nat.le_refl _) _)
                    have hB5 : Below w6.heap.size w6 wn5 := by rw [← hwm]; exact hB4.alloc hP4.1 _
                    rw [hwm]
                    rw [hg]
                    clear hwm hg hB4 hP4
                    refine hK.out _ _ ?_ (fun hHeld => ?_)
                    · trivial
                    clear hK K
                    try simp only [Act.put]
                    try simp only [List.setIfInBounds_toArray, List.set_cons_zero, List.set_cons_succ]
                    refine stepOne 16 (o := ?oT93) ?hiT93 (by kernel_rfl) ?hwT93 (fun K hK => ?_)
                    case hiT93 => (simp only [List.getElem?_toArray, List.getElem?_cons_succ, List.getElem?_cons_zero]; with_reducible rfl)
                    case hwT93 => rfl
                    refine wp_append_three (.tmp 121) (.tmp 136) rfl rfl (HR6.out.under hB5) rfl (HU6.out.under hB5) ((HX6.out.under hB5).head (Nat.le_of_lt hk0) hk4c) hZ (fun j u hj => ?_) hn9.out (Nat.le_trans HB6.out.size hB5.size) (Nat.lt_of_lt_of_le HGR6.out hB5.size) ?_
                    · rcases j with _ | _ | _ | j
                      · exact (hK136.at 0).trans hj
                      · exact (hK136.at 1).trans hj
                      · exact (hK136.at 2).trans hj
                      · simp at hj
                    rintro v137 wn6 hRw hkp hbel hshk
                    have hXX := (HXS6.out.under hB5).kept hkp hshk
                    have hGG : gR < wn6.heap.size := Nat.lt_of_lt_of_le HGR6.out (Nat.le_trans hB5.size hbel.size)
                    have hBB : Below w.heap.size w wn6 := (HB6.out.trans (hB5.mono HB6.out.size)).trans hbel
                    refine hK.out _ _ ?_ (fun hHeld => ?_)
                    · trivial
                    clear hK K
                    try simp only [Act.put]
                    try simp only [List.setIfInBounds_toArray, List.set_cons_zero, List.set_cons_succ]
                    refine takeW 17 (some 15) (oi := ?oT94) (v := ?vT94) ?hiT94 ?hdT94 (by kernel_rfl) (by kernel_rfl) (by kernel_rfl) (fun _ _ _ h => h) ?hwT94 ?hyT94 hHeld ?_
                    case hiT94 => (simp only [List.getElem?_toArray, List.getElem?_cons_succ, List.getElem?_cons_zero]; with_reducible rfl)
                    case hdT94 => rfl
                    case hwT94 => rfl
                    case hyT94 => (intro w hSw; (try dsimp only at hSw); go_simp; first | done | with_reducible rfl)
                    try simp only [Act.put]
                    try simp only [List.setIfInBounds_toArray, List.set_cons_zero, List.set_cons_succ]
                    refine wpAnyH_done (by kernel_rfl) ?_ _
                    refine NoPanic.normal ?_
                    have HRW := Lib.hid hRw
                    have HXX := Lib.hid hXX
                    have HGG := Lib.hid hGG
                    have HBB := Lib.hid hBB
                    clear hRw hXX hGG hBB hkp hbel hshk hz1 hk1
                    go_wp2
                    go_roundg (3 - (k + 1))
                    all_goals first
                      | omega
                      | exact ⟨k + 1, n + 3, hlt, by omega, by go_num, by omega, HRW, HXX, HGG, HBB⟩
                  refine stepOf 13 (o := ?oT95) ?hiT95 ?hwT95 (fun K hK => ?_) AllReadyH.nil
                  case hiT95 => (simp only [List.getElem?_toArray, List.getElem?_cons_succ, List.getElem?_cons_zero]; with_reducible rfl)
                  case hwT95 => rfl
                  go_simp
                  have hPx := hP1.one y hy
                  have hBx := hB1.alloc hP1.1 (.cells #[.int .u8 (y : Int)] 5)
                  obtain ⟨g134, hg⟩ : ∃ g, wn1.heap.size = g := ⟨_, rfl⟩
                  obtain ⟨wn2, hwm⟩ : ∃ wm, wn1.alloc (.cells #[.int .u8 (y : Int)] 5) = wm := ⟨_, rfl⟩
                  have hP2 : Pool wn2 w6.heap.size [((.slice (some ⟨g134, 0, none⟩) 1 1), [y]), ((.slice (some ⟨g130, 0, none⟩) 0 0), [])] := by rw [← hwm, ← hg]; exact hPx
                  have hB2 : Below w6.heap.size w6 wn2 := by rw [← hwm]; exact hBx
                  rw [hwm]
                  rw [hg]
                  clear hwm hg hPx hBx hP1 hB1
                  refine hK.out _ _ ?_ (fun hHeld => ?_)
                  · trivial
                  clear hK K
                  try simp only [Act.put]
                  try simp only [List.setIfInBounds_toArray, List.set_cons_zero, List.set_cons_succ]
                  refine stepOne 11 (o := ?oT96) ?hiT96 (by kernel_rfl) ?hwT96 (fun K hK => ?_)
                  case hiT96 => (simp only [List.getElem?_toArray, List.getElem?_cons_succ, List.getElem?_cons_zero]; with_reducible rfl)
                  case hwT96 => rfl
                  refine wp_append_bytes (.tmp 130) (.tmp 131) rfl w6.heap.size _ _ _ _ rfl (hP2.get 1 rfl) rfl (HX6.out.under hB2).1 (by rw [HLN.out, List.length_nil]; omega) hP2.1 lx rfl ?_
                  rintro v132 wn3 hgr
                  have hP3 : Pool wn3 w6.heap.size [((.slice (some ⟨g134, 0, none⟩) 1 1), [y]), (v132, lx)] := hP2.app 1 rfl hgr
                  have hB3 := hB2.trans hgr.2.2.2
                  clear hgr hP2 hB2
                  refine hK.out _ _ ?_ (fun hHeld => ?_)
                  · trivial
                  clear hK K
                  try simp only [Act.put]
                  try simp only [List.setIfInBounds_toArray, List.set_cons_zero, List.set_cons_succ]
                  refine stepOne 14 (o := ?oT97) ?hiT97 (by kernel_rfl) ?hwT97 (fun K hK => ?_)
                  case hiT97 => (simp only [List.getElem?_toArray, List.getElem?_cons_succ, List.getElem?_cons_zero]; with_reducible rfl)
                  case hwT97 => rfl
                  refine wp_append_bytes (.tmp 132) (.tmp 134) rfl w6.heap.size _ _ _ _ rfl (hP3.get 1 rfl) rfl (hP3.get 0 rfl).bytes (by rw [HLN.out]; simp; omega) hP3.1 (lx ++ [y]) rfl ?_
                  rintro v135 wn4 hgr
                  obtain ⟨_, _, A135, c135, hv, _, _⟩ := hgr.1.bytes.parts
                  obtain ⟨n135, hn135⟩ : ∃ n, (lx ++ [y]).length = n := ⟨_, rfl⟩
                  rw [hn135] at hv
                  subst hv
                  have hP4 : Pool wn4 w6.heap.size [((.slice (some ⟨g134, 0, none⟩) 1 1), [y]), ((.slice A135 n135 c135), (lx ++ [y]))] := hP3.app 1 rfl hgr
                  have hB4 := hB3.trans hgr.2.2.2
                  clear hgr hP3 hB3
                  refine hK.out _ _ ?_ (fun hHeld => ?_)
                  · trivial
                  clear hK K
                  try simp only [Act.put]
                  try simp only [List.setIfInBounds_toArray, List.set_cons_zero, List.set_cons_succ]
                  refine stepOne 15 (o := ?oT98) ?hiT98 (by kernel_rfl) ?hwT98 (fun K hK => ?_)
                  case hiT98 => (simp only [List.getElem?_toArray, List.getElem?_cons_succ, List.getElem?_cons_zero]; with_reducible rfl)
                  case hwT98 => rfl
                  go_simp
                  obtain ⟨g136, hg⟩ : ∃ g, wn4.heap.size = g := ⟨_, rfl⟩
                  obtain ⟨wn5, hwm⟩ : ∃ wm, wn4.alloc (.cells #[.slice (some ⟨g3, off, none⟩) ln c3, .slice Ax k4 cx, .slice A135 n135 c135] 30) = wm := ⟨_, rfl⟩
                  have hK136 : Blk wn5 g136 30 #[.slice (some ⟨g3, off, none⟩) ln c3, .slice Ax k4 cx, .slice A135 n135 c135] := by rw [← hwm, ← hg]; exact heap_alloc_new _ _
                  have hZ : Sh wn5 w.heap.size (.slice A135 n135 c135) (lx ++ [y]) := by rw [← hwm]; exact ((hP4.get 1 rfl).sh (by rw [List.length_append, HLN.out]; simp; omega)).under ((Below.refl _ _).alloc (Nat.le_refl _) _)
                  have hB5 : Below w6.heap.size w6 wn5 := by rw [← hwm]; exact hB4.alloc hP4.1 _
                  rw [hwm]
                  rw [hg]
                  clear hwm hg hB4 hP4
                  refine hK.out _ _ ?_ (fun hHeld => ?_)
                  · trivial
                  clear hK K
                  try simp only [Act.put]
                  try simp only [List.setIfInBounds_toArray, List.set_cons_zero, List.set_cons_succ]
                  refine stepOne 16 (o := ?oT99) ?hiT99 (by kernel_rfl) ?hwT99 (fun K hK => ?_)
                  case hiT99 => (simp only [List.getElem?_toArray, List.getElem?_cons_succ, List.getElem?_cons_zero]; with_reducible rfl)
                  case hwT99 => rfl
                  refine wp_append_three (.tmp 121) (.tmp 136) rfl rfl (HR6.out.under hB5) rfl (HU6.out.under hB5) ((HX6.out.under hB5).head (Nat.le_of_lt hk0) hk4c) hZ (fun j u hj => ?_) hn9.out (Nat.le_trans HB6.out.size hB5.size) (Nat.lt_of_lt_of_le HGR6.out hB5.size) ?_
                  · rcases j with _ | _ | _ | j
                    · exact (hK136.at 0).trans hj
                    · exact (hK136.at 1).trans hj
                    · exact (hK136.at 2).trans hj
                    · simp at hj
                  rintro v137 wn6 hRw hkp hbel hshk
                  have hXX := (HXS6.out.under hB5).kept hkp hshk
                  have hGG : gR < wn6.heap.size := Nat.lt_of_lt_of_le HGR6.out (Nat.le_trans hB5.size hbel.size)
                  have hBB : Below w.heap.size w wn6 := (HB6.out.trans (hB5.mono HB6.out.size)).trans hbel
                  refine hK.out _ _ ?_ (fun hHeld => ?_)
                  · trivial
                  clear hK K
                  try simp only [Act.put]
                  try simp only [List.setIfInBounds_toArray, List.set_cons_zero, List.set_cons_succ]
                  refine takeW 17 (some 15) (oi := ?oT100) (v := ?vT100) ?hiT100 ?hdT100 (by kernel_rfl) (by kernel_rfl) (by kernel_rfl) (fun _ _ _ h => h) ?hwT100 ?hyT100 hHeld ?_
                  case hiT100 => (simp only [List.getElem?_toArray, List.getElem?_cons_succ, List.getElem?_cons_zero]; with_reducible rfl)
                  case hdT100 => rfl
                  case hwT100 => rfl
                  case hyT100 => (intro w hSw; (try dsimp only at hSw); go_simp; first | done | with_reducible rfl)
                  try simp only [Act.put]
                  try simp only [List.setIfInBounds_toArray, List.set_cons_zero, List.set_cons_succ]
                  refine wpAnyH_done (by kernel_rfl) ?_ _
                  refine NoPanic.normal ?_
                  have HRW := Lib.hid hRw
                  have HXX := Lib.hid hXX
                  have HGG := Lib.hid hGG
                  have HBB := Lib.hid hBB
                  clear hRw hXX hGG hBB hkp hbel hshk hz1 hk1
                  go_wp2
                  go_roundg (3 - (k + 1))
                  all_goals first
                    | omega
                    | exact ⟨k + 1, n + 3, hlt, by omega, by go_num, by omega, HRW, HXX, HGG, HBB⟩
                refine stepOf 13 (o := ?oT101) ?hiT101 ?hwT101 (fun K hK => ?_) AllReadyH.nil
                case hiT101 => (simp only [List.getElem?_toArray, List.getElem?_cons_succ, List.getElem?_cons_zero]; with_reducible rfl)
                case hwT101 => rfl
                go_simp
                have hPx := hP0.one y hy
                have hBx := hB0.alloc hP0.1 (.cells #[.int .u8 (y : Int)] 5)
                obtain ⟨g134, hg⟩ : ∃ g, wn0.heap.size = g := ⟨_, rfl⟩
                obtain ⟨wn1, hwm⟩ : ∃ wm, wn0.alloc (.cells #[.int .u8 (y : Int)] 5) = wm := ⟨_, rfl⟩
                have hP1 : Pool wn1 w6.heap.size [((.slice (some ⟨g134, 0, none⟩) 1 1), [y])] := by rw [← hwm, ← hg]; exact hPx
                have hB1 : Below w6.heap.size w6 wn1 := by rw [← hwm]; exact hBx
                rw [hwm]
                rw [hg]
                clear hwm hg hPx hBx hP0 hB0
                refine hK.out _ _ ?_ (fun hHeld => ?_)
                · trivial
                clear hK K
                try simp only [Act.put]
                try simp only [List.setIfInBounds_toArray, List.set_cons_zero, List.set_cons_succ]
                refine stepOne 9 (o := ?oT102) ?hiT102 (by kernel_rfl) ?hwT102 (fun K hK => ?_)
                case hiT102 => (simp only [List.getElem?_toArray, List.getElem?_cons_succ, List.getElem?_cons_zero]; with_reducible rfl)
                case hwT102 => rfl
                go_simp
                have hPx := hP1.nil
                have hBx := hB1.alloc hP1.1 (.cells #[] 5)
                obtain ⟨g130, hg⟩ : ∃ g, wn1.heap.size = g := ⟨_, rfl⟩
                obtain ⟨wn2, hwm⟩ : ∃ wm, wn1.alloc (.cells #[] 5) = wm := ⟨_, rfl⟩
                have hP2 : Pool wn2 w6.heap.size [((.slice (some ⟨g130, 0, none⟩) 0 0), []), ((.slice (some ⟨g134, 0, none⟩) 1 1), [y])] := by rw [← hwm, ← hg]; exact hPx
                have hB2 : Below w6.heap.size w6 wn2 := by rw [← hwm]; exact hBx
                rw [hwm]
                rw [hg]
                clear hwm hg hPx hBx hP1 hB1
                refine hK.out _ _ ?_ (fun hHeld => ?_)
                · trivial
                clear hK K
                try simp only [Act.put]
                try simp only [List.setIfInBounds_toArray, List.set_cons_zero, List.set_cons_succ]
                refine stepOne 11 (o := ?oT103) ?hiT103 (by kernel_rfl) ?hwT103 (fun K hK => ?_)
                case hiT103 => (simp only [List.getElem?_toArray, List.getElem?_cons_succ, List.getElem?_cons_zero]; with_reducible rfl)
                case hwT103 => rfl
                refine wp_append_bytes (.tmp 130) (.tmp 131) rfl w6.heap.size _ _ _ _ rfl (hP2.get 0 rfl) rfl (HX6.out.under hB2).1 (by rw [HLN.out, List.length_nil]; omega) hP2.1 lx rfl ?_
                rintro v132 wn3 hgr
                have hP3 : Pool wn3 w6.heap.size [(v132, lx), ((.slice (some ⟨g134, 0, none⟩) 1 1), [y])] := hP2.app 0 rfl hgr
                have hB3 := hB2.trans hgr.2.2.2
                clear hgr hP2 hB2
                refine hK.out _ _ ?_ (fun hHeld => ?_)
                · trivial
                clear hK K
                try simp only [Act.put]
                try simp only [List.setIfInBounds_toArray, List.set_cons_zero, List.set_cons_succ]
                refine stepOne 14 (o := ?oT104) ?hiT104 (by kernel_rfl) ?hwT104 (fun K hK => ?_)
                case hiT104 => (simp only [List.getElem?_toArray, List.getElem?_cons_succ, List.getElem?_cons_zero]; with_reducible rfl)
                case hwT104 => rfl
                refine wp_append_bytes (.tmp 132) (.tmp 134) rfl w6.heap.size _ _ _ _ rfl (hP3.get 0 rfl) rfl (hP3.get 1 rfl).bytes (by rw [HLN.out]; simp; omega) hP3.1 (lx ++ [y]) rfl ?_
                rintro v135 wn4 hgr
                obtain ⟨_, _, A135, c135, hv, _, _⟩ := hgr.1.bytes.parts
                obtain ⟨n135, hn135⟩ : ∃ n, (lx ++ [y]).length = n := ⟨_, rfl⟩
                rw [hn135] at hv
                subst hv
                have hP4 : Pool wn4 w6.heap.size [((.slice A135 n135 c135), (lx ++ [y])), ((.slice (some ⟨g134, 0, none⟩) 1 1), [y])] := hP3.app 0 rfl hgr
                have hB4 := hB3.trans hgr.2.2.2
                clear hgr hP3 hB3
                refine hK.out _ _ ?_ (fun hHeld => ?_)
                · trivial
                clear hK K
                try simp only [Act.put]
                try simp only [List.setIfInBounds_toArray, List.set_cons_zero, List.set_cons_succ]
                refine stepOne 15 (o := ?oT105) ?hiT105 (by kernel_rfl) ?hwT105 (fun K hK => ?_)
                case hiT105 => (simp only [List.getElem?_toArray, List.getElem?_cons_succ, List.getElem?_cons_zero]; with_reducible rfl)
                case hwT105 => rfl
                go_simp
                obtain ⟨g136, hg⟩ : ∃ g, wn4.heap.size = g := ⟨_, rfl⟩
                obtain ⟨wn5, hwm⟩ : ∃ wm, wn4.alloc (.cells #[.slice (some ⟨g3, off, none⟩) ln c3, .slice Ax k4 cx, .slice A135 n135 c135] 30) = wm := ⟨_, rfl⟩
                have hK136 : Blk wn5 g136 30 #[.slice (some ⟨g3, off, none⟩) ln c3, .slice Ax k4 cx, .slice A135 n135 c135] := by rw [← hwm, ← hg]; exact heap_alloc_new _ _
                have hZ : Sh wn5 w.heap.size (.slice A135 n135 c135) (lx ++ [y]) := by rw [← hwm]; exact ((hP4.get 0 rfl).sh (by rw [List.length_append, HLN.out]; simp; omega)).under ((Below.refl _ _).alloc (Nat.le_refl _) _)
                have hB5 : Below w6.heap.size w6 wn5 := by rw [← hwm]; exact hB4.alloc hP4.1 _
                rw [hwm]
                rw [hg]
                clear hwm hg hB4 hP4
                refine hK.out _ _ ?_ (fun hHeld => ?_)
                · trivial
                clear hK K
                try simp only [Act.put]
                try simp only [List.setIfInBounds_toArray, List.set_cons_zero, List.set_cons_succ]
                refine stepOne 16 (o := ?oT106) ?hiT106 (by kernel_rfl) ?hwT106 (fun K hK => ?_)
                case hiT106 => (simp only [List.getElem?_toArray, List.getElem?_cons_succ, List.getElem?_cons_zero]; with_reducible rfl)
                case hwT106 => rfl
                refine wp_append_three (.tmp 121) (.tmp 136) rfl rfl (HR6.out.under hB5) rfl (HU6.out.under hB5) ((HX6.out.under hB5).head (Nat.le_of_lt hk0) hk4c) hZ (fun j u hj => ?_) hn9.out (Nat.le_trans HB6.out.size hB5.size) (Nat.lt_of_lt_of_le HGR6.out hB5.size) ?_
                · rcases j with _ | _ | _ | j
                  · exact (hK136.at 0).trans hj
                  · exact (hK136.at 1).trans hj
                  · exact (hK136.at 2).trans hj
                  · simp at hj
                rintro v137 wn6 hRw hkp hbel hshk
                have hXX := (HXS6.out.under hB5).kept hkp hshk
                have hGG : gR < wn6.heap.size := Nat.lt_of_lt_of_le HGR6.out (Nat.le_trans hB5.size hbel.size)
                have hBB : Below w.heap.size w wn6 := (HB6.out.trans (hB5.mono HB6.out.size)).trans hbel
                refine hK.out _ _ ?_ (fun hHeld => ?_)
                · trivial
                clear hK K
                try simp only [Act.put]
                try simp only [List.setIfInBounds_toArray, List.set_cons_zero, List.set_cons_succ]
                refine takeW 17 (some 15) (oi := ?oT107) (v := ?vT107) ?hiT107 ?hdT107 (by kernel_rfl) (by kernel_rfl) (by kernel_rfl) (fun _ _ _ h => h) ?hwT107 ?hyT107 hHeld ?_
                case hiT107 => (simp only [List.getElem?_toArray, List.getElem?_cons_succ, List.getElem?_cons_zero]; with_reducible rfl)
                case hdT107 => rfl
                case hwT107 => rfl
                case hyT107 => (intro w hSw; (try dsimp only at hSw); go_simp; first | done | with_reducible rfl)
                try simp only [Act.put]
                try simp only [List.setIfInBounds_toArray, List.set_cons_zero, List.set_cons_succ]
                refine wpAnyH_done (by kernel_rfl) ?_ _
                refine NoPanic.normal ?_
                have HRW := Lib.hid hRw
                have HXX := Lib.hid hXX
                have HGG := Lib.hid hGG
                have HBB := Lib.hid hBB
                clear hRw hXX hGG hBB hkp hbel hshk hz1 hk1
                go_wp2
                go_roundg (3 - (k + 1))
                all_goals first
                  | omega
                  | exact ⟨k + 1, n + 3, hlt, by omega, by go_num, by omega, HRW, HXX, HGG, HBB⟩
          · obtain rfl : k = 3 := by omega
            have hkI : ((3 : Nat) : Int) = 3 := rfl
            obtain ⟨L, hL, hLn, hLl⟩ := hR.out.rows
            have HL := Lib.hid hL
            have HLl := Lib.hid hLl
            have HLn := Lib.hid hLn
            obtain ⟨_, AL, cL, rfl, hcL, _⟩ := hL
            rw [hLn] at HL hcL ⊢
            have hn13 : n ≤ 13 := by omega
            clear hLl hLn hR hXS hGR
            go_wp2_with fail
            go_loopg [141] n (fun g i wr => ∃ k : Nat, k ≤ n ∧ n - k ≤ g ∧ i = .int .i64 (k : Int) ∧ Hid (Below wz.heap.size wz wr))
            case atStart => exact ⟨0, by omega, by omega, rfl, Lib.hid (Below.refl _ _)⟩
            case round =>
              obtain ⟨k, hk, hg, rfl, hb0⟩ := hrel
              obtain ⟨wy, rfl⟩ : ∃ wx : World, wx = wr := ⟨_, rfl⟩
              by_cases hlt : k < n
              · have hkI2 : (k : Int) < (n : Int) := by omega
                obtain ⟨b, off, u, rfl, hcu, hbu⟩ := (HL.out.under hb0.out).at hlt
                obtain ⟨x, hxe⟩ : ∃ x, L.getD k [] = x := ⟨_, rfl⟩
                have hxl : x.length ≤ 5000 := by
                  rw [← hxe, List.getD_eq_getElem?_getD, List.getElem?_eq_getElem (by rw [HLn.out]; exact hlt)]
                  exact HLl.out _ (List.getElem_mem _)
                rw [hxe] at hbu
                have HXL := Lib.hid hxl
                have HU0 := Lib.hid hbu
                obtain ⟨_, _, Ax, cx, rfl, _, _⟩ := hbu.parts
                obtain ⟨xl, hxle⟩ : ∃ n, x.length = n := ⟨_, rfl⟩
                rw [hxle] at HU0 hcu
                obtain ⟨N, hS⟩ := Fr.ex_scan x
                have HS := Lib.hid hS
                obtain ⟨RL, hRL⟩ : ∃ R, Rc.openL x = R := ⟨_, rfl⟩
                obtain ⟨a1, a2, a3, a4, hls⟩ := lock_says RL
                obtain ⟨RD, hRD⟩ : ∃ R, Rc.openD x = R := ⟨_, rfl⟩
                have HDT : Hid (∀ c ∈ (dOf RD).1, c < 256) := Lib.hid (by rw [← hRD]; exact dOf_lt)
                obtain ⟨qL, hqL⟩ : ∃ q, RL.isSome = q := ⟨_, rfl⟩
                obtain ⟨qD, hqD⟩ : ∃ q, RD.isSome = q := ⟨_, rfl⟩
                rw [hqL] at hls
                have CL1 : Hid (∀ W, Bytes W (.slice Ax xl cx) x → Calls Try.prog 44 #[.slice Ax xl cx] W fun e w' => e = .returned (.tuple #[.agg #[.int .i64 a1, .int .i64 a2, .int .i64 a3, .int .i64 a4], .bool qL]) ∧ Below W.heap.size W w') := Lib.hid fun W h => by rw [← hls]; exact ropenL_any _ x W h (by have := HXL.out; omega) RL hRL
                have CL2 : Hid (∀ W, Bytes W (.slice Ax xl cx) x → Calls Try.prog 51 #[.slice Ax xl cx] W fun e w' => e = .returned (.tuple #[.agg #[.int .i64 a1, .int .i64 a2, .int .i64 a3, .int .i64 a4], .bool qL]) ∧ Below W.heap.size W w') := Lib.hid fun W h => by rw [← hls]; exact refopenL_any _ x W h (by have := HXL.out; omega) RL hRL
                obtain ⟨d, hd⟩ : ∃ d, dOf RD = d := ⟨_, rfl⟩
                have CD1 : Hid (∀ W, Bytes W (.slice Ax xl cx) x → Calls Try.prog 43 #[.slice Ax xl cx] W fun e w' => Below W.heap.size W w' ∧ ∃ v, e = .returned (.tuple #[.agg #[.string (str d.1), .int .i64 (d.2.2.1 : Int), .int .i64 (d.2.2.2 : Int), v], .bool qD]) ∧ Bytes w' v d.2.1) := Lib.hid fun W h => (ropenD_any _ x W h (by have := HXL.out; omega) RD hRD).mono fun e w' h' => by rw [← hd, ← hqD]; exact h'.says
                have CD2 : Hid (∀ W, Bytes W (.slice Ax xl cx) x → Calls Try.prog 52 #[.slice Ax xl cx] W fun e w' => Below W.heap.size W w' ∧ ∃ v, e = .returned (.tuple #[.agg #[.string (str d.1), .int .i64 (d.2.2.1 : Int), .int .i64 (d.2.2.2 : Int), v], .bool qD]) ∧ Bytes w' v d.2.1) := Lib.hid fun W h => (refopenD_any _ x W h (by have := HXL.out; omega) RD hRD).mono fun e w' h' => by rw [← hd, ← hqD]; exact h'.says
                rw [hd] at HDT
                have CS : Hid (∀ W v v', Bytes W v d.2.1 → Bytes W v' d.2.1 → Calls Try.prog 46 #[doneV (str d.1) (d.2.2.1 : Int) (d.2.2.2 : Int) v, doneV (str d.1) (d.2.2.1 : Int) (d.2.2.2 : Int) v'] W fun e w' => e = .returned (.bool true) ∧ Below W.heap.size W w') := Lib.hid fun W v v' h h' => sameD_any _ _ _ _ _ _ _ _ v v' W h h' HDT.out HDT.out true (by simp [sameD])
                obtain ⟨np2, hnp2⟩ : ∃ n, d.2.1.length = n := ⟨_, rfl⟩
                have HNP2 := Lib.hid hnp2
                obtain ⟨s, hs⟩ : ∃ s, str d.1 = s := ⟨_, rfl⟩
                obtain ⟨y1, hy1⟩ : ∃ y : Int, ((d.2.2.1 : Nat) : Int) = y := ⟨_, rfl⟩
                obtain ⟨y2, hy2⟩ : ∃ y : Int, ((d.2.2.2 : Nat) : Int) = y := ⟨_, rfl⟩
                rw [hs, hy1, hy2] at CD1 CD2 CS
                obtain ⟨RW, hRW⟩ : ∃ R, Fr.rows x N = R := ⟨_, rfl⟩
                have hNx : N ≤ 5000 := by
                  have h1 := (hS.le (Nat.le_refl N)).2
                  have h2 := (hS.le (Nat.le_refl N)).1
                  omega
                have HRWl : Hid ((Rc.lead RW).length ≤ 5000) := Lib.hid (by have h1 := lead_le RW; rw [← hRW, Fr.rows_length] at h1; rw [← hRW]; omega)
                have CT1 : Hid (∀ W, Bytes W (.slice Ax xl cx) x → Calls Try.prog 53 #[.slice Ax xl cx] W (TraceIs RW W)) := Lib.hid fun W h => rtrace_any _ x N RW W h HS.out (by have := HXL.out; omega) hRW
                have CT2 : Hid (∀ W, Bytes W (.slice Ax xl cx) x → Calls Try.prog 54 #[.slice Ax xl cx] W (TraceIs RW W)) := Lib.hid fun W h => reftrace_any _ x N RW W h HS.out (by have := HXL.out; omega) hRW
                clear hbu hxe hxl hxle hS hRL hls hRD hqL hqD hd hnp2 hs hy1 hy2 hRW hNx
                go_wp2_with fail
                refine (CL1.out wy HU0.out).mono ?_
                rintro e e1 ⟨rfl, hb1⟩
                obtain ⟨f1, hf1⟩ : ∃ f, e1.alloc (.cells #[.int .i64 a1, .int .i64 a2, .int .i64 a3, .int .i64 a4] 66) = f := ⟨_, rfl⟩
                obtain ⟨h21, hh21⟩ : ∃ g, e1.heap.size = g := ⟨_, rfl⟩
                have HC1 : Hid (Below wy.heap.size wy f1) := Lib.hid (by rw [← hf1]; exact hb1.alloc hb1.size _)
                have HK1 : Hid (Blk f1 h21 66 #[.int .i64 a1, .int .i64 a2, .int .i64 a3, .int .i64 a4]) := Lib.hid (by rw [← hf1, ← hh21]; exact heap_alloc_new e1 _)
                have HU1 := Lib.hid (HU0.out.under HC1.out)
                have HF1 := Lib.hid hf1
                have HH1 := Lib.hid hh21
                clear hf1 hh21 hb1 hcu
                go_upto_region 25 with fail
                rw [HF1.out, HH1.out]
                clear HF1 HH1
                go_wp2_with fail
                refine (CL2.out f1 HU1.out).mono ?_
                rintro e e2 ⟨rfl, hb2⟩
                obtain ⟨f2, hf2⟩ : ∃ f, e2.alloc (.cells #[.int .i64 a1, .int .i64 a2, .int .i64 a3, .int .i64 a4] 66) = f := ⟨_, rfl⟩
                obtain ⟨h23, hh23⟩ : ∃ g, e2.heap.size = g := ⟨_, rfl⟩
                have HC2 : Hid (Below f1.heap.size f1 f2) := Lib.hid (by rw [← hf2]; exact hb2.alloc hb2.size _)
                have HK2 : Hid (Blk f2 h23 66 #[.int .i64 a1, .int .i64 a2, .int .i64 a3, .int .i64 a4]) := Lib.hid (by rw [← hf2, ← hh23]; exact heap_alloc_new e2 _)
                have HU2 := Lib.hid (HU1.out.under HC2.out)
                have HF2 := Lib.hid hf2
                have HH2 := Lib.hid hh23
                clear hf2 hh23 hb2
                go_upto_region 26 with fail
                rw [HF2.out, HH2.out]
                clear HF2 HH2
                go_wp2_with fail
                refine (CD1.out f2 HU2.out).mono ?_
                rintro e e3 ⟨hb3, x3, rfl, hx3⟩
                obtain ⟨_, _, A3, c3, rfl, _, _⟩ := hx3.parts
                rw [HNP2.out] at hx3 ⊢
                obtain ⟨f3, hf3⟩ : ∃ f, e3.alloc (.cells #[.string s, .int .i64 y1, .int .i64 y2, .slice A3 np2 c3] 59) = f := ⟨_, rfl⟩
                obtain ⟨h25, hh25⟩ : ∃ g, e3.heap.size = g := ⟨_, rfl⟩
                have HC3 : Hid (Below f2.heap.size f2 f3) := Lib.hid (by rw [← hf3]; exact hb3.alloc hb3.size _)
                have HK3 : Hid (Blk f3 h25 59 #[.string s, .int .i64 y1, .int .i64 y2, .slice A3 np2 c3]) := Lib.hid (by rw [← hf3, ← hh25]; exact heap_alloc_new e3 _)
                have HX3 : Hid (Bytes f3 (.slice A3 np2 c3) d.2.1) := Lib.hid (by rw [← hf3]; exact hx3.alloc _)
                have HU3 := Lib.hid (HU2.out.under HC3.out)
                have HF3 := Lib.hid hf3
                have HH3 := Lib.hid hh25
                clear hf3 hh25 hb3 hx3
                go_upto_region 27 with fail
                rw [HF3.out, HH3.out]
                clear HF3 HH3
                go_wp2_with fail
                refine (CD2.out f3 HU3.out).mono ?_
                rintro e e4 ⟨hb4, x4, rfl, hx4⟩
                obtain ⟨_, _, A4, c4, rfl, _, _⟩ := hx4.parts
                rw [HNP2.out] at hx4 ⊢
                obtain ⟨f4, hf4⟩ : ∃ f, e4.alloc (.cells #[.string s, .int .i64 y1, .int .i64 y2, .slice A4 np2 c4] 59) = f := ⟨_, rfl⟩
                obtain ⟨h27, hh27⟩ : ∃ g, e4.heap.size = g := ⟨_, rfl⟩
                have HC4 : Hid (Below f3.heap.size f3 f4) := Lib.hid (by rw [← hf4]; exact hb4.alloc hb4.size _)
                have HK4 : Hid (Blk f4 h27 59 #[.string s, .int .i64 y1, .int .i64 y2, .slice A4 np2 c4]) := Lib.hid (by rw [← hf4, ← hh27]; exact heap_alloc_new e4 _)
                have HX4 : Hid (Bytes f4 (.slice A4 np2 c4) d.2.1) := Lib.hid (by rw [← hf4]; exact hx4.alloc _)
                have HU4 := Lib.hid (HU3.out.under HC4.out)
                have HF4 := Lib.hid hf4
                have HH4 := Lib.hid hh27
                clear hf4 hh27 hb4 hx4
                go_upto_region 28 with fail
                rw [HF4.out, HH4.out]
                clear HF4 HH4
                go_wp2_with fail
                refine (CT1.out f4 HU4.out).mono ?_
                rintro e f5 ⟨hb5, u5, rfl, ho5⟩
                have HC5 := Lib.hid hb5
                have HO5 := Lib.hid ho5.rd
                have HU5 := Lib.hid (HU4.out.under hb5)
                clear hb5 ho5
                go_wp2_with fail
                refine (CT2.out f5 HU5.out).mono ?_
                rintro e f6 ⟨hb6, u6, rfl, ho6⟩
                have HC6 := Lib.hid hb6
                have HO6 := Lib.hid ho6.rd
                have HO5' := Lib.hid (HO5.out.under hb6)
                clear hb6 ho6 HO5
                have HC46 := Lib.hid (HC5.out.trans (HC6.out.mono HC5.out.size))
                have HC36 := Lib.hid (HC4.out.trans (HC46.out.mono HC4.out.size))
                have HC26 := Lib.hid (HC3.out.trans (HC36.out.mono HC3.out.size))
                have HC16 := Lib.hid (HC2.out.trans (HC26.out.mono HC2.out.size))
                have HC06 := Lib.hid (HC1.out.trans (HC16.out.mono HC1.out.size))
                have m1 := HK1.out.under HC16.out
                have m2 := HK2.out.under HC26.out
                have m3 := HK3.out.under HC36.out
                have m4 := HK4.out.under HC46.out
                have i0 := m1.at 0
                have i1 := m1.at 1
                have i2 := m1.at 2
                have i3 := m1.at 3
                have j0 := m2.at 0
                have j1 := m2.at 1
                have j2 := m2.at 2
                have j3 := m2.at 3
                have p0 := m3.at 0
                have p1 := m3.at 1
                have p2 := m3.at 2
                have p3 := m3.at 3
                have r0 := m4.at 0
                have r1 := m4.at 1
                have r2 := m4.at 2
                have r3 := m4.at 3
                have HX36 := Lib.hid (HX3.out.under HC36.out)
                have HX46 := Lib.hid (HX4.out.under HC46.out)
                have hqq : (qL != qL) = false := by simp
                have hqq2 : (qD != qD) = false := by simp
                clear m1 m2 m3 m4
                go_wp2_with fail
                refine (CS.out f6 _ _ HX36.out HX46.out).mono ?_
                rintro e f7 ⟨rfl, hb7⟩
                have HC67 := Lib.hid hb7
                have HC07 := Lib.hid (HC06.out.trans (hb7.mono HC06.out.size))
                clear hb7 i0 i1 i2 i3 j0 j1 j2 j3 p0 p1 p2 p3 r0 r1 r2 r3
                go_wp2_with fail
                refine (sameDs_any _ _ _ _ f7 (HO5'.out.under HC67.out) (HO6.out.under HC67.out) (lead_lt RW) (lead_lt RW) (by have := HRWl.out; omega) (by have := HRWl.out; omega) true (by simp)).mono ?_
                rintro e f8 ⟨rfl, hb8⟩
                have HC08 := Lib.hid (hb0.out.trans ((HC07.out.trans (hb8.mono HC07.out.size)).mono hb0.out.size))
                clear hb8
                have hee : (((Rc.ends RW : Nat) : Int) != ((Rc.ends RW : Nat) : Int)) = false := by simp
                go_wp2
                go_roundg (n - (k + 1))
                all_goals first
                  | omega
                  | exact ⟨k + 1, hlt, by omega, by go_num, HC08⟩
              · obtain rfl : k = n := by omega
                go_wp2_with fail
                refine (rawake_any wy).mono ?_
                rintro e wq ⟨rfl, hbq⟩
                have HBQ := Lib.hid (hbl.out.trans ((hb0.out.trans (hbq.mono hb0.out.size)).mono hbl.out.size))
                clear hbq
                go_wp2
                go_ret
                exact ⟨rfl, HBQ.out⟩
end Go.Proofs.Ytkfmjkoghfcciaa
