/- Package sour: a Read is begun, and goes on. -/
import Derived.Test.YtoloidfkpfdboaaZSourAt
import Derived.Test.YtoloidfkpfdboaaZ01
namespace Go.Proofs.Ytoloidfkpfdboaa
set_option maxRecDepth 100000
open Go.ChangeShapes Go.WideShapes Go.ChangeAt Go.RowKit Go.ChangeMaps
open Sf
variable {K K' X : Nat → Prop} {w0 w w' w1 : World} {p g : Nat} {s s' : S} {fv vn vv vs : Value} {us : List Value} {x : Sr.R}

/-- A value, or none: a row of the call's own. -/
def SrValIs (B : Nat) (R : Option (List Nat)) (w : World) (e : Ending) (w' : World) : Prop := ∃ u, e = .returned (.tuple #[u, .bool R.isSome]) ∧ Own w' B u (R.getD []) ∧ Below w.heap.size w w'
theorem SrValIs.of {B : Nat} {R : Option (List Nat)} {w w' : World} {e : Ending} {u : Value} {q : Bool} {l : List Nat} (he : e = .returned (.tuple #[u, .bool q])) (hq : R.isSome = q) (hl : R.getD [] = l) (ho : Own w' B u l) (hb : Below w.heap.size w w') : SrValIs B R w e w' := by
  subst hq hl
  exact ⟨u, he, ho, hb⟩
set_option maxRecDepth 100000 in
set_option maxHeartbeats 4000000 in
theorem srvalue_any {md : List Nat → Bool} (B : Nat) (t b : List Nat) (vb : Value) (w : World) (hb : SrBlk w g fv vn vv vs x) (hm : SrMade w fv md) (ht : Nice t) (ho : Own w B vb b) (hl : b.length ≤ 1099511627776) (hB : B ≤ w.heap.size) :
    Calls Try.prog 42 #[.pointer (some ⟨g, 0, none⟩), .string (str t), vb] w (SrValIs B (Sr.value md t b) w) := by
  obtain ⟨KK, cap, rfl, hK, hc⟩ := hm.fn
  have C1 := Lib.hid (hc t w ht (Below.refl _ _))
  obtain ⟨z, hz⟩ : ∃ z, md t = z := ⟨_, rfl⟩
  rw [hz] at C1
  have HV : Hid (Sr.value md t b = if z then (Ar.opn b).map (·.2) else some b) := Lib.hid (by rw [← hz]; rfl)
  have hb' : Blk w g 60 #[vn, .func (.func KK) #[] cap, vv, vs, .int .i64 (x.asked : Int), .int .i64 (x.told : Int)] := hb
  have c1 : w.cell? ⟨g, 1, none⟩ = some (.func (.func KK) #[] cap) := hb'.at 1
  have HO := Lib.hid ho
  have HLB := Lib.hid hl
  have HBB := Lib.hid hB
  clear hb hb' hm ht ho hl hB hc hz
  go_enter_defers Try.func42, Try.ntmps42
  go_wp2_with fail
  refine C1.out.mono ?_
  rintro e w1 ⟨rfl, hb1⟩
  have HB1 := Lib.hid hb1
  clear hb1 C1
  rcases z with _ | _
  · have HVF : Hid ((Sr.value md t b).isSome = true ∧ (Sr.value md t b).getD [] = b) := Lib.hid (by rw [HV.out]; exact ⟨rfl, rfl⟩)
    go_wp2
    refine leaves_cons (f := 49) (args := #[]) (by simp) (by simp [go_sem]) ?_
    refine (srval_idle _).mono ?_
    rintro e u' w'' ⟨rfl, rfl, rfl⟩
    simp [Leaves, settle, results, Try.results42, go_sem]
    exact SrValIs.of rfl HVF.out.1 HVF.out.2 (HO.out.under HB1.out) HB1.out
  · have HVF : Hid (Sr.value md t b = (Ar.opn b).map (·.2)) := Lib.hid (by rw [HV.out]; rfl)
    obtain ⟨R, hR⟩ : ∃ R, Ar.opn b = R := ⟨_, rfl⟩
    rw [hR] at HVF
    have C2 := Lib.hid (aopen_any vb b w1 (HO.out.under HB1.out).bytes HLB.out R hR)
    clear hR
    go_wp2_with fail
    refine C2.out.mono ?_
    rintro e w2 ⟨hb2, hs⟩
    have HB2 : Hid (Below w.heap.size w w2) := Lib.hid (HB1.out.trans (hb2.mono HB1.out.size))
    have HBZ := Lib.hid (Nat.le_trans HBB.out HB1.out.size)
    clear hb2 C2
    rcases R with _ | ⟨p, v⟩
    · dsimp only at hs
      subst hs
      go_wp2
      refine leaves_cons (f := 49) (args := #[]) (by simp) (by simp [go_sem]) ?_
      refine (srval_idle _).mono ?_
      rintro e u' w'' ⟨rfl, rfl, rfl⟩
      simp [Leaves, settle, results, Try.results42, go_sem]
      exact SrValIs.of rfl (by rw [HVF.out]; rfl) (by rw [HVF.out]; rfl) (own_none _ _) HB2.out
    · dsimp only at hs
      obtain ⟨m, x2, y2, rfl, h1, -, -, -, hy⟩ := hs
      have HY : Hid (Own w2 B y2 v) := Lib.hid (hy.more (Nat.le_trans HBZ.out h1))
      clear h1 hy
      go_wp2
      refine leaves_cons (f := 49) (args := #[]) (by simp) (by simp [go_sem]) ?_
      refine (srval_idle _).mono ?_
      rintro e u' w'' ⟨rfl, rfl, rfl⟩
      simp [Leaves, settle, results, Try.results42, go_sem]
      exact SrValIs.of rfl (by rw [HVF.out]; rfl) (by rw [HVF.out]; rfl) HY.out HB2.out

/-- What a step comes to. -/
def SrIs (K : Nat → Prop) (w0 w : World) (p g : Nat) (s : S) (fv : Value) (R : Sr.R × Nat) (e : Ending) (w' : World) : Prop :=
  e = .returned (.int .i64 ((R.2 : Nat) : Int)) ∧ SrAt K w0 w' p g s fv R.1 ∧ Kept (fun k => K k ∧ k ≠ g) w w'
theorem SrIs.of {R : Sr.R × Nat} {e : Ending} {x1 : Sr.R} {n : Nat} (hR : R = (x1, n)) (he : e = .returned (.int .i64 (n : Int))) (h : SrAt K w0 w' p g s fv x1) (hk : Kept (fun k => K k ∧ k ≠ g) w w') : SrIs K w0 w p g s fv R e w' := by
  subst hR
  exact ⟨he, h, hk⟩
theorem rd_len (ho : Ord s.l) (t : List Nat) : (Sf.read s t).1.length ≤ used s.l := by
  unfold Sf.read
  split
  · rcases hgg : Sf.get s.l t with _ | y
    · simp
    · have := Sf.bytes_le ho t
      rw [Sf.bytes, hgg] at this
      simpa using this
  · simp
theorem srn {n : Nat} (h : ¬ n = 0) : ((n : Int) != 0) = true := by simp; omega
theorem srgt {n : Nat} (h : ¬ n ≤ 256) : ((n : Int) > 256) := by omega
theorem own_sl {w : World} {base : Nat} {v : Value} {l : List Nat} (h : Own w base v l) : ∃ A c, v = .slice A l.length c := by
  obtain ⟨_, _, A, c, e, _⟩ := h.bytes.parts
  exact ⟨A, c, e⟩
theorem ownRx_sl {w : World} {base : Nat} {v : Value} {us : List Value} {L : List (List Nat)} (h : OwnRx w base v us L) : ∃ A c, v = .slice A L.length c := by
  obtain ⟨A, c, e, _⟩ := h.ownR.parts
  exact ⟨A, c, e⟩
theorem ownI_sl {w : World} {base : Nat} {v : Value} {L : List Nat} (h : OwnI w base v L) : ∃ A c, v = .slice A L.length c := by
  obtain ⟨A, c, e, _⟩ := h.parts
  exact ⟨A, c, e⟩
theorem ownT_sl {w : World} {base : Nat} {v : Value} {L : List (List Nat)} (h : OwnT w base v L) : ∃ A c, v = .slice A L.length c := by
  obtain ⟨A, c, e, _⟩ := h.srT
  exact ⟨A, c, e⟩

set_option maxRecDepth 100000 in
set_option maxHeartbeats 8000000 in
theorem srread_any {md : List Nat → Bool} (t : List Nat) (h : SrIn K X w0 w p g s fv vn vv vs us x) (hok : Sr.Ok x) (hg : K g) (hg0 : w0.heap.size ≤ g) (hm : SrMade w fv md) (ht : Nice t) (hv : x.vals.length < x.names.length) (hu : used s.l ≤ 274877906944) :
    Calls Try.prog 32 #[.pointer (some ⟨g, 0, none⟩), .pointer (some ⟨p, 0, none⟩), .string (str t)] w (SrIs K w0 w p g s fv (Sr.read md s x t)) := by
  have HH := Lib.hid h
  have HOK := Lib.hid hok
  have HG := Lib.hid hg
  have HG0 := Lib.hid hg0
  have HV := Lib.hid hv
  have hlen := rd_len h.fk.fs.good.1 t
  have C1 := Lib.hid (fs_read t w0 w p s h.fk.fs ht hu)
  have C2 : Hid (∀ W vb, Below w.heap.size w W → Own W w.heap.size vb (Sf.read s t).1 → Calls Try.prog 42 #[.pointer (some ⟨g, 0, none⟩), .string (str t), vb] W (SrValIs w.heap.size (Sr.value md t (Sf.read s t).1) W)) := Lib.hid fun W vb hb ho => srvalue_any w.heap.size t _ vb W ((show SrBlk w g fv vn vv vs x from h.blk).under hb) (hm.under hb) ht ho (by omega) hb.size
  have HR : Hid (Sr.read md s x t = if (Sf.read s t).2.2 = 0 then
    if ((Sr.value md t (Sf.read s t).1).isSome && decide (((Sr.value md t (Sf.read s t).1).getD []).length ≤ 256)) = true then ({ x with vals := x.vals ++ [(Sr.value md t (Sf.read s t).1).getD []], stamps := x.stamps ++ [(Sf.read s t).2.1] }, 0) else (Sr.forget x, 3)
  else (Sr.forget x, 2)) := Lib.hid rfl
  obtain ⟨b, hb⟩ : ∃ n, (Sf.read s t).1 = n := ⟨_, rfl⟩
  obtain ⟨k, hk⟩ : ∃ n, (Sf.read s t).2.1 = n := ⟨_, rfl⟩
  obtain ⟨n, hn⟩ : ∃ n, (Sf.read s t).2.2 = n := ⟨_, rfl⟩
  rw [hb, hk, hn] at C1 HR
  rw [hb] at C2
  obtain ⟨T, hT⟩ : ∃ T, str t = T := ⟨_, rfl⟩
  rw [hT] at C1 C2 ⊢
  obtain ⟨R, hRR⟩ : ∃ R, Sr.value md t b = R := ⟨_, rfl⟩
  rw [hRR] at C2 HR
  obtain ⟨RR, hRE⟩ : ∃ RR, Sr.read md s x t = RR := ⟨_, rfl⟩
  rw [hRE] at HR ⊢
  clear h hok hg hg0 hv hm ht hu hlen hb hk hn hT hRR hRE
  go_enter Try.func32, Try.ntmps32
  go_wp2_with fail
  refine C1.out.mono ?_
  rintro e w1 ⟨v1, rfl, ho1, hb1⟩
  have HO1 := Lib.hid ho1
  have HB1 := Lib.hid hb1
  have HF : Hid (∀ W, Below w.heap.size w W → Calls Try.prog 41 #[.pointer (some ⟨g, 0, none⟩)] W fun e w' => e = .returned (.tuple #[]) ∧ SrIn K X w0 w' p g s fv vn (.slice none 0 0) (.slice none 0 0) [] (Sr.forget x) ∧ Kept (fun k => K k ∧ k ≠ g) W w') := Lib.hid fun W hb => srforget_any (HH.out.under hb) HG.out HG0.out
  have HKB : Hid (∀ W, Below w.heap.size w W → Kept (fun k => K k ∧ k ≠ g) w W) := Lib.hid fun W hb => (Kept.of_below HH.out.fk hb).less fun _ hk => .inl hk.1
  clear ho1 hb1 C1
  by_cases h0 : n = 0
  · subst h0
    have HR1 := Lib.hid (HR.out.trans (if_pos rfl))
    go_wp2_with fail
    refine (C2.out w1 v1 HB1.out HO1.out).mono ?_
    rintro e w2 ⟨u, rfl, ho2, hb2⟩
    have HB2 : Hid (Below w.heap.size w w2) := Lib.hid (HB1.out.trans (hb2.mono HB1.out.size))
    have HO2 := Lib.hid ho2
    obtain ⟨Au, cu, rfl⟩ := own_sl ho2
    obtain ⟨z, hz⟩ : ∃ z, R.isSome = z := ⟨_, rfl⟩
    obtain ⟨l, hl⟩ : ∃ l, R.getD [] = l := ⟨_, rfl⟩
    rw [hz, hl] at HR1
    rw [hz]
    rw [hl] at HO2 ⊢
    obtain ⟨m, hm⟩ : ∃ m, l.length = m := ⟨_, rfl⟩
    rw [hm] at HO2 HR1 ⊢
    have HM := Lib.hid hm
    have HZ := Lib.hid hz
    clear ho2 hb2 hz hl hm C2 HO1 HR
    by_cases hc : (z && decide (m ≤ 256)) = true
    · have HR2 := Lib.hid (HR1.out.trans (if_pos hc))
      simp only [Bool.and_eq_true, decide_eq_true_eq] at hc
      obtain ⟨rfl, hm256⟩ := hc
      have hI : ¬ ((m : Int) > 256) := by omega
      have hin := HH.out.fresh HB2.out
      have hsz := HH.out.fk.fs.below.size
      have hux : ∀ k, (Value.slice Au m cu).ownBlock = some k → X k ∨ (w.heap.size ≤ k ∧ k < w2.heap.size) := fun k e => .inr (HO2.out.lt k e)
      have hba : Below w2.heap.size w2 (w2.alloc (.cells #[.slice Au m cu] 25)) := (Below.refl _ _).alloc (Nat.le_refl _) _
      obtain ⟨v3, w3, hr3, ho3, hg3, hat3⟩ := run_append_rowx (ty := 33) (B := w2.heap.size) (hin.vals.under hba) ((HO2.out.more hsz).under hba) (Blk.at (t := 25) (cs := #[.slice Au m cu]) (heap_alloc_new w2 _) 0) (by have := HOK.out.few; have := HV.out; omega) (by have := HB2.out.size; simp; omega)
      obtain ⟨hs4, hk4, hb4⟩ := hin.addRow _ HG.out HG0.out hux ho3 hg3 hat3
      obtain ⟨A3, c3, rfl⟩ := ownRx_sl ho3
      obtain ⟨q3, hq3⟩ : ∃ q, (x.vals ++ [l]).length = q := ⟨_, rfl⟩
      rw [hq3] at hr3 hs4 hk4
      have c2 : w2.cell? ⟨g, 2, none⟩ = some vv := hin.blk.at 2
      have e2 : w3.cell? ⟨g, 2, none⟩ = some vv := hb4.at 2
      have f2 := Blk.free hb4 2
      have HR3 := Lib.hid hr3
      have HS4 := Lib.hid hs4
      have HK4 := Lib.hid ((HKB.out w2 HB2.out).trans hk4)
      clear hm256 hin hsz hux hba hr3 ho3 hg3 hat3 hs4 hk4 hb4 HR1 HF HKB hq3
      go_upto_region 10 with (first
        | (at_builtin; refine wpList_append_eq rfl _ _ 33 rfl _ _ rfl rfl HR3.out ?_)
        | fail)
      obtain ⟨w4, hw4⟩ : ∃ w4, w3.setCell ⟨g, 2, none⟩ (.slice A3 q3 c3) = w4 := ⟨_, rfl⟩
      rw [hw4] at HS4 HK4 ⊢
      have hs4 := HS4.out
      have hba : Below w4.heap.size w4 (w4.alloc (.cells #[.int .i64 (k : Int)] 3)) := (Below.refl _ _).alloc (Nat.le_refl _) _
      obtain ⟨v5, w5, hr5, ho5, hg5, hat5⟩ := run_append_srI (T := 37) (ty := 37) Try.underlying37 (OwnI.under hs4.stamps hba) (srI_lit w4 w4.heap.size rfl [k] 1 rfl 3 (0, 0)) (by have := HOK.out.few; have := HOK.out.same; have := HV.out; simp; omega) (by have := hs4.fk.fs.below.size; simp; omega)
      obtain ⟨hs6, hk6, hb6⟩ := hs4.addInt _ HG.out HG0.out ho5 hg5 hat5
      obtain ⟨A5, c5, rfl⟩ := ownI_sl ho5
      obtain ⟨q5, hq5⟩ : ∃ q, (x.stamps ++ [k]).length = q := ⟨_, rfl⟩
      have c3' : w4.cell? ⟨g, 3, none⟩ = some vs := hs4.blk.at 3
      have e3 : w5.cell? ⟨g, 3, none⟩ = some vs := hb6.at 3
      have f3 := Blk.free hb6 3
      dsimp only at hr5 hs6 hk6
      rw [hq5] at hr5 hs6 hk6
      have HR5 := Lib.hid hr5
      have HS6 := Lib.hid hs6
      have HK6 := Lib.hid (HK4.out.trans hk6)
      have hm256 : l.length ≤ 256 := by rw [HM.out]; omega
      have HOK2 := Lib.hid (HOK.out.more HV.out l k hm256)
      clear hs4 hba hr5 ho5 hg5 hat5 hs6 hk6 hb6 hq5 hw4 c2 e2 f2 HR3 HS4 HK4 hm256
      go_wp2_with (first
        | (at_builtin; refine wpList_append_eq rfl _ _ 37 rfl _ _ rfl rfl HR5.out ?_)
        | fail)
      go_ret
      exact SrIs.of HR2.out rfl (HS6.out.at HOK2.out) HK6.out
    · have HR2 := Lib.hid (HR1.out.trans (if_neg hc))
      have hor : z = false ∨ (z = true ∧ ((m : Int) > 256)) := by
        rcases z with _ | _
        · exact .inl rfl
        · refine .inr ⟨rfl, ?_⟩
          simp at hc
          omega
      clear hc HR1 HZ
      rcases hor with rfl | ⟨rfl, hI⟩
      all_goals
        go_wp2_with fail
        refine (HF.out w2 HB2.out).mono ?_
        rintro e w3 ⟨rfl, hs, hk⟩
        have HS := Lib.hid hs
        have HK := Lib.hid ((HKB.out w2 HB2.out).trans hk)
        clear hs hk
        go_wp2
        go_ret
        exact SrIs.of HR2.out rfl (HS.out.at HOK.out.forget) HK.out
  · have HR1 := Lib.hid (HR.out.trans (if_neg h0))
    have hI := srn h0
    clear h0 HR
    go_wp2_with fail
    refine (HF.out w1 HB1.out).mono ?_
    rintro e w2 ⟨rfl, hs, hk⟩
    have HS := Lib.hid hs
    have HK := Lib.hid ((HKB.out w1 HB1.out).trans hk)
    clear hs hk
    go_wp2
    go_ret
    exact SrIs.of HR1.out rfl (HS.out.at HOK.out.forget) HK.out
end Go.Proofs.Ytoloidfkpfdboaa
