/- What the document reads of an action's bytes, and of a print. -/
import Derived.Test.YtdcefnjdbdnhfaaPrntParse
import Derived.Test.YtdcefnjdbdnhfaaCodeRef
import Derived.Test.YtdcefnjdbdnhfaaActOk
namespace Go.Proofs.Ytdcefnjdbdnhfaa
set_option maxRecDepth 100000
open Go.ChangeShapes Go.WideShapes Go.ChangeAt Go.RowKit

theorem Ref.past {w w' : World} {hi g base : Nat} {s : Cd.St} {u : Value} (h : Ref w hi g s) (hg : w.grownBy w' u.ownBlock) (hlt : g < base) (hu : ∀ k, u.ownBlock = some k → base ≤ k) : Ref w' hi g s :=
  h.grown hg fun k hk => by
    have h1 := hu k hk
    have h2 := h.1
    omega
theorem Ref.setPast {w : World} {hi g gD : Nat} {s : Cd.St} (h : Ref w hi g s) (hlt : g < gD) (i : Nat) (x : Value) : Ref (w.setCell ⟨gD, i, none⟩ x) hi g s :=
  h.grown (grown_setCell w ⟨gD, i, none⟩ x) fun k hk => by
    have h2 := h.1
    injection hk with hk
    change gD = k at hk
    omega
theorem OwnD.setPast {w : World} {base gD : Nat} {u : Value} {L : List Ac.D} (h : OwnD w base u L) (hlt : ∀ k, u.ownBlock = some k → k < gD) (i : Nat) (x : Value) : OwnD (w.setCell ⟨gD, i, none⟩ x) base u L := by
  refine h.grown (grown_setCell w ⟨gD, i, none⟩ x) ?_
  rcases hv : u.ownBlock with _ | k
  · exact .inl rfl
  · refine .inr fun e => ?_
    injection e with e
    have := hlt k hv
    change k = gD at e
    omega
/-- A new reader of the document's. -/
theorem ref_new {w : World} {v : Value} {b : List Nat} (h : Bytes w v b) (hl : b.length ≤ 1099511627776) : Ref (w.alloc (.cells #[v, .bool false] 55)) w.heap.size w.heap.size (some b) :=
  ⟨Nat.le_refl _, v, heap_alloc_new w _, h.alloc _, fun h0 => h.between h0, hl⟩
set_option maxRecDepth 100000 in
set_option maxHeartbeats 8000000 in
theorem refact_any (v : Value) (b : List Nat) (w : World) (hv : Bytes w v b) (hb : b.length ≤ 1000000) :
    Calls Try.prog 30 #[v] w fun e w' => ∃ u q L, e = .returned (.tuple #[u, .bool q]) ∧ OwnD w' w.heap.size u L ∧ Below w.heap.size w w' ∧ Pr.act 11 b = if q then some L else none := by
  have HV := Lib.hid hv
  have H8 : Hid (∀ c ∈ b, c < 256) := Lib.hid hv.parts.1
  have HR1 : Hid (Ref (w.alloc (.cells #[v, .bool false] 55)) w.heap.size w.heap.size (some b)) := Lib.hid (ref_new hv (by omega))
  have HB1 : Hid (Below w.heap.size w (w.alloc (.cells #[v, .bool false] 55))) := Lib.hid ((Below.refl _ _).alloc (Nat.le_refl _) _)
  have HZ1 : Hid ((w.alloc (.cells #[v, .bool false] 55)).heap.size = w.heap.size + 1) := Lib.hid (by simp)
  obtain ⟨_, _, A, c, rfl, _, _⟩ := hv.parts
  obtain ⟨w1, hw1⟩ : ∃ w1, w.alloc (.cells #[.slice A b.length c, .bool false] 55) = w1 := ⟨_, rfl⟩
  rw [hw1] at HR1 HB1 HZ1
  have HW1 := Lib.hid hw1
  clear hv hw1
  obtain ⟨g, hg⟩ : ∃ g, w.heap.size = g := ⟨_, rfl⟩
  have HGE := Lib.hid hg
  rw [hg] at HR1 HZ1
  clear hg
  go_enter Try.func30, Try.ntmps30
  go_wp2_with fail
  rw [HW1.out, HGE.out]
  obtain ⟨m, hm⟩ : ∃ m, Cd.numN (some b) 8 = m := ⟨_, rfl⟩
  obtain ⟨s, hs⟩ : ∃ s, Cd.numS (some b) 8 = s := ⟨_, rfl⟩
  have HM : Hid (m ≤ 8) := Lib.hid (by have := Pr.numN_le (s := some b) (most := 8) (by decide); omega)
  have HS : Hid (∀ l, s = some l → ∀ c ∈ l, c < 256) := Lib.hid (by rw [← hs]; exact Pr.numS_sub (fun l hl => by injection hl with hl; rw [← hl]; exact H8.out))
  have HTT : Hid (Pr.act 11 b = if Cd.endB (Pr.sts 11 s m) && Ac.ok (Pr.rds 11 s m) then some (Pr.rds 11 s m) else none) := Lib.hid (by unfold Pr.act; rw [hm, hs])
  have HC1 := refrnum_any g g (some b) 8 w1 HR1.out
  rw [hm, hs] at HC1
  have HC := Lib.hid HC1
  clear hm hs HC1
  refine HC.out.mono ?_
  rintro e w2 ⟨rfl, hr2, hg2⟩
  have HR2 := Lib.hid hr2
  have HB2 : Hid (Below w.heap.size w w2) := Lib.hid (HB1.out.trans (Below.ofGrown hg2 (by rw [HGE.out]; exact Nat.le_refl _) HB1.out.size))
  have HZ2 : Hid (w1.heap.size ≤ w2.heap.size) := Lib.hid hg2.size
  clear hr2 hg2 HC HR1 HV
  have hm8 : m ≤ 8 := HM.out
  go_wp2_with fail
  go_loopg [5, 6] m (fun q u i wr => ∃ k : Nat, k ≤ m ∧ m - k ≤ q ∧ i = .int .i64 ((m - k : Nat) : Int) ∧ Hid (Ref wr g g (Pr.sts 11 s k)) ∧ Hid (OwnD wr w1.heap.size u (Pr.rds 11 s k)) ∧ Hid (Below w.heap.size w wr) ∧ Hid (w1.heap.size ≤ wr.heap.size))
  case atStart => exact ⟨0, by omega, by omega, rfl, HR2, Lib.hid (ownD_none _ _), HB2, HZ2⟩
  case round =>
    obtain ⟨k, hk, hq, rfl, hR, hO, hBl, hZ⟩ := hrel
    obtain ⟨wz, rfl⟩ : ∃ wx : World, wx = wr := ⟨_, rfl⟩
    have HGW : Hid (w.heap.size ≤ g ∧ g < w1.heap.size) := Lib.hid (by have := HZ1.out; rw [HGE.out]; omega)
    by_cases hlt : k < m
    · obtain ⟨d, hd⟩ : ∃ d, m - k = d := ⟨_, rfl⟩
      have hd0 : 0 < d := by omega
      have hdI : (0 : Int) < (d : Int) := by omega
      have hd1 : ((d : Int) - 1) = ((m - (k + 1) : Nat) : Int) := by omega
      have hd8 : d ≤ 8 := by omega
      rw [hd]
      have HD1 := Lib.hid hd1
      obtain ⟨sk, hsk⟩ : ∃ sk, Pr.sts 11 s k = sk := ⟨_, rfl⟩
      have HNS : Hid (Pr.sts 11 s (k + 1) = Cd.bytesS (Cd.numS (Cd.numS sk 11) 999) 64) := Lib.hid (by rw [← hsk]; rfl)
      obtain ⟨kd, hkd⟩ : ∃ x, Cd.numN sk 11 = x := ⟨_, rfl⟩
      obtain ⟨nn, hnn⟩ : ∃ x, Cd.numN (Cd.numS sk 11) 999 = x := ⟨_, rfl⟩
      obtain ⟨tx, htx⟩ : ∃ x, Cd.bytesL (Cd.numS (Cd.numS sk 11) 999) 64 = x := ⟨_, rfl⟩
      have HNL : Hid (Pr.rds 11 s k ++ [⟨kd, nn, tx⟩] = Pr.rds 11 s (k + 1)) := Lib.hid (by rw [Pr.rds, hsk]; unfold Pr.rdD; rw [hkd, hnn, htx])
      have HLN : Hid ((Pr.rds 11 s k).length = k) := Lib.hid (Pr.rds_len _ _ _)
      rw [hsk] at hR
      have HC3 : Hid (Calls Try.prog 32 #[.pointer (some ⟨g, 0, none⟩), .int .i64 11] wz (Told g g (Cd.numS sk 11) (.int .i64 (kd : Int)) wz)) := Lib.hid (by rw [← hkd]; exact refrnum_any g g sk 11 wz hR.out)
      have HC4 : Hid (∀ W, Ref W g g (Cd.numS sk 11) → Calls Try.prog 32 #[.pointer (some ⟨g, 0, none⟩), .int .i64 999] W (Told g g (Cd.numS (Cd.numS sk 11) 999) (.int .i64 (nn : Int)) W)) := Lib.hid (fun W h => by rw [← hnn]; exact refrnum_any g g _ 999 W h)
      have HC5 : Hid (∀ W, Ref W g g (Cd.numS (Cd.numS sk 11) 999) → Calls Try.prog 31 #[.pointer (some ⟨g, 0, none⟩), .int .i64 64] W (ToldBytes g g (Cd.bytesS (Cd.numS (Cd.numS sk 11) 999) 64) tx W)) := Lib.hid (fun W h => by rw [← htx]; exact refrbytes_any g g _ 64 W h)
      clear hkd hnn htx hsk hd hd1 hd0
      go_wp2_with fail
      refine HC3.out.mono ?_
      rintro e w3 ⟨rfl, hr3, hg3⟩
      have HR3 := Lib.hid hr3
      have HO3 := Lib.hid (hO.out.past hg3 HGW.out.2)
      have HB3 : Hid (Below w.heap.size w w3) := Lib.hid (hBl.out.trans (Below.ofGrown hg3 HGW.out.1 hBl.out.size))
      have HZ3 : Hid (w1.heap.size ≤ w3.heap.size) := Lib.hid (Nat.le_trans hZ.out hg3.size)
      clear hr3 hg3 hR hO hBl hZ HC3
      go_wp2_with fail
      refine (HC4.out _ HR3.out).mono ?_
      rintro e w4 ⟨rfl, hr4, hg4⟩
      have HR4 := Lib.hid hr4
      have HO4 := Lib.hid (HO3.out.past hg4 HGW.out.2)
      have HB4 : Hid (Below w.heap.size w w4) := Lib.hid (HB3.out.trans (Below.ofGrown hg4 HGW.out.1 HB3.out.size))
      have HZ4 : Hid (w1.heap.size ≤ w4.heap.size) := Lib.hid (Nat.le_trans HZ3.out hg4.size)
      clear hr4 hg4 HR3 HO3 HB3 HZ3 HC4
      obtain ⟨w5, hw5⟩ : ∃ w5, w4.alloc (.cells #[.int .i64 (kd : Int), .int .i64 (nn : Int), .string ⟨#[]⟩] 26) = w5 := ⟨_, rfl⟩
      obtain ⟨gD, hgD⟩ : ∃ gD, w4.heap.size = gD := ⟨_, rfl⟩
      have ba : Below w4.heap.size w4 w5 := by rw [← hw5]; exact (Below.refl _ _).alloc (Nat.le_refl _) _
      have HX5 : Hid (Blk w5 gD 26 #[.int .i64 (kd : Int), .int .i64 (nn : Int), .string ⟨#[]⟩]) := Lib.hid (by rw [← hw5, ← hgD]; exact heap_alloc_new w4 _)
      have HR5 := Lib.hid (HR4.out.under ba)
      have HO5 := Lib.hid (HO4.out.under ba)
      have HB5 : Hid (Below w.heap.size w w5) := Lib.hid (HB4.out.trans (ba.mono HB4.out.size))
      have HL5 : Hid (∀ j, u5.ownBlock = some j → j < gD) := Lib.hid (fun j hj => by rw [← hgD]; exact (HO4.out.lt j hj).2)
      have HG5 : Hid (g < gD ∧ w1.heap.size ≤ gD ∧ w1.heap.size ≤ w5.heap.size) := Lib.hid (by have h1 := HGW.out; have h2 := HZ4.out; have h3 := ba.size; omega)
      have HW5 := Lib.hid hw5
      have HGD := Lib.hid hgD
      clear hw5 hgD ba HR4 HO4 HB4 HZ4
      go_wp2_with fail
      rw [HW5.out, HGD.out]
      refine (HC5.out _ HR5.out).mono ?_
      rintro e w6 ⟨v6, rfl, ho6, hr6, hg6⟩
      have HX6 := Lib.hid (HX5.out.grown hg6 (fun e => by injection e with e; have := HG5.out; omega))
      have HR6 := Lib.hid hr6
      have HO6 := Lib.hid (HO5.out.past hg6 HGW.out.2)
      have HB6 : Hid (Below w.heap.size w w6) := Lib.hid (HB5.out.trans (Below.ofGrown hg6 HGW.out.1 HB5.out.size))
      have HZ6 : Hid (w1.heap.size ≤ w6.heap.size) := Lib.hid (by have := HG5.out; exact Nat.le_trans this.2.2 hg6.size)
      have hrt := run_text ho6.bytes
      have f2 := HX6.out.free 2
      have c2 := HX6.out.at 2
      obtain ⟨_, _, A6, c6, rfl, _, _⟩ := ho6.bytes.parts
      clear hr6 hg6 ho6 HR5 HO5 HB5 HX5 HC5
      obtain ⟨w7, hw7⟩ : ∃ w7, w6.setCell ⟨gD, 2, none⟩ (.string (str tx)) = w7 := ⟨_, rfl⟩
      have HX7 : Hid (Blk w7 gD 26 #[.int .i64 (kd : Int), .int .i64 (nn : Int), .string (str tx)]) := Lib.hid (by rw [← hw7]; exact HX6.out.set 2 _)
      have HR7 : Hid (Ref w7 g g (Pr.sts 11 s (k + 1))) := Lib.hid (by rw [← hw7, HNS.out]; exact HR6.out.setPast HG5.out.1 2 _)
      have HO7 : Hid (OwnD w7 w1.heap.size u5 (Pr.rds 11 s k)) := Lib.hid (by rw [← hw7]; exact HO6.out.setPast HL5.out 2 _)
      have HB7 : Hid (Below w.heap.size w w7) := Lib.hid (by rw [← hw7]; exact HB6.out.setCell (p := ⟨gD, 2, none⟩) (by have h1 := HGW.out; have h2 := HG5.out; show w.heap.size ≤ gD; omega) _)
      have HZ7 : Hid (w1.heap.size ≤ w7.heap.size) := Lib.hid (by rw [← hw7]; have := HZ6.out; simpa using this)
      have HW7 := Lib.hid hw7
      clear hw7 HX6 HR6 HO6 HB6 HZ6
      go_upto_region 8 with fail
      rw [HW7.out]
      have c0' := HX7.out.at 0
      have c1' := HX7.out.at 1
      have c2' := HX7.out.at 2
      change w7.cell? ⟨gD, 0, none⟩ = some (.int .i64 (kd : Int)) at c0'
      change w7.cell? ⟨gD, 1, none⟩ = some (.int .i64 (nn : Int)) at c1'
      change w7.cell? ⟨gD, 2, none⟩ = some (.string (str tx)) at c2'
      clear hrt f2 c2 HW7 HW5
      go_wp2_with (at_builtin; refine wpList_append_do rfl _ _ rfl w1.heap.size w7.heap.size _ (Pr.rds 11 s k) ⟨kd, nn, tx⟩ rfl (HO7.out.alloc _) rfl (cellsD_text kd nn tx w7) (by rw [HLN.out]; omega) (by have := HZ7.out; simp; omega) _ HNL.out ?_)
      rintro u' w' hO' hg' hb'
      have HO' := Lib.hid hO'
      have HR' : Hid (Ref w' g g (Pr.sts 11 s (k + 1))) := Lib.hid ((HR7.out.under ((Below.refl _ _).alloc (Nat.le_refl _) _)).past hg' HGW.out.2 (fun j hj => (HO7.out.lt j hj).1))
      have HB' : Hid (Below w.heap.size w w') := Lib.hid ((HB7.out.alloc HB7.out.size _).trans (hb'.mono (by have := HGW.out; omega)))
      have HZ' : Hid (w1.heap.size ≤ w'.heap.size) := Lib.hid (by have h1 := HZ7.out; have h2 := hg'.size; simp at h2; omega)
      clear hO' hg' hb' c0' c1' c2'
      go_wp2
      go_roundg (m - (k + 1))
      case measure => omega
      case rel => exact ⟨k + 1, hlt, by omega, by rw [← HD1.out], HR', HO', HB', HZ'⟩
    · obtain rfl : k = m := by omega
      obtain ⟨q1, hq1⟩ : ∃ q, Cd.endB (Pr.sts 11 s k) = q := ⟨_, rfl⟩
      obtain ⟨q2, hq2⟩ : ∃ q, Ac.ok (Pr.rds 11 s k) = q := ⟨_, rfl⟩
      have HQ2 := Lib.hid hq2
      have HQ1 := Lib.hid hq1
      rw [hq1, hq2] at HTT
      clear hq1 hq2 hlt
      rw [Nat.sub_self]
      go_wp2_with fail
      refine (refend_any _ g _ wz hR.out).mono ?_
      rintro e w3 ⟨rfl, rfl⟩
      rw [HQ1.out]
      rcases q1 with _ | _
      · go_wp2_with fail
        go_ret2
        exact ⟨_, false, _, rfl, hO.out.more (by have := HGW.out; omega), hBl.out, HTT.out⟩
      · have HOK : Hid (Calls Try.prog 34 #[u5] wz fun e w' => e = .returned (.bool q2) ∧ Below wz.heap.size wz w') := Lib.hid (by
          have := refokact_any u5 (Pr.rds 11 s k) wz hO.out.rd (fun d hd => by
            have := Pr.rds_good (by decide) HS.out k d hd
            exact ⟨this.2.2.2, by omega⟩)
          rw [HQ2.out] at this
          exact this)
        go_wp2_with fail
        refine HOK.out.mono ?_
        rintro e w4 ⟨rfl, hb4⟩
        have HB4 := Lib.hid (hBl.out.trans (hb4.mono hBl.out.size))
        have HO4 := Lib.hid ((hO.out.under hb4).more (base' := w.heap.size) (by have := HGW.out; omega))
        clear hb4
        go_wp2_with fail
        go_ret2
        exact ⟨_, q2, _, rfl, HO4.out, HB4.out, HTT.out⟩
end Go.Proofs.Ytdcefnjdbdnhfaa
