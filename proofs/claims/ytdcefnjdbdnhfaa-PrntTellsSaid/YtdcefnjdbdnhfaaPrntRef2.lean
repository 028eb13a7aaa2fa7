/- What the document reads of a print. -/
import Derived.Test.YtdcefnjdbdnhfaaPrntRef
namespace Go.Proofs.Ytdcefnjdbdnhfaa
set_option maxRecDepth 100000
open Go.ChangeShapes Go.WideShapes Go.ChangeAt Go.RowKit

set_option maxRecDepth 100000 in
set_option maxHeartbeats 8000000 in
theorem refpparse_any (v : Value) (b : List Nat) (w : World) (hv : Bytes w v b) (hb : b.length ≤ 100000) :
    Calls Try.prog 14 #[v] w fun e w' => PairIs w e w' (Pr.parse 11 10000 b) := by
  have HV := Lib.hid hv
  have H8 : Hid (∀ c ∈ b, c < 256) := Lib.hid hv.parts.1
  have HR1 : Hid (Ref (w.alloc (.cells #[v, .bool false] 55)) w.heap.size w.heap.size (some b)) := Lib.hid (ref_new hv (by omega))
  have HB1 : Hid (Below w.heap.size w (w.alloc (.cells #[v, .bool false] 55))) := Lib.hid ((Below.refl _ _).alloc (Nat.le_refl _) _)
  have HZ1 : Hid ((w.alloc (.cells #[v, .bool false] 55)).heap.size = w.heap.size + 1) := Lib.hid (by simp)
  obtain ⟨_, _, A, c, rfl, _, _⟩ := hv.parts
  obtain ⟨w1, hw1⟩ : ∃ w1, w.alloc (.cells #[.slice A b.length c, .bool false] 55) = w1 := ⟨_, rfl⟩
  rw [hw1] at HR1 HB1 HZ1
  have HW1 := Lib.hid hw1
  clear hv hw1
  obtain ⟨g, hg⟩ : ∃ g, w.heap.size = g := ⟨_, rfl⟩
  have HGE := Lib.hid hg
  rw [hg] at HR1 HZ1
  clear hg
  obtain ⟨s1, hs1⟩ : ∃ s, Cd.bytesS (some b) 10000 = s := ⟨_, rfl⟩
  obtain ⟨M, hM⟩ : ∃ M, Cd.bytesL (some b) 10000 = M := ⟨_, rfl⟩
  have HML : Hid (M.length ≤ 1000000) := Lib.hid (by have := Pr.bytesL_le (s := some b) (most := 10000) (by omega); rw [hM] at this; omega)
  have H8s : Hid (∀ l, some b = some l → ∀ c ∈ l, c < 256) := Lib.hid (fun l hl => by injection hl with hl; rw [← hl]; exact H8.out)
  have HS1 : Hid (∀ l, s1 = some l → ∀ c ∈ l, c < 256) := Lib.hid (by rw [← hs1]; exact Pr.bytesS_sub H8s.out)
  have HT2 : Hid (Pr.parse 11 10000 b = Pr.pair (Pr.act 11 M) s1) := Lib.hid (by rw [Pr.parse_eq, hM, hs1])
  have HC2 : Hid (Calls Try.prog 31 #[.pointer (some ⟨g, 0, none⟩), .int .i64 10000] w1 (ToldBytes g g s1 M w1)) := Lib.hid (by rw [← hM, ← hs1]; exact refrbytes_any g g _ 10000 w1 HR1.out)
  clear hs1 hM
  go_enter Try.func14, Try.ntmps14
  go_wp2_with fail
  rw [HW1.out, HGE.out]
  refine HC2.out.mono ?_
  rintro e w2 ⟨v2, rfl, ho2, hr2, hg2⟩
  have HGW : Hid (w.heap.size ≤ g ∧ g < w1.heap.size) := Lib.hid (by have := HZ1.out; rw [HGE.out]; omega)
  have HR2 := Lib.hid hr2
  have HO2 := Lib.hid ho2.bytes
  have HB2 : Hid (Below w.heap.size w w2) := Lib.hid (HB1.out.trans (Below.ofGrown hg2 HGW.out.1 HB1.out.size))
  have HZ2 : Hid (w1.heap.size ≤ w2.heap.size) := Lib.hid hg2.size
  clear hr2 ho2 hg2 HC2 HR1 HV
  go_wp2_with fail
  refine (refact_any v2 M w2 HO2.out HML.out).mono ?_
  rintro e w3 ⟨u3, q3, L, rfl, ho3, hb3, hk⟩
  have HR3 := Lib.hid (HR2.out.under hb3)
  have HO3 : Hid (OwnD w3 w1.heap.size u3 L) := Lib.hid (ho3.more HZ2.out)
  have HB3 : Hid (Below w.heap.size w w3) := Lib.hid (HB2.out.trans (hb3.mono HB2.out.size))
  have HZ3 : Hid (w1.heap.size ≤ w3.heap.size) := Lib.hid (Nat.le_trans HZ2.out hb3.size)
  have HT3 : Hid (Pr.parse 11 10000 b = if q3 && Pr.behind s1 then some (L, Pr.inputs s1) else none) := Lib.hid (by
    rw [HT2.out, hk]
    rcases q3 with _ | _
    · rfl
    · rfl)
  clear ho3 hb3 hk HT2 HR2 HO2 HB2 HZ2
  obtain ⟨m, hm⟩ : ∃ m, Cd.numN s1 8 = m := ⟨_, rfl⟩
  obtain ⟨s, hs⟩ : ∃ s, Cd.numS s1 8 = s := ⟨_, rfl⟩
  have HM : Hid (m ≤ 8) := Lib.hid (by have := Pr.numN_le (s := s1) (most := 8) (by decide); omega)
  have HBI : Hid (Pr.behind s1 = Cd.endB (Pr.iS s m) ∧ Pr.inputs s1 = Pr.iL s m) := Lib.hid (by unfold Pr.behind Pr.inputs; rw [hm, hs]; exact ⟨rfl, rfl⟩)
  have HC4 : Hid (Calls Try.prog 32 #[.pointer (some ⟨g, 0, none⟩), .int .i64 8] w3 (Told g g s (.int .i64 (m : Int)) w3)) := Lib.hid (by rw [← hm, ← hs]; exact refrnum_any g g s1 8 w3 HR3.out)
  clear hs hm
  go_wp2_with fail
  refine HC4.out.mono ?_
  rintro e w4 ⟨rfl, hr4, hg4⟩
  have HR4 := Lib.hid hr4
  have HO4 := Lib.hid (HO3.out.past hg4 HGW.out.2)
  have HB4 : Hid (Below w.heap.size w w4) := Lib.hid (HB3.out.trans (Below.ofGrown hg4 HGW.out.1 HB3.out.size))
  have HZ4 : Hid (w1.heap.size ≤ w4.heap.size) := Lib.hid (Nat.le_trans HZ3.out hg4.size)
  clear hr4 hg4 HR3 HO3 HB3 HZ3 HC4
  have hm8 : m ≤ 8 := HM.out
  go_wp2_with fail
  go_loopg [8, 9] m (fun q u i wr => ∃ k : Nat, k ≤ m ∧ m - k ≤ q ∧ i = .int .i64 ((m - k : Nat) : Int) ∧ Hid (Ref wr g g (Pr.iS s k)) ∧ Hid (OwnR wr w1.heap.size u (Pr.iL s k)) ∧ Hid (OwnD wr w1.heap.size u3 L) ∧ Hid (Below w.heap.size w wr) ∧ Hid (w1.heap.size ≤ wr.heap.size))
  case atStart => exact ⟨0, by omega, by omega, rfl, HR4, Lib.hid (ownR_none _ _), HO4, HB4, HZ4⟩
  case round =>
    obtain ⟨k, hk, hq, rfl, hR, hO, hD, hBl, hZ⟩ := hrel
    obtain ⟨wz, rfl⟩ : ∃ wx : World, wx = wr := ⟨_, rfl⟩
    by_cases hlt : k < m
    · obtain ⟨d, hd⟩ : ∃ d, m - k = d := ⟨_, rfl⟩
      have hd0 : 0 < d := by omega
      have hdI : (0 : Int) < (d : Int) := by omega
      have hd1 : ((d : Int) - 1) = ((m - (k + 1) : Nat) : Int) := by omega
      have hd8 : d ≤ 8 := by omega
      rw [hd]
      have HD1 := Lib.hid hd1
      obtain ⟨sk, hsk⟩ : ∃ sk, Pr.iS s k = sk := ⟨_, rfl⟩
      have HNS : Hid (Pr.iS s (k + 1) = Cd.bytesS sk 256) := Lib.hid (by rw [← hsk]; rfl)
      obtain ⟨x, hx⟩ : ∃ x, Cd.bytesL sk 256 = x := ⟨_, rfl⟩
      have HNL : Hid (Pr.iL s k ++ [x] = Pr.iL s (k + 1)) := Lib.hid (by rw [Pr.iL, hsk, hx])
      have HLN : Hid ((Pr.iL s k).length = k) := Lib.hid (Pr.iL_len _ _)
      rw [hsk] at hR
      have HC5 : Hid (Calls Try.prog 31 #[.pointer (some ⟨g, 0, none⟩), .int .i64 256] wz (ToldBytes g g (Cd.bytesS sk 256) x wz)) := Lib.hid (by rw [← hx]; exact refrbytes_any g g _ 256 wz hR.out)
      clear hx hsk hd hd1 hd0
      go_wp2_with fail
      refine HC5.out.mono ?_
      rintro e w5 ⟨v5, rfl, ho5, hr5, hg5⟩
      have HR5 := Lib.hid hr5
      have HO5 := Lib.hid (hO.out.past hg5 HGW.out.2)
      have HD5 := Lib.hid (hD.out.past hg5 HGW.out.2)
      have HV5 := Lib.hid (ho5.more hZ.out)
      have HB5 : Hid (Below w.heap.size w w5) := Lib.hid (hBl.out.trans (Below.ofGrown hg5 HGW.out.1 hBl.out.size))
      have HZ5 : Hid (w1.heap.size ≤ w5.heap.size) := Lib.hid (Nat.le_trans hZ.out hg5.size)
      obtain ⟨_, _, A5, c5, rfl, _, _⟩ := ho5.bytes.parts
      clear hr5 hg5 ho5 hR hO hD hBl hZ HC5
      go_wp2_with (at_builtin; refine wpList_append_row rfl _ _ rfl w1.heap.size w5.heap.size _ (.slice A5 x.length c5) (Pr.iL s k) x rfl ((HO5.out.under ((Below.refl _ _).alloc (Nat.le_refl _) _))) rfl (HV5.out.alloc _) (Blk.at (t := 23) (cs := #[.slice A5 x.length c5]) (heap_alloc_new w5 _) 0) (by rw [HLN.out]; omega) (by have := HZ5.out; simp; omega) _ HNL.out ?_)
      rintro u' w' ⟨hO', hg', _, hb'⟩
      have HO' := Lib.hid hO'
      have ba : Below w5.heap.size w5 (w5.alloc (.cells #[.slice A5 x.length c5] 23)) := (Below.refl _ _).alloc (Nat.le_refl _) _
      have HR' : Hid (Ref w' g g (Pr.iS s (k + 1))) := Lib.hid (by rw [HNS.out]; exact (HR5.out.under ba).past hg' HGW.out.2 HO5.out.base)
      have HD' : Hid (OwnD w' w1.heap.size u3 L) := Lib.hid ((HD5.out.under ba).grown hg' (ownD_apartR (HD5.out.under ba) (HO5.out.under ba)))
      have HB' : Hid (Below w.heap.size w w') := Lib.hid ((HB5.out.alloc HB5.out.size _).trans (hb'.mono (by have := HGW.out; omega)))
      have HZ' : Hid (w1.heap.size ≤ w'.heap.size) := Lib.hid (by have h1 := HZ5.out; have h2 := hg'.size; simp at h2; omega)
      clear hO' hg' hb' ba
      go_wp2
      go_roundg (m - (k + 1))
      case measure => omega
      case rel => exact ⟨k + 1, hlt, by omega, by rw [← HD1.out], HR', HO', HD', HB', HZ'⟩
    · obtain rfl : k = m := by omega
      obtain ⟨q1, hq1⟩ : ∃ q, Cd.endB (Pr.iS s k) = q := ⟨_, rfl⟩
      have HQ1 := Lib.hid hq1
      rw [HBI.out.1, HBI.out.2, hq1] at HT3
      clear hq1 hlt
      rw [Nat.sub_self]
      rcases q3 with _ | _
      · go_wp2_with fail
        go_ret3
        exact pair_none (by rw [HT3.out]; rfl) rfl hBl.out
      · go_wp2_with fail
        refine (refend_any _ g _ wz hR.out).mono ?_
        rintro e w5 ⟨rfl, rfl⟩
        rw [HQ1.out]
        rcases q1 with _ | _
        · go_wp2_with fail
          go_ret3
          exact pair_none (by rw [HT3.out]; rfl) rfl hBl.out
        · go_wp2_with fail
          go_ret3
          exact pair_some (by rw [HT3.out]; rfl) _ _ rfl (hD.out.more (by have := HGW.out; omega)) (hO.out.more (by have := HGW.out; omega)) hBl.out
end Go.Proofs.Ytdcefnjdbdnhfaa
