/- What package prnt reads of an action's bytes. -/
import Derived.Test.YtldnpedegcbglaaPrntMath
import Derived.Test.YtldnpedegcbglaaActProgOk
import Derived.Test.YtldnpedegcbglaaCode
import Derived.Test.YtldnpedegcbglaaRowsB
import Derived.Deep.DeepCutAuto
import Derived.Deep.CutRange
import Derived.Deep.RegionWith
namespace Go.Proofs.Ytldnpedegcbglaa
set_option maxRecDepth 100000
open Go.ChangeShapes Go.WideShapes Go.ChangeAt Go.RowKit

/-- An action of the call's own, or none. -/
def ActIs (w : World) (e : Ending) (w' : World) : Option (List Ac.D) → Prop
  | some L => (∃ u, e = .returned (.tuple #[u, .bool true]) ∧ OwnD w' w.heap.size u L) ∧ Below w.heap.size w w'
  | none => e = .returned (.tuple #[.slice none 0 0, .bool false]) ∧ Below w.heap.size w w'
theorem act_none {w w' : World} {e : Ending} {T : Option (List Ac.D)} (h : T = none) (he : e = .returned (.tuple #[.slice none 0 0, .bool false])) (hb : Below w.heap.size w w') : ActIs w e w' T := by
  rw [h]
  exact ⟨he, hb⟩
theorem act_some {w w' : World} {e : Ending} {T : Option (List Ac.D)} {L : List Ac.D} (h : T = some L) (u : Value) (he : e = .returned (.tuple #[u, .bool true])) (ho : OwnD w' w.heap.size u L) (hb : Below w.heap.size w w') : ActIs w e w' T := by
  rw [h]
  exact ⟨⟨u, he, ho⟩, hb⟩
/-- A reader, and a row of things behind it. -/
theorem OwnD.past {w w' : World} {base g : Nat} {u : Value} {L : List Ac.D} (h : OwnD w base u L) (hg : w.grownBy w' (some g)) (hlt : g < base) : OwnD w' base u L := by
  refine h.grown hg ?_
  rcases hv : u.ownBlock with _ | k
  · exact .inl rfl
  · refine .inr fun e => ?_
    injection e with e
    have := (h.lt k hv).1
    omega
theorem Rdr.past {w w' : World} {lo hi g base : Nat} {s : Cd.St} {u : Value} (h : Rdr w lo hi g s) (hg : w.grownBy w' u.ownBlock) (hlt : g < base) (hu : ∀ k, u.ownBlock = some k → base ≤ k) : Rdr w' lo hi g s :=
  h.grown hg fun k hk => by
    have h1 := hu k hk
    have h2 := h.1
    omega
theorem cellsD_text (k n : Nat) (t : List Nat) (w : World) (j : Nat) (y : Value) (hy : (cellsD ⟨k, n, t⟩)[j]? = some y) : (w.alloc (.cells #[.int .i64 (k : Int), .int .i64 (n : Int), .string (str t)] 26)).cell? ⟨w.heap.size, j, none⟩ = some y := by
  have h := heap_alloc_new w (.cells #[.int .i64 (k : Int), .int .i64 (n : Int), .string (str t)] 26)
  rw [cell_of_row _ _ j _ _ _ h]
  exact List.getElem?_toArray.trans hy
set_option maxRecDepth 100000 in
set_option maxHeartbeats 8000000 in
theorem paction_any (v : Value) (b : List Nat) (w : World) (hv : Bytes w v b) (hb : b.length ≤ 1000000) (T : Option (List Ac.D)) (hT : T = Pr.act 999 b) :
    Calls Try.prog 25 #[v] w fun e w' => ActIs w e w' T := by
  have HV := Lib.hid hv
  have HT := Lib.hid hT
  have H8 : Hid (∀ c ∈ b, c < 256) := Lib.hid hv.parts.1
  clear hv hT
  go_enter Try.func25, Try.ntmps25
  go_wp2_with fail
  refine (read_any v b w HV.out (by omega)).mono ?_
  rintro e w1 ⟨g, rfl, hg1, hg2, hr, hb1⟩
  have HG : Hid (w.heap.size ≤ g ∧ g < w1.heap.size) := Lib.hid ⟨hg1, hg2⟩
  have HR := Lib.hid hr
  have HB := Lib.hid hb1
  clear hg1 hg2 hr hb1
  go_wp2_with fail
  obtain ⟨m, hm⟩ : ∃ m, Cd.numN (some b) 8 = m := ⟨_, rfl⟩
  obtain ⟨s, hs⟩ : ∃ s, Cd.numS (some b) 8 = s := ⟨_, rfl⟩
  have HM : Hid (m ≤ 8) := Lib.hid (by have := Pr.numN_le (s := some b) (most := 8) (by decide); omega)
  have HS : Hid (∀ l, s = some l → ∀ c ∈ l, c < 256) := Lib.hid (by rw [← hs]; exact Pr.numS_sub (fun l hl => by injection hl with hl; rw [← hl]; exact H8.out))
  have HTT : Hid (T = if Cd.endB (Pr.sts 999 s m) && Ac.ok (Pr.rds 999 s m) then some (Pr.rds 999 s m) else none) := Lib.hid (by rw [HT.out]; unfold Pr.act; rw [hm, hs])
  refine (rnum_is _ _ g _ s _ (m : Int) w1 HR.out hs (by rw [hm])).mono ?_
  rintro e w2 ⟨rfl, hr2, hg2⟩
  have HR2 := Lib.hid hr2
  have HB2 : Hid (Below w.heap.size w w2) := Lib.hid (HB.out.trans (Below.ofGrown hg2 HG.out.1 HB.out.size))
  have HZ2 : Hid (w1.heap.size ≤ w2.heap.size) := Lib.hid hg2.size
  clear hr2 hg2 hm hs HT HV HR HB
  have hm8 : m ≤ 8 := HM.out
  go_wp2_with fail
  go_loopg [5, 12] m (fun q u i wr => ∃ k : Nat, k ≤ m ∧ m - k ≤ q ∧ i = .int .i64 (k : Int) ∧ Hid (Rdr wr w.heap.size g g (Pr.sts 999 s k)) ∧ Hid (OwnD wr w1.heap.size u (Pr.rds 999 s k)) ∧ Hid (Below w.heap.size w wr) ∧ Hid (w1.heap.size ≤ wr.heap.size))
  case atStart => exact ⟨0, by omega, by omega, rfl, HR2, Lib.hid (ownD_none _ _), HB2, HZ2⟩
  case round =>
    obtain ⟨k, hk, hq, rfl, hR, hO, hBl, hZ⟩ := hrel
    obtain ⟨wz, rfl⟩ : ∃ wx : World, wx = wr := ⟨_, rfl⟩
    by_cases hlt : k < m
    · have hkI : (k : Int) < (m : Int) := by omega
      obtain ⟨sk, hsk⟩ : ∃ sk, Pr.sts 999 s k = sk := ⟨_, rfl⟩
      have HNS : Hid (Pr.sts 999 s (k + 1) = Cd.bytesS (Cd.numS (Cd.numS sk 999) 999) 64) := Lib.hid (by rw [← hsk]; rfl)
      obtain ⟨kd, hkd⟩ : ∃ x, Cd.numN sk 999 = x := ⟨_, rfl⟩
      obtain ⟨nn, hnn⟩ : ∃ x, Cd.numN (Cd.numS sk 999) 999 = x := ⟨_, rfl⟩
      obtain ⟨tx, htx⟩ : ∃ x, Cd.bytesL (Cd.numS (Cd.numS sk 999) 999) 64 = x := ⟨_, rfl⟩
      have HNL : Hid (Pr.rds 999 s k ++ [⟨kd, nn, tx⟩] = Pr.rds 999 s (k + 1)) := Lib.hid (by rw [Pr.rds, hsk]; unfold Pr.rdD; rw [hkd, hnn, htx])
      have HTX : Hid (∀ c ∈ tx, c < 256) := Lib.hid (by rw [← htx, ← hsk]; exact Pr.bytesL_lt (Pr.numS_sub (Pr.numS_sub (Pr.sts_sub HS.out k))))
      have HLN : Hid ((Pr.rds 999 s k).length = k) := Lib.hid (Pr.rds_len _ _ _)
      rw [hsk] at hR
      have HKD := Lib.hid hkd
      have HNN := Lib.hid hnn
      have HTXE := Lib.hid htx
      clear hkd hnn htx hsk
      go_wp2_with fail
      refine (rnum_is _ _ g _ _ _ (kd : Int) wz hR.out rfl (by rw [HKD.out])).mono ?_
      rintro e w3 ⟨rfl, hr3, hg3⟩
      have HR3 := Lib.hid hr3
      have HO3 := Lib.hid (hO.out.past hg3 HG.out.2)
      have HB3 : Hid (Below w.heap.size w w3) := Lib.hid (hBl.out.trans (Below.ofGrown hg3 HG.out.1 hBl.out.size))
      have HZ3 : Hid (w1.heap.size ≤ w3.heap.size) := Lib.hid (Nat.le_trans hZ.out hg3.size)
      clear hr3 hg3 hR hO hBl hZ
      go_wp2_with fail
      refine (rnum_is _ _ g _ _ _ (nn : Int) w3 HR3.out rfl (by rw [HNN.out])).mono ?_
      rintro e w4 ⟨rfl, hr4, hg4⟩
      have HR4 := Lib.hid hr4
      have HO4 := Lib.hid (HO3.out.past hg4 HG.out.2)
      have HB4 : Hid (Below w.heap.size w w4) := Lib.hid (HB3.out.trans (Below.ofGrown hg4 HG.out.1 HB3.out.size))
      have HZ4 : Hid (w1.heap.size ≤ w4.heap.size) := Lib.hid (Nat.le_trans HZ3.out hg4.size)
      clear hr4 hg4 HR3 HO3 HB3 HZ3
      go_wp2_with fail
      refine (rbytes_is _ _ g _ _ _ tx w4 HR4.out rfl HTXE.out).mono ?_
      rintro e w5 ⟨v5, rfl, ho5, hr5, hg5⟩
      have HR5 := Lib.hid hr5
      have HO5 := Lib.hid (HO4.out.past hg5 HG.out.2)
      have HB5 : Hid (Below w.heap.size w w5) := Lib.hid (HB4.out.trans (Below.ofGrown hg5 HG.out.1 HB4.out.size))
      have HZ5 : Hid (w1.heap.size ≤ w5.heap.size) := Lib.hid (Nat.le_trans HZ4.out hg5.size)
      have hrt := run_text ho5.bytes
      have hrd := run_text_at ho5.bytes w5.drew rfl
      obtain ⟨_, _, A5, c5, rfl, _, _⟩ := ho5.bytes.parts
      clear hr5 hg5 ho5 HR4 HO4 HB4 HZ4
      go_wp2_with (at_builtin; refine wpList_append_do rfl _ _ rfl w1.heap.size w5.heap.size _ (Pr.rds 999 s k) ⟨kd, nn, tx⟩ rfl (HO5.out.alloc _) rfl (cellsD_text kd nn tx w5) (by rw [HLN.out]; omega) (by have := HZ5.out; simp; omega) _ HNL.out ?_)
      rintro u' w' hO' hg' hb'
      have HO' := Lib.hid hO'
      have HR' : Hid (Rdr w' w.heap.size g g (Pr.sts 999 s (k + 1))) := Lib.hid (by rw [HNS.out]; exact (HR5.out.under ((Below.refl _ _).alloc (Nat.le_refl _) _)).past hg' HG.out.2 (fun j hj => (HO5.out.lt j hj).1))
      have HB' : Hid (Below w.heap.size w w') := Lib.hid ((HB5.out.alloc HB5.out.size _).trans (hb'.mono (by have := HG.out; omega)))
      have HZ' : Hid (w1.heap.size ≤ w'.heap.size) := Lib.hid (by have h1 := HZ5.out; have h2 := hg'.size; simp at h2; omega)
      clear hO' hg' hb' hrt hrd
      go_wp2
      go_roundg (m - (k + 1))
      case measure => omega
      case rel => exact ⟨k + 1, hlt, by omega, by go_num, HR', HO', HB', HZ'⟩
    · obtain rfl : k = m := by omega
      have hkI : ¬ (k : Int) < (k : Int) := by omega
      obtain ⟨q1, hq1⟩ : ∃ q, Cd.endB (Pr.sts 999 s k) = q := ⟨_, rfl⟩
      obtain ⟨q2, hq2⟩ : ∃ q, Ac.ok (Pr.rds 999 s k) = q := ⟨_, rfl⟩
      have HQ1 := Lib.hid hq1
      have HQ2 := Lib.hid hq2
      rw [hq1, hq2] at HTT
      clear hq1 hq2 hlt
      go_wp2_with fail
      refine (end_is _ _ g _ q1 wz hR.out HQ1.out).mono ?_
      rintro e w3 ⟨rfl, rfl⟩
      have HOK : Hid (Calls Try.prog 40 #[u5] wz fun e w' => e = .returned (.bool q2) ∧ Below wz.heap.size wz w') := Lib.hid (by
        have := okact_any u5 ((Pr.rds 999 s k).map Ac.D.e) wz hO.out.rd.e (fun d hd => by
          obtain ⟨d', hd', rfl⟩ := List.mem_map.1 hd
          have := Pr.rds_good (by decide) HS.out k d' hd'
          refine ⟨?_, this.2.2.2, ?_⟩
          · show d'.kind ≤ 1000000
            omega
          · show d'.text.length ≤ _
            omega)
        rw [Ac.okL_map, HQ2.out] at this
        exact this)
      rcases q1 with _ | _
      · go_wp2_with fail
        go_ret2
        exact act_none (by rw [HTT.out]; rfl) rfl hBl.out
      · go_wp2_with fail
        refine HOK.out.mono ?_
        rintro e w4 ⟨rfl, hb4⟩
        have HB4 := Lib.hid (hBl.out.trans (hb4.mono hBl.out.size))
        have HO4 := Lib.hid ((hO.out.under hb4).more (base' := w.heap.size) (by have := HG.out; omega))
        clear hb4
        rcases q2 with _ | _
        · go_wp2_with fail
          go_ret2
          exact act_none (by rw [HTT.out]; rfl) rfl HB4.out
        · go_wp2_with fail
          go_ret2
          exact act_some (by rw [HTT.out]; rfl) _ rfl HO4.out HB4.out
end Go.Proofs.Ytldnpedegcbglaa
