/- SimfOwn: what is put is a file's own, and what is read; guards may be turned behind a call. -/
import Derived.Test.YtegflhihjjjkhaaSimCut
import Derived.Test.YtegflhihjjjkhaaMine
namespace Go.Proofs.Ytegflhihjjjkhaa
set_option maxRecDepth 100000
open Go.ChangeShapes Go.WideShapes Go.ChangeAt Go.RowKit Go.ChangeMaps
open Sf

def oa (b : List Nat) (n : Nat) : S := ⟨[⟨[97], b, n⟩], 1000, n, -1⟩
theorem oa_put (b : List Nat) (hb : b.length ≤ 200) : putS (new 1000) [97] b = (oa b 1, 1, 0) := by
  have hf : fits (new 1000) [97] b.length = true := by
    unfold fits
    show (decide (b.length ≤ 0) || decide (((0 : Nat) : Int) + ((b.length : Int) - ((0 : Nat) : Int)) ≤ 1000)) = true
    simp
    omega
  unfold putS
  rw [if_pos (by decide), if_pos hf]
  rfl
theorem oa_app (b : List Nat) (hb : b.length ≤ 200) : app (oa b 1) [97] b [([97], 1)] = (oa (b ++ b) 2, 2, 0) := by
  have hu : used (oa b 1).l = b.length := by simp [oa, used]
  have hp : Sf.part (oa b 1) b.length = (oa b 1, b.length, 0) := by
    unfold Sf.part
    rw [if_pos (by rfl), hu, if_pos (by show (b.length : Int) ≤ max (1000 - (b.length : Int)) 0; omega)]
  unfold app
  rw [if_pos (by rfl), hp]
  rfl
theorem oa_read (b : List Nat) (n : Nat) : Sf.read (oa b n) [97] = (b, n, 0) := by rfl
theorem oa_list (b : List Nat) (n : Nat) : Sf.list (oa b n).l [] = [[97]] := by rfl
theorem oa_used (b : List Nat) (n : Nat) : used (oa b n).l = b.length := by simp [oa, used]
theorem slice_own (A : Option Addr) (n c : Nat) (b off : Nat) (h : A = some ⟨b, off, none⟩) : (Value.slice A n c).ownBlock = some b := by rw [h]; rfl
theorem OwnT.some {w : World} {base : Nat} {v : Value} {L : List (List Nat)} (h : OwnT w base v L) : ∃ A c, v = .slice A L.length c ∧ L.length ≤ c ∧ (0 < L.length → ∃ g, A = Option.some ⟨g, 0, none⟩) := by
  rcases h.2 with ⟨rfl, h0⟩ | ⟨g, cap, cur, rfl, _, _, hc, _⟩
  · exact ⟨none, 0, by rw [h0], by omega, fun h => by omega⟩
  · exact ⟨_, cap, rfl, hc, fun _ => ⟨g, rfl⟩⟩

set_option maxHeartbeats 8000000 in
theorem own_law (vb : Value) (b : List Nat) (w : World) (hb : Bytes w vb b) : Calls Try.prog 4 #[vb] w fun e w' => e = .returned (.bool true) ∧ Below w.heap.size w w' := by
  obtain ⟨_, _, A0, c0, rfl, hc0, _⟩ := hb.parts
  obtain ⟨n, hn⟩ : ∃ n, b.length = n := ⟨_, rfl⟩
  have HB := Lib.hid hb
  rw [hn] at HB hc0 ⊢
  have HN := Lib.hid hn
  have HB256 := Lib.hid hb.1
  clear hb hn
  by_cases hbig : 200 < n
  · have hbi : (200 : Int) < (n : Int) := by omega
    clear hbig
    go_enter Try.func4, Try.ntmps4
    go_wp2_with fail
    refine (fawake_any _).mono ?_
    rintro e w1 ⟨rfl, hb⟩
    go_wp2
    go_ret
    exact ⟨rfl, hb⟩
  · have hbi : ¬ (200 : Int) < (n : Int) := by omega
    have hn2 : n ≤ 200 := by omega
    have HBL : Hid (b.length ≤ 200) := Lib.hid (by rw [HN.out]; exact hn2)
    clear hbig
    go_enter Try.func4, Try.ntmps4
    go_wp2_with fail
    refine (fs_new 1000 w).mono ?_
    rintro e w1 ⟨p, rfl, h1⟩
    have H1 := Lib.hid h1
    clear h1
    have HB1 : Hid (Bytes w1 (.slice A0 n c0) b) := Lib.hid (HB.out.under H1.out.below)
    go_wp2_with (first
      | (at_builtin; refine wpList_append_bytes rfl _ _ rfl w1.heap.size (.slice (some ⟨w1.heap.size, 0, none⟩) 0 0) (.slice A0 n c0) [] b rfl (own_empty w1 w1.heap.size 0 #[] (Nat.le_refl _) (by unfold maxLen; omega) rfl) rfl (HB1.out.alloc _) (by rw [HN.out]; simp; omega) (by simp) b rfl ?_; intro vx w2 hgx)
      | fail)
    have hgo := hgx.1
    have hge : Below w1.heap.size w1 w2 := ((Below.refl _ _).alloc (Nat.le_refl _) _).trans hgx.2.2.2
    obtain ⟨_, _, Ax, cx, hvx, _⟩ := hgo.bytes.parts
    have hvx' : vx = .slice Ax n cx := by rw [hvx, HN.out]
    subst hvx'
    have HOX := Lib.hid hgo
    have HKX : Hid (Fk (fun j => (Value.slice Ax n cx).ownBlock = some j) w w2 p (new 1000)) := Lib.hid ((Fs.keep H1.out).grow hge _ fun j hj => .inr (hgo.lt j hj))
    have HLO : Hid (w.heap.size ≤ w1.heap.size) := Lib.hid H1.out.below.size
    clear hgo hge hvx hgx
    refine (fk_put [97] b _ HKX.out nice_a HOX.out.bytes (by simp [new]) (by simp [new, used]; have := HBL.out; omega)).mono ?_
    rw [oa_put b HBL.out]
    rintro e w3 ⟨rfl, hk3, hkk3⟩
    have HK3 := Lib.hid hk3
    have HM3 := Lib.hid (HOX.out.mine.same hkk3.1 fun j hj => hkk3.2 j hj)
    clear hk3 hkk3
    go_wp2_with fail
    go_loopw [39] (fun iv wr => ∃ (k : Nat) (l : List Nat), k ≤ n ∧ iv = .int .i64 (k : Int) ∧ Hid (Mine wr w1.heap.size (.slice Ax n cx) l) ∧ Hid (Fk (fun j => (Value.slice Ax n cx).ownBlock = some j) w wr p (oa b 1))) (fun iv _ => n - (intOf iv).toNat)
    case atStart => exact ⟨0, _, by omega, rfl, HM3, HK3⟩
    case round =>
      obtain ⟨k, l, hk, rfl, HMK, HKK⟩ := hrel
      by_cases hlt : k < n
      · have hlt' : (k : Int) < (n : Int) := by omega
        obtain ⟨_, bb, off, rfl, hbb, -, hfz, hcell⟩ := HMK.out.at (by omega)
        have hfk := hfz k hlt
        have hck := hcell k hlt
        have hx256 : l.getD k 0 < 256 := u8_lt HMK.out.1 k
        obtain ⟨x, hx⟩ : ∃ x, l.getD k 0 = x := ⟨_, rfl⟩
        rw [hx] at hck hx256
        obtain ⟨y, hy⟩ : ∃ y : Nat, y = (x + 1) % 256 := ⟨_, rfl⟩
        have hwu : IntKind.u8.wrap ((x : Int) + 1) = (y : Int) := by rw [IntKind.wrap_u8]; omega
        have HM2 := Lib.hid (HMK.out.set hlt (show y < 256 by omega))
        have HK2 := Lib.hid (HKK.out.grown (row := some bb) (fun q hq => by injection hq with hq; rw [← hq]; exact ⟨rfl, by have := HLO.out; omega⟩) (grown_setCell wr ⟨bb, off + k, none⟩ (.int .u8 (y : Int))))
        clear hfz hcell hx hx256 hy hbb
        go_wp2
        go_roundw
        case rel => exact ⟨k + 1, _, by omega, by go_num, HM2, HK2⟩
        case measure => simp [intOf]; omega
      · obtain rfl : n = k := by omega
        clear hlt
        go_wp2_with fail
        refine (fs_read [97] w _ p _ HKK.out.fs nice_a (by rw [oa_used]; have := HBL.out; omega)).mono ?_
        rw [oa_read]
        obtain ⟨wr0, hwr0⟩ : ∃ wr0, wr0 = wr := ⟨_, rfl⟩
        rw [← hwr0]
        rw [← hwr0] at HKK
        clear hwr0
        rintro e w4 ⟨vy, rfl, hoy, hby⟩
        obtain ⟨_, _, Ay, cy, hvy, _⟩ := hoy.bytes.parts
        have hvy' : vy = .slice Ay n cy := by rw [hvy]; dsimp only; rw [HN.out]
        subst hvy'
        have HMY := Lib.hid hoy.mine
        have HKY : Hid (Fk (fun j => (Value.slice Ay n cy).ownBlock = some j) w w4 p (oa b 1)) := Lib.hid (HKK.out.grow hby _ fun j hj => .inr (hoy.lt j hj))
        have HLOY : Hid (w.heap.size ≤ wr0.heap.size) := Lib.hid HKK.out.fs.below.size
        clear hoy hby hvy HLO
        have HLO := HLOY
        go_wp2_with fail
        go_loopw [57] (fun iv wr => ∃ (k : Nat) (l : List Nat), k ≤ n ∧ iv = .int .i64 (k : Int) ∧ Hid (Mine wr wr0.heap.size (.slice Ay n cy) l) ∧ Hid (Fk (fun j => (Value.slice Ay n cy).ownBlock = some j) w wr p (oa b 1))) (fun iv _ => n - (intOf iv).toNat)
        case atStart => exact ⟨0, _, by omega, rfl, HMY, HKY⟩
        case round =>
          obtain ⟨k, l, hk, rfl, HMK, HKK⟩ := hrel
          by_cases hlt : k < n
          · have hlt' : (k : Int) < (n : Int) := by omega
            obtain ⟨_, bb, off, rfl, hbb, -, hfz, hcell⟩ := HMK.out.at (by omega)
            have hfk := hfz k hlt
            have hck := hcell k hlt
            have hx256 : l.getD k 0 < 256 := u8_lt HMK.out.1 k
            obtain ⟨x, hx⟩ : ∃ x, l.getD k 0 = x := ⟨_, rfl⟩
            rw [hx] at hck hx256
            obtain ⟨y, hy⟩ : ∃ y : Nat, y = (x + 1) % 256 := ⟨_, rfl⟩
            have hwu : IntKind.u8.wrap ((x : Int) + 1) = (y : Int) := by rw [IntKind.wrap_u8]; omega
            have HM2 := Lib.hid (HMK.out.set hlt (show y < 256 by omega))
            have HK2 := Lib.hid (HKK.out.grown (row := some bb) (fun q hq => by injection hq with hq; rw [← hq]; exact ⟨rfl, by have := HLO.out; omega⟩) (grown_setCell wr ⟨bb, off + k, none⟩ (.int .u8 (y : Int))))
            clear hfz hcell hx hx256 hy hbb
            go_wp2
            go_roundw
            case rel => exact ⟨k + 1, _, by omega, by go_num, HM2, HK2⟩
            case measure => simp [intOf]; omega
          · obtain rfl : n = k := by omega
            clear hlt
            go_wp2_with (first
              | (at_builtin; refine wpList_append_bytes rfl _ _ rfl wr.heap.size (.slice (some ⟨wr.heap.size, 0, none⟩) 0 0) (.slice A0 n c0) [] b rfl (own_empty wr wr.heap.size 0 #[] (Nat.le_refl _) (by unfold maxLen; omega) rfl) rfl ((HB.out.under HKK.out.fs.below).alloc _) (by rw [HN.out]; simp; omega) (by simp) b rfl ?_; intro vz w6 hgz)
              | fail)
            obtain ⟨wr2, hwr2⟩ : ∃ wr2, wr2 = wr := ⟨_, rfl⟩
            rw [← hwr2] at hgz HKK
            clear hwr2
            have hgo := hgz.1
            have hge : Below wr2.heap.size wr2 w6 := ((Below.refl _ _).alloc (Nat.le_refl _) _).trans hgz.2.2.2
            obtain ⟨_, _, Az, cz, hvz, _⟩ := hgo.bytes.parts
            have hvz' : vz = .slice Az n cz := by rw [hvz, HN.out]
            subst hvz'
            have HOZ := Lib.hid hgo
            have HKZ : Hid (Fk (fun j => (Value.slice Az n cz).ownBlock = some j) w (w6.alloc (.cells #[.string (str [97]), .int .i64 1] 39)) p (oa b 1)) := Lib.hid (HKK.out.grow (hge.alloc hge.size _) _ fun j hj => .inr (by have := hgo.lt j hj; exact ⟨this.1, by rw [World.size_alloc]; omega⟩))
            have HLOZ : Hid (w.heap.size ≤ wr2.heap.size) := Lib.hid HKK.out.fs.below.size
            clear hgo hge hvz hgz HLO
            have HLO := HLOZ
            refine (fk_app [97] b [([97], 1)] _ _ HKZ.out nice_a (HOZ.out.bytes.alloc _) (fun j hj => .inl hj) (rdG_one w6 [97] 1) (by simpa using nice_a) (by simp [oa]) (by rw [oa_used]; have := HBL.out; omega)).mono ?_
            rw [oa_app b HBL.out]
            rintro e w7 ⟨rfl, hk7, hkk7⟩
            have HK7 := Lib.hid hk7
            have HM7 := Lib.hid ((HOZ.out.mine.alloc (.cells #[.string (str [97]), .int .i64 1] 39)).same hkk7.1 fun j hj => hkk7.2 j hj)
            clear hk7 hkk7
            go_wp2_with fail
            go_loopw [81] (fun iv wr => ∃ (k : Nat) (l : List Nat), k ≤ n ∧ iv = .int .i64 (k : Int) ∧ Hid (Mine wr wr2.heap.size (.slice Az n cz) l) ∧ Hid (Fk (fun j => (Value.slice Az n cz).ownBlock = some j) w wr p (oa (b ++ b) 2))) (fun iv _ => n - (intOf iv).toNat)
            case atStart => exact ⟨0, _, by omega, rfl, HM7, HK7⟩
            case round =>
              obtain ⟨k, l, hk, rfl, HMK, HKK⟩ := hrel
              by_cases hlt : k < n
              · have hlt' : (k : Int) < (n : Int) := by omega
                obtain ⟨_, bb, off, rfl, hbb, -, hfz, hcell⟩ := HMK.out.at (by omega)
                have hfk := hfz k hlt
                have hck := hcell k hlt
                have hx256 : l.getD k 0 < 256 := u8_lt HMK.out.1 k
                obtain ⟨x, hx⟩ : ∃ x, l.getD k 0 = x := ⟨_, rfl⟩
                rw [hx] at hck hx256
                obtain ⟨y, hy⟩ : ∃ y : Nat, y = (x + 1) % 256 := ⟨_, rfl⟩
                have hwu : IntKind.u8.wrap ((x : Int) + 1) = (y : Int) := by rw [IntKind.wrap_u8]; omega
                have HM2 := Lib.hid (HMK.out.set hlt (show y < 256 by omega))
                have HK2 := Lib.hid (HKK.out.grown (row := some bb) (fun q hq => by injection hq with hq; rw [← hq]; exact ⟨rfl, by have := HLO.out; omega⟩) (grown_setCell wr ⟨bb, off + k, none⟩ (.int .u8 (y : Int))))
                clear hfz hcell hx hx256 hy hbb
                go_wp2
                go_roundw
                case rel => exact ⟨k + 1, _, by omega, by go_num, HM2, HK2⟩
                case measure => simp [intOf]; omega
              · obtain rfl : n = k := by omega
                clear hlt
                obtain ⟨wr1, hwr1⟩ : ∃ wr1, wr1 = wr := ⟨_, rfl⟩
                rw [← hwr1]
                rw [← hwr1] at HKK
                clear hwr1
                go_wp2_with fail
                refine (fs_list [] w _ p _ HKK.out.fs (by simp) (by simp [oa])).mono ?_
                rw [oa_list]
                rintro e w9 ⟨vl, rfl, hol, hbl⟩
                obtain ⟨Al, cl, hvl, hcl, hgl⟩ := hol.some
                obtain ⟨g, rfl⟩ := hgl (by simp)
                have hvl' : vl = .slice (some ⟨g, 0, none⟩) 1 cl := hvl
                subst hvl'
                have hcl1 : 1 ≤ cl := hcl
                have HK9 : Hid (Fk (fun j => j = g) w w9 p (oa (b ++ b) 2)) := Lib.hid (HKK.out.grow hbl _ fun j hj => .inr (hol.lt j (by rw [hj]; rfl)))
                have HO9 : Hid (OwnT w9 wr1.heap.size (.slice (some ⟨g, 0, none⟩) 1 cl) [[97]]) := Lib.hid hol
                have HGL : Hid (w.heap.size ≤ g) := Lib.hid (by have h1 := (hol.lt g rfl).1; have h2 := HKK.out.fs.below.size; omega)
                clear hol hbl hvl hcl hgl
                go_wp2_with fail
                go_loopw [95] (fun iv wr => ∃ (k : Nat) (l : List (List Nat)), k ≤ 1 ∧ iv = .int .i64 (k : Int) ∧ Hid (l.length = 1 ∧ OwnT wr wr1.heap.size (.slice (some ⟨g, 0, none⟩) 1 cl) l) ∧ Hid (Fk (fun j => j = g) w wr p (oa (b ++ b) 2))) (fun iv _ => 1 - (intOf iv).toNat)
                case atStart => exact ⟨0, _, by omega, rfl, Lib.hid ⟨rfl, HO9.out⟩, HK9⟩
                case round =>
                  obtain ⟨k, l, hk, rfl, HOK, HKG⟩ := hrel
                  by_cases hlt : k < 1
                  · obtain rfl : k = 0 := by omega
                    have hck := OwnT.cell HOK.out.2 (k := 0) (by rw [HOK.out.1]; omega)
                    have hfk := OwnT.frozen HOK.out.2 0
                    have HO2 : Hid ((l.set 0 [122, 122]).length = 1 ∧ OwnT (wr.setCell ⟨g, 0, none⟩ (.string (str [122, 122]))) wr1.heap.size (.slice (some ⟨g, 0, none⟩) 1 cl) (l.set 0 [122, 122])) := Lib.hid ⟨by rw [List.length_set]; exact HOK.out.1, OwnT.set HOK.out.2 0 [122, 122]⟩
                    have HK2 := Lib.hid (HKG.out.grown (row := some g) (fun q hq => by injection hq with hq; rw [← hq]; exact ⟨rfl, HGL.out⟩) (grown_setCell wr ⟨g, 0, none⟩ (.string (str [122, 122]))))
                    go_wp2
                    go_roundw
                    case rel => exact ⟨1, _, by omega, by go_num, HO2, HK2⟩
                    case measure => simp [intOf]
                  · obtain rfl : k = 1 := by omega
                    clear hlt
                    go_wp2_with fail
                    refine (fs_read [97] w _ p _ HKG.out.fs nice_a (by rw [oa_used, List.length_append]; have := HBL.out; omega)).mono ?_
                    rw [oa_read]
                    rintro e w10 ⟨vv, rfl, hov, hbv⟩
                    have HF10 := Lib.hid (HKG.out.fs.under hbv)
                    have htx1 := run_text hov.bytes
                    have htx2 := run_text (HB.out.under HF10.out.below)
                    have hsum := str_add b b
                    have hfit := str_fits (l := b) (m := b) (by have := HBL.out; omega)
                    obtain ⟨_, _, Av, cv, hvv, _⟩ := hov.bytes.parts
                    have hvv' : vv = .slice Av (n + n) cv := by rw [hvv]; dsimp only; rw [List.length_append, HN.out]
                    subst hvv'
                    clear hov hbv hvv
                    go_wp2_with fail
                    refine (fs_list [] w _ p _ HF10.out (by simp) (by simp [oa])).mono ?_
                    rw [oa_list]
                    rintro e w11 ⟨v1, rfl, hol, hbl⟩
                    have HF11 := Lib.hid (HF10.out.under hbl)
                    obtain ⟨A1, c1, hv1, _, _⟩ := hol.some
                    have hv1' : v1 = .slice A1 1 c1 := hv1
                    subst hv1'
                    clear hol hbl hv1
                    go_wp2_with fail
                    refine (fs_list [] w _ p _ HF11.out (by simp) (by simp [oa])).mono ?_
                    rw [oa_list]
                    rintro e w12 ⟨v2, rfl, hol, hbl⟩
                    have HF12 := Lib.hid (HF11.out.under hbl)
                    obtain ⟨A2, c2, hv2, hc2, hg2⟩ := hol.some
                    obtain ⟨g2, rfl⟩ := hg2 (by simp)
                    have hv2' : v2 = .slice (some ⟨g2, 0, none⟩) 1 c2 := hv2
                    subst hv2'
                    have hck : w12.cell? ⟨g2, 0, none⟩ = some (.string (str [97])) := OwnT.cell hol (k := 0) (by simp)
                    have hse : (str [97]).toList = [97] := by rw [str_toList]; rfl
                    clear hol hbl hv2 hc2 hg2
                    go_wp2_with fail
                    refine (fawake_any _).mono ?_
                    rintro e w13 ⟨rfl, hb⟩
                    have HBZ := Lib.hid (HF12.out.below.trans (hb.mono HF12.out.below.size))
                    clear hb
                    go_wp2
                    go_ret
                    exact ⟨rfl, HBZ.out⟩
end Go.Proofs.Ytegflhihjjjkhaa
