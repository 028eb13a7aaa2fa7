/- Package sour: a step of a Read; a Read that is begun; what it tells. -/
import Derived.Test.YtoloidfkpfdboaaZSourStep
import Derived.Test.YtoloidfkpfdboaaZArtiAwake
import Derived.BigQuiet
import Derived.Deep.QuietTactic
namespace Go.Proofs.Ytoloidfkpfdboaa
set_option maxRecDepth 100000
open Go.ChangeShapes Go.WideShapes Go.ChangeAt Go.RowKit Go.ChangeMaps
open Sf
variable {K K' X : Nat → Prop} {w0 w w' w1 : World} {p g : Nat} {s s' : S} {fv vn vv vs : Value} {us : List Value} {x : Sr.R}

theorem sr_drewN (w : World) (n : Nat) : Below w.heap.size w (w.drewN n) := ⟨rfl, rfl, rfl, Nat.le_refl _, fun _ _ => rfl⟩
theorem nice_at {x : Sr.R} (h : Sr.Ok x) {k : Nat} (hk : k < x.names.length) : Nice (x.names.getD k []) := by
  rw [List.getD_eq_getElem?_getD, List.getElem?_eq_getElem hk]
  exact h.nice _ (List.getElem_mem hk)
theorem ownT_at {w : World} {base : Nat} {v : Value} {L : List (List Nat)} (h : OwnT w base v L) {k : Nat} (hk : k < L.length) : ∃ b c, v = .slice (some ⟨b, 0, none⟩) L.length c ∧ w.cell? ⟨b, k, none⟩ = some (.string (str (L.getD k []))) := by
  obtain ⟨A, c, rfl⟩ := ownT_sl h
  rcases h.2 with ⟨_, h0⟩ | ⟨g, cap, cur, e, _⟩
  · omega
  · injection e with e1 e2 e3
    subst e1
    exact ⟨g, c, rfl, h.cell hk⟩
theorem ownI_at {w : World} {base : Nat} {v : Value} {L : List Nat} (h : OwnI w base v L) {k : Nat} (hk : k < L.length) : ∃ b c, v = .slice (some ⟨b, 0, none⟩) L.length c ∧ w.cell? ⟨b, k, none⟩ = some (.int .i64 ((L.getD k 0 : Nat) : Int)) := by
  obtain ⟨A, c, rfl⟩ := ownI_sl h
  obtain ⟨b, rfl, hc⟩ := OwnI.cell h hk
  rw [Nat.zero_add] at hc
  exact ⟨b, c, rfl, hc⟩
theorem sr_eq {a b : Nat} (h : a = b) : ((a : Int) != (b : Int)) = false := by subst h; simp
theorem sr_ne {a b : Nat} (h : ¬ a = b) : ((a : Int) != (b : Int)) = true := by simp; omega

set_option maxRecDepth 100000 in
set_option maxHeartbeats 8000000 in
theorem srask_any (h : SrIn K X w0 w p g s fv vn vv vs us x) (hok : Sr.Ok x) (hg : K g) (hg0 : w0.heap.size ≤ g) (ha : x.asked < x.names.length) (hv : x.vals.length = x.names.length) :
    Calls Try.prog 33 #[.pointer (some ⟨g, 0, none⟩), .pointer (some ⟨p, 0, none⟩)] w (SrIs K w0 w p g s fv (Sr.ask s x)) := by
  have HH := Lib.hid h
  have HOK := Lib.hid hok
  have HG := Lib.hid hg
  have HG0 := Lib.hid hg0
  have hsl : x.asked < x.stamps.length := by rw [hok.same, hv]; exact ha
  obtain ⟨bn, cn, rfl, kn⟩ := ownT_at h.names ha
  obtain ⟨bs, cs, rfl, ks⟩ := ownI_at h.stamps hsl
  have hNC := nice_at hok ha
  have HC : Hid (∀ m, Calls Try.prog 19 #[.pointer (some ⟨p, 0, none⟩), .string (str (x.names.getD x.asked []))] (w.drewN m) fun e w' => e = .returned (.int .i64 ((Sf.stamp s.l (x.names.getD x.asked []) : Nat) : Int)) ∧ ∃ j, w' = w.drewN j) := Lib.hid fun m => (fs_stamp _ w0 (w.drewN m) p s (h.fk.under (sr_drewN w m)).fs hNC).mono fun _ _ ⟨he, hw⟩ => ⟨he, m, hw.symm⟩
  have HR : Hid (Sr.ask s x = if Sf.stamp s.l (x.names.getD x.asked []) = x.stamps.getD x.asked 0 then ({ x with asked := x.asked + 1 }, if x.asked + 1 < x.names.length then 0 else 1) else (Sr.forget x, 0)) := Lib.hid rfl
  obtain ⟨T, hT⟩ : ∃ T, x.names.getD x.asked [] = T := ⟨_, rfl⟩
  rw [hT] at kn HC HR
  obtain ⟨st, hst⟩ : ∃ n, Sf.stamp s.l T = n := ⟨_, rfl⟩
  obtain ⟨z, hz⟩ : ∃ n, x.stamps.getD x.asked 0 = n := ⟨_, rfl⟩
  rw [hst] at HC HR
  rw [hz] at ks HR
  obtain ⟨N, hN⟩ : ∃ n, x.names.length = n := ⟨_, rfl⟩
  obtain ⟨M, hM⟩ : ∃ n, x.stamps.length = n := ⟨_, rfl⟩
  obtain ⟨a, haa⟩ : ∃ n, x.asked = n := ⟨_, rfl⟩
  have hfew := hok.few
  have hb0 : Blk w g 60 #[.slice (some ⟨bn, 0, none⟩) x.names.length cn, fv, vv, .slice (some ⟨bs, 0, none⟩) x.stamps.length cs, .int .i64 (x.asked : Int), .int .i64 (x.told : Int)] := h.blk
  rw [hN] at ha HR HH hb0 hfew
  rw [hM] at hsl HH hb0
  rw [haa] at ha hsl kn ks HR hb0
  have c0 := hb0.at 0
  have c3 := hb0.at 3
  have c4 := hb0.at 4
  have f4 := hb0.free 4
  have haI : (a : Int) < (N : Int) := by omega
  have hsI : (a : Int) < (M : Int) := by omega
  have hwr : IntKind.i64.wrap ((a : Int) + 1) = ((a + 1 : Nat) : Int) := IntWalk.i64_in _ (by omega)
  have HA : Hid (x.asked = a) := Lib.hid haa
  obtain ⟨RR, hRE⟩ : ∃ RR, Sr.ask s x = RR := ⟨_, rfl⟩
  rw [hRE] at HR ⊢
  clear h hok hg hg0 hv hNC hT hst hz hN hM haa hb0 hRE
  go_enter Try.func33, Try.ntmps33
  by_cases he : st = z
  · subst he
    have hzz := sr_eq (rfl : st = st)
    have HR1 := Lib.hid (HR.out.trans (if_pos rfl))
    go_wp2_with fail
    go_quiet ((go_at_call 19; exact HC.out _))
    obtain ⟨wz, hwz⟩ : ∃ W, w.drewN nq = W := ⟨_, rfl⟩
    have hz := HH.out.under (sr_drewN w nq)
    have hkz := (Kept.of_below HH.out.fk (sr_drewN w nq)).less (K' := fun k => K k ∧ k ≠ g) fun _ hk => .inl hk.1
    rw [hwz] at hz hkz
    have hs1 := hz.setAsked HG.out HG0.out (a + 1)
    have hbz : Blk wz g 60 #[.slice (some ⟨bn, 0, none⟩) N cn, fv, vv, .slice (some ⟨bs, 0, none⟩) M cs, .int .i64 (x.asked : Int), .int .i64 (x.told : Int)] := hz.blk
    rw [HA.out] at hbz
    have e4 := hbz.at 4
    have g4 := hbz.free 4
    have HS1 := Lib.hid hs1.1
    have HK1 := Lib.hid (hkz.trans hs1.2)
    have HNX := Lib.hid (HOK.out.next)
    rw [HA.out] at HNX
    clear hz hkz hs1 hbz c0 c3 c4 f4 kn ks
    rw [hwz]
    clear hwz
    go_upto_region 5 with fail
    have hca : ((a + 1 : Nat) : Int) = (a : Int) + 1 := rfl
    rw [hca] at HS1 HK1
    obtain ⟨w6, hw6⟩ : ∃ W, wz.setCell ⟨g, 4, none⟩ (.int .i64 ((a : Int) + 1)) = W := ⟨_, rfl⟩
    rw [hw6] at HS1 HK1 ⊢
    clear hca
    have hb6 : Blk w6 g 60 #[.slice (some ⟨bn, 0, none⟩) N cn, fv, vv, .slice (some ⟨bs, 0, none⟩) M cs, .int .i64 ((a + 1 : Nat) : Int), .int .i64 (x.told : Int)] := HS1.out.blk
    have d0 := hb6.at 0
    have d4 := hb6.at 4
    clear hw6 hb6 e4 g4
    by_cases hlt : a + 1 < N
    · have HR2 := Lib.hid (if_pos hlt ▸ HR1.out)
      have hI : ((a + 1 : Nat) : Int) < (N : Int) := by omega
      clear hlt
      go_quiet (fail)
      go_wp2
      go_ret
      exact SrIs.of HR2.out rfl ((HS1.out.under (sr_drewN _ _)).at HNX.out) (HK1.out.trans (Kept.of_below (HS1.out.at HNX.out).fk (sr_drewN _ _)).but)
    · have HR2 := Lib.hid (if_neg hlt ▸ HR1.out)
      have hI : ¬ (((a + 1 : Nat) : Int) < (N : Int)) := by omega
      clear hlt
      go_quiet (fail)
      go_wp2
      go_ret
      exact SrIs.of HR2.out rfl ((HS1.out.under (sr_drewN _ _)).at HNX.out) (HK1.out.trans (Kept.of_below (HS1.out.at HNX.out).fk (sr_drewN _ _)).but)
  · have hzz := sr_ne he
    have HR1 := Lib.hid (HR.out.trans (if_neg he))
    clear he
    go_wp2_with fail
    go_quiet ((go_at_call 19; exact HC.out _))
    go_wp2_with fail
    refine (srforget_any (HH.out.under (sr_drewN _ _)) HG.out HG0.out).mono ?_
    rintro e w2 ⟨rfl, hs, hk⟩
    have HS := Lib.hid hs
    have HK := Lib.hid (((Kept.of_below HH.out.fk (sr_drewN w _)).less fun _ hk => .inl hk.1).trans hk)
    clear hs hk
    go_wp2
    go_ret
    exact SrIs.of HR1.out rfl (HS.out.at HOK.out.forget) HK.out

set_option maxRecDepth 100000 in
set_option maxHeartbeats 8000000 in
theorem srdo_any {md : List Nat → Bool} (h : SrIn K X w0 w p g s fv vn vv vs us x) (hok : Sr.Ok x) (hh : x.names = [] ∨ x.asked < x.names.length) (hg : K g) (hg0 : w0.heap.size ≤ g) (hm : SrMade w fv md) (hu : used s.l ≤ 274877906944) :
    Calls Try.prog 25 #[.pointer (some ⟨g, 0, none⟩), .pointer (some ⟨p, 0, none⟩)] w (SrIs K w0 w p g s fv (Sr.doo md s x)) := by
  have HR : Hid (Sr.doo md s x = if x.vals.length < x.names.length then Sr.read md s x (x.names.getD x.vals.length []) else if 0 < x.names.length then Sr.ask s x else (x, 1)) := Lib.hid rfl
  have HH := Lib.hid h
  have HOK := Lib.hid hok
  have hfew := hok.few
  have hmost := hok.most
  have hb0 : Blk w g 60 #[vn, fv, vv, vs, .int .i64 (x.asked : Int), .int .i64 (x.told : Int)] := h.blk
  obtain ⟨RR, hRE⟩ : ∃ RR, Sr.doo md s x = RR := ⟨_, rfl⟩
  rw [hRE] at HR ⊢
  by_cases h1 : x.vals.length < x.names.length
  · have HR1 := Lib.hid (HR.out.trans (if_pos h1))
    obtain ⟨bn, cn, rfl, kn⟩ := ownT_at h.names h1
    obtain ⟨Av, cv, rfl⟩ := ownRx_sl h.vals
    have C : Hid (∀ W, Below w.heap.size w W → Calls Try.prog 32 #[.pointer (some ⟨g, 0, none⟩), .pointer (some ⟨p, 0, none⟩), .string (str (x.names.getD x.vals.length []))] W (SrIs K w0 W p g s fv (Sr.read md s x (x.names.getD x.vals.length [])))) := Lib.hid fun W hb => srread_any _ (h.under hb) hok hg hg0 (hm.under hb) (nice_at hok h1) h1 hu
    have HKB : Hid (∀ W, Below w.heap.size w W → Kept (fun k => K k ∧ k ≠ g) w W) := Lib.hid fun W hb => (Kept.of_below h.fk hb).less fun _ hk => .inl hk.1
    obtain ⟨T, hT⟩ : ∃ T, str (x.names.getD x.vals.length []) = T := ⟨_, rfl⟩
    rw [hT] at kn C
    obtain ⟨Q, hQ⟩ : ∃ Q, Sr.read md s x (x.names.getD x.vals.length []) = Q := ⟨_, rfl⟩
    rw [hQ] at HR1 C
    have HRQ : Hid (RR = Q) := HR1
    obtain ⟨N, hN⟩ : ∃ n, x.names.length = n := ⟨_, rfl⟩
    obtain ⟨M, hM⟩ : ∃ n, x.vals.length = n := ⟨_, rfl⟩
    rw [hN] at hb0 h1 hfew
    rw [hM] at hb0 h1 kn
    have hI : (M : Int) < (N : Int) := by omega
    have c0 : w.cell? ⟨g, 0, none⟩ = some (.slice (some ⟨bn, 0, none⟩) N cn) := hb0.at 0
    have c2 : w.cell? ⟨g, 2, none⟩ = some (.slice Av M cv) := hb0.at 2
    have HST : Hid (∀ W : World, W.heap = w.heap → W.cell? ⟨g, 0, none⟩ = some (.slice (some ⟨bn, 0, none⟩) N cn) ∧ W.cell? ⟨g, 2, none⟩ = some (.slice Av M cv) ∧ W.cell? ⟨bn, M, none⟩ = some (.string T)) := Lib.hid fun W e => by
      unfold World.cell? at *
      rw [e]
      exact ⟨c0, c2, kn⟩
    clear h hok hh hg hg0 hm hu hT hQ hN hM hb0 hRE HR HR1 hmost hfew h1
    go_enter Try.func25, Try.ntmps25
    go_wp2_with fail
    go_quiet (fail)
    obtain ⟨wz, hwz⟩ : ∃ W, w.drewN nq = W := ⟨_, rfl⟩
    have HBZ : Hid (Below w.heap.size w wz) := Lib.hid (by rw [← hwz]; exact sr_drewN w nq)
    obtain ⟨c0, c2, kn⟩ := HST.out wz (by rw [← hwz]; rfl)
    rw [hwz]
    have HEQ : Hid (wz.heap = w.heap) := Lib.hid (by rw [← hwz]; rfl)
    clear hwz
    go_wp2_with fail
    go_region_with (go_at_call 32; refine (C.out _ (HBZ.out.trans ((sr_drewN wz 1).mono HBZ.out.size))).mono ?_; rintro e w2 ⟨rfl, hs2, hk2⟩; have HS2 := Lib.hid hs2; have HK2 := Lib.hid ((HKB.out _ (HBZ.out.trans ((sr_drewN wz 1).mono HBZ.out.size))).trans hk2); clear hs2 hk2)
    all_goals
      go_wp2
      go_ret
      rw [HRQ.out]
      exact ⟨rfl, HS2.out, HK2.out⟩
  · have HR1 := Lib.hid (HR.out.trans (if_neg h1))
    obtain ⟨An, cn, rfl⟩ := ownT_sl h.names
    obtain ⟨Av, cv, rfl⟩ := ownRx_sl h.vals
    obtain ⟨M, hM⟩ : ∃ n, x.vals.length = n := ⟨_, rfl⟩
    have c2 : w.cell? ⟨g, 2, none⟩ = some (.slice Av x.vals.length cv) := hb0.at 2
    have c0 : w.cell? ⟨g, 0, none⟩ = some (.slice An x.names.length cn) := hb0.at 0
    by_cases h2 : 0 < x.names.length
    · have HR2 : Hid (RR = Sr.ask s x) := Lib.hid (HR1.out.trans (if_pos h2))
      have hlt : x.asked < x.names.length := by
        rcases hh with hh | hh
        · rw [hh] at h2
          exact absurd h2 (by simp)
        · exact hh
      have C : Hid (∀ W, Below w.heap.size w W → Calls Try.prog 33 #[.pointer (some ⟨g, 0, none⟩), .pointer (some ⟨p, 0, none⟩)] W (SrIs K w0 W p g s fv (Sr.ask s x))) := Lib.hid fun W hb => srask_any (h.under hb) hok hg hg0 hlt (by omega)
      have HKB : Hid (∀ W, Below w.heap.size w W → Kept (fun k => K k ∧ k ≠ g) w W) := Lib.hid fun W hb => (Kept.of_below h.fk hb).less fun _ hk => .inl hk.1
      obtain ⟨Q, hQ⟩ : ∃ Q, Sr.ask s x = Q := ⟨_, rfl⟩
      rw [hQ] at HR2 C
      obtain ⟨N, hN⟩ : ∃ n, x.names.length = n := ⟨_, rfl⟩
      rw [hN] at c0 h1 h2 hfew
      rw [hM] at c2 h1
      have hI : ¬ ((M : Int) < (N : Int)) := by omega
      have hI2 : ((N : Int) > 0) := by omega
      have HST : Hid (∀ W : World, W.heap = w.heap → W.cell? ⟨g, 0, none⟩ = some (.slice An N cn)) := Lib.hid fun W e => by
        unfold World.cell? at *
        rw [e]
        exact c0
      clear h hok hh hg hg0 hm hu hQ hN hM hb0 hRE HR HR1 hmost hfew h1 h2 hlt
      go_enter Try.func25, Try.ntmps25
      go_wp2_with fail
      go_quiet (fail)
      obtain ⟨wz, hwz⟩ : ∃ W, w.drewN nq = W := ⟨_, rfl⟩
      have HBZ : Hid (Below w.heap.size w wz) := Lib.hid (by rw [← hwz]; exact sr_drewN w nq)
      have c0' := HST.out wz (by rw [← hwz]; rfl)
      rw [hwz]
      clear hwz
      go_wp2_with fail
      refine (C.out _ HBZ.out).mono ?_
      rintro e w2 ⟨rfl, hs2, hk2⟩
      have HS2 := Lib.hid hs2
      have HK2 := Lib.hid ((HKB.out _ HBZ.out).trans hk2)
      clear hs2 hk2
      go_wp2
      go_ret
      rw [HR2.out]
      exact ⟨rfl, HS2.out, HK2.out⟩
    · have HR2 : Hid (RR = (x, 1)) := Lib.hid (HR1.out.trans (if_neg h2))
      have h0 : x.names.length = 0 := by omega
      have hm0 : x.vals.length = 0 := by omega
      rw [h0] at c0
      rw [hm0] at c2
      have HST : Hid (∀ W : World, W.heap = w.heap → W.cell? ⟨g, 0, none⟩ = some (.slice An 0 cn)) := Lib.hid fun W e => by
        unfold World.cell? at *
        rw [e]
        exact c0
      clear h hok hh hg hg0 hm hu hM hb0 hRE HR HR1 hmost hfew h1 h2 h0 hm0
      go_enter Try.func25, Try.ntmps25
      go_wp2_with fail
      go_quiet (fail)
      obtain ⟨wz, hwz⟩ : ∃ W, w.drewN nq = W := ⟨_, rfl⟩
      have HBZ : Hid (Below w.heap.size w wz) := Lib.hid (by rw [← hwz]; exact sr_drewN w nq)
      have c0' := HST.out wz (by rw [← hwz]; rfl)
      rw [hwz]
      clear hwz
      go_wp2
      go_ret
      rw [HR2.out]
      exact ⟨rfl, (HH.out.under HBZ.out).at HOK.out, (Kept.of_below (HH.out.at HOK.out).fk HBZ.out).but⟩

set_option maxRecDepth 100000 in
set_option maxHeartbeats 4000000 in
theorem srstep_any {md : List Nat → Bool} (h : SrAt K w0 w p g s fv x) (hh : Sr.Here x) (hg : K g) (hg0 : w0.heap.size ≤ g) (hm : SrMade w fv md) (hu : used s.l ≤ 274877906944) :
    Calls Try.prog 11 #[.pointer (some ⟨g, 0, none⟩), .pointer (some ⟨p, 0, none⟩)] w (SrIs K w0 w p g s fv (Sr.step md s x)) := by
  obtain ⟨⟨X, vn, vv, vs, us, h⟩, hok⟩ := h
  have hb0 : Blk w g 60 #[vn, fv, vv, vs, .int .i64 (x.asked : Int), .int .i64 (x.told : Int)] := h.blk
  have HR : Hid (Sr.step md s x = if x.told = 0 then ({ (Sr.doo md s x).1 with told := (Sr.doo md s x).2 }, (Sr.doo md s x).2) else (x, x.told)) := Lib.hid rfl
  have HH := Lib.hid h
  have HOK := Lib.hid hok
  have HG := Lib.hid hg
  have HG0 := Lib.hid hg0
  obtain ⟨RR, hRE⟩ : ∃ RR, Sr.step md s x = RR := ⟨_, rfl⟩
  rw [hRE] at HR ⊢
  have HTT : Hid (∃ n, x.told = n) := Lib.hid ⟨_, rfl⟩
  obtain ⟨n, hn⟩ := HTT.out
  have c5 : w.cell? ⟨g, 5, none⟩ = some (.int .i64 (x.told : Int)) := hb0.at 5
  by_cases h0 : n = 0
  · have HR1 := Lib.hid (HR.out.trans (if_pos (hn.trans h0)))
    have C : Hid (∀ W, Below w.heap.size w W → Calls Try.prog 25 #[.pointer (some ⟨g, 0, none⟩), .pointer (some ⟨p, 0, none⟩)] W (SrIs K w0 W p g s fv (Sr.doo md s x))) := Lib.hid fun W hb => srdo_any (h.under hb) hok (hh (hn.trans h0)) hg hg0 (hm.under hb) hu
    have HKB : Hid (∀ W, Below w.heap.size w W → Kept (fun k => K k ∧ k ≠ g) w W) := Lib.hid fun W hb => (Kept.of_below h.fk hb).less fun _ hk => .inl hk.1
    obtain ⟨⟨x1, k1⟩, hQ⟩ : ∃ Q, Sr.doo md s x = Q := ⟨_, rfl⟩
    rw [hQ] at HR1 C
    dsimp only at HR1
    rw [hn, h0] at c5
    clear h hok hh hg hg0 hm hu hQ hn h0 hb0 hRE HR HTT
    go_enter Try.func11, Try.ntmps11
    go_wp2_with fail
    refine (C.out _ (Below.refl _ _)).mono ?_
    rintro e w2 ⟨rfl, ⟨⟨X2, vn2, vv2, vs2, us2, h2⟩, hok2⟩, hk2⟩
    have hb2 : Blk w2 g 60 #[vn2, fv, vv2, vs2, .int .i64 (x1.asked : Int), .int .i64 (x1.told : Int)] := h2.blk
    have e5 : w2.cell? ⟨g, 5, none⟩ = some (.int .i64 (x1.told : Int)) := hb2.at 5
    have f5 := hb2.free 5
    have hs3 := h2.setTold HG.out HG0.out k1
    have HS3 := Lib.hid hs3.1
    have HOK3 := Lib.hid (hok2.told k1)
    have HK3 := Lib.hid (hk2.trans hs3.2)
    clear h2 hok2 hk2 hb2 hs3 c5 C
    go_upto_region 3 with fail
    obtain ⟨w4, hw4⟩ : ∃ W, w2.setCell ⟨g, 5, none⟩ (.int .i64 (k1 : Int)) = W := ⟨_, rfl⟩
    rw [hw4] at HS3 HK3 ⊢
    have hb4 : Blk w4 g 60 #[vn2, fv, vv2, vs2, .int .i64 (x1.asked : Int), .int .i64 (k1 : Int)] := HS3.out.blk
    have d5 : w4.cell? ⟨g, 5, none⟩ = some (.int .i64 (k1 : Int)) := hb4.at 5
    clear hw4 hb4 e5 f5
    go_wp2
    go_ret
    rw [HR1.out]
    exact ⟨rfl, HS3.out.at HOK3.out, HK3.out⟩
  · have HR1 := Lib.hid (HR.out.trans (if_neg (fun e => h0 (hn.symm.trans e))))
    have hI : ((n : Int) == 0) = false := by simp; omega
    rw [hn] at c5 HR1
    have HN := Lib.hid hn
    clear h hok hh hg hg0 hm hu hn h0 hb0 hRE HR HTT
    go_enter Try.func11, Try.ntmps11
    go_wp2
    go_ret
    rw [HR1.out]
    exact ⟨rfl, HH.out.at HOK.out, Kept.refl _ _⟩

theorem srnew_any {s : S} {L : List (List Nat)} {v : Value} (hf : Fk K w0 w p s) (hv : SrT w v L) (hL : ∀ t ∈ L, (∀ c ∈ t, c < 256) ∧ t.length ≤ 1048576) (hl : L.length ≤ 1000000) (fn : Fn) (first cap : Array Value) :
    Calls Try.prog 9 #[v, .func fn first cap] w fun e w' => ∃ g, e = .returned (.pointer (some ⟨g, 0, none⟩)) ∧ w.heap.size ≤ g ∧ SrAt (fun k => K k ∨ k = g) w0 w' p g s (.func fn first cap) ⟨L, [], [], 0, 0⟩ ∧ Below w.heap.size w w' := by
  have HF := Lib.hid hf
  have HOK := Lib.hid (Sr.Ok.begin hL hl)
  have C := Lib.hid (srclone_texts hv hl)
  obtain ⟨A, c, rfl, _⟩ := hv
  clear hf hL hl
  go_enter Try.func9, Try.ntmps9
  go_wp2_with fail
  refine C.out.mono ?_
  rintro e w1 ⟨v1, rfl, ho1, hb1⟩
  have HO1 := Lib.hid ho1
  have HB1 := Lib.hid hb1
  obtain ⟨A1, c1, rfl⟩ := ownT_sl ho1
  obtain ⟨m, hm⟩ : ∃ m, L.length = m := ⟨_, rfl⟩
  rw [hm] at HO1 ⊢
  clear ho1 hb1 C hm
  go_wp2
  go_ret
  have hba : Below w1.heap.size w1 (w1.alloc (.cells #[.slice A1 m c1, .func fn first cap, .slice none 0 0, .slice none 0 0, .int .i64 0, .int .i64 0] 60)) := (Below.refl _ _).alloc (Nat.le_refl _) _
  have hbb := HB1.out.trans (hba.mono HB1.out.size)
  refine ⟨w1.heap.size, rfl, HB1.out.size, SrIn.at (X := fun k => (Value.slice A1 m c1).ownBlock = some k) (vn := .slice A1 m c1) (vv := .slice none 0 0) (vs := .slice none 0 0) (us := []) ?_ HOK.out, hbb⟩
  refine ⟨heap_alloc_new w1 _, ?_, ownRx_none _ _, ownI_none _ _, fun k e => e, fun k hk => absurd hk (by simp [Value.ownBlock]), by simp, fun k hk => absurd hk (by simp [Value.ownBlock]), fun k hx hk => ?_, ?_⟩
  · have h1 := HO1.out.under hba
    obtain ⟨h2, h3⟩ := h1
    refine ⟨h2, h3.imp id ?_⟩
    rintro ⟨g, cap', cur, e, hg, rest⟩
    exact ⟨g, cap', cur, e, Nat.le_trans HF.out.fs.below.size hg, rest⟩
  · have h1 := HO1.out.lt k hx
    rcases hk with hk | hk
    · have := HF.out.lt hk
      omega
    · omega
  · refine HF.out.grow hbb _ fun k hk => ?_
    rcases hk with (hk | hk) | hk
    · exact .inl hk
    · subst hk
      have := HB1.out.size
      exact .inr ⟨this, by simp⟩
    · have h1 := HO1.out.lt k hk
      have := hba.size
      exact .inr ⟨h1.1, by omega⟩
end Go.Proofs.Ytoloidfkpfdboaa
