/- SourOwn: values that are told are one's own, each time. -/
import Derived.Test.YtoloidfkpfdboaaZSourOut
import Derived.Test.YtoloidfkpfdboaaZSourAwake
import Derived.Test.YtoloidfkpfdboaaZRowsOpen
import Derived.Deep.LoopGhost
namespace Go.Proofs.Ytoloidfkpfdboaa
set_option maxRecDepth 100000
open Go.ChangeShapes Go.WideShapes Go.ChangeAt Go.RowKit Go.ChangeMaps
open Sf
variable {K K' X : Nat → Prop} {w0 w w' w1 : World} {p g : Nat} {s s' : S} {fv vn vv vs : Value} {us : List Value} {x : Sr.R}

namespace Sr
def owX (a b : List Nat) : Nat → R
  | 0 => ⟨[[115], [116]], [], [], 0, 0⟩
  | 1 => ⟨[[115], [116]], [a], [1], 0, 0⟩
  | 2 => ⟨[[115], [116]], [a, b], [1, 2], 0, 0⟩
  | 3 => ⟨[[115], [116]], [a, b], [1, 2], 1, 0⟩
  | _ + 4 => ⟨[[115], [116]], [a, b], [1, 2], 2, 1⟩
theorem ow_file (t : List Nat) (h : t = [115] ∨ t = [116]) : Nm.file t = true := by rcases h with rfl | rfl <;> decide +kernel
theorem ow_step {s : S} {a b : List Nat} (h1 : Sf.get s.l [115] = some ⟨[115], a, 1⟩) (h2 : Sf.get s.l [116] = some ⟨[116], b, 2⟩) (ha : a.length ≤ 256) (hb : b.length ≤ 256) (j : Nat) :
    step made s (owX a b j) = (owX a b (j + 1), (owX a b (j + 1)).told) ∧ Here (owX a b j) := by
  rcases j with _ | _ | _ | _ | j
  · exact ⟨step_read (v := a) rfl (by simp [owX]) rfl (ow_file _ (.inl rfl)) h1 rfl ha, fun _ => .inr (by simp [owX])⟩
  · exact ⟨step_read (v := b) rfl (by simp [owX]) rfl (ow_file _ (.inr rfl)) h2 rfl hb, fun _ => .inr (by simp [owX])⟩
  · exact ⟨step_ask rfl rfl (by simp [owX]) (sstamp_some h1), fun _ => .inr (by simp [owX])⟩
  · exact ⟨step_ask rfl rfl (by simp [owX]) (sstamp_some h2), fun _ => .inr (by simp [owX])⟩
  · exact ⟨step_told (by simp [owX]), fun h => by simp [owX] at h⟩
end Sr
/-- A row of bytes in a block of K, whatever they are. -/
def SrU (w : World) (K : Nat → Prop) (u : Value) : Prop :=
  ∃ A n c, u = .slice A n c ∧ n ≤ 256 ∧ (0 < n → ∃ b, A = some ⟨b, 0, none⟩ ∧ K b ∧ ∀ i, i < n → (∃ x : Nat, x < 256 ∧ w.cell? ⟨b, i, none⟩ = some (.int .u8 (x : Int))) ∧ w.frozen? ⟨b, i, none⟩ = false)
theorem SrU.set {u : Value} (h : SrU w K u) (b i y : Nat) (hy : y < 256) : SrU (w.setCell ⟨b, i, none⟩ (.int .u8 (y : Int))) K u := by
  obtain ⟨A, n, c, rfl, hn, hx⟩ := h
  refine ⟨A, n, c, rfl, hn, fun h0 => ?_⟩
  obtain ⟨b2, rfl, hk, hc⟩ := hx h0
  refine ⟨b2, rfl, hk, fun j hj => ⟨?_, ?_⟩⟩
  · obtain ⟨x, hx, hcx⟩ := (hc j hj).1
    by_cases e : (⟨b, i, none⟩ : Addr) = ⟨b2, j, none⟩
    · rw [e]
      exact ⟨y, hy, World.cell?_setCell_same _ _ _ hcx⟩
    · exact ⟨x, hx, (World.cell?_setCell_other _ _ _ _ e).trans hcx⟩
  · rw [World.frozen?_setCell]
    exact (hc j hj).2
theorem Own.srU {base : Nat} {v : Value} {l : List Nat} (h : Own w base v l) (hl : l.length ≤ 256) (hK : ∀ k, v.ownBlock = some k → K k) : SrU w K v := by
  have hb := h.bytes
  obtain ⟨h1, h2⟩ := h
  rcases h1.2 with ⟨rfl, h0⟩ | ⟨g, cap, cur, rfl, _⟩
  · exact ⟨none, 0, 0, rfl, by omega, fun h => by omega⟩
  · refine ⟨_, _, cap, rfl, hl, fun _ => ⟨g, rfl, hK g rfl, fun i hi => ⟨⟨l.getD i 0, u8_lt h2 i, ?_⟩, h1.frozenAt i⟩⟩⟩
    obtain ⟨_, _, A, c, e, _, hx⟩ := hb.parts
    injection e with e1 _ _
    obtain ⟨b, off, e2, hc⟩ := hx (by omega)
    rw [← e1] at e2
    injection e2 with e2
    injection e2 with e2 e3
    subst e2 e3
    have := hc i hi
    rwa [Nat.zero_add] at this
/-- What may be turned of the values, and what not. -/
structure SrTouch (K : Nat → Prop) (w0 w : World) (p g q : Nat) (s : S) (fv : Value) (x : Sr.R) : Prop where
  at' : SrAt K w0 w p g s fv x
  rows : ∀ j, j < 2 → ∃ u, w.cell? ⟨q, j, none⟩ = some u ∧ SrU w (fun k => (K k ∧ k ≠ g) ∧ w0.heap.size ≤ k ∧ k ≠ q) u
theorem SrTouch.set {q : Nat} (h : SrTouch K w0 w p g q s fv x) (hg : K g) {b i y : Nat} (hb : (K b ∧ b ≠ g) ∧ w0.heap.size ≤ b ∧ b ≠ q) (hy : y < 256) : SrTouch K w0 (w.setCell ⟨b, i, none⟩ (.int .u8 (y : Int))) p g q s fv x where
  at' := h.at'.grown hg (row := some b) (fun b' e => by injection e with e; subst e; exact ⟨hb.1, hb.2.1⟩) (grown_setCell w ⟨b, i, none⟩ _)
  rows := fun j hj => by
    obtain ⟨u, hc, hu⟩ := h.rows j hj
    exact ⟨u, (World.cell?_setCell_other _ _ _ _ fun e => hb.2.2 (by injection e)).trans hc, hu.set b i y hy⟩
/-- Numbers in a row that may be turned. -/
structure SrTurn (K : Nat → Prop) (w0 w : World) (p g q n : Nat) (s : S) (fv : Value) (x : Sr.R) : Prop where
  at' : SrAt K w0 w p g s fv x
  cells : ∀ j, j < n → (∃ z : Int, w.cell? ⟨q, j, none⟩ = some (.int .i64 z)) ∧ w.frozen? ⟨q, j, none⟩ = false
theorem SrTurn.set {q n : Nat} (h : SrTurn K w0 w p g q n s fv x) (hg : K g) (hb : (K q ∧ q ≠ g) ∧ w0.heap.size ≤ q) (i : Nat) (z : Int) : SrTurn K w0 (w.setCell ⟨q, i, none⟩ (.int .i64 z)) p g q n s fv x where
  at' := h.at'.grown hg (row := some q) (fun b' e => by injection e with e; subst e; exact hb) (grown_setCell w ⟨q, i, none⟩ _)
  cells := fun j hj => by
    refine ⟨?_, by rw [World.frozen?_setCell]; exact (h.cells j hj).2⟩
    obtain ⟨y, hy⟩ := (h.cells j hj).1
    by_cases e : (⟨q, i, none⟩ : Addr) = ⟨q, j, none⟩
    · rw [e]
      exact ⟨z, World.cell?_setCell_same _ _ _ hy⟩
    · exact ⟨y, (World.cell?_setCell_other _ _ _ _ e).trans hy⟩

set_option maxRecDepth 100000 in
set_option maxHeartbeats 8000000 in
theorem srown_any (va vb : Value) (a b : List Nat) (w : World) (ha : Bytes w va a) (hb : Bytes w vb b) : Calls Try.prog 4 #[va, vb] w fun e w' => e = .returned (.bool true) ∧ Below w.heap.size w w' := by
  have HA := Lib.hid ha
  have HB := Lib.hid hb
  obtain ⟨-, -, Aa, ca, rfl, -, -⟩ := ha.parts
  obtain ⟨-, -, Ab, cb, rfl, -, -⟩ := hb.parts
  obtain ⟨na, hna⟩ : ∃ n, a.length = n := ⟨_, rfl⟩
  obtain ⟨nb, hnb⟩ : ∃ n, b.length = n := ⟨_, rfl⟩
  rw [hna] at HA ⊢
  rw [hnb] at HB ⊢
  have HNA := Lib.hid hna
  have HNB := Lib.hid hnb
  clear ha hb hna hnb
  go_enter Try.func4, Try.ntmps4
  by_cases hl : na ≤ 256 ∧ nb ≤ 256
  · have hI : ¬ ((na : Int) > 256) := by omega
    have hJ : ¬ ((nb : Int) > 256) := by omega
    have HL := Lib.hid hl
    clear hl
    go_wp2_with fail
    refine (fs_new 10000 w).mono ?_
    rintro e w1 ⟨p, rfl, h1⟩
    have H1 : Hid (Fk (fun _ => False) w w1 p (new 10000)) := Lib.hid h1.keep
    clear h1
    have ka : ({ data := #[115] } : ByteArray) = str [115] := rfl
    have kb : ({ data := #[116] } : ByteArray) = str [116] := rfl
    go_wp2_with fail
    refine (fk_put [115] a _ H1.out (nice_lit _ rfl (by decide)) (HA.out.under H1.out.fs.below) (by decide) (by have := HL.out; have := HNA.out; show 0 + _ ≤ _; omega)).mono ?_
    rw [Sr.sput_ok [115] a (Sr.ow_file _ (.inl rfl)) (by have := HL.out; have := HNA.out; show (0 : Int) + _ ≤ 10000; omega)]
    rintro e w2 ⟨rfl, h2, -⟩
    have H2 := Lib.hid h2
    have HU2 := Lib.hid (Sr.sused_wr (good_new 10000).1 [115] a)
    clear h2 H1
    go_wp2_with fail
    refine (fk_put [116] b _ H2.out (nice_lit _ rfl (by decide)) (HB.out.under H2.out.fs.below) (by show 1 ≤ _; omega) (by have := HU2.out; have h0 : used (new 10000).l = 0 := rfl; have := HL.out; have := HNA.out; have := HNB.out; omega)).mono ?_
    rw [Sr.sput_ok [116] b (Sr.ow_file _ (.inr rfl)) (by have := HU2.out; have h0 : used (new 10000).l = 0 := rfl; have := HL.out; have := HNA.out; have := HNB.out; show _ ≤ (10000 : Int); omega)]
    rintro e w3 ⟨rfl, h3, -⟩
    have hu3 := Sr.sused_wr (s := wr (new 10000) [115] a) (good_wr (good_new 10000) (t := [115]) (b := a) (by decide) (by decide)).1 [116] b
    obtain ⟨s, hs⟩ : ∃ s, wr (wr (new 10000) [115] a) [116] b = s := ⟨_, rfl⟩
    have HST : Hid (∀ j, Sr.step Sr.made s (Sr.owX a b j) = (Sr.owX a b (j + 1), (Sr.owX a b (j + 1)).told) ∧ Sr.Here (Sr.owX a b j)) := Lib.hid fun j => Sr.ow_step (by rw [← hs, Sr.sget_wr, if_neg (by decide), Sr.sget_wr, if_pos rfl]; rfl) (by rw [← hs, Sr.sget_wr, if_pos rfl]; rfl) (by rw [HNA.out]; exact HL.out.1) (by rw [HNB.out]; exact HL.out.2) j
    rw [hs] at h3 hu3
    have HU : Hid (used s.l ≤ 274877906944) := Lib.hid (by have := HU2.out; have h0 : used (new 10000).l = 0 := rfl; have := HL.out; have := HNA.out; have := HNB.out; omega)
    have H3 := Lib.hid h3
    clear h3 hu3 hs HU2 H2
    go_upto_region 9 with fail
    obtain ⟨w4, q, K, hw4, hq, h4, kq, -, b4, bb4, bq⟩ := H3.out.box 9 #[.string (str [115]), .string (str [116])]
    have hsr : SrT w4 (.slice (some ⟨q, 0, none⟩) 2 2) [[115], [116]] := by rw [← hw4, ← hq]; exact srT_two w3 [115] [116] _
    rw [hw4, hq]
    have H4 := Lib.hid h4
    have KQ := Lib.hid (show K q ∧ w.heap.size ≤ q from ⟨kq, bq⟩)
    have B4 := Lib.hid b4
    have HSR := Lib.hid hsr
    have HMD := Lib.hid (fun W => srmade_is W)
    clear hw4 hq h4 kq b4 bb4 bq hsr H3 ka kb
    go_wp2_with fail
    refine (srnew_any H4.out HSR.out (by simp) (by decide) _ _ _).mono ?_
    rintro e w5 ⟨g, rfl, hgs, hs5, hb5⟩
    obtain ⟨K5, hK5⟩ : ∃ K', (fun k => K k ∨ k = g) = K' := ⟨_, rfl⟩
    have HKG : Hid (K5 g ∧ K5 q ∧ q ≠ g ∧ w.heap.size ≤ g) := Lib.hid (by
      rw [← hK5]
      exact ⟨.inr rfl, .inl KQ.out.1, by have := B4.out.size; omega, Nat.le_trans H4.out.fs.below.size hgs⟩)
    rw [hK5] at hs5
    have b5 := B4.out.under hb5
    have c0 : w5.cell? ⟨q, 0, none⟩ = some (.string (str [115])) := b5.at 0
    have f0 := Blk.free b5 0
    have H6 : Hid (SrAt K5 w (w5.setCell ⟨q, 0, none⟩ (.string ⟨#[122, 122]⟩)) p g s (.func (.func 10) #[] #[]) (Sr.owX a b 0)) := Lib.hid ((show SrAt K5 w w5 p g s _ (Sr.owX a b 0) from hs5).grown HKG.out.1 (row := some q) (fun b' e => by injection e with e; subst e; exact ⟨⟨HKG.out.2.1, HKG.out.2.2.1⟩, KQ.out.2⟩) (grown_setCell w5 ⟨q, 0, none⟩ _))
    clear hs5 hgs hb5 b5 hK5 HSR H4 B4
    obtain ⟨w6, hw6⟩ : ∃ W, w5.setCell ⟨q, 0, none⟩ (.string ⟨#[122, 122]⟩) = W := ⟨_, rfl⟩
    rw [hw6] at H6
    go_upto_region 13 with fail
    clear hw6 c0 f0
    go_wp2_with fail
    go_loopg [8] 8 (fun gg s8 wr => ∃ j : Nat, j ≤ 8 ∧ 8 - j ≤ gg ∧ s8 = .int .i64 (j : Int) ∧ Hid (SrAt K5 w wr p g s (.func (.func 10) #[] #[]) (Sr.owX a b j)))
    case atStart => exact ⟨0, by omega, by omega, rfl, H6⟩
    case round =>
      clear H6
      obtain ⟨j, hj, hgg, rfl, HS⟩ := hrel
      obtain ⟨wy, rfl⟩ : ∃ wx : World, wx = wr := ⟨_, rfl⟩
      by_cases hlt : j < 8
      · have hltI : (j : Int) < 8 := by omega
        have C := Lib.hid (srstep_any HS.out (HST.out j).2 HKG.out.1 HKG.out.2.2.2 (HMD.out wy) HU.out)
        rw [(HST.out j).1] at C
        clear HS
        go_wp2_with fail
        refine C.out.mono ?_
        rintro e w7 ⟨rfl, hs7, -⟩
        have H7 := Lib.hid hs7
        clear hs7 C
        go_wp2
        go_roundg (8 - (j + 1))
        case rel => exact ⟨j + 1, by omega, by omega, by go_num, H7⟩
        case measure => omega
      · obtain rfl : j = 8 := by omega
        have HFIN : Hid (Sr.owX a b 8 = ⟨[[115], [116]], [a, b], [1, 2], 2, 1⟩) := Lib.hid rfl
        rw [HFIN.out] at HS
        obtain ⟨x, hx⟩ : ∃ x : Sr.R, (⟨[[115], [116]], [a, b], [1, 2], 2, 1⟩ : Sr.R) = x := ⟨_, rfl⟩
        have HX : Hid (x.told = 1 ∧ x.vals = [a, b] ∧ x.stamps = [1, 2]) := Lib.hid (by rw [← hx]; exact ⟨rfl, rfl, rfl⟩)
        rw [hx] at HS
        clear hx hlt hj hgg HFIN HST HMD HU
        have CV := srvalues_any HS.out HX.out.1
        rw [HX.out.2.1] at CV
        have CV' := Lib.hid CV
        clear CV
        go_wp2_with fail
        refine CV'.out.mono ?_
        rintro e w8 ⟨v8, us8, rfl, ho8, hb8⟩
        obtain ⟨g2, c2, rfl, hg2, hc2⟩ : ∃ g2 c2, v8 = .slice (some ⟨g2, 0, none⟩) 2 c2 ∧ (wy.heap.size ≤ g2 ∧ g2 < w8.heap.size) ∧ ∀ j, j < 2 → w8.cell? ⟨g2, j, none⟩ = some (us8.getD j undef) := by
          have h2 := ho8.2.1
          rcases h2.2 with ⟨_, h0⟩ | ⟨g2, cap, cur, e, _⟩
          · exact absurd h0 (by simp)
          · have e' : v8 = .slice (some ⟨g2, 0, none⟩) 2 cap := e
            refine ⟨g2, cap, e', World.ownsRow.lt h2 g2 (by rw [e']; rfl), fun j hj => ?_⟩
            rw [e'] at h2
            rw [World.ownsRow.cellAt h2 j (by simpa using hj), List.getD_eq_getElem?_getD, List.getElem?_eq_getElem (by rw [ho8.1]; simpa using hj)]
            rfl
        obtain ⟨K6, hK6⟩ : ∃ K' : Nat → Prop, (fun k => K5 k ∨ (wy.heap.size ≤ k ∧ k < w8.heap.size)) = K' := ⟨_, rfl⟩
        have HT : Hid (SrTouch K6 w w8 p g g2 s (.func (.func 10) #[] #[]) x) := Lib.hid (by
          refine ⟨HS.out.grow hb8 fun k hk => ?_, fun j hj => ⟨_, hc2 j hj, ?_⟩⟩
          · rw [← hK6] at hk
            exact hk
          · have hown := ho8.2.2.2 j (by simpa using hj)
            have hj2 : j = 0 ∨ j = 1 := by omega
            refine hown.srU ?_ fun k hk => ?_
            · rcases hj2 with rfl | rfl
              · show a.length ≤ 256
                rw [HNA.out]
                exact HL.out.1
              · show b.length ≤ 256
                rw [HNB.out]
                exact HL.out.2
            · have h3 := hown.lt k hk
              have h4 := HS.out.fk.lt HKG.out.1
              have h5 := HS.out.fk.fs.below.size
              rw [← hK6]
              refine ⟨⟨.inr h3, by omega⟩, by omega, fun e => ?_⟩
              exact rows_not_same hown.1 ho8.2.1 (by decide) k hk (by rw [e]; rfl))
        have HK6 : Hid (K6 g ∧ wy.heap.size ≤ w8.heap.size ∧ g < wy.heap.size) := Lib.hid (by rw [← hK6]; exact ⟨.inl HKG.out.1, hb8.size, HS.out.fk.lt HKG.out.1⟩)
        clear ho8 hb8 hg2 hc2 hK6 CV' HS
        go_wp2_with fail
        go_loopg [57] 2 (fun gg s57 wr => ∃ j : Nat, j ≤ 2 ∧ 2 - j ≤ gg ∧ s57 = .int .i64 (j : Int) ∧ Hid (SrTouch K6 w wr p g g2 s (.func (.func 10) #[] #[]) x) ∧ Hid (w8.heap.size ≤ wr.heap.size))
        case atStart => exact ⟨0, by omega, by omega, rfl, HT, Lib.hid (Nat.le_refl _)⟩
        case round =>
          clear HT
          obtain ⟨j, hj, hgg, rfl, HT, HZ⟩ := hrel
          obtain ⟨wz, rfl⟩ : ∃ wx : World, wx = wr := ⟨_, rfl⟩
          by_cases hlt : j < 2
          · have hltI : (j : Int) < 2 := by omega
            obtain ⟨u, hcu, A, n, c, rfl, hn, hrow⟩ := HT.out.rows j hlt
            clear hrow
            go_wp2_with fail
            go_loopg [63] n (fun gg s63 wr => ∃ i : Nat, i ≤ n ∧ n - i ≤ gg ∧ s63 = .int .i64 (i : Int) ∧ Hid (SrTouch K6 w wr p g g2 s (.func (.func 10) #[] #[]) x) ∧ Hid (w8.heap.size ≤ wr.heap.size) ∧ Hid (wr.cell? ⟨g2, j, none⟩ = some (.slice A n c)))
            case atStart => exact ⟨0, by omega, by omega, rfl, HT, HZ, Lib.hid hcu⟩
            case round =>
              clear HT HZ hcu
              obtain ⟨i, hi, hgg2, rfl, HT, HZ, HCU⟩ := hrel
              obtain ⟨wx, rfl⟩ : ∃ wx : World, wx = wr := ⟨_, rfl⟩
              by_cases hlt2 : i < n
              · have hlt2I : (i : Int) < (n : Int) := by omega
                obtain ⟨u2, hcu2, A2, n2, c3, rfl, hn2, hrow⟩ := HT.out.rows j hlt
                have hee := HCU.out.symm.trans hcu2
                injection hee with hee
                injection hee with e1 e2 e3
                subst e1 e2 e3
                obtain ⟨b2, rfl, hkb, hcell⟩ := hrow (by omega)
                obtain ⟨⟨y, hy, hcy⟩, hfy⟩ := hcell i hlt2
                have hwr : IntKind.u8.wrap ((y : Int) + 1) = (((y + 1) % 256 : Nat) : Int) := by rw [IntKind.wrap_u8]; omega
                have HTN := Lib.hid (HT.out.set HK6.out.1 (i := i) (y := (y + 1) % 256) hkb (by omega))
                have HZN : Hid (w8.heap.size ≤ (wx.setCell ⟨b2, i, none⟩ (.int .u8 (((y + 1) % 256 : Nat) : Int))).heap.size) := Lib.hid (by rw [World.size_setCell]; exact HZ.out)
                have HCN : Hid ((wx.setCell ⟨b2, i, none⟩ (.int .u8 (((y + 1) % 256 : Nat) : Int))).cell? ⟨g2, j, none⟩ = some (.slice (some ⟨b2, 0, none⟩) n c)) := Lib.hid ((World.cell?_setCell_other _ _ _ _ fun e => hkb.2.2 (by injection e)).trans HCU.out)
                clear hrow hcell hkb hcu2 hn2 HT HZ HCU hy
                go_wp2
                go_roundg (n - (i + 1))
                case rel => exact ⟨i + 1, by omega, by omega, by go_num, HTN, HZN, HCN⟩
                case measure => omega
              · obtain rfl : i = n := by omega
                clear hlt2 hi hgg2
                go_wp2
                go_roundg (2 - (j + 1))
                case rel => exact ⟨j + 1, by omega, by omega, by go_num, HT, HZ⟩
                case measure => omega
          · obtain rfl : j = 2 := by omega
            clear hlt hj hgg
            have HSA := Lib.hid HT.out.at'
            clear HT
            have CS := srstamps_any HSA.out HX.out.1
            rw [HX.out.2.2] at CS
            have CS' := Lib.hid CS
            clear CS
            go_wp2_with fail
            refine CS'.out.mono ?_
            rintro e w9 ⟨v9, rfl, ho9, hb9⟩
            obtain ⟨q3, c9, rfl, hq3⟩ : ∃ q3 c9, v9 = .slice (some ⟨q3, 0, none⟩) 2 c9 ∧ (wz.heap.size ≤ q3 ∧ q3 < w9.heap.size) := by
              rcases ho9.2 with ⟨_, h0⟩ | ⟨g2, cap, cur, e, _⟩
              · exact absurd h0 (by simp)
              · exact ⟨g2, cap, e, World.ownsRow.lt ho9 g2 (by rw [e]; rfl)⟩
            obtain ⟨K7, hK7⟩ : ∃ K' : Nat → Prop, (fun k => K6 k ∨ (wz.heap.size ≤ k ∧ k < w9.heap.size)) = K' := ⟨_, rfl⟩
            have HT7 : Hid (SrTurn K7 w w9 p g q3 2 s (.func (.func 10) #[] #[]) x) := Lib.hid (by
              refine ⟨HSA.out.grow hb9 fun k hk => ?_, fun j hj => ⟨?_, World.ownsRow.frozenAt ho9 j⟩⟩
              · rw [← hK7] at hk
                exact hk
              · have := OwnI.cell ho9 (k := j) (by simpa using hj)
                obtain ⟨g', e, hc⟩ := this
                injection e with e
                injection e with e
                subst e
                rw [Nat.zero_add] at hc
                exact ⟨_, hc⟩)
            have HK7 : Hid (K7 g ∧ (K7 q3 ∧ q3 ≠ g) ∧ w.heap.size ≤ q3) := Lib.hid (by
              rw [← hK7]
              have := HK6.out
              have := HZ.out
              have := HSA.out.fk.fs.below.size
              exact ⟨.inl HK6.out.1, ⟨.inr hq3, by omega⟩, by omega⟩)
            clear ho9 hb9 hq3 hK7 CS' HSA HZ HK6
            go_wp2_with fail
            go_loopg [78] 2 (fun gg s78 wr => ∃ j : Nat, j ≤ 2 ∧ 2 - j ≤ gg ∧ s78 = .int .i64 (j : Int) ∧ Hid (SrTurn K7 w wr p g q3 2 s (.func (.func 10) #[] #[]) x))
            case atStart => exact ⟨0, by omega, by omega, rfl, HT7⟩
            case round =>
              clear HT7
              obtain ⟨j, hj, hgg, rfl, HT⟩ := hrel
              obtain ⟨wx, rfl⟩ : ∃ wx : World, wx = wr := ⟨_, rfl⟩
              by_cases hlt : j < 2
              · have hltI : (j : Int) < 2 := by omega
                obtain ⟨⟨z, hz⟩, hf⟩ := HT.out.cells j hlt
                have HTN := Lib.hid (HT.out.set HK7.out.1 HK7.out.2 j (-1))
                clear HT
                go_wp2
                go_roundg (2 - (j + 1))
                case rel => exact ⟨j + 1, by omega, by omega, by go_num, HTN⟩
                case measure => omega
              · obtain rfl : j = 2 := by omega
                clear hlt hj hgg
                have HSA := Lib.hid HT.out.at'
                clear HT
                have CV := srvalues_any HSA.out HX.out.1
                rw [HX.out.2.1] at CV
                have CV' := Lib.hid CV
                clear CV
                go_wp2_with fail
                refine CV'.out.mono ?_
                rintro e w10 ⟨v10, us10, rfl, ho10, hb10⟩
                have HR10 := Lib.hid ho10.ownR.rows
                obtain ⟨A10, c10, rfl⟩ := ownRx_sl ho10
                have HS10 := Lib.hid (HSA.out.under hb10)
                clear ho10 hb10 CV' HSA
                have HBB := Lib.hid HS10.out.fk.fs.below
                go_wp2_with fail
                have hpair : ∀ o, Rows2 (w10.alloc (.cells #[.slice Aa na ca, .slice Ab nb cb] o)) (.slice (some ⟨w10.heap.size, 0, none⟩) 2 2) [a, b] := fun o => rows2_pair (t := o) (heap_alloc_new w10 _) ((HA.out.under HBB.out).alloc _) ((HB.out.under HBB.out).alloc _)
                have hba : ∀ o, Below w10.heap.size w10 (w10.alloc o) := fun o => (Below.refl _ _).alloc (Nat.le_refl _) o
                refine (samerows_any _ _ [a, b] [a, b] _ (HR10.out.under (hba _)) (hpair _)).mono ?_
                rw [decide_eq_true rfl]
                rintro e w11 ⟨rfl, m11, hw11⟩
                have HB11 : Hid (Below w10.heap.size w10 w11) := Lib.hid (by
                  rw [hw11]
                  exact (hba _).trans ((sr_drewN _ m11).mono (hba _).size))
                have HS11 := Lib.hid (HS10.out.under HB11.out)
                clear hw11 hpair hba HR10 HS10 HB11 HBB
                have CS := srstamps_any HS11.out HX.out.1
                rw [HX.out.2.2] at CS
                have CS' := Lib.hid CS
                clear CS
                go_wp2_with fail
                refine CS'.out.mono ?_
                rintro e w12 ⟨v12, rfl, ho12, hb12⟩
                have HI12 := Lib.hid ho12.srI
                obtain ⟨A12, c12, rfl⟩ := ownI_sl ho12
                have HB12 := Lib.hid (HS11.out.under hb12).fk.fs.below
                clear ho12 hb12 CS' HS11
                go_wp2_with fail
                refine (srints_any [1, 2] [1, 2] _ _ _ (HI12.out.under ((Below.refl _ _).alloc (Nat.le_refl _) _)) (srI_lit w12 w12.heap.size rfl [1, 2] 2 rfl 3 (0, 0)) (by simp) (by simp)).mono ?_
                rw [decide_eq_true rfl]
                rintro e w13 ⟨rfl, hb13⟩
                have HB13 := Lib.hid (HB12.out.trans ((((Below.refl w12.heap.size w12).alloc (Nat.le_refl _) (.cells #[.int .i64 1, .int .i64 2] 3)).trans (hb13.mono (by simp))).mono HB12.out.size))
                clear hb13 HI12
                go_wp2_with fail
                refine (srawake_any w13).mono ?_
                rintro e w14 ⟨rfl, hb14⟩
                have H14 := Lib.hid (HB13.out.trans (hb14.mono HB13.out.size))
                clear hb14
                go_wp2
                go_ret
                exact ⟨rfl, H14.out⟩
  · have hor : (na : Int) > 256 ∨ (¬ ((na : Int) > 256) ∧ (nb : Int) > 256) := by omega
    clear hl
    rcases hor with h1 | ⟨h1, h2⟩
    all_goals
      go_wp2_with fail
      refine (srawake_any w).mono ?_
      rintro e w14 ⟨rfl, hb14⟩
      have H14 := Lib.hid hb14
      clear hb14
      go_wp2
      go_ret
      exact ⟨rfl, H14.out⟩
end Go.Proofs.Ytoloidfkpfdboaa
