/- Package mani's own reader: whether Rules lead round. -/
import Derived.Test.YtgjehlegcmeeoaaGreatDoorZ21
import Derived.Test.YtgjehlegcmeeoaaGreatDoorZ24
import Derived.Deep.OwnRows
import Derived.Test.YtgjehlegcmeeoaaGreatDoorZ22
import Derived.Test.YtgjehlegcmeeoaaGreatDoorZ18
import Derived.Test.YtgjehlegcmeeoaaGreatDoorZ15
import Derived.Test.YtgjehlegcmeeoaaGreatDoorZ05
import Derived.BigRegion
import Derived.Deep.RegionHeld3
namespace Go.Proofs.YtgjehlegcmeeoaaGreatDoor
set_option maxRecDepth 100000
open Go.ChangeShapes Go.WideShapes Go.ChangeAt Go.RowKit Go.Shelf

theorem infoBool : (Tryz.prog.info? 4).map (fun i => (i.zero, i.size, i.bytes)) = some (some (.bool false), 1, 1) := by kernel_rfl
theorem made_bools (n : Nat) : madeCells #[.bool false] n = ((List.replicate n false).map Value.bool).toArray := by
  apply Array.ext'
  rw [toList_madeCells_one, List.map_replicate]
theorem way_len (s : Mo.S) : ∀ (l : List Mn.Rule) (i : Nat) (free : List Bool), (Mo.way s l i free).length = free.length
  | [], i, free => rfl
  | r :: l, i, free => by
    rw [Mo.way, way_len s l]
    simp
theorem FreeAt.set {w : World} {g b1 b3 fb n : Nat} {free : List Bool} (h : FreeAt w g b1 b3 fb n free) (i : Nat) (q : Bool) (h1 : b1 ≠ fb) (h3 : b3 ≠ fb) : FreeAt (w.setCell ⟨fb, i, none⟩ (.bool q)) g b1 b3 fb n (free.set i q) :=
  ⟨h.rd.setOther h1 _, h.var.setOther h3 _, by
    have := h.row.set i (.bool q)
    rw [List.map_set, ← List.setIfInBounds_toArray]
    exact this, by rw [List.length_set]; exact h.len⟩
theorem alloc_drew (w : World) (o : Obj) : Below w.heap.size w (w.alloc o).drew := ((Below.refl _ _).alloc (Nat.le_refl _) o).drew
/-- The cells of a Rule among the reader's. -/
theorem RulesB.at {w : World} {base hi n c : Nat} {A : Option Addr} {l : List Mn.Rule} (h : RulesB w base hi (.slice A n c) l) (i : Nat) (hi' : i < l.length) : ∃ gb q, A = some ⟨gb, 0, none⟩ ∧ gb < hi ∧ Parts w hi q (l.getD i emptyRule) ∧ w.cell? ⟨gb, i * 5, none⟩ = some q.1 ∧ w.cell? ⟨gb, i * 5 + 1, none⟩ = some q.2.1 ∧ w.cell? ⟨gb, i * 5 + 2, none⟩ = some q.2.2.1 ∧ w.cell? ⟨gb, i * 5 + 3, none⟩ = some q.2.2.2 ∧ w.cell? ⟨gb, i * 5 + 4, none⟩ = some (.bool (l.getD i emptyRule).phony) := by
  obtain ⟨f, h1, h2, h3⟩ := h
  have h1' := h1
  rcases h1.2 with ⟨e, h0⟩ | ⟨gb, cap, cur, e, _, _, _, _, _, _⟩
  · omega
  · injection e with e1 e2 e3
    subst e1 e2 e3
    have hc : ∀ j, j < 5 → w.cell? ⟨gb, i * 5 + j, none⟩ = (cellsR (f i) (l.getD i emptyRule))[j]? := fun j hj => by
      rw [World.ownsRow.cellAt h1' (i * 5 + j) (by omega), rowR_at f l l.length i j hi' hj]
    exact ⟨gb, f i, rfl, h2 gb rfl, h3 i hi', hc 0 (by omega), hc 1 (by omega), hc 2 (by omega), hc 3 (by omega), hc 4 (by omega)⟩
theorem RulesB.parts {w : World} {base hi : Nat} {v : Value} {l : List Mn.Rule} (h : RulesB w base hi v l) : ∃ A c, v = .slice A l.length c := by
  obtain ⟨f, h1, _⟩ := h
  rcases h1.2 with ⟨rfl, h0⟩ | ⟨g, cap, cur, rfl, _⟩
  · exact ⟨none, 0, by rw [h0]⟩
  · exact ⟨_, _, rfl⟩
set_option maxHeartbeats 16000000 in
theorem round_any (base hi g lb mb : Nat) (s : Mo.S) (w : World) (h : MRd w base hi g lb mb s) (hrules : s.rules.length ≤ 100000) (hm : ∀ t i, Mo.has t s.makers = some i → i < s.rules.length) (hri : ∀ r ∈ s.rules, r.ins.length ≤ 1000000 ∧ r.order.length ≤ 1000000) :
    Calls Tryz.prog 41 #[.pointer (some ⟨g, 0, none⟩)] w fun e w' => e = .returned (.bool (Mo.round s)) ∧ Below w.heap.size w w' := by
  have HR := Lib.hid h
  have HM := Lib.hid hm
  have HRI := Lib.hid hri
  obtain ⟨cv, rv, sv, hin⟩ := h
  obtain ⟨A, c, rfl⟩ := hin.rules.parts
  obtain ⟨n, hn⟩ : ∃ n, s.rules.length = n := ⟨_, rfl⟩
  have HN := Lib.hid hn
  have HIN := Lib.hid hin
  have k3 : w.cell? ⟨g, 3, none⟩ = some (.slice A n c) := by rw [← hn]; exact hin.blk.at 3
  have hgs : g < w.heap.size := hin.blk.size
  rw [hn] at hrules
  have hmk := fun W => run_make_row' (P := Tryz.prog) 97 4 (.bool false) 1 Tryz.underlying97 infoBool rfl .i64 .i64 n (by omega) (by omega) W
  have HF0 : Hid (FreeAt (((w.alloc (.cells #[.pointer (some ⟨g, 0, none⟩)] 83)).alloc (.cells (madeCells #[.bool false] n) 4)).alloc (.cells #[.slice (some ⟨w.heap.size + 1, 0, none⟩) n n] 97)) g w.heap.size (w.heap.size + 1 + 1) (w.heap.size + 1) n (List.replicate n false)) :=
    Lib.hid ⟨((blk_new rfl).alloc _).alloc _, blk_new (by simp), by rw [made_bools]; exact (blk_new (by simp)).alloc _, by simp⟩
  have HB0 : Hid (Below w.heap.size w (((w.alloc (.cells #[.pointer (some ⟨g, 0, none⟩)] 83)).alloc (.cells (madeCells #[.bool false] n) 4)).alloc (.cells #[.slice (some ⟨w.heap.size + 1, 0, none⟩) n n] 97))) := Lib.hid ((((Below.refl _ _).alloc (Nat.le_refl _) _).alloc (by simp) _).alloc (by simp; omega) _)
  have HRS : Hid (Mo.round s = (Mo.ways s n (List.replicate n false)).contains false) := Lib.hid (by unfold Mo.round; rw [HN.out])
  obtain ⟨ro, hro⟩ : ∃ r, Mo.round s = r := ⟨_, rfl⟩
  rw [hro] at HRS ⊢
  clear hm hri hin hn hro
  go_enter Tryz.func41, Tryz.ntmps41
  go_upto_region 3 with fail
  obtain ⟨w0, hw0⟩ : ∃ w0, (((w.alloc (.cells #[.pointer (some ⟨g, 0, none⟩)] 83)).alloc (.cells (madeCells #[.bool false] n) 4)).alloc (.cells #[.slice (some ⟨w.heap.size + 1, 0, none⟩) n n] 97)) = w0 := ⟨_, rfl⟩
  rw [hw0] at HF0 HB0 ⊢
  have q3 : w0.cell? ⟨w.heap.size + 1 + 1, 0, none⟩ = some (.slice (some ⟨w.heap.size + 1, 0, none⟩) n n) := HF0.out.var.at 0
  obtain ⟨b1, hb1⟩ : ∃ b, w.heap.size = b := ⟨_, rfl⟩
  have HB1 := Lib.hid hb1
  have hfb : w.heap.size + 1 = b1 + 1 := by rw [hb1]
  rw [hb1] at HF0 q3 ⊢
  clear hmk k3 hgs hw0 hb1 hfb
  go_wp2_with fail
  go_loopg [17] n (fun gk iv wr => ∃ (k : Nat) (free : List Bool), k ≤ n ∧ n - k ≤ gk ∧ iv = .int .i64 (k : Int) ∧ Hid (ro = (Mo.ways s (n - k) free).contains false) ∧ Hid (FreeAt wr g b1 (b1 + 1 + 1) (b1 + 1) n free) ∧ Hid (Below w.heap.size w wr))
  case atStart => exact ⟨0, _, Nat.zero_le _, by omega, rfl, HRS, HF0, HB0⟩
  case round =>
    obtain ⟨k, free, hk, hg, rfl, hro, hF, hbl⟩ := hrel
    obtain ⟨wz, rfl⟩ : ∃ wx : World, wx = wr := ⟨_, rfl⟩
    have p1 : wz.cell? ⟨b1, 0, none⟩ = some (.pointer (some ⟨g, 0, none⟩)) := hF.out.rd.at 0
    have p3 : wz.cell? ⟨b1 + 1 + 1, 0, none⟩ = some (.slice (some ⟨b1 + 1, 0, none⟩) n n) := hF.out.var.at 0
    have r3 : wz.cell? ⟨g, 3, none⟩ = some (.slice A n c) := by rw [← HN.out]; exact (HIN.out.under hbl.out).blk.at 3
    by_cases hlt : k < n
    · have hkI : (k : Int) < (n : Int) := by omega
      have HNX : Hid (ro = (Mo.ways s (n - (k + 1)) (Mo.way s s.rules 0 free)).contains false) := Lib.hid (by
        have := hro.out
        rw [show n - k = (n - (k + 1)) + 1 from by omega] at this
        exact this)
      clear hro
      go_wp2_with fail
      go_loopg [25] n (fun gk iv wr => ∃ (i : Nat) (free2 : List Bool), i ≤ n ∧ n - i ≤ gk ∧ iv = .int .i64 (i : Int) ∧ Hid (Mo.way s s.rules 0 free = Mo.way s (s.rules.drop i) i free2) ∧ Hid (FreeAt wr g b1 (b1 + 1 + 1) (b1 + 1) n free2) ∧ Hid (Below w.heap.size w wr))
      case atStart => exact ⟨0, free, Nat.zero_le _, by omega, rfl, Lib.hid rfl, hF, hbl⟩
      case round =>
        obtain ⟨i, free2, hile, hgi, rfl, hwy, hF2, hbl2⟩ := hrel
        obtain ⟨wy, rfl⟩ : ∃ wx : World, wx = wr := ⟨_, rfl⟩
        by_cases hit : i < n
        · have hiI : (i : Int) < (n : Int) := by omega
          have hiL : i < s.rules.length := by rw [HN.out]; exact hit
          have hin2 := HIN.out.under hbl2.out
          obtain ⟨gb, q, rfl, _, hpt, c0, c1, c2, c3, c4⟩ := hin2.rules.at i hiL
          obtain ⟨r, hr⟩ : ∃ r, s.rules.getD i emptyRule = r := ⟨_, rfl⟩
          have hrm : r ∈ s.rules := by rw [← hr, List.getD_eq_getElem?_getD, List.getElem?_eq_getElem hiL]; exact List.getElem_mem hiL
          have hgr := hin2.good.rules r hrm
          have hrl := HRI.out r hrm
          rw [hr] at hpt c4
          have HDR : Hid (s.rules.drop i = r :: s.rules.drop (i + 1)) := Lib.hid (by
            rw [List.drop_eq_getElem_cons hiL, ← hr, List.getD_eq_getElem?_getD, List.getElem?_eq_getElem hiL]
            rfl)
          obtain ⟨q1, q2, q3', q4⟩ := q
          dsimp only at c0 c1 c2 c3
          have hm2 : ∀ t j, Mo.has t s.makers = some j → j < n := fun t j h => by have := HM.out t j h; rw [HN.out] at this; exact this
          have HCI : Hid (∀ W, Below wy.heap.size wy W → Calls Tryz.prog 69 #[q2, .func (.func 68) #[] #[.pointer (some ⟨b1, 0, none⟩), .pointer (some ⟨b1 + 1 + 1, 0, none⟩)]] W fun e w' => e = .returned (.bool (r.ins.any (Mo.waits s free2))) ∧ W = w') := Lib.hid (fun W hb => anywaits_any base hi hi g lb mb b1 (b1 + 1 + 1) (b1 + 1) n s free2 q2 r.ins W ((HR.out.under hbl2.out).under hb) (hF2.out.under hb) hm2 (hpt.ins.keep (Q := PartTy) (KeepB.below hb) (.inl rfl)) hgr.ins hrl.1)
          have HCO : Hid (∀ W, Below wy.heap.size wy W → Calls Tryz.prog 69 #[q3', .func (.func 68) #[] #[.pointer (some ⟨b1, 0, none⟩), .pointer (some ⟨b1 + 1 + 1, 0, none⟩)]] W fun e w' => e = .returned (.bool (r.order.any (Mo.waits s free2))) ∧ W = w') := Lib.hid (fun W hb => anywaits_any base hi hi g lb mb b1 (b1 + 1 + 1) (b1 + 1) n s free2 q3' r.order W ((HR.out.under hbl2.out).under hb) (hF2.out.under hb) hm2 (hpt.order.keep (Q := PartTy) (KeepB.below hb) (.inl rfl)) hgr.order hrl.2)
          obtain ⟨A2, d2, rfl, _⟩ := SlB.parts hpt.ins
          obtain ⟨A3, d3, rfl, _⟩ := SlB.parts hpt.order
          obtain ⟨A0, d0, rfl, _⟩ := SlB.parts hpt.outs
          obtain ⟨A4, d4, rfl, _⟩ := SlB.parts hpt.acts
          obtain ⟨x1, hx1⟩ : ∃ x, r.ins.any (Mo.waits s free2) = x := ⟨_, rfl⟩
          obtain ⟨x2, hx2⟩ : ∃ x, r.order.any (Mo.waits s free2) = x := ⟨_, rfl⟩
          have HWN : Hid (Mo.way s s.rules 0 free = Mo.way s (s.rules.drop (i + 1)) (i + 1) (free2.set i (!x1 && !x2))) := Lib.hid (by rw [hwy.out, HDR.out, Mo.way, hx1, hx2])
          rw [hx1] at HCI
          rw [hx2] at HCO
          have s1 : wy.cell? ⟨b1, 0, none⟩ = some (.pointer (some ⟨g, 0, none⟩)) := hF2.out.rd.at 0
          have s3 : wy.cell? ⟨b1 + 1 + 1, 0, none⟩ = some (.slice (some ⟨b1 + 1, 0, none⟩) n n) := hF2.out.var.at 0
          have sf : wy.cell? ⟨b1 + 1, i, none⟩ = some (.bool (free2.getD i false)) := hF2.out.at i hit
          have sz : wy.frozen? ⟨b1 + 1, i, none⟩ = false := hF2.out.row.free i
          have s4 : b1 + 1 + 1 < wy.heap.size := hF2.out.var.size
          have s5 : b1 + 1 < wy.heap.size := hF2.out.row.size
          have HAL : Hid (∀ o, Below wy.heap.size wy (wy.alloc o).drew) := Lib.hid (fun o => ((Below.refl _ _).alloc (Nat.le_refl _) o).drew)
          clear hin2 hpt hgr hrl hr hrm hm2 hx1 hx2 hwy hiL
          have HBL : Hid (w.heap.size ≤ b1 + 1) := Lib.hid (by have := HB1.out; omega)
          rcases x1 with _ | _
          · rcases x2 with _ | _
            · go_upto_region 8 with fail
              go_region_with (go_at_call 69; first | (refine (HCI.out _ (HAL.out _)).mono ?_; rintro e w2 ⟨rfl, rfl⟩) | (refine (HCO.out _ (HAL.out _)).mono ?_; rintro e w2 ⟨rfl, rfl⟩))
              all_goals
                go_wp2
                have hF3 := (hF2.out.set i true (by omega) (by omega)).under (alloc_drew _ (.cells #[.slice A0 r.outs.length d0, .slice A2 r.ins.length d2, .slice A3 r.order.length d3, .slice A4 r.acts.length d4, .bool r.phony] 41))
                have hs3 := hbl2.out.setCell (p := ⟨b1 + 1, i, none⟩) (HBL.out) (.bool true)
                have hb3 := hs3.trans ((alloc_drew _ (.cells #[.slice A0 r.outs.length d0, .slice A2 r.ins.length d2, .slice A3 r.order.length d3, .slice A4 r.acts.length d4, .bool r.phony] 41)).mono hs3.size)
                have HWN2 : Hid (Mo.way s s.rules 0 free = Mo.way s (s.rules.drop (i + 1)) (i + 1) (free2.set i true)) := HWN
                go_roundg (n - (i + 1))
                case measure => omega
                case rel => exact ⟨i + 1, _, hit, by omega, by go_num, HWN2, Lib.hid hF3, Lib.hid hb3⟩
            · go_upto_region 8 with fail
              go_region_with (go_at_call 69; first | (refine (HCI.out _ (HAL.out _)).mono ?_; rintro e w2 ⟨rfl, rfl⟩) | (refine (HCO.out _ (HAL.out _)).mono ?_; rintro e w2 ⟨rfl, rfl⟩))
              all_goals
                go_wp2
                have hF3 := (hF2.out.set i false (by omega) (by omega)).under (alloc_drew _ (.cells #[.slice A0 r.outs.length d0, .slice A2 r.ins.length d2, .slice A3 r.order.length d3, .slice A4 r.acts.length d4, .bool r.phony] 41))
                have hs3 := hbl2.out.setCell (p := ⟨b1 + 1, i, none⟩) (HBL.out) (.bool false)
                have hb3 := hs3.trans ((alloc_drew _ (.cells #[.slice A0 r.outs.length d0, .slice A2 r.ins.length d2, .slice A3 r.order.length d3, .slice A4 r.acts.length d4, .bool r.phony] 41)).mono hs3.size)
                have HWN2 : Hid (Mo.way s s.rules 0 free = Mo.way s (s.rules.drop (i + 1)) (i + 1) (free2.set i false)) := HWN
                go_roundg (n - (i + 1))
                case measure => omega
                case rel => exact ⟨i + 1, _, hit, by omega, by go_num, HWN2, Lib.hid hF3, Lib.hid hb3⟩
          · go_upto_region 8 with fail
            first
              | (go_region_with (go_at_call 69; first | (refine (HCI.out _ (HAL.out _)).mono ?_; rintro e w2 ⟨rfl, rfl⟩) | (refine (HCO.out _ (HAL.out _)).mono ?_; rintro e w2 ⟨rfl, rfl⟩)))
              | fail
            all_goals
              go_wp2
              have hF3 := (hF2.out.set i false (by omega) (by omega)).under (alloc_drew _ (.cells #[.slice A0 r.outs.length d0, .slice A2 r.ins.length d2, .slice A3 r.order.length d3, .slice A4 r.acts.length d4, .bool r.phony] 41))
              have hs3 := hbl2.out.setCell (p := ⟨b1 + 1, i, none⟩) (HBL.out) (.bool false)
              have hb3 := hs3.trans ((alloc_drew _ (.cells #[.slice A0 r.outs.length d0, .slice A2 r.ins.length d2, .slice A3 r.order.length d3, .slice A4 r.acts.length d4, .bool r.phony] 41)).mono hs3.size)
              have HWN2 : Hid (Mo.way s s.rules 0 free = Mo.way s (s.rules.drop (i + 1)) (i + 1) (free2.set i false)) := HWN
              go_roundg (n - (i + 1))
              case measure => omega
              case rel => exact ⟨i + 1, _, hit, by omega, by go_num, HWN2, Lib.hid hF3, Lib.hid hb3⟩
        · have hiI : ¬ (i : Int) < (n : Int) := by omega
          have HWE : Hid (Mo.way s s.rules 0 free = free2) := Lib.hid (by rw [hwy.out, List.drop_of_length_le (by rw [HN.out]; omega)]; rfl)
          rw [HWE.out] at HNX
          go_wp2
          go_roundg (n - (k + 1))
          case measure => omega
          case rel => exact ⟨k + 1, free2, hlt, by omega, by go_num, HNX, hF2, hbl2⟩
    · have hkI : ¬ (k : Int) < (n : Int) := by omega
      have HRE : Hid (ro = free.contains false) := Lib.hid (by
        have := hro.out
        rw [show n - k = 0 from by omega] at this
        exact this)
      have HCT : Hid (Calls Tryz.prog 70 #[.slice (some ⟨b1 + 1, 0, none⟩) n n, .bool false] wz fun e w' => e = .returned (.bool ro) ∧ wz = w') := Lib.hid (by
        rw [HRE.out]
        exact hasfalse_any (b1 + 1) n free wz hF.out.row hF.out.len (by omega))
      clear hro
      go_wp2_with fail
      refine HCT.out.mono ?_
      rintro e w2 ⟨rfl, rfl⟩
      go_wp2
      go_ret
      exact ⟨rfl, hbl.out⟩
end Go.Proofs.YtgjehlegcmeeoaaGreatDoor

/- Package mani's own reader: all lines, and what is told behind them. -/
namespace Go.Proofs.YtgjehlegcmeeoaaGreatDoor
set_option maxRecDepth 100000
open Go.ChangeShapes Go.WideShapes Go.ChangeAt Go.RowKit Go.Shelf

/-- Lines of words that lie below a place. -/
def LnB (w : World) (hi : Nat) (v : Value) (LL : List (List Ln.W)) : Prop :=
  ∃ A c, v = .slice A LL.length c ∧ (0 < LL.length → ∃ b off, A = some ⟨b, off, none⟩ ∧ b < hi ∧ ∀ i, i < LL.length → ∃ u, w.cell? ⟨b, off + i, none⟩ = some u ∧ SlW w hi u (LL.getD i []))
theorem LnB.below {w w' : World} {hi : Nat} {v : Value} {LL : List (List Ln.W)} (h : LnB w hi v LL) (hb : Below hi w w') : LnB w' hi v LL := by
  obtain ⟨A, c, rfl, hc⟩ := h
  refine ⟨A, c, rfl, fun h0 => ?_⟩
  obtain ⟨b, off, rfl, hbh, hx⟩ := hc h0
  refine ⟨b, off, rfl, hbh, fun i hi => ?_⟩
  obtain ⟨u, h1, h2⟩ := hx i hi
  exact ⟨u, (World.cell?_of_block (hb.block b hbh)).trans h1, h2.keep (Q := PartTy) (KeepB.same fun k hk => hb.block k hk) (.inr (.inr (.inr rfl)))⟩
theorem Lns.lnB {w : World} {base : Nat} {v : Value} {LL : List (List Ln.W)} (h : Lns w base v LL) : LnB w w.heap.size v LL := by
  obtain ⟨us, h1, h2, h3, h4, _⟩ := h
  have h2' := h2
  rcases h2.2 with ⟨rfl, h0⟩ | ⟨g, cap, cur, rfl, hb, hg, hn, hm, hs, ht⟩
  · exact ⟨none, 0, by rw [h0], fun h => by omega⟩
  · refine ⟨_, cap, rfl, fun _ => ⟨g, 0, rfl, (World.ownsRow.lt h2' g rfl).2, fun i hi => ⟨us.getD i undef, ?_, (h4 i hi).slB (Nat.le_refl _)⟩⟩⟩
    rw [show 0 + i = i from by omega, World.ownsRow.cellAt h2' i (by omega), List.getD_eq_getElem?_getD, List.getElem?_eq_getElem (by omega)]
    rfl
/-- The lines from a reader on, and what is told behind them. -/
def Mo.readOn (s : Mo.S) (L : List (List Ln.W)) : Mo.S :=
  if (Mo.lines s L).e.k ≠ 0 then Mo.lines s L else if Mo.round (Mo.unmade (Mo.lines s L)) then Mo.fail 12 Mo.word0 (Mo.unmade (Mo.lines s L)) else Mo.unmade (Mo.lines s L)
theorem read_is (L : List (List Ln.W)) : Mo.read L = Mo.readOn Mo.start L := rfl
theorem readOn_next {s : Mo.S} {l : List Ln.W} {r : List (List Ln.W)} (h : (Mo.line s l).e.k = 0) : Mo.readOn s (l :: r) = Mo.readOn (Mo.line s l) r := by
  have : Mo.lines s (l :: r) = Mo.lines (Mo.line s l) r := by rw [Mo.lines, if_neg (by omega)]
  unfold Mo.readOn
  rw [this]
theorem readOn_bad {s : Mo.S} {l : List Ln.W} {r : List (List Ln.W)} (h : (Mo.line s l).e.k ≠ 0) : Mo.readOn s (l :: r) = Mo.line s l := by
  have : Mo.lines s (l :: r) = Mo.line s l := by rw [Mo.lines, if_pos h]
  unfold Mo.readOn
  rw [this, if_pos h]
theorem readOn_end {s : Mo.S} (h : s.e.k = 0) : Mo.readOn s [] = if Mo.round (Mo.unmade s) then Mo.fail 12 Mo.word0 (Mo.unmade s) else Mo.unmade s := by
  unfold Mo.readOn
  rw [show Mo.lines s [] = s from rfl, if_neg (by omega)]
/-- One of Default is asked for. -/
def Mo.um (s : Mo.S) (w : Ln.W) : Mo.S := if (Mo.has w.text s.makers).isSome then s else Mo.fail 10 w s
theorem unmade_is (s : Mo.S) : Mo.unmade s = s.chosen.foldl Mo.um s := rfl
theorem sm_um (s : Mo.S) (w : Ln.W) : Sm s (Mo.um s w) := by
  unfold Mo.um
  split
  · exact Sm.refl s
  · exact sm_fail _ _ _
theorem foldl_drop {α β : Type} (f : β → α → β) (l : List α) (d : α) (j : Nat) (h : j < l.length) (b : β) : (l.drop j).foldl f b = (l.drop (j + 1)).foldl f (f b (l.getD j d)) := by
  rw [List.drop_eq_getElem_cons h, List.foldl_cons, List.getD_eq_getElem?_getD, List.getElem?_eq_getElem h]
  rfl
theorem MRdIn.rulesSet {w : World} {base hi g lb mb : Nat} {cv rv sv : Value} {s : Mo.S} (h : MRdIn w base hi g lb mb cv rv sv s) (i : Nat) (u : Value) : RulesB (w.setCell ⟨g, i, none⟩ u) base hi rv s.rules := by
  have hty : Ty w g 57 := h.blk.ty
  refine h.rules.keep (KeepB.grown (grown_setCell w ⟨g, i, none⟩ u) hty notPart_reader) fun k hk' => ?_
  have ht := h.rules.ty k hk'
  exact (grown_setCell w ⟨g, i, none⟩ u).block k ht.2.2 (by
    intro e
    injection e with e
    subst e
    exact absurd rfl (ht.1.ne hty (by decide)))
/-- What is read: the fault, or the rules and Default. -/
def MReadIs (w : World) (base g : Nat) (s : Mo.S) (w' : World) : Prop :=
  Below base w w' ∧ GoodS s ∧ w'.cell? ⟨g, 10, none⟩ = some (.int .i64 (s.e.k : Int)) ∧ w'.cell? ⟨g, 11, none⟩ = some (.int .i64 (s.e.line : Int)) ∧ w'.cell? ⟨g, 12, none⟩ = some (.int .i64 (s.e.col : Int)) ∧
    ∃ rv dv, w'.cell? ⟨g, 3, none⟩ = some rv ∧ w'.cell? ⟨g, 4, none⟩ = some dv ∧ g < w'.heap.size ∧ (s.e.k = 0 → RulesB w' base w'.heap.size rv s.rules ∧ SlTB w' w'.heap.size dv (Mo.texts s.chosen))
theorem readIs_bad {w w' : World} {base hi g lb mb : Nat} {s : Mo.S} (h : MRd w' base hi g lb mb s) (hb : Below base w w') (hk : s.e.k ≠ 0) : MReadIs w base g s w' := by
  have ht := h.top
  have hg := h.good
  obtain ⟨cv, rv, sv, hin⟩ := h
  exact ⟨hb, hg, hin.blk.at 10, hin.blk.at 11, hin.blk.at 12, rv, .slice none 0 0, hin.blk.at 3, hin.blk.at 4, by omega, fun h => absurd h hk⟩
theorem readIs_end {w w' : World} {base hi g lb mb : Nat} {s : Mo.S} {u : Value} {b0 : Nat} (h : MRd w' base hi g lb mb s) (hb : Below base w w') (ho : OwnT w' b0 u (Mo.texts s.chosen)) : MReadIs w base g s (w'.setCell ⟨g, 4, none⟩ u) := by
  have ht := h.top
  have hg := h.good
  have hty := h.tyg
  obtain ⟨cv, rv, sv, hin⟩ := h
  have hB := hin.blk.set 4 u
  refine ⟨hb.setCell (p := ⟨g, 4, none⟩) ht.1 u, hg, hB.at 10, hB.at 11, hB.at 12, rv, u, hB.at 3, hB.at 4, by simp; omega, fun _ => ⟨(hin.rulesSet 4 u).more (by simp; omega), ?_⟩⟩
  exact (ho.slB (hi := (w'.setCell ⟨g, 4, none⟩ u).heap.size) (by simp)).left (grown_setCell w' ⟨g, 4, none⟩ u) hty
/-- What is carried while the names of Default are gone through. -/
def Dfl (base H g lb mb z : Nat) (s : Mo.S) (v : Value) (R : List Ln.W) (w : World) (W : World) : Prop := MRd W base H g lb mb s ∧ ValsAt W z H v R ∧ Below base w W
theorem Dfl.below {base H g lb mb z B : Nat} {s : Mo.S} {v : Value} {R : List Ln.W} {w A A' : World} (h : Dfl base H g lb mb z s v R w A) (hb : Below B A A') (h1 : H ≤ B) (h2 : z < B) (h3 : base ≤ B) : Dfl base H g lb mb z s v R w A' :=
  ⟨h.1.same (fun k hk => hb.block k (by omega)) hb.size, ⟨h.2.1.1.below hb h2, h.2.1.2.keep (Q := PartTy) (KeepB.same fun k hk => hb.block k (by omega)) (.inr (.inr (.inr rfl)))⟩, h.2.2.trans (hb.mono h3)⟩
theorem spares_below {B : Nat} {A A' : World} (h : Below A.heap.size A A') : Spares B A A' := ⟨h.size, fun j _ hj => h.block j hj⟩
theorem spares_refl (B : Nat) (A : World) : Spares B A A := ⟨Nat.le_refl _, fun _ _ _ => rfl⟩
end Go.Proofs.YtgjehlegcmeeoaaGreatDoor

/- Package mani's own reader: all lines: the walk. -/
namespace Go.Proofs.YtgjehlegcmeeoaaGreatDoor
set_option maxRecDepth 100000
open Go.ChangeShapes Go.WideShapes Go.ChangeAt Go.RowKit Go.Shelf

set_option maxHeartbeats 8000000 in
theorem read_any (base g lb mb : Nat) (s : Mo.S) (v : Value) (LL : List (List Ln.W)) (w : World) (h : MRd w base w.heap.size g lb mb s) (hv : LnB w base v LL) (hL : ∀ L ∈ LL, (∀ x ∈ L, GoodW x) ∧ 0 < L.length ∧ L.length ≤ 1000000) (hF : Fine s) (h0 : s.e.k = 0) (hlets : s.lets.length + LL.length ≤ 1000000) (hTab : ∀ W, Below base w W → Tabs W) :
    Calls Tryz.prog 20 #[.pointer (some ⟨g, 0, none⟩), v] w fun e w' => e = .returned (.tuple #[]) ∧ MReadIs w base g (Mo.readOn s LL) w' := by
  have HR := Lib.hid h
  have HV := Lib.hid hv
  have HL := Lib.hid hL
  have HF := Lib.hid hF
  have H0 := Lib.hid h0
  have HTAB := Lib.hid hTab
  have HB0 : Hid (base ≤ w.heap.size) := Lib.hid (by have := h.top; omega)
  obtain ⟨A, c, rfl, _⟩ := hv
  obtain ⟨n, hn⟩ : ∃ n, LL.length = n := ⟨_, rfl⟩
  have HN := Lib.hid hn
  rw [hn] at HV hlets ⊢
  obtain ⟨ro, hro⟩ : ∃ r, Mo.readOn s LL = r := ⟨_, rfl⟩
  rw [hro]
  have HRO0 := Lib.hid hro
  have HLE := Lib.hid hlets
  have hn6 : n ≤ 1000000 := by omega
  clear h hL hF h0 hTab hn hro hlets
  go_enter Tryz.func20, Tryz.ntmps20
  go_wp2_with fail
  go_loopg [12] n (fun gk iv wr => ∃ (k : Nat) (sk : Mo.S), k ≤ n ∧ n - k ≤ gk ∧ iv = .int .i64 (k : Int) ∧ Hid (ro = Mo.readOn sk (LL.drop k)) ∧ Hid (Fine sk) ∧ Hid (sk.e.k = 0) ∧ Hid (sk.lets.length ≤ s.lets.length + k) ∧ Hid (MRd wr base wr.heap.size g lb mb sk) ∧ Hid (Below base w wr))
  case atStart => exact ⟨0, s, Nat.zero_le _, by omega, rfl, Lib.hid HRO0.out.symm, HF, H0, Lib.hid (by omega), HR, Lib.hid (Below.refl _ _)⟩
  case round =>
    obtain ⟨k, sk, hk, hg, rfl, HRO, HFS, HK0, HLS, HM, HBZ⟩ := hrel
    obtain ⟨wz, rfl⟩ : ∃ wx : World, wx = wr := ⟨_, rfl⟩
    by_cases hlt : k < n
    · have hkI : (k : Int) < (n : Int) := by omega
      have hkL : k < LL.length := by rw [HN.out]; exact hlt
      obtain ⟨L, hLk⟩ : ∃ L, LL.getD k [] = L := ⟨_, rfl⟩
      have hmem : L ∈ LL := by rw [← hLk, List.getD_eq_getElem?_getD, List.getElem?_eq_getElem hkL]; exact List.getElem_mem hkL
      have HLL := Lib.hid (HL.out L hmem)
      have HDR : Hid (LL.drop k = L :: LL.drop (k + 1)) := Lib.hid (by
        rw [List.drop_eq_getElem_cons hkL, ← hLk, List.getD_eq_getElem?_getD, List.getElem?_eq_getElem hkL]
        rfl)
      obtain ⟨A', c', e, hc⟩ := HV.out.below HBZ.out
      injection e with e1 e2 e3
      subst e1 e3
      clear e2
      obtain ⟨b, off, rfl, _, hx⟩ := hc (by omega)
      obtain ⟨u, hu, hsl⟩ := hx k hkL
      rw [hLk] at hsl
      have HSL := Lib.hid (hsl.more (hi' := wz.heap.size) (by have := HM.out.top; omega))
      obtain ⟨A3, c3, rfl, _⟩ := hsl.parts
      clear hmem hLk hx hsl hkL hc
      go_wp2_with fail
      refine (line_any base _ g lb mb sk _ L wz HM.out HSL.out HLL.out.1 HLL.out.2.1 HLL.out.2.2 HFS.out.stands (by have := HFS.out.rules; omega) (by have := HFS.out.makers; have := HFS.out.rules; omega) (by have := HLS.out; have := HLE.out; omega) (fun W hb => HTAB.out W (HBZ.out.trans hb))).mono ?_
      rintro e w2 ⟨rfl, hm2, hb2⟩
      have HM2 := Lib.hid hm2
      have HB2 := Lib.hid (HBZ.out.trans hb2)
      obtain ⟨s2, hs2⟩ : ∃ t, Mo.line sk L = t := ⟨_, rfl⟩
      have HS2 := Lib.hid hs2
      rw [hs2] at HM2
      obtain ⟨cv2, rv2, sv2, hin2⟩ := HM2.out
      have k10 : w2.cell? ⟨g, 10, none⟩ = some (.int .i64 (s2.e.k : Int)) := hin2.blk.at 10
      clear hm2 hb2 hs2 hin2
      by_cases hz : s2.e.k = 0
      · have HFN : Hid (Fine s2 ∧ s2.lets.length ≤ sk.lets.length + 1) := Lib.hid (by
          have := fine_line (L := L) HFS.out (by rw [HS2.out]; exact hz)
          rwa [HS2.out] at this)
        have HNX : Hid (ro = Mo.readOn s2 (LL.drop (k + 1))) := Lib.hid (by
          rw [HRO.out, HDR.out, readOn_next (by rw [HS2.out]; exact hz), HS2.out])
        rw [hz] at k10
        have HZ := Lib.hid hz
        clear hz
        go_wp2
        go_roundg (n - (k + 1))
        case measure => omega
        case rel => exact ⟨k + 1, s2, hlt, by omega, by go_num, HNX, Lib.hid HFN.out.1, HZ, Lib.hid (by have := HFN.out.2; have := HLS.out; omega), HM2, HB2⟩
      · have HNX : Hid (ro = s2) := Lib.hid (by
          rw [HRO.out, HDR.out, readOn_bad (by rw [HS2.out]; exact hz), HS2.out])
        have HZ := Lib.hid hz
        have hne : ((s2.e.k : Int) == 0) = false := by simp; omega
        clear hz
        go_wp2
        refine bodyPost_ret (results_none rfl _ _ _) rfl ?_
        refine ⟨rfl, ?_⟩
        rw [HNX.out]
        exact readIs_bad HM2.out HB2.out HZ.out
    · have hkI : ¬ (k : Int) < (n : Int) := by omega
      have HRD : Hid (Mo.readOn sk [] = if Mo.round (Mo.unmade sk) then Mo.fail 12 Mo.word0 (Mo.unmade sk) else Mo.unmade sk) := Lib.hid (readOn_end HK0.out)
      have HRO2 : Hid (ro = Mo.readOn sk []) := Lib.hid (by rw [HRO.out, List.drop_of_length_le (by rw [HN.out]; omega)])
      obtain ⟨cv, rv, sv, hin⟩ := HM.out
      obtain ⟨A2, c2, rfl, _⟩ := hin.chosen.parts
      obtain ⟨m, hm⟩ : ∃ m, sk.chosen.length = m := ⟨_, rfl⟩
      have HMN := Lib.hid hm
      have hsl := hin.chosen
      have k2 : wz.cell? ⟨g, 2, none⟩ = some (.slice A2 m c2) := by rw [← hm]; exact hin.blk.at 2
      rw [hm] at hsl
      have HSL := Lib.hid hsl
      obtain ⟨H, hH⟩ : ∃ H, wz.heap.size = H := ⟨_, rfl⟩
      have HH := Lib.hid hH
      rw [hH] at HM HSL
      have hm8 : m ≤ 8 := by rw [← hm]; exact HFS.out.chosen
      have HTY : Hid (Ty wz g 57) := Lib.hid HM.out.tyg
      have HBH : Hid (base ≤ H) := Lib.hid (by have := HM.out.top; omega)
      clear hin hm hsl hH HRO
      have HRO := HRO2
      clear HRO2
      go_wp2_with fail
      go_loopg [31] m (fun gk iv wr => ∃ (j : Nat) (sj : Mo.S), j ≤ m ∧ m - j ≤ gk ∧ iv = .int .i64 (j : Int) ∧ Hid (Mo.unmade sk = (sk.chosen.drop j).foldl Mo.um sj) ∧ Hid (Sm sk sj) ∧ Hid (MRd wr base H g lb mb sj) ∧ Hid (SlW wr H (.slice A2 m c2) sk.chosen) ∧ Hid (Below base wz wr))
      case atStart => exact ⟨0, sk, Nat.zero_le _, by omega, rfl, Lib.hid (unmade_is sk), Lib.hid (Sm.refl sk), HM, HSL, Lib.hid (Below.refl _ _)⟩
      case round =>
        obtain ⟨j, sj, hj, hgj, rfl, HUM, HSM, HMJ, HSJ, HBJ⟩ := hrel
        obtain ⟨wy, rfl⟩ : ∃ wx : World, wx = wr := ⟨_, rfl⟩
        clear k2
        by_cases hjt : j < m
        · have hjI : (j : Int) < (m : Int) := by omega
          have hjL : j < sk.chosen.length := by rw [HMN.out]; exact hjt
          obtain ⟨x, hx⟩ : ∃ x, sk.chosen.getD j Mo.word0 = x := ⟨_, rfl⟩
          have HGX : Hid (GoodW x) := Lib.hid (HM.out.good.chosen x (by rw [← hx, List.getD_eq_getElem?_getD, List.getElem?_eq_getElem hjL]; exact List.getElem_mem hjL))
          have HFD := Lib.hid (foldl_drop Mo.um sk.chosen Mo.word0 j hjL sj)
          rw [hx] at HFD
          obtain ⟨b, off, rfl, _, _, e0, e1, e2, e3⟩ := HSJ.out.at j hjL x hx
          obtain ⟨cvj, rvj, svj, hin⟩ := HMJ.out
          have HBA : Hid (∀ o, Below wy.heap.size wy (wy.alloc o)) := Lib.hid (fun o => (Below.refl _ _).alloc (Nat.le_refl _) o)
          have k1 : ∀ o, (wy.alloc o).cell? ⟨g, 1, none⟩ = some (.map (some mb)) := fun o => (hin.blk.under (HBA.out o)).at 1
          have HBD : Hid (∀ o n, Below wy.heap.size wy ((wy.alloc o).drewN n)) := Lib.hid (fun o n => (HBA.out o).trans ⟨rfl, rfl, rfl, Nat.le_refl _, fun _ _ => rfl⟩)
          have HMD : Hid (∀ o n, MRd ((wy.alloc o).drewN n) base H g lb mb sj) := Lib.hid (fun o n => HMJ.out.same (fun k hk => (HBD.out o n).block k (by have := HMJ.out.top; omega)) (HBD.out o n).size)
          have hlk := fun o nq => MapIs.run_look (w := (wy.alloc o).drewN nq) (MapIs.same hin.makers (w' := (wy.alloc o).drewN nq) ((HBA.out o).block mb (by have := hin.top; have := hin.m2; omega))) Tryz.underlying52 (z := .int .i64 0) (by kernel_rfl) HGX.out.bytes (by have := HGX.out.len; omega)
          have hlk1 := fun o => MapIs.run_look (w := (wy.alloc o)) (MapIs.same hin.makers (w' := (wy.alloc o)) ((HBA.out o).block mb (by have := hin.top; have := hin.m2; omega))) Tryz.underlying52 (z := .int .i64 0) (by kernel_rfl) HGX.out.bytes (by have := HGX.out.len; omega)
          clear hin hx hjL
          rcases hh : Mo.has x.text sj.makers with _ | i
          · have HU : Hid (Mo.um sj x = Mo.fail 10 x sj) := Lib.hid (by unfold Mo.um; rw [hh]; rfl)
            rw [hh] at hlk hlk1
            clear hh
            go_wp2_with fail
            go_quiet (fail)
            go_wp2_with fail
            refine (mfail_any 10 x base H g lb mb sj _ (HMD.out _ _)).mono ?_
            rintro e w3 ⟨rfl, hl3⟩
            have HG3 : Hid (wy.grownBy w3 (some g)) := Lib.hid (mgrown_on (Below.toGrown (HBD.out _ _) _) hl3.2)
            have HM3 := Lib.hid hl3.1
            have HUM3 : Hid (Mo.unmade sk = (sk.chosen.drop (j + 1)).foldl Mo.um (Mo.fail 10 x sj)) := Lib.hid (by rw [HUM.out, HFD.out, HU.out])
            have HSM3 : Hid (Sm sk (Mo.fail 10 x sj)) := Lib.hid (HSM.out.trans (sm_fail 10 x sj))
            have HS3 := Lib.hid (HSJ.out.left HG3.out HMJ.out.tyg)
            have HB3 : Hid (Below base wz w3) := Lib.hid (HBJ.out.grown HG3.out (by have := HMJ.out.top; omega) (fun k e => by cases e; have := HMJ.out.top; omega))
            clear hl3 HUM HSM HM HG3 hlk hlk1
            go_wp2
            go_roundg (m - (j + 1))
            case measure => omega
            case rel => exact ⟨j + 1, Mo.fail 10 x sj, hjt, by omega, by go_num, HUM3, HSM3, HM3, HS3, HB3⟩
          · have HU : Hid (Mo.um sj x = sj) := Lib.hid (by unfold Mo.um; rw [hh]; rfl)
            rw [hh] at hlk hlk1
            clear hh
            go_wp2_with fail
            go_quiet (fail)
            have HUM3 : Hid (Mo.unmade sk = (sk.chosen.drop (j + 1)).foldl Mo.um sj) := Lib.hid (by rw [HUM.out, HFD.out, HU.out])
            clear HUM HM hlk hlk1
            go_wp2
            go_roundg (m - (j + 1))
            case measure => omega
            case rel => exact ⟨j + 1, sj, hjt, by omega, by go_num, HUM3, HSM, Lib.hid (HMD.out _ _), Lib.hid (SlW.keep (Q := PartTy) HSJ.out (KeepB.same fun k hk => (HBD.out _ _).block k (by have := HMJ.out.top; omega)) (.inr (.inr (.inr rfl)))), Lib.hid (HBJ.out.trans ((HBD.out _ _).mono (by have := HMJ.out.top; omega)))⟩
        · have hjI : ¬ (j : Int) < (m : Int) := by omega
          obtain rfl : j = m := by omega
          have HSE := HSJ
          have HUE : Hid (Mo.unmade sk = sj) := Lib.hid (by rw [HUM.out, List.drop_of_length_le (by rw [HMN.out]; exact Nat.le_refl _)]; rfl)
          have HFJ := Lib.hid (HFS.out.of HSM.out)
          have HLR : Hid (Calls Tryz.prog 41 #[.pointer (some ⟨g, 0, none⟩)] wy fun e w' => e = .returned (.bool (Mo.round sj)) ∧ Below wy.heap.size wy w') := Lib.hid (round_any base H g lb mb sj wy HMJ.out (by have := HFJ.out.rules; omega) (fun t i h => HFJ.out.has h) (fun r hr => ⟨by have := (HFJ.out.ro r hr).1; omega, by have := (HFJ.out.ro r hr).2; omega⟩))
          rw [HUE.out] at HRD
          clear HUM hgj hj
          rcases hq : Mo.round sj with _ | _
          · rw [hq] at HLR HRD
            clear hq
            go_wp2_with fail
            refine HLR.out.mono ?_
            rintro e w3 ⟨rfl, hb3⟩
            have HB3 : Hid (Below base w w3) := Lib.hid ((HBZ.out.trans HBJ.out).trans (hb3.mono (by have := HMJ.out.top; omega)))
            have HM3 := Lib.hid (HMJ.out.under hb3)
            clear hb3 HM HMJ HSJ HSE
            have HCH : Hid (sj.chosen = sk.chosen) := Lib.hid HSM.out.chosen
            have HN3 : Hid (sj.chosen.length ≤ 8) := Lib.hid (by rw [HCH.out]; exact HFS.out.chosen)
            obtain ⟨cv3, rv3, sv3, hin3⟩ := HM3.out
            obtain ⟨A3, c3, rfl, _⟩ := hin3.chosen.parts
            have k2 : w3.cell? ⟨g, 2, none⟩ = some (.slice A3 sj.chosen.length c3) := hin3.blk.at 2
            have HS3 := Lib.hid hin3.chosen
            clear hin3
            go_wp2_with fail
            refine (values_any A3 _ c3 w3).mono ?_
            rintro e w4 ⟨rfl, hblk, hb4, hz4⟩
            have HM4 := Lib.hid (HM3.out.under hb4)
            have HS4 := Lib.hid (SlW.keep (Q := PartTy) HS3.out (KeepB.same fun k hk => hb4.block k (by have := HM3.out.top; omega)) (.inr (.inr (.inr rfl))))
            have HB4 : Hid (Below base w w4) := Lib.hid (HB3.out.trans (hb4.mono (by have := HM3.out.top; omega)))
            have HK4 := Lib.hid hblk
            have HZ4 := Lib.hid hz4
            have hsz : w3.heap.size < w4.heap.size := by omega
            clear hblk hb4 hz4
            go_wp2_with fail
            refine (mtexts_any _ _ _ _ _ _ _ (values_iter w3.heap.size H (.slice A3 sj.chosen.length c3) sj.chosen (by have := HN3.out; omega))
              (enters_of Tryz.func71 (by kernel_rfl) rfl) (by have := HN3.out; omega) w4 (fun _ => Dfl base H g lb mb w3.heap.size sj (.slice A3 sj.chosen.length c3) sj.chosen w) (Dfl base H g lb mb w3.heap.size sj (.slice A3 sj.chosen.length c3) sj.chosen w)
              (fun k A B hd hb => hd.below hb (by have := HM4.out.top; omega) hsz (by have := HM4.out.top; omega))
              (fun k A B hd hb => hd.below hb (by have := HM4.out.top; omega) hsz (by have := HM4.out.top; omega))
              (fun k W hd => hd.2.1)
              (fun k A B hk hd hb => ⟨hd.below hb (by have := hd.1.top; omega) (by have := hd.2.1.1.size; omega) (by have := hd.1.top; omega), spares_below hb⟩)
              (fun A B hd hb => ⟨by rw [← hb]; exact hd, by rw [← hb]; exact spares_refl _ _⟩)
              ⟨HM4.out, ⟨HK4.out, HS4.out⟩, HB4.out⟩).mono ?_
            rintro e w5 ⟨u, rfl, ho, hd5, hz5⟩
            have HO5 : Hid (OwnT w5 w4.heap.size u (Mo.texts sj.chosen)) := Lib.hid (by
              have := txts_take (ws := sj.chosen) (N := sj.chosen.length) (Nat.le_refl _)
              rw [List.take_length] at this
              rwa [this] at ho)
            have HD5 := Lib.hid hd5
            obtain ⟨cv5, rv5, sv5, hin5⟩ := HD5.out.1
            have f4 : w5.frozen? ⟨g, 4, none⟩ = false := hin5.blk.free 4
            have c4 : w5.cell? ⟨g, 4, none⟩ = some (.slice none 0 0) := hin5.blk.at 4
            have HRS : Hid (ro = sj) := Lib.hid (by rw [HRO.out, HRD.out]; rfl)
            obtain ⟨A5, c5, rfl⟩ : ∃ A c, u = .slice A sj.chosen.length c := by
              obtain ⟨A, c, e, _⟩ := HO5.out.sl
              refine ⟨A, c, ?_⟩
              rw [e]
              unfold Mo.texts
              rw [List.length_map]
            clear hin5 hd5 ho hz5 k2
            go_wp2
            go_end0
            refine ⟨rfl, ?_⟩
            rw [HRS.out]
            exact readIs_end HD5.out.1 HD5.out.2.2 HO5.out
          · rw [hq] at HLR HRD
            clear hq
            go_wp2_with fail
            refine HLR.out.mono ?_
            rintro e w3 ⟨rfl, hb3⟩
            have HB3 : Hid (Below base w w3) := Lib.hid ((HBZ.out.trans HBJ.out).trans (hb3.mono (by have := HMJ.out.top; omega)))
            have HM3 := Lib.hid (HMJ.out.under hb3)
            clear hb3 HM HMJ HSJ HSE
            go_wp2_with fail
            refine (mfail_any 12 Mo.word0 base H g lb mb sj _ (HM3.out.same (fun k hk => rfl) (Nat.le_refl _))).mono ?_
            rintro e w6 ⟨rfl, hl6⟩
            have HB6 : Hid (Below base w w6) := Lib.hid (HB3.out.grown hl6.2 (by have := HM3.out.top; omega) (fun k e => by cases e; have := HM3.out.top; omega))
            have HM6 := Lib.hid hl6.1
            have HCH : Hid ((Mo.fail 12 Mo.word0 sj).chosen = sk.chosen) := Lib.hid ((sm_fail 12 Mo.word0 sj).chosen.trans HSM.out.chosen)
            obtain ⟨sf, hsf⟩ : ∃ t, Mo.fail 12 Mo.word0 sj = t := ⟨_, rfl⟩
            rw [hsf] at HM6 HCH
            have HSF := Lib.hid hsf
            clear hl6 HM3 HB3 hsf
            have HN3 : Hid (sf.chosen.length ≤ 8) := Lib.hid (by rw [HCH.out]; exact HFS.out.chosen)
            obtain ⟨cv3, rv3, sv3, hin3⟩ := HM6.out
            obtain ⟨A3, c3, rfl, _⟩ := hin3.chosen.parts
            have k2 : w6.cell? ⟨g, 2, none⟩ = some (.slice A3 sf.chosen.length c3) := hin3.blk.at 2
            have HS3 := Lib.hid hin3.chosen
            clear hin3
            go_wp2_with fail
            refine (values_any A3 _ c3 w6).mono ?_
            rintro e w4 ⟨rfl, hblk, hb4, hz4⟩
            have HM4 := Lib.hid (HM6.out.under hb4)
            have HS4 := Lib.hid (SlW.keep (Q := PartTy) HS3.out (KeepB.same fun k hk => hb4.block k (by have := HM6.out.top; omega)) (.inr (.inr (.inr rfl))))
            have HB4 : Hid (Below base w w4) := Lib.hid (HB6.out.trans (hb4.mono (by have := HM6.out.top; omega)))
            have HK4 := Lib.hid hblk
            have HZ4 := Lib.hid hz4
            have hsz : w6.heap.size < w4.heap.size := by omega
            clear hblk hb4 hz4
            go_wp2_with fail
            refine (mtexts_any _ _ _ _ _ _ _ (values_iter w6.heap.size H (.slice A3 sf.chosen.length c3) sf.chosen (by have := HN3.out; omega))
              (enters_of Tryz.func71 (by kernel_rfl) rfl) (by have := HN3.out; omega) w4 (fun _ => Dfl base H g lb mb w6.heap.size sf (.slice A3 sf.chosen.length c3) sf.chosen w) (Dfl base H g lb mb w6.heap.size sf (.slice A3 sf.chosen.length c3) sf.chosen w)
              (fun k A B hd hb => hd.below hb (by have := HM4.out.top; omega) hsz (by have := HM4.out.top; omega))
              (fun k A B hd hb => hd.below hb (by have := HM4.out.top; omega) hsz (by have := HM4.out.top; omega))
              (fun k W hd => hd.2.1)
              (fun k A B hk hd hb => ⟨hd.below hb (by have := hd.1.top; omega) (by have := hd.2.1.1.size; omega) (by have := hd.1.top; omega), spares_below hb⟩)
              (fun A B hd hb => ⟨by rw [← hb]; exact hd, by rw [← hb]; exact spares_refl _ _⟩)
              ⟨HM4.out, ⟨HK4.out, HS4.out⟩, HB4.out⟩).mono ?_
            rintro e w5 ⟨u, rfl, ho, hd5, hz5⟩
            have HO5 : Hid (OwnT w5 w4.heap.size u (Mo.texts sf.chosen)) := Lib.hid (by
              have := txts_take (ws := sf.chosen) (N := sf.chosen.length) (Nat.le_refl _)
              rw [List.take_length] at this
              rwa [this] at ho)
            have HD5 := Lib.hid hd5
            obtain ⟨cv5, rv5, sv5, hin5⟩ := HD5.out.1
            have f4 : w5.frozen? ⟨g, 4, none⟩ = false := hin5.blk.free 4
            have c4 : w5.cell? ⟨g, 4, none⟩ = some (.slice none 0 0) := hin5.blk.at 4
            have HRS : Hid (ro = sf) := Lib.hid (by rw [HRO.out, HRD.out]; exact HSF.out)
            obtain ⟨A5, c5, rfl⟩ : ∃ A c, u = .slice A sf.chosen.length c := by
              obtain ⟨A, c, e, _⟩ := HO5.out.sl
              refine ⟨A, c, ?_⟩
              rw [e]
              unfold Mo.texts
              rw [List.length_map]
            clear hin5 hd5 ho hz5 k2
            go_wp2
            go_end0
            refine ⟨rfl, ?_⟩
            rw [HRS.out]
            exact readIs_end HD5.out.1 HD5.out.2.2 HO5.out
end Go.Proofs.YtgjehlegcmeeoaaGreatDoor

/- Package mani: what Parse tells of any bytes: plain facts. -/
namespace Go.Proofs.YtgjehlegcmeeoaaGreatDoor
set_option maxRecDepth 100000
open Go.ChangeShapes Go.WideShapes Go.ChangeAt Go.RowKit Go.Shelf

def zeroM : Value := .agg #[.slice none 0 0, .slice none 0 0]
def FaultV (f : Mn.F) : Value := .agg #[.int .i64 (f.k : Int), .int .i64 (f.line : Int), .int .i64 (f.col : Int)]
/-- What Parse tells: a manifest, or a fault. -/
def ParsedM (b : List Nat) (w : World) (e : Ending) (w' : World) : Prop := Below w.heap.size w w' ∧ match Mo.parse b with
  | .bad f => e = .returned (.tuple #[zeroM, FaultV f])
  | .ok m => ∃ v, e = .returned (.tuple #[v, FaultV ⟨0, 0, 0⟩]) ∧ RdM w' v m
theorem RulesB.sl {w : World} {base hi : Nat} {v : Value} {l : List Mn.Rule} (h : RulesB w base hi v l) : SlR w v l := by
  obtain ⟨f, h1, h2, h3⟩ := h
  have h1' := h1
  rcases h1.2 with ⟨rfl, h0⟩ | ⟨g, cap, cur, rfl, hb, hg, hn, hm, hs, ht⟩
  · have : l = [] := List.eq_nil_of_length_eq_zero h0
    subst this
    exact sl_nil _ _ _ _
  · refine ⟨_, cap, rfl, hn, Nat.le_trans hn hm, fun h0 => ⟨g, 0, rfl, ⟨cur, (0, 0), hg⟩, fun k hk => ?_⟩⟩
    have hc : ∀ j, j < 5 → w.cell? ⟨g, k * 5 + j, none⟩ = (cellsR (f k) (l.getD k emptyRule))[j]? := fun j hj => by
      rw [World.ownsRow.cellAt h1' (k * 5 + j) (by omega), rowR_at f l l.length k j hk hj]
    have hp := h3 k hk
    dsimp only
    rw [show 0 + k * 5 = k * 5 from by omega]
    exact ⟨_, _, _, _, hc 0 (by omega), hc 1 (by omega), hc 2 (by omega), hc 3 (by omega), hc 4 (by omega), hp.outs.sl, hp.ins.sl, hp.order.sl, hp.acts.sl⟩
theorem Keep.trans {a b c : World} {Q : TypeId → Prop} (h : Keep a b Q) (k : Keep b c Q) : Keep a c Q := fun x t ht hq => (k x t (h.ty ht hq) hq).trans (h x t ht hq)
/-- The two boxes of what is told are filled. -/
theorem fill5 {W : World} {a b : Nat} {T1 T2 : TypeId} {x0 x1 y0 y1 y2 : Value} (h1 : Blk W a T1 #[x0, x1]) (h2 : Blk W b T2 #[y0, y1, y2]) (hne : a ≠ b) (u0 u1 v0 v1 v2 : Value) :
    Blk (((((W.setCell ⟨a, 0, none⟩ u0).setCell ⟨a, 1, none⟩ u1).setCell ⟨b, 0, none⟩ v0).setCell ⟨b, 1, none⟩ v1).setCell ⟨b, 2, none⟩ v2) a T1 #[u0, u1] ∧
    Blk (((((W.setCell ⟨a, 0, none⟩ u0).setCell ⟨a, 1, none⟩ u1).setCell ⟨b, 0, none⟩ v0).setCell ⟨b, 1, none⟩ v1).setCell ⟨b, 2, none⟩ v2) b T2 #[v0, v1, v2] := by
  have e : ∀ (X : World) (o : Nat) (u : Value) (cs : Array Value), Blk X a T1 cs → Blk (X.setCell ⟨b, o, none⟩ u) a T1 cs := fun X o u cs h => h.grown (grown_setCell X ⟨b, o, none⟩ u) (by intro e; injection e with e; exact hne e)
  have f : ∀ (X : World) (o : Nat) (u : Value) (cs : Array Value), Blk X b T2 cs → Blk (X.setCell ⟨a, o, none⟩ u) b T2 cs := fun X o u cs h => h.grown (grown_setCell X ⟨a, o, none⟩ u) (by intro e; injection e with e; exact hne e.symm)
  exact ⟨e _ _ _ _ (e _ _ _ _ (e _ _ _ _ ((h1.set 0 u0).set 1 u1))), (((f _ _ _ _ (f _ _ _ _ h2)).set 0 v0).set 1 v1).set 2 v2⟩
theorem fill5_keep {W : World} {a b : Nat} {Q : TypeId → Prop} {T1 T2 : TypeId} {x0 x1 y0 y1 y2 : Value} (h1 : Blk W a T1 #[x0, x1]) (h2 : Blk W b T2 #[y0, y1, y2]) (q1 : ¬ Q T1) (q2 : ¬ Q T2) (u0 u1 v0 v1 v2 : Value) :
    Keep W (((((W.setCell ⟨a, 0, none⟩ u0).setCell ⟨a, 1, none⟩ u1).setCell ⟨b, 0, none⟩ v0).setCell ⟨b, 1, none⟩ v1).setCell ⟨b, 2, none⟩ v2) Q := by
  intro c t ht hq
  have n1 : c ≠ a := fun e => by subst e; exact absurd hq (by
    obtain ⟨cs, fr, k⟩ := ht
    unfold Blk at h1
    rw [h1] at k
    injection k with k
    injection k with _ k
    rw [← k]
    exact q1)
  have n2 : c ≠ b := fun e => by subst e; exact absurd hq (by
    obtain ⟨cs, fr, k⟩ := ht
    unfold Blk at h2
    rw [h2] at k
    injection k with k
    injection k with _ k
    rw [← k]
    exact q2)
  have s : ∀ (X : World) (d o : Nat) (u : Value), c ≠ d → (X.setCell ⟨d, o, none⟩ u).heap[c]? = X.heap[c]? := fun X d o u h => Below.heap_setCell _ _ _ _ (by intro e; exact h e)
  rw [s _ _ _ _ n2, s _ _ _ _ n2, s _ _ _ _ n2, s _ _ _ _ n1, s _ _ _ _ n1]
theorem fill5_below {B : Nat} {a W : World} (h : Below B a W) (x y : Nat) (hx : B ≤ x) (hy : B ≤ y) (u0 u1 v0 v1 v2 : Value) :
    Below B a (((((W.setCell ⟨x, 0, none⟩ u0).setCell ⟨x, 1, none⟩ u1).setCell ⟨y, 0, none⟩ v0).setCell ⟨y, 1, none⟩ v1).setCell ⟨y, 2, none⟩ v2) :=
  ((((h.setCell (p := ⟨x, 0, none⟩) hx u0).setCell (p := ⟨x, 1, none⟩) hx u1).setCell (p := ⟨y, 0, none⟩) hy v0).setCell (p := ⟨y, 1, none⟩) hy v1).setCell (p := ⟨y, 2, none⟩) hy v2
theorem below_drew' {B : Nat} {a W : World} (h : Below B a W) : Below B a W.drew := h.trans ⟨rfl, rfl, rfl, Nat.le_refl _, fun _ _ => rfl⟩
/-- A reader that has read nothing. -/
theorem start_rd (W : World) (C : Array Value) (hC : C = Fld Mo.start W.heap.size (W.heap.size + 1) (.slice none 0 0) (.slice none 0 0) (.slice none 0 0)) :
    MRd (((W.alloc (.map #[] 0)).alloc (.map #[] 0)).alloc (.cells C 57)) W.heap.size (W.heap.size + 3) (W.heap.size + 2) W.heap.size (W.heap.size + 1) Mo.start := by
  subst hC
  have hb1 : ∀ o, Below (W.alloc (.map #[] 0)).heap.size (W.alloc (.map #[] 0)) ((W.alloc (.map #[] 0)).alloc o) := fun o => (Below.refl _ _).alloc (Nat.le_refl _) o
  have hb2 : ∀ o p, Below (W.alloc (.map #[] 0)).heap.size (W.alloc (.map #[] 0)) (((W.alloc (.map #[] 0)).alloc o).alloc p) := fun o p => (hb1 o).alloc (by simp) p
  have m2 := mapIs_made (W.alloc (.map #[] 0))
  rw [World.size_alloc] at m2
  refine ⟨.slice none 0 0, .slice none 0 0, .slice none 0 0, ⟨heap_alloc_at _ _ (by simp), slW_nil _ _, rulesB_nil _ _ _, slW_nil _ _, ⟨fun _ => none, MapIs.same (mapIs_made W) ((hb2 _ _).block _ (by simp)), fun t _ => rfl⟩, MapIs.same m2 (Below.heap_alloc _ _ _ (by simp)), by omega, by omega, by omega, by omega, by omega, by omega, by omega, by simp, ?_⟩⟩
  exact ⟨⟨by simp [Mo.start, Mo.word0], by simp [Mo.start, Mo.word0]⟩, by simp [Mo.start], by simp [Mo.start], by simp [Mo.start], by simp [Mo.start]⟩
theorem notRule_manifest : ¬ RuleTy 29 := by unfold RuleTy; decide
theorem notRule_fault : ¬ RuleTy 23 := by unfold RuleTy; decide
theorem start_rd1 (w : World) (o : Obj) (C : Array Value) (hC : C = Fld Mo.start (w.heap.size + 1) (w.heap.size + 1 + 1) (.slice none 0 0) (.slice none 0 0) (.slice none 0 0)) :
    MRd ((((w.alloc o).alloc (.map #[] 0)).alloc (.map #[] 0)).alloc (.cells C 57)) (w.heap.size + 1) (w.heap.size + 1 + 3) (w.heap.size + 1 + 2) (w.heap.size + 1) (w.heap.size + 1 + 1) Mo.start := by
  have := start_rd (w.alloc o) C (by rw [World.size_alloc]; exact hC)
  rwa [World.size_alloc] at this
theorem LnB.more {w : World} {hi hi' : Nat} {v : Value} {LL : List (List Ln.W)} (h : LnB w hi v LL) (hh : hi ≤ hi') : LnB w hi' v LL := by
  obtain ⟨A, c, rfl, hc⟩ := h
  refine ⟨A, c, rfl, fun h0 => ?_⟩
  obtain ⟨b, off, rfl, hb, hx⟩ := hc h0
  refine ⟨b, off, rfl, by omega, fun i hi => ?_⟩
  obtain ⟨u, h1, h2⟩ := hx i hi
  exact ⟨u, h1, h2.more hh⟩
theorem SlTB.shape {w : World} {hi : Nat} {v : Value} {l : List (List Nat)} (h : SlTB w hi v l) : ∃ A n c, v = .slice A n c := by
  obtain ⟨A, c, e, _⟩ := h
  exact ⟨_, _, _, e⟩
theorem RulesB.shape {w : World} {base hi : Nat} {v : Value} {l : List Mn.Rule} (h : RulesB w base hi v l) : ∃ A n c, v = .slice A n c := by
  obtain ⟨A, c, e, _⟩ := h.sl
  exact ⟨_, _, _, e⟩
end Go.Proofs.YtgjehlegcmeeoaaGreatDoor

/- Package mani: what Parse tells of any bytes. -/
namespace Go.Proofs.YtgjehlegcmeeoaaGreatDoor
set_option maxRecDepth 100000
open Go.ChangeShapes Go.WideShapes Go.ChangeAt Go.RowKit Go.Shelf

set_option maxHeartbeats 8000000 in
theorem mparse_any (v : Value) (b : List Nat) (w : World) (hv : Bytes w v b) (hb : b.length ≤ 1000000) (hTab : ∀ W, Below w.heap.size w W → Tabs W) :
    Calls Tryz.prog 8 #[v] w (ParsedM b w) := by
  have HTAB := Lib.hid hTab
  have HV := Lib.hid hv
  have HBL := Lib.hid hb
  have H2B := Lib.hid (two_boxes w #[.slice none 0 0, .slice none 0 0] #[.int .i64 0, .int .i64 0, .int .i64 0] 29 23)
  obtain ⟨W2, hW2⟩ : ∃ W2, (w.alloc (.cells #[.slice none 0 0, .slice none 0 0] 29)).alloc (.cells #[.int .i64 0, .int .i64 0, .int .i64 0] 23) = W2 := ⟨_, rfl⟩
  have HBW2 : Hid (Below w.heap.size w W2) := Lib.hid (by rw [← hW2]; exact ((Below.refl _ _).alloc (Nat.le_refl _) _).alloc (by simp) _)
  have HSZ2 : Hid (W2.heap.size = w.heap.size + 2) := Lib.hid (by rw [← hW2]; simp)
  rw [hW2] at H2B
  have HSP : Hid (Calls Tryz.prog 19 #[v] W2 (SplitIs b W2)) := Lib.hid (split_any v b W2 (hv.under HBW2.out) hb)
  clear hv hb hTab
  have hmm := @run_makeMap Tryz.prog
  go_enter Tryz.func8, Tryz.ntmps8
  go_wp2_with fail
  refine HSP.out.mono ?_
  rintro e w3 ⟨ht, hb3⟩
  have HB3 := Lib.hid hb3
  clear hb3
  rcases hs : Ln.split b with LL | ⟨k, ln, col⟩
  · rw [hs] at ht
    obtain ⟨lv, rfl, hl⟩ := ht
    have HLW := Lib.hid (lwords HV.out.1 HBL.out hs)
    have HPA : Hid (Mo.parse b = if (Mo.read LL).e.k ≠ 0 then .bad (Mo.read LL).e else .ok ⟨(Mo.read LL).rules, Mo.texts (Mo.read LL).chosen⟩) := Lib.hid (by unfold Mo.parse; rw [hs])
    have HLN := Lib.hid hl.lnB
    obtain ⟨A, c, rfl, _⟩ := HLN.out
    have HST := Lib.hid (fun o => start_rd1 w3 o _ rfl)
    have HBO : Hid (∀ o1 o2 o3 o4, Below w3.heap.size w3 ((((w3.alloc o1).alloc o2).alloc o3).alloc o4)) := Lib.hid (fun o1 o2 o3 o4 => ((((Below.refl _ _).alloc (Nat.le_refl _) o1).alloc (by simp) o2).alloc (by simp; omega) o3).alloc (by simp; omega) o4)
    have HB3W : Hid (Below w.heap.size w w3) := Lib.hid (HBW2.out.trans (HB3.out.mono (by have := HSZ2.out; omega)))
    have HZ3 : Hid (w.heap.size + 2 ≤ w3.heap.size) := Lib.hid (by have := HB3.out.size; have := HSZ2.out; omega)
    have HFX := Lib.hid (And.intro (H2B.out.1.under HB3.out) (H2B.out.2.under HB3.out))
    clear hW2 hs hl
    go_wp2_with fail
    refine (read_any (w3.heap.size + 1) _ _ _ Mo.start _ LL _ ((HST.out _).more (by simp) (Nat.le_refl _)) ((HLN.out.below (HBO.out _ _ _ _)).more (by omega)) HLW.out.2 fine_start rfl (by have := HLW.out.1; show 0 + _ ≤ _; omega)
      (fun W hb => HTAB.out W ((HB3W.out.trans ((HBO.out _ _ _ _).mono (by have := HZ3.out; omega))).trans (hb.mono (by have := HZ3.out; omega))))).mono ?_
    rw [← read_is]
    obtain ⟨s, hs⟩ : ∃ s, Mo.read LL = s := ⟨_, rfl⟩
    rw [hs] at HPA ⊢
    clear hs
    rintro e w5 ⟨rfl, hb5, _, k10, k11, k12, rv, dv, k3, k4, hg5, hok⟩
    have HBW5 : Hid (Below w.heap.size w w5) := Lib.hid ((HB3W.out.trans ((HBO.out _ _ _ _).mono (by have := HZ3.out; omega))).trans (hb5.mono (by have := HZ3.out; omega)))
    have HFX5 : Hid (Blk w5 w.heap.size 29 #[.slice none 0 0, .slice none 0 0] ∧ Blk w5 (w.heap.size + 1) 23 #[.int .i64 0, .int .i64 0, .int .i64 0]) := Lib.hid
      ⟨(hb5.block _ (by have := HZ3.out; omega)).trans ((HFX.out.1.under (HBO.out _ _ _ _))), (hb5.block _ (by have := HZ3.out; omega)).trans ((HFX.out.2.under (HBO.out _ _ _ _)))⟩
    have HOK := Lib.hid hok
    have c0 : w5.cell? ⟨w.heap.size, 0, none⟩ = some (.slice none 0 0) := HFX5.out.1.at 0
    have c1 : w5.cell? ⟨w.heap.size, 1, none⟩ = some (.slice none 0 0) := HFX5.out.1.at 1
    have d0 : w5.cell? ⟨w.heap.size + 1, 0, none⟩ = some (.int .i64 0) := HFX5.out.2.at 0
    have d1 : w5.cell? ⟨w.heap.size + 1, 1, none⟩ = some (.int .i64 0) := HFX5.out.2.at 1
    have d2 : w5.cell? ⟨w.heap.size + 1, 2, none⟩ = some (.int .i64 0) := HFX5.out.2.at 2
    have f0 : w5.frozen? ⟨w.heap.size, 0, none⟩ = false := HFX5.out.1.free 0
    have f1 : w5.frozen? ⟨w.heap.size, 1, none⟩ = false := HFX5.out.1.free 1
    have g0 : w5.frozen? ⟨w.heap.size + 1, 0, none⟩ = false := HFX5.out.2.free 0
    have g1 : w5.frozen? ⟨w.heap.size + 1, 1, none⟩ = false := HFX5.out.2.free 1
    have g2 : w5.frozen? ⟨w.heap.size + 1, 2, none⟩ = false := HFX5.out.2.free 2
    have hz3 := HZ3.out
    clear hb5 hok
    by_cases hz : s.e.k = 0
    · obtain ⟨hru, hdf⟩ := HOK.out hz
      obtain ⟨ra, rn, rc, rfl⟩ := hru.shape
      obtain ⟨da, dn, dc, rfl⟩ := hdf.shape
      have HRM := Lib.hid (And.intro hru.sl hdf.sl)
      have HP : Hid (Mo.parse b = .ok ⟨s.rules, Mo.texts s.chosen⟩) := Lib.hid (by rw [HPA.out, if_neg (by omega)])
      have HF := Lib.hid (fill5 HFX5.out.1 HFX5.out.2 (by omega) (.slice ra rn rc) (.slice da dn dc) (.int .i64 0) (.int .i64 0) (.int .i64 0))
      have HK := Lib.hid (fill5_keep (Q := RuleTy) HFX5.out.1 HFX5.out.2 notRule_manifest notRule_fault (.slice ra rn rc) (.slice da dn dc) (.int .i64 0) (.int .i64 0) (.int .i64 0))
      have HFB := Lib.hid (fill5_below HBW5.out w.heap.size (w.heap.size + 1) (Nat.le_refl _) (by omega) (.slice ra rn rc) (.slice da dn dc) (.int .i64 0) (.int .i64 0) (.int .i64 0))
      rw [hz] at k10
      clear hru hdf hz k11 k12
      go_wp2
      refine bodyPost_ret (results_cell_cell rfl _ _ w.heap.size (w.heap.size + 1) _ _ _ _ _ _ _ _ rfl rfl HF.out.1 HF.out.2 Tryz.underlying29 rfl (by kernel_rfl) Tryz.underlying23 rfl (by kernel_rfl)) rfl ?_
      refine ⟨HFB.out, ?_⟩
      rw [HP.out]
      exact ⟨_, rfl, _, _, rfl, HRM.out.1.keep HK.out, HRM.out.2.keep HK.out (.inl rfl)⟩
    · have hkz : ((s.e.k : Int) != 0) = true := by simp; omega
      have HP : Hid (Mo.parse b = .bad s.e) := Lib.hid (by rw [HPA.out, if_pos hz])
      have HF := Lib.hid (fill5 HFX5.out.1 HFX5.out.2 (by omega) (.slice none 0 0) (.slice none 0 0) (.int .i64 (s.e.k : Int)) (.int .i64 (s.e.line : Int)) (.int .i64 (s.e.col : Int)))
      have HFB := Lib.hid (below_drew' (fill5_below HBW5.out w.heap.size (w.heap.size + 1) (Nat.le_refl _) (by omega) (.slice none 0 0) (.slice none 0 0) (.int .i64 (s.e.k : Int)) (.int .i64 (s.e.line : Int)) (.int .i64 (s.e.col : Int))))
      clear hz k3 k4
      go_wp2_with fail
      go_region
      go_wp2
      refine bodyPost_ret (results_cell_cell rfl _ _ w.heap.size (w.heap.size + 1) _ _ _ _ _ _ _ _ rfl rfl HF.out.1 HF.out.2 Tryz.underlying29 rfl (by kernel_rfl) Tryz.underlying23 rfl (by kernel_rfl)) rfl ?_
      exact ⟨HFB.out, by rw [HP.out]; rfl⟩
  · rw [hs] at ht
    obtain ⟨A, c, rfl⟩ := ht
    have hk1 := lbad_pos hs
    have hkz : ((k : Int) != 0) = true := by simp; omega
    have HP : Hid (Mo.parse b = .bad ⟨k, ln, col⟩) := Lib.hid (by unfold Mo.parse; rw [hs])
    have HB2 := Lib.hid (And.intro (H2B.out.1.under HB3.out) (H2B.out.2.under HB3.out))
    have c0 : ∀ o, (w3.alloc o).cell? ⟨w.heap.size, 0, none⟩ = some (.slice none 0 0) := fun o => (HB2.out.1.alloc o).at 0
    have c1 : ∀ o, (w3.alloc o).cell? ⟨w.heap.size, 1, none⟩ = some (.slice none 0 0) := fun o => (HB2.out.1.alloc o).at 1
    have d0 : ∀ o, (w3.alloc o).cell? ⟨w.heap.size + 1, 0, none⟩ = some (.int .i64 0) := fun o => (HB2.out.2.alloc o).at 0
    have d1 : ∀ o, (w3.alloc o).cell? ⟨w.heap.size + 1, 1, none⟩ = some (.int .i64 0) := fun o => (HB2.out.2.alloc o).at 1
    have d2 : ∀ o, (w3.alloc o).cell? ⟨w.heap.size + 1, 2, none⟩ = some (.int .i64 0) := fun o => (HB2.out.2.alloc o).at 2
    have f0 : ∀ o, (w3.alloc o).frozen? ⟨w.heap.size, 0, none⟩ = false := fun o => (HB2.out.1.alloc o).free 0
    have f1 : ∀ o, (w3.alloc o).frozen? ⟨w.heap.size, 1, none⟩ = false := fun o => (HB2.out.1.alloc o).free 1
    have g0 : ∀ o, (w3.alloc o).frozen? ⟨w.heap.size + 1, 0, none⟩ = false := fun o => (HB2.out.2.alloc o).free 0
    have g1 : ∀ o, (w3.alloc o).frozen? ⟨w.heap.size + 1, 1, none⟩ = false := fun o => (HB2.out.2.alloc o).free 1
    have g2 : ∀ o, (w3.alloc o).frozen? ⟨w.heap.size + 1, 2, none⟩ = false := fun o => (HB2.out.2.alloc o).free 2
    have hz3 : w.heap.size + 2 ≤ w3.heap.size := by have := HB3.out.size; have := HSZ2.out; omega
    clear hs hk1 hW2
    go_wp2_with fail
    go_region
    have HF := Lib.hid (fill5 (HB2.out.1.alloc (.cells #[.int .i64 (k : Int), .int .i64 (ln : Int), .int .i64 (col : Int)] 23)) (HB2.out.2.alloc _) (by omega) (.slice none 0 0) (.slice none 0 0) (.int .i64 (k : Int)) (.int .i64 (ln : Int)) (.int .i64 (col : Int)))
    have HFB := Lib.hid (below_drew' (fill5_below ((HBW2.out.trans (HB3.out.mono (by have := HSZ2.out; omega))).alloc (by omega) (.cells #[.int .i64 (k : Int), .int .i64 (ln : Int), .int .i64 (col : Int)] 23)) w.heap.size (w.heap.size + 1) (Nat.le_refl _) (by omega) (.slice none 0 0) (.slice none 0 0) (.int .i64 (k : Int)) (.int .i64 (ln : Int)) (.int .i64 (col : Int))))
    go_wp2
    refine bodyPost_ret (results_cell_cell rfl _ _ w.heap.size (w.heap.size + 1) _ _ _ _ _ _ _ _ rfl rfl HF.out.1 HF.out.2 Tryz.underlying29 rfl (by kernel_rfl) Tryz.underlying23 rfl (by kernel_rfl)) rfl ?_
    exact ⟨HFB.out, by rw [HP.out]; rfl⟩
end Go.Proofs.YtgjehlegcmeeoaaGreatDoor
