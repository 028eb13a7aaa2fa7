/- The document's rules: the order in which they may be made. -/
import Derived.Test.YtemliglhippdcaaZ27
import Derived.Deep.OwnRows
import Derived.Deep.LoopGhost
import Derived.Test.YtemliglhippdcaaZ24
namespace Go.Proofs.Ytemliglhippdcaa
set_option maxRecDepth 100000
open Go.ChangeShapes Go.WideShapes Go.ChangeAt Go.RowKit Go.Shelf

/-- Whether a rule may be made next. -/
def freeI (R : List Mn.Rule) (n : Nat) (out : List Nat) (i : Nat) : Bool := !decide (i ∈ out) && (needsI R i n).all fun x => decide (x ∈ out)
/-- The first of the last d rules that may be made next, or -1. -/
def nx (R : List Mn.Rule) (n : Nat) (out : List Nat) : Nat → Int
  | 0 => -1
  | d + 1 => if freeI R n out (n - 1 - d) then ((n - 1 - d : Nat) : Int) else nx R n out d
def rulesF (R : List Mn.Rule) (n : Nat) : Nat → List Nat → Option (List Nat)
  | 0, out => some out
  | f + 1, out => if nx R n out n < 0 then none else rulesF R n f (out ++ [(nx R n out n).toNat])
theorem nx_cases (R : List Mn.Rule) (n : Nat) (out : List Nat) : ∀ d, d ≤ n → nx R n out d = -1 ∨ ∃ m : Nat, m < n ∧ nx R n out d = (m : Int)
  | 0, _ => .inl rfl
  | d + 1, h => by
    unfold nx
    split
    · exact .inr ⟨n - 1 - d, by omega, rfl⟩
    · exact nx_cases R n out d (by omega)
theorem needsI_lt {R : List Mn.Rule} {k n x : Nat} (h : x ∈ needsI R k n) : x < n := by
  unfold needsI at h
  exact List.mem_range.1 (List.mem_filter.1 h).1
theorem all_take_succ {α : Type} (p : α → Bool) {l : List α} {j : Nat} (hj : j < l.length) : (l.take (j + 1)).all p = ((l.take j).all p && p (l[j]'hj)) := by
  rw [List.take_add_one, List.all_append, List.getElem?_eq_getElem hj]
  simp
/-- The row that tells what is made. -/
def DoneAt (w : World) (g n : Nat) (out : List Nat) : Prop := Blk w g 4 ((List.range n).map fun j => Value.bool (decide (j ∈ out))).toArray
theorem DoneAt.under {w w' : World} {g n : Nat} {out : List Nat} (h : DoneAt w g n out) (hb : Below w.heap.size w w') : DoneAt w' g n out := Blk.under h hb
theorem DoneAt.at {w : World} {g n : Nat} {out : List Nat} (h : DoneAt w g n out) {j : Nat} (hj : j < n) : w.cell? ⟨g, j, none⟩ = some (.bool (decide (j ∈ out))) := by
  have := Blk.at h j
  rw [this, List.getElem?_toArray, List.getElem?_map, List.getElem?_range hj]
  rfl
theorem DoneAt.set {w : World} {g n : Nat} {out : List Nat} (h : DoneAt w g n out) {m : Nat} (hm : m < n) : DoneAt (w.setCell ⟨g, m, none⟩ (.bool true)) g n (out ++ [m]) := by
  have h2 := Blk.set h m (.bool true)
  have e : (((List.range n).map fun j => Value.bool (decide (j ∈ out))).toArray.setIfInBounds m (.bool true)) = ((List.range n).map fun j => Value.bool (decide (j ∈ out ++ [m]))).toArray := by
    apply Array.ext_getElem?
    intro i
    rw [Array.getElem?_setIfInBounds, List.getElem?_toArray, List.getElem?_toArray, List.getElem?_map, List.getElem?_map]
    by_cases hi : i < n
    · rw [List.getElem?_range hi]
      by_cases him : m = i
      · subst him
        simp [hi]
      · have : ¬ i = m := fun e => him e.symm
        simp [him, this]
    · have h0 : (List.range n)[i]? = none := by simp; omega
      rw [h0]
      by_cases him : m = i
      · omega
      · simp [him]
  unfold DoneAt
  rw [← e]
  exact h2
theorem bools_made (n : Nat) : madeCells #[.bool false] n = ((List.range n).map fun j => Value.bool (decide (j ∈ ([] : List Nat)))).toArray := by
  apply Array.toList_inj.1
  rw [toList_madeCells_one]
  simp
  rw [List.map_const', List.length_range]
theorem infoBools : (Try.prog.info? 4).map (fun i => (i.zero, i.size, i.bytes)) = some (some (.bool false), 1, 1) := by kernel_rfl
set_option maxRecDepth 100000 in
set_option maxHeartbeats 16000000 in
theorem refrules_any (rv : Value) (dA : Option Addr) (dn dc : Nat) (R : List Mn.Rule) (w : World) (hr : SlR w rv R) (hn : R.length ≤ 100000) (hs : ∀ r ∈ R, SmallR r) :
    Calls Try.prog 23 #[.agg #[rv, .slice dA dn dc]] w fun e w' => (∃ u, e = .returned (.tuple #[u, .bool (rulesF R R.length R.length []).isSome]) ∧ OwnI w' w.heap.size u ((rulesF R R.length R.length []).getD [])) ∧ Below w.heap.size w w' := by
  obtain ⟨A, c, rfl, hc⟩ := hr.parts
  have HR := Lib.hid hr
  have HS := Lib.hid hs
  obtain ⟨n, hN⟩ : ∃ n, R.length = n := ⟨_, rfl⟩
  rw [hN] at hn hc HR ⊢
  have HN := Lib.hid hN
  have hmk := fun W => run_make_row' (P := Try.prog) 77 4 (.bool false) 1 Try.underlying77 infoBools rfl .i64 .i64 n (by omega) (by omega) W
  clear hr hs hN
  go_enter Try.func23, Try.ntmps23
  go_wp2_with fail
  obtain ⟨W0, hW0⟩ : ∃ W0, W0 = (w.alloc (.cells #[.slice A n c, .slice dA dn dc] 26)).alloc (.cells (madeCells #[.bool false] n) 4) := ⟨_, rfl⟩
  have HB0 : Hid (Below w.heap.size w W0) := Lib.hid (by rw [hW0]; exact ((Below.refl _ _).alloc (Nat.le_refl _) _).alloc (by simp) _)
  have HBX0 : Hid (Blk W0 w.heap.size 26 #[.slice A n c, .slice dA dn dc]) := Lib.hid (by rw [hW0]; exact Blk.under (heap_alloc_new w _) ((Below.refl _ _).alloc (Nat.le_refl _) _))
  have HDN0 : Hid (DoneAt W0 (w.heap.size + 1) n []) := Lib.hid (by rw [hW0]; unfold DoneAt; rw [bools_made]; have h := heap_alloc_new (w.alloc (.cells #[.slice A n c, .slice dA dn dc] 26)) (.cells ((List.range n).map fun j => Value.bool (decide (j ∈ ([] : List Nat)))).toArray 4); rw [World.size_alloc] at h; exact h)
  rw [← hW0]
  clear hW0 hmk
  go_loopg [5] n (fun gh tv wr => ∃ (out : List Nat) (sv : Value), sv = tv ∧ Hid (out.length ≤ n ∧ n - out.length ≤ gh) ∧ Hid (OwnI wr (w.heap.size + 2) sv out) ∧ Hid (DoneAt wr (w.heap.size + 1) n out) ∧ Hid (Blk wr w.heap.size 26 #[.slice A n c, .slice dA dn dc]) ∧ Hid (Below w.heap.size w wr) ∧ Hid (rulesF R n n [] = rulesF R n (n - out.length) out))
  case atStart => exact ⟨[], _, rfl, Lib.hid ⟨Nat.zero_le _, by simp⟩, Lib.hid (ownI_none _ _), HDN0, HBX0, HB0, Lib.hid rfl⟩
  case round =>
    obtain ⟨out, sv, hsv, HLE, HOWN, HDN, HBX, HBW, HRF⟩ := hrel
    subst hsv
    obtain ⟨oA, oc, rfl, -⟩ := HOWN.out.parts
    obtain ⟨l, hl⟩ : ∃ l, out.length = l := ⟨_, rfl⟩
    rw [hl] at HLE HRF HOWN ⊢
    have HLN := Lib.hid hl
    have bx0 : wr.cell? ⟨w.heap.size, 0, none⟩ = some (.slice A n c) := HBX.out.at 0
    clear hl
    by_cases hlt : l < n
    · have hltI : (l : Int) < (n : Int) := by omega
      go_wp2_with fail
      go_loopg [6, 7] n (fun gh xv iv wy => ∃ q : Nat, Hid (q ≤ n ∧ q ≤ gh) ∧ iv = .int .i64 ((q : Int) - 1) ∧ xv = .int .i64 (nx R n out (n - q)) ∧ Hid (OwnI wy (w.heap.size + 2) (.slice oA l oc) out) ∧ Hid (DoneAt wy (w.heap.size + 1) n out) ∧ Hid (Blk wy w.heap.size 26 #[.slice A n c, .slice dA dn dc]) ∧ Hid (Below w.heap.size w wy))
      case atStart => exact ⟨n, Lib.hid (by omega), by go_num, by rw [Nat.sub_self]; rfl, HOWN, HDN, HBX, HBW⟩
      case round =>
        obtain ⟨q, HQ, rfl, rfl, HO2, HD2, HX2, HB2⟩ := hrel
        obtain ⟨w2, rfl⟩ : ∃ wx : World, wx = wr := ⟨_, rfl⟩
        by_cases hq0 : 0 < q
        · obtain ⟨p, rfl⟩ : ∃ p, q = p + 1 := ⟨q - 1, by omega⟩
          rw [show ((p + 1 : Nat) : Int) - 1 = (p : Int) by omega]
          have hpn : p < n := by have := HQ.out; omega
          have hpI : (p : Int) < (n : Int) := by omega
          have hp0 : (0 : Int) ≤ (p : Int) := by omega
          have qd0 := HD2.out.at hpn
          have m0 : w2.cell? ⟨w.heap.size, 0, none⟩ = some (.slice A n c) := HX2.out.at 0
          have m1 : w2.cell? ⟨w.heap.size, 1, none⟩ = some (.slice dA dn dc) := HX2.out.at 1
          obtain ⟨f0, hf0⟩ : ∃ b, (!decide (p ∈ out)) = b := ⟨_, rfl⟩
          have HF0 : Hid ((!decide (p ∈ out)) = f0) := Lib.hid hf0
          obtain ⟨e0, he0⟩ : ∃ b, decide (p ∈ out) = b := ⟨_, rfl⟩
          rw [he0] at qd0 hf0
          clear he0
          go_wp2_with fail
          refine (refneeds_any _ dA dn dc R p _ (HR.out.under HB2.out) (by rw [HN.out]; exact hpn) (by rw [HN.out]; exact hn) HS.out).mono ?_
          rintro en w3 ⟨ul, rfl, hol, hb3⟩
          rw [HN.out] at hol
          have HO3 := Lib.hid (HO2.out.under hb3)
          have HD3 := Lib.hid (HD2.out.under hb3)
          have HX3 := Lib.hid (HX2.out.under hb3)
          have HB3w := Lib.hid (HB2.out.trans (hb3.mono HB2.out.size))
          have HL3 := Lib.hid hol
          obtain ⟨lA, lc, rfl, -⟩ := hol.parts
          obtain ⟨m, hm⟩ : ∃ m, (needsI R p n).length = m := ⟨_, rfl⟩
          rw [hm] at HL3 ⊢
          have HM := Lib.hid hm
          have HMS : Hid (m ≤ 1000000) := Lib.hid (by have := needsI_len R p n; omega)
          clear hol hb3 hm qd0 m0 m1 hf0
          go_wp2_with fail
          go_loopg [8, 10] m (fun gh fv jv wx => ∃ j : Nat, Hid (j ≤ m ∧ m - j ≤ gh) ∧ jv = .int .i64 (j : Int) ∧ fv = .bool (f0 && ((needsI R p n).take j).all fun x => decide (x ∈ out)) ∧ w3 = wx)
          case atStart => exact ⟨0, Lib.hid (by omega), rfl, by simp, rfl⟩
          case round =>
            obtain ⟨j, HJ, rfl, rfl, rfl⟩ := hrel
            by_cases hlt3 : j < m
            · have hlt3I : (j : Int) < (m : Int) := by omega
              have hjL : j < (needsI R p n).length := by rw [HM.out]; exact hlt3
              obtain ⟨gl, rfl, ql⟩ := HL3.out.cell hjL
              have HA3 := Lib.hid (all_take_succ (fun x => decide (x ∈ out)) hjL)
              have hxn := needsI_lt (List.getElem_mem hjL)
              rw [List.getD_eq_getElem?_getD, List.getElem?_eq_getElem hjL, Nat.zero_add] at ql
              change w3.cell? ⟨gl, j, none⟩ = some (.int .i64 (((needsI R p n)[j]'hjL : Nat) : Int)) at ql
              obtain ⟨x, hx⟩ : ∃ x, (needsI R p n)[j]'hjL = x := ⟨_, rfl⟩
              rw [hx] at ql HA3 hxn
              have hxI : (x : Int) < (n : Int) := by omega
              have qd := HD3.out.at hxn
              obtain ⟨d3, hd3⟩ : ∃ d, decide (x ∈ out) = d := ⟨_, rfl⟩
              rw [hd3] at qd HA3
              obtain ⟨b3, hb3⟩ : ∃ b, (f0 && ((needsI R p n).take j).all fun x => decide (x ∈ out)) = b := ⟨_, rfl⟩
              have HB3 : Hid ((f0 && ((needsI R p n).take (j + 1)).all fun x => decide (x ∈ out)) = (b3 && d3)) := Lib.hid (by rw [HA3.out, ← hb3, Bool.and_assoc])
              rw [hb3]
              have hj8 : j ≤ 1000000 := by have := HMS.out; omega
              clear hb3 hx hd3 hjL
              cases b3
              · go_wp2
                go_roundg (m - (j + 1))
                case measure => have := HJ.out; omega
                case rel => exact ⟨j + 1, Lib.hid (by omega), by go_num, by rw [HB3.out]; rfl, rfl⟩
              · go_wp2
                go_roundg (m - (j + 1))
                case measure => have := HJ.out; omega
                case rel => exact ⟨j + 1, Lib.hid (by omega), by go_num, by rw [HB3.out]; cases d3 <;> rfl, rfl⟩
            · obtain rfl : m = j := by have := HJ.out; omega
              have HFR : Hid ((f0 && ((needsI R p n).take m).all fun x => decide (x ∈ out)) = freeI R n out p) := Lib.hid (by
                unfold freeI
                rw [HF0.out, List.take_of_length_le (by rw [HM.out]; exact Nat.le_refl _)])
              rw [HFR.out]
              obtain ⟨fr, hfr⟩ : ∃ b, freeI R n out p = b := ⟨_, rfl⟩
              have HNX : Hid (nx R n out (n - p) = if fr = true then (p : Int) else nx R n out (n - (p + 1))) := Lib.hid (by
                have h : n - p = (n - (p + 1)) + 1 := by omega
                rw [h]
                show (if freeI R n out (n - 1 - (n - (p + 1))) = true then ((n - 1 - (n - (p + 1)) : Nat) : Int) else _) = _
                rw [show n - 1 - (n - (p + 1)) = p by omega, hfr])
              rw [hfr]
              have hp8 : p ≤ 1000000 := by omega
              clear hfr hlt3
              cases fr
              · go_wp2
                go_roundg p
                case measure => have := HQ.out; omega
                case rel => exact ⟨p, Lib.hid (by omega), by go_num, by rw [HNX.out]; rfl, HO3, HD3, HX3, HB3w⟩
              · go_wp2
                go_roundg p
                case measure => have := HQ.out; omega
                case rel => exact ⟨p, Lib.hid (by omega), by go_num, by rw [HNX.out]; rfl, HO3, HD3, HX3, HB3w⟩
        · obtain rfl : q = 0 := by omega
          rw [show ((0 : Nat) : Int) - 1 = -1 by rfl, Nat.sub_zero]
          have HNC := Lib.hid (nx_cases R n out n (Nat.le_refl _))
          have hln1 : n - l = (n - (l + 1)) + 1 := by omega
          rcases HNC.out with hx | ⟨x, hxn, hx⟩
          · have HFIN : Hid (rulesF R n n [] = none ∧ Below w.heap.size w w2) := Lib.hid ⟨by rw [HRF.out, hln1, rulesF, hx, if_pos (by decide)], HB2.out⟩
            rw [hx]
            clear hx
            go_wp2_with fail
            go_ret2
            exact ⟨⟨_, by rw [HFIN.out.1]; rfl, by rw [HFIN.out.1]; exact ownI_none _ _⟩, HFIN.out.2⟩
          · have HRF2 : Hid (rulesF R n n [] = rulesF R n (n - (l + 1)) (out ++ [x])) := Lib.hid (by rw [HRF.out, hln1, rulesF, hx, if_neg (by omega)]; rfl)
            have HLN2 : Hid ((out ++ [x]).length = l + 1) := Lib.hid (by rw [List.length_append, HLN.out]; rfl)
            have hxI : (x : Int) < (n : Int) := by omega
            have qx := HD2.out.at hxn
            have qf : w2.frozen? ⟨w.heap.size + 1, x, none⟩ = false := Blk.free HD2.out x
            have HDS := Lib.hid (HD2.out.set hxn)
            have HOS : Hid (OwnI (w2.setCell ⟨w.heap.size + 1, x, none⟩ (.bool true)) (w.heap.size + 2) (.slice oA l oc) out) := Lib.hid (ownsRow_sames HO2.out (fun k hk => Below.heap_setCell _ _ _ _ (by have := (HO2.out.lt k hk).1; dsimp only; omega)))
            have HXS := Lib.hid (Blk.grown HX2.out (grown_setCell w2 ⟨w.heap.size + 1, x, none⟩ (.bool true)) (by intro e; injection e with e; dsimp only at e; omega))
            have HBS := Lib.hid (HB2.out.setCell (p := ⟨w.heap.size + 1, x, none⟩) (Nat.le_succ _) (.bool true))
            have hz2 : w.heap.size + 2 ≤ w2.heap.size := by have := HD2.out.size; omega
            have HZ2 := Lib.hid hz2
            rw [hx]
            clear hx hz2
            go_wp2_with (at_builtin; refine wpList_append_int rfl _ _ rfl (w.heap.size + 2) _ out _ x rfl HOS.out (by rw [World.size_setCell]; rfl) rfl _ (by rw [HLN.out]; omega) (by simp; exact HZ2.out) _ rfl ?_)
            rintro f' w6 ⟨hO6, hg6, hb6⟩
            have HO6 := Lib.hid hO6
            have hne : ∀ k, (Value.slice oA l oc).ownBlock = some k → w.heap.size + 2 ≤ k := fun k hk => (HOS.out.lt k hk).1
            have HD6 := Lib.hid (Blk.grown (Blk.under HDS.out ((Below.refl _ _).alloc (Nat.le_refl _) (.cells #[.int .i64 (x : Int)] 3))) hg6 (by intro e; have := hne _ e.symm; omega))
            have HX6 := Lib.hid (Blk.grown (Blk.under HXS.out ((Below.refl _ _).alloc (Nat.le_refl _) (.cells #[.int .i64 (x : Int)] 3))) hg6 (by intro e; have := hne _ e.symm; omega))
            have HB6 := Lib.hid ((HBS.out.alloc HBS.out.size (.cells #[.int .i64 (x : Int)] 3)).grown hg6 (by have := HBS.out.size; simp; simp at this; omega) (fun k hk => by have := hne k hk; omega))
            clear hO6 hg6 hb6 hne qx qf
            go_wp2
            go_roundg (n - (l + 1))
            case measure => have := HLE.out; omega
            case rel => exact ⟨out ++ [x], _, rfl, Lib.hid (by rw [HLN2.out]; omega), HO6, HD6, HX6, HB6, Lib.hid (by rw [HLN2.out]; exact HRF2.out)⟩
    · obtain rfl : l = n := by have := HLE.out; omega
      have HFIN : Hid (rulesF R l l [] = some out ∧ OwnI wr w.heap.size (.slice oA l oc) out ∧ Below w.heap.size w wr) := Lib.hid ⟨by rw [HRF.out, Nat.sub_self]; rfl, OwnI.low HOWN.out (by omega), HBW.out⟩
      clear hlt
      go_wp2_with fail
      go_ret2
      exact ⟨⟨_, by rw [HFIN.out.1]; rfl, by rw [HFIN.out.1]; exact HFIN.out.2.1⟩, HFIN.out.2.2⟩
end Go.Proofs.Ytemliglhippdcaa

/- Package mani's own reader: whether Rules lead round. -/
namespace Go.Proofs.Ytemliglhippdcaa
set_option maxRecDepth 100000
open Go.ChangeShapes Go.WideShapes Go.ChangeAt Go.RowKit Go.Shelf

theorem infoBool : (Try.prog.info? 4).map (fun i => (i.zero, i.size, i.bytes)) = some (some (.bool false), 1, 1) := by kernel_rfl
theorem made_bools (n : Nat) : madeCells #[.bool false] n = ((List.replicate n false).map Value.bool).toArray := by
  apply Array.ext'
  rw [toList_madeCells_one, List.map_replicate]
theorem way_len (s : Mo.S) : ∀ (l : List Mn.Rule) (i : Nat) (free : List Bool), (Mo.way s l i free).length = free.length
  | [], i, free => rfl
  | r :: l, i, free => by
    rw [Mo.way, way_len s l]
    simp
theorem alloc_drew (w : World) (o : Obj) : Below w.heap.size w (w.alloc o).drew := ((Below.refl _ _).alloc (Nat.le_refl _) o).drew
/-- The cells of a Rule among the reader's. -/
theorem RulesB.at {w : World} {base hi n c : Nat} {A : Option Addr} {l : List Mn.Rule} (h : RulesB w base hi (.slice A n c) l) (i : Nat) (hi' : i < l.length) : ∃ gb q, A = some ⟨gb, 0, none⟩ ∧ gb < hi ∧ Parts w hi q (l.getD i emptyRule) ∧ w.cell? ⟨gb, i * 5, none⟩ = some q.1 ∧ w.cell? ⟨gb, i * 5 + 1, none⟩ = some q.2.1 ∧ w.cell? ⟨gb, i * 5 + 2, none⟩ = some q.2.2.1 ∧ w.cell? ⟨gb, i * 5 + 3, none⟩ = some q.2.2.2 ∧ w.cell? ⟨gb, i * 5 + 4, none⟩ = some (.bool (l.getD i emptyRule).phony) := by
  obtain ⟨f, h1, h2, h3⟩ := h
  have h1' := h1
  rcases h1.2 with ⟨e, h0⟩ | ⟨gb, cap, cur, e, _, _, _, _, _, _⟩
  · omega
  · injection e with e1 e2 e3
    subst e1 e2 e3
    have hc : ∀ j, j < 5 → w.cell? ⟨gb, i * 5 + j, none⟩ = (cellsR (f i) (l.getD i emptyRule))[j]? := fun j hj => by
      rw [World.ownsRow.cellAt h1' (i * 5 + j) (by omega), rowR_at f l l.length i j hi' hj]
    exact ⟨gb, f i, rfl, h2 gb rfl, h3 i hi', hc 0 (by omega), hc 1 (by omega), hc 2 (by omega), hc 3 (by omega), hc 4 (by omega)⟩
theorem RulesB.parts {w : World} {base hi : Nat} {v : Value} {l : List Mn.Rule} (h : RulesB w base hi v l) : ∃ A c, v = .slice A l.length c := by
  obtain ⟨f, h1, _⟩ := h
  rcases h1.2 with ⟨rfl, h0⟩ | ⟨g, cap, cur, rfl, _⟩
  · exact ⟨none, 0, by rw [h0]⟩
  · exact ⟨_, _, rfl⟩
end Go.Proofs.Ytemliglhippdcaa
