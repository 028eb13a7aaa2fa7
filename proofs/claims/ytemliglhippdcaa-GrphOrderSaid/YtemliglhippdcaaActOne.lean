/- The document's own answer for actions: one thing of words. -/
import Derived.Test.YtemliglhippdcaaActRef
import Derived.Test.YtemliglhippdcaaNameRef
namespace Go.Proofs.Ytemliglhippdcaa
set_option maxRecDepth 100000
open Go.ChangeShapes Go.WideShapes Go.ChangeAt Go.RowKit

theorem results_cell_tmp1 {P : Program} {fn : Func} {t p : Tmp} {ty : TypeId} (h : fn.results = #[.cell p ty, .tmp t]) (tmps : Array Value) (w : World) (g : Nat) (bt : TypeId) (cs : Array Value) (fr : Nat × Nat) (d : TypeDesc)
    (hp : tmps.getD p undef = .pointer (some ⟨g, 0, none⟩)) (hg : w.heap[g]? = some (.cells cs bt fr))
    (hu : P.underlying ty = some d) (hd : (match d with | .struct _ | .array _ _ => true | _ => false) = true) (hi : (P.info? ty).map (·.size) = some cs.size) :
    (results fn tmps).run P w = .ok (.tuple #[.agg cs, tmps.getD t undef]) w := by
  have hp' : tmps[p]?.getD undef = .pointer (some ⟨g, 0, none⟩) := by simpa using hp
  simp [results, h, hp', asAddr, run_loadVar_row w g bt ty cs fr d hg hu hd hi]
theorem kind_found : ∀ k, 1 ≤ k → k < 12 → Ac.kindOf (Ac.names.getD k []) = k := by
  intro k h1 h2
  rcases Ac.kind_cases h1 (by omega) with e | e | e | e | e | e | e | e | e | e | e <;> subst e <;> rfl
theorem kind_none {t : List Nat} (h : ∀ j, 1 ≤ j → j < 12 → Ac.names.getD j [] ≠ t) : Ac.kindOf t = 0 := by
  unfold Ac.kindOf
  split
  · rfl
  · rename_i h0
    split
    · rename_i hlt
      rcases Nat.eq_zero_or_pos (Ac.names.idxOf t) with h1 | h1
      · exact h1
      · have h2 := h _ h1 hlt
        have h3 : Ac.names.idxOf t < Ac.names.length := hlt
        have h4 := List.getElem_idxOf h3
        rw [List.getD_eq_getElem?_getD, List.getElem?_eq_getElem h3] at h2
        exact absurd h4 h2
    · rfl
theorem one_long (xt : List Nat) (xl xc : Nat) (y y2 : Ln.W) (r : List Ln.W) : Ac.one (⟨xt, xl, xc, false⟩ :: y :: y2 :: r) = none := by
  unfold Ac.one
  simp
theorem one_nokind {xt : List Nat} {xl xc : Nat} {r : List Ln.W} (h : Ac.kindOf xt = 0) : Ac.one (⟨xt, xl, xc, false⟩ :: r) = none := by
  unfold Ac.one
  simp [h]
/-- What is told of the words of one thing. -/
def OneD (w : World) (e : Ending) (w' : World) : Option Ac.D → Prop
  | some d => e = .returned (.tuple #[.agg (cellsD d).toArray, .bool true]) ∧ Below w.heap.size w w'
  | none => (∃ y : Ac.D, e = .returned (.tuple #[.agg (cellsD y).toArray, .bool false])) ∧ Below w.heap.size w w'
theorem oned_none {w w' : World} {e : Ending} {T : Option Ac.D} (h : T = none) (y : Ac.D) (he : e = .returned (.tuple #[.agg (cellsD y).toArray, .bool false])) (hb : Below w.heap.size w w') : OneD w e w' T := by
  rw [h]
  exact ⟨⟨y, he⟩, hb⟩
theorem oned_some {w w' : World} {e : Ending} {T : Option Ac.D} {d : Ac.D} (h : T = some d) (he : e = .returned (.tuple #[.agg (cellsD d).toArray, .bool true])) (hb : Below w.heap.size w w') : OneD w e w' T := by
  rw [h]
  exact ⟨he, hb⟩
theorem RdW.parts2 {w : World} {v : Value} {R : List Ln.W} (h : RdW w v R) : ∃ A c, v = .slice A R.length c ∧ R.length ≤ c := by
  obtain ⟨A, c, e, h, _⟩ := h
  exact ⟨A, c, e, h⟩
theorem RdW.at2 {w : World} {A : Option Addr} {n c : Nat} {R : List Ln.W} (h : RdW w (.slice A n c) R) (k : Nat) (hk : k < R.length) : ∃ b off, A = some ⟨b, off, none⟩ ∧ w.cell? ⟨b, off + k * 4, none⟩ = some (.string (str (R[k]'hk).text)) ∧ w.cell? ⟨b, off + k * 4 + 1, none⟩ = some (.int .i64 (R[k]'hk).line) ∧ w.cell? ⟨b, off + k * 4 + 2, none⟩ = some (.int .i64 (R[k]'hk).col) ∧ w.cell? ⟨b, off + k * 4 + 3, none⟩ = some (.bool (R[k]'hk).q) := by
  obtain ⟨A', c', e, _, _, hx⟩ := h
  injection e with e1 e2 e3
  subst e1
  obtain ⟨b, off, rfl, hc⟩ := hx (by omega)
  exact ⟨b, off, rfl, hc k hk⟩
set_option maxRecDepth 100000 in
set_option maxHeartbeats 8000000 in
theorem refone_any (v : Value) (R : List Ln.W) (w : World) (hv : RdW w v R) (ht : ∀ x ∈ R, (∀ c ∈ x.text, c < 256) ∧ x.text.length ≤ 1099511627776) (T : Option Ac.D) (hT : T = Ac.one R) :
    Calls Try.prog 76 #[v] w fun e w' => OneD w e w' T := by
  have HV := Lib.hid hv
  have HX := Lib.hid ht
  have HT := Lib.hid hT
  obtain ⟨A, c, rfl, hc⟩ := hv.parts2
  clear ht hT
  rcases R with _ | ⟨x, r⟩
  · have HT2 : Hid (T = none) := Lib.hid HT.out
    clear hv HV HX HT
    go_enter Try.func76, Try.ntmps76
    have hB : Blk (w.alloc (.cells #[.int .i64 0, .int .i64 0, .string ⟨#[]⟩] 145)) w.heap.size 145 #[.int .i64 0, .int .i64 0, .string ⟨#[]⟩] := heap_alloc_new w _
    have hl0 : ((([] : List Ln.W).length : Nat) : Int) = 0 := rfl
    go_wp2
    refine bodyPost_ret (results_cell_tmp1 rfl _ _ w.heap.size _ _ _ _ rfl (heap_alloc_new w _) Try.underlying145 rfl (by kernel_rfl)) rfl ?_
    exact oned_none HT2.out ⟨0, 0, []⟩ rfl ((Below.refl _ _).alloc (Nat.le_refl _) _)
  · obtain ⟨b, off, rfl, a0, -, -, a3⟩ := hv.at2 0 (by simp)
    change w.cell? ⟨b, off + 0 * 4, none⟩ = some (.string (str x.text)) at a0
    change w.cell? ⟨b, off + 0 * 4 + 3, none⟩ = some (.bool x.q) at a3
    rw [Nat.zero_mul, Nat.add_zero] at a0 a3
    obtain ⟨xt, xl, xc, xq⟩ := x
    change w.cell? ⟨b, off, none⟩ = some (.string (str xt)) at a0
    change w.cell? ⟨b, off + 3, none⟩ = some (.bool xq) at a3
    have hxt := HX.out ⟨xt, xl, xc, xq⟩ (by simp)
    change (∀ c ∈ xt, c < 256) ∧ xt.length ≤ 1099511627776 at hxt
    have HXT := Lib.hid hxt
    obtain ⟨n, hn⟩ : ∃ n, (⟨xt, xl, xc, xq⟩ :: r : List Ln.W).length = n := ⟨_, rfl⟩
    have HNR : Hid (r.length + 1 = n) := Lib.hid hn
    rw [hn] at hv hc HV ⊢
    have hn0 : ((n : Int) == 0) = false := by have := HNR.out; simp; omega
    have hnI : (0 : Int) < (n : Int) := by have := HNR.out; omega
    have k0 : ∀ o, (w.alloc o).cell? ⟨b, off, none⟩ = some (.string (str xt)) := fun o => (World.cell?_alloc_lt w o _ (World.block_lt_of_cell? _ _ a0)).trans a0
    have k3 : ∀ o, (w.alloc o).cell? ⟨b, off + 3, none⟩ = some (.bool xq) := fun o => (World.cell?_alloc_lt w o _ (World.block_lt_of_cell? _ _ a3)).trans a3
    clear hv hn hxt
    rcases xq with _ | _
    · go_enter Try.func76, Try.ntmps76
      go_wp2_with fail
      refine (refwords_any _).mono ?_
      rintro e w1 ⟨rfl, hw1⟩
      have hs1 : w.heap.size + 2 = w1.heap.size := by rw [hw1]; simp
      have HW1 : Hid (Blk w1 (w.heap.size + 1) 9 (Ac.names.map fun l => Value.string (str l)).toArray) := Lib.hid (by
        rw [hw1, show w.heap.size + 1 = (w.alloc (.cells #[.int .i64 0, .int .i64 0, .string ⟨#[]⟩] 145)).heap.size from by simp]
        exact heap_alloc_new _ _)
      have HR1 : Hid (Blk w1 w.heap.size 145 #[.int .i64 0, .int .i64 0, .string ⟨#[]⟩]) := Lib.hid (by rw [hw1]; exact Blk.alloc (heap_alloc_new w _) _)
      have HB1 : Hid (Below w.heap.size w w1) := Lib.hid (by rw [hw1]; exact ((Below.refl _ _).alloc (Nat.le_refl _) _).alloc (by simp) _)
      have c0 : w1.cell? ⟨b, off, none⟩ = some (.string (str xt)) := (HB1.out.cell (World.block_lt_of_cell? _ _ a0)).trans a0
      clear hw1 k0 k3 a0 a3
      go_wp2_with fail
      go_loopw [5] (fun kv wr => ∃ k : Nat, 1 ≤ k ∧ k ≤ 12 ∧ kv = .int .i64 (k : Int) ∧ Hid (∀ j, 1 ≤ j → j < k → Ac.names.getD j [] ≠ xt) ∧ ∃ nq, wr = w1.drewN nq) (fun kv _ => 12 - (intOf kv).toNat)
      case atStart => exact ⟨1, by omega, by omega, rfl, Lib.hid (by omega), 0, rfl⟩
      case round =>
        obtain ⟨k, hk1, hk12, rfl, hno, nq, rfl⟩ := hrel
        by_cases hlt : k < 12
        · have hkI : (k : Int) < 12 := by omega
          have c1 : w1.cell? ⟨w.heap.size + 1, k, none⟩ = some (.string (str (Ac.names.getD k []))) := by
            rw [HW1.out.at k, List.getElem?_toArray, List.getElem?_map, List.getElem?_eq_getElem (show k < Ac.names.length from hlt), List.getD_eq_getElem?_getD, List.getElem?_eq_getElem (show k < Ac.names.length from hlt)]
            rfl
          have hnb : ∀ c ∈ Ac.names.getD k [], c < 256 := by
            rcases Ac.kind_cases hk1 (by omega) with e | e | e | e | e | e | e | e | e | e | e <;> subst e <;> decide
          have hse := str_same hnb HXT.out.1
          by_cases hfound : Ac.names.getD k [] = xt
          · have HKF : Hid (Ac.kindOf xt = k) := Lib.hid (by rw [← hfound]; exact kind_found k hk1 hlt)
            rw [hfound] at c1
            clear hse hnb hno
            go_wp2
            go_quiet (fail)
            generalize hW : World.drewN _ _ = W
            have HRW : Hid (Blk W w.heap.size 145 #[.int .i64 0, .int .i64 0, .string ⟨#[]⟩]) := Lib.hid (by rw [← hW]; exact HR1.out.heap rfl)
            have HBW : Hid (Below w.heap.size w W) := Lib.hid (by rw [← hW]; exact ⟨HB1.out.1, HB1.out.2, HB1.out.3, HB1.out.4, HB1.out.5⟩)
            have HBA : Hid (∀ o, Below w.heap.size w (W.alloc o)) := Lib.hid (fun o => HBW.out.alloc HBW.out.size o)
            have b0 : ∀ o, (W.alloc o).cell? ⟨w.heap.size, 0, none⟩ = some (.int .i64 0) := fun o => (HRW.out.alloc o).at 0
            have b1 : ∀ o, (W.alloc o).cell? ⟨w.heap.size, 1, none⟩ = some (.int .i64 0) := fun o => (HRW.out.alloc o).at 1
            have b2 : ∀ o, (W.alloc o).cell? ⟨w.heap.size, 2, none⟩ = some (.string ⟨#[]⟩) := fun o => (HRW.out.alloc o).at 2
            have f0 : ∀ o, (W.alloc o).frozen? ⟨w.heap.size, 0, none⟩ = false := fun o => (HRW.out.alloc o).free 0
            have f1 : ∀ o, (W.alloc o).frozen? ⟨w.heap.size, 1, none⟩ = false := fun o => (HRW.out.alloc o).free 1
            have f2 : ∀ o, (W.alloc o).frozen? ⟨w.heap.size, 2, none⟩ = false := fun o => (HRW.out.alloc o).free 2
            clear hW c0 c1
            have HVW : Hid (∀ o, RdW (W.alloc o) (.slice (some ⟨b, off, none⟩) n c) (⟨xt, xl, xc, false⟩ :: r)) := Lib.hid (fun o => HV.out.under ((HBA.out o)))
            rcases r with _ | ⟨y, _ | ⟨y2, r⟩⟩
            · obtain rfl : n = 1 := by have := HNR.out; simpa using this.symm
              rcases Ac.kind_cases hk1 (by omega) with e | e | e | e | e | e | e | e | e | e | e <;> subst e
              · skip
                have HT2 : Hid (T = none) := Lib.hid (by rw [HT.out]; rw [Ac.one]; simp [HKF.out, Ac.isText])
                go_wp2
                refine bodyPost_ret (results_cell_tmp1 rfl _ _ w.heap.size _ _ _ _ rfl ((((HRW.out.alloc _).set 0 _).set 1 _).set 2 _) Try.underlying145 rfl (by kernel_rfl)) rfl ?_
                exact oned_none HT2.out ⟨0, 0, []⟩ rfl ((((HBA.out _).setCell (by simp) _).setCell (by simp) _).setCell (by simp) _)
              · skip
                have HT2 : Hid (T = none) := Lib.hid (by rw [HT.out]; rw [Ac.one]; simp [HKF.out, Ac.isText, Ac.most])
                go_wp2
                refine bodyPost_ret (results_cell_tmp1 rfl _ _ w.heap.size _ _ _ _ rfl ((((HRW.out.alloc _).set 0 _).set 1 _).set 2 _) Try.underlying145 rfl (by kernel_rfl)) rfl ?_
                exact oned_none HT2.out ⟨0, 0, []⟩ rfl ((((HBA.out _).setCell (by simp) _).setCell (by simp) _).setCell (by simp) _)
              · skip
                have HT2 : Hid (T = some ⟨3, 0, []⟩) := Lib.hid (by rw [HT.out]; rw [Ac.one]; simp [HKF.out, Ac.isText, Ac.most])
                go_wp2
                refine bodyPost_ret (results_cell_tmp1 rfl _ _ w.heap.size _ _ _ _ rfl ((((HRW.out.alloc _).set 0 _).set 1 _).set 2 _) Try.underlying145 rfl (by kernel_rfl)) rfl ?_
                exact oned_some HT2.out rfl ((((HBA.out _).setCell (by simp) _).setCell (by simp) _).setCell (by simp) _)
              · skip
                have HT2 : Hid (T = some ⟨4, 0, []⟩) := Lib.hid (by rw [HT.out]; rw [Ac.one]; simp [HKF.out, Ac.isText, Ac.most])
                go_wp2
                refine bodyPost_ret (results_cell_tmp1 rfl _ _ w.heap.size _ _ _ _ rfl ((((HRW.out.alloc _).set 0 _).set 1 _).set 2 _) Try.underlying145 rfl (by kernel_rfl)) rfl ?_
                exact oned_some HT2.out rfl ((((HBA.out _).setCell (by simp) _).setCell (by simp) _).setCell (by simp) _)
              · skip
                have HT2 : Hid (T = some ⟨5, 0, []⟩) := Lib.hid (by rw [HT.out]; rw [Ac.one]; simp [HKF.out, Ac.isText, Ac.most])
                go_wp2
                refine bodyPost_ret (results_cell_tmp1 rfl _ _ w.heap.size _ _ _ _ rfl ((((HRW.out.alloc _).set 0 _).set 1 _).set 2 _) Try.underlying145 rfl (by kernel_rfl)) rfl ?_
                exact oned_some HT2.out rfl ((((HBA.out _).setCell (by simp) _).setCell (by simp) _).setCell (by simp) _)
              · skip
                have HT2 : Hid (T = some ⟨6, 0, []⟩) := Lib.hid (by rw [HT.out]; rw [Ac.one]; simp [HKF.out, Ac.isText, Ac.most])
                go_wp2
                refine bodyPost_ret (results_cell_tmp1 rfl _ _ w.heap.size _ _ _ _ rfl ((((HRW.out.alloc _).set 0 _).set 1 _).set 2 _) Try.underlying145 rfl (by kernel_rfl)) rfl ?_
                exact oned_some HT2.out rfl ((((HBA.out _).setCell (by simp) _).setCell (by simp) _).setCell (by simp) _)
              · skip
                have HT2 : Hid (T = none) := Lib.hid (by rw [HT.out]; rw [Ac.one]; simp [HKF.out, Ac.isText, Ac.most])
                go_wp2
                refine bodyPost_ret (results_cell_tmp1 rfl _ _ w.heap.size _ _ _ _ rfl ((((HRW.out.alloc _).set 0 _).set 1 _).set 2 _) Try.underlying145 rfl (by kernel_rfl)) rfl ?_
                exact oned_none HT2.out ⟨0, 0, []⟩ rfl ((((HBA.out _).setCell (by simp) _).setCell (by simp) _).setCell (by simp) _)
              · skip
                have HT2 : Hid (T = none) := Lib.hid (by rw [HT.out]; rw [Ac.one]; simp [HKF.out, Ac.isText, Ac.most])
                go_wp2
                refine bodyPost_ret (results_cell_tmp1 rfl _ _ w.heap.size _ _ _ _ rfl ((((HRW.out.alloc _).set 0 _).set 1 _).set 2 _) Try.underlying145 rfl (by kernel_rfl)) rfl ?_
                exact oned_none HT2.out ⟨0, 0, []⟩ rfl ((((HBA.out _).setCell (by simp) _).setCell (by simp) _).setCell (by simp) _)
              · skip
                have HT2 : Hid (T = some ⟨9, 0, []⟩) := Lib.hid (by rw [HT.out]; rw [Ac.one]; simp [HKF.out, Ac.isText, Ac.most])
                go_wp2
                refine bodyPost_ret (results_cell_tmp1 rfl _ _ w.heap.size _ _ _ _ rfl ((((HRW.out.alloc _).set 0 _).set 1 _).set 2 _) Try.underlying145 rfl (by kernel_rfl)) rfl ?_
                exact oned_some HT2.out rfl ((((HBA.out _).setCell (by simp) _).setCell (by simp) _).setCell (by simp) _)
              · skip
                have HT2 : Hid (T = none) := Lib.hid (by rw [HT.out]; rw [Ac.one]; simp [HKF.out, Ac.isText])
                go_wp2
                refine bodyPost_ret (results_cell_tmp1 rfl _ _ w.heap.size _ _ _ _ rfl ((((HRW.out.alloc _).set 0 _).set 1 _).set 2 _) Try.underlying145 rfl (by kernel_rfl)) rfl ?_
                exact oned_none HT2.out ⟨0, 0, []⟩ rfl ((((HBA.out _).setCell (by simp) _).setCell (by simp) _).setCell (by simp) _)
              · skip
                have HT2 : Hid (T = some ⟨11, 0, []⟩) := Lib.hid (by rw [HT.out]; rw [Ac.one]; simp [HKF.out, Ac.isText, Ac.most])
                go_wp2
                refine bodyPost_ret (results_cell_tmp1 rfl _ _ w.heap.size _ _ _ _ rfl ((((HRW.out.alloc _).set 0 _).set 1 _).set 2 _) Try.underlying145 rfl (by kernel_rfl)) rfl ?_
                exact oned_some HT2.out rfl ((((HBA.out _).setCell (by simp) _).setCell (by simp) _).setCell (by simp) _)
            · obtain rfl : n = 2 := by have := HNR.out; simpa using this.symm
              obtain ⟨yt, yl, yc, yq⟩ := y
              have hy := HX.out ⟨yt, yl, yc, yq⟩ (by simp)
              change (∀ c ∈ yt, c < 256) ∧ yt.length ≤ 1099511627776 at hy
              have HY := Lib.hid hy
              have y0 : ∀ o, (W.alloc o).cell? ⟨b, off + 4, none⟩ = some (.string (str yt)) := fun o => by
                obtain ⟨b', o', e, h0, -⟩ := (HVW.out o).at2 1 (by simp)
                cases e
                exact h0
              have y3 : ∀ o, (W.alloc o).cell? ⟨b, off + 4 + 3, none⟩ = some (.bool yq) := fun o => by
                obtain ⟨b', o', e, -, -, -, h3⟩ := (HVW.out o).at2 1 (by simp)
                cases e
                exact h3
              clear hy
              rcases Ac.kind_cases hk1 (by omega) with e | e | e | e | e | e | e | e | e | e | e <;> subst e
              · skip
                rcases yq with _ | _
                · skip
                  have HT2 : Hid (T = none) := Lib.hid (by rw [HT.out]; rw [Ac.one]; simp [HKF.out, Ac.isText])
                  go_wp2
                  refine bodyPost_ret (results_cell_tmp1 rfl _ _ w.heap.size _ _ _ _ rfl ((((HRW.out.alloc _).set 0 _).set 1 _).set 2 _) Try.underlying145 rfl (by kernel_rfl)) rfl ?_
                  exact oned_none HT2.out ⟨0, 0, []⟩ rfl ((((HBA.out _).setCell (by simp) _).setCell (by simp) _).setCell (by simp) _)
                · skip
                  have HT2 : Hid (T = some ⟨1, 0, yt⟩) := Lib.hid (by rw [HT.out]; rw [Ac.one]; simp [HKF.out, Ac.isText])
                  go_wp2
                  refine bodyPost_ret (results_cell_tmp1 rfl _ _ w.heap.size _ _ _ _ rfl ((((HRW.out.alloc _).set 0 _).set 1 _).set 2 _) Try.underlying145 rfl (by kernel_rfl)) rfl ?_
                  exact oned_some HT2.out rfl ((((HBA.out _).setCell (by simp) _).setCell (by simp) _).setCell (by simp) _)
              · skip
                rcases yq with _ | _
                · skip
                  go_wp2_with fail
                  refine (refnumber_any yt 9 _ HY.out.1 HY.out.2 (by omega)).mono ?_
                  rintro e w2 ⟨rfl, rfl⟩
                  rcases hnum : Nm.isNum yt 9 with _ | _
                  · skip
                    have HT2 : Hid (T = none) := Lib.hid (by rw [HT.out, Ac.one]; simp [HKF.out, Ac.isText, Ac.most, hnum])
                    clear hnum
                    go_wp2
                    refine bodyPost_ret (results_cell_tmp1 rfl _ _ w.heap.size _ _ _ _ rfl ((((HRW.out.alloc _).set 0 _).set 1 _).set 2 _) Try.underlying145 rfl (by kernel_rfl)) rfl ?_
                    exact oned_none HT2.out ⟨2, Nm.num yt 9, []⟩ rfl ((((HBA.out _).setCell (by simp) _).setCell (by simp) _).setCell (by simp) _)
                  · skip
                    have HT2 : Hid (T = some ⟨2, Nm.num yt 9, []⟩) := Lib.hid (by rw [HT.out, Ac.one]; simp [HKF.out, Ac.isText, Ac.most, hnum])
                    clear hnum
                    go_wp2
                    refine bodyPost_ret (results_cell_tmp1 rfl _ _ w.heap.size _ _ _ _ rfl ((((HRW.out.alloc _).set 0 _).set 1 _).set 2 _) Try.underlying145 rfl (by kernel_rfl)) rfl ?_
                    exact oned_some HT2.out rfl ((((HBA.out _).setCell (by simp) _).setCell (by simp) _).setCell (by simp) _)
                · skip
                  have HT2 : Hid (T = none) := Lib.hid (by rw [HT.out]; rw [Ac.one]; simp [HKF.out, Ac.isText, Ac.most])
                  go_wp2
                  refine bodyPost_ret (results_cell_tmp1 rfl _ _ w.heap.size _ _ _ _ rfl ((((HRW.out.alloc _).set 0 _).set 1 _).set 2 _) Try.underlying145 rfl (by kernel_rfl)) rfl ?_
                  exact oned_none HT2.out ⟨0, 0, []⟩ rfl ((((HBA.out _).setCell (by simp) _).setCell (by simp) _).setCell (by simp) _)
              · skip
                have HT2 : Hid (T = none) := Lib.hid (by rw [HT.out]; rw [Ac.one]; simp [HKF.out, Ac.isText, Ac.most])
                go_wp2
                refine bodyPost_ret (results_cell_tmp1 rfl _ _ w.heap.size _ _ _ _ rfl ((((HRW.out.alloc _).set 0 _).set 1 _).set 2 _) Try.underlying145 rfl (by kernel_rfl)) rfl ?_
                exact oned_none HT2.out ⟨3, 0, []⟩ rfl ((((HBA.out _).setCell (by simp) _).setCell (by simp) _).setCell (by simp) _)
              · skip
                have HT2 : Hid (T = none) := Lib.hid (by rw [HT.out]; rw [Ac.one]; simp [HKF.out, Ac.isText, Ac.most])
                go_wp2
                refine bodyPost_ret (results_cell_tmp1 rfl _ _ w.heap.size _ _ _ _ rfl ((((HRW.out.alloc _).set 0 _).set 1 _).set 2 _) Try.underlying145 rfl (by kernel_rfl)) rfl ?_
                exact oned_none HT2.out ⟨4, 0, []⟩ rfl ((((HBA.out _).setCell (by simp) _).setCell (by simp) _).setCell (by simp) _)
              · skip
                have HT2 : Hid (T = none) := Lib.hid (by rw [HT.out]; rw [Ac.one]; simp [HKF.out, Ac.isText, Ac.most])
                go_wp2
                refine bodyPost_ret (results_cell_tmp1 rfl _ _ w.heap.size _ _ _ _ rfl ((((HRW.out.alloc _).set 0 _).set 1 _).set 2 _) Try.underlying145 rfl (by kernel_rfl)) rfl ?_
                exact oned_none HT2.out ⟨5, 0, []⟩ rfl ((((HBA.out _).setCell (by simp) _).setCell (by simp) _).setCell (by simp) _)
              · skip
                have HT2 : Hid (T = none) := Lib.hid (by rw [HT.out]; rw [Ac.one]; simp [HKF.out, Ac.isText, Ac.most])
                go_wp2
                refine bodyPost_ret (results_cell_tmp1 rfl _ _ w.heap.size _ _ _ _ rfl ((((HRW.out.alloc _).set 0 _).set 1 _).set 2 _) Try.underlying145 rfl (by kernel_rfl)) rfl ?_
                exact oned_none HT2.out ⟨6, 0, []⟩ rfl ((((HBA.out _).setCell (by simp) _).setCell (by simp) _).setCell (by simp) _)
              · skip
                rcases yq with _ | _
                · skip
                  go_wp2_with fail
                  refine (refnumber_any yt 9 _ HY.out.1 HY.out.2 (by omega)).mono ?_
                  rintro e w2 ⟨rfl, rfl⟩
                  rcases hnum : Nm.isNum yt 9 with _ | _
                  · skip
                    have HT2 : Hid (T = none) := Lib.hid (by rw [HT.out, Ac.one]; simp [HKF.out, Ac.isText, Ac.most, hnum])
                    clear hnum
                    go_wp2
                    refine bodyPost_ret (results_cell_tmp1 rfl _ _ w.heap.size _ _ _ _ rfl ((((HRW.out.alloc _).set 0 _).set 1 _).set 2 _) Try.underlying145 rfl (by kernel_rfl)) rfl ?_
                    exact oned_none HT2.out ⟨7, Nm.num yt 9, []⟩ rfl ((((HBA.out _).setCell (by simp) _).setCell (by simp) _).setCell (by simp) _)
                  · skip
                    have HT2 : Hid (T = some ⟨7, Nm.num yt 9, []⟩) := Lib.hid (by rw [HT.out, Ac.one]; simp [HKF.out, Ac.isText, Ac.most, hnum])
                    clear hnum
                    go_wp2
                    refine bodyPost_ret (results_cell_tmp1 rfl _ _ w.heap.size _ _ _ _ rfl ((((HRW.out.alloc _).set 0 _).set 1 _).set 2 _) Try.underlying145 rfl (by kernel_rfl)) rfl ?_
                    exact oned_some HT2.out rfl ((((HBA.out _).setCell (by simp) _).setCell (by simp) _).setCell (by simp) _)
                · skip
                  have HT2 : Hid (T = none) := Lib.hid (by rw [HT.out]; rw [Ac.one]; simp [HKF.out, Ac.isText, Ac.most])
                  go_wp2
                  refine bodyPost_ret (results_cell_tmp1 rfl _ _ w.heap.size _ _ _ _ rfl ((((HRW.out.alloc _).set 0 _).set 1 _).set 2 _) Try.underlying145 rfl (by kernel_rfl)) rfl ?_
                  exact oned_none HT2.out ⟨0, 0, []⟩ rfl ((((HBA.out _).setCell (by simp) _).setCell (by simp) _).setCell (by simp) _)
              · skip
                rcases yq with _ | _
                · skip
                  go_wp2_with fail
                  refine (refnumber_any yt 9 _ HY.out.1 HY.out.2 (by omega)).mono ?_
                  rintro e w2 ⟨rfl, rfl⟩
                  rcases hnum : Nm.isNum yt 9 with _ | _
                  · skip
                    have HT2 : Hid (T = none) := Lib.hid (by rw [HT.out, Ac.one]; simp [HKF.out, Ac.isText, Ac.most, hnum])
                    clear hnum
                    go_wp2
                    refine bodyPost_ret (results_cell_tmp1 rfl _ _ w.heap.size _ _ _ _ rfl ((((HRW.out.alloc _).set 0 _).set 1 _).set 2 _) Try.underlying145 rfl (by kernel_rfl)) rfl ?_
                    exact oned_none HT2.out ⟨8, Nm.num yt 9, []⟩ rfl ((((HBA.out _).setCell (by simp) _).setCell (by simp) _).setCell (by simp) _)
                  · skip
                    have HT2 : Hid (T = some ⟨8, Nm.num yt 9, []⟩) := Lib.hid (by rw [HT.out, Ac.one]; simp [HKF.out, Ac.isText, Ac.most, hnum])
                    clear hnum
                    go_wp2
                    refine bodyPost_ret (results_cell_tmp1 rfl _ _ w.heap.size _ _ _ _ rfl ((((HRW.out.alloc _).set 0 _).set 1 _).set 2 _) Try.underlying145 rfl (by kernel_rfl)) rfl ?_
                    exact oned_some HT2.out rfl ((((HBA.out _).setCell (by simp) _).setCell (by simp) _).setCell (by simp) _)
                · skip
                  have HT2 : Hid (T = none) := Lib.hid (by rw [HT.out]; rw [Ac.one]; simp [HKF.out, Ac.isText, Ac.most])
                  go_wp2
                  refine bodyPost_ret (results_cell_tmp1 rfl _ _ w.heap.size _ _ _ _ rfl ((((HRW.out.alloc _).set 0 _).set 1 _).set 2 _) Try.underlying145 rfl (by kernel_rfl)) rfl ?_
                  exact oned_none HT2.out ⟨0, 0, []⟩ rfl ((((HBA.out _).setCell (by simp) _).setCell (by simp) _).setCell (by simp) _)
              · skip
                have HT2 : Hid (T = none) := Lib.hid (by rw [HT.out]; rw [Ac.one]; simp [HKF.out, Ac.isText, Ac.most])
                go_wp2
                refine bodyPost_ret (results_cell_tmp1 rfl _ _ w.heap.size _ _ _ _ rfl ((((HRW.out.alloc _).set 0 _).set 1 _).set 2 _) Try.underlying145 rfl (by kernel_rfl)) rfl ?_
                exact oned_none HT2.out ⟨9, 0, []⟩ rfl ((((HBA.out _).setCell (by simp) _).setCell (by simp) _).setCell (by simp) _)
              · skip
                rcases yq with _ | _
                · skip
                  have HT2 : Hid (T = none) := Lib.hid (by rw [HT.out]; rw [Ac.one]; simp [HKF.out, Ac.isText])
                  go_wp2
                  refine bodyPost_ret (results_cell_tmp1 rfl _ _ w.heap.size _ _ _ _ rfl ((((HRW.out.alloc _).set 0 _).set 1 _).set 2 _) Try.underlying145 rfl (by kernel_rfl)) rfl ?_
                  exact oned_none HT2.out ⟨0, 0, []⟩ rfl ((((HBA.out _).setCell (by simp) _).setCell (by simp) _).setCell (by simp) _)
                · skip
                  have HT2 : Hid (T = some ⟨10, 0, yt⟩) := Lib.hid (by rw [HT.out]; rw [Ac.one]; simp [HKF.out, Ac.isText])
                  go_wp2
                  refine bodyPost_ret (results_cell_tmp1 rfl _ _ w.heap.size _ _ _ _ rfl ((((HRW.out.alloc _).set 0 _).set 1 _).set 2 _) Try.underlying145 rfl (by kernel_rfl)) rfl ?_
                  exact oned_some HT2.out rfl ((((HBA.out _).setCell (by simp) _).setCell (by simp) _).setCell (by simp) _)
              · skip
                have HT2 : Hid (T = none) := Lib.hid (by rw [HT.out]; rw [Ac.one]; simp [HKF.out, Ac.isText, Ac.most])
                go_wp2
                refine bodyPost_ret (results_cell_tmp1 rfl _ _ w.heap.size _ _ _ _ rfl ((((HRW.out.alloc _).set 0 _).set 1 _).set 2 _) Try.underlying145 rfl (by kernel_rfl)) rfl ?_
                exact oned_none HT2.out ⟨11, 0, []⟩ rfl ((((HBA.out _).setCell (by simp) _).setCell (by simp) _).setCell (by simp) _)
            · have hn2 : ((n : Int) != 2) = true := by have := HNR.out; simp at this; simp; omega
              have hn1 : ((n : Int) == 1) = false := by have := HNR.out; simp at this; simp; omega
              rcases Ac.kind_cases hk1 (by omega) with e | e | e | e | e | e | e | e | e | e | e <;> subst e
              · skip
                have HT2 : Hid (T = none) := Lib.hid (by rw [HT.out]; exact one_long _ _ _ _ _ _)
                go_wp2
                refine bodyPost_ret (results_cell_tmp1 rfl _ _ w.heap.size _ _ _ _ rfl ((((HRW.out.alloc _).set 0 _).set 1 _).set 2 _) Try.underlying145 rfl (by kernel_rfl)) rfl ?_
                exact oned_none HT2.out ⟨0, 0, []⟩ rfl ((((HBA.out _).setCell (by simp) _).setCell (by simp) _).setCell (by simp) _)
              · skip
                have HT2 : Hid (T = none) := Lib.hid (by rw [HT.out]; exact one_long _ _ _ _ _ _)
                go_wp2
                refine bodyPost_ret (results_cell_tmp1 rfl _ _ w.heap.size _ _ _ _ rfl ((((HRW.out.alloc _).set 0 _).set 1 _).set 2 _) Try.underlying145 rfl (by kernel_rfl)) rfl ?_
                exact oned_none HT2.out ⟨0, 0, []⟩ rfl ((((HBA.out _).setCell (by simp) _).setCell (by simp) _).setCell (by simp) _)
              · skip
                have HT2 : Hid (T = none) := Lib.hid (by rw [HT.out]; exact one_long _ _ _ _ _ _)
                go_wp2
                refine bodyPost_ret (results_cell_tmp1 rfl _ _ w.heap.size _ _ _ _ rfl ((((HRW.out.alloc _).set 0 _).set 1 _).set 2 _) Try.underlying145 rfl (by kernel_rfl)) rfl ?_
                exact oned_none HT2.out ⟨3, 0, []⟩ rfl ((((HBA.out _).setCell (by simp) _).setCell (by simp) _).setCell (by simp) _)
              · skip
                have HT2 : Hid (T = none) := Lib.hid (by rw [HT.out]; exact one_long _ _ _ _ _ _)
                go_wp2
                refine bodyPost_ret (results_cell_tmp1 rfl _ _ w.heap.size _ _ _ _ rfl ((((HRW.out.alloc _).set 0 _).set 1 _).set 2 _) Try.underlying145 rfl (by kernel_rfl)) rfl ?_
                exact oned_none HT2.out ⟨4, 0, []⟩ rfl ((((HBA.out _).setCell (by simp) _).setCell (by simp) _).setCell (by simp) _)
              · skip
                have HT2 : Hid (T = none) := Lib.hid (by rw [HT.out]; exact one_long _ _ _ _ _ _)
                go_wp2
                refine bodyPost_ret (results_cell_tmp1 rfl _ _ w.heap.size _ _ _ _ rfl ((((HRW.out.alloc _).set 0 _).set 1 _).set 2 _) Try.underlying145 rfl (by kernel_rfl)) rfl ?_
                exact oned_none HT2.out ⟨5, 0, []⟩ rfl ((((HBA.out _).setCell (by simp) _).setCell (by simp) _).setCell (by simp) _)
              · skip
                have HT2 : Hid (T = none) := Lib.hid (by rw [HT.out]; exact one_long _ _ _ _ _ _)
                go_wp2
                refine bodyPost_ret (results_cell_tmp1 rfl _ _ w.heap.size _ _ _ _ rfl ((((HRW.out.alloc _).set 0 _).set 1 _).set 2 _) Try.underlying145 rfl (by kernel_rfl)) rfl ?_
                exact oned_none HT2.out ⟨6, 0, []⟩ rfl ((((HBA.out _).setCell (by simp) _).setCell (by simp) _).setCell (by simp) _)
              · skip
                have HT2 : Hid (T = none) := Lib.hid (by rw [HT.out]; exact one_long _ _ _ _ _ _)
                go_wp2
                refine bodyPost_ret (results_cell_tmp1 rfl _ _ w.heap.size _ _ _ _ rfl ((((HRW.out.alloc _).set 0 _).set 1 _).set 2 _) Try.underlying145 rfl (by kernel_rfl)) rfl ?_
                exact oned_none HT2.out ⟨0, 0, []⟩ rfl ((((HBA.out _).setCell (by simp) _).setCell (by simp) _).setCell (by simp) _)
              · skip
                have HT2 : Hid (T = none) := Lib.hid (by rw [HT.out]; exact one_long _ _ _ _ _ _)
                go_wp2
                refine bodyPost_ret (results_cell_tmp1 rfl _ _ w.heap.size _ _ _ _ rfl ((((HRW.out.alloc _).set 0 _).set 1 _).set 2 _) Try.underlying145 rfl (by kernel_rfl)) rfl ?_
                exact oned_none HT2.out ⟨0, 0, []⟩ rfl ((((HBA.out _).setCell (by simp) _).setCell (by simp) _).setCell (by simp) _)
              · skip
                have HT2 : Hid (T = none) := Lib.hid (by rw [HT.out]; exact one_long _ _ _ _ _ _)
                go_wp2
                refine bodyPost_ret (results_cell_tmp1 rfl _ _ w.heap.size _ _ _ _ rfl ((((HRW.out.alloc _).set 0 _).set 1 _).set 2 _) Try.underlying145 rfl (by kernel_rfl)) rfl ?_
                exact oned_none HT2.out ⟨9, 0, []⟩ rfl ((((HBA.out _).setCell (by simp) _).setCell (by simp) _).setCell (by simp) _)
              · skip
                have HT2 : Hid (T = none) := Lib.hid (by rw [HT.out]; exact one_long _ _ _ _ _ _)
                go_wp2
                refine bodyPost_ret (results_cell_tmp1 rfl _ _ w.heap.size _ _ _ _ rfl ((((HRW.out.alloc _).set 0 _).set 1 _).set 2 _) Try.underlying145 rfl (by kernel_rfl)) rfl ?_
                exact oned_none HT2.out ⟨0, 0, []⟩ rfl ((((HBA.out _).setCell (by simp) _).setCell (by simp) _).setCell (by simp) _)
              · skip
                have HT2 : Hid (T = none) := Lib.hid (by rw [HT.out]; exact one_long _ _ _ _ _ _)
                go_wp2
                refine bodyPost_ret (results_cell_tmp1 rfl _ _ w.heap.size _ _ _ _ rfl ((((HRW.out.alloc _).set 0 _).set 1 _).set 2 _) Try.underlying145 rfl (by kernel_rfl)) rfl ?_
                exact oned_none HT2.out ⟨11, 0, []⟩ rfl ((((HBA.out _).setCell (by simp) _).setCell (by simp) _).setCell (by simp) _)
          · rw [decide_eq_false hfound] at hse
            have HNO : Hid (∀ j, 1 ≤ j → j < k + 1 → Ac.names.getD j [] ≠ xt) := Lib.hid (fun j h1 h2 => by
              rcases Nat.lt_or_ge j k with h | h
              · exact hno.out j h1 h
              · rw [show j = k from by omega]; exact hfound)
            obtain ⟨N, hN⟩ : ∃ N, Ac.names.getD k [] = N := ⟨_, rfl⟩
            rw [hN] at c1 hse
            clear hfound hnb hno hN
            go_wp2
            go_quiet (fail)
            go_wp2
            go_roundw
            case rel => exact ⟨k + 1, by omega, by omega, by go_num, HNO, _, rfl⟩
            case measure => simp [intOf]; omega
        · obtain rfl : k = 12 := by omega
          have HT2 : Hid (T = none) := Lib.hid (by rw [HT.out]; exact one_nokind (kind_none hno.out))
          have HRW : Hid (Blk (w1.drewN nq) w.heap.size 145 #[.int .i64 0, .int .i64 0, .string ⟨#[]⟩]) := Lib.hid (HR1.out.heap rfl)
          have HBW : Hid (Below w.heap.size w (w1.drewN nq)) := Lib.hid ⟨HB1.out.1, HB1.out.2, HB1.out.3, HB1.out.4, HB1.out.5⟩
          have b0 : (w1.drewN nq).cell? ⟨w.heap.size, 0, none⟩ = some (.int .i64 0) := HRW.out.at 0
          have b1 : (w1.drewN nq).cell? ⟨w.heap.size, 1, none⟩ = some (.int .i64 0) := HRW.out.at 1
          have b2 : (w1.drewN nq).cell? ⟨w.heap.size, 2, none⟩ = some (.string ⟨#[]⟩) := HRW.out.at 2
          have f0 : (w1.drewN nq).frozen? ⟨w.heap.size, 0, none⟩ = false := HRW.out.free 0
          have f1 : (w1.drewN nq).frozen? ⟨w.heap.size, 1, none⟩ = false := HRW.out.free 1
          have f2 : (w1.drewN nq).frozen? ⟨w.heap.size, 2, none⟩ = false := HRW.out.free 2
          go_wp2
          refine bodyPost_ret (results_cell_tmp1 rfl _ _ w.heap.size _ _ _ _ rfl (((HRW.out.set 0 _).set 1 _).set 2 _) Try.underlying145 rfl (by kernel_rfl)) rfl ?_
          exact oned_none HT2.out ⟨0, 0, []⟩ rfl (((HBW.out.setCell (by simp) _).setCell (by simp) _).setCell (by simp) _)
    · have HT2 : Hid (T = none) := Lib.hid HT.out
      go_enter Try.func76, Try.ntmps76
      have hB : Blk (w.alloc (.cells #[.int .i64 0, .int .i64 0, .string ⟨#[]⟩] 145)) w.heap.size 145 #[.int .i64 0, .int .i64 0, .string ⟨#[]⟩] := heap_alloc_new w _
      go_wp2
      refine bodyPost_ret (results_cell_tmp1 rfl _ _ w.heap.size _ _ _ _ rfl (heap_alloc_new w _) Try.underlying145 rfl (by kernel_rfl)) rfl ?_
      exact oned_none HT2.out ⟨0, 0, []⟩ rfl ((Below.refl _ _).alloc (Nat.le_refl _) _)
end Go.Proofs.Ytemliglhippdcaa
