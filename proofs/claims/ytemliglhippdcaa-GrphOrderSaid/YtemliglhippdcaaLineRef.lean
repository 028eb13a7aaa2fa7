/- The document's own answer for lines and words: signs, faults, texts in quotes. -/
import Derived.Test.YtemliglhippdcaaWords
import Derived.Laws.Rows
import Derived.RegionTactic
import Derived.BigQuiet
import Derived.Deep.QuietTactic
namespace Go.Proofs.Ytemliglhippdcaa
set_option maxRecDepth 100000
open Go.ChangeShapes Go.WideShapes Go.ChangeAt Go.RowKit

set_option maxRecDepth 100000 in
set_option maxHeartbeats 2000000 in
theorem refsign_any (x : Nat) (w : World) :
    Calls Try.prog 49 #[.int .u8 x] w fun e w' => e = .returned (.bool (Ln.sign x)) ∧ w = w' := by
  go_enter Try.func49, Try.ntmps49
  rcases Ln.sign_split x with ⟨ho, hc⟩ | ⟨ho, c1, c2, c3, c4, c5⟩
  · rw [ho]
    clear ho
    rcases hc with rfl | rfl | rfl | rfl | rfl
    all_goals
      go_wp2
      go_ret
      exact ⟨rfl, rfl⟩
  · rw [ho]
    have d1 : ((x : Int) == 58) = false := by simp; omega
    have d2 : ((x : Int) == 124) = false := by simp; omega
    have d3 : ((x : Int) == 61) = false := by simp; omega
    have d4 : ((x : Int) == 59) = false := by simp; omega
    have d5 : ((x : Int) == 44) = false := by simp; omega
    clear ho c1 c2 c3 c4 c5
    go_wp2
    go_ret
    exact ⟨rfl, rfl⟩
theorem results_tmp_cell {P : Program} {fn : Func} {t p : Tmp} {ty : TypeId} (h : fn.results = #[.tmp t, .cell p ty]) (tmps : Array Value) (w : World) (g : Nat) (bt : TypeId) (cs : Array Value) (fr : Nat × Nat) (d : TypeDesc)
    (hp : tmps.getD p undef = .pointer (some ⟨g, 0, none⟩)) (hg : w.heap[g]? = some (.cells cs bt fr))
    (hu : P.underlying ty = some d) (hd : (match d with | .struct _ | .array _ _ => true | _ => false) = true) (hi : (P.info? ty).map (·.size) = some cs.size) :
    (results fn tmps).run P w = .ok (.tuple #[tmps.getD t undef, .agg cs]) w := by
  have hp' : tmps[p]?.getD undef = .pointer (some ⟨g, 0, none⟩) := by simpa using hp
  simp [results, h, hp', asAddr, run_loadVar_row w g bt ty cs fr d hg hu hd hi]
theorem results_cell_tmp3 {P : Program} {fn : Func} {t1 t2 t3 p : Tmp} {ty : TypeId} (h : fn.results = #[.cell p ty, .tmp t1, .tmp t2, .tmp t3]) (tmps : Array Value) (w : World) (g : Nat) (bt : TypeId) (cs : Array Value) (fr : Nat × Nat) (d : TypeDesc)
    (hp : tmps.getD p undef = .pointer (some ⟨g, 0, none⟩)) (hg : w.heap[g]? = some (.cells cs bt fr))
    (hu : P.underlying ty = some d) (hd : (match d with | .struct _ | .array _ _ => true | _ => false) = true) (hi : (P.info? ty).map (·.size) = some cs.size) :
    (results fn tmps).run P w = .ok (.tuple #[.agg cs, tmps.getD t1 undef, tmps.getD t2 undef, tmps.getD t3 undef]) w := by
  have hp' : tmps[p]?.getD undef = .pointer (some ⟨g, 0, none⟩) := by simpa using hp
  simp [results, h, hp', asAddr, run_loadVar_row w g bt ty cs fr d hg hu hd hi]
theorem reffault_any (k ln col : Int) (w : World) :
    Calls Try.prog 29 #[.int .i64 k, .int .i64 ln, .int .i64 col] w fun e w' => e = .returned (.agg #[.int .i64 k, .int .i64 ln, .int .i64 col]) ∧ Below w.heap.size w w' := by
  go_enter Try.func29, Try.ntmps29
  go_wp2
  refine bodyPost_ret (results_cell_row rfl _ _ w.heap.size _ _ _ _ (by rfl) (heap_alloc_new w _) Try.underlying28 rfl (by kernel_rfl)) rfl ?_
  exact ⟨rfl, (Below.refl _ _).alloc (Nat.le_refl _) _⟩
/-- What is told of a text in quotes. -/
def QIs (x : Ln.W) (i : Nat) (w : World) : Ln.Tok → Ending → World → Prop
  | .skip _, _, _ => False
  | .word t m _, e, w' => e = .returned (.tuple #[.agg (cellsW { x with text := t, q := true }).toArray, .int .i64 ((i + m : Nat) : Int), .int .i64 0, .int .i64 0]) ∧ Below w.heap.size w w'
  | .bad k o, e, w' => (∃ y : Ln.W, e = .returned (.tuple #[.agg (cellsW y).toArray, .int .i64 0, .int .i64 (k : Int), .int .i64 ((i + o : Nat) : Int)])) ∧ Below w.heap.size w w'
theorem qis_bad {x : Ln.W} {i k o : Nat} {w w' : World} {T : Ln.Tok} {e : Ending} (h : T = .bad k o) (y : Ln.W) (he : e = .returned (.tuple #[.agg (cellsW y).toArray, .int .i64 0, .int .i64 (k : Int), .int .i64 ((i + o : Nat) : Int)])) (hb : Below w.heap.size w w') : QIs x i w T e w' := by
  rw [h]
  exact ⟨⟨y, he⟩, hb⟩
theorem qis_word {x : Ln.W} {i m : Nat} {t : List Nat} {q : Bool} {w w' : World} {T : Ln.Tok} {e : Ending} (h : T = .word t m q) (he : e = .returned (.tuple #[.agg (cellsW { x with text := t, q := true }).toArray, .int .i64 ((i + m : Nat) : Int), .int .i64 0, .int .i64 0])) (hb : Below w.heap.size w w') : QIs x i w T e w' := by
  rw [h]
  exact ⟨he, hb⟩
set_option maxRecDepth 100000 in
set_option maxHeartbeats 4000000 in
theorem refquoted_any (v : Value) (b : List Nat) (i : Nat) (x : Ln.W) (w : World) (hv : Bytes w v b) (hlt : i < b.length) (hb : b.length ≤ 1000000) :
    Calls Try.prog 50 #[v, .int .i64 i, .agg (cellsW x).toArray] w (QIs x i w (Ln.tokq (b.drop (i + 1)))) := by
  have HV := Lib.hid hv
  obtain ⟨hb8, hm, A, c, rfl, hc, hcell⟩ := hv.parts
  obtain ⟨bb, off, rfl, hcell0⟩ := hcell (by omega)
  clear hcell0
  obtain ⟨n, hn⟩ : ∃ n, b.length = n := ⟨_, rfl⟩
  rw [hn] at hlt hb hm hc HV ⊢
  have HN := Lib.hid hn
  have HB8 := Lib.hid (u8_lt hb8)
  obtain ⟨xt, xl, xc, xq⟩ := x
  rw [show (cellsW ⟨xt, xl, xc, xq⟩).toArray = #[.string (str xt), .int .i64 xl, .int .i64 xc, .bool xq] from rfl]
  clear hn hb8 hcell hv hm
  go_enter Try.func50, Try.ntmps50
  go_wp2_with fail
  go_loopw [10, 11] (fun kv bv wr => ∃ k m : Nat, i + 1 ≤ k ∧ k ≤ n ∧ i + 1 ≤ m ∧ m ≤ k ∧ kv = .int .i64 (k : Int) ∧ Hid (∀ y, i + 1 ≤ y → y < k → Ln.inq (b.getD y 0) = true) ∧ Hid (∀ y, i + 1 ≤ y → y < m → Ln.okq (b.getD y 0) = true) ∧
    Hid (m = k ∨ Ln.okq (b.getD m 0) = false) ∧ ((m = k ∧ bv = .int .i64 (-1)) ∨ (m < k ∧ bv = .int .i64 (m : Int))) ∧
    Blk wr w.heap.size 70 #[.string (str xt), .int .i64 xl, .int .i64 xc, .bool xq] ∧ (∃ cs, Blk wr (w.heap.size + 1) 70 cs ∧ cs.size = 4) ∧ Below w.heap.size w wr) (fun kv _ _ => n - (intOf kv).toNat)
  case atStart =>
    exact ⟨i + 1, i + 1, Nat.le_refl _, by omega, Nat.le_refl _, Nat.le_refl _, by go_num, Lib.hid (by omega), Lib.hid (by omega), Lib.hid (.inl rfl), .inl ⟨rfl, rfl⟩, Blk.alloc (heap_alloc_new w _) _, ⟨_, by rw [show w.heap.size + 1 = (w.alloc (.cells #[.string (str xt), .int .i64 xl, .int .i64 xc, .bool xq] 70)).heap.size from by simp]; exact heap_alloc_new _ _, rfl⟩, ((Below.refl _ _).alloc (Nat.le_refl _) _).alloc (by simp) _⟩
  case round =>
    obtain ⟨k, m, h1, h2, h3, h4, rfl, hin, hok, hbad, hbv, hB, ⟨cs, hC, hcs⟩, hbl⟩ := hrel
    have hV := HV.out.under hbl
    obtain ⟨c0, c1, c2, c3, rfl⟩ : ∃ c0 c1 c2 c3, cs = #[c0, c1, c2, c3] := by
      obtain ⟨l⟩ := cs
      rcases l with _ | ⟨c0, _ | ⟨c1, _ | ⟨c2, _ | ⟨c3, _ | ⟨c4, l⟩⟩⟩⟩⟩ <;> simp at hcs
      exact ⟨c0, c1, c2, c3, rfl⟩
    clear hcs
    have g0 : wr.cell? ⟨w.heap.size, 0, none⟩ = some (.string (str xt)) := hB.at 0
    have g1 : wr.cell? ⟨w.heap.size, 1, none⟩ = some (.int .i64 xl) := hB.at 1
    have g2 : wr.cell? ⟨w.heap.size, 2, none⟩ = some (.int .i64 xc) := hB.at 2
    have g3 : wr.cell? ⟨w.heap.size, 3, none⟩ = some (.bool xq) := hB.at 3
    have G : Hid (∀ j, wr.frozen? ⟨w.heap.size, j, none⟩ = false) := Lib.hid hB.free
    have d0 : wr.cell? ⟨w.heap.size + 1, 0, none⟩ = some c0 := hC.at 0
    have d1 : wr.cell? ⟨w.heap.size + 1, 1, none⟩ = some c1 := hC.at 1
    have d2 : wr.cell? ⟨w.heap.size + 1, 2, none⟩ = some c2 := hC.at 2
    have d3 : wr.cell? ⟨w.heap.size + 1, 3, none⟩ = some c3 := hC.at 3
    have f0 := hC.free 0
    have f1 := hC.free 1
    have f2 := hC.free 2
    have f3 := hC.free 3
    by_cases hk : k < n
    · have hkn : (k : Int) < (n : Int) := by omega
      obtain ⟨_, _, A', c', hAe, _, hcell⟩ := hV.parts
      injection hAe with e1 e2 e3
      obtain ⟨b', o', e4, hcl⟩ := hcell (by rw [HN.out]; omega)
      clear hcell
      rw [← e1] at e4
      injection e4 with e4
      injection e4 with e5 e6
      have hck := hcl k (by rw [HN.out]; exact hk)
      rw [← e5, ← e6] at hck
      clear hcl e1 e2 e3 e5 e6
      obtain ⟨z, hz⟩ : ∃ z, b.getD k 0 = z := ⟨_, rfl⟩
      have HZ8 : Hid (z < 256) := Lib.hid (hz ▸ HB8.out k)
      rw [hz] at hck
      have HZ := Lib.hid hz
      clear hz
      by_cases hq : z = 34
      · subst hq
        have hkc : k ≤ c := by omega
        have i1 : (0 : Int) ≤ (i : Int) + 1 := by omega
        have i2 : (i : Int) + 1 ≤ (k : Int) := by omega
        have i3 : (k : Int) ≤ (c : Int) := by omega
        have HQ := Lib.hid (Ln.quote_shut (b := b) (i := i) (k := k) (m := m) h1 (by rw [HN.out]; exact hk) hin.out HZ.out h3 h4 hok.out hbad.out)
        clear hin hok hbad
        have hs := (hV.head h2 hkc).tail (k := i + 1) (d := c - (i + 1)) (A' := some ⟨bb, off + (i + 1), none⟩) h1 (by omega) (fun _ b0 o0 e => by cases e; rfl)
        rw [List.drop_take] at hs
        have hTl : ((b.drop (i + 1)).take (k - (i + 1))).length = k - (i + 1) := by rw [List.length_take, List.length_drop, HN.out]; omega
        obtain ⟨T, hT⟩ : ∃ T, (b.drop (i + 1)).take (k - (i + 1)) = T := ⟨_, rfl⟩
        rw [hT] at hs hTl HQ
        have hcv := run_text hs
        have hsz : (str T).size = k - (i + 1) := by rw [str_size, hTl]
        have gf0 := hB.free 0
        have gf3 := hB.free 3
        have hbs := (hbl.setCell (p := ⟨w.heap.size, 0, none⟩) (by simp) (.string (str T))).setCell (p := ⟨w.heap.size, 3, none⟩) (by simp) (.bool true)
        have hCs : Blk ((wr.setCell ⟨w.heap.size, 0, none⟩ (.string (str T))).setCell ⟨w.heap.size, 3, none⟩ (.bool true)) (w.heap.size + 1) 70 #[c0, c1, c2, c3] := (hC.setOther (by simp) _).setOther (by simp) _
        clear hT hTl hs hV HV
        rcases Nat.lt_or_ge 64 (k - (i + 1)) with hL | hL
        · have hL' : (64 : Int) < ((k - (i + 1) : Nat) : Int) := by omega
          have HQ1 := Lib.hid (HQ.out.trans (if_pos hL))
          clear hL HQ hbv
          go_wp2
          refine bodyPost_ret (results_cell_tmp3 rfl _ _ (w.heap.size + 1) _ _ _ _ rfl ((((hCs.set 0 _).set 1 _).set 2 _).set 3 _) Try.underlying70 rfl (by kernel_rfl)) rfl ?_
          exact qis_bad HQ1.out ⟨T, xl, xc, true⟩ rfl ((((hbs.setCell (by simp) _).setCell (by simp) _).setCell (by simp) _).setCell (by simp) _)
        · have hL' : ¬ (64 : Int) < ((k - (i + 1) : Nat) : Int) := by omega
          have HQ1 := Lib.hid (HQ.out.trans (if_neg (by omega)))
          clear hL HQ
          rcases hbv with ⟨rfl, rfl⟩ | ⟨hmk, rfl⟩
          · have HQ2 := Lib.hid (HQ1.out.trans (if_pos rfl))
            have HE : Hid ((m : Int) + 1 = ((i + (m - (i + 1) + 2) : Nat) : Int)) := Lib.hid (by omega)
            clear HQ1
            go_wp2
            refine bodyPost_ret (results_cell_tmp3 rfl _ _ (w.heap.size + 1) _ _ _ _ rfl ((((hCs.set 0 _).set 1 _).set 2 _).set 3 _) Try.underlying70 rfl (by kernel_rfl)) rfl ?_
            refine qis_word HQ2.out ?_ ((((hbs.setCell (by simp) _).setCell (by simp) _).setCell (by simp) _).setCell (by simp) _)
            rw [← HE.out]
            rfl
          · have HQ2 := Lib.hid (HQ1.out.trans (if_neg (by omega)))
            have HE : Hid ((m : Int) = ((i + (m - i) : Nat) : Int)) := Lib.hid (by omega)
            have hm0 : (0 : Int) ≤ (m : Int) := by omega
            clear HQ1
            go_wp2
            refine bodyPost_ret (results_cell_tmp3 rfl _ _ (w.heap.size + 1) _ _ _ _ rfl ((((hCs.set 0 _).set 1 _).set 2 _).set 3 _) Try.underlying70 rfl (by kernel_rfl)) rfl ?_
            refine qis_bad HQ2.out ⟨T, xl, xc, true⟩ ?_ ((((hbs.setCell (by simp) _).setCell (by simp) _).setCell (by simp) _).setCell (by simp) _)
            rw [← HE.out]
            rfl
      · by_cases hq2 : z = 10
        · subst hq2
          have HQ := Lib.hid (Ln.quote_open (b := b) (i := i) (k := k) h1 (by rw [HN.out]; exact h2) hin.out (.inr HZ.out))
          clear hbv hin hok hbad
          go_wp2
          refine bodyPost_ret (results_cell_tmp3 rfl _ _ (w.heap.size + 1) _ _ _ _ rfl ((((hC.set 0 _).set 1 _).set 2 _).set 3 _) Try.underlying70 rfl (by kernel_rfl)) rfl ?_
          exact qis_bad HQ.out ⟨xt, xl, xc, xq⟩ rfl ((((hbl.setCell (by simp) _).setCell (by simp) _).setCell (by simp) _).setCell (by simp) _)
        · have HIN : Hid (∀ y, i + 1 ≤ y → y < k + 1 → Ln.inq (b.getD y 0) = true) := Lib.hid fun y h5 h6 => by
            rcases Nat.lt_or_ge y k with h7 | h7
            · exact hin.out y h5 h7
            · rw [show y = k from by omega, HZ.out]
              simp [Ln.inq, hq, hq2]
          have hz1 : ((z : Int) != 34) = true := by simp; omega
          have hz2 : ((z : Int) != 10) = true := by simp; omega
          clear hin hq hq2
          rcases hbv with ⟨rfl, rfl⟩ | ⟨hmk, rfl⟩
          · have hz3 : (z : Int) < 32 ∨ ((32 : Int) ≤ (z : Int) ∧ (126 : Int) < (z : Int)) ∨ ((32 : Int) ≤ (z : Int) ∧ (z : Int) ≤ 126) := by omega
            have HO1 : Hid (z < 32 ∨ 126 < z → Ln.okq (b.getD m 0) = false) := Lib.hid fun h => by
              rw [HZ.out]
              rcases h with h | h
              · simp [Ln.okq]; omega
              · simp [Ln.okq]; omega
            have HO2 : Hid (32 ≤ z → z ≤ 126 → ∀ y, i + 1 ≤ y → y < m + 1 → Ln.okq (b.getD y 0) = true) := Lib.hid fun ha hb' y h5 h6 => by
              rcases Nat.lt_or_ge y m with h7 | h7
              · exact hok.out y h5 h7
              · rw [show y = m from by omega, HZ.out]
                simp [Ln.okq, ha, hb']
            rcases hz3 with a1 | ⟨a1, a2⟩ | ⟨a1, a2⟩
            · have HO3 := Lib.hid (HO1.out (.inl (by omega)))
              go_wp2
              go_roundw
              case rel => exact ⟨m + 1, m, by omega, by omega, h3, by omega, by go_num, HIN, hok, Lib.hid (.inr HO3.out), .inr ⟨by omega, rfl⟩, hB, ⟨_, hC, rfl⟩, hbl⟩
              case measure => simp [intOf]; omega
            · have HO3 := Lib.hid (HO1.out (.inr (by omega)))
              go_wp2
              go_roundw
              case rel => exact ⟨m + 1, m, by omega, by omega, h3, by omega, by go_num, HIN, hok, Lib.hid (.inr HO3.out), .inr ⟨by omega, rfl⟩, hB, ⟨_, hC, rfl⟩, hbl⟩
              case measure => simp [intOf]; omega
            · have HO3 := Lib.hid (HO2.out (by omega) (by omega))
              go_wp2
              go_roundw
              case rel => exact ⟨m + 1, m + 1, by omega, by omega, by omega, by omega, by go_num, HIN, HO3, Lib.hid (.inl rfl), .inl ⟨rfl, rfl⟩, hB, ⟨_, hC, rfl⟩, hbl⟩
              case measure => simp [intOf]; omega
          · have hm0 : ¬ (m : Int) < 0 := by omega
            go_wp2
            go_roundw
            case rel => exact ⟨k + 1, m, by omega, by omega, h3, by omega, by go_num, HIN, hok, hbad.out.elim (fun h => absurd h (by omega)) (fun h => Lib.hid (.inr h)), .inr ⟨by omega, rfl⟩, hB, ⟨_, hC, rfl⟩, hbl⟩
            case measure => simp [intOf]; omega
    · obtain rfl : k = n := by omega
      have HQ := Lib.hid (Ln.quote_open (b := b) (i := i) (k := k) h1 (by rw [HN.out]; exact h2) hin.out (.inl HN.out.symm))
      clear hbv hin hok hbad
      go_wp2
      refine bodyPost_ret (results_cell_tmp3 rfl _ _ (w.heap.size + 1) _ _ _ _ rfl ((((hC.set 0 _).set 1 _).set 2 _).set 3 _) Try.underlying70 rfl (by kernel_rfl)) rfl ?_
      exact qis_bad HQ.out ⟨xt, xl, xc, xq⟩ rfl ((((hbl.setCell (by simp) _).setCell (by simp) _).setCell (by simp) _).setCell (by simp) _)
end Go.Proofs.Ytemliglhippdcaa
