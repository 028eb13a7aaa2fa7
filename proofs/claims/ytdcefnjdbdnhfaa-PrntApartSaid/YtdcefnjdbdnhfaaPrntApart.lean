/- PrntApart: two things have one print just if they are made by one action of the same inputs; what has one print has one value. -/
import Derived.Test.YtdcefnjdbdnhfaaPrntCheck
import Derived.Test.YtdcefnjdbdnhfaaActFOk
import Derived.Deep.RegionHeld3
import Derived.Deep.AppendLies
namespace Go.Proofs.Ytdcefnjdbdnhfaa
set_option maxRecDepth 100000
open Go.ChangeShapes Go.WideShapes Go.ChangeAt Go.RowKit

/-- A row of slices of the call's own, whose bytes lie in elder memory. -/
def cellsAt (w : World) (b off n : Nat) : List Value := (List.range n).map fun i => (w.cell? ⟨b, off + i, none⟩).getD undef
theorem run_append_outer {w : World} {base b off n c : Nat} {ty : TypeId} {v : Value} {L : List (List Nat)} (hown : w.ownsRow base 23 1 v 0 []) (h : Rows2 w (.slice (some ⟨b, off, none⟩) n c) L) (h0 : 0 < n) (hn : n ≤ 1000) (hbase : base ≤ w.heap.size) :
    ∃ v' w', (Builtin.append_ #[22, 22] ty #[v, .slice (some ⟨b, off, none⟩) n c]).run Try.prog w = .ok v' w' ∧ w'.ownsRow base 23 1 v' n (cellsAt w b off n) ∧ w.grownBy w' v.ownBlock := by
  obtain ⟨i, hi, hz0, hz1, hz2⟩ := info_parts infoBytes
  have hlen : (cellsAt w b off n).length = n := by unfold cellsAt; rw [List.length_map, List.length_range]
  have hcell : ∀ j, j < n → ∃ A m d, w.cell? ⟨b, off + j, none⟩ = some (.slice A m d) := fun j hj => by
    obtain ⟨b', off', u, e, hc, hb⟩ := h.at hj
    injection e with e
    injection e with e1 e2
    subst e1 e2
    obtain ⟨_, _, A, d, rfl, _, _⟩ := hb.parts
    exact ⟨A, _, d, hc⟩
  have hat : ∀ j u, (cellsAt w b off n)[j]? = some u → j < n ∧ w.cell? ⟨b, off + j, none⟩ = some u := fun j u hu => by
    unfold cellsAt at hu
    rw [List.getElem?_map] at hu
    by_cases hj : j < n
    · rw [List.getElem?_range hj] at hu
      obtain ⟨A, m, d, hc⟩ := hcell j hj
      simp [hc] at hu
      exact ⟨hj, by rw [hc, hu]⟩
    · rw [List.getElem?_eq_none (by rw [List.length_range]; omega)] at hu
      cases hu
  obtain ⟨v', w', hr, ho, hg, _, _⟩ := run_append_own_at (P := Try.prog) w base 22 ty 23 i (.slice none 0 0) 1 24 Try.underlying22 hi hz0 hz1 hz2 rfl (by decide) v 0 [] hown ⟨b, off, none⟩ n c (cellsAt w b off n) (by rw [hlen]; simp)
    (fun j x hx => by
      rw [add_plain]
      exact (hat j x hx).2) (fun x hx => by
      obtain ⟨j, hj, rfl⟩ := List.getElem_of_mem hx
      obtain ⟨hj', hc⟩ := hat j _ (List.getElem?_eq_getElem hj)
      obtain ⟨A, m, d, hc'⟩ := hcell j hj'
      rw [hc'] at hc
      injection hc with hc
      rw [← hc]
      rfl) (by unfold maxLen; omega) (by omega) hbase
  exact ⟨v', w', hr, by simpa using ho, hg⟩
theorem wpList_append_outer {w : World} {ops : Array Oper} {rest : List Oper} {o : Oper} {a : Act} {Q : Exit → Act → World → Prop} (hgd : o.guard = none) (s x : Operand)
    (ho : o.op = .call { callee := .builtin .append, args := #[s, x], argTypes := #[22, 22] }) (base : Nat) (v : Value) (b off n c : Nat) (L : List (List Nat)) (hs : a.eval s = v) (hown : w.ownsRow base 23 1 v 0 [])
    (hx : a.eval x = .slice (some ⟨b, off, none⟩) n c) (hr : Rows2 w (.slice (some ⟨b, off, none⟩) n c) L) (h0 : 0 < n) (hn : n ≤ 1000) (hbase : base ≤ w.heap.size)
    (h : ∀ v' w', w'.ownsRow base 23 1 v' n (cellsAt w b off n) → Below base w w' → wpList Try.prog ops Q rest (a.put o.dst v') w') : wpList Try.prog ops Q (o :: rest) a w := by
  obtain ⟨v', w', hrun, h2, h3⟩ := run_append_outer (ty := o.type) hown hr h0 hn hbase
  refine wpList_plain hgd fun K hK => ?_
  unfold Oper.wp execOp
  simp only [ho, resolve, invoke, builtin, Sem.run_bind, Sem.run_pure, Result.andThen_ok, List.map_toArray, List.map_cons, List.map_nil, hs, hx, hrun]
  exact hK _ _ (h v' w' h2 ((Below.refl _ _).grown h3 hbase fun k hk => (World.ownsRow.lt hown k hk).1))
theorem pown_heap {w W : World} {base : Nat} {v : Value} {l : List Nat} (h : Own w base v l) (e : W.heap = w.heap) : Own W base v l := by
  unfold Own World.ownsRow at *
  rw [e]
  exact h
/-- The row, one of its places put anew. -/
theorem rows2_put {w wE w12 w14 : World} {g c k p b off ci : Nat} {J : List (List Nat)} {v14 : Value} {Z : List Nat} (hrow : w12.ownsRow w.heap.size 23 1 (.slice (some ⟨g, 0, none⟩) k c) k (cellsAt wE b off k)) (hJ : Rows2 w (.slice (some ⟨b, off, none⟩) k ci) J)
    (hE : Below w.heap.size w wE) (h12 : Below w.heap.size w w12) (h14 : Below w12.heap.size w12 w14) (hv : Own w14 w12.heap.size v14 Z) (hk : k ≤ 8) (hkc : k ≤ c) (hg : w.heap.size ≤ g) (hgl : g < w12.heap.size) : Rows2 (w14.setCell ⟨g, p, none⟩ v14) (.slice (some ⟨g, 0, none⟩) k c) (J.set p Z) ∧ Below w.heap.size w (w14.setCell ⟨g, p, none⟩ v14) := by
  have hb15 : Below w.heap.size w (w14.setCell ⟨g, p, none⟩ v14) := (h12.trans (h14.mono h12.size)).setCell (p := ⟨g, p, none⟩) hg _
  have hl : J.length = k := hJ.len
  refine ⟨⟨by rw [List.length_set, hl]; omega, _, c, by rw [List.length_set, hl], by rw [List.length_set, hl]; exact hkc, fun _ => ⟨g, 0, rfl, fun i hi => ?_⟩⟩, hb15⟩
  rw [List.length_set, hl] at hi
  rw [Nat.zero_add]
  obtain ⟨b', off', u, e, hcu, hbu⟩ := hJ.at hi
  injection e with e
  injection e with e1 e2
  subst e1 e2
  have hcE : wE.cell? ⟨b, off + i, none⟩ = some u := cell_later hE hcu
  have hc12 : w12.cell? ⟨g, i, none⟩ = some u := by
    have := hrow.cellAt i (by omega)
    rw [this]
    unfold cellsAt
    rw [List.getElem?_map, List.getElem?_range hi]
    simp [hcE]
  have hc14 : w14.cell? ⟨g, i, none⟩ = some u := cell_later h14 hc12
  by_cases hip : i = p
  · subst hip
    refine ⟨v14, World.cell?_setCell_same _ _ _ hc14, ?_⟩
    have : (J.set i Z).getD i [] = Z := by rw [List.getD_eq_getElem?_getD, List.getElem?_set_self (by omega)]; rfl
    rw [this]
    exact hv.bytes.setCell (fun e => by
      have h := (hv.lt _ e).1
      change w12.heap.size ≤ g at h
      omega) _
  · have hne : (⟨g, p, none⟩ : Addr) ≠ ⟨g, i, none⟩ := fun e => by injection e with _ e; omega
    refine ⟨u, by rw [World.cell?_setCell_other _ _ _ _ hne]; exact hc14, ?_⟩
    have : (J.set p Z).getD i [] = J.getD i [] := by rw [List.getD_eq_getElem?_getD, List.getD_eq_getElem?_getD, List.getElem?_set_ne (by omega)]
    rw [this]
    exact hbu.under hb15
/-- The row's own slice. -/
theorem outer_parts {w : World} {base n : Nat} {v : Value} {us : List Value} (h : w.ownsRow base 23 1 v n us) (h0 : 0 < n) : ∃ g c, v = .slice (some ⟨g, 0, none⟩) n c ∧ n ≤ c ∧ base ≤ g ∧ g < w.heap.size ∧ ∀ i, i < n → (∃ y, w.cell? ⟨g, i, none⟩ = some y) ∧ w.frozen? ⟨g, i, none⟩ = false := by
  have h' := h
  rcases h.2 with ⟨_, e⟩ | ⟨g, cap, cur, rfl, hb, hg, hn, hm, hs, ht⟩
  · omega
  · refine ⟨g, cap, rfl, hn, hb, (Array.getElem?_eq_some_iff.1 hg).1, fun i hi => ⟨⟨cur[i]'(by omega), ?_⟩, ?_⟩⟩
    · rw [cell_of_row w g i cur _ _ hg]
      exact Array.getElem?_eq_getElem _
    · simp [World.frozen?, hg]
theorem few_set {J : List (List Nat)} (h : Pr.few J = true) {k : Nat} {z : List Nat} (hz : z.length ≤ 256) : Pr.few (J.set k z) = true := by
  obtain ⟨h8, hx⟩ := pfew_all h
  unfold Pr.few
  rw [List.length_set, decide_eq_true h8, Bool.true_and, List.all_eq_true]
  intro x hxm
  rcases List.mem_or_eq_of_mem_set hxm with hxm | rfl
  · exact decide_eq_true (hx x hxm)
  · exact decide_eq_true hz
/-- A print that is the same is of the same things. -/
theorem print_same {L K : List Ac.D} {I J : List (List Nat)} (hL : Ac.ok L = true) (hK : Ac.ok K = true) (hI : Pr.few I = true) (hJ : Pr.few J = true) :
    decide (Pr.print (Ac.bytes L) I = Pr.print (Ac.bytes K) J) = (decide (L = K) && decide (I = J)) := by
  by_cases h : L = K ∧ I = J
  · obtain ⟨rfl, rfl⟩ := h
    rw [decide_eq_true rfl, decide_eq_true rfl, decide_eq_true rfl]
    rfl
  · have h2 : ¬ Pr.print (Ac.bytes L) I = Pr.print (Ac.bytes K) J := fun e => h (Pr.print_inj hL hK hI hJ (fun x hx => by have := (pfew_all hI).2 x hx; omega) (fun x hx => by have := (pfew_all hJ).2 x hx; omega) e)
    rw [decide_eq_false h2]
    by_cases h1 : L = K
    · rw [decide_eq_false (fun e => h ⟨h1, e⟩), Bool.and_false]
    · rw [decide_eq_false h1, Bool.false_and]
theorem print_lt {M : List Nat} {I : List (List Nat)} (hM : ∀ c ∈ M, c < 256) (hI : ∀ x ∈ I, ∀ c ∈ x, c < 256) : ∀ c ∈ Pr.print M I, c < 256 := by
  intro c hc
  unfold Pr.print Pr.lb at hc
  rw [List.mem_append, List.mem_append, List.mem_append] at hc
  rcases hc with (h | h) | h | h
  · exact Cd.enc_lt _ c h
  · exact hM c h
  · exact Cd.enc_lt _ c h
  · obtain ⟨x, hx, hcx⟩ := List.mem_flatMap.1 h
    rw [List.mem_append] at hcx
    rcases hcx with h | h
    · exact Cd.enc_lt _ c h
    · exact hI x hx c h
set_option maxRecDepth 100000 in
set_option maxHeartbeats 16000000 in
theorem papart_any (v0 v1 v2 : Value) (zs ms : List Int) (I : List (List Nat)) (a3 : Int) (same : Bool) (w : World) (h0 : Ints w v0 zs) (h1 : Ints w v1 ms) (h2 : Rows2 w v2 I) :
    Calls Try.prog 6 #[v0, v1, v2, .int .i64 a3, .bool same] w fun e w' => e = .returned (.bool true) ∧ Below w.heap.size w w' := by
  have H0 := Lib.hid h0
  have H1 := Lib.hid h1
  obtain ⟨A, c, rfl, hc⟩ := rows2_byte h2
  obtain ⟨N, hN⟩ : ∃ n, I.length = n := ⟨_, rfl⟩
  rw [hN] at h2 hc ⊢
  have H2 := Lib.hid h2
  clear h0 h1 h2 hN
  go_enter Try.func6, Try.ntmps6
  go_upto_if 28 with fail
  go_cut [2] (fun q wx => w = wx ∧ ∃ n J, q = .slice A n c ∧ n ≤ 8 ∧ n ≤ c ∧ Hid (J.length = n) ∧ Hid (Rows2 w (.slice A n c) J))
  case first =>
    by_cases h8 : 8 < N
    · have h8I : (8 : Int) < (N : Int) := by omega
      have hc8 : 8 ≤ c := by omega
      go_wp2_with fail
      all_goals go_meet
      exact ⟨rfl, 8, I.take 8, rfl, by omega, by omega, Lib.hid (Rows2.len (H2.out.take (by omega))), Lib.hid (H2.out.take (by omega))⟩
    · have h8I : ¬ (8 : Int) < (N : Int) := by omega
      go_wp2_with fail
      all_goals go_meet
      exact ⟨rfl, N, I, rfl, by omega, hc, Lib.hid H2.out.len, H2⟩
  case rest =>
    obtain ⟨rfl, n, J, rfl, hn8, hnc, HN, HJ⟩ := hcut
    clear hc H2
    go_wp2_with fail
    go_loopg [33, 11] n (fun g iv _ wr => ∃ k : Nat, k ≤ n ∧ n - k ≤ g ∧ iv = .int .i64 (k : Int) ∧ Hid (∀ j, j < k → (J.getD j []).length ≤ 256) ∧ Hid (w = wr))
    case atStart => exact ⟨0, Nat.zero_le _, by omega, rfl, Lib.hid (fun j hj => absurd hj (by omega)), Lib.hid rfl⟩
    case round =>
      obtain ⟨k, hk, hg, rfl, hall, hw⟩ := hrel
      obtain rfl := hw.out
      clear hw
      by_cases hlt : k < n
      · have hkI : (k : Int) < (n : Int) := by omega
        obtain ⟨b, off, u, rfl, hcu, hbu⟩ := HJ.out.at hlt
        obtain ⟨_, hmu, Au, cu, rfl, hcu2, _⟩ := hbu.parts
        obtain ⟨x, hx⟩ : ∃ x, J.getD k [] = x := ⟨_, rfl⟩
        have HX := Lib.hid hx
        rw [hx] at hcu hbu hmu hcu2
        obtain ⟨q, hq⟩ : ∃ q, x.length = q := ⟨_, rfl⟩
        have HQ := Lib.hid hq
        rw [hq] at hcu hmu hcu2
        clear hbu hx hq
        by_cases hbig : 256 < q
        · have hbI : (256 : Int) < (q : Int) := by omega
          go_wp2_with fail
          refine (pawake_any _).mono ?_
          rintro e w2 ⟨rfl, hb2⟩
          go_wp2
          go_ret
          exact ⟨rfl, hb2⟩
        · have hbI : ¬ (256 : Int) < (q : Int) := by omega
          have HAL : Hid (∀ j, j < k + 1 → (J.getD j []).length ≤ 256) := Lib.hid (fun j hj => by
            rcases Nat.lt_or_ge j k with h | h
            · exact hall.out j h
            · obtain rfl : j = k := by omega
              rw [HX.out, HQ.out]; omega)
          go_wp2
          go_roundg (n - (k + 1))
          case measure => omega
          case rel => exact ⟨k + 1, hlt, by omega, by go_num, HAL, Lib.hid rfl⟩
      · obtain rfl : k = n := by omega
        have HF : Hid (Pr.few J = true) := Lib.hid (pfew_of (by rw [HN.out]; exact hn8) (by rw [HN.out]; exact hall.out))
        clear hlt hg hall
        go_upto_region 10 with fail
        go_cut [51] (fun q wx => q = .bool (!same && decide (0 < k)) ∧ w = wx)
        case first =>
          rcases same with _ | _
          · rcases Nat.eq_zero_or_pos k with h0 | h0
            · have hkz : decide ((0 : Int) < (k : Int)) = false := decide_eq_false (by omega)
              have hkz2 : decide (0 < k) = false := decide_eq_false (by omega)
              have HK2 := Lib.hid hkz2
              go_wp2_with fail
              go_meet
              exact ⟨by rw [HK2.out]; rfl, rfl⟩
            · have hkz : decide ((0 : Int) < (k : Int)) = true := decide_eq_true (by omega)
              have hkz2 : decide (0 < k) = true := decide_eq_true (by omega)
              have HK2 := Lib.hid hkz2
              go_wp2_with fail
              go_meet
              exact ⟨by rw [HK2.out]; rfl, rfl⟩
          · go_wp2_with fail
            all_goals go_meet
            exact ⟨rfl, rfl⟩
        case rest =>
        obtain ⟨rfl, rfl⟩ := hcut
        obtain ⟨B, hB⟩ : ∃ B, (!same && decide (0 < k)) = B := ⟨_, rfl⟩
        rw [hB]
        have HBB := Lib.hid hB
        clear hB
        go_upto_if 51 with fail
        go_cut [12] (fun q wx => ∃ X, Hid (Rows2 wx q X) ∧ Hid (Pr.few X = true) ∧ Hid (Below w.heap.size w wx))
        case first =>
          rcases B with _ | _
          · go_wp2_with fail
            all_goals go_meet
            exact ⟨J, HJ, HF, Lib.hid (Below.refl _ _)⟩
          · have hk0 : 0 < k := by
              have := HBB.out
              rw [Bool.and_eq_true, decide_eq_true_eq] at this
              exact this.2
            clear HBB
            obtain ⟨m, hm, hm1⟩ := and_low a3 255 (by decide)
            change bits .and .i64 a3 255 = (m : Int) at hm
            obtain ⟨p, hp, hp1⟩ : ∃ p : Nat, (bits .and .i64 a3 255).tmod (k : Int) = (p : Int) ∧ p < k := ⟨m % k, by rw [hm, Int.tmod_eq_emod_of_nonneg (by omega)]; omega, Nat.mod_lt _ hk0⟩
            have hnz : ((k : Int) == 0) = false := by simp; omega
            have hkne : (k : Int) ≠ 0 := by omega
            have hpI : (p : Int) < (k : Int) := by omega
            have hp0 : (0 : Int) ≤ (p : Int) := by omega
            obtain ⟨bb, off, u, rfl, hcu, hbu⟩ := HJ.out.at hp1
            have HCU := Lib.hid hcu
            have HBU := Lib.hid hbu
            obtain ⟨x, hx⟩ : ∃ x, J.getD p [] = x := ⟨_, rfl⟩
            rw [hx] at HBU
            have hx' := hx
            have ba : Below w.heap.size w (w.alloc (.cells #[] 23)) := (Below.refl _ _).alloc (Nat.le_refl _) _
            have HE : Hid ((w.alloc (.cells #[] 23)).ownsRow w.heap.size 23 1 (.slice (some ⟨w.heap.size, 0, none⟩) 0 0) 0 []) := Lib.hid (World.ownsRow_made w #[] 0 (Nat.le_refl _) (by unfold maxLen; omega) (by simp))
            have HBA := Lib.hid ba
            clear hm hcu hbu hx ba
            go_upto_region 12 with fail
            go_wp2_with (at_builtin; refine wpList_append_outer rfl _ _ rfl w.heap.size _ bb off k c J rfl HE.out rfl (HJ.out.under HBA.out) hk0 (by omega) HBA.out.size ?_)
            rintro v12 w12 ho12 hb12
            obtain ⟨g12, c12, rfl, hkc12, hg12, hgl12, hcells⟩ := outer_parts ho12 hk0
            obtain ⟨⟨y12, hy12⟩, hfz12⟩ := hcells p hp1
            have hb12w : Below w.heap.size w w12 := HBA.out.trans hb12
            have hcu12 := cell_later hb12w HCU.out
            obtain ⟨_, _, Au, cu, rfl, hcu2, _⟩ := HBU.out.parts
            have HXL : Hid (x.length ≤ 256) := Lib.hid (by
              rw [← hx', List.getD_eq_getElem?_getD, List.getElem?_eq_getElem (by rw [HN.out]; exact hp1)]
              exact (pfew_all HF.out).2 _ (List.getElem_mem _))
            obtain ⟨q, hq⟩ : ∃ q, x.length = q := ⟨_, rfl⟩
            have HQ := Lib.hid hq
            rw [hq] at HBU hcu2 hcu12 HXL HCU
            obtain ⟨r, hr⟩ : ∃ r, min q 255 = r := ⟨_, rfl⟩
            have hrI : min (q : Int) 255 = (r : Int) := by omega
            have hrq : r ≤ q := by omega
            have x1 := fun (W : World) ts t => run_low (P := Try.prog) W ts t (q : Int) 255 (r : Int) hrI
            have hr0 : (0 : Int) ≤ (r : Int) := by omega
            have hrc : (r : Int) ≤ (cu : Int) := by omega
            have hpk : (p : Int) < (k : Int) := hpI
            obtain ⟨z, hz⟩ : ∃ z : Nat, a3 / 256 % 256 = (z : Int) := ⟨(a3 / 256 % 256).toNat, by omega⟩
            have hz256 : z < 256 := by omega
            have HX12 : Hid (Bytes w12 (.slice Au q cu) x) := Lib.hid (HBU.out.under hb12w)
            have HXH : Hid (∀ W, Below w12.heap.size w12 W → Bytes W (.slice Au r cu) (x.take r)) := Lib.hid (fun W hb => (HX12.out.under hb).head hrq (by omega))
            have HLR : Hid ((x.take r).length = r ∧ r ≤ 255) := Lib.hid ⟨by rw [List.length_take, HQ.out]; omega, by omega⟩
            have HK : Hid (∀ W, Below w12.heap.size w12 W → W.cell? ⟨bb, off + p, none⟩ = some (.slice Au q cu) ∧ W.cell? ⟨g12, p, none⟩ = some y12 ∧ W.frozen? ⟨g12, p, none⟩ = false) := Lib.hid (fun W hb => ⟨cell_later hb hcu12, cell_later hb hy12, by rw [World.frozen?_of_block (w := w12) (hb.block g12 hgl12)]; exact hfz12⟩)
            have hbg : bb < w.heap.size := World.block_lt_of_cell? _ _ HCU.out
            have HSK : Hid (∀ (W : World) (y : Value), W.cell? ⟨bb, off + p, none⟩ = some (.slice Au q cu) → (W.setCell ⟨g12, p, none⟩ y).cell? ⟨bb, off + p, none⟩ = some (.slice Au q cu)) := Lib.hid (fun W y h => by
              rw [World.cell?_setCell_other _ _ _ _ (fun e => by injection e with e; omega)]
              exact h)
            have HPUT : Hid (∀ (W : World) (v14 : Value), Below w12.heap.size w12 W → Own W w12.heap.size v14 (x.take r ++ [z]) → Rows2 (W.setCell ⟨g12, p, none⟩ v14) (.slice (some ⟨g12, 0, none⟩) k c12) (J.set p (x.take r ++ [z])) ∧ Below w.heap.size w (W.setCell ⟨g12, p, none⟩ v14)) := Lib.hid (fun W v14 hb hv => rows2_put ho12 HJ.out HBA.out hb12w hb hv hn8 hkc12 hg12 hgl12)
            have HFS : Hid (Pr.few (J.set p (x.take r ++ [z])) = true) := Lib.hid (few_set HF.out (by rw [List.length_append, HLR.out.1]; have := HLR.out.2; simp; omega))
            have bE : Below w12.heap.size w12 (w12.alloc (.cells #[] 5)) := (Below.refl _ _).alloc (Nat.le_refl _) _
            have bEB : ∀ o : Obj, Below w12.heap.size w12 ((w12.alloc (.cells #[] 5)).alloc o) := fun o => bE.alloc bE.size _
            have bBE : ∀ o : Obj, Below w12.heap.size w12 ((w12.alloc o).alloc (.cells #[] 5)) := fun o => ((Below.refl _ _).alloc (Nat.le_refl _) _).alloc (by simp) _
            have HBE := Lib.hid bE
            have HBEB := Lib.hid bEB
            have HBBE := Lib.hid bBE
            have HE1 : Hid (Own (w12.alloc (.cells #[] 5)) w12.heap.size (.slice (some ⟨w12.heap.size, 0, none⟩) 0 0) []) := Lib.hid (own_empty w12 w12.heap.size 0 #[] (Nat.le_refl _) (by unfold maxLen; omega) rfl)
            have HE3 : Hid (∀ o : Obj, Own ((w12.alloc o).alloc (.cells #[] 5)) w12.heap.size (.slice (some ⟨w12.heap.size + 1, 0, none⟩) 0 0) []) := Lib.hid (fun o => by
              have := own_empty (w12.alloc o) w12.heap.size 0 #[] (by simp) (by unfold maxLen; omega) rfl
              rwa [show (w12.alloc o).heap.size = w12.heap.size + 1 from by simp] at this)
            obtain ⟨nz, hnz'⟩ : ∃ nz, (x.take r ++ [z]).length = nz := ⟨_, rfl⟩
            have HLZ := Lib.hid hnz'
            clear hnz'
            have HZE := Lib.hid hz
            have HZL := Lib.hid hz256
            have HZ1 : Hid (∀ w13, ((w12.alloc (.cells #[] 5)).alloc (.cells #[.int .u8 (a3 / 256 % 256)] 5)).drew.grownBy w13 (Value.slice (some ⟨w12.heap.size, 0, none⟩) 0 0).ownBlock → Bytes w13 (.slice (some ⟨w12.heap.size + 1, 0, none⟩) 1 1) [z]) := Lib.hid (fun w13 hg => by
              have h1 := bytes_one (w12.alloc (.cells #[] 5)) (a3 / 256 % 256) z 5 (0, 0) HZE.out HZL.out
              rw [show (w12.alloc (.cells #[] 5)).heap.size = w12.heap.size + 1 from by simp] at h1
              exact (h1.heap (W := ((w12.alloc (.cells #[] 5)).alloc (.cells #[.int .u8 (a3 / 256 % 256)] 5)).drew) rfl).grown hg (.inr (by simp [Value.ownBlock])))
            have HZ2 : Hid (∀ w13, ((w12.alloc (.cells #[.int .u8 (a3 / 256 % 256)] 5)).alloc (.cells #[] 5)).drew.grownBy w13 (Value.slice (some ⟨w12.heap.size + 1, 0, none⟩) 0 0).ownBlock → Bytes w13 (.slice (some ⟨w12.heap.size, 0, none⟩) 1 1) [z]) := Lib.hid (fun w13 hg => by
              have h1 := (bytes_one w12 (a3 / 256 % 256) z 5 (0, 0) HZE.out HZL.out).alloc (.cells #[] 5)
              exact (h1.heap (W := ((w12.alloc (.cells #[.int .u8 (a3 / 256 % 256)] 5)).alloc (.cells #[] 5)).drew) rfl).grown hg (.inr (by simp [Value.ownBlock])))
            obtain ⟨k0, k1, k2⟩ := HK.out w12 (Below.refl _ _)
            clear bE bEB bBE hcells ho12 hb12 hb12w hq hr hrI hx' hbg hcu12 hy12 hfz12
            go_upto_region 13 with fail
            go_region_held3 (fun w' => w'.cell? ⟨bb, off + p, none⟩ = some (Value.slice Au q cu)) (first | exact k0 | exact k3 | exact k4 | exact HSK.out _ _ k4 | go_keep) (first
              | (refine step_append_bytes rfl (.tmp 62) (.tmp 73) rfl w12.heap.size (.slice (some ⟨w12.heap.size, 0, none⟩) 0 0) (.slice Au r cu) [] (x.take r) rfl (pown_heap HE1.out rfl) rfl ((HXH.out _ HBE.out).heap rfl) (by have := HLR.out; simp; omega) HBE.out.size (x.take r) rfl ?_; rintro v13 w13 ⟨ho13, hg13, -, hb13⟩; have hbn : Below w12.heap.size w12 w13 := ⟨hb13.os, hb13.tape, hb13.output, Nat.le_trans HBE.out.size hb13.size, fun j hj => (hb13.block j hj).trans (HBE.out.block j hj)⟩; obtain ⟨k3, k3b, k3c⟩ := HK.out w13 hbn)
              | (refine step_append_bytes rfl (.tmp 62) (.tmp 73) rfl w12.heap.size (.slice (some ⟨w12.heap.size, 0, none⟩) 0 0) (.slice Au r cu) [] (x.take r) rfl (pown_heap (HE1.out.alloc (.cells #[.int .u8 (a3 / 256 % 256)] 5)) rfl) rfl ((HXH.out _ (HBEB.out (.cells #[.int .u8 (a3 / 256 % 256)] 5))).heap rfl) (by have := HLR.out; simp; omega) (HBEB.out (.cells #[.int .u8 (a3 / 256 % 256)] 5)).size (x.take r) rfl ?_; rintro v13 w13 ⟨ho13, hg13, -, hb13⟩; have hbn : Below w12.heap.size w12 w13 := ⟨hb13.os, hb13.tape, hb13.output, Nat.le_trans (HBEB.out (.cells #[.int .u8 (a3 / 256 % 256)] 5)).size hb13.size, fun j hj => (hb13.block j hj).trans ((HBEB.out (.cells #[.int .u8 (a3 / 256 % 256)] 5)).block j hj)⟩; obtain ⟨k3, k3b, k3c⟩ := HK.out w13 hbn; have hzb : Bytes w13 (.slice (some ⟨w12.heap.size + 1, 0, none⟩) 1 1) [z] := HZ1.out w13 hg13)
              | (refine step_append_bytes rfl (.tmp 62) (.tmp 73) rfl w12.heap.size (.slice (some ⟨w12.heap.size + 1, 0, none⟩) 0 0) (.slice Au r cu) [] (x.take r) rfl (pown_heap (HE3.out (.cells #[.int .u8 (a3 / 256 % 256)] 5)) rfl) rfl ((HXH.out _ (HBBE.out (.cells #[.int .u8 (a3 / 256 % 256)] 5))).heap rfl) (by have := HLR.out; simp; omega) (HBBE.out (.cells #[.int .u8 (a3 / 256 % 256)] 5)).size (x.take r) rfl ?_; rintro v13 w13 ⟨ho13, hg13, -, hb13⟩; have hbn : Below w12.heap.size w12 w13 := ⟨hb13.os, hb13.tape, hb13.output, Nat.le_trans (HBBE.out (.cells #[.int .u8 (a3 / 256 % 256)] 5)).size hb13.size, fun j hj => (hb13.block j hj).trans ((HBBE.out (.cells #[.int .u8 (a3 / 256 % 256)] 5)).block j hj)⟩; obtain ⟨k3, k3b, k3c⟩ := HK.out w13 hbn; have hzb : Bytes w13 (.slice (some ⟨w12.heap.size, 0, none⟩) 1 1) [z] := HZ2.out w13 hg13)
              | (refine step_append_bytes rfl (.tmp 74) (.tmp 78) rfl w12.heap.size v13 (.slice (some ⟨w12.heap.size + 1, 0, none⟩) 1 1) (x.take r) [z] rfl (pown_heap ho13 rfl) rfl (hzb.heap rfl) (by have := HLR.out; simp; omega) (Nat.le_trans (Nat.le_refl _) hbn.size) (x.take r ++ [z]) rfl ?_; rintro v14 w14 ⟨ho14, -, -, hb14⟩; have hbm : Below w12.heap.size w12 w14 := ⟨hb14.os.trans hbn.os, hb14.tape.trans hbn.tape, hb14.output.trans hbn.output, Nat.le_trans hbn.size hb14.size, fun j hj => (hb14.block j hj).trans (hbn.block j hj)⟩; obtain ⟨k4, k4b, k4c⟩ := HK.out w14 hbm; have HP14 := Lib.hid (HPUT.out w14 v14 hbm ho14); obtain ⟨_, _, A14, c14, hv14, _, _⟩ := ho14.bytes.parts; rw [HLZ.out] at hv14; subst hv14)
              | (refine step_append_bytes rfl (.tmp 74) (.tmp 78) rfl w12.heap.size v13 (.slice (some ⟨w12.heap.size, 0, none⟩) 1 1) (x.take r) [z] rfl (pown_heap ho13 rfl) rfl (hzb.heap rfl) (by have := HLR.out; simp; omega) (Nat.le_trans (Nat.le_refl _) hbn.size) (x.take r ++ [z]) rfl ?_; rintro v14 w14 ⟨ho14, -, -, hb14⟩; have hbm : Below w12.heap.size w12 w14 := ⟨hb14.os.trans hbn.os, hb14.tape.trans hbn.tape, hb14.output.trans hbn.output, Nat.le_trans hbn.size hb14.size, fun j hj => (hb14.block j hj).trans (hbn.block j hj)⟩; obtain ⟨k4, k4b, k4c⟩ := HK.out w14 hbm; have HP14 := Lib.hid (HPUT.out w14 v14 hbm ho14); obtain ⟨_, _, A14, c14, hv14, _, _⟩ := ho14.bytes.parts; rw [HLZ.out] at hv14; subst hv14)
              | (refine step_append_bytes rfl (.tmp 74) (.tmp 78) rfl w12.heap.size v13 (.slice (some ⟨w13.heap.size, 0, none⟩) 1 1) (x.take r) [z] rfl (pown_heap (ho13.alloc (.cells #[.int .u8 (a3 / 256 % 256)] 5)) rfl) rfl ((bytes_one w13 (a3 / 256 % 256) z 5 (0, 0) HZE.out (HZL.out)).heap rfl) (by have := HLR.out; simp; omega) (Nat.le_trans hbn.size (by simp)) (x.take r ++ [z]) rfl ?_; rintro v14 w14 ⟨ho14, -, -, hb14⟩; have hbm : Below w12.heap.size w12 w14 := (hbn.alloc hbn.size (.cells #[.int .u8 (a3 / 256 % 256)] 5)).trans ⟨hb14.os, hb14.tape, hb14.output, hb14.size, fun j hj => hb14.block j hj⟩; obtain ⟨k4, k4b, k4c⟩ := HK.out w14 hbm; have HP14 := Lib.hid (HPUT.out w14 v14 hbm ho14); obtain ⟨_, _, A14, c14, hv14, _, _⟩ := ho14.bytes.parts; rw [HLZ.out] at hv14; subst hv14))
            all_goals go_wp2_with fail
            all_goals go_meet
            all_goals exact ⟨_, Lib.hid HP14.out.1, HFS, Lib.hid HP14.out.2⟩
        case rest =>
          obtain ⟨X, HX, HFX, HBX⟩ := hcut
          obtain ⟨w1, rfl⟩ : ∃ wx : World, wx = wc := ⟨_, rfl⟩
          obtain ⟨AX, cX, rfl, hcX⟩ := rows2_byte HX.out
          have HJ1 := Lib.hid (HJ.out.under HBX.out)
          have HOKA := Lib.hid (actF_ok zs)
          have HOKB := Lib.hid (actF_ok ms)
          obtain ⟨LA, hLA⟩ : ∃ L, actF zs = L := ⟨_, rfl⟩
          obtain ⟨LB, hLB⟩ : ∃ L, actF ms = L := ⟨_, rfl⟩
          have HA0 : Hid (∀ W, Below w.heap.size w W → Calls Try.prog 12 #[v0] W fun e w' => ∃ u, e = .returned u ∧ RdD w' u LA ∧ Below W.heap.size W w') := Lib.hid (fun W hb => (actf_any v0 zs W (H0.out.under hb)).mono fun e w' ⟨u, he, ho, _, _, hb'⟩ => ⟨u, he, by rw [← hLA]; exact ho.rd, hb'⟩)
          have HB0 : Hid (∀ W, Below w.heap.size w W → Calls Try.prog 12 #[v1] W fun e w' => ∃ u, e = .returned u ∧ RdD w' u LB ∧ Below W.heap.size W w') := Lib.hid (fun W hb => (actf_any v1 ms W (H1.out.under hb)).mono fun e w' ⟨u, he, ho, _, _, hb'⟩ => ⟨u, he, by rw [← hLB]; exact ho.rd, hb'⟩)
          rw [hLA] at HOKA
          rw [hLB] at HOKB
          clear hLA hLB
          obtain ⟨P, hP⟩ : ∃ P, Pr.print (Ac.bytes LA) J = P := ⟨_, rfl⟩
          obtain ⟨Q, hQ⟩ : ∃ Q, Pr.print (Ac.bytes LB) X = Q := ⟨_, rfl⟩
          have HSMP : Hid (decide (P = Q) = (decide (LA = LB) && decide (J = X))) := Lib.hid (by rw [← hP, ← hQ]; exact print_same HOKA.out HOKB.out HF.out HFX.out)
          have HPB := Lib.hid (print_back HOKA.out HF.out)
          rw [hP] at HPB
          have HXN : Hid (X.length ≤ 8 ∧ J.length ≤ 8) := Lib.hid ⟨(pfew_all HFX.out).1, (pfew_all HF.out).1⟩
          have HPM : Hid (∀ W u, Below w1.heap.size w1 W → RdD W u LA → Calls Try.prog 7 #[u, .slice A k c] W (Made W.heap.size P W)) := Lib.hid (fun W u hb hr => by
            rw [← hP, ← (ok_x HOKA.out).2.2]
            exact pprint_any u _ (LA.map Pr.ofD) J W hr.x (HJ1.out.under hb) (ok_x HOKA.out).1 (ok_x HOKA.out).2.1 (by have := HXN.out.2; omega) (fun x hx => by have := (pfew_all HF.out).2 x hx; omega))
          have HQM : Hid (∀ W u, Below w1.heap.size w1 W → RdD W u LB → Calls Try.prog 7 #[u, .slice AX X.length cX] W (Made W.heap.size Q W)) := Lib.hid (fun W u hb hr => by
            rw [← hQ, ← (ok_x HOKB.out).2.2]
            exact pprint_any u _ (LB.map Pr.ofD) X W hr.x (HX.out.under hb) (ok_x HOKB.out).1 (ok_x HOKB.out).2.1 (by have := HXN.out.1; omega) (fun x hx => by have := (pfew_all HFX.out).2 x hx; omega))
          clear hP hQ
          go_wp2_with fail
          refine (HA0.out w1 HBX.out).mono ?_
          rintro e w2 ⟨ua, rfl, ha2, hb2⟩
          have HA2 := Lib.hid ha2
          have HW2 := Lib.hid hb2
          clear ha2 hb2
          go_wp2_with fail
          refine (HB0.out w2 (HBX.out.trans (HW2.out.mono HBX.out.size))).mono ?_
          rintro e w3 ⟨ub, rfl, hb3, hx3⟩
          have HA3 := Lib.hid (HA2.out.under hx3)
          have HB3 := Lib.hid hb3
          have HW3 := Lib.hid (HW2.out.trans (hx3.mono HW2.out.size))
          clear hb3 hx3 HA2 HW2
          go_wp2_with fail
          refine (HPM.out w3 ua HW3.out HA3.out).mono ?_
          rintro e w4 ⟨vp, rfl, hp4, hx4⟩
          have HA4 := Lib.hid (HA3.out.under hx4)
          have HB4 := Lib.hid (HB3.out.under hx4)
          have HP4 := Lib.hid hp4.bytes
          have HW4 := Lib.hid (HW3.out.trans (hx4.mono HW3.out.size))
          clear hp4 hx4 HA3 HB3 HW3
          go_wp2_with fail
          refine (HQM.out w4 ub HW4.out HB4.out).mono ?_
          rintro e w5 ⟨vq, rfl, hq5, hx5⟩
          have HA5 := Lib.hid (HA4.out.under hx5)
          have HB5 := Lib.hid (HB4.out.under hx5)
          have HP5 := Lib.hid (HP4.out.under hx5)
          have HQ5 := Lib.hid hq5.bytes
          have HW5 := Lib.hid (HW4.out.trans (hx5.mono HW4.out.size))
          clear hq5 hx5 HA4 HB4 HP4 HW4
          have HTA : Hid (∀ d ∈ LA, ∀ c ∈ d.text, c < 256) := Lib.hid (fun d hd => ((Ac.ok_small HOKA.out).2.2 d hd).2.2.2.2)
          have HTB : Hid (∀ d ∈ LB, ∀ c ∈ d.text, c < 256) := Lib.hid (fun d hd => ((Ac.ok_small HOKB.out).2.2 d hd).2.2.2.2)
          obtain ⟨qa, hqa⟩ : ∃ q, decide (LA = LB) = q := ⟨_, rfl⟩
          obtain ⟨qj, hqj⟩ : ∃ q, decide (J = X) = q := ⟨_, rfl⟩
          rw [hqa, hqj] at HSMP
          have HSA : Hid (Calls Try.prog 16 #[ua, ub] w5 fun e w' => e = .returned (.bool qa) ∧ ∃ m, w' = w5.drewN m) := Lib.hid (by
            rw [← hqa]
            exact refsameact_any _ _ LA LB w5 HA5.out HB5.out HTA.out HTB.out)
          have HSR : Hid (∀ W, W.heap = w5.heap → Calls Try.prog 10 #[.slice A k c, .slice AX X.length cX] W fun e w' => e = .returned (.bool qj) ∧ ∃ m, w' = W.drewN m) := Lib.hid (fun W e => by
            rw [← hqj]
            exact samerows_any _ _ J X W ((HJ1.out.under HW5.out).heap e) ((HX.out.under HW5.out).heap e))
          clear hqa hqj
          go_upto_region 16 with fail
          go_cut [18] (fun q wx => q = .bool (qa && qj) ∧ ∃ m, wx = w5.drewN m)
          case first =>
            go_wp2_with fail
            refine HSA.out.mono ?_
            rintro e w6 ⟨rfl, n6, rfl⟩
            rcases qa with _ | _
            · go_wp2_with fail
              go_meet
              exact ⟨rfl, n6, rfl⟩
            · go_wp2_with fail
              refine (HSR.out _ (by rfl)).mono ?_
              rintro e w7 ⟨rfl, n7, rfl⟩
              go_wp2_with fail
              go_meet
              exact ⟨by simp, n6 + n7, by simp [World.drewN]⟩
          case rest =>
            obtain ⟨rfl, m6, hw6⟩ := hcut
            have hheap : wc.heap = w5.heap := by rw [hw6]; rfl
            have HB6 : Hid (Below w5.heap.size w5 wc) := Lib.hid (by rw [hw6]; exact pbelow_drewN w5 m6)
            clear hw6
            obtain ⟨qb, hqb⟩ : ∃ q, (qa && qj) = q := ⟨_, rfl⟩
            rw [hqb] at HSMP ⊢
            clear hqb
            obtain ⟨sP, hsP⟩ : ∃ s, str P = s := ⟨_, rfl⟩
            obtain ⟨sQ, hsQ⟩ : ∃ s, str Q = s := ⟨_, rfl⟩
            have hse := str_same HP5.out.1 HQ5.out.1
            rw [HSMP.out, hsP, hsQ] at hse
            have rP : (convert 23 9 vp).run Try.prog wc = .ok (.string sP) wc := by rw [← hsP]; exact run_text_at HP5.out wc hheap
            have rQ : (convert 23 9 vq).run Try.prog wc = .ok (.string sQ) wc := by rw [← hsQ]; exact run_text_at HQ5.out wc hheap
            have hqq : (qb != qb) = false := by simp
            have HPC := Lib.hid (HP5.out.heap (W := wc) hheap)
            have HAC := Lib.hid (HA5.out.under HB6.out)
            have HJC := Lib.hid (HJ1.out.under (HW5.out.trans (HB6.out.mono HW5.out.size)))
            have HWC := Lib.hid (HBX.out.trans ((HW5.out.trans (HB6.out.mono HW5.out.size)).mono HBX.out.size))
            clear hsP hsQ HSMP HSA HSR hheap
            obtain ⟨wv, rfl⟩ : ∃ wx : World, wx = wc := ⟨_, rfl⟩
            go_wp2_with fail
            refine (pparse_any vp P wv HPC.out (by have := HPB.out.1; omega) (some (LA, J)) HPB.out.2.1.symm).mono ?_
            rintro e w8 ⟨⟨u8', x8, rfl, hl8, hi8⟩, hb8⟩
            have HL8 := Lib.hid hl8.rd
            have HI8 := Lib.hid hi8.rows
            have HP8 := Lib.hid (HPC.out.under hb8)
            have HA8 := Lib.hid (HAC.out.under hb8)
            have HJ8 := Lib.hid (HJC.out.under hb8)
            have HW8 := Lib.hid (HWC.out.trans (hb8.mono HWC.out.size))
            clear hl8 hi8 hb8 rP rQ hse hqq HPC HAC HJC HWC
            obtain ⟨VV, hVV⟩ : ∃ V, Ac.run LA J = V := ⟨_, rfl⟩
            rw [hVV] at HPB
            have HV := Lib.hid hVV
            clear hVV
            go_wp2_with fail
            refine (pvalue_any vp P w8 HP8.out (by have := HPB.out.1; omega) VV HPB.out.2.2.symm).mono ?_
            intro e w9 h9
            obtain ⟨u9', rfl, hv9, hb9⟩ := came_said h9
            have HV9 := Lib.hid hv9
            have HL9 := Lib.hid (HL8.out.under hb9)
            have HI9 := Lib.hid (HI8.out.under hb9)
            have HA9 := Lib.hid (HA8.out.under hb9)
            have HJ9 := Lib.hid (HJ8.out.under hb9)
            have HW9 := Lib.hid (HW8.out.trans (hb9.mono HW8.out.size))
            clear h9 hv9 hb9 HL8 HI8 HP8 HA8 HJ8 HW8
            go_wp2_with fail
            refine (refrun_any ua _ LA J w9 HA9.out HJ9.out (by have := HXN.out.2; omega) (fun x hx => by have := (pfew_all HF.out).2 x hx; omega) (fun d hd => ⟨HTA.out d hd, by have := ((Ac.ok_small HOKA.out).2.2 d hd).2.2.2.1; omega⟩) VV HV.out.symm).mono ?_
            intro e w10 h10
            obtain ⟨u10', rfl, hv10, hb10⟩ := came_said h10
            have HVA := Lib.hid (HV9.out.under hb10)
            have HVB := Lib.hid hv10
            have HL10 := Lib.hid (HL9.out.under hb10)
            have HI10 := Lib.hid (HI9.out.under hb10)
            have HA10 := Lib.hid (HA9.out.under hb10)
            have HJ10 := Lib.hid (HJ9.out.under hb10)
            have HW10 := Lib.hid (HW9.out.trans (hb10.mono HW9.out.size))
            clear h10 hv10 hb10 HV9 HL9 HI9 HA9 HJ9 HW9 HV HPB
            obtain ⟨qv, hqv⟩ : ∃ q, VV.isSome = q := ⟨_, rfl⟩
            rw [hqv]
            clear hqv
            have hqvv : (qv == qv) = true := by simp
            go_wp2_with fail
            refine (refsameact_any _ _ LA LA w10 HL10.out HA10.out HTA.out HTA.out).mono ?_
            rintro e w11 ⟨rfl, n11, rfl⟩
            rw [show decide (LA = LA) = true from decide_eq_true rfl]
            go_wp2_with fail
            refine (samerows_any _ _ J J _ (HI10.out.heap (by rfl)) (HJ10.out.heap (by rfl))).mono ?_
            rintro e w12 ⟨rfl, n12, rfl⟩
            rw [show decide (J = J) = true from decide_eq_true rfl]
            have ra := run_text_at HVA.out (w10.drewN (n11 + n12)) rfl
            have rb := run_text_at HVB.out (w10.drewN (n11 + n12)) rfl
            have hsv : ((str (VV.getD [])).toList == (str (VV.getD [])).toList) = true := by simp
            go_wp2_with fail
            refine (pawake_any _).mono ?_
            rintro e w13 ⟨rfl, hb13⟩
            have hbf : Below w10.heap.size w10 (w10.drewN (n11 + n12)) := pbelow_drewN w10 _
            have HBF := Lib.hid ((HW10.out.trans (hbf.mono HW10.out.size)).trans (hb13.mono (Nat.le_trans HW10.out.size (Nat.le_refl _))))
            clear hb13 hbf
            go_wp2
            go_ret
            exact ⟨rfl, HBF.out⟩
end Go.Proofs.Ytdcefnjdbdnhfaa
