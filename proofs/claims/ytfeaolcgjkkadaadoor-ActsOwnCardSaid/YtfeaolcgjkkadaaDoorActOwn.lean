/- ActsOwn: what comes of inputs is one's own: turned, they are not. -/
import Derived.Test.YtfeaolcgjkkadaaDoorActAwake
import Derived.Test.YtfeaolcgjkkadaaDoorAct
import Derived.Test.YtfeaolcgjkkadaaDoorTexts
import Derived.ArgAppend
import Derived.Deep.DeepCutAuto
import Derived.Deep.RegionWith
namespace Go.Proofs.YtfeaolcgjkkadaaDoor
set_option maxRecDepth 100000
open Go.ChangeShapes Go.WideShapes Go.ChangeAt Go.RowKit

theorem below_setCells (B b : Nat) {w w' : World} (hb : B ≤ b) (h : Below B w w') : ∀ (vs : List Value) (o : Nat), Below B w (w'.setCells b o vs) := fun vs o => Lib.below_setCells b hb vs o h
/-- Three bytes behind a slice of the call's own: nothing older turns. -/
theorem wpList_append_mine {w : World} {ops : Array Oper} {rest : List Oper} {o : Oper} {a : Act} {Q : Exit → Act → World → Prop} (hgd : o.guard = none) (s x : Operand)
    (ho : o.op = .call { callee := .builtin .append, args := #[s, x], argTypes := #[39, 39] }) (base : Nat) (v : Value) (l m : List Nat) (hs : a.eval s = v) (hv : Mine w base v l) (X : Nat) (mc : Nat)
    (hx : a.eval x = .slice (some ⟨X, 0, none⟩) m.length mc) (hm : ∀ j, j < m.length → w.cell? ⟨X, j, none⟩ = some (.int .u8 ((m.getD j 0 : Nat) : Int))) (hlen : l.length + m.length ≤ 1000000) (h0 : 0 < m.length) (hbase : base ≤ w.heap.size)
    (h : ∀ u' w', Below base w w' → wpList Tryd.prog ops Q rest (a.put o.dst u') w') : wpList Tryd.prog ops Q (o :: rest) a w := by
  obtain ⟨i, hi, hz0, hz1, hz2⟩ := info_parts infoU8
  have hmap : (row8 m).length = m.length := by simp [row8]
  have hnew : ∀ j u, (row8 m)[j]? = some u → w.cell? ((⟨X, 0, none⟩ : Addr).add j) = some u := fun j u hj => by
    obtain ⟨hj1, rfl⟩ := row8_at hj
    rw [add_plain, Nat.zero_add]
    exact hm j hj1
  obtain ⟨h1, A, c, rfl, hc, hcm, hx2⟩ := hv
  have hold : ∀ (b off : Nat), (∀ i, i < l.length → w.cell? ⟨b, off + i, none⟩ = some (.int .u8 ((l.getD i 0 : Nat) : Int))) → ∀ j u, (row8 l)[j]? = some u → w.cell? ⟨b, off + j, none⟩ = some u := fun b off hcl j u hj => by
    obtain ⟨hj1, rfl⟩ := row8_at hj
    exact hcl j hj1
  have hlm : (row8 l).length = l.length := by simp [row8]
  rcases hx2 with ⟨rfl, rfl⟩ | ⟨b, off, rfl, hb, hlt, hf, hcl⟩
  · refine wpList_append_grows w hgd s x 39 ho 5 i (.int .u8 0) 1 1 Tryd.underlying39 hi hz0 hz1 hz2 rfl (by decide) none l.length 0 (row8 l) hs (fun _ => ⟨by omega, rfl⟩) (by rw [hlm]; omega) (fun b hb => by cases hb) ⟨X, 0, none⟩ m.length mc (row8 m) hx (by rw [hmap]; omega) hnew row8_one (by omega) (by unfold maxLen; omega) (by omega) ?_
    intro v' w' _ hg
    exact h v' w' ((Below.refl _ _).grown hg hbase (fun k hk => by cases hk))
  · refine wpList_append_arg w hgd s x 39 ho 5 i (.int .u8 0) 1 1 Tryd.underlying39 hi hz0 hz1 hz2 rfl (by decide) b off l.length c (row8 l) hs (by rw [hlm]; omega) (hold b off hcl) ⟨X, 0, none⟩ m.length mc (row8 m) hx (by rw [hmap]; omega) hnew row8_one ?_ (by unfold maxLen; omega) (by omega) ?_ ?_
    · intro hr j hj
      rw [hmap] at hj
      rw [Nat.mul_one, show off + l.length + j = off + (l.length + j) from by omega]
      exact hf (l.length + j) (by omega)
    · intro _
      exact h _ _ (below_setCells base b hb (Below.refl _ _) _ _)
    · intro _ v' w' _ hg
      exact h v' w' ((Below.refl _ _).grown hg hbase (fun k hk => by cases hk))
def GoodD (L : List Ac.D) : Prop := ∀ d ∈ L, d.kind ≤ 1000000 ∧ (∀ c ∈ d.text, c < 256) ∧ d.text.length ≤ 1099511627776
def RowA (W : World) (g k : Nat) : Prop := ∃ A n c L, W.cell? ⟨g, k, none⟩ = some (.slice A n c) ∧ RdD W (.slice A n c) L ∧ GoodD L
def fourO (h : Nat) (A : Option Addr) (n c : Nat) : Obj := .cells #[.slice A n c, .slice (some ⟨h, 0, none⟩) 1 1, .slice (some ⟨h + 1, 0, none⟩) 1 1, .slice (some ⟨h + 1 + 1, 0, none⟩) 2 2] 23
def cellsDo (L : List Ac.D) : Obj := .cells (rowD L).toArray 28
def fourW (w : World) (A : Option Addr) (n c : Nat) : World := (((w.alloc (cellsDo [⟨2, 0, []⟩])).alloc (cellsDo [⟨3, 0, []⟩])).alloc (cellsDo [⟨2, 0, []⟩, ⟨7, 99, []⟩])).alloc (fourO w.heap.size A n c)
theorem four_rows (w : World) (A : Option Addr) (c : Nat) (L : List Ac.D) (n : Nat) (h : RdD w (.slice A n c) L) (hg : GoodD L) : Below w.heap.size w (fourW w A n c) ∧ ∀ k, k < 4 → RowA (fourW w A n c) (w.heap.size + 1 + 1 + 1) k := by
  have b1 : Below w.heap.size w (w.alloc (cellsDo [⟨2, 0, []⟩])) := (Below.refl _ _).alloc (Nat.le_refl _) _
  have b2 := b1.alloc b1.size (cellsDo [⟨3, 0, []⟩])
  have b3 := b2.alloc b2.size (cellsDo [⟨2, 0, []⟩, ⟨7, 99, []⟩])
  have b4 := b3.alloc b3.size (fourO w.heap.size A n c)
  have s1 : (w.alloc (cellsDo [⟨2, 0, []⟩])).heap.size = w.heap.size + 1 := by simp
  have s2 : ((w.alloc (cellsDo [⟨2, 0, []⟩])).alloc (cellsDo [⟨3, 0, []⟩])).heap.size = w.heap.size + 1 + 1 := by simp
  have s3 : (((w.alloc (cellsDo [⟨2, 0, []⟩])).alloc (cellsDo [⟨3, 0, []⟩])).alloc (cellsDo [⟨2, 0, []⟩, ⟨7, 99, []⟩])).heap.size = w.heap.size + 1 + 1 + 1 := by simp
  have r1 : RdD (w.alloc (cellsDo [⟨2, 0, []⟩])) (.slice (some ⟨w.heap.size, 0, none⟩) 1 1) [⟨2, 0, []⟩] := (ownD_lit w 0 [⟨2, 0, []⟩] _ 1 rfl rfl (Nat.zero_le _) (by decide)).rd
  have r2 : RdD ((w.alloc (cellsDo [⟨2, 0, []⟩])).alloc (cellsDo [⟨3, 0, []⟩])) (.slice (some ⟨(w.alloc (cellsDo [⟨2, 0, []⟩])).heap.size, 0, none⟩) 1 1) [⟨3, 0, []⟩] := (ownD_lit (w.alloc (cellsDo [⟨2, 0, []⟩])) 0 [⟨3, 0, []⟩] _ 1 rfl rfl (Nat.zero_le _) (by decide)).rd
  have r3 : RdD (((w.alloc (cellsDo [⟨2, 0, []⟩])).alloc (cellsDo [⟨3, 0, []⟩])).alloc (cellsDo [⟨2, 0, []⟩, ⟨7, 99, []⟩])) (.slice (some ⟨((w.alloc (cellsDo [⟨2, 0, []⟩])).alloc (cellsDo [⟨3, 0, []⟩])).heap.size, 0, none⟩) 2 2) [⟨2, 0, []⟩, ⟨7, 99, []⟩] := (ownD_lit ((w.alloc (cellsDo [⟨2, 0, []⟩])).alloc (cellsDo [⟨3, 0, []⟩])) 0 [⟨2, 0, []⟩, ⟨7, 99, []⟩] _ 2 rfl rfl (Nat.zero_le _) (by decide)).rd
  have hl : Blk (fourW w A n c) (w.heap.size + 1 + 1 + 1) 23 #[.slice A n c, .slice (some ⟨w.heap.size, 0, none⟩) 1 1, .slice (some ⟨w.heap.size + 1, 0, none⟩) 1 1, .slice (some ⟨w.heap.size + 1 + 1, 0, none⟩) 2 2] := by
    have := heap_alloc_new (((w.alloc (cellsDo [⟨2, 0, []⟩])).alloc (cellsDo [⟨3, 0, []⟩])).alloc (cellsDo [⟨2, 0, []⟩, ⟨7, 99, []⟩])) (fourO w.heap.size A n c)
    rw [s3] at this
    exact this
  refine ⟨b4, fun k hk => ?_⟩
  have : k = 0 ∨ k = 1 ∨ k = 2 ∨ k = 3 := by omega
  rcases this with rfl | rfl | rfl | rfl
  · exact ⟨A, n, c, L, hl.at 0, h.under b4, hg⟩
  · exact ⟨_, _, _, [⟨2, 0, []⟩], hl.at 1, ((r1.alloc _).alloc _).alloc _, by unfold GoodD; decide⟩
  · rw [s1] at r2
    exact ⟨_, _, _, [⟨3, 0, []⟩], hl.at 2, (r2.alloc _).alloc _, by unfold GoodD; decide⟩
  · rw [s2] at r3
    exact ⟨_, _, _, [⟨2, 0, []⟩, ⟨7, 99, []⟩], hl.at 3, r3.alloc _, by unfold GoodD; decide⟩
theorem good_of {L : List Ac.D} (h : Ac.ok L = true) : GoodD L := fun d hd => by
  obtain ⟨_, _, h3⟩ := Ac.ok_small h
  have := h3 d hd
  exact ⟨by omega, this.2.2.2.2, by omega⟩
theorem go_few (ins : List (List Nat)) : ∀ (l : List Ac.D) (b x : List Nat), b.length ≤ 256 → Ac.go ins l b = some x → x.length ≤ 256
  | [], b, x, hb, h => by
    injection h with h
    rw [← h]; exact hb
  | d :: r, b, x, _, h => by
    rw [Ac.go] at h
    split at h
    · cases h
    · rename_i y _
      split at h
      · rename_i hy
        exact go_few ins r y x hy h
      · cases h
theorem run_few {l : List Ac.D} {ins : List (List Nat)} {x : List Nat} (h : Ac.run l ins = some x) : x.length ≤ 256 := by
  unfold Ac.run at h
  split at h
  · exact go_few ins l [] x (by simp) h
  · cases h
theorem came_any {w w' : World} {e : Ending} {T : Option (List Nat)} (h : CameIs w.heap.size w e w' T) (ht : ∀ x, T = some x → x.length ≤ 256) : ∃ u q l, e = .returned (.tuple #[u, .bool q]) ∧ Mine w' w.heap.size u l ∧ l.length ≤ 256 ∧ Below w.heap.size w w' := by
  rcases T with _ | b
  · obtain ⟨rfl, hb⟩ := h
    exact ⟨_, false, [], rfl, mine_none _ _, by simp, hb⟩
  · obtain ⟨⟨u, rfl, hm⟩, hb⟩ := h
    exact ⟨u, true, b, rfl, hm, ht b rfl, hb⟩
def up (c : Nat) : Nat := (c + 1) % 256
theorem up_int (x : Nat) : ((up x : Nat) : Int) = ((x : Int) + 1) % 256 := by unfold up; omega
set_option maxRecDepth 100000 in
set_option maxHeartbeats 16000000 in
theorem own_any (v1 v2 : Value) (zs : List Int) (L : List (List Nat)) (w : World) (h1 : Ints w v1 zs) (h2 : Rows2 w v2 L) (hTab : Tabs w) :
    Calls Tryd.prog 5 #[v1, v2] w fun e w' => e = .returned (.bool true) ∧ Below w.heap.size w w' := by
  have H1 := Lib.hid h1
  have H2 := Lib.hid h2
  have HAW : Hid (∀ W, Below w.heap.size w W → Calls Tryd.prog 14 #[] W fun e w' => e = .returned (.bool true) ∧ Below W.heap.size W w') := Lib.hid (fun W hb => awake_any W (hTab.under hb))
  obtain ⟨_, A, c, rfl, hc, _⟩ := h2
  obtain ⟨n, hn⟩ : ∃ n, L.length = n := ⟨_, rfl⟩
  rw [hn] at H2 hc ⊢
  have HN := Lib.hid hn
  clear h1 hTab hn
  go_enter Tryd.func5, Tryd.ntmps5
  by_cases h8 : 8 < n
  · have h8I : (8 : Int) < (n : Int) := by omega
    go_wp2_with fail
    refine (HAW.out w (Below.refl _ _)).mono ?_
    rintro e w2 ⟨rfl, hb2⟩
    go_wp2
    go_ret
    exact ⟨rfl, hb2⟩
  have h8I : ¬ (8 : Int) < (n : Int) := by omega
  go_wp2_with fail
  go_loopg [5, 21] n (fun g tv iv wr => ∃ k : Nat, k ≤ n ∧ n - k ≤ g ∧ iv = .int .i64 (k : Int) ∧ Hid (∀ j, j < k → (L.getD j []).length ≤ 256) ∧ Hid (OwnT wr w.heap.size tv (L.take k)) ∧ Hid (Below w.heap.size w wr))
  case atStart => exact ⟨0, Nat.zero_le _, by omega, rfl, Lib.hid (fun j hj => absurd hj (by omega)), Lib.hid (ownT_none _ _), Lib.hid (Below.refl _ _)⟩
  case round =>
    obtain ⟨k, hk, hg, rfl, hall, hO, hbl⟩ := hrel
    obtain ⟨wz, rfl⟩ : ∃ wx : World, wx = wr := ⟨_, rfl⟩
    by_cases hlt : k < n
    · have hkI : (k : Int) < (n : Int) := by omega
      obtain ⟨b, off, u, rfl, hcu, hbu⟩ := (H2.out.under hbl.out).at hlt
      obtain ⟨_, hmu, Au, cu, rfl, hcu2, _⟩ := hbu.parts
      obtain ⟨x, hx⟩ : ∃ x, L.getD k [] = x := ⟨_, rfl⟩
      have HX := Lib.hid hx
      rw [hx] at hcu hbu hmu hcu2
      obtain ⟨q, hq⟩ : ∃ q, x.length = q := ⟨_, rfl⟩
      have HQ := Lib.hid hq
      have hrt := run_text hbu
      rw [hq] at hcu hmu hcu2 hrt
      have HNX : Hid (L.take k ++ [x] = L.take (k + 1)) := Lib.hid (by
        rw [← hx, List.take_succ_eq_append_getElem (by rw [HN.out]; exact hlt), List.getD_eq_getElem?_getD, List.getElem?_eq_getElem (by rw [HN.out]; exact hlt)]
        rfl)
      have HTL : Hid ((L.take k).length ≤ 8) := Lib.hid (by rw [List.length_take]; omega)
      clear hbu hx hq
      by_cases hbig : 256 < q
      · have hbI : (256 : Int) < (q : Int) := by omega
        go_wp2_with fail
        refine (HAW.out wz hbl.out).mono ?_
        rintro e w2 ⟨rfl, hb2⟩
        have HB2 := Lib.hid (hbl.out.trans (hb2.mono hbl.out.size))
        clear hb2
        go_wp2
        go_ret
        exact ⟨rfl, HB2.out⟩
      · have hbI : ¬ (256 : Int) < (q : Int) := by omega
        have HAL : Hid (∀ j, j < k + 1 → (L.getD j []).length ≤ 256) := Lib.hid (fun j hj => by
          rcases Nat.lt_or_ge j k with h | h
          · exact hall.out j h
          · obtain rfl : j = k := by omega
            rw [HX.out, HQ.out]; omega)
        go_wp2_with (at_builtin; refine wpList_append_text rfl _ _ rfl w.heap.size _ (L.take k) x rfl hO.out rfl (0, 0) (by have := HTL.out; omega) hbl.out.size _ HNX.out ?_)
        rintro u' w' ⟨hO', _, hb'⟩
        have HO' := Lib.hid hO'
        have HB' := Lib.hid ((hbl.out.alloc hbl.out.size _).trans hb')
        clear hO' hb' hrt hcu
        go_wp2
        go_roundg (n - (k + 1))
        case measure => omega
        case rel => exact ⟨k + 1, hlt, by omega, by go_num, HAL, HO', HB'⟩
    · obtain rfl : k = n := by omega
      rw [List.take_of_length_le (by rw [HN.out]; exact Nat.le_refl _)] at hO
      clear hlt hg
      go_wp2_with fail
      refine (act_any v1 zs wz (H1.out.under hbl.out)).mono ?_
      rintro e w2 ⟨LA, va, rfl, hoa, hka, -, hna, hb2⟩
      have HB2 := Lib.hid (hbl.out.trans (hb2.mono hbl.out.size))
      have HO2 := Lib.hid (hO.out.under hb2)
      have HRA := Lib.hid hoa.rd
      have HKA := Lib.hid hka
      clear hb2 hoa hka hna
      obtain ⟨Aa, ca, rfl, hca⟩ := HRA.out.parts
      obtain ⟨na, hna⟩ : ∃ na, LA.length = na := ⟨_, rfl⟩
      rw [hna] at HRA hca ⊢
      have HFR := Lib.hid (four_rows w2 Aa ca LA na HRA.out (good_of HKA.out))
      obtain ⟨W4, hW4⟩ : ∃ W4, W4 = fourW w2 Aa na ca := ⟨_, rfl⟩
      have HW4 := Lib.hid hW4
      rw [← hW4] at HFR
      have HB4 := Lib.hid (HB2.out.trans (HFR.out.1.mono HB2.out.size))
      have HO4 := Lib.hid (HO2.out.under HFR.out.1)
      have HI4 := Lib.hid (H2.out.under HB4.out)
      clear hW4 hna
      go_wp2_with fail
      rw [show (((w2.alloc (.cells #[.int .i64 2, .int .i64 0, .string ⟨#[]⟩] 28)).alloc (.cells #[.int .i64 3, .int .i64 0, .string ⟨#[]⟩] 28)).alloc (.cells #[.int .i64 2, .int .i64 0, .string ⟨#[]⟩, .int .i64 7, .int .i64 99, .string ⟨#[]⟩] 28)).alloc (.cells #[.slice Aa na ca, .slice (some ⟨w2.heap.size, 0, none⟩) 1 1, .slice (some ⟨w2.heap.size + 1, 0, none⟩) 1 1, .slice (some ⟨w2.heap.size + 1 + 1, 0, none⟩) 2 2] 23) = W4 from HW4.out.symm]
      go_loopg [46] 4 (fun g iv wr => ∃ j : Nat, j ≤ 4 ∧ 4 - j ≤ g ∧ iv = .int .i64 (j : Int) ∧ Hid (Below W4.heap.size W4 wr))
      case atStart => exact ⟨0, by omega, by omega, rfl, Lib.hid (Below.refl _ _)⟩
      case round =>
        obtain ⟨j, hj, hg, rfl, hbj⟩ := hrel
        obtain ⟨wj, rfl⟩ : ∃ wx : World, wx = wr := ⟨_, rfl⟩
        by_cases hlt : j < 4
        · have hjI : (j : Int) < 4 := by omega
          obtain ⟨Aj, nj, cj, Lj, hcj, hrj, hgj⟩ := HFR.out.2 j hlt
          have hcj2 := cell_later hbj.out hcj
          have HRJ := Lib.hid (hrj.under hbj.out)
          have HGJ := Lib.hid hgj
          have HIJ := Lib.hid (HI4.out.under hbj.out)
          clear hcj hrj hgj
          go_wp2_with fail
          obtain ⟨T, hT⟩ : ∃ T, T = Ac.run Lj L := ⟨_, rfl⟩
          refine (run_any _ _ Lj L wj HRJ.out HIJ.out (by rw [HN.out]; omega) (fun x hx => by
            obtain ⟨i, hi, rfl⟩ := List.getElem_of_mem hx
            have := hall.out i (by rw [HN.out] at hi; exact hi)
            rw [List.getD_eq_getElem?_getD, List.getElem?_eq_getElem hi] at this
            exact Nat.le_trans this (by decide)) HGJ.out T hT).mono ?_
          intro e w5 hcm
          obtain ⟨u, q, l, rfl, hm5, hl5, hb5⟩ := came_any hcm (fun x hx => run_few (by rw [← hx, ← hT]))
          clear hT hcm
          obtain ⟨Au, cu, rfl, hcu, hcm⟩ := hm5.parts
          obtain ⟨m, hm⟩ : ∃ m, l.length = m := ⟨_, rfl⟩
          have HM := Lib.hid hm
          rw [hm] at hm5 hl5 hcu ⊢
          have HM5 := Lib.hid hm5
          have HB5 := Lib.hid hb5
          clear hm5 hb5 hm hcm hcj2
          go_wp2_with fail
          go_loopg [58] m (fun g iv wr => ∃ i : Nat, i ≤ m ∧ m - i ≤ g ∧ iv = .int .i64 (i : Int) ∧ Hid (Mine wr wj.heap.size (.slice Au m cu) (half up l i)) ∧ Hid (Below wj.heap.size wj wr))
          case atStart => exact ⟨0, by omega, by omega, rfl, Lib.hid (by have := HM5.out; simpa [half] using this), HB5⟩
          case round =>
            obtain ⟨i, hi, hg3, rfl, hM, hbi⟩ := hrel
            obtain ⟨wi, rfl⟩ : ∃ wx : World, wx = wr := ⟨_, rfl⟩
            by_cases hlt3 : i < m
            · have hiI : (i : Int) < (m : Int) := by omega
              obtain ⟨_, b, off, rfl, hb, hbs, hfz, hcell⟩ := hM.out.at (by omega)
              have hfk := hfz i hlt3
              have hck := hcell i hlt3
              rw [half_at _ _ _ (by rw [HM.out]; exact hlt3)] at hck
              obtain ⟨x, hx⟩ : ∃ x, l.getD i 0 = x := ⟨_, rfl⟩
              have hx256 : x < 256 := by rw [← hx]; exact u8_lt (fun c hc => HM5.out.1 c hc) i
              have HSET : Hid (Mine (wi.setCell ⟨b, off + i, none⟩ (.int .u8 ((up x : Nat) : Int))) wj.heap.size (.slice (some ⟨b, off, none⟩) m cu) (half up l (i + 1))) := Lib.hid (by
                have := hM.out.set hlt3 (x := up x) (by unfold up; omega)
                rw [← hx, half_set _ _ _ (by rw [HM.out]; exact hlt3)] at this
                rw [← hx]
                exact this)
              rw [hx] at hck
              have HBS : Hid (Below wj.heap.size wj (wi.setCell ⟨b, off + i, none⟩ (.int .u8 ((up x : Nat) : Int)))) := Lib.hid (hbi.out.setCell (p := ⟨b, off + i, none⟩) hb _)
              clear hcell hfz hx hM
              rw [up_int] at HSET HBS
              go_wp2
              go_roundg (m - (i + 1))
              case measure => omega
              case rel => exact ⟨i + 1, hlt3, by omega, by go_num, HSET, HBS⟩
            · obtain rfl : i = m := by omega
              have HLH : Hid ((half up l i).length ≤ 256) := Lib.hid (by rw [half_len, HM.out]; exact hl5)
              have HA : Hid (Mine (wi.alloc (.cells #[.int .u8 1, .int .u8 2, .int .u8 3] 5)) wj.heap.size (.slice Au i cu) (half up l i)) := Lib.hid (hM.out.alloc _)
              have HBA : Hid (Below wj.heap.size wj (wi.alloc (.cells #[.int .u8 1, .int .u8 2, .int .u8 3] 5))) := Lib.hid (hbi.out.alloc hbi.out.size _)
              have HN3 : Hid (Blk (wi.alloc (.cells #[.int .u8 1, .int .u8 2, .int .u8 3] 5)) wi.heap.size 5 #[.int .u8 1, .int .u8 2, .int .u8 3]) := Lib.hid (heap_alloc_new wi _)
              clear hlt3 hg3
              go_wp2_with (at_builtin; refine wpList_append_mine rfl _ _ rfl wj.heap.size (.slice Au i cu) (half up l i) [1, 2, 3] rfl HA.out wi.heap.size 3 rfl ?_ (by have := HLH.out; simp; omega) (by decide) HBA.out.size ?_)
              case refine_1 =>
                intro jj hjj
                have : jj = 0 ∨ jj = 1 ∨ jj = 2 := by simp at hjj; omega
                rcases this with rfl | rfl | rfl <;> exact HN3.out.at _
              case refine_2 =>
                intro u' w6 hb6
                have HB6 := Lib.hid (hbj.out.trans ((HBA.out.trans hb6).mono hbj.out.size))
                have HO6 := Lib.hid (HO4.out.under HB6.out)
                have HI6 := Lib.hid (HI4.out.under HB6.out)
                clear hb6 HA HBA HN3 HLH hM
                go_wp2_with fail
                go_loopg [73] k (fun g iv wr => ∃ p : Nat, p ≤ k ∧ k - p ≤ g ∧ iv = .int .i64 (p : Int) ∧ Hid (∃ nq, wr = w6.drewN nq))
                case atStart => exact ⟨0, by omega, by omega, rfl, Lib.hid ⟨0, rfl⟩⟩
                case round =>
                  obtain ⟨p, hp, hg4, rfl, hw⟩ := hrel
                  obtain ⟨nq, rfl⟩ := hw.out
                  by_cases hlt4 : p < k
                  · have hpI : (p : Int) < (k : Int) := by omega
                    obtain ⟨b, off, u, rfl, hcu', hbu⟩ := HI6.out.at hlt4
                    obtain ⟨_, hmu, Ax, cx, rfl, hcx, _⟩ := hbu.parts
                    have hL0 : L ≠ [] := fun e => by have := HN.out; rw [e] at this; simp at this; omega
                    obtain ⟨gt, ct, hu5, -, -⟩ := HO6.out.parts hL0
                    subst hu5
                    have hcell := HO6.out.cell (k := p) (by rw [HN.out]; exact hlt4)
                    rw [HN.out] at *
                    obtain ⟨x, hx⟩ : ∃ x, L.getD p [] = x := ⟨_, rfl⟩
                    rw [hx] at hcu' hbu hmu hcx hcell
                    have hrt := fun (W : World) (e : W.heap = w6.heap) => run_text_at hbu W e
                    obtain ⟨qx, hqx⟩ : ∃ qx, x.length = qx := ⟨_, rfl⟩
                    rw [hqx] at hcu' hmu hcx hrt
                    have hrt0 := hrt (w6.drewN nq) rfl
                    have hrt1 := hrt (w6.drewN (nq + 1)) rfl
                    clear hbu hx hqx hw hmu hrt
                    go_upto_region 24 with fail
                    go_region
                    all_goals
                      go_wp2
                      go_roundg (k - (p + 1))
                      case measure => omega
                      case rel => exact ⟨p + 1, hlt4, by omega, by go_num, Lib.hid ⟨nq + 1, rfl⟩⟩
                  · obtain rfl : p = k := by omega
                    have HBE := Lib.hid (HB6.out.trans ((below_drewN w6 nq).mono HB6.out.size))
                    clear hlt4 hg4 hw
                    go_wp2
                    go_roundg (4 - (j + 1))
                    case measure => omega
                    case rel => exact ⟨j + 1, hlt, by omega, by go_num, HBE⟩
        · obtain rfl : j = 4 := by omega
          have HBJ := Lib.hid (HB4.out.trans (hbj.out.mono HB4.out.size))
          clear hlt hg
          go_wp2_with fail
          refine (HAW.out wj HBJ.out).mono ?_
          rintro e w7 ⟨rfl, hb7⟩
          have HB7 := Lib.hid (HBJ.out.trans (hb7.mono HBJ.out.size))
          clear hb7
          go_wp2
          go_ret
          exact ⟨rfl, HB7.out⟩
end Go.Proofs.YtfeaolcgjkkadaaDoor
