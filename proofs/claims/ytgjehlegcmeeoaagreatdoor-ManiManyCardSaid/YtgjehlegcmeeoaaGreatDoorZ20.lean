/- Print: the words of one thing that an action does. -/
import Derived.Test.YtgjehlegcmeeoaaGreatDoorZ09
import Derived.Test.YtgjehlegcmeeoaaGreatDoorShelf2
import Derived.Test.YtgjehlegcmeeoaaGreatDoorZ16
import Derived.Test.YtgjehlegcmeeoaaGreatDoorZ06
import Derived.Deep.RegionHeld3
namespace Go.Proofs.YtgjehlegcmeeoaaGreatDoor
set_option maxRecDepth 100000
open Go.ChangeShapes Go.WideShapes Go.ChangeAt Go.RowKit Go.Shelf

theorem rowT_len (L : List (List Nat)) : (rowT L).length = L.length := by simp [rowT]
/-- A row of texts, newly made. -/
theorem ownT_lit (w : World) (base : Nat) (L : List (List Nat)) (C : Array Value) (n : Nat) (hn : L.length = n) (hC : C.toList = rowT L) (hb : base ≤ w.heap.size) (hm : L.length ≤ 1000000) : OwnT (w.alloc (.cells C 9)) base (.slice (some ⟨w.heap.size, 0, none⟩) n n) L := by
  subst hn
  have hl := rowT_len L
  have hs : C.size = L.length * 1 := by rw [← hl, ← hC]; simp
  exact ⟨by rw [Nat.mul_one]; exact hl, .inr ⟨w.heap.size, L.length, C, rfl, hb, heap_alloc_new w _, Nat.le_refl _, by unfold maxLen; omega, hs, by rw [hC, List.take_of_length_le (by rw [hl]; omega)]⟩⟩
theorem MadeT.lit (w W : World) (L : List (List Nat)) (C : Array Value) (n : Nat) (hn : L.length = n) (hC : C.toList = rowT L) (hb : Below w.heap.size w W) (hm : n ≤ 1000000) : MadeT w.heap.size L w (.returned (.slice (some ⟨W.heap.size, 0, none⟩) n n)) (W.alloc (.cells C 9)) :=
  ⟨_, rfl, ownT_lit W w.heap.size L C n hn hC hb.size (by omega), hb.alloc hb.size _⟩
theorem MadeT.lit1 (w : World) (o : Obj) (L : List (List Nat)) (C : Array Value) (n : Nat) (hn : L.length = n) (hC : C.toList = rowT L) (hm : n ≤ 1000000) : MadeT w.heap.size L w (.returned (.slice (some ⟨w.heap.size + 1, 0, none⟩) n n)) ((w.alloc o).alloc (.cells C 9)) := by
  have := MadeT.lit w (w.alloc o) L C n hn hC ((Below.refl _ _).alloc (Nat.le_refl _) o) hm
  rwa [World.size_alloc] at this
theorem join_data (l : List (List Nat)) : Lib.join ((l.map str).map (·.data.toList)) [32] = (Pn.join l).map UInt8.ofNat := by
  rcases l with _ | ⟨x, r⟩
  · rfl
  · rw [List.map_cons, List.map_cons, Lib.join_cons]
    show _ = (x ++ Mn.row r).map UInt8.ofNat
    rw [List.map_append, str_data]
    congr 1
    unfold Lib.joinTail Mn.row
    rw [List.flatMap_def, List.map_flatten]
    congr 1
    rw [List.map_map, List.map_map, List.map_map]
    refine List.map_congr_left fun t _ => ?_
    simp [str]
theorem row_le : ∀ l : List (List Nat), l.length ≤ (Mn.row l).length
  | [] => Nat.le_refl _
  | x :: l => by
    have := row_le l
    rw [Pn.row_cons, List.length_cons, List.length_append, List.length_cons]
    omega
theorem join_le (l : List (List Nat)) : l.length ≤ (Pn.join l).length + 1 := by
  rcases l with _ | ⟨x, r⟩
  · simp
  · have := row_le r
    show r.length + 1 ≤ (x ++ Mn.row r).length + 1
    rw [List.length_append]
    omega
/-- strings.Join with a blank. -/
theorem join_any (v : Value) (l : List (List Nat)) (w : World) (h : SlT w v l) (hn : (Pn.join l).length ≤ 1000000) :
    Calls Tryz.prog 56 #[v, .string ⟨#[32]⟩] w fun e w' => e = .returned (.string (str (Pn.join l))) ∧ Below w.heap.size w w' := by
  obtain ⟨A, c, rfl, hc, hm, hx⟩ := h
  unfold maxLen at hm
  have hj := join_data l
  rcases Nat.eq_zero_or_pos l.length with h0 | h0
  · rw [h0]
    refine (Tryz.strings_Join_none A c _ w).mono ?_
    rintro e w' ⟨rfl, rfl⟩
    have : l = [] := List.eq_nil_of_length_eq_zero h0
    subst this
    exact ⟨rfl, Below.refl _ _⟩
  · obtain ⟨b, off, rfl, ht, hcell⟩ := hx h0
    have := Tryz.strings_Join b off c (l.map str) ⟨#[32]⟩ w (by
      intro j x hj
      rw [List.getElem?_map] at hj
      rcases hl : l[j]? with _ | y
      · rw [hl] at hj
        cases hj
      · rw [hl] at hj
        injection hj with hj
        have h1 := hcell j (List.getElem?_eq_some_iff.1 hl).1
        dsimp only at h1
        rw [List.getD_eq_getElem?_getD, hl, Nat.mul_one] at h1
        rw [← hj]
        exact h1) ht.lt (by rw [List.length_map]; have := join_le l; omega) (by rw [List.length_map]; exact hc) (by rw [show (⟨#[32]⟩ : ByteArray).data.toList = [32] from rfl, hj, List.length_map]; omega)
    rw [List.length_map] at this
    refine this.mono ?_
    rintro e w' ⟨rfl, hb⟩
    refine ⟨?_, hb⟩
    rw [show (⟨#[32]⟩ : ByteArray).data.toList = [32] from rfl, hj]
    rfl
set_option maxHeartbeats 4000000 in
theorem doWords_any (d : Ac.D) (w : World) (h1 : 1 ≤ d.kind) (h2 : d.kind ≤ 11) (hn : d.n ≤ 99999) (ht : d.text.length ≤ 1000) (hT : ∀ W, Below w.heap.size w W → Tabs W) :
    Calls Tryz.prog 80 #[.agg #[.int .i64 (d.kind : Int), .int .i64 (d.n : Int), .string (str d.text)]] w (MadeT w.heap.size (Pn.doW d) w) := by
  obtain ⟨K, n, t⟩ := d
  dsimp only at h1 h2 hn ht ⊢
  have HT := Lib.hid hT
  have HB : Hid (∀ o, Below w.heap.size w (w.alloc o)) := Lib.hid (fun o => (Below.refl _ _).alloc (Nat.le_refl _) o)
  have HN := Lib.hid hn
  have hq : str ([34] ++ t) = ⟨#[34]⟩ ++ str t := by rw [← str_add]; rfl
  have hq2 : str ([34] ++ t ++ [34]) = ⟨#[34]⟩ ++ str t ++ ⟨#[34]⟩ := by rw [← str_add, ← str_add]; rfl
  have hz1 : ¬ 9223372036854775807 < (⟨#[34]⟩ : ByteArray).size + (str t).size := by rw [str_size]; show ¬ 9223372036854775807 < 1 + _; omega
  have hz2 : ¬ 9223372036854775807 < (⟨#[34]⟩ ++ str t : ByteArray).size + (⟨#[34]⟩ : ByteArray).size := by rw [← hq, str_size, List.length_append]; show ¬ 9223372036854775807 < [34].length + t.length + 1; simp; omega
  have HQ := Lib.hid hq2
  clear hT hn ht hq hq2
  rcases Ac.kind_cases h1 h2 with rfl | rfl | rfl | rfl | rfl | rfl | rfl | rfl | rfl | rfl | rfl
  · clear h1 h2
    go_enter Tryz.func80, Tryz.ntmps80
    go_wp2
    go_ret
    refine MadeT.lit1 w _ (Pn.doW ⟨1, n, t⟩) _ 2 rfl ?_ (by decide)
    show [Value.string _, Value.string _] = [.string (str _), .string (str ([34] ++ t ++ [34]))]
    rw [HQ.out]
    rfl
  · clear h1 h2
    clear hz1 hz2
    go_enter Tryz.func80, Tryz.ntmps80
    go_wp2_with fail
    refine (itoa_any n HN.out _ (HT.out _ (HB.out _))).mono ?_
    rintro e w2 ⟨rfl, hb2⟩
    have HB2 : Hid (Below w.heap.size w w2) := Lib.hid ((HB.out _).trans (hb2.mono (by simp)))
    clear hb2
    go_wp2
    go_ret
    exact MadeT.lit w w2 (Pn.doW ⟨2, n, t⟩) _ 2 rfl rfl HB2.out (by decide)
  · clear h1 h2
    clear hz1 hz2
    go_enter Tryz.func80, Tryz.ntmps80
    go_wp2
    go_ret
    refine MadeT.lit1 w _ (Pn.doW ⟨3, n, t⟩) _ 1 rfl ?_ (by decide)
    rfl
  · clear h1 h2
    clear hz1 hz2
    go_enter Tryz.func80, Tryz.ntmps80
    go_wp2
    go_ret
    refine MadeT.lit1 w _ (Pn.doW ⟨4, n, t⟩) _ 1 rfl ?_ (by decide)
    rfl
  · clear h1 h2
    clear hz1 hz2
    go_enter Tryz.func80, Tryz.ntmps80
    go_wp2
    go_ret
    refine MadeT.lit1 w _ (Pn.doW ⟨5, n, t⟩) _ 1 rfl ?_ (by decide)
    rfl
  · clear h1 h2
    clear hz1 hz2
    go_enter Tryz.func80, Tryz.ntmps80
    go_wp2
    go_ret
    refine MadeT.lit1 w _ (Pn.doW ⟨6, n, t⟩) _ 1 rfl ?_ (by decide)
    rfl
  · clear h1 h2
    clear hz1 hz2
    go_enter Tryz.func80, Tryz.ntmps80
    go_wp2_with fail
    refine (itoa_any n HN.out _ (HT.out _ (HB.out _))).mono ?_
    rintro e w2 ⟨rfl, hb2⟩
    have HB2 : Hid (Below w.heap.size w w2) := Lib.hid ((HB.out _).trans (hb2.mono (by simp)))
    clear hb2
    go_wp2
    go_ret
    exact MadeT.lit w w2 (Pn.doW ⟨7, n, t⟩) _ 2 rfl rfl HB2.out (by decide)
  · clear h1 h2
    clear hz1 hz2
    go_enter Tryz.func80, Tryz.ntmps80
    go_wp2_with fail
    refine (itoa_any n HN.out _ (HT.out _ (HB.out _))).mono ?_
    rintro e w2 ⟨rfl, hb2⟩
    have HB2 : Hid (Below w.heap.size w w2) := Lib.hid ((HB.out _).trans (hb2.mono (by simp)))
    clear hb2
    go_wp2
    go_ret
    exact MadeT.lit w w2 (Pn.doW ⟨8, n, t⟩) _ 2 rfl rfl HB2.out (by decide)
  · clear h1 h2
    clear hz1 hz2
    go_enter Tryz.func80, Tryz.ntmps80
    go_wp2
    go_ret
    refine MadeT.lit1 w _ (Pn.doW ⟨9, n, t⟩) _ 1 rfl ?_ (by decide)
    rfl
  · clear h1 h2
    go_enter Tryz.func80, Tryz.ntmps80
    go_wp2
    go_ret
    refine MadeT.lit1 w _ (Pn.doW ⟨10, n, t⟩) _ 2 rfl ?_ (by decide)
    show [Value.string _, Value.string _] = [.string (str _), .string (str ([34] ++ t ++ [34]))]
    rw [HQ.out]
    rfl
  · clear h1 h2
    clear hz1 hz2
    go_enter Tryz.func80, Tryz.ntmps80
    go_wp2
    go_ret
    refine MadeT.lit1 w _ (Pn.doW ⟨11, n, t⟩) _ 1 rfl ?_ (by decide)
    rfl
end Go.Proofs.YtgjehlegcmeeoaaGreatDoor

/- Print: the words of an action. -/
namespace Go.Proofs.YtgjehlegcmeeoaaGreatDoor
set_option maxRecDepth 100000
open Go.ChangeShapes Go.WideShapes Go.ChangeAt Go.RowKit Go.Shelf

/-- A thing that an action does, as it may be written. -/
structure GoodD (d : Ac.D) : Prop where
  k1 : 1 ≤ d.kind
  k2 : d.kind ≤ 11
  n : d.n ≤ 99999
  text : d.text.length ≤ 1000
theorem doW_len (d : Ac.D) : (Pn.doW d).length ≤ 2 := by
  unfold Pn.doW Ac.wordsD
  rw [List.length_map]
  split
  · simp
  · split <;> simp
theorem actW_len : ∀ l : List Ac.D, (Pn.actW l).length ≤ 3 * l.length
  | [] => Nat.zero_le _
  | [d] => by
    have := doW_len d
    show (Pn.doW d).length ≤ 3 * 1
    omega
  | d :: e :: r => by
    have h1 := doW_len d
    have h2 := actW_len (e :: r)
    have : Pn.actW (d :: e :: r) = Pn.doW d ++ [59] :: Pn.actW (e :: r) := by
      unfold Pn.actW Pn.doW
      rw [Ac.wordsOf, List.map_append, List.map_cons]
      rfl
    rw [this]
    simp only [List.length_append, List.length_cons] at h2 ⊢
    omega
theorem SlD.at {w : World} {A : Option Addr} {n c : Nat} {l : List Ac.D} (h : SlD w (.slice A n c) l) (k : Nat) (hk : k < l.length) (d : Ac.D) (hd : l.getD k ⟨0, 0, []⟩ = d) : ∃ b off, A = some ⟨b, off, none⟩ ∧ w.cell? ⟨b, off + k * 3, none⟩ = some (.int .i64 (d.kind : Int)) ∧ w.cell? ⟨b, off + k * 3 + 1, none⟩ = some (.int .i64 (d.n : Int)) ∧ w.cell? ⟨b, off + k * 3 + 2, none⟩ = some (.string (str d.text)) := by
  subst hd
  obtain ⟨A', c', e, _, _, hx⟩ := h
  injection e with e1 e2 e3
  subst e1
  obtain ⟨b, off, rfl, _, hc⟩ := hx (by omega)
  exact ⟨b, off, rfl, hc k hk⟩
theorem SlD.later {w w' : World} {v : Value} {l : List Ac.D} (h : SlD w v l) (hb : Below w.heap.size w w') : SlD w' v l := h.keep (Q := fun _ => True) (Keep.below hb) trivial
theorem one_later (W : World) (o : Obj) (l : List Nat) (b : ByteArray) (hb : b = str l) : SlT ((W.alloc o).alloc (.cells #[.string b] 9)) (.slice (some ⟨W.heap.size + 1, 0, none⟩) 1 1) [l] := by
  subst hb
  have := (ownT_one (W.alloc o) 0 l (Nat.zero_le _)).sl
  rwa [World.size_alloc] at this
set_option maxHeartbeats 8000000 in
theorem actionWords_any (v : Value) (L : List Ac.D) (w : World) (h : SlD w v L) (hg : ∀ d ∈ L, GoodD d) (hn : L.length ≤ 10000) (hT : ∀ W, Below w.heap.size w W → Tabs W) :
    Calls Tryz.prog 57 #[v] w (MadeT w.heap.size (Pn.actW L) w) := by
  have HT := Lib.hid hT
  have HG := Lib.hid hg
  have H := Lib.hid h
  obtain ⟨A, c, rfl, _⟩ := h
  obtain ⟨n, hn'⟩ : ∃ n, L.length = n := ⟨_, rfl⟩
  rw [hn'] at H hn ⊢
  have HN := Lib.hid hn'
  clear hT hg hn'
  go_enter Tryz.func57, Tryz.ntmps57
  go_wp2_with fail
  go_loopw [3, 8] (fun v' i wr => ∃ k : Nat, k ≤ n ∧ i = .int .i64 (k : Int) ∧ OwnT wr w.heap.size v' (Pn.actW (L.take k)) ∧ Below w.heap.size w wr) (fun _ i _ => n - (intOf i).toNat)
  case atStart => exact ⟨0, Nat.zero_le _, rfl, ownT_none _ _, Below.refl _ _⟩
  case round =>
    obtain ⟨k, hk, rfl, hv, hbz⟩ := hrel
    obtain ⟨wz, rfl⟩ : ∃ wx : World, wx = wr := ⟨_, rfl⟩
    obtain ⟨lv, rfl⟩ : ∃ l : Value, l = u3 := ⟨_, rfl⟩
    have HV := Lib.hid hv
    have HBZ := Lib.hid hbz
    have hsz := hbz.size
    clear hv hbz
    by_cases hlt : k < n
    · have hkI : (k : Int) < (n : Int) := by omega
      have hkL : k < L.length := by rw [HN.out]; exact hlt
      obtain ⟨d, hd⟩ : ∃ d, L.getD k ⟨0, 0, []⟩ = d := ⟨_, rfl⟩
      have HGD : Hid (GoodD d) := Lib.hid (HG.out d (by rw [← hd, List.getD_eq_getElem?_getD, List.getElem?_eq_getElem hkL]; exact List.getElem_mem hkL))
      have HX : Hid (Pn.actW (L.take k) ++ (if k = 0 then [] else [[59]]) ++ Pn.doW d = Pn.actW (L.take (k + 1))) := Lib.hid (by rw [Pn.actW_take L k hkL, hd])
      have HLEN : Hid ((Pn.actW (L.take k)).length ≤ 30000) := Lib.hid (by
        have := actW_len (L.take k)
        rw [List.length_take] at this
        omega)
      obtain ⟨b, off, rfl, p0, p1, p2⟩ := (H.out.later HBZ.out).at k hkL d hd
      have HD2 : Hid ((Pn.doW d).length ≤ 2) := Lib.hid (doW_len d)
      obtain ⟨R0, hR0⟩ : ∃ R, Pn.actW (L.take k) = R := ⟨_, rfl⟩
      rw [hR0] at HV HX HLEN
      obtain ⟨R1, hR1⟩ : ∃ R, Pn.actW (L.take (k + 1)) = R := ⟨_, rfl⟩
      have HR1 := Lib.hid hR1
      rw [hR1] at HX
      have HDO : Hid (∀ W, Below wz.heap.size wz W → Calls Tryz.prog 80 #[.agg #[.int .i64 (d.kind : Int), .int .i64 (d.n : Int), .string (str d.text)]] W (MadeT W.heap.size (Pn.doW d) W)) :=
        Lib.hid fun W hb => doWords_any d W HGD.out.k1 HGD.out.k2 HGD.out.n HGD.out.text fun W2 hb2 => HT.out W2 ((HBZ.out.trans (hb.mono hsz)).trans (hb2.mono (by have := hb.size; omega)))
      have HBO : Hid (∀ o, Below wz.heap.size wz (wz.alloc o)) := Lib.hid (fun o => (Below.refl _ _).alloc (Nat.le_refl _) o)
      clear hd hkL hR0 hR1
      by_cases hk0 : k = 0
      · have HX0 : Hid (R0 ++ Pn.doW d = R1) := Lib.hid (by have := HX.out; rwa [if_pos hk0, List.append_nil] at this)
        have hk1 : ¬ (k : Int) > 0 := by omega
        clear HX hk0
        go_wp2_with fail
        refine (HDO.out _ (HBO.out _)).mono ?_
        rintro e w2 ⟨v2, rfl, ho2, hb2⟩
        have HV2 : Hid (OwnT w2 w.heap.size lv R0) := Lib.hid ((HV.out.alloc _).under hb2)
        have HS2 := Lib.hid ho2.sl
        have HB2 : Hid (Below w.heap.size w w2) := Lib.hid ((HBZ.out.trans ((HBO.out _).mono hsz)).trans (hb2.mono (by simp; omega)))
        have hsz2 := HB2.out.size
        clear hb2 ho2
        go_wp2_with (at_builtin; refine wpList_append_texts rfl _ _ rfl w.heap.size _ _ R0 (Pn.doW d) rfl HV2.out rfl HS2.out ?_ hsz2 R1 HX0.out ?_)
        case refine_1 => have := HLEN.out; have := HD2.out; omega
        case refine_2 =>
          intro v' w' hg
          obtain ⟨ho', _, hb'⟩ := hg
          have HO' : Hid (OwnT w' w.heap.size v' (Pn.actW (L.take (k + 1)))) := Lib.hid (by rw [HR1.out]; exact ho')
          have HB' := Lib.hid (HB2.out.trans hb')
          clear ho' hb'
          go_wp2
          go_roundw
          case rel => exact ⟨k + 1, by omega, by go_num, HO'.out, HB'.out⟩
          case measure => simp [intOf]; omega
      · have HX0 : Hid ((R0 ++ [[59]]) ++ Pn.doW d = R1) := Lib.hid (by have := HX.out; rwa [if_neg hk0] at this)
        have hk1 : (k : Int) > 0 := by omega
        clear HX hk0
        go_wp2_with (at_builtin; refine wpList_append_texts rfl _ _ rfl w.heap.size _ _ R0 [[59]] rfl ((HV.out.alloc _).alloc _) rfl (one_later wz _ [59] _ rfl) ?_ (by simp; omega) (R0 ++ [[59]]) rfl ?_)
        case refine_1 => have := HLEN.out; simp; omega
        case refine_2 =>
          intro v' w' hg
          obtain ⟨ho', hg', hb'⟩ := hg
          have hbx : Blk w' wz.heap.size 101 #[.int .i64 (d.kind : Int), .int .i64 (d.n : Int), .string (str d.text)] := (Blk.alloc (show Blk (wz.alloc _) wz.heap.size _ _ from heap_alloc_new wz _) _).grown hg' (fun e => by have := (HV.out.lt _ e.symm).2; omega)
          have k0 : w'.cell? ⟨wz.heap.size, 0, none⟩ = some (.int .i64 (d.kind : Int)) := hbx.at 0
          have k1 : w'.cell? ⟨wz.heap.size, 1, none⟩ = some (.int .i64 (d.n : Int)) := hbx.at 1
          have k2 : w'.cell? ⟨wz.heap.size, 2, none⟩ = some (.string (str d.text)) := hbx.at 2
          have HO' := Lib.hid ho'
          have HB' : Hid (Below w.heap.size w w') := Lib.hid ((HBZ.out.trans (((HBO.out _).alloc (by simp) _).mono hsz)).trans hb')
          have hsz' : w.heap.size ≤ w'.heap.size := HB'.out.size
          have HDO2 : Hid (Calls Tryz.prog 80 #[.agg #[.int .i64 (d.kind : Int), .int .i64 (d.n : Int), .string (str d.text)]] w' (MadeT w'.heap.size (Pn.doW d) w')) :=
            Lib.hid (doWords_any d w' HGD.out.k1 HGD.out.k2 HGD.out.n HGD.out.text fun W2 hb2 => HT.out W2 (HB'.out.trans (hb2.mono hsz')))
          clear ho' hg' hb' hbx
          go_wp2_with fail
          refine HDO2.out.mono ?_
          rintro e w2 ⟨v2, rfl, ho2, hb2⟩
          have HV2 : Hid (OwnT w2 w.heap.size v' (R0 ++ [[59]])) := Lib.hid (HO'.out.under hb2)
          have HS2 := Lib.hid ho2.sl
          have HB2 : Hid (Below w.heap.size w w2) := Lib.hid (HB'.out.trans (hb2.mono hsz'))
          have hsz2 := HB2.out.size
          clear hb2 ho2
          go_wp2_with (at_builtin; refine wpList_append_texts rfl _ _ rfl w.heap.size _ _ (R0 ++ [[59]]) (Pn.doW d) rfl HV2.out rfl HS2.out ?_ hsz2 R1 HX0.out ?_)
          case refine_1 => have := HLEN.out; have := HD2.out; simp; omega
          case refine_2 =>
            intro v3 w3 hg3
            obtain ⟨ho3, _, hb3⟩ := hg3
            have HO3 : Hid (OwnT w3 w.heap.size v3 (Pn.actW (L.take (k + 1)))) := Lib.hid (by rw [HR1.out]; exact ho3)
            have HB3 := Lib.hid (HB2.out.trans hb3)
            clear ho3 hb3
            go_wp2
            go_roundw
            case rel => exact ⟨k + 1, by omega, by go_num, HO3.out, HB3.out⟩
            case measure => simp [intOf]; omega
    · obtain rfl : k = n := by omega
      have hkI : ¬ (k : Int) < (k : Int) := by omega
      go_wp2
      go_ret
      refine ⟨_, rfl, ?_, HBZ.out⟩
      have := HV.out
      rwa [List.take_of_length_le (by rw [HN.out]; exact Nat.le_refl _)] at this
end Go.Proofs.YtgjehlegcmeeoaaGreatDoor
