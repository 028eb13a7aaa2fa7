/- What package reco answers: the commits of a trace; and the document's own answer of it. -/
import Derived.Test.YtfheaognfocofaaZRecoSame
import Derived.Test.YtfheaognfocofaaZRecoRef
import Derived.Test.YtfheaognfocofaaZ07
namespace Go.Proofs.Ytfheaognfocofaa
set_option maxRecDepth 100000
open Go.ChangeShapes Go.WideShapes Go.ChangeAt Go.RowKit

theorem Rows2.take_ {w : World} {A : Option Addr} {n c k : Nat} {L : List (List Nat)} (h : Rows2 w (.slice A n c) L) (hk : k ≤ n) : Rows2 w (.slice A k c) (L.take k) := by
  have hn := h.len
  obtain ⟨h1, A', c', e, hc, hx⟩ := h
  injection e with e1 e2 e3
  subst e1
  subst e3
  have hl : (L.take k).length = k := by rw [List.length_take]; omega
  refine ⟨by rw [hl]; omega, A, c, by rw [hl], by rw [hl]; omega, fun h0 => ?_⟩
  rw [hl] at h0
  obtain ⟨b, off, rfl, hcl⟩ := hx (by omega)
  refine ⟨b, off, rfl, fun i hi => ?_⟩
  rw [hl] at hi
  obtain ⟨u, g1, g2⟩ := hcl i (by omega)
  refine ⟨u, g1, ?_⟩
  rw [List.getD_eq_getElem?_getD, List.getElem?_take, if_pos hi, ← List.getD_eq_getElem?_getD]
  exact g2

set_option maxRecDepth 100000 in
set_option maxHeartbeats 2000000 in
theorem rsize_any (v : Value) (L : List (List Nat)) (w : World) (h : Rows2 w v L) (hS : Rc.size L ≤ 1099511627776) (hx : ∀ k, k < L.length → (L.getD k []).length ≤ 10000) (q : Nat) (hq : Rc.size L = q) :
    Calls Try.prog 67 #[v] w fun e w' => e = .returned (.int .i64 (q : Int)) ∧ Below w.heap.size w w' := by
  have H := Lib.hid h
  obtain ⟨hm, A, c, rfl, hc, _⟩ := h
  have HQ := Lib.hid hq
  have HS := Lib.hid hS
  obtain ⟨n, hn⟩ : ∃ n, L.length = n := ⟨_, rfl⟩
  rw [hn] at H hm hc hx ⊢
  have HX := Lib.hid hx
  have HN := Lib.hid hn
  have hn9 : n ≤ 1099511627776 := by
    have h1 : ∀ M : List (List Nat), M.length ≤ Rc.size M := by
      intro M
      induction M with
      | nil => exact Nat.zero_le _
      | cons x M ih =>
        have : Rc.size (x :: M) = x.length + 10 + Rc.size M := by simp [Rc.size]
        rw [this, List.length_cons]
        omega
    have := h1 L
    omega
  clear hn hx hq hS
  go_enter Try.func67, Try.ntmps67
  go_wp2_with fail
  go_loopg [3, 8] n (fun g s i wr => ∃ k : Nat, k ≤ n ∧ n - k ≤ g ∧ i = .int .i64 (k : Int) ∧ (∃ m : Nat, s = .int .i64 (m : Int) ∧ Hid (Rc.size (L.take k) = m)) ∧ Hid (Below w.heap.size w wr))
  case atStart => exact ⟨0, by omega, by omega, rfl, ⟨0, rfl, Lib.hid rfl⟩, Lib.hid (Below.refl _ _)⟩
  case round =>
    obtain ⟨k, hk, hg, rfl, ⟨m, rfl, hms⟩, hbl⟩ := hrel
    obtain ⟨wz, rfl⟩ : ∃ wx : World, wx = wr := ⟨_, rfl⟩
    by_cases hlt : k < n
    · have hkI : (k : Int) < (n : Int) := by omega
      obtain ⟨b, off, u, rfl, hcu, hbu⟩ := (H.out.under hbl.out).at hlt
      have hnx := Rc.size_next (L := L) (k := k) (by rw [HN.out]; exact hlt)
      have hle := Rc.size_le L (k + 1)
      have hlx := HX.out k hlt
      obtain ⟨x, hxe⟩ : ∃ x, L.getD k [] = x := ⟨_, rfl⟩
      rw [hxe] at hbu hnx hlx
      have HBU := Lib.hid hbu
      have HNX : Hid (Rc.size (L.take (k + 1)) = m + (x.length + 10)) := Lib.hid (by rw [← hnx, hms.out])
      have hmb : Hid (m + (x.length + 10) ≤ 1099511627776) := Lib.hid (by have := HS.out; have := hms.out; omega)
      have HXL := Lib.hid hlx
      obtain ⟨_, _, Ax, cx, rfl, _, _⟩ := hbu.parts
      clear hbu hnx hle hlx
      go_wp2_with fail
      refine (put_is (.slice none 0 0) _ [] x ([] ++ Fr.frm x) wz (bytes_none _) HBU.out (by simp) (by have := HXL.out; omega) rfl).mono ?_
      rintro e w2 ⟨v2, rfl, ho2, hb2⟩
      have HB2 := Lib.hid (hbl.out.trans (hb2.mono hbl.out.size))
      obtain ⟨_, _, A2, c2, rfl, _, _⟩ := ho2.bytes.parts
      have hl2 : ([] ++ Fr.frm x).length = x.length + 10 := by rw [List.nil_append, Fr.frm_length]
      rw [hl2]
      obtain ⟨y, hy⟩ : ∃ y, x.length + 10 = y := ⟨_, rfl⟩
      rw [hy] at HNX hmb ⊢
      have hmy : m + y ≤ 1099511627776 := hmb.out
      clear ho2 hb2 hl2 hcu hy hxe hmb
      go_wp2
      go_roundg (n - (k + 1))
      all_goals first
        | omega
        | exact ⟨k + 1, hlt, by omega, by go_num, ⟨m + y, by go_num, HNX⟩, HB2⟩
    · obtain rfl : k = n := by omega
      have HV : Hid (m = q) := Lib.hid (by rw [← hms.out, ← HQ.out, List.take_of_length_le (Nat.le_of_eq HN.out)])
      go_wp2
      go_ret
      exact ⟨by rw [HV.out]; rfl, hbl.out⟩

/-- What a trace is told as. -/
def TraceIs (L : List (List Nat)) (w : World) (e : Ending) (w' : World) : Prop := Below w.heap.size w w' ∧ ∃ u, e = .returned (.tuple #[u, .int .i64 ((Rc.ends L : Nat) : Int)]) ∧ OwnDs w' w.heap.size u (Rc.lead L)

set_option maxRecDepth 100000 in
set_option maxHeartbeats 4000000 in
theorem rtrace_any (v : Value) (l : List Nat) (N : Nat) (L : List (List Nat)) (w : World) (h : Bytes w v l) (hS : Fr.Scn l N) (hl : l.length ≤ 1099511627776) (hLL : Fr.rows l N = L) :
    Calls Try.prog 55 #[v] w (TraceIs L w) := by
  have H := Lib.hid h
  have HS := Lib.hid hS
  have HL := Lib.hid hl
  obtain ⟨_, _, A0, c0, rfl, _, _⟩ := h.parts
  have hN := (hS.le (Nat.le_refl N)).2
  have hN2 := (hS.le (Nat.le_refl N)).1
  have HX : Hid (∀ k, k < N → ((Fr.rows l N).getD k []).length ≤ 10000) := Lib.hid (by
    intro k hk
    rw [Fr.rows_at _ _ _ hk, Fr.held_length (hS.1 k hk)]
    exact (Fr.whole_iff.1 (hS.1 k hk)).2.1)
  have HSZ : Hid (Rc.size (Fr.rows l N) = Fr.pos l N) := Lib.hid (by rw [Rc.pos_size hS (Nat.le_refl N), List.take_of_length_le (by rw [Fr.rows_length]; exact Nat.le_refl _)])
  have HE : Hid (Rc.size (Fr.rows l N) ≤ 1099511627776) := Lib.hid (by rw [HSZ.out]; omega)
  have hNb : N ≤ 1099511627776 := by omega
  have HLL := Lib.hid hLL
  clear h hS hl hLL
  go_enter Try.func55, Try.ntmps55
  go_wp2_with fail
  refine (scan_any _ l N w H.out HS.out HL.out).mono ?_
  rintro e w1 ⟨u, rfl, hou, hb1⟩
  have HB1 := Lib.hid hb1
  have HU := Lib.hid hou.rows
  obtain ⟨Au, cu, rfl, hcu⟩ := hou.parts
  have hrl := Fr.rows_length l N
  rw [HLL.out] at HU HX HSZ HE hrl hcu ⊢
  rw [hrl] at HU hcu ⊢
  have HN := Lib.hid hrl
  obtain ⟨q, hq⟩ : ∃ q, Fr.pos l N = q := ⟨_, rfl⟩
  rw [hq] at HSZ ⊢
  clear hou hb1 hrl hq hN hN2 HLL HS HL
  go_wp2_with fail
  go_loopg [6, 18] N (fun g s i wr => ∃ k : Nat, k ≤ N ∧ N - k ≤ g ∧ i = .int .i64 (k : Int) ∧ Hid (OwnDs wr w1.heap.size s (Rc.lead (L.take k))) ∧ Hid (Rc.GoodBy Rc.openD L k) ∧ Hid (Below w1.heap.size w1 wr))
  case atStart => exact ⟨0, by omega, by omega, rfl, Lib.hid (ownDs_none _ _), Lib.hid (fun j hj => absurd hj (by omega)), Lib.hid (Below.refl _ _)⟩
  case round =>
    obtain ⟨k, hk, hg, rfl, ho, hgd, hbl⟩ := hrel
    obtain ⟨wz, rfl⟩ : ∃ wx : World, wx = wr := ⟨_, rfl⟩
    obtain ⟨As, cs, rfl, hcs⟩ := ho.out.parts
    have hlk := Rc.leadBy_length hgd.out (by rw [HN.out]; exact hk)
    have hlk' : (Rc.lead (L.take k)).length = k := hlk
    rw [hlk'] at ho hcs ⊢
    have HLK := Lib.hid hlk'
    clear hlk hlk'
    by_cases hlt : k < N
    · have hkI : (k : Int) < (N : Int) := by omega
      obtain ⟨b, off, u, rfl, hcell, hbu⟩ := (HU.out.under hbl.out).at hlt
      have HXL := Lib.hid (HX.out k hlt)
      obtain ⟨x, hxe⟩ : ∃ x, L.getD k [] = x := ⟨_, rfl⟩
      have HXE := Lib.hid hxe
      rw [hxe] at hbu HXL
      have HBU := Lib.hid hbu
      obtain ⟨_, _, Ax, cx, rfl, _, _⟩ := hbu.parts
      obtain ⟨xl, hxl⟩ : ∃ n, x.length = n := ⟨_, rfl⟩
      rw [hxl] at HBU hcell
      have HXLL := Lib.hid hxl
      clear hbu hxe hxl
      have HB0 := Lib.hid (HB1.out.trans (hbl.out.mono HB1.out.size))
      obtain ⟨R, hR⟩ : ∃ R, Rc.openD x = R := ⟨_, rfl⟩
      have HR := Lib.hid hR
      clear hR
      go_wp2_with fail
      refine (ropenD_any _ x wz HBU.out (by have := HXL.out; omega) R HR.out).mono ?_
      rcases R with _ | ⟨t, p, who, inc⟩
      · rintro e w2 ⟨hb2, rfl⟩
        have HB2 := Lib.hid (hbl.out.trans (hb2.mono hbl.out.size))
        have HD : Hid (∀ o, Rows2 (w2.alloc o) (.slice (some ⟨b, off, none⟩) k cu) (L.take k)) := Lib.hid fun o => ((HU.out.under HB2.out).take_ hk).under ((Below.refl _ _).alloc (Nat.le_refl _) _)
        have HO2 := Lib.hid (ho.out.under hb2)
        have HV : Hid (Rc.lead (L.take k) = Rc.lead L ∧ Rc.ends L = Rc.size (L.take k)) := Lib.hid (by
          have e1 : Rc.lead (L.take k) = Rc.lead L := Rc.leadBy_stop hgd.out (by rw [HN.out]; exact hlt) (by rw [HXE.out, HR.out])
          refine ⟨e1, ?_⟩
          rw [Rc.ends, ← e1, HLK.out])
        have hcuI : (k : Int) ≤ (cu : Int) := by omega
        have hkc : k ≤ cu := by omega
        clear hb2
        go_wp2_with fail
        refine (rsize_any _ (L.take k) _ (HD.out _) (by have := Rc.size_le L k; have := HE.out; omega) (fun j hj => by rw [List.length_take] at hj; have h1 := HX.out j (by omega); rwa [List.getD_eq_getElem?_getD, List.getElem?_take, if_pos (by omega), ← List.getD_eq_getElem?_getD]) _ rfl).mono ?_
        rintro e w3 ⟨rfl, hb3⟩
        have hba : ∀ o, Below w2.heap.size w2 (w2.alloc o) := fun o => (Below.refl _ _).alloc (Nat.le_refl _) _
        have HO3 := Lib.hid ((HO2.out.under (hba _)).under hb3)
        have HB3 := Lib.hid ((HB2.out.trans ((hba _).mono HB2.out.size)).trans (hb3.mono (Nat.le_trans HB2.out.size (hba _).size)))
        clear hb3 hba
        go_wp2
        go_ret2
        refine ⟨HB1.out.trans (HB3.out.mono HB1.out.size), _, by rw [HV.out.2]; rfl, ?_⟩
        rw [← HV.out.1]
        exact HO3.out.more HB1.out.size
      · rintro e w2 ⟨hb2, y, rfl, hoy⟩
        have HB2 := Lib.hid (hbl.out.trans (hb2.mono hbl.out.size))
        have HO2 := Lib.hid (ho.out.under hb2)
        have HY2 := Lib.hid (hoy.more (base' := w1.heap.size) hbl.out.size)
        have HNX := Lib.hid (Rc.leadBy_next hgd.out (by rw [HN.out]; exact hlt) (by rw [HXE.out]; exact HR.out))
        obtain ⟨_, _, Ay, cy, rfl, _, _⟩ := hoy.bytes.parts
        obtain ⟨T, hT, ho2, hT2⟩ := HO2.out
        have HT2 := Lib.hid hT2
        have HT := Lib.hid hT
        have HTO := Lib.hid ho2
        have hTl : Hid (T.length = k) := Lib.hid (by rw [← HLK.out, ← hT, List.length_map])
        obtain ⟨py, hpy⟩ : ∃ n, p.length = n := ⟨_, rfl⟩
        rw [hpy] at HY2 ⊢
        clear hb2 hoy hT ho2 hT2 hpy
        go_wp2_with (at_builtin; refine wpList_append_dones rfl _ _ rfl w1.heap.size _ _ T [((t, p, who, inc), .slice Ay py cy)] rfl ((HTO.out.alloc _).alloc _) rfl (rdN_two w2 _ t p who inc (.slice Ay py cy) (0, 0)) (fun x hx => by rw [List.mem_singleton.1 hx]; rfl) (by rw [hTl.out, List.length_singleton]; omega) ?_ _ rfl ?_)
        case refine_1 => have := HB2.out.size; simp; omega
        case refine_2 =>
          rintro u' w3 hgr
          have hba : ∀ o o', Below w2.heap.size w2 ((w2.alloc o).alloc o') := fun o o' => ((Below.refl _ _).alloc (Nat.le_refl _) _).alloc (by simp) _
          have HB3 := Lib.hid ((HB2.out.trans ((hba _ _).mono HB2.out.size)).trans hgr.2.2.1)
          have HO3 : Hid (OwnDs w3 w1.heap.size u' (Rc.lead (L.take (k + 1)))) := Lib.hid (by
            have e1 : Rc.lead (L.take k) ++ [(t, p, who, inc)] = Rc.lead (L.take (k + 1)) := HNX.out.1
            rw [← e1]
            exact OwnDs.grew HT.out ((HTO.out.alloc _).alloc _) (fun y hy => ((HT2.out y hy).alloc _).alloc _) ((HY2.out.alloc _).alloc _) hgr)
          clear hgr hba
          go_wp2
          go_roundg (N - (k + 1))
          all_goals first
            | omega
            | exact ⟨k + 1, hlt, by omega, by go_num, HO3, Lib.hid HNX.out.2, HB3⟩
    · obtain rfl : k = N := by omega
      have HV : Hid (Rc.lead (L.take k) = Rc.lead L ∧ Rc.ends L = q) := Lib.hid (by
        have e1 : Rc.lead (L.take k) = Rc.lead L := Rc.leadBy_end HN.out.symm
        refine ⟨e1, ?_⟩
        rw [Rc.ends, ← e1, HLK.out, List.take_of_length_le (Nat.le_of_eq HN.out), HSZ.out])
      go_wp2
      go_ret2
      refine ⟨HB1.out.trans (hbl.out.mono HB1.out.size), _, by rw [HV.out.2]; rfl, ?_⟩
      rw [← HV.out.1]
      exact ho.out.more HB1.out.size
set_option maxRecDepth 100000 in
set_option maxHeartbeats 4000000 in
theorem reftrace_any (v : Value) (l : List Nat) (N : Nat) (L : List (List Nat)) (w : World) (h : Bytes w v l) (hS : Fr.Scn l N) (hl : l.length ≤ 1099511627776) (hLL : Fr.rows l N = L) :
    Calls Try.prog 14 #[v] w (TraceIs L w) := by
  have H := Lib.hid h
  have HS := Lib.hid hS
  have HL := Lib.hid hl
  obtain ⟨_, _, A0, c0, rfl, _, _⟩ := h.parts
  have hN := (hS.le (Nat.le_refl N)).2
  have hN2 := (hS.le (Nat.le_refl N)).1
  have HX : Hid (∀ k, k < N → ((Fr.rows l N).getD k []).length ≤ 10000) := Lib.hid (by
    intro k hk
    rw [Fr.rows_at _ _ _ hk, Fr.held_length (hS.1 k hk)]
    exact (Fr.whole_iff.1 (hS.1 k hk)).2.1)
  have HSZ : Hid (Rc.size (Fr.rows l N) = Fr.pos l N) := Lib.hid (by rw [Rc.pos_size hS (Nat.le_refl N), List.take_of_length_le (by rw [Fr.rows_length]; exact Nat.le_refl _)])
  have HE : Hid (Rc.size (Fr.rows l N) ≤ 1099511627776) := Lib.hid (by rw [HSZ.out]; omega)
  have hNb : N ≤ 1099511627776 := by omega
  have HLL := Lib.hid hLL
  clear h hS hl hLL
  go_enter Try.func14, Try.ntmps14
  go_wp2_with fail
  refine (refscan_any _ l N w H.out HS.out HL.out).mono ?_
  rintro e w1 ⟨u, rfl, hou, hb1⟩
  have HB1 := Lib.hid hb1
  have HU := Lib.hid hou.rows
  obtain ⟨Au, cu, rfl, hcu⟩ := hou.parts
  have hrl := Fr.rows_length l N
  rw [HLL.out] at HU HX HSZ HE hrl hcu ⊢
  rw [hrl] at HU hcu ⊢
  have HN := Lib.hid hrl
  obtain ⟨q, hq⟩ : ∃ q, Fr.pos l N = q := ⟨_, rfl⟩
  rw [hq] at HSZ ⊢
  clear hou hb1 hrl hq hN hN2 HLL HS HL
  go_wp2_with fail
  go_loopg [6, 7, 8] N (fun g s en i wr => ∃ k : Nat, k ≤ N ∧ N - k ≤ g ∧ i = .int .i64 (k : Int) ∧ (∃ m : Nat, en = .int .i64 (m : Int) ∧ m ≤ 1099511627776 ∧ Hid (Rc.size (L.take k) = m)) ∧ Hid (OwnDs wr w1.heap.size s (Rc.lead (L.take k))) ∧ Hid (Rc.GoodBy Rc.openD L k) ∧ Hid (Below w1.heap.size w1 wr))
  case atStart => exact ⟨0, by omega, by omega, rfl, ⟨0, rfl, by omega, Lib.hid rfl⟩, Lib.hid (ownDs_none _ _), Lib.hid (fun j hj => absurd hj (by omega)), Lib.hid (Below.refl _ _)⟩
  case round =>
    obtain ⟨k, hk, hg, rfl, ⟨m, rfl, hm40, hms⟩, ho, hgd, hbl⟩ := hrel
    obtain ⟨wz, rfl⟩ : ∃ wx : World, wx = wr := ⟨_, rfl⟩
    obtain ⟨As, cs, rfl, hcs⟩ := ho.out.parts
    have hlk := Rc.leadBy_length hgd.out (by rw [HN.out]; exact hk)
    have hlk' : (Rc.lead (L.take k)).length = k := hlk
    rw [hlk'] at ho hcs ⊢
    have HLK := Lib.hid hlk'
    clear hlk hlk'
    by_cases hlt : k < N
    · have hkI : (k : Int) < (N : Int) := by omega
      obtain ⟨b, off, u, rfl, hcell, hbu⟩ := (HU.out.under hbl.out).at hlt
      have HXL := Lib.hid (HX.out k hlt)
      obtain ⟨x, hxe⟩ : ∃ x, L.getD k [] = x := ⟨_, rfl⟩
      have HXE := Lib.hid hxe
      rw [hxe] at hbu HXL
      have HBU := Lib.hid hbu
      obtain ⟨_, _, Ax, cx, rfl, _, _⟩ := hbu.parts
      obtain ⟨xl, hxl⟩ : ∃ n, x.length = n := ⟨_, rfl⟩
      rw [hxl] at HBU hcell
      have HXLL := Lib.hid hxl
      clear hbu hxe hxl
      have HB0 := Lib.hid (HB1.out.trans (hbl.out.mono HB1.out.size))
      obtain ⟨R, hR⟩ : ∃ R, Rc.openD x = R := ⟨_, rfl⟩
      have HR := Lib.hid hR
      clear hR
      go_wp2_with fail
      refine (refopenD_any _ x wz HBU.out (by have := HXL.out; omega) R HR.out).mono ?_
      rcases R with _ | ⟨t, p, who, inc⟩
      · rintro e w2 ⟨hb2, rfl⟩
        have HB2 := Lib.hid (hbl.out.trans (hb2.mono hbl.out.size))
        have HO2 := Lib.hid (ho.out.under hb2)
        have HV : Hid (Rc.lead (L.take k) = Rc.lead L ∧ Rc.ends L = m) := Lib.hid (by
          have e1 : Rc.lead (L.take k) = Rc.lead L := Rc.leadBy_stop hgd.out (by rw [HN.out]; exact hlt) (by rw [HXE.out, HR.out])
          refine ⟨e1, ?_⟩
          rw [Rc.ends, ← e1, HLK.out, hms.out])
        have hba : ∀ o, Below w2.heap.size w2 (w2.alloc o) := fun o => (Below.refl _ _).alloc (Nat.le_refl _) _
        have HO3 := Lib.hid (fun o => HO2.out.under (hba o))
        have HB3 := Lib.hid (fun o => HB2.out.trans ((hba o).mono HB2.out.size))
        clear hb2 hba
        go_wp2
        go_ret2
        refine ⟨HB1.out.trans ((HB3.out _).mono HB1.out.size), _, by rw [HV.out.2]; rfl, ?_⟩
        rw [← HV.out.1]
        exact (HO3.out _).more HB1.out.size
      · rintro e w2 ⟨hb2, y, rfl, hoy⟩
        have HB2 := Lib.hid (hbl.out.trans (hb2.mono hbl.out.size))
        have HO2 := Lib.hid (ho.out.under hb2)
        have HY2 := Lib.hid (hoy.more (base' := w1.heap.size) hbl.out.size)
        have HNX := Lib.hid (Rc.leadBy_next hgd.out (by rw [HN.out]; exact hlt) (by rw [HXE.out]; exact HR.out))
        obtain ⟨_, _, Ay, cy, rfl, _, _⟩ := hoy.bytes.parts
        obtain ⟨T, hT, ho2, hT2⟩ := HO2.out
        have HT2 := Lib.hid hT2
        have HT := Lib.hid hT
        have HTO := Lib.hid ho2
        have hTl : Hid (T.length = k) := Lib.hid (by rw [← HLK.out, ← hT, List.length_map])
        obtain ⟨py, hpy⟩ : ∃ n, p.length = n := ⟨_, rfl⟩
        rw [hpy] at HY2 ⊢
        have hnx := Rc.size_next (L := L) (k := k) (by rw [HN.out]; exact hlt)
        have hle := Rc.size_le L (k + 1)
        rw [HXE.out, HXLL.out, hms.out] at hnx
        have hm4 : m + (xl + 10) ≤ 1099511627776 := by have := HE.out; omega
        have HM4 : Hid (Rc.size (L.take (k + 1)) = m + 10 + xl) := Lib.hid (by omega)
        have hcell2 := cell_later hb2 hcell
        clear hb2 hoy hT ho2 hT2 hpy hnx hle
        go_wp2_with (at_builtin; refine wpList_append_dones rfl _ _ rfl w1.heap.size _ _ T [((t, p, who, inc), .slice Ay py cy)] rfl ((HTO.out.alloc _).alloc _) rfl (rdN_two w2 _ t p who inc (.slice Ay py cy) (0, 0)) (fun x hx => by rw [List.mem_singleton.1 hx]; rfl) (by rw [hTl.out, List.length_singleton]; omega) ?_ _ rfl ?_)
        case refine_1 => have := HB2.out.size; simp; omega
        case refine_2 =>
          rintro u' w3 hgr
          have hba : ∀ o o', Below w2.heap.size w2 ((w2.alloc o).alloc o') := fun o o' => ((Below.refl _ _).alloc (Nat.le_refl _) _).alloc (by simp) _
          have HB3 := Lib.hid ((HB2.out.trans ((hba _ _).mono HB2.out.size)).trans hgr.2.2.1)
          have HO3 : Hid (OwnDs w3 w1.heap.size u' (Rc.lead (L.take (k + 1)))) := Lib.hid (by
            have e1 : Rc.lead (L.take k) ++ [(t, p, who, inc)] = Rc.lead (L.take (k + 1)) := HNX.out.1
            rw [← e1]
            exact OwnDs.grew HT.out ((HTO.out.alloc _).alloc _) (fun y hy => ((HT2.out y hy).alloc _).alloc _) ((HY2.out.alloc _).alloc _) hgr)
          have hcell3 : w3.cell? ⟨b, off + k, none⟩ = some (.slice Ax xl cx) := by
            obtain ⟨b', off', u1, e1, hc1, -⟩ := HU.out.at hlt
            injection e1 with e1
            injection e1 with e1 e2
            subst e1 e2
            exact (hgr.2.2.1.cell (p := ⟨b, off + k, none⟩) (World.block_lt_of_cell? _ _ hc1)).trans (cell_later (hba _ _) hcell2)
          clear hgr hba hcell2
          go_wp2
          go_roundg (N - (k + 1))
          all_goals first
            | omega
            | exact ⟨k + 1, hlt, by omega, by go_num, ⟨m + 10 + xl, by go_num, by omega, HM4⟩, HO3, Lib.hid HNX.out.2, HB3⟩
    · obtain rfl : k = N := by omega
      have HV : Hid (Rc.lead (L.take k) = Rc.lead L ∧ Rc.ends L = m) := Lib.hid (by
        have e1 : Rc.lead (L.take k) = Rc.lead L := Rc.leadBy_end HN.out.symm
        refine ⟨e1, ?_⟩
        rw [Rc.ends, ← e1, HLK.out, hms.out])
      go_wp2
      go_ret2
      refine ⟨HB1.out.trans (hbl.out.mono HB1.out.size), _, by rw [HV.out.2]; rfl, ?_⟩
      rw [← HV.out.1]
      exact ho.out.more HB1.out.size
end Go.Proofs.Ytfheaognfocofaa
