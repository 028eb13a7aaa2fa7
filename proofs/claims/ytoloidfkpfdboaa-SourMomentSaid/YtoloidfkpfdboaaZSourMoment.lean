/- SourMoment: what it tells at last were the values of all at one moment. -/
import Derived.Test.YtoloidfkpfdboaaZSourThen
import Derived.Test.YtoloidfkpfdboaaZSourActs
import Derived.Test.YtoloidfkpfdboaaZSourOut
import Derived.Test.YtoloidfkpfdboaaZSourAwake
import Derived.Deep.LoopGhost
namespace Go.Proofs.Ytoloidfkpfdboaa
set_option maxRecDepth 100000
open Go.ChangeShapes Go.WideShapes Go.ChangeAt Go.RowKit Go.ChangeMaps
open Sf
variable {K K' X : Nat → Prop} {w0 w w' w1 : World} {p g : Nat} {s s' : S} {fv vn vv vs : Value} {us : List Value} {x : Sr.R}

/-- A row of K other than g has grown; what was made for it is held, too. -/
theorem SrAt.grownNew (h : SrAt K w0 w p g s fv x) (hg : K g) {row : Option Nat} (hr : ∀ b, row = some b → (K b ∧ b ≠ g) ∧ w0.heap.size ≤ b) (hgr : w.grownBy w1 row) : SrAt (fun k => K k ∨ (w.heap.size ≤ k ∧ k < w1.heap.size)) w0 w1 p g s fv x := by
  obtain ⟨⟨X, vn, vv, vs, us, h⟩, ho⟩ := h
  refine SrIn.at (X := X) (vn := vn) (vv := vv) (vs := vs) (us := us) ?_ ho
  have hlt : ∀ k, (K k ∨ X k) → k < w.heap.size := fun k hk => h.fk.lt hk
  have hk : ∀ k, (X k ∨ k = g) → w1.heap[k]? = w.heap[k]? := fun k hk => by
    refine hgr.block k (hlt k (hk.elim .inr fun e => .inl (e ▸ hg))) fun e => ?_
    have := (hr k e.symm).1
    rcases hk with hk | hk
    · exact h.xk k hk this.1
    · exact this.2 hk
  refine ⟨(hk g (.inr rfl)).trans h.blk, ownsRow_block h.names fun k e => hk k (.inl (h.xn k e)), h.vals.blocks (fun k e => hk k (.inl (h.xv k e))) fun u hu k e => hk k (.inl (h.xu u hu k e)), ownsRow_block h.stamps fun k e => hk k (.inl (h.xs k e)), h.xn, h.xv, h.xu, h.xs, fun k hx hk2 => ?_, ?_⟩
  · rcases hk2 with hk2 | hk2
    · exact h.xk k hx hk2
    · have := hlt k (.inr hx)
      omega
  · refine (h.fk.grownNew (fun b hb => ⟨.inl (hr b hb).1.1, (hr b hb).2⟩) hgr).less _ fun k hk2 => ?_
    rcases hk2 with (hk2 | hk2) | hk2
    · exact .inl (.inl hk2)
    · exact .inr hk2
    · exact .inl (.inr hk2)
def moFv : Value := .func (.func 10) #[] #[]
def MoBlk (w : World) (q : Nat) : Prop := Blk w q 9 #[.string (str [115]), .string (str [116]), .string (str [97]), .string (str [98])]
theorem MoBlk.at {q : Nat} (h : MoBlk w q) {i : Nat} (hi : i < 4) : w.cell? ⟨q, i, none⟩ = some (.string (str (Sr.moL.getD i []))) := by
  have hb : Blk w q 9 #[.string (str [115]), .string (str [116]), .string (str [97]), .string (str [98])] := h
  have h1 : i = 0 ∨ i = 1 ∨ i = 2 ∨ i = 3 := by omega
  rcases h1 with rfl | rfl | rfl | rfl <;> exact hb.at _
set_option maxRecDepth 100000 in
set_option maxHeartbeats 16000000 in
theorem srmoment_any (v0 v1 : Value) (l0 l1 : List Int) (w : World) (hl0 : Ints w v0 l0) (hl1 : Ints w v1 l1) : Calls Try.prog 5 #[v0, v1] w fun e w' => e = .returned (.bool true) ∧ Below w.heap.size w w' := by
  have HI0 := Lib.hid hl0
  have HI1 := Lib.hid hl1
  obtain ⟨-, hm0, A0, c0, rfl, -, -⟩ := hl0
  obtain ⟨-, hm1, A1, c1, rfl, -, -⟩ := hl1
  obtain ⟨n0, hn0⟩ : ∃ n, l0.length = n := ⟨_, rfl⟩
  obtain ⟨n1, hn1⟩ : ∃ n, l1.length = n := ⟨_, rfl⟩
  rw [hn0] at HI0 hm0 ⊢
  rw [hn1] at HI1 hm1 ⊢
  have HN0 := Lib.hid hn0
  have HN1 := Lib.hid hn1
  clear hn0 hn1
  go_enter Try.func5, Try.ntmps5
  go_wp2_with fail
  refine (fs_new 1048576 w).mono ?_
  rintro e w1 ⟨p, rfl, h1⟩
  have H1 : Hid (Fk (fun _ => False) w w1 p (new 1048576)) := Lib.hid h1.keep
  clear h1
  go_upto_region 5 with fail
  obtain ⟨w2, q, K, hw2, hq, h2, kq, -, b2, bb2, bq⟩ := H1.out.box 9 #[.string (str [115]), .string (str [116]), .string (str [97]), .string (str [98])]
  have ka : ({ data := #[115] } : ByteArray) = str [115] := rfl
  have kb : ({ data := #[116] } : ByteArray) = str [116] := rfl
  have k3 : ({ data := #[97] } : ByteArray) = str [97] := rfl
  have k4 : ({ data := #[98] } : ByteArray) = str [98] := rfl
  rw [ka, kb, k3, k4, hw2, hq]
  have H2 := Lib.hid h2
  have KQ := Lib.hid (show K q ∧ w.heap.size ≤ q from ⟨kq, bq⟩)
  have HBQ : Hid (MoBlk w2 q) := Lib.hid b2
  clear hw2 hq h2 kq b2 bb2 bq ka kb k3 k4 H1
  go_wp2_with fail
  go_loopg [31] 4 (fun gg s31 wr => ∃ (i : Nat) (s : S), i ≤ 4 ∧ 4 - i ≤ gg ∧ s31 = .int .i64 (i : Int) ∧ Hid (Sr.Mo s i i) ∧ Hid (Fk K w wr p s) ∧ Hid (MoBlk wr q))
  case atStart => exact ⟨0, _, by omega, by omega, rfl, Lib.hid Sr.mo_begin, H2, HBQ⟩
  case round =>
    clear H2 HBQ
    obtain ⟨i, s, hi, hgg, rfl, HM, HF, HBQ⟩ := hrel
    obtain ⟨wz, rfl⟩ : ∃ wx : World, wx = wr := ⟨_, rfl⟩
    by_cases hlt : i < 4
    · have hltI : (i : Int) < 4 := by omega
      obtain ⟨t, ht⟩ : ∃ t, Sr.moL.getD i [] = t := ⟨_, rfl⟩
      have hcell := HBQ.out.at hlt
      have hnice := Sr.mo_small _ (Sr.mo_mem hlt)
      have hput := HM.out.put (n := 0) (by omega) hlt (Nat.le_refl _) (by omega)
      rw [if_pos rfl] at hput
      rw [ht] at hcell hnice hput
      have hn : s.next ≤ 1073741824 ∧ used s.l + 1000 ≤ 274877906944 := by
        have := HM.out.next
        have := HM.out.used
        omega
      have C := Lib.hid (srwrite_any (P := fun W s => Fk K w W p s) (K := K) (w := wz) t 0 (by decide) (srPut_fk t hnice hn.1 hn.2) HF.out hnice.1)
      rw [hput.1] at C
      have HM2 := Lib.hid hput.2
      clear ht hnice hput hn
      go_wp2_with fail
      refine C.out.mono ?_
      rintro e w5 ⟨rfl, hf5, hk5⟩
      have HF5 := Lib.hid hf5
      have HB5 : Hid (MoBlk w5 q) := Lib.hid (hk5.blk KQ.out.1 HBQ.out)
      clear hf5 hk5 C hcell HF HBQ HM
      go_wp2
      go_roundg (4 - (i + 1))
      case rel => exact ⟨i + 1, _, by omega, by omega, by go_num, HM2, HF5, HB5⟩
      case measure => omega
    · obtain rfl : i = 4 := by omega
      clear hlt hi hgg
      obtain ⟨m0, hm0'⟩ : ∃ m, min n0 6 = m := ⟨_, rfl⟩
      have hm6 : m0 ≤ 6 ∧ m0 ≤ n0 ∧ (m0 = n0 ∨ m0 = 6) := by omega
      clear hm0'
      go_wp2_with fail
      go_loopg [9, 10] m0 (fun gg s9 s10 wr => ∃ (k : Nat) (K' : Nat → Prop), k ≤ m0 ∧ m0 - k ≤ gg ∧ s10 = .int .i64 (k : Int) ∧ Hid (Fk K' w wr p s) ∧ Hid (MoBlk wr q ∧ K' q) ∧ Hid (OwnT wr w.heap.size s9 (Sr.moN l0 k)) ∧ Hid (∀ j, s9.ownBlock = some j → K' j ∧ j ≠ q))
      case atStart => exact ⟨0, K, by omega, by omega, rfl, HF, Lib.hid ⟨HBQ.out, KQ.out.1⟩, Lib.hid (ownT_none _ _), Lib.hid fun j hj => by simp [Value.ownBlock] at hj⟩
      case round =>
        clear HF HBQ
        obtain ⟨k, K2, hk, hgg, rfl, HF, HBQ, HO, HKO⟩ := hrel
        obtain ⟨wy, rfl⟩ : ∃ wx : World, wx = wr := ⟨_, rfl⟩
        by_cases hlt : k < m0
        · have hkI : (k : Int) < (n0 : Int) := by omega
          have hk6 : (k : Int) < 6 := by omega
          obtain ⟨b0, o0, rfl, hc0⟩ := (HI0.out.under HF.out.fs.below).at (k := k) (by omega)
          obtain ⟨ii, hii, hii3⟩ := lg_and (l0.getD k 0) 3 (by decide)
          have hii' : bits .and .i64 (l0.getD k 0) 3 = (ii : Int) := hii
          have hnx := Sr.moN_next (l := l0) (k := k) (by rw [HN0.out]; omega) hii'
          obtain ⟨z, hz⟩ : ∃ z, l0.getD k 0 = z := ⟨_, rfl⟩
          rw [hz] at hc0 hii'
          have hcell := HBQ.out.1.at (i := ii) (by omega)
          obtain ⟨t, ht⟩ : ∃ t, Sr.moL.getD ii [] = t := ⟨_, rfl⟩
          rw [ht] at hcell hnx
          have hiI : (ii : Int) < 4 := by omega
          have hb1 : Below wy.heap.size wy (wy.alloc (.cells #[.string (str t)] 9)) := (Below.refl _ _).alloc (Nat.le_refl _) _
          obtain ⟨v3, w3, hr3, ho3, hg3, hat3⟩ := run_append_srT (T := 24) (ty := 24) Try.underlying24 (HO.out.under hb1) (srT_lit wy wy.heap.size rfl [t] 1 rfl 9 (0, 0)) (by rw [Sr.moN_len (by rw [HN0.out]; omega)]; simp; omega) (Nat.le_trans HF.out.fs.below.size hb1.size)
          rw [hnx] at ho3
          have hf3 := (HF.out.under hb1).grownNew (fun b hb => ⟨(HKO.out b hb).1, (HO.out.lt b hb).1⟩) hg3
          have hql : q < wy.heap.size := Blk.size (show Blk wy q _ _ from HBQ.out.1)
          obtain ⟨K3, hK3⟩ : ∃ K' : Nat → Prop, (fun j => K2 j ∨ ((wy.alloc (.cells #[.string (str t)] 9)).heap.size ≤ j ∧ j < w3.heap.size)) = K' := ⟨_, rfl⟩
          have HKV : Hid (∀ j, v3.ownBlock = some j → K3 j ∧ j ≠ q) := Lib.hid fun j hj => by
            rw [← hK3]
            rcases hat3 with h | h
            · exact ⟨.inl (HKO.out j (h ▸ hj)).1, (HKO.out j (h ▸ hj)).2⟩
            · have := (ho3.lt j hj).2
              rw [h] at hj
              injection hj with hj
              have := hb1.size
              exact ⟨.inr ⟨by omega, by omega⟩, by omega⟩
          rw [hK3] at hf3
          have HB3 : Hid (MoBlk w3 q ∧ K3 q) := Lib.hid ⟨by
            exact Blk.grown (Blk.under (show Blk wy q _ _ from HBQ.out.1) hb1) hg3 fun e => (HKO.out q e.symm).2 rfl, by rw [← hK3]; exact .inl HBQ.out.2⟩
          have HF3 := Lib.hid hf3
          have HO3 := Lib.hid ho3
          have HR3 := Lib.hid hr3
          clear hql hb1 hr3 ho3 hg3 hat3 hK3 hf3 hii hii3 hnx hz ht HF HBQ HO HKO
          go_wp2_with (first
            | (at_builtin; refine wpList_append_eq rfl _ _ 24 rfl _ _ rfl rfl HR3.out ?_)
            | fail)
          go_wp2
          go_roundg (m0 - (k + 1))
          case rel => exact ⟨k + 1, _, by omega, by omega, by go_num, HF3, HB3, HO3, HKV⟩
          case measure => omega
        · obtain rfl : k = m0 := by omega
          have hcond : ¬ ((k : Int) < (n0 : Int)) ∨ ((k : Int) < (n0 : Int) ∧ ¬ ((k : Int) < 6)) := by omega
          obtain ⟨L, hL⟩ : ∃ L, Sr.moN l0 k = L := ⟨_, rfl⟩
          have hLN : L.length = k := by rw [← hL]; exact Sr.moN_len (by rw [HN0.out]; omega)
          have HLM : Hid (∀ t ∈ L, t ∈ Sr.moL) := Lib.hid (by rw [← hL]; exact Sr.moN_in l0 k)
          rw [hL] at HO
          obtain ⟨Al, cl, rfl⟩ := ownT_sl HO.out
          rw [hLN] at HO HKO
          have HSR : Hid (SrT wy (.slice Al k cl) L) := Lib.hid (by have := HO.out.srT; exact this)
          have HLN := Lib.hid hLN
          have HF0 : Hid (Sr.Hist (Sr.acts s l1) (min n1 60) ∧ Sr.There Sr.made (Sr.acts s l1) L ∧ ∀ j, Sr.Mo (Sr.acts s l1 j) 4 (4 + min j 60)) := Lib.hid (by
            have h1 := Sr.acts_hist HM.out l1
            rw [HN1.out] at h1
            exact ⟨h1, Sr.acts_there HM.out l1 HLM.out, Sr.acts_mo HM.out l1⟩)
          have CN := Lib.hid (srnew_any HF.out HSR.out (fun t ht => Sr.mo_small t (HLM.out t ht)) (by rw [HLN.out]; omega) (.func 10) #[] #[])
          have HMD := Lib.hid (fun W => srmade_is W)
          have hk6 := hm6.1
          clear hL hLN hlt hk hgg hm6 HI0 HN0
          rw [HLN.out]
          rcases hcond with h1 | ⟨h1, h2⟩
          all_goals
            go_wp2_with fail
            refine CN.out.mono ?_
            rintro e w4 ⟨g, rfl, hgs, hs4, hb4⟩
            obtain ⟨K4, hK4⟩ : ∃ K', (fun j => K2 j ∨ j = g) = K' := ⟨_, rfl⟩
            have HKG : Hid (K4 g ∧ w.heap.size ≤ g ∧ (∀ j, (Value.slice Al k cl).ownBlock = some j → K4 j ∧ j ≠ g) ∧ K4 q ∧ q ≠ g) := Lib.hid (by
              rw [← hK4]
              have := Blk.size (show Blk wy q _ _ from HBQ.out.1)
              exact ⟨.inr rfl, Nat.le_trans HF.out.fs.below.size hgs, fun j hj => ⟨.inl (HKO.out j hj).1, by have := (HO.out.lt j hj).2; omega⟩, .inl HBQ.out.2, by omega⟩)
            rw [hK4] at hs4
            have H4 := Lib.hid hs4
            have HO4 := Lib.hid (HO.out.under hb4)
            have HB4 : Hid (MoBlk w4 q) := Lib.hid (Blk.under (show Blk wy q _ _ from HBQ.out.1) hb4)
            clear hs4 hgs hb4 hK4 HSR HF HO HKO CN HBQ
            go_wp2_with fail
            go_loopg [12, 13, 14] 400 (fun gg s12 s13 s14 wr => ∃ (i st : Nat) (K5 : Nat → Prop) (vs : List Value) (x : Sr.R), i ≤ 400 ∧ 400 - i ≤ gg ∧ s13 = .int .i64 ((min i (min n1 60) : Nat) : Int) ∧ s14 = .int .i64 (i : Int) ∧ Hid (Sr.Pass Sr.made (Sr.acts s l1) L (min n1 60) i st x ∧ Sr.Here x) ∧ Hid (SrAt K5 w wr p g (Sr.acts s l1 i) moFv x) ∧ Hid (SrThen (fun j => K5 j ∧ j ≠ g) wr w.heap.size s12 vs (Sr.thenR (Sr.acts s l1) L i)) ∧ Hid (OwnT wr w.heap.size (.slice Al k cl) L ∧ MoBlk wr q) ∧ Hid (K5 g ∧ (∀ j, (Value.slice Al k cl).ownBlock = some j → K5 j ∧ j ≠ g) ∧ K5 q ∧ q ≠ g))
            case atStart => exact ⟨0, 0, K4, [], _, by omega, by omega, by rw [Nat.zero_min]; rfl, rfl, Lib.hid ⟨Sr.pass_begin _ _ _ _, Sr.here_begin _⟩, H4, Lib.hid (srThen_none _ _ _), Lib.hid ⟨HO4.out, HB4.out⟩, Lib.hid ⟨HKG.out.1, HKG.out.2.2.1, HKG.out.2.2.2.1, HKG.out.2.2.2.2⟩⟩
            case round =>
              have HG0 : Hid (w.heap.size ≤ g) := Lib.hid HKG.out.2.1
              clear H4 HO4 HB4 HKG
              obtain ⟨i, st, K5, vs, x, hi, hgg, rfl, rfl, HP, HSA, HTH, HLB, HK5⟩ := hrel
              obtain ⟨wi, rfl⟩ : ∃ wx : World, wx = wr := ⟨_, rfl⟩
              have hsm := HP.out.1.small
              rw [HLN.out] at hsm
              have hi90 : i ≤ 90 := by omega
              have hiI : (i : Int) < 400 := by omega
              obtain ⟨nn, hnn⟩ : ∃ nn, min i (min n1 60) = nn := ⟨_, rfl⟩
              have HNN := Lib.hid hnn
              obtain ⟨A12, c12, rfl⟩ := HTH.out.sl
              rw [Sr.thenR_len] at HTH ⊢
              rw [hnn]
              clear hnn hsm
              go_wp2_with fail
              go_loopg [15, 70] k (fun gg s15 s70 wr => ∃ (m : Nat) (us : List Value), m ≤ k ∧ k - m ≤ gg ∧ s70 = .int .i64 (m : Int) ∧ Hid (SrRow (fun j => wi.heap.size ≤ j) wr wi.heap.size s15 us (Sr.nowR (Sr.acts s l1) (L.take m) i)) ∧ Hid (Below wi.heap.size wi wr))
              case atStart => exact ⟨0, [], by omega, by omega, rfl, Lib.hid (srRow_none _ _ _), Lib.hid (Below.refl _ _)⟩
              case round =>
                obtain ⟨m, us, hm, hgg2, rfl, HRW, HBW⟩ := hrel
                obtain ⟨wz, rfl⟩ : ∃ wx : World, wx = wr := ⟨_, rfl⟩
                by_cases hlt : m < k
                · have hltI : (m : Int) < (k : Int) := by omega
                  obtain ⟨bl, cl2, hae, hcell⟩ := ownT_at (HLB.out.1.under HBW.out) (k := m) (by rw [HLN.out]; exact hlt)
                  rw [HLN.out] at hae
                  injection hae with e1 e2 e3
                  subst e1
                  obtain ⟨t, ht⟩ : ∃ t, L.getD m [] = t := ⟨_, rfl⟩
                  have htm : t ∈ L := by rw [← ht]; exact Sr.mem_getD (by rw [HLN.out]; exact hlt)
                  have hat := HF0.out.2.1.at i htm
                  have hnx := Sr.nowR_next (Sr.acts s l1) (L := L) (k := m) (by rw [HLN.out]; exact hlt) i
                  rw [ht] at hcell hnx
                  obtain ⟨val, hva⟩ : ∃ val, Sr.V Sr.made (Sr.acts s l1) i t = val := ⟨_, rfl⟩
                  rw [hva] at hat hnx
                  obtain ⟨hfile, b, hgt, hval, hvl⟩ := hat
                  obtain ⟨nv, hnv⟩ : ∃ n, val.length = n := ⟨_, rfl⟩
                  have hu := (HF0.out.2.2 i).used
                  have C := Lib.hid (srvalueof_any t (HSA.out.under HBW.out).fk.fs (Sr.mo_small t (HLM.out t htm)) (by omega) hfile hgt hval)
                  have HNX := Lib.hid hnx
                  clear e2 e3 ht htm hfile hgt hval hvl hu hnx hva
                  go_wp2_with fail
                  refine C.out.mono ?_
                  rintro e w5 ⟨v5, rfl, hb5, hbt5, h15, hbb5⟩
                  obtain ⟨-, -, A5, c5, rfl, -, -⟩ := hb5.parts
                  rw [hnv] at hb5 hbt5 h15 ⊢
                  have hba : Below w5.heap.size w5 (w5.alloc (.cells #[.slice A5 nv c5] 25)) := (Below.refl _ _).alloc (Nat.le_refl _) _
                  have hbz := hbb5.trans (hba.mono hbb5.size)
                  obtain ⟨v6, w6, hr6, ho6, hg6, hat6⟩ := (HRW.out.under hbz).append (B := w5.heap.size) (ty := 33) (u := .slice A5 nv c5) (hb5.under hba) h15 (Blk.at (t := 25) (cs := #[.slice A5 nv c5]) (heap_alloc_new w5 _) 0) (fun j hj => by
                    have h1 := hbt5 j hj
                    have h2 := HBW.out.size
                    have h3 := hba.size
                    exact ⟨by omega, fun e => by have := (World.ownsRow.lt HRW.out.row j e).2; omega, by omega⟩) (by unfold Sr.nowR; rw [List.length_map, List.length_take]; omega) (Nat.le_trans HBW.out.size hbz.size)
                  rw [HNX.out] at ho6
                  have HBN : Hid (Below wi.heap.size wi w6) := Lib.hid ((HBW.out.trans (hbz.mono HBW.out.size)).grown hg6 (Nat.le_trans HBW.out.size hbz.size) fun j hj => (World.ownsRow.lt HRW.out.row j hj).1)
                  have HRN := Lib.hid (ho6.more (K' := fun j => wi.heap.size ≤ j) fun j _ hj => by
                    rcases hj with hj | hj
                    · exact hj
                    · have := HBW.out.size
                      have := hbz.size
                      omega)
                  have HR6 := Lib.hid hr6
                  obtain ⟨A6, c6, rfl⟩ := HRN.out.sl
                  obtain ⟨As, cs, rfl⟩ := HRW.out.sl
                  clear hnv hb5 hbt5 h15 hbb5 hba hbz hr6 ho6 hg6 hat6 HRW HBW C
                  go_wp2_with (first
                    | (at_builtin; refine wpList_append_eq rfl _ _ 33 rfl _ _ rfl rfl HR6.out ?_)
                    | fail)
                  go_wp2
                  go_roundg (k - (m + 1))
                  case rel => exact ⟨m + 1, _, by omega, by omega, by go_num, HRN, HBN⟩
                  case measure => omega
                · obtain rfl : k = m := by omega
                  clear hlt hm hgg2
                  have hrow := HRW.out
                  rw [List.take_of_length_le (Nat.le_of_eq HLN.out)] at hrow
                  obtain ⟨An, cn, rfl⟩ := hrow.sl
                  obtain ⟨R, hR⟩ : ∃ R, Sr.nowR (Sr.acts s l1) L i = R := ⟨_, rfl⟩
                  have hRl : R.length = k := by rw [← hR]; unfold Sr.nowR; rw [List.length_map]; exact HLN.out
                  rw [hR, hRl] at hrow
                  rw [hR, hRl]
                  have hba : Below wz.heap.size wz (wz.alloc (.cells #[.slice An k cn] 33)) := (Below.refl _ _).alloc (Nat.le_refl _) _
                  obtain ⟨W3, hW3⟩ : ∃ W, wz.alloc (.cells #[.slice An k cn] 33) = W := ⟨_, rfl⟩
                  have hcB : W3.cell? ⟨wz.heap.size, 0, none⟩ = some (.slice An k cn) := by rw [← hW3]; exact Blk.at (t := 33) (cs := #[.slice An k cn]) (heap_alloc_new wz _) 0
                  rw [hW3] at hba
                  have hb3 := HBW.out.trans (hba.mono HBW.out.size)
                  obtain ⟨Kn, hKn⟩ : ∃ K' : Nat → Prop, (fun j => K5 j ∨ (wi.heap.size ≤ j ∧ j < W3.heap.size)) = K' := ⟨_, rfl⟩
                  have hKn1 : ∀ j, K5 j → Kn j := fun j hj => by rw [← hKn]; exact .inl hj
                  have hsa3 := HSA.out.grow (K' := Kn) hb3 fun j hj => by rw [← hKn] at hj; exact hj
                  have hgl : g < wi.heap.size := HSA.out.fk.lt HK5.out.1
                  have hth3 := (HTH.out.under hb3).more (K' := fun j => Kn j ∧ j ≠ g) fun j _ hj => ⟨hKn1 j hj.1, hj.2⟩
                  have hrow3 := ((hrow.under hba).rebase (base' := w.heap.size) HSA.out.fk.fs.below.size).more (K' := fun j => (Kn j ∧ j ≠ g) ∧ (Value.slice A12 i c12).ownBlock ≠ some j) fun j hj1 hj2 => ⟨⟨by rw [← hKn]; exact .inr ⟨hj2, hj1⟩, by omega⟩, fun e => by have := (World.ownsRow.lt HTH.out.row j e).2; omega⟩
                  obtain ⟨v6, w6, hr6, ho6, hg6, hat6⟩ := hth3.append (B := wz.heap.size) (ty := 44) hrow3 rfl hcB (by rw [Sr.thenR_len]; omega) (Nat.le_trans HSA.out.fk.fs.below.size hb3.size)
                  rw [← hR, Sr.thenR_next] at ho6
                  have hown3 : ∀ b, (Value.slice A12 i c12).ownBlock = some b → (Kn b ∧ b ≠ g) ∧ w.heap.size ≤ b := fun b hb => ⟨hth3.own b hb, (World.ownsRow.lt hth3.row b hb).1⟩
                  have hsa6 := hsa3.grownNew (hKn1 g HK5.out.1) hown3 hg6
                  obtain ⟨Km, hKm⟩ : ∃ K' : Nat → Prop, (fun j => Kn j ∨ (W3.heap.size ≤ j ∧ j < w6.heap.size)) = K' := ⟨_, rfl⟩
                  have hKm1 : ∀ j, K5 j → Km j := fun j hj => by rw [← hKm]; exact .inl (hKn1 j hj)
                  have ho6' := ho6.more (K' := fun j => Km j ∧ j ≠ g) fun j _ hj => by
                    rw [← hKm]
                    rcases hj with hj | hj
                    · exact ⟨.inl hj.1, hj.2⟩
                    · have := hb3.size
                      exact ⟨.inr hj, by omega⟩
                  have hLB6 : OwnT w6 w.heap.size (.slice Al k cl) L ∧ MoBlk w6 q := ⟨ownsRow_block (HLB.out.1.under hb3) fun j hj => hg6.block j ((HLB.out.1.under hb3).lt j hj).2 fun e => rows_not_same (HLB.out.1.under hb3) hth3.row (by decide) j hj e.symm,
                    Blk.grown (Blk.under (show Blk wi q _ _ from HLB.out.2) hb3) hg6 fun e => row_not_blk hth3.row (Blk.under (show Blk wi q _ _ from HLB.out.2) hb3) (by decide) e.symm⟩
                  rw [hKm] at hsa6
                  have HSA6 := Lib.hid hsa6
                  have HTH6 := Lib.hid ho6'
                  have HLB6 := Lib.hid hLB6
                  have HK6 : Hid (Km g ∧ (∀ j, (Value.slice Al k cl).ownBlock = some j → Km j ∧ j ≠ g) ∧ Km q ∧ q ≠ g) := Lib.hid ⟨hKm1 g HK5.out.1, fun j hj => ⟨hKm1 j (HK5.out.2.1 j hj).1, (HK5.out.2.1 j hj).2⟩, hKm1 q HK5.out.2.2.1, HK5.out.2.2.2⟩
                  have HR6 := Lib.hid hr6
                  obtain ⟨A6, c6, rfl⟩ := ho6'.sl
                  rw [Sr.thenR_len] at HR6 HTH6
                  have HRL := Lib.hid hRl
                  clear hrow hba hcB hb3 hKn hKn1 hsa3 hgl hth3 hrow3 hr6 ho6 hg6 hat6 hown3 hsa6 hKm hKm1 ho6' hLB6 HSA HTH HLB HK5 HBW HRW hR hRl
                  have HW3 := Lib.hid hW3
                  clear hW3
                  go_upto_region 30 with (first
                    | (at_builtin; rw [HW3.out]; refine wpList_append_eq rfl _ _ 44 rfl _ _ rfl rfl HR6.out ?_)
                    | fail)
                  have hu6 : used (Sr.acts s l1 i).l ≤ 274877906944 := by
                    have := (HF0.out.2.2 i).used
                    omega
                  have C := srstep_any HSA6.out HP.out.2 HK6.out.1 HG0.out (HMD.out w6) hu6
                  have hhere := HP.out.2.step Sr.made (Sr.acts s l1 i)
                  rcases HP.out.1.step HF0.out.1 HF0.out.2.1 with ⟨x2, st2, hst, hp2⟩ | ⟨x2, hst, hmom⟩
                  · rw [hst] at C hhere
                    have C' := Lib.hid C
                    have HP2 : Hid (Sr.Pass Sr.made (Sr.acts s l1) L (min n1 60) (i + 1) st2 x2 ∧ Sr.Here x2) := Lib.hid ⟨hp2, hhere⟩
                    clear C hhere hst hp2 HP hu6
                    go_wp2_with fail
                    refine C'.out.mono ?_
                    rintro e w7 ⟨rfl, hs7, hk7⟩
                    have HSA7 : Hid (SrAt Km w w7 p g (Sr.acts s l1 i) moFv x2) := Lib.hid hs7
                    have HTH7 := Lib.hid (HTH6.out.kept hk7.1 fun j _ hj => hk7.2 j hj)
                    have HLB7 : Hid (OwnT w7 w.heap.size (.slice Al k cl) L ∧ MoBlk w7 q) := Lib.hid ⟨ownsRow_block HLB6.out.1 fun j hj => hk7.2 j (HK6.out.2.1 j hj), hk7.blk ⟨HK6.out.2.2.1, HK6.out.2.2.2⟩ HLB6.out.2⟩
                    clear hs7 hk7 HSA6 HTH6 HLB6 C' HR6 HRL HW3
                    by_cases hM : i < min n1 60
                    · have hni : nn = i := by have := HNN.out; omega
                      subst hni
                      have hc1 : (nn : Int) < (n1 : Int) := by omega
                      have hc2 : (nn : Int) < 60 := by omega
                      obtain ⟨b1, o1, rfl, hz1⟩ := (HI1.out.under HSA7.out.fk.fs.below).at (k := nn) (by omega)
                      obtain ⟨z, hz⟩ : ∃ z, l1.getD nn 0 = z := ⟨_, rfl⟩
                      rw [hz] at hz1
                      have hnext : Sr.acts s l1 (nn + 1) = Sr.one (Sr.acts s l1 nn) z := by
                        rw [Sr.acts_next, if_pos (by rw [HN1.out]; exact hM), hz]
                      obtain ⟨cc, hcc, hcc3⟩ := lg_and z 3 (by decide)
                      have hcc' : bits .and .i64 z 3 = (cc : Int) := hcc
                      have hmin : ((nn + 1 : Nat) : Int) = ((min (nn + 1) (min n1 60) : Nat) : Int) := by omega
                      by_cases hc0 : cc = 0
                      · have hnx : Sr.acts s l1 (nn + 1) = Sr.acts s l1 nn := by
                          rw [hnext]
                          unfold Sr.one
                          rw [hcc', Int.toNat_natCast, if_neg (by omega)]
                        have hcI : ¬ ((cc : Int) > 0) := by omega
                        have HSA8 : Hid (SrAt Km w w7 p g (Sr.acts s l1 (nn + 1)) moFv x2) := Lib.hid (by rw [hnx]; exact HSA7.out)
                        have HMIN := Lib.hid hmin
                        clear hnext hcc hcc3 hnx hmin hz HSA7 hc0
                        go_wp2_with fail
                        go_roundg (400 - (nn + 1))
                        case rel => exact ⟨nn + 1, st2, Km, _, x2, by omega, by omega, by rw [← HMIN.out]; go_num, by go_num, HP2, HSA8, HTH7, HLB7, HK6⟩
                        case measure => omega
                      · obtain ⟨ii, hii, hii3⟩ := lg_and (z / 4) 3 (by decide)
                        have hii' : bits .and .i64 (z / 4) 3 = (ii : Int) := hii
                        obtain ⟨vv, hvv, hvv3⟩ := lg_and (z / 16) 1 (by decide)
                        have hvv' : bits .and .i64 (z / 16) 1 = (vv : Int) := hvv
                        have hcI : (cc : Int) > 0 := by omega
                        have hiI2 : (ii : Int) < 4 := by omega
                        obtain ⟨t, ht⟩ : ∃ t, Sr.moL.getD ii [] = t := ⟨_, rfl⟩
                        have hcell := HLB7.out.2.at (i := ii) (by omega)
                        have hnice := Sr.mo_small _ (Sr.mo_mem (i := ii) (by omega))
                        have hmo := HF0.out.2.2 nn
                        have hput := hmo.put (n := vv) (i := ii) (by omega) (by omega) (by omega) hvv3
                        rw [ht] at hcell hnice hput
                        have hnx : Sr.acts s l1 (nn + 1) = wr (Sr.acts s l1 nn) t (Sr.bOf t vv) := by
                          rw [hnext]
                          unfold Sr.one
                          rw [hcc', Int.toNat_natCast, if_pos (by omega), hii', hvv', Int.toNat_natCast, Int.toNat_natCast, ht]
                        have hn : (Sr.acts s l1 nn).next ≤ 1073741824 ∧ used (Sr.acts s l1 nn).l + 1000 ≤ 274877906944 := by
                          have := hmo.next
                          have := hmo.used
                          omega
                        have CW : Hid (∀ W, SrAt Km w W p g (Sr.acts s l1 nn) moFv x2 → Calls Try.prog 17 #[.pointer (some ⟨p, 0, none⟩), .string (str t), .int .i64 (vv : Int)] W fun e w' => e = .returned (.tuple #[]) ∧ SrAt Km w w' p g (Sr.acts s l1 (nn + 1)) moFv x2 ∧ Kept Km W w') := Lib.hid fun W hW => by
                          have := srwrite_any (P := fun W s => SrAt Km w W p g s moFv x2) (K := Km) (w := W) t vv hvv3 (srPut_at t HK6.out.1 hnice hn.1 hn.2) hW hnice.1
                          rw [hput.1, ← hnx] at this
                          exact this
                        have HMIN := Lib.hid hmin
                        clear hnext hcc hcc3 hnx hmin hz hc0 hii hii3 hvv hvv3 ht hnice hmo hput hn
                        go_upto_region 50 with fail
                        have HDR : Hid (∀ j, SrAt Km w (w7.drewN j) p g (Sr.acts s l1 nn) moFv x2) := Lib.hid fun j => HSA7.out.under (sr_drewN w7 j)
                        go_region_with (go_at_call 17; refine (CW.out _ (HDR.out 1)).mono ?_; rintro e w8 ⟨rfl, hs8, hk8⟩; have HSA8 := Lib.hid hs8; have HKK8 : Hid (Kept Km w7 w8) := Lib.hid hk8; clear hs8 hk8)
                        all_goals
                          have HTH8 := Lib.hid (HTH7.out.kept HKK8.out.1 fun j _ hj => HKK8.out.2 j hj.1)
                          have HLB8 : Hid (OwnT w8 w.heap.size (.slice Al k cl) L ∧ MoBlk w8 q) := Lib.hid ⟨ownsRow_block HLB7.out.1 fun j hj => HKK8.out.2 j (HK6.out.2.1 j hj).1, HKK8.out.blk HK6.out.2.2.1 HLB7.out.2⟩
                          go_wp2_with fail
                          go_roundg (400 - (nn + 1))
                          case rel => exact ⟨nn + 1, st2, Km, _, x2, by omega, by omega, by rw [← HMIN.out]; go_num, by go_num, HP2, HSA8, HTH8, HLB8, HK6⟩
                          case measure => omega
                    · have hni : nn = min n1 60 := by have := HNN.out; omega
                      have hcond : ¬ ((nn : Int) < (n1 : Int)) ∨ ((nn : Int) < (n1 : Int) ∧ ¬ ((nn : Int) < 60)) := by omega
                      have hnx : Sr.acts s l1 (i + 1) = Sr.acts s l1 i := by
                        rw [Sr.acts_next, if_neg (by rw [HN1.out]; exact hM)]
                      have HSA8 : Hid (SrAt Km w w7 p g (Sr.acts s l1 (i + 1)) moFv x2) := Lib.hid (by rw [hnx]; exact HSA7.out)
                      have HMIN : Hid (nn = min (i + 1) (min n1 60)) := Lib.hid (by omega)
                      clear hnx HSA7 hM hni
                      rcases hcond with hc1 | ⟨hc1, hc2⟩
                      all_goals
                        go_wp2_with fail
                        go_roundg (400 - (i + 1))
                        case rel => exact ⟨i + 1, st2, Km, _, x2, by omega, by omega, by rw [← HMIN.out], by go_num, HP2, HSA8, HTH7, HLB7, HK6⟩
                        case measure => omega
                  · rw [hst] at C
                    have C' := Lib.hid C
                    have HMO := Lib.hid hmom
                    have HNZ : Hid (nn = 0 → ∀ j, j < L.length → x2.stamps.getD j 0 = Sf.stamp (Sr.acts s l1 i).l (L.getD j [])) := Lib.hid fun h0 => hmom.still (by
                      have := HNN.out
                      omega)
                    have HCST : Hid (∀ W, SrAt Km w W p g (Sr.acts s l1 i) moFv x2 → Calls Try.prog 11 #[.pointer (some ⟨g, 0, none⟩), .pointer (some ⟨p, 0, none⟩)] W (SrIs Km w W p g (Sr.acts s l1 i) moFv (x2, 1))) := Lib.hid fun W hW => by
                      have := srstep_any hW (fun h0 => by have := hmom.told; omega) HK6.out.1 HG0.out (HMD.out W) hu6
                      rw [Sr.step_told (by have := hmom.told; omega), hmom.told] at this
                      exact this
                    have HFS : Hid (∀ W t, t ∈ L → SrAt Km w W p g (Sr.acts s l1 i) moFv x2 → Calls Try.prog 19 #[.pointer (some ⟨p, 0, none⟩), .string (str t)] W fun e w' => e = .returned (.int .i64 ((Sf.stamp (Sr.acts s l1 i).l t : Nat) : Int)) ∧ W = w') := Lib.hid fun W t ht hW => fs_stamp t w W p _ hW.fk.fs (Sr.mo_small t (HLM.out t ht))
                    clear C hhere hst hmom HP hu6
                    go_wp2_with fail
                    refine C'.out.mono ?_
                    rintro e w7 ⟨rfl, hs7, hk7⟩
                    have HSA7 : Hid (SrAt Km w w7 p g (Sr.acts s l1 i) moFv x2) := Lib.hid hs7
                    have HTH7 := Lib.hid (HTH6.out.kept hk7.1 fun j _ hj => hk7.2 j hj)
                    have HLB7 : Hid (OwnT w7 w.heap.size (.slice Al k cl) L) := Lib.hid (ownsRow_block HLB6.out.1 fun j hj => hk7.2 j (HK6.out.2.1 j hj))
                    have CV := Lib.hid (srvalues_any hs7 HMO.out.told)
                    clear hs7 hk7 HSA6 HTH6 HLB6 C' HR6 HRL HW3
                    go_wp2_with fail
                    refine CV.out.mono ?_
                    rintro e w8 ⟨v8, us8, rfl, ho8, hb8⟩
                    have HV8 := Lib.hid ho8.ownR.rows
                    obtain ⟨A8, c8, rfl⟩ := ownRx_sl ho8
                    obtain ⟨n8, hn8⟩ : ∃ n, x2.vals.length = n := ⟨_, rfl⟩
                    rw [hn8] at HV8 ⊢
                    have HSA8 := Lib.hid (HSA7.out.under hb8)
                    have HTH8 := Lib.hid (HTH7.out.under hb8)
                    have HLB8 := Lib.hid (HLB7.out.under hb8)
                    have HTL : Hid ((Sr.thenR (Sr.acts s l1) L (i + 1)).length = i + 1) := Lib.hid (Sr.thenR_len _ _ _)
                    have HTA : Hid (∀ j, j < i + 1 → (Sr.thenR (Sr.acts s l1) L (i + 1)).getD j [] = Sr.nowR (Sr.acts s l1) L j) := Lib.hid fun j hj => Sr.thenR_at _ _ hj
                    clear ho8 hb8 hn8 HSA7 HTH7 HLB7 CV
                    go_wp2_with fail
                    go_loopg [97] (i + 1) (fun gg s97 wr => ∃ m : Nat, m ≤ i + 1 ∧ i + 1 - m ≤ gg ∧ s97 = .int .i64 (m : Int) ∧ Hid (∀ j, j < m → Sr.nowR (Sr.acts s l1) L j ≠ x2.vals) ∧ Hid (Below w8.heap.size w8 wr))
                    case atStart => exact ⟨0, by omega, by omega, rfl, Lib.hid fun j hj => by omega, Lib.hid (Below.refl _ _)⟩
                    case round =>
                      obtain ⟨m, hm, hgg3, rfl, HNE, HBB⟩ := hrel
                      obtain ⟨wy2, rfl⟩ : ∃ wx : World, wx = wr := ⟨_, rfl⟩
                      by_cases hlt : m < i + 1
                      · have hltI : (m : Int) < (i : Int) + 1 := by omega
                        obtain ⟨bt, u, rfl, hcu, hru⟩ := (HTH8.out.under HBB.out).at (k := m) (by rw [HTL.out]; exact hlt)
                        rw [HTA.out m hlt] at hru
                        obtain ⟨R2, hR2⟩ : ∃ R2, Sr.nowR (Sr.acts s l1) L m = R2 := ⟨_, rfl⟩
                        rw [hR2] at hru
                        have CR := Lib.hid (samerows_any _ _ R2 x2.vals wy2 hru (HV8.out.under HBB.out))
                        obtain ⟨-, Au, cu, rfl, -, -⟩ := hru
                        have HR2 := Lib.hid hR2
                        obtain ⟨r2, hr2⟩ : ∃ n, R2.length = n := ⟨_, rfl⟩
                        rw [hr2] at hcu CR
                        clear hR2 hr2
                        by_cases hd : R2 = x2.vals
                        · rw [decide_eq_true hd] at CR
                          clear hd HNE
                          go_wp2_with fail
                          refine CR.out.mono ?_
                          rintro e w9 ⟨rfl, m9, hw9⟩
                          have hb9 : Below w8.heap.size w8 w9 := by
                            rw [hw9]
                            exact HBB.out.trans ((sr_drewN wy2 m9).mono HBB.out.size)
                          have HSA9 := Lib.hid (HSA8.out.under hb9)
                          have HLB9 := Lib.hid (HLB8.out.under hb9)
                          have CS := Lib.hid (srstamps_any HSA9.out HMO.out.told)
                          clear hb9 hw9 HBB CR HV8 hcu
                          go_wp2_with fail
                          refine CS.out.mono ?_
                          rintro e w10 ⟨v10, rfl, ho10, hb10⟩
                          have HI10 := Lib.hid ho10
                          obtain ⟨A10, c10, rfl⟩ := ownI_sl ho10
                          have hsl : x2.stamps.length = k := by rw [HMO.out.len, HLN.out]
                          rw [hsl] at HI10 ⊢
                          have HSL := Lib.hid hsl
                          have HSA10 := Lib.hid (HSA9.out.under hb10)
                          have HLB10 := Lib.hid (HLB9.out.under hb10)
                          clear ho10 hb10 HSA9 HLB9 CS hsl
                          go_wp2_with fail
                          go_loopg [110] k (fun gg s110 wr => ∃ y : Nat, y ≤ k ∧ k - y ≤ gg ∧ s110 = .int .i64 (y : Int) ∧ Hid (Below w10.heap.size w10 wr))
                          case atStart => exact ⟨0, by omega, by omega, rfl, Lib.hid (Below.refl _ _)⟩
                          case round =>
                            obtain ⟨y, hy, hgg4, rfl, HBY⟩ := hrel
                            obtain ⟨wy3, rfl⟩ : ∃ wx : World, wx = wr := ⟨_, rfl⟩
                            by_cases hlt2 : y < k
                            · have hlt2I : (y : Int) < (k : Int) := by omega
                              obtain ⟨bs, cs, hse, hsc⟩ := ownI_at (OwnI.under HI10.out HBY.out) (k := y) (by rw [HSL.out]; exact hlt2)
                              rw [HSL.out] at hse
                              injection hse with e1 e2 e3
                              subst e1
                              obtain ⟨bl, cl2, hae, hlc⟩ := ownT_at (HLB10.out.under HBY.out) (k := y) (by rw [HLN.out]; exact hlt2)
                              rw [HLN.out] at hae
                              injection hae with e4 e5 e6
                              subst e4
                              have hnz : nn = 0 → x2.stamps.getD y 0 = Sf.stamp (Sr.acts s l1 i).l (L.getD y []) := fun h0 => HNZ.out h0 y (by rw [HLN.out]; exact hlt2)
                              obtain ⟨t, ht⟩ : ∃ t, L.getD y [] = t := ⟨_, rfl⟩
                              have htm : t ∈ L := by rw [← ht]; exact Sr.mem_getD (by rw [HLN.out]; exact hlt2)
                              obtain ⟨za, hza⟩ : ∃ z, x2.stamps.getD y 0 = z := ⟨_, rfl⟩
                              have CF := Lib.hid (HFS.out wy3 t htm (HSA10.out.under HBY.out))
                              obtain ⟨zb, hzb⟩ : ∃ z, Sf.stamp (Sr.acts s l1 i).l t = z := ⟨_, rfl⟩
                              rw [ht] at hlc hnz
                              rw [hza] at hsc hnz
                              rw [hzb] at CF hnz
                              have hor : ((za : Int) != (zb : Int)) = false ∨ (((za : Int) != (zb : Int)) = true ∧ ((nn : Int) == 0) = false) := by
                                by_cases h : za = zb
                                · left
                                  subst h
                                  simp
                                · right
                                  refine ⟨by simp; omega, ?_⟩
                                  have : nn ≠ 0 := fun e => h (hnz e)
                                  simp
                                  omega
                              clear e2 e3 e5 e6 ht htm hza hzb hnz
                              rcases hor with h1 | ⟨h1, h2⟩
                              all_goals
                                go_wp2_with fail
                                refine CF.out.mono ?_
                                rintro e w11 ⟨rfl, rfl⟩
                                go_wp2_with fail
                                go_roundg (k - (y + 1))
                                case rel => exact ⟨y + 1, by omega, by omega, by go_num, HBY⟩
                                case measure => omega
                            · obtain rfl : y = k := by omega
                              have CE := Lib.hid (HCST.out wy3 (HSA10.out.under HBY.out))
                              clear hlt2 hy hgg4 HSA10 HLB10 HI10 HBY
                              go_wp2_with fail
                              refine CE.out.mono ?_
                              rintro e w11 ⟨rfl, hs11, -⟩
                              have HB11 := Lib.hid hs11.fk.fs.below
                              clear hs11 CE
                              go_wp2_with fail
                              refine (srawake_any w11).mono ?_
                              rintro e w12 ⟨rfl, hb12⟩
                              have H12 := Lib.hid (HB11.out.trans (hb12.mono HB11.out.size))
                              clear hb12
                              go_wp2
                              go_ret
                              exact ⟨rfl, H12.out⟩
                        · rw [decide_eq_false hd] at CR
                          have HNE2 : Hid (∀ j, j < m + 1 → Sr.nowR (Sr.acts s l1) L j ≠ x2.vals) := Lib.hid fun j hj => by
                            by_cases e : j < m
                            · exact HNE.out j e
                            · rw [show j = m by omega, HR2.out]
                              exact hd
                          clear hd HNE
                          go_wp2_with fail
                          refine CR.out.mono ?_
                          rintro e w9 ⟨rfl, m9, hw9⟩
                          have HB9 : Hid (Below w8.heap.size w8 w9) := Lib.hid (by
                            rw [hw9]
                            exact HBB.out.trans ((sr_drewN wy2 m9).mono HBB.out.size))
                          clear hw9 HBB CR
                          go_wp2_with fail
                          go_roundg (i + 1 - (m + 1))
                          case rel => exact ⟨m + 1, by omega, by omega, by go_num, HNE2, HB9⟩
                          case measure => omega
                      · exfalso
                        obtain ⟨j, hj, he⟩ := HMO.out.one
                        exact HNE.out j (by omega) he.symm
end Go.Proofs.Ytoloidfkpfdboaa
