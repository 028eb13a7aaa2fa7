/- For ActsBack: the words of an action, laid one by one. -/
import Derived.Test.YtfeaolcgjkkadaaDoorActBackLaw
import Derived.Test.YtfeaolcgjkkadaaDoorAct
import Derived.Test.YtfeaolcgjkkadaaDoorActAwake
import Derived.Test.YtfeaolcgjkkadaaDoorActParse
import Derived.Test.YtfeaolcgjkkadaaDoorNameRef
import Derived.Deep.DeepCutAuto
import Derived.Deep.RegionWith
namespace Go.Proofs.YtfeaolcgjkkadaaDoor
set_option maxRecDepth 100000
open Go.ChangeShapes Go.WideShapes Go.ChangeAt Go.RowKit

def Na (w : World) (g : Nat) : Prop := Blk w g 9 (Ac.names.map fun l => Value.string (str l)).toArray
theorem na_at {w : World} {g : Nat} (h : Na w g) (k : Nat) (hk : k < 12) : w.cell? ⟨g, k, none⟩ = some (.string (str (Ac.names.getD k []))) := by
  have := h.at k
  rw [this, List.getElem?_toArray, List.getElem?_map, List.getElem?_eq_getElem (show k < Ac.names.length from hk), List.getD_eq_getElem?_getD, List.getElem?_eq_getElem (show k < Ac.names.length from hk)]
  rfl
theorem ownW_empty (w : World) (base : Nat) (h : base ≤ w.heap.size) : OwnW (w.alloc (.cells #[] 30)) base (.slice (some ⟨w.heap.size, 0, none⟩) 0 0) [] :=
  ⟨rfl, .inr ⟨w.heap.size, 0, #[], rfl, h, heap_alloc_new w _, Nat.le_refl _, Nat.zero_le _, rfl, rfl⟩⟩
theorem OwnW.blk {w : World} {base : Nat} {v : Value} {L : List Ln.W} (h : OwnW w base v L) (h0 : 0 < L.length) : ∃ g cap, v = .slice (some ⟨g, 0, none⟩) L.length cap ∧ base ≤ g ∧ L.length ≤ cap := by
  rcases h.2 with ⟨_, h1⟩ | ⟨g, cap, cur, rfl, hb, hg, hn, hm, hs, ht⟩
  · omega
  · exact ⟨g, cap, rfl, hb, hn⟩
def six : List (List Nat) := [[97, 108, 108], [114, 101, 118], [55], [113], [59], [102, 97, 105, 108]]
theorem words_some {L : List Ac.D} (h : Ac.ok L = true) : 1 ≤ (Ac.wordsOf L).length := by
  rcases L with _ | ⟨d, _ | ⟨e, r⟩⟩
  · cases h
  · show 1 ≤ (Ac.wordsD d).length
    unfold Ac.wordsD
    simp
  · show 1 ≤ (Ac.wordsD d ++ Ac.wd [59] false :: Ac.wordsOf (e :: r)).length
    simp
    omega
theorem RdW.head {w : World} {ad : Addr} {n c k : Nat} {R : List Ln.W} (h : RdW w (.slice (some ad) n c) R) (hk : k ≤ n) : RdW w (.slice (some ad) k c) (R.take k) := by
  obtain ⟨A, c', e, h1, h2, h3⟩ := h
  injection e with e1 e2 e3
  subst e2 e3
  have hl : (R.take k).length = k := by rw [List.length_take]; omega
  refine ⟨some ad, c, by rw [hl], by rw [hl]; omega, by rw [hl]; omega, fun h0 => ?_⟩
  rw [hl] at h0
  obtain ⟨b, off, e4, hc⟩ := h3 (by omega)
  refine ⟨b, off, by rw [e1, e4], fun j hj => ?_⟩
  rw [hl] at hj
  rw [List.getElem_take]
  exact hc j (by omega)
theorem OwnW.heap {w W : World} {base : Nat} {v : Value} {L : List Ln.W} (h : OwnW w base v L) (e : W.heap = w.heap) : OwnW W base v L := by
  rcases h.2 with ⟨rfl, h0⟩ | ⟨g, cap, cur, rfl, hb, hg, hn, hm, hs, ht⟩
  · exact ⟨h.1, .inl ⟨rfl, h0⟩⟩
  · exact ⟨h.1, .inr ⟨g, cap, cur, rfl, hb, by rw [e]; exact hg, hn, hm, hs, ht⟩⟩
theorem LieW.heap {w W : World} {ad : Addr} {M : List Ln.W} (h : LieW w ad M) (e : W.heap = w.heap) : LieW W ad M := fun j y hy => (World.cell?_of_block (by rw [e])).trans (h j y hy)
theorem lie_blk {W : World} {g : Nat} {z : Ln.W} (h : Blk W g 30 (cellsW z).toArray) : LieW W ⟨g, 0, none⟩ [z] := by
  intro j y hy
  rw [add_plain, Nat.zero_add, h.at j, List.getElem?_toArray]
  simpa [rowW] using hy
theorem below_heap {B : Nat} {w w1 W wf : World} (hb : Below B W wf) (h : Below B w w1) (e : W.heap = w1.heap) (e2 : W.os = w1.os ∧ W.tape = w1.tape ∧ W.output = w1.output) : Below B w wf :=
  h.trans ⟨hb.os.trans e2.1, hb.tape.trans e2.2.1, hb.output.trans e2.2.2, by have := hb.size; rwa [e] at this, fun k hk => by rw [← e]; exact hb.block k hk⟩
theorem blk_grew {w w' w1 : World} {g : Nat} {t : TypeId} {cs : Array Value} {row : Option Nat} (hg : w.grownBy w' row) (hne : some g ≠ row) (h : Blk w1 g t cs) (e : w.heap = w1.heap) : Blk w' g t cs := (h.heap e).grown hg hne
theorem told_parsed {w w' : World} {e : Ending} {T : Option (List Ac.D)} (h : ParsedIs w e w' T) : ∃ u, e = .returned (.tuple #[u, .bool T.isSome]) ∧ RdD w' u (T.getD []) ∧ Below w.heap.size w w' := by
  rcases T with _ | L
  · obtain ⟨rfl, hb⟩ := h
    exact ⟨_, rfl, rdD_none _, hb⟩
  · obtain ⟨⟨u, rfl, ho⟩, hb⟩ := h
    exact ⟨u, rfl, ho.rd, hb⟩
theorem told_parse {w w' : World} {e : Ending} {T : Option (List Ac.D)} (h : ParseIs w e w' T) : ∃ u, e = .returned (.tuple #[u, .bool T.isSome]) ∧ RdD w' u (T.getD []) ∧ Below w.heap.size w w' := by
  rcases T with _ | L
  · obtain ⟨rfl, hb⟩ := h
    exact ⟨_, rfl, rdD_none _, hb⟩
  · obtain ⟨⟨u, rfl, ho⟩, hb⟩ := h
    exact ⟨u, rfl, ho.rd, hb⟩
theorem parse_texts (R : List Ln.W) : ∀ d ∈ (Ac.parse R).getD [], ∀ c ∈ d.text, c < 256 := by
  unfold Ac.parse
  split
  · simp
  · rename_i L _
    by_cases h : Ac.ok L = true
    · rw [if_pos h]
      intro d hd
      exact ((Ac.ok_small h).2.2 d hd).2.2.2.2
    · rw [if_neg h]
      simp
set_option maxRecDepth 100000 in
set_option maxHeartbeats 16000000 in
theorem back_any (v : Value) (zs : List Int) (at1 word : Int) (w : World) (h1 : Ints w v zs) (hTab : Tabs w) :
    Calls Tryd.prog 3 #[v, .int .i64 at1, .int .i64 word] w fun e w' => e = .returned (.bool true) ∧ Below w.heap.size w w' := by
  have H1 := Lib.hid h1
  have HTab := Lib.hid hTab
  have HM := Lib.hid (and_low at1 255 (by decide))
  have HMW := Lib.hid (and_low word 255 (by decide))
  clear h1 hTab
  go_enter Tryd.func3, Tryd.ntmps3
  go_wp2_with fail
  refine (act_any v zs w H1.out).mono ?_
  rintro e w1 ⟨LA, va, rfl, hoa, hka, -, hna, hb1⟩
  have HRA := Lib.hid hoa.rd
  have HKA := Lib.hid hka
  have HB1 := Lib.hid hb1
  have HNA := Lib.hid hna
  clear hoa hka hb1 hna H1
  obtain ⟨Aa, ca, rfl, hca⟩ := HRA.out.parts
  obtain ⟨na, hna⟩ : ∃ na, LA.length = na := ⟨_, rfl⟩
  rw [hna] at HRA hca ⊢
  have HN := Lib.hid hna
  clear hna
  go_upto_region 4 with fail
  generalize hW : World.alloc w1 _ = W1
  have HNM : Hid (Na W1 w1.heap.size) := Lib.hid (by rw [← hW]; exact heap_alloc_new w1 _)
  have HBW : Hid (Below w1.heap.size w1 W1) := Lib.hid (by rw [← hW]; exact (Below.refl _ _).alloc (Nat.le_refl _) _)
  clear hW
  have HR1 := Lib.hid (HRA.out.under HBW.out)
  have HB2 := Lib.hid (HB1.out.trans (HBW.out.mono HB1.out.size))
  have HG : Hid (∀ d ∈ LA, d.kind ≤ 11 ∧ d.n ≤ 999 ∧ (∀ c ∈ d.text, c < 256) ∧ d.text.length ≤ 64) := Lib.hid (fun d hd => by
    obtain ⟨_, _, h3⟩ := Ac.ok_small HKA.out
    have := h3 d hd
    exact ⟨this.2.1, this.2.2.1, this.2.2.2.2, this.2.2.2.1⟩)
  have HL8 : Hid (1 ≤ na ∧ na ≤ 8) := Lib.hid (by obtain ⟨h1, h2, _⟩ := Ac.ok_small HKA.out; rw [HN.out] at h1 h2; exact ⟨h1, h2⟩)
  clear HRA HBW HNA
  go_wp2_with fail
  go_loopg [8, 26] na (fun g wv iv wr => ∃ k : Nat, k ≤ na ∧ na - k ≤ g ∧ iv = .int .i64 (k : Int) ∧ Hid (OwnW wr W1.heap.size wv (Ac.wordsOf (LA.take k))) ∧ Hid (Below W1.heap.size W1 wr))
  case atStart => exact ⟨0, Nat.zero_le _, by omega, rfl, Lib.hid (by simpa [Ac.wordsOf] using ownW_none _ _), Lib.hid (Below.refl _ _)⟩
  case round =>
    obtain ⟨k, hk, hg, rfl, hO, hbl⟩ := hrel
    obtain ⟨wz, rfl⟩ : ∃ wx : World, wx = wr := ⟨_, rfl⟩
    by_cases hlt : k < na
    · have hkI : (k : Int) < (na : Int) := by omega
      have hkL : k < LA.length := by rw [HN.out]; exact hlt
      obtain ⟨b, off, rfl, p0, p1, p2⟩ := (HR1.out.under hbl.out).at k hkL
      have HGX := Lib.hid (HG.out _ (List.getElem_mem hkL))
      have HTK : Hid (LA.take (k + 1) = LA.take k ++ [LA[k]'hkL]) := Lib.hid (List.take_succ_eq_append_getElem hkL)
      obtain ⟨x, hx⟩ : ∃ x, LA[k]'hkL = x := ⟨_, rfl⟩
      rw [hx] at p0 p1 p2 HGX HTK
      have HLE : Hid ((Ac.wordsOf (LA.take k)).length ≤ 24) := Lib.hid (by
        have := Ac.wordsOf_len (LA.take k)
        rw [List.length_take, HN.out] at this
        have := HL8.out
        omega)
      have HK0 : Hid (LA.take k = [] ↔ k = 0) := Lib.hid ⟨fun h => by
        have : (LA.take k).length = 0 := by rw [h]; rfl
        rw [List.length_take] at this
        omega, fun h => by rw [h]; rfl⟩
      clear hx hkL
      obtain ⟨xk, xn, xt⟩ := x
      change wz.cell? ⟨b, off + k * 3, none⟩ = some (.int .i64 (xk : Int)) at p0
      change wz.cell? ⟨b, off + k * 3 + 1, none⟩ = some (.int .i64 (xn : Int)) at p1
      change wz.cell? ⟨b, off + k * 3 + 2, none⟩ = some (.string (str xt)) at p2
      change Hid (xk ≤ 11 ∧ xn ≤ 999 ∧ (∀ c ∈ xt, c < 256) ∧ xt.length ≤ 64) at HGX
      obtain ⟨s, hs⟩ : ∃ s, str xt = s := ⟨_, rfl⟩
      rw [hs] at p2
      have HS := Lib.hid hs
      clear hs
      go_upto_if 32 with fail
      obtain ⟨wb, hwb⟩ : ∃ wb, wb = wz.alloc (.cells #[.int .i64 (xk : Int), .int .i64 (xn : Int), .string s] 28) := ⟨_, rfl⟩
      have HWR : Hid (Wr W1.heap.size W1 wb u8 (Ac.wordsOf (LA.take k)) wz.heap.size #[.int .i64 (xk : Int), .int .i64 (xn : Int), .string s]) := Lib.hid (by
        rw [hwb]
        exact ⟨hO.out.under ((Below.refl _ _).alloc (Nat.le_refl _) _), heap_alloc_new wz _, hbl.out.alloc hbl.out.size _⟩)
      rw [← hwb]
      clear hwb p0 p1 p2 hO hbl
      obtain ⟨P1, hP1⟩ : ∃ P1, P1 = (if LA.take k = [] then [] else Ac.wordsOf (LA.take k) ++ [Ac.wd [59] false]) := ⟨_, rfl⟩
      have HP1 := Lib.hid hP1
      have HPL : Hid (P1.length ≤ 25) := Lib.hid (by
        rw [hP1]
        have := HLE.out
        split <;> simp <;> omega)
      clear hP1
      obtain ⟨P1, hP1⟩ : ∃ P1, P1 = (if LA.take k = [] then [] else Ac.wordsOf (LA.take k) ++ [Ac.wd [59] false]) := ⟨_, rfl⟩
      have HP1 := Lib.hid hP1
      have HPL : Hid (P1.length ≤ 25) := Lib.hid (by
        rw [hP1]
        have := HLE.out
        split <;> simp <;> omega)
      clear hP1
      obtain ⟨P1, hP1⟩ : ∃ P1, P1 = (if LA.take k = [] then [] else Ac.wordsOf (LA.take k) ++ [Ac.wd [59] false]) := ⟨_, rfl⟩
      have HP1 := Lib.hid hP1
      have HPL : Hid (P1.length ≤ 25) := Lib.hid (by
        rw [hP1]
        have := HLE.out
        split <;> simp <;> omega)
      clear hP1
      go_cut [8] (fun s8 wx => Hid (Wr W1.heap.size W1 wx s8 P1 wz.heap.size #[.int .i64 (xk : Int), .int .i64 (xn : Int), .string s]))
      case first =>
        by_cases hk0 : k = 0
        · have hk0N : ¬ 0 < k := by omega
          have HP2 : Hid (P1 = Ac.wordsOf (LA.take k)) := Lib.hid (by rw [HP1.out, if_pos (HK0.out.2 hk0), HK0.out.2 hk0]; rfl)
          clear hk0
          go_wp2_with fail
          go_meet
          rw [HP2.out]
          exact HWR
        · have hk0N : 0 < k := by omega
          have HP2 : Hid (Ac.wordsOf (LA.take k) ++ [Ac.wd [59] false] = P1) := Lib.hid (by rw [HP1.out, if_neg (fun h => hk0 (HK0.out.1 h))])
          clear hk0
          go_wp2_with (at_builtin; refine wpList_append_ws rfl _ _ rfl W1.heap.size u8 (Ac.wordsOf (LA.take k)) [Ac.wd [59] false] rfl (HWR.out.alloc HWR.out.below.size _).own ⟨wb.heap.size, 0, none⟩ 1 1 rfl rfl (lie_one wb (Ac.wd [59] false)) (by have := HLE.out; simp; omega) (HWR.out.alloc HWR.out.below.size _).below.size P1 HP2.out ?_)
          intro u' w' hG
          have HW2 := Lib.hid ((HWR.out.alloc HWR.out.below.size _).grew hG)
          clear hG
          go_wp2_with fail
          go_meet
          exact HW2
      case rest =>
        obtain ⟨wd, rfl⟩ : ∃ wx : World, wx = wc := ⟨_, rfl⟩
        have HW1 := hcut
        obtain ⟨P2, hP2⟩ : ∃ P2, P2 = P1 ++ [Ac.wd (Ac.names.getD xk []) false] := ⟨_, rfl⟩
        have HP2 := Lib.hid hP2
        have HQL : Hid (P2.length ≤ 26) := Lib.hid (by rw [hP2]; have := HPL.out; simp; omega)
        clear hP2 HWR HK0
        have c0 := HW1.out.box.at 0
        change wd.cell? ⟨wz.heap.size, 0, none⟩ = some (.int .i64 (xk : Int)) at c0
        have hxk : xk < 12 := by have := HGX.out; omega
        have hxkI : (xk : Int) < 12 := by omega
        have hxk0 : (0 : Int) ≤ (xk : Int) := by omega
        have cn := cell_later HW1.out.below (na_at HNM.out xk hxk)
        obtain ⟨sn, hsn⟩ : ∃ sn, str (Ac.names.getD xk []) = sn := ⟨_, rfl⟩
        rw [hsn] at cn
        have HLO : Hid (LieW (wd.alloc (.cells #[.string sn, .int .i64 0, .int .i64 0, .bool false] 30)) ⟨wd.heap.size, 0, none⟩ [Ac.wd (Ac.names.getD xk []) false]) := Lib.hid (by rw [← hsn]; exact lie_one wd (Ac.wd (Ac.names.getD xk []) false))
        clear hsn
        go_upto_region 10 with (at_builtin; refine wpList_append_ws rfl _ _ rfl W1.heap.size u8 P1 [Ac.wd (Ac.names.getD xk []) false] rfl (HW1.out.alloc HW1.out.below.size _).own ⟨wd.heap.size, 0, none⟩ 1 1 rfl rfl HLO.out (by have := HPL.out; simp; omega) (HW1.out.alloc HW1.out.below.size _).below.size P2 HP2.out.symm ?_; intro vv w2 hG; have HW2 := Lib.hid ((HW1.out.alloc HW1.out.below.size _).grew hG); clear hG)
        have HWO : Hid (Ac.wordsOf (LA.take (k + 1)) = P1 ++ Ac.wordsD ⟨xk, xn, xt⟩) := Lib.hid (by rw [HTK.out, Ac.wordsOf_snoc, ← HP1.out])
        have x0 := HW2.out.box.at 0
        have x1 := HW2.out.box.at 1
        have x2 := HW2.out.box.at 2
        change w2.cell? ⟨wz.heap.size, 0, none⟩ = some (.int .i64 (xk : Int)) at x0
        change w2.cell? ⟨wz.heap.size, 1, none⟩ = some (.int .i64 (xn : Int)) at x1
        change w2.cell? ⟨wz.heap.size, 2, none⟩ = some (.string s) at x2
        clear c0 cn HLO hxk hxkI hxk0 HW1 hcut
        by_cases h1 : xk = 1
        · as_aux_lemma =>
            have e1 : ((xk : Int) == 1) = true := by simp; omega
            have HF : Hid (P2 ++ [Ac.wd xt true] = Ac.wordsOf (LA.take (k + 1))) := Lib.hid (by
              rw [HWO.out, HP2.out]
              unfold Ac.wordsD
              rw [if_pos (by show Ac.isText xk = true; rw [h1]; rfl)]
              simp)
            have HLT : Hid (LieW (w2.alloc (.cells #[.string s, .int .i64 0, .int .i64 0, .bool true] 30)) ⟨w2.heap.size, 0, none⟩ [Ac.wd xt true]) := Lib.hid (by rw [← HS.out]; exact lie_one w2 (Ac.wd xt true))
            clear h1
            go_wp2_with (at_builtin; refine wpList_append_ws rfl _ _ rfl W1.heap.size vv P2 [Ac.wd xt true] rfl (HW2.out.alloc HW2.out.below.size _).own ⟨w2.heap.size, 0, none⟩ 1 1 rfl rfl HLT.out (by have := HQL.out; simp; omega) (HW2.out.alloc HW2.out.below.size _).below.size (Ac.wordsOf (LA.take (k + 1))) HF.out ?_)
            intro v3 w3 hG
            have HW3 := Lib.hid ((HW2.out.alloc HW2.out.below.size _).grew hG)
            clear hG
            have hk8 : k ≤ 8 := by have := HL8.out; omega
            go_wp2
            go_roundg (na - (k + 1))
            case measure => omega
            case rel => exact ⟨k + 1, hlt, by omega, by go_num, Lib.hid HW3.out.own, Lib.hid HW3.out.below⟩
        by_cases h10 : xk = 10
        · as_aux_lemma =>
            have e1 : ((xk : Int) == 1) = false := by simp; omega
            have e10 : ((xk : Int) == 10) = true := by simp; omega
            have HF : Hid (P2 ++ [Ac.wd xt true] = Ac.wordsOf (LA.take (k + 1))) := Lib.hid (by
              rw [HWO.out, HP2.out]
              unfold Ac.wordsD
              rw [if_pos (by show Ac.isText xk = true; rw [h10]; rfl)]
              simp)
            have HLT : Hid (LieW (w2.alloc (.cells #[.string s, .int .i64 0, .int .i64 0, .bool true] 30)) ⟨w2.heap.size, 0, none⟩ [Ac.wd xt true]) := Lib.hid (by rw [← HS.out]; exact lie_one w2 (Ac.wd xt true))
            clear h10
            go_wp2_with (at_builtin; refine wpList_append_ws rfl _ _ rfl W1.heap.size vv P2 [Ac.wd xt true] rfl (HW2.out.alloc HW2.out.below.size _).own ⟨w2.heap.size, 0, none⟩ 1 1 rfl rfl HLT.out (by have := HQL.out; simp; omega) (HW2.out.alloc HW2.out.below.size _).below.size (Ac.wordsOf (LA.take (k + 1))) HF.out ?_)
            intro v3 w3 hG
            have HW3 := Lib.hid ((HW2.out.alloc HW2.out.below.size _).grew hG)
            clear hG
            have hk8 : k ≤ 8 := by have := HL8.out; omega
            go_wp2
            go_roundg (na - (k + 1))
            case measure => omega
            case rel => exact ⟨k + 1, hlt, by omega, by go_num, Lib.hid HW3.out.own, Lib.hid HW3.out.below⟩
        by_cases h2 : xk = 2
        · as_aux_lemma =>
            have e1 : ((xk : Int) == 1) = false := by simp; omega
            have e10 : ((xk : Int) == 10) = false := by simp; omega
            have e2 : ((xk : Int) == 2) = true := by simp; omega
            have HF : Hid (P2 ++ [Ac.wd (Nm.dec xn) false] = Ac.wordsOf (LA.take (k + 1))) := Lib.hid (by
              rw [HWO.out, HP2.out]
              unfold Ac.wordsD
              rw [if_neg (by show ¬ Ac.isText xk = true; rw [h2]; decide), if_pos (by show Ac.most xk ≠ 0; rw [h2]; decide)]
              simp)
            have HDC := Lib.hid (refdec_any xn w2 (by have := HGX.out; omega))
            obtain ⟨sd, hsd⟩ : ∃ sd, str (Nm.dec xn) = sd := ⟨_, rfl⟩
            rw [hsd] at HDC
            have HSD := Lib.hid hsd
            clear h2 hsd
            go_wp2_with fail
            refine HDC.out.mono ?_
            rintro e w5 ⟨rfl, hb5⟩
            have HW5 := Lib.hid (HW2.out.under HW2.out.below.size hb5)
            have HLT : Hid (LieW (w5.alloc (.cells #[.string sd, .int .i64 0, .int .i64 0, .bool false] 30)) ⟨w5.heap.size, 0, none⟩ [Ac.wd (Nm.dec xn) false]) := Lib.hid (by rw [← HSD.out]; exact lie_one w5 (Ac.wd (Nm.dec xn) false))
            clear hb5 HDC x0 x1 x2
            go_wp2_with (at_builtin; refine wpList_append_ws rfl _ _ rfl W1.heap.size vv P2 [Ac.wd (Nm.dec xn) false] rfl (HW5.out.alloc HW5.out.below.size _).own ⟨w5.heap.size, 0, none⟩ 1 1 rfl rfl HLT.out (by have := HQL.out; simp; omega) (HW5.out.alloc HW5.out.below.size _).below.size (Ac.wordsOf (LA.take (k + 1))) HF.out ?_)
            intro v3 w3 hG
            have HW3 := Lib.hid ((HW5.out.alloc HW5.out.below.size _).grew hG)
            clear hG
            have hk8 : k ≤ 8 := by have := HL8.out; omega
            go_wp2
            go_roundg (na - (k + 1))
            case measure => omega
            case rel => exact ⟨k + 1, hlt, by omega, by go_num, Lib.hid HW3.out.own, Lib.hid HW3.out.below⟩
        by_cases h7 : xk = 7
        · as_aux_lemma =>
            have e1 : ((xk : Int) == 1) = false := by simp; omega
            have e10 : ((xk : Int) == 10) = false := by simp; omega
            have e2 : ((xk : Int) == 2) = false := by simp; omega
            have e7 : ((xk : Int) == 7) = true := by simp; omega
            have HF : Hid (P2 ++ [Ac.wd (Nm.dec xn) false] = Ac.wordsOf (LA.take (k + 1))) := Lib.hid (by
              rw [HWO.out, HP2.out]
              unfold Ac.wordsD
              rw [if_neg (by show ¬ Ac.isText xk = true; rw [h7]; decide), if_pos (by show Ac.most xk ≠ 0; rw [h7]; decide)]
              simp)
            have HDC := Lib.hid (refdec_any xn w2 (by have := HGX.out; omega))
            obtain ⟨sd, hsd⟩ : ∃ sd, str (Nm.dec xn) = sd := ⟨_, rfl⟩
            rw [hsd] at HDC
            have HSD := Lib.hid hsd
            clear h7 hsd
            go_wp2_with fail
            refine HDC.out.mono ?_
            rintro e w5 ⟨rfl, hb5⟩
            have HW5 := Lib.hid (HW2.out.under HW2.out.below.size hb5)
            have HLT : Hid (LieW (w5.alloc (.cells #[.string sd, .int .i64 0, .int .i64 0, .bool false] 30)) ⟨w5.heap.size, 0, none⟩ [Ac.wd (Nm.dec xn) false]) := Lib.hid (by rw [← HSD.out]; exact lie_one w5 (Ac.wd (Nm.dec xn) false))
            clear hb5 HDC x0 x1 x2
            go_wp2_with (at_builtin; refine wpList_append_ws rfl _ _ rfl W1.heap.size vv P2 [Ac.wd (Nm.dec xn) false] rfl (HW5.out.alloc HW5.out.below.size _).own ⟨w5.heap.size, 0, none⟩ 1 1 rfl rfl HLT.out (by have := HQL.out; simp; omega) (HW5.out.alloc HW5.out.below.size _).below.size (Ac.wordsOf (LA.take (k + 1))) HF.out ?_)
            intro v3 w3 hG
            have HW3 := Lib.hid ((HW5.out.alloc HW5.out.below.size _).grew hG)
            clear hG
            have hk8 : k ≤ 8 := by have := HL8.out; omega
            go_wp2
            go_roundg (na - (k + 1))
            case measure => omega
            case rel => exact ⟨k + 1, hlt, by omega, by go_num, Lib.hid HW3.out.own, Lib.hid HW3.out.below⟩
        by_cases h8 : xk = 8
        · as_aux_lemma =>
            have e1 : ((xk : Int) == 1) = false := by simp; omega
            have e10 : ((xk : Int) == 10) = false := by simp; omega
            have e2 : ((xk : Int) == 2) = false := by simp; omega
            have e7 : ((xk : Int) == 7) = false := by simp; omega
            have e8 : ((xk : Int) == 8) = true := by simp; omega
            have HF : Hid (P2 ++ [Ac.wd (Nm.dec xn) false] = Ac.wordsOf (LA.take (k + 1))) := Lib.hid (by
              rw [HWO.out, HP2.out]
              unfold Ac.wordsD
              rw [if_neg (by show ¬ Ac.isText xk = true; rw [h8]; decide), if_pos (by show Ac.most xk ≠ 0; rw [h8]; decide)]
              simp)
            have HDC := Lib.hid (refdec_any xn w2 (by have := HGX.out; omega))
            obtain ⟨sd, hsd⟩ : ∃ sd, str (Nm.dec xn) = sd := ⟨_, rfl⟩
            rw [hsd] at HDC
            have HSD := Lib.hid hsd
            clear h8 hsd
            go_wp2_with fail
            refine HDC.out.mono ?_
            rintro e w5 ⟨rfl, hb5⟩
            have HW5 := Lib.hid (HW2.out.under HW2.out.below.size hb5)
            have HLT : Hid (LieW (w5.alloc (.cells #[.string sd, .int .i64 0, .int .i64 0, .bool false] 30)) ⟨w5.heap.size, 0, none⟩ [Ac.wd (Nm.dec xn) false]) := Lib.hid (by rw [← HSD.out]; exact lie_one w5 (Ac.wd (Nm.dec xn) false))
            clear hb5 HDC x0 x1 x2
            go_wp2_with (at_builtin; refine wpList_append_ws rfl _ _ rfl W1.heap.size vv P2 [Ac.wd (Nm.dec xn) false] rfl (HW5.out.alloc HW5.out.below.size _).own ⟨w5.heap.size, 0, none⟩ 1 1 rfl rfl HLT.out (by have := HQL.out; simp; omega) (HW5.out.alloc HW5.out.below.size _).below.size (Ac.wordsOf (LA.take (k + 1))) HF.out ?_)
            intro v3 w3 hG
            have HW3 := Lib.hid ((HW5.out.alloc HW5.out.below.size _).grew hG)
            clear hG
            have hk8 : k ≤ 8 := by have := HL8.out; omega
            go_wp2
            go_roundg (na - (k + 1))
            case measure => omega
            case rel => exact ⟨k + 1, hlt, by omega, by go_num, Lib.hid HW3.out.own, Lib.hid HW3.out.below⟩
        as_aux_lemma =>
          have e1 : ((xk : Int) == 1) = false := by simp; omega
          have e10 : ((xk : Int) == 10) = false := by simp; omega
          have e2 : ((xk : Int) == 2) = false := by simp; omega
          have e7 : ((xk : Int) == 7) = false := by simp; omega
          have e8 : ((xk : Int) == 8) = false := by simp; omega
          have HF : Hid (P2 = Ac.wordsOf (LA.take (k + 1))) := Lib.hid (by
            rw [HWO.out, HP2.out]
            unfold Ac.wordsD
            rw [if_neg (by show ¬ Ac.isText xk = true; unfold Ac.isText; simp [h1, h10]), if_neg (by show ¬ Ac.most xk ≠ 0; unfold Ac.most; simp [h2, h7, h8])])
          clear h1 h2 h7 h8 h10
          have hk8 : k ≤ 8 := by have := HL8.out; omega
          go_wp2
          go_roundg (na - (k + 1))
          case measure => omega
          case rel => exact ⟨k + 1, hlt, by omega, by go_num, Lib.hid (by rw [← HF.out]; exact HW2.out.own), Lib.hid HW2.out.below⟩
    · obtain rfl : k = na := by omega
      have HOW : Hid (OwnW wz W1.heap.size u8 (Ac.wordsOf LA)) := Lib.hid (by have := hO.out; rwa [List.take_of_length_le (by rw [HN.out]; exact Nat.le_refl _)] at this)
      clear hO hlt hg hk HG
      have HWS : Hid (∀ x ∈ Ac.wordsOf LA, Ac.okW x) := Lib.hid (Ac.wordsOf_ok LA (fun d hd => by
        obtain ⟨_, _, h3⟩ := Ac.ok_small HKA.out
        have := h3 d hd
        exact ⟨this.2.1, this.2.2.1, this.2.2.2.2, this.2.2.2.1⟩))
      have HNW : Hid (1 ≤ (Ac.wordsOf LA).length ∧ (Ac.wordsOf LA).length ≤ 24) := Lib.hid ⟨words_some HKA.out, by have := Ac.wordsOf_len LA; rw [HN.out] at this; have := HL8.out; omega⟩
      have HBI := Lib.hid (Ac.back_is HKA.out)
      obtain ⟨WS, hWS⟩ : ∃ WS, Ac.wordsOf LA = WS := ⟨_, rfl⟩
      rw [hWS] at HOW HWS HNW HBI
      clear hWS
      obtain ⟨gw, cw, rfl, hgw, hcw⟩ := HOW.out.blk HNW.out.1
      obtain ⟨nw, hnw⟩ : ∃ nw, WS.length = nw := ⟨_, rfl⟩
      rw [hnw] at HOW HNW hcw ⊢
      have HNL := Lib.hid hnw
      have HPA := Lib.hid (parse_any _ WS wz HOW.out.rd (by rw [hnw]; have := HNW.out; omega) HWS.out (HTab.out.under (HB2.out.trans (hbl.out.mono HB2.out.size))) _ HBI.out.symm)
      clear hnw hgw
      go_wp2_with fail
      refine HPA.out.mono ?_
      rintro e w2 ⟨⟨vb, rfl, hob⟩, hb2⟩
      have HSB := Lib.hid hob.rd
      have HOW2 := Lib.hid (HOW.out.under hb2)
      have HB3 : Hid (Below w.heap.size w w2) := Lib.hid ((HB2.out.trans (hbl.out.mono HB2.out.size)).trans (hb2.mono (HB2.out.trans (hbl.out.mono HB2.out.size)).size))
      have HRA2 := Lib.hid ((HR1.out.under hbl.out).under hb2)
      clear hob hb2 HPA HOW HR1 hbl HB2 HNM HB1
      obtain ⟨Ma, hMa, hMa2⟩ := HM.out
      change bits .and .i64 at1 255 = (Ma : Int) at hMa
      have hnwb := HNW.out
      obtain ⟨kk, hkk⟩ : ∃ kk : Nat, (bits .and .i64 at1 255).tmod ((nw : Int) + 1) = (kk : Int) := ⟨Ma % (nw + 1), by rw [hMa, Int.tmod_eq_emod_of_nonneg (by omega)]; push_cast; rfl⟩
      have hkn : kk ≤ nw := by
        rw [hMa, Int.tmod_eq_emod_of_nonneg (by omega)] at hkk
        have := Int.emod_lt_of_pos (Ma : Int) (show (0 : Int) < (nw : Int) + 1 by omega)
        omega
      have hn0 : ¬ (nw : Int) + 1 = 0 := by omega
      clear hMa hMa2
      go_upto_region 21 with fail
      obtain ⟨Mw, hMw, hMw2⟩ := HMW.out
      change bits .and .i64 word 255 = (Mw : Int) at hMw
      obtain ⟨m6, hm6⟩ : ∃ m6 : Nat, (bits .and .i64 word 255).tmod 6 = (m6 : Int) := ⟨Mw % 6, by rw [hMw, Int.tmod_eq_emod_of_nonneg (by omega)]; omega⟩
      have hm6b : m6 < 6 := by
        rw [hMw, Int.tmod_eq_emod_of_nonneg (by omega)] at hm6
        omega
      clear hMw hMw2
      have h6 : m6 = 0 ∨ m6 = 1 ∨ m6 = 2 ∨ m6 = 3 ∨ m6 = 4 ∨ m6 = 5 := by omega
      go_cut [15] (fun s15 wx => ∃ (g : Nat) (z : Ln.W), s15 = .pointer (some ⟨g, 0, none⟩) ∧ Hid (Blk wx g 30 (cellsW z).toArray) ∧ Hid (Ac.okW z) ∧ Hid (Below w2.heap.size w2 wx))
      case first =>
        clear hkk hkn hn0 hnwb
        have hb2 : ∀ o o', Below w2.heap.size w2 ((w2.alloc o).alloc o') := fun o o' => ((Below.refl _ _).alloc (Nat.le_refl _) o).alloc (by simp) o'
        have hbk : ∀ o C, Blk ((w2.alloc o).alloc (.cells C 30)) (w2.heap.size + 1) 30 C := fun o C => by
          have := heap_alloc_new (w2.alloc o) (.cells C 30)
          rwa [show (w2.alloc o).heap.size = w2.heap.size + 1 from by simp] at this
        rcases h6 with rfl | rfl | rfl | rfl | rfl | rfl
        · go_wp2_with fail
          go_meet
          exact ⟨w2.heap.size + 1, ⟨[97, 108, 108], 0, 0, bits .and .i64 (word / 256) 3 == 0⟩, rfl, Lib.hid (hbk _ _), Lib.hid ⟨by show ∀ c ∈ [97, 108, 108], c < 256; decide, by show ([97, 108, 108] : List Nat).length ≤ _; decide⟩, Lib.hid (hb2 _ _)⟩
        · go_wp2_with fail
          go_meet
          exact ⟨w2.heap.size + 1, ⟨[114, 101, 118], 0, 0, bits .and .i64 (word / 256) 3 == 0⟩, rfl, Lib.hid (hbk _ _), Lib.hid ⟨by show ∀ c ∈ [114, 101, 118], c < 256; decide, by show ([114, 101, 118] : List Nat).length ≤ _; decide⟩, Lib.hid (hb2 _ _)⟩
        · go_wp2_with fail
          go_meet
          exact ⟨w2.heap.size + 1, ⟨[55], 0, 0, bits .and .i64 (word / 256) 3 == 0⟩, rfl, Lib.hid (hbk _ _), Lib.hid ⟨by show ∀ c ∈ [55], c < 256; decide, by show ([55] : List Nat).length ≤ _; decide⟩, Lib.hid (hb2 _ _)⟩
        · go_wp2_with fail
          go_meet
          exact ⟨w2.heap.size + 1, ⟨[113], 0, 0, bits .and .i64 (word / 256) 3 == 0⟩, rfl, Lib.hid (hbk _ _), Lib.hid ⟨by show ∀ c ∈ [113], c < 256; decide, by show ([113] : List Nat).length ≤ _; decide⟩, Lib.hid (hb2 _ _)⟩
        · go_wp2_with fail
          go_meet
          exact ⟨w2.heap.size + 1, ⟨[59], 0, 0, bits .and .i64 (word / 256) 3 == 0⟩, rfl, Lib.hid (hbk _ _), Lib.hid ⟨by show ∀ c ∈ [59], c < 256; decide, by show ([59] : List Nat).length ≤ _; decide⟩, Lib.hid (hb2 _ _)⟩
        · go_wp2_with fail
          go_meet
          exact ⟨w2.heap.size + 1, ⟨[102, 97, 105, 108], 0, 0, bits .and .i64 (word / 256) 3 == 0⟩, rfl, Lib.hid (hbk _ _), Lib.hid ⟨by show ∀ c ∈ [102, 97, 105, 108], c < 256; decide, by show ([102, 97, 105, 108] : List Nat).length ≤ _; decide⟩, Lib.hid (hb2 _ _)⟩
      case rest =>
        obtain ⟨gz, z, rfl, hbz, hoz, hbx⟩ := hcut
        obtain ⟨wd, rfl⟩ : ∃ wx : World, wx = wc := ⟨_, rfl⟩
        have HB4 := Lib.hid (HB3.out.trans (hbx.out.mono HB3.out.size))
        have HRW := Lib.hid (HOW2.out.rd.under hbx.out)
        have HSB4 := Lib.hid (HSB.out.under hbx.out)
        have HRA4 := Lib.hid (HRA2.out.under hbx.out)
        have z0 := hbz.out.at 0
        have z1 := hbz.out.at 1
        have z2 := hbz.out.at 2
        have z3 := hbz.out.at 3
        obtain ⟨zt, zl, zc, zq⟩ := z
        change wd.cell? ⟨gz, 0, none⟩ = some (.string (str zt)) at z0
        change wd.cell? ⟨gz, 1, none⟩ = some (.int .i64 (zl : Int)) at z1
        change wd.cell? ⟨gz, 2, none⟩ = some (.int .i64 (zc : Int)) at z2
        change wd.cell? ⟨gz, 3, none⟩ = some (.bool zq) at z3
        have hkI1 : (kk : Int) ≤ (nw : Int) := by omega
        have hkI2 : (nw : Int) ≤ (cw : Int) := by omega
        have hkI3 : (0 : Int) ≤ (kk : Int) := by omega
        have hkI4 : (kk : Int) ≤ (cw : Int) := by omega
        obtain ⟨ad, had⟩ : ∃ ad : Addr, (if cw = kk then some (⟨gw, 0, none⟩ : Addr) else some ⟨gw, kk * 4, none⟩) = some ad := by split <;> exact ⟨_, rfl⟩
        have HDR : Hid (RdW wd (.slice (some ad) (nw - kk) (cw - kk)) (WS.drop kk)) := Lib.hid (by
          have := HRW.out.slice (fr := kk) (i := nw) hkn (Nat.le_refl _) (A' := some ad) (fun h => by rw [← had, if_neg (by omega), Nat.zero_add])
          rwa [List.take_of_length_le (by rw [List.length_drop, HNL.out]; exact Nat.le_refl _)] at this)
        have HTK2 : Hid (RdW wd (.slice (some ⟨gw, 0, none⟩) kk cw) (WS.take kk)) := Lib.hid (HRW.out.head hkn)
        have HTL : Hid ((WS.take kk).length = kk ∧ (WS.drop kk).length = nw - kk) := Lib.hid ⟨by rw [List.length_take, HNL.out]; omega, by rw [List.length_drop, HNL.out]⟩
        clear hkk hn0 hnwb hm6 hm6b h6 HOW2 HSB HRA2 HB3 hbx HM HMW
        go_upto_region 22 with fail
        go_cut [16] (fun s16 wx => Hid (OwnW wx wd.heap.size s16 (WS.take kk ++ [⟨zt, zl, zc, zq⟩] ++ WS.drop kk)) ∧ Hid (Below wd.heap.size wd wx))
        case first =>
          have y0 : ∀ o, (wd.alloc o).cell? ⟨gz, 0, none⟩ = some (.string (str zt)) := fun o => (hbz.out.alloc o).at 0
          have yy0 : ∀ o o', ((wd.alloc o).alloc o').cell? ⟨gz, 0, none⟩ = some (.string (str zt)) := fun o o' => ((hbz.out.alloc o).alloc o').at 0
          have y1 : ∀ o, (wd.alloc o).cell? ⟨gz, 1, none⟩ = some (.int .i64 (zl : Int)) := fun o => (hbz.out.alloc o).at 1
          have yy1 : ∀ o o', ((wd.alloc o).alloc o').cell? ⟨gz, 1, none⟩ = some (.int .i64 (zl : Int)) := fun o o' => ((hbz.out.alloc o).alloc o').at 1
          have y2 : ∀ o, (wd.alloc o).cell? ⟨gz, 2, none⟩ = some (.int .i64 (zc : Int)) := fun o => (hbz.out.alloc o).at 2
          have yy2 : ∀ o o', ((wd.alloc o).alloc o').cell? ⟨gz, 2, none⟩ = some (.int .i64 (zc : Int)) := fun o o' => ((hbz.out.alloc o).alloc o').at 2
          have y3 : ∀ o, (wd.alloc o).cell? ⟨gz, 3, none⟩ = some (.bool zq) := fun o => (hbz.out.alloc o).at 3
          have yy3 : ∀ o o', ((wd.alloc o).alloc o').cell? ⟨gz, 3, none⟩ = some (.bool zq) := fun o o' => ((hbz.out.alloc o).alloc o').at 3
          have B1 : Hid (Below wd.heap.size wd (wd.alloc (.cells #[] 30))) := Lib.hid ((Below.refl _ _).alloc (Nat.le_refl _) _)
          have B2 : Hid (Below wd.heap.size wd ((wd.alloc (.cells #[] 30)).alloc (.cells (cellsW ⟨zt, zl, zc, zq⟩).toArray 30))) := Lib.hid (B1.out.alloc B1.out.size _)
          have B0 : Below wd.heap.size wd (wd.alloc (.cells (cellsW ⟨zt, zl, zc, zq⟩).toArray 30)) := (Below.refl _ _).alloc (Nat.le_refl _) _
          have B3 : Hid (Below wd.heap.size wd ((wd.alloc (.cells (cellsW ⟨zt, zl, zc, zq⟩).toArray 30)).alloc (.cells #[] 30))) := Lib.hid (B0.alloc B0.size _)
          have E1 : Hid (OwnW (wd.alloc (.cells #[] 30)) wd.heap.size (.slice (some ⟨wd.heap.size, 0, none⟩) 0 0) []) := Lib.hid (ownW_empty _ _ (Nat.le_refl _))
          have E2 : Hid (OwnW ((wd.alloc (.cells #[] 30)).alloc (.cells (cellsW ⟨zt, zl, zc, zq⟩).toArray 30)) wd.heap.size (.slice (some ⟨wd.heap.size, 0, none⟩) 0 0) []) := Lib.hid (E1.out.under ((Below.refl _ _).alloc (Nat.le_refl _) _))
          have E3 : Hid (OwnW ((wd.alloc (.cells (cellsW ⟨zt, zl, zc, zq⟩).toArray 30)).alloc (.cells #[] 30)) wd.heap.size (.slice (some ⟨wd.heap.size + 1, 0, none⟩) 0 0) []) := Lib.hid (by
            have := ownW_empty (wd.alloc (.cells (cellsW ⟨zt, zl, zc, zq⟩).toArray 30)) wd.heap.size B0.size
            rwa [show (wd.alloc (.cells (cellsW ⟨zt, zl, zc, zq⟩).toArray 30)).heap.size = wd.heap.size + 1 from by simp] at this)
          have L1 := Lib.hid ((HTK2.out.under B1.out).lie)
          have L2 := Lib.hid ((HTK2.out.under B2.out).lie)
          have L3 := Lib.hid ((HTK2.out.under B3.out).lie)
          have K2 : Hid (Blk ((wd.alloc (.cells #[] 30)).alloc (.cells (cellsW ⟨zt, zl, zc, zq⟩).toArray 30)) (wd.heap.size + 1) 30 (cellsW ⟨zt, zl, zc, zq⟩).toArray) := Lib.hid (by
            have := heap_alloc_new (wd.alloc (.cells #[] 30)) (.cells (cellsW ⟨zt, zl, zc, zq⟩).toArray 30)
            rwa [show (wd.alloc (.cells #[] 30)).heap.size = wd.heap.size + 1 from by simp] at this)
          have K3 : Hid (Blk ((wd.alloc (.cells (cellsW ⟨zt, zl, zc, zq⟩).toArray 30)).alloc (.cells #[] 30)) wd.heap.size 30 (cellsW ⟨zt, zl, zc, zq⟩).toArray) := Lib.hid (Blk.alloc (heap_alloc_new wd (.cells (cellsW ⟨zt, zl, zc, zq⟩).toArray 30)) _)
          clear B0
          go_region_law (first
            | (refine step_append_ws rfl (.tmp 91) (.tmp 94) rfl wd.heap.size _ [] (WS.take kk) rfl (by first | exact OwnW.heap E1.out rfl | exact OwnW.heap E2.out rfl | exact OwnW.heap E3.out rfl) ⟨gw, 0, none⟩ kk cw rfl HTL.out.1 (by first | exact LieW.heap L1.out rfl | exact LieW.heap L2.out rfl | exact LieW.heap L3.out rfl) (by rw [HTL.out.1]; have := HNW.out; simp; omega) (by first | (simp; done) | (simp; omega)) (WS.take kk) rfl ?_; rintro x1 wf ⟨ho1, hg1, hb1⟩; have hbb1 : Below wd.heap.size wd wf := (by first | exact below_heap hb1 B1.out rfl ⟨rfl, rfl, rfl⟩ | exact below_heap hb1 B2.out rfl ⟨rfl, rfl, rfl⟩ | exact below_heap hb1 B3.out rfl ⟨rfl, rfl, rfl⟩); have KZ1 : Hid (Blk wf gz 30 (cellsW ⟨zt, zl, zc, zq⟩).toArray) := Lib.hid (hbz.out.under hbb1); have q10 : wf.cell? ⟨gz, 0, none⟩ = some (.string (str zt)) := KZ1.out.at 0; have p10 : ∀ o, (wf.alloc o).cell? ⟨gz, 0, none⟩ = some (.string (str zt)) := fun o => (KZ1.out.alloc o).at 0; have q11 : wf.cell? ⟨gz, 1, none⟩ = some (.int .i64 (zl : Int)) := KZ1.out.at 1; have p11 : ∀ o, (wf.alloc o).cell? ⟨gz, 1, none⟩ = some (.int .i64 (zl : Int)) := fun o => (KZ1.out.alloc o).at 1; have q12 : wf.cell? ⟨gz, 2, none⟩ = some (.int .i64 (zc : Int)) := KZ1.out.at 2; have p12 : ∀ o, (wf.alloc o).cell? ⟨gz, 2, none⟩ = some (.int .i64 (zc : Int)) := fun o => (KZ1.out.alloc o).at 2; have q13 : wf.cell? ⟨gz, 3, none⟩ = some (.bool zq) := KZ1.out.at 3; have p13 : ∀ o, (wf.alloc o).cell? ⟨gz, 3, none⟩ = some (.bool zq) := fun o => (KZ1.out.alloc o).at 3; (first | (have HZL : Hid (LieW wf ⟨wd.heap.size + 1, 0, none⟩ [⟨zt, zl, zc, zq⟩]) := Lib.hid (lie_blk (blk_grew hg1 (by simp [Act.eval, Value.ownBlock]) K2.out rfl))) | (have HZL : Hid (LieW wf ⟨wd.heap.size, 0, none⟩ [⟨zt, zl, zc, zq⟩]) := Lib.hid (lie_blk (blk_grew hg1 (by simp [Act.eval, Value.ownBlock]) K3.out rfl))) | skip))
            | (refine step_append_ws rfl (.tmp 95) (.tmp 97) rfl wd.heap.size _ (WS.take kk) [⟨zt, zl, zc, zq⟩] rfl (by first | exact OwnW.heap ho1 rfl | exact OwnW.heap (ho1.under ((Below.refl _ _).alloc (Nat.le_refl _) (.cells (cellsW ⟨zt, zl, zc, zq⟩).toArray 30))) rfl) _ 1 1 rfl rfl (by first | exact LieW.heap (lie_one wf ⟨zt, zl, zc, zq⟩) rfl | exact LieW.heap HZL.out rfl) (by rw [HTL.out.1]; have := HNW.out; simp; omega) (by first | exact hbb1.size | exact Nat.le_trans hbb1.size (by simp)) _ rfl ?_; rintro x2 wg ⟨ho2, hg2, hb2⟩; have hbb2 : Below wd.heap.size wd wg := (by first | exact below_heap hb2 hbb1 rfl ⟨rfl, rfl, rfl⟩ | exact below_heap hb2 (hbb1.alloc hbb1.size (.cells (cellsW ⟨zt, zl, zc, zq⟩).toArray 30)) rfl ⟨rfl, rfl, rfl⟩); have KZ2 : Hid (Blk wg gz 30 (cellsW ⟨zt, zl, zc, zq⟩).toArray) := Lib.hid (hbz.out.under hbb2); have q20 : wg.cell? ⟨gz, 0, none⟩ = some (.string (str zt)) := KZ2.out.at 0; have p20 : ∀ o, (wg.alloc o).cell? ⟨gz, 0, none⟩ = some (.string (str zt)) := fun o => (KZ2.out.alloc o).at 0; have q21 : wg.cell? ⟨gz, 1, none⟩ = some (.int .i64 (zl : Int)) := KZ2.out.at 1; have p21 : ∀ o, (wg.alloc o).cell? ⟨gz, 1, none⟩ = some (.int .i64 (zl : Int)) := fun o => (KZ2.out.alloc o).at 1; have q22 : wg.cell? ⟨gz, 2, none⟩ = some (.int .i64 (zc : Int)) := KZ2.out.at 2; have p22 : ∀ o, (wg.alloc o).cell? ⟨gz, 2, none⟩ = some (.int .i64 (zc : Int)) := fun o => (KZ2.out.alloc o).at 2; have q23 : wg.cell? ⟨gz, 3, none⟩ = some (.bool zq) := KZ2.out.at 3; have p23 : ∀ o, (wg.alloc o).cell? ⟨gz, 3, none⟩ = some (.bool zq) := fun o => (KZ2.out.alloc o).at 3)
            | (refine step_append_ws rfl (.tmp 98) (.tmp 101) rfl wd.heap.size _ (WS.take kk ++ [⟨zt, zl, zc, zq⟩]) (WS.drop kk) rfl (OwnW.heap ho2 rfl) ad (nw - kk) (cw - kk) rfl HTL.out.2 (LieW.heap ((HDR.out.under hbb2).lie) rfl) (by rw [List.length_append, HTL.out.1, HTL.out.2]; have := HNW.out; simp; omega) hbb2.size _ rfl ?_; rintro x3 wh ⟨ho3, hg3, hb3⟩; have hbb3 : Below wd.heap.size wd wh := below_heap hb3 hbb2 rfl ⟨rfl, rfl, rfl⟩; have HO3 := Lib.hid ho3; have HBB3 := Lib.hid hbb3))
          all_goals (go_wp2_with fail; go_meet; exact ⟨HO3, HBB3⟩)
        case rest =>
          obtain ⟨HO5, HB5⟩ := hcut
          obtain ⟨wx, rfl⟩ : ∃ wy : World, wy = wc := ⟨_, rfl⟩
          have HB6 := Lib.hid (HB4.out.trans (HB5.out.mono HB4.out.size))
          have HSB6 := Lib.hid (HSB4.out.under HB5.out)
          have HRA6 := Lib.hid (HRA4.out.under HB5.out)
          obtain ⟨MW, hMW⟩ : ∃ MW, MW = WS.take kk ++ [⟨zt, zl, zc, zq⟩] ++ WS.drop kk := ⟨_, rfl⟩
          have HMW2 : Hid (0 < MW.length ∧ MW.length ≤ 1000000) := Lib.hid (by rw [hMW, List.length_append, List.length_append, HTL.out.1, HTL.out.2]; have := HNW.out; simp; omega)
          have HMT : Hid (∀ x ∈ MW, Ac.okW x) := Lib.hid (fun x hx => by
            rw [hMW] at hx
            rcases List.mem_append.1 hx with hx | hx
            · rcases List.mem_append.1 hx with hx | hx
              · exact HWS.out x (List.mem_of_mem_take hx)
              · rw [List.mem_singleton.1 hx]; exact hoz.out
            · exact HWS.out x (List.mem_of_mem_drop hx))
          rw [← hMW] at HO5
          obtain ⟨T, hT⟩ : ∃ T, T = Ac.parse MW := ⟨_, rfl⟩
          have HT := Lib.hid hT
          have HTT : Hid (∀ d ∈ T.getD [], ∀ c ∈ d.text, c < 256) := Lib.hid (by rw [hT]; exact parse_texts MW)
          clear hMW hT z0 z1 z2 z3 hkI1 hkI2 hkI3 hkI4 had hkn hcw HDR HTK2 HRW HSB4 HRA4 HB4 hbz HTL
          have HP1 := Lib.hid (parse_any u16 MW wx HO5.out.rd HMW2.out.2 HMT.out (HTab.out.under HB6.out) T HT.out)
          go_wp2_with fail
          refine HP1.out.mono ?_
          intro e w6 hp
          obtain ⟨uc, rfl, hrc, hb6⟩ := told_parsed hp
          have HC := Lib.hid hrc
          have HO6 := Lib.hid (HO5.out.under hb6)
          have HB7 := Lib.hid (HB6.out.trans (hb6.mono HB6.out.size))
          have HSB7 := Lib.hid (HSB6.out.under hb6)
          have HRA7 := Lib.hid (HRA6.out.under hb6)
          clear hp hrc hb6 HP1 HO5 HB6 HSB6 HRA6
          have HP2 := Lib.hid (refparse_any u16 MW w6 HO6.out.rd HMW2.out.1 HMW2.out.2 HMT.out T HT.out)
          go_wp2_with fail
          refine HP2.out.mono ?_
          intro e w7 hp
          obtain ⟨ud, rfl, hrd, hb7⟩ := told_parse hp
          have HD := Lib.hid hrd
          have HC7 := Lib.hid (HC.out.under hb7)
          have HB8 := Lib.hid (HB7.out.trans (hb7.mono HB7.out.size))
          have HSB8 := Lib.hid (HSB7.out.under hb7)
          have HRA8 := Lib.hid (HRA7.out.under hb7)
          clear hp hrd hb7 HP2 HB7 HSB7 HRA7 HC HO6
          obtain ⟨q, hq⟩ : ∃ q, T.isSome = q := ⟨_, rfl⟩
          rw [hq]
          clear hq
          have HTL2 : Hid (∀ d ∈ LA, ∀ c ∈ d.text, c < 256) := Lib.hid (fun d hd => ((Ac.ok_small HKA.out).2.2 d hd).2.2.2.2)
          have HS1 := Lib.hid ((refsameact_any (.slice Aa k ca) vb LA LA w7 HRA8.out HSB8.out HTL2.out HTL2.out).mono (fun e w' (h : _ ∧ _) => (⟨by rw [h.1, decide_eq_true rfl], h.2⟩ : e = .returned (.bool true) ∧ ∃ nq, w' = w7.drewN nq)))
          go_wp2_with fail
          refine HS1.out.mono ?_
          rintro e w8 ⟨rfl, nq, rfl⟩
          have HOK := Lib.hid (okact_any (.slice Aa k ca) (LA.map Ac.D.e) (w7.drewN nq) (HRA8.out.under (below_drewN _ _)).e (fun d hd => by
            obtain ⟨d', hd', rfl⟩ := List.mem_map.1 hd
            have := (Ac.ok_small HKA.out).2.2 d' hd'
            exact ⟨by show d'.kind ≤ _; omega, this.2.2.2.2, by show d'.text.length ≤ _; omega⟩))
          clear HS1
          go_wp2_with fail
          refine HOK.out.mono ?_
          rintro e w9 ⟨rfl, hb9⟩
          rw [Ac.okL_map, HKA.out]
          have HB9 := Lib.hid ((below_drewN w7 nq).trans (hb9.mono (below_drewN w7 nq).size))
          clear hb9 HOK
          have HS2 := Lib.hid ((refsameact_any uc ud (T.getD []) (T.getD []) w9 (HC7.out.under HB9.out) (HD.out.under HB9.out) HTT.out HTT.out).mono (fun e w' (h : _ ∧ _) => (⟨by rw [h.1, decide_eq_true rfl], h.2⟩ : e = .returned (.bool true) ∧ ∃ nq, w' = w9.drewN nq)))
          go_wp2_with fail
          refine HS2.out.mono ?_
          rintro e w10 ⟨rfl, nq2, rfl⟩
          have HB10 := Lib.hid ((HB8.out.trans (HB9.out.mono HB8.out.size)).trans ((below_drewN w9 nq2).mono (HB8.out.trans (HB9.out.mono HB8.out.size)).size))
          clear HS2
          go_wp2_with fail
          refine (awake_any _ (HTab.out.under HB10.out)).mono ?_
          rintro e w11 ⟨rfl, hb11⟩
          have HB11 := Lib.hid (HB10.out.trans (hb11.mono HB10.out.size))
          clear hb11
          go_wp2
          go_ret
          exact ⟨rfl, HB11.out⟩
end Go.Proofs.YtfeaolcgjkkadaaDoor
