/- The steps of a region that draws its order, taken one by one by hand: an operation taken first, one that is not wanted passed by, the one that may come up carried out. -/
import Derived.Deep.RegionHeld3
import Derived.Test.YtemliglhippdcaaKit
import Derived.Test.YtemliglhippdcaaZ23
import Derived.Test.YtemliglhippdcaaManiMem
import Derived.Test.YtemliglhippdcaaManiOut
import Derived.Test.YtemliglhippdcaaZ27
import Derived.Test.YtemliglhippdcaaZ03
import Derived.Test.YtemliglhippdcaaZ09
import Derived.Test.YtemliglhippdcaaZ12
import Derived.Deep.LoopGhost
import Derived.Deep.RegionWith
import Derived.Test.YtemliglhippdcaaZ29
import Derived.Deep.Onto
import Derived.Test.YtemliglhippdcaaZ30
namespace Go.Proofs.Ytemliglhippdcaa
set_option maxRecDepth 100000
open Go.ChangeShapes Go.WideShapes Go.ChangeAt Go.RowKit

section
variable {P : Program} {ops : Array Oper} {Q : Exit → Act → World → Prop} {md : Region.Mode} {S : World → Prop}

/-- What reads alone yields the same in every world that meets S: it is taken first. -/
theorem takeW (i : Nat) (d : Option Nat) {oi : Oper} {v : Value} {fuel : Nat} {listed : Array Bool} {a : Act} {w : World} (hi : ops[i]? = some oi) (hd : oi.dst = d)
    (hs : Region.noSelect ops = true) (hf : Region.free md ops listed i = true) (hr : (Region.ready md ops listed).contains i = true)
    (hQ : ∀ c a w, Q (.panic c) (a.put d v) w → Q (.panic c) a w) (hw : Region.wanted oi (yielded ops a.tmps) = true) (hy : ∀ w, S w → (execOp a.eval oi).run P w = .ok (.value v) w) (hS : S w)
    (h : wpAnyH P md ops Q S fuel (listed.setIfInBounds i true) (a.put d v) w) : wpAnyH P md ops Q S (fuel + 1) listed a w := by
  subst hd
  exact wpAnyH_take hi hs hf hr hQ (Or.inl ⟨hw, hy⟩) hS h
/-- What is not wanted is passed by. -/
theorem takeU (i : Nat) (d : Option Nat) {oi : Oper} {fuel : Nat} {listed : Array Bool} {a : Act} {w : World} (hi : ops[i]? = some oi) (hd : oi.dst = d)
    (hs : Region.noSelect ops = true) (hf : Region.free md ops listed i = true) (hr : (Region.ready md ops listed).contains i = true)
    (hQ : ∀ c a w, Q (.panic c) (a.put d undef) w → Q (.panic c) a w) (hw : Region.wanted oi (yielded ops a.tmps) = false) (hS : S w)
    (h : wpAnyH P md ops Q S fuel (listed.setIfInBounds i true) (a.put d undef) w) : wpAnyH P md ops Q S (fuel + 1) listed a w := by
  subst hd
  exact wpAnyH_take hi hs hf hr hQ (Or.inr ⟨hw, rfl⟩) hS h
/-- One alone may come up: it is carried out; behind it S is shown anew. -/
theorem stepOne (i : Nat) {o : Oper} {fuel : Nat} {listed : Array Bool} {a : Act} {w : World} (hi : ops[i]? = some o) (hr : Region.ready md ops listed = [i]) (hw : Region.wanted o (yielded ops a.tmps) = true)
    (h : ∀ K' : Act → World → Prop, Shut (∀ a w, S w → (S w → wpAnyH P md ops Q S fuel (listed.setIfInBounds i true) a w) → K' a w) → Oper.wp P o a w K' Q) : wpAnyH P md ops Q S (fuel + 1) listed a w :=
  wpAnyH_ready hr (by simp) (AllReadyH.cons hi (fun K' hK => by rw [if_pos hw]; exact h K' hK) AllReadyH.nil)
/-- One of those that may come up. -/
theorem stepOf (i : Nat) {o : Oper} {fuel : Nat} {listed : Array Bool} {a : Act} {w : World} {rs : List Nat} (hi : ops[i]? = some o) (hw : Region.wanted o (yielded ops a.tmps) = true)
    (h : ∀ K' : Act → World → Prop, Shut (∀ a w, S w → (S w → wpAnyH P md ops Q S fuel (listed.setIfInBounds i true) a w) → K' a w) → Oper.wp P o a w K' Q)
    (hs : AllReadyH P md ops Q S fuel listed a w rs) : AllReadyH P md ops Q S fuel listed a w (i :: rs) :=
  AllReadyH.cons hi (fun K' hK => by rw [if_pos hw]; exact h K' hK) hs
end
end Go.Proofs.Ytemliglhippdcaa

/- Package grph: the places of the rules that make each name. -/
namespace Go.Proofs.Ytemliglhippdcaa
set_option maxRecDepth 100000
open Go.ChangeShapes Go.WideShapes Go.ChangeAt Go.RowKit Go.Shelf Go.ChangeMaps

theorem MapIs.run_look0 {w : World} {b n : Nat} {f : List Nat → Option Value} (h : MapIs w b n f) {T e : TypeId} (ht : Try.prog.underlying T = some (.map 9 e)) {z : Value} (hz : (zeroValue e).run Try.prog w = .ok z w) {t : List Nat} (ht1 : ∀ c ∈ t, c < 256) (ht2 : t.length ≤ 1099511627776) :
    (Instr.lookup T (.map (some b)) (.string (str t)) false).run Try.prog w = .ok ((f t).getD z) w := by
  obtain ⟨D, h1, h2⟩ := h
  obtain ⟨v, ps, hrun, hv⟩ := h1.lookup keyed ht hz (zd := .held z) (zp := []) rfl (key_of t (by unfold maxLen; omega))
  rw [hrun]
  obtain ⟨e1, e2⟩ := h2 t ht1
  unfold heldR at hv
  injection hv with hv
  injection hv with hv _
  rcases hf : f t with _ | u
  · rw [hf] at e1
    rw [Maps.atKey_of_not_has e1] at hv
    injection hv with hv
    subst hv
    rfl
  · rw [e2 u _ hf] at hv
    injection hv with hv
    subst hv
    rfl
def nilS : Value := .slice none 0 0
/-- A map from names to the places of those that make them: M. -/
structure MkIn (w : World) (base mb n : Nat) (f : List Nat → Option Value) (M : List Nat → List Nat) : Prop where
  map : MapIs w mb n f
  hm : base ≤ mb
  own : ∀ t, (∀ c ∈ t, c < 256) → OwnI w base ((f t).getD nilS) (M t)
  apt : ∀ t u, (∀ c ∈ t, c < 256) → (∀ c ∈ u, c < 256) → t ≠ u → AptI ((f t).getD nilS) ((f u).getD nilS)
def addOut (i : Nat) (M : List Nat → List Nat) (s : List Nat) : List Nat → List Nat := fun t => if t = s then M t ++ [i] else M t
def addOuts (i : Nat) (outs : List (List Nat)) (M : List Nat → List Nat) : List Nat → List Nat := outs.foldl (addOut i) M
/-- The places of the rules, of the first k, that make each name. -/
def mkM (R : List Mn.Rule) : Nat → List Nat → List Nat
  | 0 => fun _ => []
  | k + 1 => addOuts k (R.getD k emptyRule).outs (mkM R k)
theorem map_not_own {w : World} {base mb n : Nat} {f : List Nat → Option Value} {v : Value} {l : List Nat} (h : MapIs w mb n f) (ho : OwnI w base v l) : v.ownBlock ≠ some mb := fun e => by
  obtain ⟨es, c, h1⟩ := h.map
  rcases ho.2 with ⟨rfl, _⟩ | ⟨r, cap, cur, rfl, _, hh, _⟩
  · cases e
  · injection e with e
    change r = mb at e
    subst e
    rw [hh] at h1
    injection h1 with h1
    cases h1
theorem MkIn.under {w w' : World} {base mb n : Nat} {f : List Nat → Option Value} {M : List Nat → List Nat} (h : MkIn w base mb n f M) (hb : Below w.heap.size w w') : MkIn w' base mb n f M :=
  ⟨h.map.same (hb.block mb h.map.lt), h.hm, fun t ht => (h.own t ht).under hb, h.apt⟩
theorem MkIn.put {w w' w'' : World} {base mb n i : Nat} {f : List Nat → Option Value} {M : List Nat → List Nat} {s : List Nat} {v' : Value} (h : MkIn w base mb n f M) (hs : ∀ c ∈ s, c < 256) (ho : OwnI w' base v' (M s ++ [i])) (hm : Moves (fun k => ((f s).getD nilS).ownBlock = some k) w w')
    (hat : ∀ k, v'.ownBlock = some k → ((f s).getD nilS).ownBlock = some k ∨ w.heap.size ≤ k) (hmap : MapIs w'' mb (n + 1) fun u => if u = s then some v' else f u) (hk : ∀ k, k ≠ mb → w''.heap[k]? = w'.heap[k]?):
    MkIn w'' base mb (n + 1) (fun u => if u = s then some v' else f u) (addOut i M s) := by
  have hown : ∀ {v : Value} {l : List Nat}, OwnI w' base v l → v.ownBlock ≠ some mb → OwnI w'' base v l := fun {v l} h1 h2 => by
    obtain ⟨a1, a2⟩ := h1
    refine ⟨a1, ?_⟩
    rcases a2 with a2 | ⟨r, cap, cur, rfl, hb, hh, a3⟩
    · exact .inl a2
    · exact .inr ⟨r, cap, cur, rfl, hb, (hk r (fun e => h2 (by rw [e]; rfl))).trans hh, a3⟩
  have hlt : ∀ t, (∀ c ∈ t, c < 256) → ∀ k, ((f t).getD nilS).ownBlock = some k → k < w.heap.size := fun t ht k hk => ((h.own t ht).lt k hk).2
  have hmlt := h.map.lt
  have hv'm : v'.ownBlock ≠ some mb := fun e => by
    rcases hat mb e with h1 | h1
    · exact map_not_own h.map (h.own s hs) h1
    · omega
  refine ⟨hmap, h.hm, fun t ht => ?_, fun t u ht hu htu k hk' => ?_⟩
  · unfold addOut
    by_cases e : t = s
    · subst e
      simp only [if_true, Option.getD_some]
      exact hown ho hv'm
    · simp only [if_neg e]
      exact hown ((h.own t ht).moves hm fun k hk e2 => h.apt t s ht hs e k hk e2) (map_not_own h.map (h.own t ht))
  · by_cases e : t = s
    · subst e
      simp only [if_true, Option.getD_some] at hk'
      rw [if_neg (fun e2 => htu e2.symm)]
      rcases hat k hk' with h1 | h1
      · exact h.apt t u ht hu htu k h1
      · intro h2
        have := hlt u hu k h2
        omega
    · simp only [if_neg e] at hk'
      by_cases e2 : u = s
      · subst e2
        simp only [if_true, Option.getD_some]
        intro h2
        rcases hat k h2 with h1 | h1
        · exact h.apt t u ht hu htu k hk' h1
        · have := hlt t ht k hk'
          omega
      · simp only [if_neg e2]
        exact h.apt t u ht hu htu k hk'
theorem addOuts_len (i : Nat) : ∀ (outs : List (List Nat)) (M : List Nat → List Nat) (t : List Nat), (addOuts i outs M t).length ≤ (M t).length + outs.length
  | [], M, t => by simp [addOuts]
  | s :: outs, M, t => by
    have h1 := addOuts_len i outs (addOut i M s) t
    have e : addOuts i (s :: outs) M t = addOuts i outs (addOut i M s) t := rfl
    have h2 : (addOut i M s t).length ≤ (M t).length + 1 := by unfold addOut; split <;> simp
    rw [e, List.length_cons]
    omega
theorem mkM_len (R : List Mn.Rule) (B : Nat) (hB : ∀ r ∈ R, r.outs.length ≤ B) (t : List Nat) : ∀ k, k ≤ R.length → (mkM R k t).length ≤ k * B
  | 0, _ => by simp [mkM]
  | k + 1, hk => by
    unfold mkM
    have h1 := addOuts_len k (R.getD k emptyRule).outs (mkM R k) t
    have h2 := mkM_len R B hB t k (by omega)
    have h3 : (R.getD k emptyRule).outs.length ≤ B := hB _ (by
      rw [List.getD_eq_getElem?_getD, List.getElem?_eq_getElem (by omega)]
      exact List.getElem_mem _)
    rw [Nat.add_mul, Nat.one_mul]
    omega
theorem addOuts_snoc (i : Nat) (outs : List (List Nat)) (s : List Nat) (M : List Nat → List Nat) : addOuts i (outs ++ [s]) M = addOut i (addOuts i outs M) s := by
  unfold addOuts
  rw [List.foldl_append]
  rfl
set_option maxHeartbeats 8000000 in
theorem makers_any {w : World} {rv dv : Value} {R : List Mn.Rule} (B : Nat) (hr : SlR w rv R) (hn : R.length ≤ 1000) (hs : ∀ r ∈ R, SmallR r) (hB : ∀ r ∈ R, r.outs.length ≤ B) (hBB : B ≤ 1000) (hsl : ∀ r ∈ R, ∀ s ∈ r.outs, s.length ≤ 1000000) (hd : ∃ dA dn dc, dv = .slice dA dn dc) :
    Calls Try.prog 30 #[.agg #[rv, dv]] w fun e w' => ∃ mb n f, e = .returned (.map (some mb)) ∧ MkIn w' w.heap.size mb n f (mkM R R.length) ∧ Below w.heap.size w w' := by
  obtain ⟨dA, dn, dc, rfl⟩ := hd
  obtain ⟨A, c, rfl, hc⟩ := hr.parts
  have hmm := @run_makeMap Try.prog
  have HR := Lib.hid hr
  have HS := Lib.hid hs
  have HBL := Lib.hid hB
  have HSL := Lib.hid hsl
  obtain ⟨n, hN⟩ : ∃ n, R.length = n := ⟨_, rfl⟩
  rw [hN] at hn hc HR ⊢
  have HN := Lib.hid hN
  clear hr hs hB hsl hN
  go_enter Try.func30, Try.ntmps30
  go_upto_region 2 with fail
  obtain ⟨w1, hw1⟩ : ∃ W, (w.alloc (.cells #[.slice A n c, .slice dA dn dc] 26)).alloc (.map #[] 0) = W := ⟨_, rfl⟩
  obtain ⟨g, hg⟩ : ∃ g, w.heap.size = g := ⟨_, rfl⟩
  have HB1 : Hid (Below g w w1) := Lib.hid (by rw [← hw1, ← hg]; exact ((Below.refl _ _).alloc (Nat.le_refl _) _).alloc (by simp) _)
  have hbx : Blk w1 g 26 #[.slice A n c, .slice dA dn dc] := by rw [← hw1, ← hg]; exact Blk.alloc (heap_alloc_new w _) _
  have HMK : Hid (MkIn w1 g (g + 1) 0 (fun _ => none) (mkM R 0)) := Lib.hid (by
    have h1 := mapIs_made (w.alloc (.cells #[.slice A n c, .slice dA dn dc] 26))
    rw [World.size_alloc, hg, hw1] at h1
    exact ⟨h1, by omega, fun t _ => ownI_none _ _, fun t u _ _ _ k hk => by cases hk⟩)
  have HGS : Hid (w.heap.size = g) := Lib.hid hg
  have HGW : Hid (g + 2 ≤ w1.heap.size) := Lib.hid (by rw [← hw1, ← hg]; simp)
  rw [hw1, hg]
  have c0 : w1.cell? ⟨g, 0, none⟩ = some (.slice A n c) := hbx.at 0
  obtain ⟨mb, hmb⟩ : ∃ q, g + 1 = q := ⟨_, rfl⟩
  rw [hmb] at HMK ⊢
  clear hw1 hg hbx hmm hmb
  have HRW : Hid (∀ k, k < n → ∃ b off, A = some ⟨b, off, none⟩ ∧ RuleAt w (R.getD k emptyRule) b (off + k * 5)) := Lib.hid (fun k hk => by
    obtain ⟨A', c', e, _, _, h3⟩ := HR.out
    injection e with e1 e2 e3
    subst e1
    rw [HN.out] at h3
    obtain ⟨b, off, rfl, _, h4⟩ := h3 (by omega)
    exact ⟨b, off, rfl, h4 k hk⟩)
  go_wp2_with fail
  go_loopg [12] n (fun f' iv wx => ∃ (k nn : Nat) (f : List Nat → Option Value), k ≤ n ∧ n - k ≤ f' ∧ iv = .int .i64 (k : Int) ∧ Hid (MkIn wx g mb nn f (mkM R k)) ∧ Hid (nn ≤ k * 1000) ∧ Hid (Below g w wx) ∧ Hid (g ≤ wx.heap.size))
  case atStart => exact ⟨0, 0, _, Nat.zero_le _, by omega, rfl, HMK, Lib.hid (by omega), HB1, Lib.hid (by have := HGW.out; omega)⟩
  case round =>
    clear HMK HB1 HGW c0
    obtain ⟨k, nn, f, hk, hfu, rfl, HMK, HNN, HBW, HGW⟩ := hrel
    by_cases hkn : k < n
    · have hkI : (k : Int) < (n : Int) := by omega
      obtain ⟨b, off, rfl, u1, u2, u3, u4, c1, c2, c3, c4, c5, s1, s2, s3, s4⟩ := HRW.out k hkn
      have hbw : Below w.heap.size w wr := by rw [HGS.out]; exact HBW.out
      have hrm : R.getD k emptyRule ∈ R := by
        rw [List.getD_eq_getElem?_getD, List.getElem?_eq_getElem (by rw [HN.out]; exact hkn)]
        exact List.getElem_mem _
      have HSM := Lib.hid (HS.out _ hrm)
      have HSN := Lib.hid (HSL.out _ hrm)
      have HOL := Lib.hid (Nat.le_trans (HBL.out _ hrm) hBB)
      obtain ⟨ph, hph⟩ : ∃ p, (R.getD k emptyRule).phony = p := ⟨_, rfl⟩
      rw [hph] at c5
      obtain ⟨O, hO⟩ : ∃ O, (R.getD k emptyRule).outs = O := ⟨_, rfl⟩
      have HMS : Hid (mkM R (k + 1) = addOuts k O (mkM R k)) := Lib.hid (by rw [← hO]; rfl)
      have hSO := HSM.out.outs
      rw [hO] at s1 HSN HOL hSO
      have HSO := Lib.hid hSO
      have d1 := cell_later hbw c1
      have d2 := cell_later hbw c2
      have d3 := cell_later hbw c3
      have d4 := cell_later hbw c4
      have d5 := cell_later hbw c5
      obtain ⟨A1, cc1, rfl, _, _, hx1⟩ := s1
      obtain ⟨m, hm⟩ : ∃ m, O.length = m := ⟨_, rfl⟩
      have hz2 : ∃ A2 n2 e2, u2 = .slice A2 n2 e2 := by obtain ⟨A2, e2, rfl, _⟩ := s2; exact ⟨_, _, _, rfl⟩
      have hz3 : ∃ A2 n2 e2, u3 = .slice A2 n2 e2 := by obtain ⟨A2, e2, rfl, _⟩ := s3; exact ⟨_, _, _, rfl⟩
      have hz4 : ∃ A2 n2 e2, u4 = .slice A2 n2 e2 := by obtain ⟨A2, e2, rfl, _⟩ := s4; exact ⟨_, _, _, rfl⟩
      obtain ⟨A2, n2, e2, rfl⟩ := hz2
      obtain ⟨A3, n3, e3, rfl⟩ := hz3
      obtain ⟨A4, n4, e4, rfl⟩ := hz4
      rw [hm] at d1 HOL hx1
      have HX1 := Lib.hid hx1
      have HOM := Lib.hid hm
      have hmB : m ≤ 1000 := HOL.out
      clear c1 c2 c3 c4 c5 s2 s3 s4 hrm hph hO hSO hm hx1 hbw
      go_upto_region 5 with fail
      obtain ⟨w2, hw2⟩ : ∃ W, wr.alloc (.cells #[.slice A1 m cc1, .slice A2 n2 e2, .slice A3 n3 e3, .slice A4 n4 e4, .bool ph] 40) = W := ⟨_, rfl⟩
      have hb2 : Blk w2 wr.heap.size 40 #[.slice A1 m cc1, .slice A2 n2 e2, .slice A3 n3 e3, .slice A4 n4 e4, .bool ph] := by rw [← hw2]; exact heap_alloc_new wr _
      have hbe : Below wr.heap.size wr w2 := by rw [← hw2]; exact (Below.refl _ _).alloc (Nat.le_refl _) _
      have q1 : w2.cell? ⟨wr.heap.size, 0, none⟩ = some (.slice A1 m cc1) := hb2.at 0
      have HMK2 : Hid (MkIn w2 g mb nn f (addOuts k (O.take 0) (mkM R k))) := Lib.hid (HMK.out.under hbe)
      have HBW2 : Hid (Below g w w2) := Lib.hid (HBW.out.trans (hbe.mono HGW.out))
      have HGW2 : Hid (g ≤ w2.heap.size) := Lib.hid (Nat.le_trans HGW.out hbe.size)
      have HNN2 : Hid (nn ≤ k * 1000 + 0) := HNN
      have hmk : ∀ t p, p ≤ m → (addOuts k (O.take p) (mkM R k) t).length ≤ 1100000 := fun t p hp => by
        have h1 := addOuts_len k (O.take p) (mkM R k) t
        have h2 := mkM_len R B HBL.out t k (by rw [HN.out]; exact hk)
        rw [List.length_take] at h1
        have h3 : k * B ≤ 1000 * 1000 := Nat.mul_le_mul (by omega) hBB
        omega
      have HML := Lib.hid hmk
      rw [hw2]
      clear hw2 hb2 hbe HMK HBW HGW HNN d1 d2 d3 d4 d5 hmk
      go_wp2_with fail
      clear q1
      go_loopg [20] m (fun f' iv wx => ∃ (p nn : Nat) (f : List Nat → Option Value), p ≤ m ∧ m - p ≤ f' ∧ iv = .int .i64 (p : Int) ∧ Hid (MkIn wx g mb nn f (addOuts k (O.take p) (mkM R k))) ∧ Hid (nn ≤ k * 1000 + p) ∧ Hid (Below g w wx) ∧ Hid (g ≤ wx.heap.size))
      case atStart => exact ⟨0, nn, f, Nat.zero_le _, by omega, rfl, HMK2, HNN2, HBW2, HGW2⟩
      case round =>
        clear HMK2 HNN2 HBW2 HGW2
        obtain ⟨p, nn, f, hp, hfp, rfl, HMK, HNN, HBW, HGW⟩ := hrel
        by_cases hpm : p < m
        · have hpI : (p : Int) < (m : Int) := by omega
          obtain ⟨b1, o1, rfl, _, hc1⟩ := HX1.out (by omega)
          have cs := hc1 p hpm
          rw [Nat.mul_one] at cs
          obtain ⟨s, hs⟩ : ∃ s, O.getD p [] = s := ⟨_, rfl⟩
          have hsm : s ∈ O := by
            rw [← hs, List.getD_eq_getElem?_getD, List.getElem?_eq_getElem (by rw [HOM.out]; exact hpm)]
            exact List.getElem_mem _
          have hs1 : ∀ c ∈ s, c < 256 := HSO.out.2 s hsm
          have hs2 : s.length ≤ 1000000 := HSN.out s hsm
          have hbw : Below w.heap.size w wr := by rw [HGS.out]; exact HBW.out
          rw [hs] at cs
          have ds := cell_later hbw cs
          have HTK : Hid (addOuts k (O.take (p + 1)) (mkM R k) = addOut k (addOuts k (O.take p) (mkM R k)) s) := Lib.hid (by
            rw [take_snocT O p (by rw [HOM.out]; exact hpm), hs, addOuts_snoc])
          have hlk := HMK.out.map.run_look0 (T := 75) (e := 22) (by kernel_rfl) (z := nilS) (by kernel_rfl) hs1 (by omega)
          have HMLP := Lib.hid (HML.out s p hp)
          obtain ⟨M, hM⟩ : ∃ M, addOuts k (O.take p) (mkM R k) = M := ⟨_, rfl⟩
          rw [hM] at HMK HTK HMLP
          obtain ⟨sv, hsv⟩ : ∃ sv, (f s).getD nilS = sv := ⟨_, rfl⟩
          have HOV : Hid (OwnI wr g sv (M s)) := Lib.hid (by rw [← hsv]; exact HMK.out.own s hs1)
          have HSV := Lib.hid hsv
          rw [hsv] at hlk
          have HS1 := Lib.hid hs1
          have HS2 := Lib.hid hs2
          obtain ⟨As, cs', hse, _⟩ := HOV.out.parts
          obtain ⟨ns, hns⟩ : ∃ q, (M s).length = q := ⟨_, rfl⟩
          rw [hns] at hse
          have HNS := Lib.hid hns
          subst hse
          clear cs hc1 hs hsm hs1 hs2 hbw hM hsv hns
          go_wp2_with (first
            | (at_builtin; refine wpList_append_intT 22 Try.underlying22 rfl _ _ rfl g (.slice As ns cs') (M s) wr.heap.size k rfl (HOV.out.under ((Below.refl _ _).alloc (Nat.le_refl _) _)) rfl (cell_new_int wr _ _) (by have := HMLP.out; omega) (by have := HGW.out; simp; omega) ?_; intro v6 w6 ho6 hg6 hat6
               have hM6 : Moves (fun j => ((f s).getD nilS).ownBlock = some j) wr w6 := by
                 rw [HSV.out]
                 exact (Moves.under ((Below.refl _ wr).alloc (Nat.le_refl _) _)).trans (Moves.grown hg6)
               have hA6 : ∀ j, v6.ownBlock = some j → ((f s).getD nilS).ownBlock = some j ∨ wr.heap.size ≤ j := fun j hj => by
                 rcases hat6 with h1 | h1
                 · exact .inl (by rw [HSV.out, ← h1]; exact hj)
                 · rw [h1] at hj
                   injection hj with hj
                   simp at hj
                   exact .inr (by omega)
               have hmap6 : MapIs w6 mb nn f := HMK.out.map.same (hM6.block mb HMK.out.map.lt (map_not_own HMK.out.map (HMK.out.own s HS1.out)))
               obtain ⟨w7, hst, hmp7, hg7, hk7, hs7⟩ := hmap6.run_store (T := 75) (e := 22) (by kernel_rfl) (by have h1 := HNN.out; have h2 : k * 1000 ≤ 1000 * 1000 := Nat.mul_le_mul (by omega) (Nat.le_refl _); omega) HS1.out (by have := HS2.out; omega) v6
               have HMF := Lib.hid (HMK.out.put HS1.out (i := k) ho6 hM6 hA6 hmp7 hk7)
               have HBF : Hid (Below g w w7) := Lib.hid (HBW.out.trans ((hM6.below HGW.out fun j hj => ((HMK.out.own s HS1.out).lt j hj).1).trans (Below.grown (Below.refl g w6) hg7 (Nat.le_trans HGW.out hM6.size) fun j hj => by injection hj with hj; rw [← hj]; exact HMK.out.hm)))
               have HGF : Hid (g ≤ w7.heap.size) := Lib.hid (by rw [hs7]; exact Nat.le_trans HGW.out hM6.size)
               obtain ⟨A6, c6, hv6, _⟩ := ho6.parts
               obtain ⟨n6, hn6⟩ : ∃ q, (M s ++ [k]).length = q := ⟨_, rfl⟩
               rw [hn6] at hv6
               subst hv6
               clear ho6 hg6 hat6 hM6 hA6 hmap6 hmp7 hg7 hk7 hs7 hn6)
            | fail)
          go_roundg (m - (p + 1))
          case measure => omega
          case rel => exact ⟨p + 1, nn + 1, _, hpm, by omega, by go_num, by rw [HTK.out]; exact HMF, Lib.hid (by have := HNN.out; omega), HBF, HGF⟩
        · obtain rfl : m = p := by omega
          have hpI : ¬ (m : Int) < (m : Int) := by omega
          have HMF : Hid (MkIn wr g mb nn f (mkM R (k + 1))) := Lib.hid (by
            have h1 := HMK.out
            rw [List.take_of_length_le (by rw [HOM.out]; exact Nat.le_refl _)] at h1
            rw [HMS.out]
            exact h1)
          have HNF : Hid (nn ≤ (k + 1) * 1000) := Lib.hid (by have := HNN.out; rw [Nat.add_mul]; omega)
          clear HMK HNN
          go_wp2_with fail
          go_roundg (n - (k + 1))
          case measure => omega
          case rel => exact ⟨k + 1, nn, f, hkn, by omega, by go_num, HMF, HNF, HBW, HGW⟩
    · obtain rfl : n = k := by omega
      have hkI : ¬ (n : Int) < (n : Int) := by omega
      go_wp2_with fail
      go_ret
      exact ⟨mb, rfl, ⟨nn, f, by rw [HGS.out]; exact HMK.out⟩, by rw [HGS.out]; exact HBW.out⟩
/-- The texts of a row, each with its bytes. -/
theorem SlT.rdS {w : World} {v : Value} {l : List (List Nat)} (h : SlT w v l) : RdS w v l := by
  obtain ⟨A, c, rfl, h1, _, h3⟩ := h
  refine ⟨A, c, rfl, h1, fun k hk => ?_⟩
  obtain ⟨b, off, rfl, _, hc⟩ := h3 (by omega)
  have := hc k hk
  rw [Nat.mul_one] at this
  exact ⟨b, off, rfl, this⟩
/-- The places of those that make one of names. -/
def ofM (M : List Nat → List Nat) (names : List (List Nat)) : List Nat := names.flatMap M
theorem ofM_snoc (M : List Nat → List Nat) (l : List (List Nat)) (s : List Nat) : ofM M (l ++ [s]) = ofM M l ++ M s := by simp [ofM]
theorem ofM_take_le (M : List Nat → List Nat) (l : List (List Nat)) (k : Nat) : (ofM M (l.take k)).length ≤ (ofM M l).length := by
  have h : ofM M l = ofM M (l.take k) ++ ofM M (l.drop k) := by
    unfold ofM
    rw [← List.flatMap_append, List.take_append_drop]
  rw [h, List.length_append]
  omega
set_option maxHeartbeats 8000000 in
theorem of_any {w : World} {base mb nn : Nat} {f : List Nat → Option Value} {M : List Nat → List Nat} {v : Value} {l : List (List Nat)} (h : MkIn w base mb nn f M) (hv : RdS w v l) (hl : l.length ≤ 1000000) (hs : ∀ s ∈ l, (∀ c ∈ s, c < 256) ∧ s.length ≤ 1000000) (hM : (ofM M l).length ≤ 1000000) :
    Calls Try.prog 31 #[.map (some mb), v] w fun e w' => ∃ v', e = .returned v' ∧ OwnI w' w.heap.size v' (ofM M l) ∧ Below w.heap.size w w' := by
  have HMK := Lib.hid h
  have HV := Lib.hid hv
  have HS := Lib.hid hs
  have HML := Lib.hid hM
  obtain ⟨A, c, rfl, _⟩ := hv
  obtain ⟨n, hn⟩ : ∃ n, l.length = n := ⟨_, rfl⟩
  rw [hn] at hl HV ⊢
  have HN := Lib.hid hn
  clear h hs hM hn
  go_enter Try.func31, Try.ntmps31
  go_wp2_with fail
  go_loopg [10, 5] n (fun f' iv tv wx => ∃ (k : Nat), k ≤ n ∧ n - k ≤ f' ∧ iv = .int .i64 (k : Int) ∧ Hid (OwnI wx w.heap.size tv (ofM M (l.take k))) ∧ Hid (Below w.heap.size w wx))
  case atStart => exact ⟨0, Nat.zero_le _, by omega, rfl, Lib.hid (ownI_none _ _), Lib.hid (Below.refl _ _)⟩
  case round =>
    obtain ⟨k, hk, hfu, hkv, HO, HB⟩ := hrel
    subst hkv
    have hwz := HB.out.size
    by_cases hkn : k < n
    · have hkI : (k : Int) < (n : Int) := by omega
      obtain ⟨A', c', e, _, hc⟩ := HV.out.under HB.out
      injection e with e1 e2 e3
      subst e1
      obtain ⟨b, off, rfl, p0⟩ := hc k (by rw [HN.out]; exact hkn)
      obtain ⟨s, hs⟩ : ∃ s, l.getD k [] = s := ⟨_, rfl⟩
      have hsm : s ∈ l := by
        rw [← hs, List.getD_eq_getElem?_getD, List.getElem?_eq_getElem (by rw [HN.out]; exact hkn)]
        exact List.getElem_mem _
      have hs12 := HS.out s hsm
      rw [hs] at p0
      have HMKW := Lib.hid (HMK.out.under HB.out)
      have hlk := HMKW.out.map.run_look0 (T := 75) (e := 22) (by kernel_rfl) (z := nilS) (by kernel_rfl) hs12.1 (by have := hs12.2; omega)
      have HTK : Hid (ofM M (l.take (k + 1)) = ofM M (l.take k) ++ M s) := Lib.hid (by rw [take_snocT l k (by rw [HN.out]; exact hkn), hs, ofM_snoc])
      have HLK : Hid ((ofM M (l.take k)).length + (M s).length ≤ 1000000) := Lib.hid (by
        have h1 := ofM_take_le M l (k + 1)
        rw [HTK.out, List.length_append] at h1
        have := HML.out
        omega)
      obtain ⟨sv, hsv⟩ : ∃ sv, (f s).getD nilS = sv := ⟨_, rfl⟩
      have HOV : Hid (RdN wr sv (M s)) := Lib.hid (by rw [← hsv]; exact (HMKW.out.own s hs12.1).rdN)
      rw [hsv] at hlk
      obtain ⟨Am, cm, hsme, _⟩ := HOV.out
      obtain ⟨ms, hms⟩ : ∃ q, (M s).length = q := ⟨_, rfl⟩
      rw [hms] at hsme
      subst hsme
      clear hc e2 e3 hs hsm hs12 hsv hms
      go_wp2_with (first
        | (at_builtin; refine wpList_append_ints 22 Try.underlying22 rfl _ _ rfl w.heap.size u5 (.slice Am ms cm) (ofM M (l.take k)) (M s) rfl HO.out rfl HOV.out (by have := HLK.out; omega) hwz ?_; intro v6 w6 ho6 hg6 hat6
           have HO6 : Hid (OwnI w6 w.heap.size v6 (ofM M (l.take (k + 1)))) := Lib.hid (by rw [HTK.out]; exact ho6)
           have HB6 : Hid (Below w.heap.size w w6) := Lib.hid (HB.out.grown hg6 hwz fun j hj => (HO.out.lt j hj).1)
           clear ho6 hg6 hat6)
        | fail)
      go_roundg (n - (k + 1))
      case measure => omega
      case rel => exact ⟨k + 1, hkn, by omega, by go_num, HO6, HB6⟩
    · obtain rfl : n = k := by omega
      have hkI : ¬ (n : Int) < (n : Int) := by omega
      have HE : Hid (ofM M (l.take n) = ofM M l) := Lib.hid (by rw [List.take_of_length_le (by rw [HN.out]; exact Nat.le_refl _)])
      rw [HE.out] at HO
      go_wp2_with fail
      go_ret
      exact ⟨_, rfl, HO.out, HB.out⟩
end Go.Proofs.Ytemliglhippdcaa

/- Package grph: what is ahead of a rule. -/
namespace Go.Proofs.Ytemliglhippdcaa
set_option maxRecDepth 100000
open Go.ChangeShapes Go.WideShapes Go.ChangeAt Go.RowKit Go.Shelf Go.ChangeMaps

/-- All that lay there lies as it lay. -/
def Same (s w : World) : Prop := s.heap.size ≤ w.heap.size ∧ ∀ j, j < s.heap.size → w.heap[j]? = s.heap[j]?
theorem Same.refl (w : World) : Same w w := ⟨Nat.le_refl _, fun _ _ => rfl⟩
theorem Same.of {s w : World} (h : Below s.heap.size s w) : Same s w := ⟨h.size, h.block⟩
/-- The same memory, with the elder one's tape. -/
def onto (s w : World) : World := { s with heap := w.heap }
theorem Same.below {s w : World} (h : Same s w) : Below s.heap.size s (onto s w) := ⟨rfl, rfl, rfl, h.1, h.2⟩
theorem SlR.eq {s w : World} {v : Value} {R : List Mn.Rule} (h : SlR s v R) (hs : Same s w) : SlR w v R := (h.under hs.below : SlR (onto s w) v R)
theorem SlT.eq {s w : World} {v : Value} {l : List (List Nat)} (h : SlT s v l) (hs : Same s w) : SlT w v l := (h.keep (Q := fun _ => True) (Keep.below hs.below) trivial : SlT (onto s w) v l)
theorem MkIn.eq {s w : World} {base mb n : Nat} {f : List Nat → Option Value} {M : List Nat → List Nat} (h : MkIn s base mb n f M) (hs : Same s w) : MkIn w base mb n f M :=
  have h1 := h.under hs.below
  ⟨h1.map.same rfl, h1.hm, fun t ht => (h1.own t ht : OwnI (onto s w) base _ _), h1.apt⟩
theorem aheadin_any {w : World} (A : Option Addr) (n c : Nat) (dA : Option Addr) (dn dc mb : Nat) :
    Calls Try.prog 32 #[.agg #[.slice A n c, .slice dA dn dc], .map (some mb)] w fun e w' => e = .returned (.func (.func 56) #[] #[.pointer (some ⟨w.heap.size + 1, 0, none⟩), .pointer (some ⟨w.heap.size, 0, none⟩)]) ∧ Blk w' w.heap.size 26 #[.slice A n c, .slice dA dn dc] ∧ Blk w' (w.heap.size + 1) 75 #[.map (some mb)] ∧ Below w.heap.size w w' ∧ w'.heap.size = w.heap.size + 2 := by
  have hmf : ∀ (fn : Fn) (first cap : Array Value) (w : World), (Instr.makeFunc fn first cap).run Try.prog w = .ok (.func fn first cap) w := fun _ _ _ _ => rfl
  have HB : Hid (Below w.heap.size w ((w.alloc (.cells #[.slice A n c, .slice dA dn dc] 26)).alloc (.cells #[.map (some mb)] 75))) := Lib.hid (((Below.refl _ _).alloc (Nat.le_refl _) _).alloc (by simp) _)
  go_enter Try.func32, Try.ntmps32
  go_wp2
  go_ret
  refine ⟨rfl, Blk.alloc (heap_alloc_new w _) _, ?_, HB.out, by simp⟩
  have h1 := heap_alloc_new (w.alloc (.cells #[.slice A n c, .slice dA dn dc] 26)) (.cells #[.map (some mb)] 75)
  rw [World.size_alloc] at h1
  exact h1
/-- The places of the rules that are ahead of rule i. -/
def aheadF (R : List Mn.Rule) (M : List Nat → List Nat) (i : Nat) : List Nat := ofM M ((R.getD i emptyRule).ins ++ (R.getD i emptyRule).order)
set_option maxHeartbeats 8000000 in
theorem ahead1_any {w : World} {A : Option Addr} {n c : Nat} {dA : Option Addr} {dn dc p q base mb nn i : Nat} {R : List Mn.Rule} {f : List Nat → Option Value} {M : List Nat → List Nat} (hr : SlR w (.slice A n c) R) (hn : R.length = n) (hi : i < n) (hnB : n ≤ 1000) (hs : ∀ r ∈ R, SmallR r) (hsl : ∀ r ∈ R, ∀ s ∈ r.ins ++ r.order, s.length ≤ 1000000)
    (hm : MkIn w base mb nn f M) (hp : Blk w p 26 #[.slice A n c, .slice dA dn dc]) (hq : Blk w q 75 #[.map (some mb)]) (hM : (aheadF R M i).length ≤ 1000000) (hL : (R.getD i emptyRule).ins.length ≤ 1000 ∧ (R.getD i emptyRule).order.length ≤ 1000) :
    Calls Try.prog 56 #[.int .i64 (i : Int), .pointer (some ⟨q, 0, none⟩), .pointer (some ⟨p, 0, none⟩)] w fun e w' => ∃ v', e = .returned v' ∧ OwnI w' w.heap.size v' (aheadF R M i) ∧ Below w.heap.size w w' := by
  have hrm : R.getD i emptyRule ∈ R := by
    rw [List.getD_eq_getElem?_getD, List.getElem?_eq_getElem (by rw [hn]; exact hi)]
    exact List.getElem_mem _
  have hsm := hs _ hrm
  have hsn := hsl _ hrm
  obtain ⟨A', c', e, _, _, h3⟩ := hr
  injection e with e1 e2 e3
  subst e1
  rw [hn] at h3
  obtain ⟨b, off, rfl, _, h4⟩ := h3 (by omega)
  obtain ⟨u1, u2, u3, u4, c1, c2, c3, c4, c5, s1, s2, s3, s4⟩ := h4 i hi
  obtain ⟨I, hI⟩ : ∃ I, (R.getD i emptyRule).ins = I := ⟨_, rfl⟩
  obtain ⟨O, hO⟩ : ∃ O, (R.getD i emptyRule).order = O := ⟨_, rfl⟩
  have hAF : aheadF R M i = ofM M (I ++ O) := by unfold aheadF; rw [hI, hO]
  have hIs := hsm.ins
  have hOs := hsm.order
  rw [hI] at s2 hsn hL hIs
  rw [hO] at s3 hsn hL hOs
  rw [hAF] at hM ⊢
  have hiI : (i : Int) < (n : Int) := by omega
  have k1 : w.cell? ⟨q, 0, none⟩ = some (.map (some mb)) := hq.at 0
  have k2 : w.cell? ⟨p, 0, none⟩ = some (.slice (some ⟨b, off, none⟩) n c) := hp.at 0
  obtain ⟨A2, x2, hu2, hx2, hy2, hz2⟩ := s2
  obtain ⟨A3, x3, hu3, hx3, hy3, hz3⟩ := s3
  have S2 : Hid (SlT w u2 I) := Lib.hid ⟨A2, x2, hu2, hx2, hy2, hz2⟩
  have S3 : Hid (SlT w u3 O) := Lib.hid ⟨A3, x3, hu3, hx3, hy3, hz3⟩
  obtain ⟨n2, hn2⟩ : ∃ q, I.length = q := ⟨_, rfl⟩
  obtain ⟨n3, hn3⟩ : ∃ q, O.length = q := ⟨_, rfl⟩
  rw [hn2] at hu2
  rw [hn3] at hu3
  subst hu2 hu3
  have HM := Lib.hid hm
  have HML := Lib.hid hM
  have HL := Lib.hid hL
  have HSN := Lib.hid hsn
  have HIs := Lib.hid hIs.2
  have HOs := Lib.hid hOs.2
  have HSM : Hid (∀ s ∈ I ++ O, (∀ c ∈ s, c < 256) ∧ s.length ≤ 1000000) := Lib.hid (fun s hs => ⟨fun c hc => by
    rcases List.mem_append.1 hs with h | h
    · exact hIs.2 s h c hc
    · exact hOs.2 s h c hc, hsn s hs⟩)
  clear hrm hsm hsn h3 h4 c1 c4 c5 s1 s4 hI hO hAF hIs hOs hp hq hm hM hL hs hsl hn hx2 hy2 hz2 hx3 hy3 hz3 hn2 hn3 e2 e3
  have HBX : Hid (Below w.heap.size w (w.drew.alloc (.cells #[.slice A2 n2 x2, .slice A3 n3 x3] 24))) := Lib.hid ⟨rfl, rfl, rfl, by simp, fun k hk => Below.heap_alloc _ _ k hk⟩
  have HCC : Hid (∀ W bx, Blk W bx 24 #[.slice A2 n2 x2, .slice A3 n3 x3] → Below w.heap.size w W → Calls Try.prog 57 #[.slice (some ⟨bx, 0, none⟩) 2 2] W fun e w' => ∃ A4 n4 x4, e = .returned (.slice A4 n4 x4) ∧ RdS w' (.slice A4 n4 x4) (I ++ O) ∧ Below w.heap.size w w') := Lib.hid (fun W bx hblk hbw => by
    have hrows : Rows2T W (.slice (some ⟨bx, 0, none⟩) 2 2) [I, O] := by
      refine ⟨_, 2, rfl, Nat.le_refl _, fun _ => ⟨bx, 0, rfl, fun k hk => ?_⟩⟩
      have h2 : SlT W (.slice A2 n2 x2) I := S2.out.keep (Q := fun _ => True) (Keep.below hbw) trivial
      have h3 : SlT W (.slice A3 n3 x3) O := S3.out.keep (Q := fun _ => True) (Keep.below hbw) trivial
      simp only [List.length_cons, List.length_nil] at hk
      rcases (by omega : k = 0 ∨ k = 1) with rfl | rfl
      · exact ⟨_, hblk.at 0, h2⟩
      · exact ⟨_, hblk.at 1, h3⟩
    refine (concatT_any _ [I, O] _ hrows (by have := HL.out; simp; omega) (by simp)).mono ?_
    rintro e w2 ⟨v2, rfl, ho2, hb2⟩
    obtain ⟨A4, x4, hv, _⟩ := ho2.shapeS
    refine ⟨A4, _, x4, by rw [hv], ?_, hbw.trans (hb2.mono hbw.size)⟩
    rw [← hv]
    have h1 := ho2.rdS
    simpa using h1)
  have HLT : Hid ((I ++ O).length ≤ 1000000) := Lib.hid (by have := HL.out; rw [List.length_append]; omega)
  clear S2 S3 HL
  go_enter Try.func56, Try.ntmps56
  go_wp2_with fail
  -- REGION1
  refine wp_region_noPanic ?_
  refine wp_region_held_drew (S := fun w' => w'.cell? ⟨q, 0, none⟩ = some (.map (some mb)) ∧ w'.cell? ⟨p, 0, none⟩ = some (.slice (some ⟨b, off, none⟩) n c) ∧ w'.cell? ⟨b, off + i * 5 + 1, none⟩ = some (.slice A2 n2 x2) ∧ w'.cell? ⟨b, off + i * 5 + 2, none⟩ = some (.slice A3 n3 x3)) (by kernel_rfl) (⟨k1, k2, c2, c3⟩) (fun hHeld => ?_)
  refine takeW 0 (some 5) (oi := ?oT1) (v := ?vT1) ?hiT1 ?hdT1 (by kernel_rfl) (by kernel_rfl) (by kernel_rfl) (fun _ _ _ h => h) ?hwT1 ?hyT1 hHeld ?_
  case hiT1 => (simp only [List.getElem?_toArray, List.getElem?_cons_zero]; with_reducible rfl)
  case hdT1 => rfl
  case hwT1 => rfl
  case hyT1 => (intro w hSw; (try dsimp only at hSw); go_simp; first | done | with_reducible rfl)
  try simp only [Act.put]
  try simp only [List.setIfInBounds_toArray, List.set_cons_zero, List.set_cons_succ]
  refine takeW 1 (some 6) (oi := ?oT2) (v := ?vT2) ?hiT2 ?hdT2 (by kernel_rfl) (by kernel_rfl) (by kernel_rfl) (fun _ _ _ h => h) ?hwT2 ?hyT2 hHeld ?_
  case hiT2 => (simp only [List.getElem?_toArray, List.getElem?_cons_succ, List.getElem?_cons_zero]; with_reducible rfl)
  case hdT2 => rfl
  case hwT2 => rfl
  case hyT2 => (intro w hSw; (try dsimp only at hSw); go_simp; first | done | with_reducible rfl)
  try simp only [Act.put]
  try simp only [List.setIfInBounds_toArray, List.set_cons_zero, List.set_cons_succ]
  refine takeW 2 (some 7) (oi := ?oT3) (v := ?vT3) ?hiT3 ?hdT3 (by kernel_rfl) (by kernel_rfl) (by kernel_rfl) (fun _ _ _ h => h) ?hwT3 ?hyT3 hHeld ?_
  case hiT3 => (simp only [List.getElem?_toArray, List.getElem?_cons_succ, List.getElem?_cons_zero]; with_reducible rfl)
  case hdT3 => rfl
  case hwT3 => rfl
  case hyT3 => (intro w hSw; (try dsimp only at hSw); go_simp; first | done | with_reducible rfl)
  try simp only [Act.put]
  try simp only [List.setIfInBounds_toArray, List.set_cons_zero, List.set_cons_succ]
  refine takeW 3 (some 8) (oi := ?oT4) (v := ?vT4) ?hiT4 ?hdT4 (by kernel_rfl) (by kernel_rfl) (by kernel_rfl) (fun _ _ _ h => h) ?hwT4 ?hyT4 hHeld ?_
  case hiT4 => (simp only [List.getElem?_toArray, List.getElem?_cons_succ, List.getElem?_cons_zero]; with_reducible rfl)
  case hdT4 => rfl
  case hwT4 => rfl
  case hyT4 => (intro w hSw; (try dsimp only at hSw); go_simp; first | done | with_reducible rfl)
  try simp only [Act.put]
  try simp only [List.setIfInBounds_toArray, List.set_cons_zero, List.set_cons_succ]
  refine takeW 4 (some 9) (oi := ?oT5) (v := ?vT5) ?hiT5 ?hdT5 (by kernel_rfl) (by kernel_rfl) (by kernel_rfl) (fun _ _ _ h => h) ?hwT5 ?hyT5 hHeld ?_
  case hiT5 => (simp only [List.getElem?_toArray, List.getElem?_cons_succ, List.getElem?_cons_zero]; with_reducible rfl)
  case hdT5 => rfl
  case hwT5 => rfl
  case hyT5 => (intro w hSw; (try dsimp only at hSw); go_simp; first | done | with_reducible rfl)
  try simp only [Act.put]
  try simp only [List.setIfInBounds_toArray, List.set_cons_zero, List.set_cons_succ]
  refine takeW 5 (some 10) (oi := ?oT6) (v := ?vT6) ?hiT6 ?hdT6 (by kernel_rfl) (by kernel_rfl) (by kernel_rfl) (fun _ _ _ h => h) ?hwT6 ?hyT6 hHeld ?_
  case hiT6 => (simp only [List.getElem?_toArray, List.getElem?_cons_succ, List.getElem?_cons_zero]; with_reducible rfl)
  case hdT6 => rfl
  case hwT6 => rfl
  case hyT6 => (intro w hSw; (try dsimp only at hSw); go_simp; first | done | with_reducible rfl)
  try simp only [Act.put]
  try simp only [List.setIfInBounds_toArray, List.set_cons_zero, List.set_cons_succ]
  refine takeW 6 (some 11) (oi := ?oT7) (v := ?vT7) ?hiT7 ?hdT7 (by kernel_rfl) (by kernel_rfl) (by kernel_rfl) (fun _ _ _ h => h) ?hwT7 ?hyT7 hHeld ?_
  case hiT7 => (simp only [List.getElem?_toArray, List.getElem?_cons_succ, List.getElem?_cons_zero]; with_reducible rfl)
  case hdT7 => rfl
  case hwT7 => rfl
  case hyT7 => (intro w hSw; (try dsimp only at hSw); go_simp; first | done | with_reducible rfl)
  try simp only [Act.put]
  try simp only [List.setIfInBounds_toArray, List.set_cons_zero, List.set_cons_succ]
  refine takeW 7 (some 12) (oi := ?oT8) (v := ?vT8) ?hiT8 ?hdT8 (by kernel_rfl) (by kernel_rfl) (by kernel_rfl) (fun _ _ _ h => h) ?hwT8 ?hyT8 hHeld ?_
  case hiT8 => (simp only [List.getElem?_toArray, List.getElem?_cons_succ, List.getElem?_cons_zero]; with_reducible rfl)
  case hdT8 => rfl
  case hwT8 => rfl
  case hyT8 => (intro w hSw; (try dsimp only at hSw); go_simp; first | done | with_reducible rfl)
  try simp only [Act.put]
  try simp only [List.setIfInBounds_toArray, List.set_cons_zero, List.set_cons_succ]
  refine takeW 8 (some 13) (oi := ?oT9) (v := ?vT9) ?hiT9 ?hdT9 (by kernel_rfl) (by kernel_rfl) (by kernel_rfl) (fun _ _ _ h => h) ?hwT9 ?hyT9 hHeld ?_
  case hiT9 => (simp only [List.getElem?_toArray, List.getElem?_cons_succ, List.getElem?_cons_zero]; with_reducible rfl)
  case hdT9 => rfl
  case hwT9 => rfl
  case hyT9 => (intro w hSw; (try dsimp only at hSw); go_simp; first | done | with_reducible rfl)
  try simp only [Act.put]
  try simp only [List.setIfInBounds_toArray, List.set_cons_zero, List.set_cons_succ]
  refine takeW 9 (some 14) (oi := ?oT10) (v := ?vT10) ?hiT10 ?hdT10 (by kernel_rfl) (by kernel_rfl) (by kernel_rfl) (fun _ _ _ h => h) ?hwT10 ?hyT10 hHeld ?_
  case hiT10 => (simp only [List.getElem?_toArray, List.getElem?_cons_succ, List.getElem?_cons_zero]; with_reducible rfl)
  case hdT10 => rfl
  case hwT10 => rfl
  case hyT10 => (intro w hSw; (try dsimp only at hSw); go_simp; first | done | with_reducible rfl)
  try simp only [Act.put]
  try simp only [List.setIfInBounds_toArray, List.set_cons_zero, List.set_cons_succ]
  refine takeW 10 (some 15) (oi := ?oT11) (v := ?vT11) ?hiT11 ?hdT11 (by kernel_rfl) (by kernel_rfl) (by kernel_rfl) (fun _ _ _ h => h) ?hwT11 ?hyT11 hHeld ?_
  case hiT11 => (simp only [List.getElem?_toArray, List.getElem?_cons_succ, List.getElem?_cons_zero]; with_reducible rfl)
  case hdT11 => rfl
  case hwT11 => rfl
  case hyT11 => (intro w hSw; (try dsimp only at hSw); go_simp; first | done | with_reducible rfl)
  try simp only [Act.put]
  try simp only [List.setIfInBounds_toArray, List.set_cons_zero, List.set_cons_succ]
  refine takeW 11 (some 16) (oi := ?oT12) (v := ?vT12) ?hiT12 ?hdT12 (by kernel_rfl) (by kernel_rfl) (by kernel_rfl) (fun _ _ _ h => h) ?hwT12 ?hyT12 hHeld ?_
  case hiT12 => (simp only [List.getElem?_toArray, List.getElem?_cons_succ, List.getElem?_cons_zero]; with_reducible rfl)
  case hdT12 => rfl
  case hwT12 => rfl
  case hyT12 => (intro w hSw; (try dsimp only at hSw); go_simp; first | done | with_reducible rfl)
  try simp only [Act.put]
  try simp only [List.setIfInBounds_toArray, List.set_cons_zero, List.set_cons_succ]
  refine takeW 12 (some 17) (oi := ?oT13) (v := ?vT13) ?hiT13 ?hdT13 (by kernel_rfl) (by kernel_rfl) (by kernel_rfl) (fun _ _ _ h => h) ?hwT13 ?hyT13 hHeld ?_
  case hiT13 => (simp only [List.getElem?_toArray, List.getElem?_cons_succ, List.getElem?_cons_zero]; with_reducible rfl)
  case hdT13 => rfl
  case hwT13 => rfl
  case hyT13 => (intro w hSw; (try dsimp only at hSw); go_simp; first | done | with_reducible rfl)
  try simp only [Act.put]
  try simp only [List.setIfInBounds_toArray, List.set_cons_zero, List.set_cons_succ]
  refine stepOne 13 (o := ?oT14) ?hiT14 (by kernel_rfl) ?hwT14 (fun K hK => ?_)
  case hiT14 => (simp only [List.getElem?_toArray, List.getElem?_cons_succ, List.getElem?_cons_zero]; with_reducible rfl)
  case hwT14 => rfl
  go_simp
  refine hK.out _ _ ?_ (fun hHeld => ?_)
  · exact ⟨cell_later HBX.out k1, cell_later HBX.out k2, cell_later HBX.out c2, cell_later HBX.out c3⟩
  clear hK K
  try simp only [Act.put]
  try simp only [List.setIfInBounds_toArray, List.set_cons_zero, List.set_cons_succ]
  refine stepOne 14 (o := ?oT15) ?hiT15 (by kernel_rfl) ?hwT15 (fun K hK => ?_)
  case hiT15 => (simp only [List.getElem?_toArray, List.getElem?_cons_succ, List.getElem?_cons_zero]; with_reducible rfl)
  case hwT15 => rfl
  go_simp
  go_at_call 57
  refine (HCC.out _ _ (heap_alloc_new w.drew _) HBX.out).mono ?_
  rintro e w2 ⟨A4, n4, x4, rfl, hrd, hb2⟩
  have HRD := Lib.hid hrd
  have HB2 := Lib.hid hb2
  clear hrd hb2
  refine hK.out _ _ ?_ (fun hHeld => ?_)
  · exact ⟨cell_later HB2.out k1, cell_later HB2.out k2, cell_later HB2.out c2, cell_later HB2.out c3⟩
  clear hK K
  try simp only [Act.put]
  try simp only [List.setIfInBounds_toArray, List.set_cons_zero, List.set_cons_succ]
  refine stepOne 15 (o := ?oT16) ?hiT16 (by kernel_rfl) ?hwT16 (fun K hK => ?_)
  case hiT16 => (simp only [List.getElem?_toArray, List.getElem?_cons_succ, List.getElem?_cons_zero]; with_reducible rfl)
  case hwT16 => rfl
  go_simp
  go_at_call 31
  refine (of_any (HM.out.under HB2.out) HRD.out HLT.out HSM.out HML.out).mono ?_
  rintro e w3 ⟨v3, rfl, ho3, hb3⟩
  have HO3 := Lib.hid ho3
  have HB3 := Lib.hid (HB2.out.trans (hb3.mono HB2.out.size))
  clear ho3 hb3
  refine hK.out _ _ ?_ (fun hHeld => ?_)
  · exact ⟨cell_later HB3.out k1, cell_later HB3.out k2, cell_later HB3.out c2, cell_later HB3.out c3⟩
  clear hK K
  try simp only [Act.put]
  try simp only [List.setIfInBounds_toArray, List.set_cons_zero, List.set_cons_succ]
  refine takeW 16 (some 4) (oi := ?oT17) (v := ?vT17) ?hiT17 ?hdT17 (by kernel_rfl) (by kernel_rfl) (by kernel_rfl) (fun _ _ _ h => h) ?hwT17 ?hyT17 hHeld ?_
  case hiT17 => (simp only [List.getElem?_toArray, List.getElem?_cons_succ, List.getElem?_cons_zero]; with_reducible rfl)
  case hdT17 => rfl
  case hwT17 => rfl
  case hyT17 => (intro w hSw; (try dsimp only at hSw); go_simp; first | done | with_reducible rfl)
  try simp only [Act.put]
  try simp only [List.setIfInBounds_toArray, List.set_cons_zero, List.set_cons_succ]
  refine wpAnyH_done (by kernel_rfl) ?_ _
  refine NoPanic.normal ?_
  skip
  -- END1
  all_goals (go_wp2; go_ret; exact ⟨_, rfl, World.ownsRow.mono HO3.out HB2.out.size, HB3.out⟩)
end Go.Proofs.Ytemliglhippdcaa

/- Package grph's order of rules is the document's. -/
namespace Go.Proofs.Ytemliglhippdcaa
set_option maxRecDepth 100000
open Go.ChangeShapes Go.WideShapes Go.ChangeAt Go.RowKit Go.Shelf Go.ChangeMaps

theorem addOuts_mem (i : Nat) : ∀ (outs : List (List Nat)) (M : List Nat → List Nat) (t : List Nat) (a : Nat), a ∈ addOuts i outs M t ↔ a ∈ M t ∨ (a = i ∧ t ∈ outs)
  | [], M, t, a => by simp [addOuts]
  | s :: outs, M, t, a => by
    have e : addOuts i (s :: outs) M t = addOuts i outs (addOut i M s) t := rfl
    rw [e, addOuts_mem i outs (addOut i M s) t a]
    unfold addOut
    by_cases h : t = s
    · subst h
      simp
      exact fun h _ => .inr h
    · simp [h]
theorem mkM_mem (R : List Mn.Rule) (t : List Nat) (a : Nat) : ∀ k, a ∈ mkM R k t ↔ a < k ∧ t ∈ (R.getD a emptyRule).outs
  | 0 => by simp [mkM]
  | k + 1 => by
    unfold mkM
    rw [addOuts_mem, mkM_mem R t a k]
    constructor
    · rintro (⟨h1, h2⟩ | ⟨rfl, h2⟩)
      · exact ⟨by omega, h2⟩
      · exact ⟨by omega, h2⟩
    · rintro ⟨h1, h2⟩
      by_cases e : a = k
      · subst e; exact .inr ⟨rfl, h2⟩
      · exact .inl ⟨by omega, h2⟩
theorem aheadF_mem (R : List Mn.Rule) (n i a : Nat) : a ∈ aheadF R (mkM R n) i ↔ a < n ∧ Mn.needs (R.getD i emptyRule) (R.getD a emptyRule) = true := by
  unfold aheadF ofM
  rw [List.mem_flatMap, needs_hit, List.any_eq_true]
  constructor
  · rintro ⟨t, ht, ha⟩
    obtain ⟨h1, h2⟩ := (mkM_mem R t a n).1 ha
    refine ⟨h1, t, h2, ?_⟩
    unfold hit
    rw [Bool.or_eq_true, decide_eq_true_iff, decide_eq_true_iff]
    exact List.mem_append.1 ht
  · rintro ⟨h1, t, ht, hh⟩
    unfold hit at hh
    rw [Bool.or_eq_true, decide_eq_true_iff, decide_eq_true_iff] at hh
    exact ⟨t, List.mem_append.2 hh, (mkM_mem R t a n).2 ⟨h1, ht⟩⟩
theorem addL_nodup : ∀ (xs l : List Nat), (l ++ xs).Nodup → addL l xs = l ++ xs
  | [], l, _ => by simp [addL]
  | x :: xs, l, h => by
    have hx : x ∉ l := fun hm => by
      rw [List.nodup_append] at h
      exact h.2.2 x hm x (by simp) rfl
    have e : addL l (x :: xs) = addL (l ++ [x]) xs := by
      unfold addL
      rw [List.foldl_cons, if_neg hx]
    rw [e, addL_nodup xs (l ++ [x]) (by simpa using h)]
    simp
theorem addL_range (n : Nat) : addL [] (List.range n) = List.range n := addL_nodup _ [] (by simpa using List.nodup_range)
theorem plc_range (n y : Nat) (h : y < n) : plc (List.range n) y = some y := by
  unfold plc
  rw [List.findIdx?_eq_some_iff_getElem]
  refine ⟨by simpa using h, by simp, fun j hj => ?_⟩
  simp
  omega
theorem getD_range (n i : Nat) (h : i < n) : (List.range n).getD i 0 = i := by
  rw [List.getD_eq_getElem?_getD, List.getElem?_range h]
  rfl
theorem pf_range (f : Nat → List Nat) (n : Nat) (hf : ∀ i, i < n → ∀ a ∈ f i, a < n) (i : Nat) (hi : i < n) : Pf (List.range n) f i = f i := by
  unfold Pf
  rw [if_pos (by simpa using hi), getD_range n i hi]
  have h := hf i hi
  generalize f i = l at h
  induction l with
  | nil => rfl
  | cons a l ih =>
    rw [List.filterMap_cons, plc_range n a (h a (by simp)), ih fun b hb => h b (by simp [hb])]
theorem free_is (R : List Mn.Rule) (n : Nat) (out : List Nat) (i : Nat) (hi : i < n) : Gr.freeP (Pf (List.range n) (aheadF R (mkM R n))) out i = freeI R n out i := by
  unfold Gr.freeP freeI
  rw [pf_range (aheadF R (mkM R n)) n (fun i _ a ha => ((aheadF_mem R n i a).1 ha).1) i hi]
  have h0 : decide (i ∉ out) = !decide (i ∈ out) := by simp
  rw [h0]
  congr 1
  rw [Bool.eq_iff_iff, List.all_eq_true, List.all_eq_true]
  unfold needsI
  constructor
  · intro h a ha
    rw [List.mem_filter, List.mem_range] at ha
    exact h a ((aheadF_mem R n i a).2 ha)
  · intro h a ha
    have := (aheadF_mem R n i a).1 ha
    exact h a (by rw [List.mem_filter, List.mem_range]; exact this)
theorem nx_is (R : List Mn.Rule) (n : Nat) (out : List Nat) : ∀ d, d ≤ n → nx R n out d = match ((List.range n).drop (n - d)).find? (freeI R n out) with | none => (-1 : Int) | some x => (x : Int)
  | 0, _ => by
    unfold nx
    rw [Nat.sub_zero, List.drop_eq_nil_of_le (by simp)]
    rfl
  | d + 1, hd => by
    unfold nx
    have hlt : n - (d + 1) < (List.range n).length := by simp; omega
    rw [List.drop_eq_getElem_cons hlt, List.getElem_range, List.find?_cons, show n - (d + 1) = n - 1 - d by omega, show n - 1 - d + 1 = n - d by omega]
    rcases h : freeI R n out (n - 1 - d) with _ | _
    · simp only [Bool.false_eq_true, if_false]
      exact nx_is R n out d (by omega)
    · simp
theorem rulesF_is (R : List Mn.Rule) (n : Nat) : ∀ f out, rulesF R n f out = if (Gr.run (freeI R n) n f out).length = out.length + f then some (Gr.run (freeI R n) n f out) else none
  | 0, out => by unfold rulesF Gr.run; simp
  | f + 1, out => by
    unfold rulesF
    conv => rhs; unfold Gr.run
    have h := nx_is R n out n (Nat.le_refl _)
    rw [Nat.sub_self, List.drop_zero] at h
    rw [h]
    rcases hx : (List.range n).find? (freeI R n out) with _ | x
    · simp
    · have hn : ¬ ((x : Int) < 0) := by omega
      simp only [if_neg hn, Int.toNat_natCast]
      rw [rulesF_is R n f (out ++ [x])]
      simp
      congr 1
      rw [eq_iff_iff]
      omega
/-- The order of rules that package grph tells. -/
theorem ord_is (R : List Mn.Rule) : rulesF R R.length R.length [] = if (Gr.ord (Pf (List.range R.length) (aheadF R (mkM R R.length))) R.length).length < R.length then none else some (Gr.ord (Pf (List.range R.length) (aheadF R (mkM R R.length))) R.length) := by
  rw [rulesF_is]
  have e : Gr.run (freeI R R.length) R.length R.length [] = Gr.ord (Pf (List.range R.length) (aheadF R (mkM R R.length))) R.length := by
    unfold Gr.ord
    exact (Gr.run_congr (fun T i hi => free_is R R.length T i hi) _ _).symm
  rw [e]
  have hl := Gr.ord_len (Pf (List.range R.length) (aheadF R (mkM R R.length))) R.length
  by_cases h : (Gr.ord (Pf (List.range R.length) (aheadF R (mkM R R.length))) R.length).length < R.length
  · rw [if_pos h, if_neg (by simp; omega)]
  · rw [if_neg h, if_pos (by simp; omega)]
end Go.Proofs.Ytemliglhippdcaa

/- Package grph: the order of a manifest's rules. -/
namespace Go.Proofs.Ytemliglhippdcaa
set_option maxRecDepth 100000
open Go.ChangeShapes Go.WideShapes Go.ChangeAt Go.RowKit Go.Shelf Go.ChangeMaps

/-- What of a manifest's lengths and bytes is asked. -/
structure FineR (R : List Mn.Rule) : Prop where
  n : R.length ≤ 1000
  small : ∀ r ∈ R, SmallR r
  outs : ∀ r ∈ R, r.outs.length ≤ 1000
  outsl : ∀ r ∈ R, ∀ s ∈ r.outs, s.length ≤ 1000000
  needsl : ∀ r ∈ R, ∀ s ∈ r.ins ++ r.order, s.length ≤ 1000000
  lens : ∀ i, (R.getD i emptyRule).ins.length ≤ 1000 ∧ (R.getD i emptyRule).order.length ≤ 1000
  fine : ∀ n, n = R.length → ∀ i, i < n → (aheadF R (mkM R n) i).length ≤ 1000
theorem orderis_of {T : List Nat} {f : Nat → List Nat} {w w' : World} {e : Ending} (h : OrderIs T f w e w') :
    ∃ v z, e = .returned (.tuple #[v, .bool z]) ∧ (if (Gr.ord (Pf T f) T.length).length < T.length then z = false ∧ v = .slice none 0 0 else z = true ∧ OwnI w' w.heap.size v ((Gr.ord (Pf T f) T.length).map fun i => T.getD i 0)) := by
  unfold OrderIs at h
  split at h
  · rename_i hl
    exact ⟨_, _, h, by rw [if_pos hl]; exact ⟨rfl, rfl⟩⟩
  · rename_i hl
    obtain ⟨v, he, ho⟩ := h
    exact ⟨v, _, he, by rw [if_neg hl]; exact ⟨rfl, ho⟩⟩
theorem map_getD_range (n : Nat) (l : List Nat) (h : ∀ t ∈ l, t < n) : (l.map fun i => (List.range n).getD i 0) = l := by
  induction l with
  | nil => rfl
  | cons a l ih => rw [List.map_cons, getD_range n a (h a (by simp)), ih fun t ht => h t (by simp [ht])]
set_option maxHeartbeats 16000000 in
theorem grules_any {w : World} {A : Option Addr} {n c : Nat} {dA : Option Addr} {dn dc : Nat} {R0 : List Mn.Rule} (hr : SlR w (.slice A n c) R0) (hn : R0.length = n) (hF : FineR R0) :
    Calls Try.prog 22 #[.agg #[.slice A n c, .slice dA dn dc]] w fun e w' => (∃ u, e = .returned (.tuple #[u, .bool (rulesF R0 R0.length R0.length []).isSome]) ∧ OwnI w' w.heap.size u ((rulesF R0 R0.length R0.length []).getD [])) ∧ Below w.heap.size w w' := by
  have HR := Lib.hid hr
  have HNN := Lib.hid hn
  have HF := Lib.hid hF
  have HNL := Lib.hid hF.n
  have hnB : n ≤ 1000 := by rw [← hn]; exact hF.n
  clear hr hn hF
  go_enter Try.func22, Try.ntmps22
  go_upto_region 2 with fail
  obtain ⟨w1, hw1⟩ : ∃ W, w.alloc (.cells #[.slice A n c, .slice dA dn dc] 26) = W := ⟨_, rfl⟩
  obtain ⟨p, hp⟩ : ∃ p, w.heap.size = p := ⟨_, rfl⟩
  have hbx : Blk w1 p 26 #[.slice A n c, .slice dA dn dc] := by rw [← hw1, ← hp]; exact heap_alloc_new w _
  have HB1 : Hid (Below w.heap.size w w1) := Lib.hid (by rw [← hw1]; exact (Below.refl _ _).alloc (Nat.le_refl _) _)
  have c0 : w1.cell? ⟨p, 0, none⟩ = some (.slice A n c) := hbx.at 0
  have c1 : w1.cell? ⟨p, 1, none⟩ = some (.slice dA dn dc) := hbx.at 1
  rw [hw1, hp]
  have HPW := Lib.hid hp
  clear hw1 hp hbx
  go_wp2_with fail
  go_loopg [9, 4] n (fun f' iv tv wx => ∃ (k : Nat), k ≤ n ∧ n - k ≤ f' ∧ iv = .int .i64 (k : Int) ∧ Hid (OwnI wx w1.heap.size tv (List.range k)) ∧ Hid (Below w1.heap.size w1 wx))
  case atStart => exact ⟨0, Nat.zero_le _, by omega, rfl, Lib.hid (ownI_none _ _), Lib.hid (Below.refl _ _)⟩
  case round =>
    obtain ⟨k, hk, hfu, hkv, HO, HB⟩ := hrel
    subst hkv
    have hwz := HB.out.size
    by_cases hkn : k < n
    · have hkI : (k : Int) < (n : Int) := by omega
      go_wp2_with (first
        | (at_builtin; refine wpList_append_intT 22 Try.underlying22 rfl _ _ rfl w1.heap.size u4 (List.range k) wr.heap.size k rfl (HO.out.under ((Below.refl _ _).alloc (Nat.le_refl _) _)) rfl (cell_new_int wr _ _) (by simp; omega) (by simp; omega) ?_; intro v6 w6 ho6 hg6 hat6
           have HO6 : Hid (OwnI w6 w1.heap.size v6 (List.range (k + 1))) := Lib.hid (by rw [List.range_succ]; exact ho6)
           have HB6 : Hid (Below w1.heap.size w1 w6) := Lib.hid (HB.out.trans (((Below.refl _ _).alloc hwz _).trans ((Below.refl _ _).grown hg6 (by simp; omega) fun j hj => (HO.out.lt j hj).1)))
           clear ho6 hg6 hat6)
        | fail)
      go_roundg (n - (k + 1))
      case measure => omega
      case rel => exact ⟨k + 1, hkn, by omega, by go_num, HO6, HB6⟩
    · obtain rfl : n = k := by omega
      have hkI : ¬ (n : Int) < (n : Int) := by omega
      have p0 : wr.cell? ⟨p, 0, none⟩ = some (.slice A n c) := cell_later HB.out c0
      have p1 : wr.cell? ⟨p, 1, none⟩ = some (.slice dA dn dc) := cell_later HB.out c1
      obtain ⟨Au, cu, hu, _⟩ := HO.out.parts
      obtain ⟨nu, hnu⟩ : ∃ q, (List.range n).length = q := ⟨_, rfl⟩
      rw [hnu] at hu
      subst hu
      have HBD : Hid (Below w.heap.size w wr.drew) := Lib.hid (HB1.out.trans (HB.out.mono HB1.out.size)).drew
      clear hnu c0 c1 hk hfu hkn
      go_upto_region 7 with fail
      refine wp_region_noPanic ?_
      refine wp_region_held_drew (S := fun w' => w'.cell? ⟨p, 0, none⟩ = some (.slice A n c) ∧ w'.cell? ⟨p, 1, none⟩ = some (.slice dA dn dc)) (by kernel_rfl) (⟨p0, p1⟩) (fun hHeld => ?_)
      refine takeW 0 (some 17) (oi := ?oT1) (v := ?vT1) ?hiT1 ?hdT1 (by kernel_rfl) (by kernel_rfl) (by kernel_rfl) (fun _ _ _ h => h) ?hwT1 ?hyT1 hHeld ?_
      case hiT1 => (simp only [List.getElem?_toArray, List.getElem?_cons_zero]; with_reducible rfl)
      case hdT1 => rfl
      case hwT1 => rfl
      case hyT1 => (intro w hSw; (try dsimp only at hSw); go_simp; first | done | with_reducible rfl)
      try simp only [Act.put]
      try simp only [List.setIfInBounds_toArray, List.set_cons_zero, List.set_cons_succ]
      refine takeW 1 (some 18) (oi := ?oT2) (v := ?vT2) ?hiT2 ?hdT2 (by kernel_rfl) (by kernel_rfl) (by kernel_rfl) (fun _ _ _ h => h) ?hwT2 ?hyT2 hHeld ?_
      case hiT2 => (simp only [List.getElem?_toArray, List.getElem?_cons_succ, List.getElem?_cons_zero]; with_reducible rfl)
      case hdT2 => rfl
      case hwT2 => rfl
      case hyT2 => (intro w hSw; (try dsimp only at hSw); go_simp; first | done | with_reducible rfl)
      try simp only [Act.put]
      try simp only [List.setIfInBounds_toArray, List.set_cons_zero, List.set_cons_succ]
      refine takeW 2 (some 19) (oi := ?oT3) (v := ?vT3) ?hiT3 ?hdT3 (by kernel_rfl) (by kernel_rfl) (by kernel_rfl) (fun _ _ _ h => h) ?hwT3 ?hyT3 hHeld ?_
      case hiT3 => (simp only [List.getElem?_toArray, List.getElem?_cons_succ, List.getElem?_cons_zero]; with_reducible rfl)
      case hdT3 => rfl
      case hwT3 => rfl
      case hyT3 => (intro w hSw; (try dsimp only at hSw); go_simp; first | done | with_reducible rfl)
      try simp only [Act.put]
      try simp only [List.setIfInBounds_toArray, List.set_cons_zero, List.set_cons_succ]
      refine stepOne 3 (o := ?oT4) ?hiT4 (by kernel_rfl) ?hwT4 (fun K hK => ?_)
      case hiT4 => (simp only [List.getElem?_toArray, List.getElem?_cons_succ, List.getElem?_cons_zero]; with_reducible rfl)
      case hwT4 => rfl
      go_simp
      go_at_call 30
      refine (makers_any 1000 (HR.out.under HBD.out) HNL.out HF.out.small HF.out.outs (Nat.le_refl _) HF.out.outsl ⟨_, _, _, rfl⟩).mono ?_
      rintro e w5 ⟨mb, nn, f, rfl, hmk, hb5⟩
      rw [HNN.out] at hmk
      have HMK := Lib.hid hmk
      have HB5 := Lib.hid (HBD.out.trans (hb5.mono HBD.out.size))
      have HX5 : Hid (Below wr.heap.size wr w5) := Lib.hid (below_of_drew hb5)
      clear hmk hb5
      refine hK.out _ _ ?_ (fun hHeld => ?_)
      · exact ⟨cell_later HX5.out p0, cell_later HX5.out p1⟩
      clear hK K
      try simp only [Act.put]
      try simp only [List.setIfInBounds_toArray, List.set_cons_zero, List.set_cons_succ]
      refine stepOne 4 (o := ?oT5) ?hiT5 (by kernel_rfl) ?hwT5 (fun K hK => ?_)
      case hiT5 => (simp only [List.getElem?_toArray, List.getElem?_cons_succ, List.getElem?_cons_zero]; with_reducible rfl)
      case hwT5 => rfl
      go_simp
      go_at_call 32
      refine (aheadin_any A n c dA dn dc mb).mono ?_
      rintro e w6 ⟨rfl, hp6, hq6, hb6, hs6⟩
      have HP6 := Lib.hid hp6
      have HQ6 := Lib.hid hq6
      have HB6 := Lib.hid (HB5.out.trans (hb6.mono HB5.out.size))
      have HX6 := Lib.hid (HX5.out.trans (hb6.mono HX5.out.size))
      have HMK6 := Lib.hid (HMK.out.under hb6)
      have HS6 := Lib.hid hs6
      have HZ6 := Lib.hid (show w5.heap.size + 1 < w6.heap.size by omega)
      clear hp6 hq6 hb6 hs6
      have HAN : Hid (AheadN w6 56 #[.pointer (some ⟨w5.heap.size + 1, 0, none⟩), .pointer (some ⟨w5.heap.size, 0, none⟩)] (aheadF R0 (mkM R0 n)) (fun x => x ∈ addL [] (List.range n))) := Lib.hid ⟨fun args w => by kernel_rfl, fun x wx hx hb => by
        rw [addL_range, List.mem_range] at hx
        have hrx : SlR wx (.slice A n c) R0 := (HR.out.under HB6.out).under hb
        have hfx := HF.out.fine n HNN.out.symm x hx
        refine (ahead1_any (dA := dA) (dn := dn) (dc := dc) hrx HNN.out hx (by have := HNL.out; rw [← HNN.out]; exact this) HF.out.small HF.out.needsl ((HMK6.out.under hb)) (HP6.out.under hb) (HQ6.out.under hb) (by omega) (HF.out.lens x)).mono ?_
        rintro e w' ⟨v', rfl, ho, hb'⟩
        exact ⟨v', rfl, ho.rdN, fun k hk => .inr (ho.lt k hk), hb'⟩⟩
      refine hK.out _ _ ?_ (fun hHeld => ?_)
      · exact ⟨cell_later HX6.out p0, cell_later HX6.out p1⟩
      clear hK K
      try simp only [Act.put]
      try simp only [List.setIfInBounds_toArray, List.set_cons_zero, List.set_cons_succ]
      refine stepOne 5 (o := ?oT6) ?hiT6 (by kernel_rfl) ?hwT6 (fun K hK => ?_)
      case hiT6 => (simp only [List.getElem?_toArray, List.getElem?_cons_succ, List.getElem?_cons_zero]; with_reducible rfl)
      case hwT6 => rfl
      go_simp
      go_at_call 13
      refine (order_any 1000 (HO.out.under HX6.out).rdN (fun k hk => Nat.lt_of_lt_of_le (HO.out.lt k hk).2 HX6.out.size) (by rw [List.length_range]; have := HNL.out; rw [HNN.out] at this; exact this) (Nat.le_refl _) HAN.out (fun x hx => by rw [addL_range, List.mem_range] at hx; exact HF.out.fine n HNN.out.symm x hx)).mono ?_
      rintro e w7 ⟨hoi, hb7⟩
      have HB7 := Lib.hid (HB6.out.trans (hb7.mono HB6.out.size))
      have HX7 := Lib.hid (HX6.out.trans (hb7.mono HX6.out.size))
      obtain ⟨v7, z7, rfl, hres⟩ := orderis_of hoi
      have HRES := Lib.hid hres
      clear hoi hb7 hres
      refine hK.out _ _ ?_ (fun hHeld => ?_)
      · exact ⟨cell_later HX7.out p0, cell_later HX7.out p1⟩
      clear hK K
      try simp only [Act.put]
      try simp only [List.setIfInBounds_toArray, List.set_cons_zero, List.set_cons_succ]
      refine takeW 6 (some 23) (oi := ?oT7) (v := ?vT7) ?hiT7 ?hdT7 (by kernel_rfl) (by kernel_rfl) (by kernel_rfl) (fun _ _ _ h => h) ?hwT7 ?hyT7 hHeld ?_
      case hiT7 => (simp only [List.getElem?_toArray, List.getElem?_cons_succ, List.getElem?_cons_zero]; with_reducible rfl)
      case hdT7 => rfl
      case hwT7 => rfl
      case hyT7 => (intro w hSw; (try dsimp only at hSw); go_simp; first | done | with_reducible rfl)
      try simp only [Act.put]
      try simp only [List.setIfInBounds_toArray, List.set_cons_zero, List.set_cons_succ]
      refine takeW 7 (some 24) (oi := ?oT8) (v := ?vT8) ?hiT8 ?hdT8 (by kernel_rfl) (by kernel_rfl) (by kernel_rfl) (fun _ _ _ h => h) ?hwT8 ?hyT8 hHeld ?_
      case hiT8 => (simp only [List.getElem?_toArray, List.getElem?_cons_succ, List.getElem?_cons_zero]; with_reducible rfl)
      case hdT8 => rfl
      case hwT8 => rfl
      case hyT8 => (intro w hSw; (try dsimp only at hSw); go_simp; first | done | with_reducible rfl)
      try simp only [Act.put]
      try simp only [List.setIfInBounds_toArray, List.set_cons_zero, List.set_cons_succ]
      refine takeW 8 (some 2) (oi := ?oT9) (v := ?vT9) ?hiT9 ?hdT9 (by kernel_rfl) (by kernel_rfl) (by kernel_rfl) (fun _ _ _ h => h) ?hwT9 ?hyT9 hHeld ?_
      case hiT9 => (simp only [List.getElem?_toArray, List.getElem?_cons_succ, List.getElem?_cons_zero]; with_reducible rfl)
      case hdT9 => rfl
      case hwT9 => rfl
      case hyT9 => (intro w hSw; (try dsimp only at hSw); go_simp; first | done | with_reducible rfl)
      try simp only [Act.put]
      try simp only [List.setIfInBounds_toArray, List.set_cons_zero, List.set_cons_succ]
      refine takeW 9 (some 3) (oi := ?oT10) (v := ?vT10) ?hiT10 ?hdT10 (by kernel_rfl) (by kernel_rfl) (by kernel_rfl) (fun _ _ _ h => h) ?hwT10 ?hyT10 hHeld ?_
      case hiT10 => (simp only [List.getElem?_toArray, List.getElem?_cons_succ, List.getElem?_cons_zero]; with_reducible rfl)
      case hdT10 => rfl
      case hwT10 => rfl
      case hyT10 => (intro w hSw; (try dsimp only at hSw); go_simp; first | done | with_reducible rfl)
      try simp only [Act.put]
      try simp only [List.setIfInBounds_toArray, List.set_cons_zero, List.set_cons_succ]
      refine wpAnyH_done (by kernel_rfl) ?_ _
      refine NoPanic.normal ?_
      skip
      go_wp2
      go_ret2
      have hres := HRES.out
      have hord := ord_is R0
      rw [HNN.out] at hord
      rw [addL_range, List.length_range] at hres
      rw [HNN.out, hord]
      by_cases hl : (Gr.ord (Pf (List.range n) (aheadF R0 (mkM R0 n))) n).length < n
      · rw [if_pos hl] at hres ⊢
        obtain ⟨rfl, rfl⟩ := hres
        exact ⟨⟨_, rfl, ownI_none _ _⟩, HB7.out⟩
      · rw [if_neg hl] at hres ⊢
        obtain ⟨rfl, ho⟩ := hres
        rw [map_getD_range n _ (Gr.ord_small _ n)] at ho
        exact ⟨⟨_, rfl, World.ownsRow.mono ho HB6.out.size⟩, HB7.out⟩
end Go.Proofs.Ytemliglhippdcaa

/- Package grph: those of an order that are reached. -/
namespace Go.Proofs.Ytemliglhippdcaa
set_option maxRecDepth 100000
open Go.ChangeShapes Go.WideShapes Go.ChangeAt Go.RowKit Go.Shelf Go.ChangeMaps

/-- A row of truths behind a variable. -/
structure TruthAt (w : World) (p rb n : Nat) (t : List Bool) : Prop where
  var : Blk w p 77 #[.slice (some ⟨rb, 0, none⟩) n n]
  row : Blk w rb 4 (t.map Value.bool).toArray
  len : t.length = n
theorem TruthAt.under {w w' : World} {p rb n : Nat} {t : List Bool} (h : TruthAt w p rb n t) (hb : Below w.heap.size w w') : TruthAt w' p rb n t := ⟨h.var.under hb, h.row.under hb, h.len⟩
theorem TruthAt.moves {S : Nat → Prop} {w w' : World} {p rb n : Nat} {t : List Bool} (h : TruthAt w p rb n t) (hm : Moves S w w') (h1 : ¬ S p) (h2 : ¬ S rb) : TruthAt w' p rb n t := ⟨h.var.moves hm h1, h.row.moves hm h2, h.len⟩
theorem TruthAt.at {w : World} {p rb n : Nat} {t : List Bool} (h : TruthAt w p rb n t) {i : Nat} (hi : i < n) : w.cell? ⟨rb, i, none⟩ = some (.bool (t.getD i false)) := by
  rw [h.row.at i, List.getElem?_toArray, List.getElem?_map, List.getElem?_eq_getElem (by rw [h.len]; exact hi), List.getD_eq_getElem?_getD, List.getElem?_eq_getElem (by rw [h.len]; exact hi)]
  rfl
theorem TruthAt.set {w : World} {p rb n : Nat} {t : List Bool} (h : TruthAt w p rb n t) (i : Nat) (z : Bool) (hp : p ≠ rb) : TruthAt (w.setCell ⟨rb, i, none⟩ (.bool z)) p rb n (t.set i z) :=
  ⟨h.var.setOther hp _, by have h1 := h.row.set i (.bool z); rw [List.setIfInBounds_toArray] at h1; rw [List.map_set]; exact h1, by rw [List.length_set]; exact h.len⟩
theorem wanted1_any {w : World} {p rb n : Nat} {t : List Bool} (h : TruthAt w p rb n t) (i : Nat) (hi : i < n) :
    Calls Try.prog 34 #[.int .i64 (i : Int), .pointer (some ⟨p, 0, none⟩)] w fun e w' => e = .returned (.bool (!t.getD i false)) ∧ Below w.heap.size w w' := by
  have c0 : w.cell? ⟨p, 0, none⟩ = some (.slice (some ⟨rb, 0, none⟩) n n) := h.var.at 0
  have c1 := h.at hi
  have hiI : (i : Int) < (n : Int) := by omega
  obtain ⟨z, hz⟩ : ∃ z, t.getD i false = z := ⟨_, rfl⟩
  rw [hz] at c1 ⊢
  clear h hz
  go_enter Try.func34, Try.ntmps34
  go_wp2
  go_ret
  exact ⟨rfl, Below.refl _ _⟩
/-- The first of l that is not reached. -/
def firstNot (t : List Bool) (l : List Nat) : Option Nat := l.findIdx? fun i => !t.getD i false
def fnI (t : List Bool) (l : List Nat) : Int := match firstNot t l with | none => -1 | some k => (k : Int)
set_option maxHeartbeats 4000000 in
theorem indexfunc_any {w : World} {base p rb n : Nat} {t : List Bool} {v : Value} {l : List Nat} (h : TruthAt w p rb n t) (hv : OwnI w base v l) (hl : ∀ x ∈ l, x < n) (hn : l.length ≤ 1000) :
    Calls Try.prog 58 #[v, .func (.func 34) #[] #[.pointer (some ⟨p, 0, none⟩)]] w fun e w' => e = .returned (.int .i64 (fnI t l)) ∧ Below w.heap.size w w' := by
  have H := Lib.hid h
  have HV := Lib.hid hv
  have HL := Lib.hid hl
  obtain ⟨A, c, rfl, _⟩ := hv.parts
  obtain ⟨m, hm⟩ : ∃ m, l.length = m := ⟨_, rfl⟩
  rw [hm] at HV hn ⊢
  have HM := Lib.hid hm
  clear h hv hl hm
  go_enter Try.func58, Try.ntmps58
  go_wp2_with fail
  go_loopg [8] m (fun f' iv wx => ∃ k : Nat, k ≤ m ∧ m - k ≤ f' ∧ iv = .int .i64 (k : Int) ∧ Hid (∀ j, j < k → t.getD (l.getD j 0) false = true) ∧ Hid (Below w.heap.size w wx))
  case atStart => exact ⟨0, Nat.zero_le _, by omega, rfl, Lib.hid (fun j h => absurd h (by omega)), Lib.hid (Below.refl _ _)⟩
  case round =>
    obtain ⟨k, hk, hg, rfl, hall, HB⟩ := hrel
    by_cases hlt : k < m
    · have hkI : (k : Int) < (m : Int) := by omega
      have hop := (HV.out.under HB.out).open (i := k) (by rw [HM.out]; exact hlt)
      rw [HM.out] at hop
      obtain ⟨ra, ca, hra, _, _, _, hcell⟩ := hop
      injection hra with hr1 hr2 hr3
      subst hr1
      have p1 := (hcell k hlt).1
      obtain ⟨x, hx⟩ : ∃ x, l.getD k 0 = x := ⟨_, rfl⟩
      have hxn : x < n := HL.out x (by
        rw [← hx, List.getD_eq_getElem?_getD, List.getElem?_eq_getElem (by rw [HM.out]; exact hlt)]
        exact List.getElem_mem _)
      rw [hx] at p1
      have HW := Lib.hid (wanted1_any (H.out.under HB.out) x hxn)
      have HXL := Lib.hid hx
      obtain ⟨z, hz⟩ : ∃ z, t.getD x false = z := ⟨_, rfl⟩
      rw [hz] at HW
      have HZ := Lib.hid hz
      clear hcell hx hr2 hr3 hz
      rcases z with _ | _
      · have HR : Hid (firstNot t l = some k) := Lib.hid (by
          unfold firstNot
          rw [List.findIdx?_eq_some_iff_getElem]
          have hkl : k < l.length := by rw [HM.out]; exact hlt
          have hgk : l[k]'hkl = x := by rw [← HXL.out, List.getD_eq_getElem?_getD, List.getElem?_eq_getElem hkl]; rfl
          refine ⟨hkl, by rw [hgk, HZ.out]; rfl, fun j hj => ?_⟩
          have h1 := hall.out j hj
          rw [List.getD_eq_getElem?_getD (l := l), List.getElem?_eq_getElem (by omega)] at h1
          simp only [Option.getD_some] at h1
          rw [h1]
          decide)
        clear hall
        go_wp2_with fail
        refine HW.out.mono ?_
        rintro e w2 ⟨rfl, hb2⟩
        have HB2 := Lib.hid (HB.out.trans (hb2.mono HB.out.size))
        clear hb2
        go_wp2
        go_ret
        refine ⟨?_, HB2.out⟩
        unfold fnI
        rw [HR.out]
        rfl
      · have HN : Hid (∀ j, j < k + 1 → t.getD (l.getD j 0) false = true) := Lib.hid (fun j hj => by
          by_cases e : j = k
          · subst e; rw [HXL.out, HZ.out]
          · exact hall.out j (by omega))
        clear hall
        go_wp2_with fail
        refine HW.out.mono ?_
        rintro e w2 ⟨rfl, hb2⟩
        have HB2 := Lib.hid (HB.out.trans (hb2.mono HB.out.size))
        clear hb2
        go_wp2
        go_roundg (m - (k + 1))
        case measure => omega
        case rel => exact ⟨k + 1, hlt, by omega, by go_num, HN, HB2⟩
    · obtain rfl : m = k := by omega
      have hkI : ¬ (m : Int) < (m : Int) := by omega
      have HR : Hid (firstNot t l = none) := Lib.hid (by
        unfold firstNot
        rw [List.findIdx?_eq_none_iff]
        intro x hx
        obtain ⟨j, hj, rfl⟩ := List.getElem_of_mem hx
        have h1 := hall.out j (by rw [← HM.out]; exact hj)
        rw [List.getD_eq_getElem?_getD (l := l), List.getElem?_eq_getElem hj] at h1
        simp only [Option.getD_some] at h1
        rw [h1]
        rfl)
      clear hall
      go_wp2_with fail
      go_ret
      refine ⟨?_, HB.out⟩
      unfold fnI
      rw [HR.out]
      rfl
/-- Those that are reached. -/
def kept (t : List Bool) (l : List Nat) : List Nat := l.filter fun i => t.getD i false
theorem ownI_take {w : World} {base g n c : Nat} {l : List Nat} (h : OwnI w base (.slice (some ⟨g, 0, none⟩) n c) l) (hn : l.length = n) (k : Nat) (hk : k ≤ n) : OwnI w base (.slice (some ⟨g, 0, none⟩) k c) (l.take k) := by
  obtain ⟨h1, h2⟩ := h
  rcases h2 with ⟨e, _⟩ | ⟨g', cap, cur, e, hb, hh, a1, a2, a3, a4⟩
  · cases e
  · injection e with e1 e2 e3
    injection e1 with e1
    injection e1 with e1
    subst e1 e3
    have hlen : (l.take k).length = k := by rw [List.length_take]; omega
    refine ⟨by rw [hlen]; simp [rowI]; omega, .inr ⟨g, c, cur, by rw [hlen], hb, hh, by rw [hlen]; omega, a2, a3, ?_⟩⟩
    rw [hlen]
    have h5 : (cur.toList.take (l.length * 1)).take (k * 1) = (rowI l).take (k * 1) := by rw [a4]
    rw [List.take_take, Nat.min_eq_left (by omega)] at h5
    rw [h5]
    unfold rowI
    rw [List.map_take, Nat.mul_one]
theorem run_clear_ints {w : World} {base g n c i ty : Nat} {l : List Nat} {T : TypeId} (hT : Try.prog.underlying T = some (.slice 3)) (h : OwnI w base (.slice (some ⟨g, 0, none⟩) n c) l) (hn : l.length = n) (hi : i < n) :
    ∃ w', (Builtin.clear_ #[T] ty #[.slice (some ⟨g, i, none⟩) (n - i) (c - i)]).run Try.prog w = .ok (.tuple #[]) w' ∧ OwnI w' base (.slice (some ⟨g, 0, none⟩) n c) (l.take i ++ List.replicate (n - i) 0) ∧ Moves (fun k => k = g) w w' := by
  obtain ⟨h1, h2⟩ := h
  rcases h2 with ⟨e, _⟩ | ⟨g', cap, cur, e, hb, hh, a1, a2, a3, a4⟩
  · cases e
  · injection e with e1 e2 e3
    injection e1 with e1
    injection e1 with e1
    subst e1 e3
    have hz : ∀ w, (zeroValue 3).run Try.prog w = .ok (.int .i64 0) w := fun w => by kernel_rfl
    have hzc : (Builtin.zeroCells (Value.int .i64 0).cells (n - i)).toList = rowI (List.replicate (n - i) 0) := by
      simp [Builtin.zeroCells, Value.cells, rowI]
      apply List.ext_getElem
      · simp
      · intro j h1 h2
        simp [Nat.mod_one]
    have hlr : (rowI (List.replicate (n - i) 0)).length = n - i := by simp [rowI]
    have hst := run_storeCells_at Try.prog g i 3 (rowI (List.replicate (n - i) 0)) 0 cur w hh (by rw [hlr]; omega) (fun u hu => by
      unfold rowI at hu
      obtain ⟨y, _, rfl⟩ := List.mem_map.1 hu
      rfl)
    simp only [Nat.add_zero] at hst
    obtain ⟨m, hm⟩ : ∃ m, n - i = m + 1 := ⟨n - i - 1, by omega⟩
    have hcs : cur.toList.length = c := by rw [Array.length_toList]; omega
    have htk : cur.toList.take i = rowI (l.take i) := by
      have h5 : (cur.toList.take (l.length * 1)).take i = (rowI l).take i := by rw [a4]
      rw [List.take_take, Nat.min_eq_left (by omega)] at h5
      rw [h5]
      unfold rowI
      rw [List.map_take]
    obtain ⟨NC, hNC⟩ : ∃ NC, (cur.toList.take i ++ rowI (List.replicate (n - i) 0) ++ cur.toList.drop (i + (rowI (List.replicate (n - i) 0)).length)).toArray = NC := ⟨_, rfl⟩
    have hNl : NC.toList = rowI (l.take i ++ List.replicate (n - i) 0) ++ cur.toList.drop n := by
      rw [← hNC, htk, hlr]
      unfold rowI
      rw [List.map_append, show i + (n - i) = n by omega]
    have hrl : (rowI (l.take i ++ List.replicate (n - i) 0)).length = n := by unfold rowI; rw [List.length_map, List.length_append, List.length_take, List.length_replicate]; omega
    rw [hNC] at hst
    have hln : (l.take i ++ List.replicate (n - i) 0).length = n := by rw [List.length_append, List.length_take, List.length_replicate]; omega
    refine ⟨w.setRow g NC, ?_, ⟨by rw [hrl, hln]; omega, .inr ⟨g, c, NC, by rw [hln], hb, setRow_heap w g cur NC 3 _ hh, by rw [hln]; omega, a2, ?_, ?_⟩⟩, ⟨rfl, rfl, rfl, by simp [World.setRow], fun k hk hs => setRow_other w g k _ hs⟩⟩
    · unfold Builtin.clear_
      rw [hm] at hst hzc ⊢
      simp [run_underlying hT, hz, hzc, hst]
    · rw [← Array.length_toList, hNl, List.length_append, hrl, List.length_drop]; omega
    · rw [hNl, hln, Nat.mul_one]
      have h6 : ((rowI (l.take i ++ List.replicate (n - i) 0)) ++ cur.toList.drop n).take (rowI (l.take i ++ List.replicate (n - i) 0)).length = rowI (l.take i ++ List.replicate (n - i) 0) := List.take_left
      rw [hrl] at h6
      exact h6
theorem kept_firstNot_none {t : List Bool} {l : List Nat} (h : firstNot t l = none) : kept t l = l := by
  unfold firstNot at h
  rw [List.findIdx?_eq_none_iff] at h
  unfold kept
  rw [List.filter_eq_self]
  intro x hx
  have := h x hx
  simpa using this
theorem kept_firstNot_some {t : List Bool} {l : List Nat} {k : Nat} (h : firstNot t l = some k) : k < l.length ∧ t.getD (l.getD k 0) false = false ∧ kept t (l.take (k + 1)) = l.take k := by
  unfold firstNot at h
  rw [List.findIdx?_eq_some_iff_getElem] at h
  obtain ⟨hk, h1, h2⟩ := h
  have hg : l.getD k 0 = l[k] := by rw [List.getD_eq_getElem?_getD, List.getElem?_eq_getElem hk]; rfl
  have hf : t.getD (l.getD k 0) false = false := by rw [hg]; simpa using h1
  refine ⟨hk, hf, ?_⟩
  rw [take_snoc l k hk]
  unfold kept
  rw [List.filter_append, List.filter_cons, hf]
  simp only [Bool.false_eq_true, if_false, List.filter_nil, List.append_nil]
  rw [List.filter_eq_self]
  intro x hx
  obtain ⟨j, hj, rfl⟩ := List.getElem_of_mem hx
  rw [List.length_take] at hj
  have := h2 j (by omega)
  rw [List.getElem_take]
  simpa using this
theorem kept_take_len (t : List Bool) (l : List Nat) (j : Nat) : (kept t (l.take j)).length ≤ j := by
  unfold kept
  exact Nat.le_trans (List.length_filter_le _ _) (by rw [List.length_take]; omega)
theorem kept_snoc (t : List Bool) (l : List Nat) (j : Nat) (hj : j < l.length) : kept t (l.take (j + 1)) = kept t (l.take j) ++ if t.getD (l.getD j 0) false then [l.getD j 0] else [] := by
  rw [take_snoc l j hj]
  unfold kept
  rw [List.filter_append, List.filter_cons, List.filter_nil]
theorem drop_head {s l : List Nat} {j : Nat} (h : s.drop j = l.drop j) (hs : j < s.length) (hl : j < l.length) : s.getD j 0 = l.getD j 0 ∧ s.drop (j + 1) = l.drop (j + 1) := by
  rw [List.drop_eq_getElem_cons hs, List.drop_eq_getElem_cons hl] at h
  injection h with h1 h2
  exact ⟨by rw [List.getD_eq_getElem?_getD, List.getD_eq_getElem?_getD, List.getElem?_eq_getElem hs, List.getElem?_eq_getElem hl, h1], h2⟩
theorem set_take (s : List Nat) (i x : Nat) (hi : i < s.length) : (s.set i x).take (i + 1) = s.take i ++ [x] := by
  rw [take_snoc _ i (by rw [List.length_set]; exact hi), List.take_set_of_le (Nat.le_refl _), getD_set, if_pos ⟨rfl, hi⟩]
set_option maxHeartbeats 16000000 in
theorem deletefunc_any {w : World} {base p rb n : Nat} {t : List Bool} {v : Value} {l : List Nat} (h : TruthAt w p rb n t) (hv : OwnI w base v l) (hl : ∀ x ∈ l, x < n) (hn : l.length ≤ 1000) :
    Calls Try.prog 33 #[v, .func (.func 34) #[] #[.pointer (some ⟨p, 0, none⟩)]] w fun e w' => ∃ v', e = .returned v' ∧ OwnI w' base v' (kept t l) ∧ Moves (fun k => v.ownBlock = some k) w w' := by
  have H := Lib.hid h
  have HV := Lib.hid hv
  have HL := Lib.hid hl
  have HIF := Lib.hid (indexfunc_any h hv hl hn)
  obtain ⟨A, c, rfl, hcc⟩ := hv.parts
  obtain ⟨m, hm⟩ : ∃ m, l.length = m := ⟨_, rfl⟩
  rw [hm] at HV hn hcc HIF ⊢
  have HM := Lib.hid hm
  have HAP : Hid (∀ k, (Value.slice A m c).ownBlock = some k → k ≠ p ∧ k ≠ rb) := Lib.hid (fun k hk => ⟨fun e => own_not_blk (by decide) h.var HV.out (by rw [hk, e]), fun e => own_not_blk (by decide) h.row HV.out (by rw [hk, e])⟩)
  clear h hv hl hm
  rcases hfn : firstNot t l with _ | i0
  · have hz : fnI t l = -1 := by unfold fnI; rw [hfn]
    rw [hz] at HIF
    have HK := Lib.hid (kept_firstNot_none hfn)
    clear hz hfn
    go_enter Try.func33, Try.ntmps33
    go_wp2_with fail
    refine HIF.out.mono ?_
    rintro e w2 ⟨rfl, hb2⟩
    have HB2 := Lib.hid hb2
    clear hb2
    go_wp2
    go_ret
    rw [HK.out]
    exact ⟨_, rfl, HV.out.under HB2.out, Moves.under HB2.out⟩
  · have hz : fnI t l = (i0 : Int) := by unfold fnI; rw [hfn]
    rw [hz] at HIF
    obtain ⟨hi0, hf0, hk0⟩ := kept_firstNot_some hfn
    rw [HM.out] at hi0
    have HK0 := Lib.hid hk0
    obtain ⟨ra, ca, hra, _, _, _, _⟩ := HV.out.open (i := i0) (by rw [HM.out]; exact hi0)
    injection hra with hr1 hr2 hr3
    subst hr1
    have hne : ¬ (i0 : Int) = -1 := by omega
    clear hz hfn hf0 hk0 hr2 hr3
    go_enter Try.func33, Try.ntmps33
    go_wp2_with fail
    refine HIF.out.mono ?_
    rintro e w2 ⟨rfl, hb2⟩
    have HB2 := Lib.hid hb2
    clear hb2
    go_wp2_with fail
    go_loopg [6, 5] m (fun f' jv iv wx => ∃ (j i : Nat) (s : List Nat), i < j ∧ j ≤ m ∧ m - j ≤ f' ∧ jv = .int .i64 (j : Int) ∧ iv = .int .i64 (i : Int) ∧ Hid (OwnI wx base (.slice (some ⟨ra, 0, none⟩) m c) s) ∧ Hid (s.length = m ∧ s.take i = kept t (l.take j) ∧ s.drop j = l.drop j ∧ (kept t (l.take j)).length = i) ∧ Hid (Moves (fun k => k = ra) w wx))
    case atStart => exact ⟨i0 + 1, i0, l, by omega, by omega, by omega, by go_num, rfl, Lib.hid (HV.out.under HB2.out), Lib.hid ⟨HM.out, HK0.out.symm, rfl, by rw [HK0.out, List.length_take, HM.out]; omega⟩, Lib.hid (Moves.under HB2.out)⟩
    case round =>
      obtain ⟨j, i, s, hij, hj, hfu, hjv, hiv, HO, HS, HMV⟩ := hrel
      subst hjv hiv
      have HT : Hid (TruthAt wr p rb n t) := Lib.hid (H.out.moves HMV.out (fun e => (HAP.out ra rfl).1 e.symm) (fun e => (HAP.out ra rfl).2 e.symm))
      by_cases hjm : j < m
      · have hjI : (j : Int) < (m : Int) := by omega
        have hop := HO.out.open (i := j) (by rw [HS.out.1]; exact hjm)
        rw [HS.out.1] at hop
        obtain ⟨rb2, cb2, hrb, _, _, _, hcell⟩ := hop
        injection hrb with hb1 hb2 hb3
        injection hb1 with hb1
        injection hb1 with hb1
        subst hb1
        have p1 := (hcell j hjm).1
        obtain ⟨hsj, hdj⟩ := drop_head HS.out.2.2.1 (by rw [HS.out.1]; exact hjm) (by rw [HM.out]; exact hjm)
        rw [hsj] at p1
        obtain ⟨x, hx⟩ : ∃ x, l.getD j 0 = x := ⟨_, rfl⟩
        have hks := kept_snoc t l j (by rw [HM.out]; exact hjm)
        have hxn : x < n := HL.out x (by
          rw [← hx, List.getD_eq_getElem?_getD, List.getElem?_eq_getElem (by rw [HM.out]; exact hjm)]
          exact List.getElem_mem _)
        rw [hx] at p1 hks
        have HW := Lib.hid (wanted1_any HT.out x hxn)
        obtain ⟨z, hz⟩ : ∃ z, t.getD x false = z := ⟨_, rfl⟩
        rw [hz] at HW hks
        have HKS := Lib.hid hks
        have HDJ := Lib.hid hdj
        clear hcell hsj hdj hx hks hxn hz hb2 hb3
        rcases z with _ | _
        · have HS2 : Hid (s.length = m ∧ s.take i = kept t (l.take (j + 1)) ∧ s.drop (j + 1) = l.drop (j + 1) ∧ (kept t (l.take (j + 1))).length = i) := Lib.hid (by
            have h1 := HKS.out
            simp only [Bool.false_eq_true, if_false, List.append_nil] at h1
            rw [h1]
            exact ⟨HS.out.1, HS.out.2.1, HDJ.out, HS.out.2.2.2⟩)
          clear HKS
          go_wp2_with fail
          refine HW.out.mono ?_
          rintro e w3 ⟨rfl, hb3⟩
          have HO3 := Lib.hid (HO.out.under hb3)
          have HM3 := Lib.hid (HMV.out.trans (Moves.under hb3))
          clear hb3
          go_wp2_with fail
          go_roundg (m - (j + 1))
          case measure => omega
          case rel => exact ⟨j + 1, i, s, by omega, hjm, by omega, by go_num, rfl, HO3, HS2, HM3⟩
        · have hil : i < s.length := by rw [HS.out.1]; omega
          have HS2 : Hid ((s.set i x).length = m ∧ (s.set i x).take (i + 1) = kept t (l.take (j + 1)) ∧ (s.set i x).drop (j + 1) = l.drop (j + 1) ∧ (kept t (l.take (j + 1))).length = i + 1) := Lib.hid (by
            have h1 := HKS.out
            simp only [if_true] at h1
            rw [h1]
            refine ⟨by rw [List.length_set]; exact HS.out.1, by rw [set_take s i x hil, HS.out.2.1], by rw [List.drop_set_of_lt (by omega)]; exact HDJ.out, by rw [List.length_append, HS.out.2.2.2]; rfl⟩)
          have hiI : (i : Int) < (m : Int) := by omega
          clear HKS hil
          go_wp2_with fail
          refine HW.out.mono ?_
          rintro e w3 ⟨rfl, hb3⟩
          have HO3 := Lib.hid (HO.out.under hb3)
          have HM3 := Lib.hid (HMV.out.trans (Moves.under hb3))
          have hop3 := HO3.out.open (i := i) (by rw [HS.out.1]; omega)
          rw [HS.out.1] at hop3
          obtain ⟨rb3, cb3, hrb3, _, _, _, hcell3⟩ := hop3
          injection hrb3 with hb31 hb32 hb33
          injection hb31 with hb31
          injection hb31 with hb31
          subst hb31
          have p3 := (hcell3 i (by omega)).1
          have f3 := (hcell3 i (by omega)).2
          have HO4 := Lib.hid (HO3.out.set i x)
          have HM4 : Hid (Moves (fun k => k = ra) w (w3.setCell ⟨ra, i, none⟩ (.int .i64 (x : Int)))) := Lib.hid (HM3.out.trans (Moves.setCell w3 ⟨ra, i, none⟩ (.int .i64 (x : Int))))
          clear hb3 hcell3 hb32 hb33
          go_wp2_with fail
          go_roundg (m - (j + 1))
          case measure => omega
          case rel => exact ⟨j + 1, i + 1, _, by omega, hjm, by omega, by go_num, by go_num, HO4, HS2, HM4⟩
      · obtain rfl : m = j := by omega
        have hjI : ¬ (m : Int) < (m : Int) := by omega
        have hiI : (i : Int) ≤ (m : Int) := by omega
        have hci : ¬ c = i := by omega
        obtain ⟨w5, hcl, ho5, hm5⟩ := run_clear_ints (i := i) (ty := 0) (T := 22) Try.underlying22 HO.out HS.out.1 hij
        have HFIN : Hid (OwnI w5 base (.slice (some ⟨ra, 0, none⟩) i c) (kept t l)) := Lib.hid (by
          have hln : (s.take i ++ List.replicate (m - i) 0).length = m := by rw [List.length_append, List.length_take, List.length_replicate, HS.out.1]; omega
          have h1 := ownI_take ho5 hln i (by omega)
          rw [List.take_left' (by rw [List.length_take, HS.out.1]; omega), HS.out.2.1, List.take_of_length_le (by rw [HM.out]; exact Nat.le_refl _)] at h1
          exact h1)
        have HMF := Lib.hid (HMV.out.trans hm5)
        clear ho5 hm5
        go_wp2_with fail
        go_ret
        exact ⟨_, rfl, HFIN.out, HMF.out.wide fun k _ e => by rw [e]; rfl⟩
end Go.Proofs.Ytemliglhippdcaa

/- What is reached stays within the rules. -/
namespace Go.Proofs.Ytemliglhippdcaa
set_option maxRecDepth 100000
open Go.ChangeShapes Go.WideShapes Go.ChangeAt Go.RowKit Go.Shelf Go.ChangeMaps

theorem addL_all {P : Nat → Prop} : ∀ (xs l : List Nat), (∀ x ∈ l, P x) → (∀ x ∈ xs, P x) → ∀ x ∈ addL l xs, P x
  | [], l, h, _, x, hx => h x hx
  | y :: xs, l, h, h2, x, hx => by
    unfold addL at hx
    rw [List.foldl_cons] at hx
    split at hx
    · exact addL_all xs l h (fun z hz => h2 z (by simp [hz])) x hx
    · refine addL_all xs (l ++ [y]) (fun z hz => ?_) (fun z hz => h2 z (by simp [hz])) x hx
      rcases List.mem_append.1 hz with hz | hz
      · exact h z hz
      · simp at hz; subst hz; exact h2 z (by simp)
theorem addL_nd : ∀ (xs l : List Nat), l.Nodup → (addL l xs).Nodup
  | [], l, h => h
  | y :: xs, l, h => by
    unfold addL
    rw [List.foldl_cons]
    split
    · exact addL_nd xs l h
    · rename_i hy
      refine addL_nd xs (l ++ [y]) ?_
      rw [List.nodup_append]
      refine ⟨h, by simp, fun a ha b hb e => ?_⟩
      simp at hb
      subst hb
      subst e
      exact hy ha
theorem rs_all {f : Nat → List Nat} {T : List Nat} {P : Nat → Prop} (hT : ∀ x ∈ T, P x) (hf : ∀ x, P x → ∀ y ∈ f x, P y) : ∀ k, ∀ x ∈ Gr.rs f T k, P x
  | 0 => hT
  | k + 1 => by
    intro x hx
    unfold Gr.rs at hx
    split at hx
    · rename_i hk
      have h1 := rs_all hT hf k
      refine addL_all _ _ h1 (fun y hy => hf _ (h1 _ ?_) y hy) x hx
      rw [List.getD_eq_getElem?_getD, List.getElem?_eq_getElem hk]
      exact List.getElem_mem _
    · exact rs_all hT hf k x hx
theorem rs_nd {f : Nat → List Nat} {T : List Nat} (hT : T.Nodup) : ∀ k, (Gr.rs f T k).Nodup
  | 0 => hT
  | k + 1 => by
    unfold Gr.rs
    split
    · exact addL_nd _ _ (rs_nd hT k)
    · exact rs_nd hT k
theorem rs_le {f : Nat → List Nat} {T : List Nat} {n : Nat} (hT : ∀ x ∈ T, x < n) (hn : T.Nodup) (hf : ∀ x, x < n → ∀ y ∈ f x, y < n) (k : Nat) : (Gr.rs f T k).length ≤ n := Gr.nodup_len (rs_nd hn k) (rs_all hT hf k)
/-- The truths of those that have been gone through. -/
def marks (n : Nat) (R : List Nat) : List Bool := (List.range n).map fun i => decide (i ∈ R)
theorem marks_len (n : Nat) (R : List Nat) : (marks n R).length = n := by simp [marks]
theorem marks_get (n : Nat) (R : List Nat) (i : Nat) (hi : i < n) : (marks n R).getD i false = decide (i ∈ R) := by
  unfold marks
  rw [List.getD_eq_getElem?_getD, List.getElem?_map, List.getElem?_range hi]
  rfl
theorem marks_nil (n : Nat) : marks n [] = List.replicate n false := by
  unfold marks
  apply List.ext_getElem
  · simp
  · intro i h1 h2
    simp
theorem marks_snoc (n : Nat) (R : List Nat) (x : Nat) : marks n (R ++ [x]) = (marks n R).set x true := by
  apply List.ext_getElem
  · simp [marks]
  · intro i h1 h2
    rw [List.getElem_set]
    simp only [marks, List.getElem_map, List.getElem_range]
    by_cases e : x = i
    · subst e; simp
    · have e' : ¬ i = x := fun q => e q.symm
      simp [e, e']
/-- What is wanted for some names, in the rules' order. -/
def wantedG (R : List Mn.Rule) (names : List (List Nat)) : List Nat :=
  kept (marks R.length (Gr.rs (aheadF R (mkM R R.length)) (addL [] (ofM (mkM R R.length) names)) R.length)) ((rulesF R R.length R.length []).getD [])
end Go.Proofs.Ytemliglhippdcaa

/- Package grph: what is wanted for some names. -/
namespace Go.Proofs.Ytemliglhippdcaa
set_option maxRecDepth 100000
open Go.ChangeShapes Go.WideShapes Go.ChangeAt Go.RowKit Go.Shelf Go.ChangeMaps

attribute [local go_sem] Oper.semAt_some

/-- What of some names is asked. -/
structure FineN (R : List Mn.Rule) (l : List (List Nat)) : Prop where
  len : l.length ≤ 1000000
  ok : ∀ s ∈ l, (∀ c ∈ s, c < 256) ∧ s.length ≤ 1000000
  of : (ofM (mkM R R.length) l).length ≤ 1000
/-- What Wanted tells. -/
def wantedF (R : List Mn.Rule) (dflt names : List (List Nat)) : List Nat :=
  if names = [] then if dflt = [] then (rulesF R R.length R.length []).getD [] else wantedG R dflt else wantedG R names
theorem infoBool' : (Try.prog.info? 4).map (fun i => (i.zero, i.size, i.bytes)) = some (some (.bool false), 1, 1) := by kernel_rfl
theorem made_bools' (n : Nat) : madeCells #[.bool false] n = ((List.replicate n false).map Value.bool).toArray := by
  apply Array.toList_inj.1
  rw [toList_madeCells_one, List.map_replicate]
theorem rulesF_lt (R : List Mn.Rule) : ∀ x ∈ (rulesF R R.length R.length []).getD [], x < R.length := by
  rw [ord_is]
  split
  · simp
  · exact Gr.ord_small _ _
theorem rulesF_len (R : List Mn.Rule) : ((rulesF R R.length R.length []).getD []).length ≤ R.length := by
  rw [ord_is]
  split
  · simp
  · exact Gr.ord_len _ _
set_option maxHeartbeats 16000000 in
theorem wantedsome_any {w : World} {A : Option Addr} {n c : Nat} {dA : Option Addr} {dn dc : Nat} {R0 : List Mn.Rule} {nv : Value} {dflt NM : List (List Nat)} (hr : SlR w (.slice A n c) R0) (hn : R0.length = n) (hF : FineR R0) (hd : SlT w (.slice dA dn dc) dflt) (hnv : RdS w nv NM) (hfd : FineN R0 dflt) (hfn : FineN R0 NM) :
    Calls Try.prog 9 #[.agg #[.slice A n c, .slice dA dn dc], nv] w fun e w' => ∃ v, e = .returned v ∧ OwnI w' w.heap.size v (wantedF R0 dflt NM) ∧ Below w.heap.size w w' := by
  have HR := Lib.hid hr
  have HNN := Lib.hid hn
  have HF := Lib.hid hF
  have HD := Lib.hid hd
  have HNV := Lib.hid hnv
  have HFD := Lib.hid hfd
  have HFN := Lib.hid hfn
  have hnB : n ≤ 1000 := by rw [← hn]; exact hF.n
  obtain ⟨An, cn, hnve, _⟩ := hnv
  obtain ⟨nn, hnn⟩ : ∃ q, NM.length = q := ⟨_, rfl⟩
  rw [hnn] at hnve
  subst hnve
  have HNM := Lib.hid hnn
  clear hr hn hF hd hfd hfn hnn
  refine (callsIn_wide (n := 0)).1 (callsIn_of_wp_marks Try.func9 rfl trivial (wpIn_wide.2 ?_) rfl)
  simp only [Try.ntmps9, List.size_toArray, List.length_cons, List.length_nil, Nat.reduceAdd, Nat.reduceSub, Array.replicate_succ, Array.replicate_zero, List.push_toArray, List.append_toArray, List.nil_append, List.cons_append]
  go_upto_region 1 with fail
  obtain ⟨w1, hw1⟩ : ∃ W, w.alloc (.cells #[.slice A n c, .slice dA dn dc] 26) = W := ⟨_, rfl⟩
  obtain ⟨p, hp⟩ : ∃ p, w.heap.size = p := ⟨_, rfl⟩
  have hbx : Blk w1 p 26 #[.slice A n c, .slice dA dn dc] := by rw [← hw1, ← hp]; exact heap_alloc_new w _
  have HB1 : Hid (Below w.heap.size w w1) := Lib.hid (by rw [← hw1]; exact (Below.refl _ _).alloc (Nat.le_refl _) _)
  have HBX := Lib.hid hbx
  have a0 : w1.cell? ⟨p, 0, none⟩ = some (.slice A n c) := hbx.at 0
  have a1 : w1.cell? ⟨p, 1, none⟩ = some (.slice dA dn dc) := hbx.at 1
  rw [hw1, hp]
  have HPW := Lib.hid hp
  clear hw1 hp hbx
  go_wp2_with fail
  refine (grules_any (dA := dA) (dn := dn) (dc := dc) (HR.out.under HB1.out) HNN.out HF.out).mono ?_
  rintro e w2 ⟨⟨v1, rfl, ho1⟩, hb2⟩
  obtain ⟨O, hO⟩ : ∃ O, (rulesF R0 R0.length R0.length []).getD [] = O := ⟨_, rfl⟩
  have HOE := Lib.hid hO
  have HOL : Hid (∀ x ∈ O, x < n) := Lib.hid (by rw [← hO, ← HNN.out]; exact rulesF_lt R0)
  have HON : Hid (O.length ≤ 1000) := Lib.hid (by have h1 := rulesF_len R0; rw [hO, HNN.out] at h1; omega)
  rw [hO] at ho1
  obtain ⟨A1, c1, hv1, _⟩ := ho1.parts
  obtain ⟨n1, hn1⟩ : ∃ q, O.length = q := ⟨_, rfl⟩
  rw [hn1] at hv1
  subst hv1
  have HO1 := Lib.hid ho1
  have HB12 := Lib.hid hb2
  have HB2 := Lib.hid (HB1.out.trans (hb2.mono HB1.out.size))
  have HBX2 := Lib.hid (HBX.out.under hb2)
  have b0 : w2.cell? ⟨p, 0, none⟩ = some (.slice A n c) := HBX2.out.at 0
  have b1 : w2.cell? ⟨p, 1, none⟩ = some (.slice dA dn dc) := HBX2.out.at 1
  clear ho1 hb2 hO hn1 a0 a1
  obtain ⟨NM2, hNM2⟩ : ∃ q, (if NM = [] then dflt else NM) = q := ⟨_, rfl⟩
  have HWF : Hid (wantedF R0 dflt NM = if NM2 = [] then O else wantedG R0 NM2) := Lib.hid (by
    unfold wantedF
    rw [HOE.out, ← hNM2]
    by_cases e : NM = []
    · simp [e]
    · simp [e])
  have HF2 : Hid (FineN R0 NM2) := Lib.hid (by rw [← hNM2]; split; exact HFD.out; exact HFN.out)
  have HE2 := Lib.hid hNM2
  clear hNM2
  go_upto_if 17 with fail
  go_cut [1] from 15 to 19 (fun s1 wx => Hid (RdS w s1 NM2) ∧ wx = w2)
  case first =>
    by_cases hne : NM = []
    · have hn0 : nn = 0 := by rw [← HNM.out, hne]; rfl
      subst hn0
      go_wp2_with fail
      go_meet
      exact ⟨Lib.hid (by rw [← HE2.out, if_pos hne]; exact HD.out.rdS), rfl⟩
    · have hn0 : ¬ (nn : Int) = 0 := by
        intro e
        have e2 : nn = 0 := by omega
        rw [← HNM.out] at e2
        exact hne (List.eq_nil_of_length_eq_zero e2)
      go_wp2_with fail
      go_meet
      exact ⟨Lib.hid (by rw [← HE2.out, if_neg hne]; exact HNV.out), rfl⟩
  case rest =>
    obtain ⟨HN2, hw3⟩ := hcut
    subst hw3
    obtain ⟨w2, rfl⟩ : ∃ wx : World, wx = wc := ⟨_, rfl⟩
    obtain ⟨A2, c2, h2, _⟩ := HN2.out
    obtain ⟨n2, hn2⟩ : ∃ q, NM2.length = q := ⟨_, rfl⟩
    rw [hn2] at h2
    subst h2
    have HNM2 := Lib.hid hn2
    clear hn2
    by_cases hne : NM2 = []
    · have hn0 : n2 = 0 := by rw [← HNM2.out, hne]; rfl
      subst hn0
      go_wp2_with fail
      refine ⟨_, results_tmp rfl _ _ _, ?_⟩
      rw [HWF.out, if_pos hne]
      exact ⟨_, rfl, World.ownsRow.mono HO1.out HB1.out.size, HB2.out⟩
    · have hn0 : ¬ (n2 : Int) = 0 := by
        intro e
        have e2 : n2 = 0 := by omega
        rw [← HNM2.out] at e2
        exact hne (List.eq_nil_of_length_eq_zero e2)
      have HNE := Lib.hid hne
      clear hne
      go_wp2_with fail
      refine (makers_any 1000 (HR.out.under HB2.out) HF.out.n HF.out.small HF.out.outs (Nat.le_refl _) HF.out.outsl ⟨_, _, _, rfl⟩).mono ?_
      rintro e w3 ⟨mb, nm, f, rfl, hmk, hb3⟩
      rw [HNN.out] at hmk
      have HMK3 := Lib.hid hmk
      have HB3 := Lib.hid (HB2.out.trans (hb3.mono HB2.out.size))
      have HO3 := Lib.hid (HO1.out.under hb3)
      have HBX3 := Lib.hid (HBX2.out.under hb3)
      have HB13 := Lib.hid (HB12.out.trans (hb3.mono HB12.out.size))
      have d0 : w3.cell? ⟨p, 0, none⟩ = some (.slice A n c) := HBX3.out.at 0
      have hmk1 := fun W => run_make_row' (P := Try.prog) 77 4 (.bool false) 1 Try.underlying77 infoBool' rfl .i64 .i64 n (by omega) (by omega) W
      clear hmk hb3 b0 b1
      go_upto_region 8 with fail
      obtain ⟨ws, hws⟩ : ∃ W, (w3.alloc (.cells (madeCells #[.bool false] n) 4)).alloc (.cells #[.slice (some ⟨w3.heap.size, 0, none⟩) n n] 77) = W := ⟨_, rfl⟩
      obtain ⟨rb, hrb⟩ : ∃ q, w3.heap.size = q := ⟨_, rfl⟩
      have HBS : Hid (Below w3.heap.size w3 ws) := Lib.hid (by rw [← hws]; exact ((Below.refl _ _).alloc (Nat.le_refl _) _).alloc (by simp) _)
      have HTR : Hid (TruthAt ws (rb + 1) rb n (marks n [])) := Lib.hid (by
        rw [← hws, ← hrb, made_bools', marks_nil]
        have h1 := heap_alloc_new (w3.alloc (.cells ((List.replicate n false).map Value.bool).toArray 4)) (.cells #[.slice (some ⟨w3.heap.size, 0, none⟩) n n] 77)
        rw [World.size_alloc] at h1
        exact ⟨h1, Blk.alloc (heap_alloc_new w3 _) _, by simp⟩)
      have HRB : Hid (w3.heap.size = rb) := Lib.hid hrb
      obtain ⟨pt, hpt⟩ : ∃ q, rb + 1 = q := ⟨_, rfl⟩
      have HPT := Lib.hid hpt
      rw [hws, hrb, hpt]
      rw [hpt] at HTR
      rw [hrb] at HBS
      have HSZ : Hid (ws.heap.size = rb + 2) := Lib.hid (by rw [← hws, ← HRB.out]; simp)
      have HMK : Hid (MkIn ws w2.heap.size mb nm f (mkM R0 n)) := Lib.hid (HMK3.out.under (by rw [HRB.out]; exact HBS.out))
      have HMK3S : Hid (MkIn w3 w2.heap.size mb nm f (mkM R0 n)) := HMK3
      have HB3S : Hid (Below w.heap.size w ws) := Lib.hid (HB3.out.trans (HBS.out.mono (by rw [← HRB.out]; exact HB3.out.size)))
      have p0 : ws.cell? ⟨p, 0, none⟩ = some (.slice A n c) := by
        have h1 := HBX3.out.under (show Below w3.heap.size w3 ws by rw [HRB.out]; exact HBS.out)
        exact h1.at 0
      have p1 : ws.cell? ⟨p, 1, none⟩ = some (.slice dA dn dc) := by
        have h1 := HBX3.out.under (show Below w3.heap.size w3 ws by rw [HRB.out]; exact HBS.out)
        exact h1.at 1
      have HNS : Hid (RdS ws (.slice A2 n2 c2) NM2) := Lib.hid (HN2.out.under HB3S.out)
      have HNL := Lib.hid HF2.out.len
      have HNO := Lib.hid HF2.out.ok
      obtain ⟨M, hM⟩ : ∃ M, mkM R0 n = M := ⟨_, rfl⟩
      have HOL2 : Hid ((ofM M NM2).length ≤ 1000) := Lib.hid (by have h1 := HF2.out.of; rw [HNN.out, hM] at h1; exact h1)
      have HOM : Hid ((ofM M NM2).length ≤ 1000000) := Lib.hid (by have := HOL2.out; omega)
      have HME := Lib.hid hM
      rw [hM] at HMK HMK3S
      have HXD : Hid (Below ws.heap.size ws ws.drew) := Lib.hid ((Below.refl ws.heap.size ws).drew)
      clear hws hrb hpt hM d0 hmk1 HMK3
    -- REGION8
      refine wp_region_noPanic ?_
      refine wp_region_held_drew (S := fun w' => w'.cell? ⟨p, 0, none⟩ = some (.slice A n c) ∧ w'.cell? ⟨p, 1, none⟩ = some (.slice dA dn dc)) (by kernel_rfl) (⟨p0, p1⟩) (fun hHeld => ?_)
      refine takeW 0 (some 30) (oi := ?oT1) (v := ?vT1) ?hiT1 ?hdT1 (by kernel_rfl) (by kernel_rfl) (by kernel_rfl) (fun _ _ _ h => h) ?hwT1 ?hyT1 hHeld ?_
      case hiT1 => (simp only [List.getElem?_toArray, List.getElem?_cons_zero]; with_reducible rfl)
      case hdT1 => rfl
      case hwT1 => rfl
      case hyT1 => (intro w hSw; (try dsimp only at hSw); go_simp; first | done | with_reducible rfl)
      try simp only [Act.put]
      try simp only [List.setIfInBounds_toArray, List.set_cons_zero, List.set_cons_succ]
      refine takeW 1 (some 31) (oi := ?oT2) (v := ?vT2) ?hiT2 ?hdT2 (by kernel_rfl) (by kernel_rfl) (by kernel_rfl) (fun _ _ _ h => h) ?hwT2 ?hyT2 hHeld ?_
      case hiT2 => (simp only [List.getElem?_toArray, List.getElem?_cons_succ, List.getElem?_cons_zero]; with_reducible rfl)
      case hdT2 => rfl
      case hwT2 => rfl
      case hyT2 => (intro w hSw; (try dsimp only at hSw); go_simp; first | done | with_reducible rfl)
      try simp only [Act.put]
      try simp only [List.setIfInBounds_toArray, List.set_cons_zero, List.set_cons_succ]
      refine takeW 3 (some 33) (oi := ?oT3) (v := ?vT3) ?hiT3 ?hdT3 (by kernel_rfl) (by kernel_rfl) (by kernel_rfl) (fun _ _ _ h => h) ?hwT3 ?hyT3 hHeld ?_
      case hiT3 => (simp only [List.getElem?_toArray, List.getElem?_cons_succ, List.getElem?_cons_zero]; with_reducible rfl)
      case hdT3 => rfl
      case hwT3 => rfl
      case hyT3 => (intro w hSw; (try dsimp only at hSw); go_simp; first | done | with_reducible rfl)
      try simp only [Act.put]
      try simp only [List.setIfInBounds_toArray, List.set_cons_zero, List.set_cons_succ]
      refine takeW 4 (some 34) (oi := ?oT4) (v := ?vT4) ?hiT4 ?hdT4 (by kernel_rfl) (by kernel_rfl) (by kernel_rfl) (fun _ _ _ h => h) ?hwT4 ?hyT4 hHeld ?_
      case hiT4 => (simp only [List.getElem?_toArray, List.getElem?_cons_succ, List.getElem?_cons_zero]; with_reducible rfl)
      case hdT4 => rfl
      case hwT4 => rfl
      case hyT4 => (intro w hSw; (try dsimp only at hSw); go_simp; first | done | with_reducible rfl)
      try simp only [Act.put]
      try simp only [List.setIfInBounds_toArray, List.set_cons_zero, List.set_cons_succ]
      refine stepOne 2 (o := ?oT5) ?hiT5 (by kernel_rfl) ?hwT5 (fun K hK => ?_)
      case hiT5 => (simp only [List.getElem?_toArray, List.getElem?_cons_succ, List.getElem?_cons_zero]; with_reducible rfl)
      case hwT5 => rfl
      go_simp
      go_at_call 31
      refine (of_any (HMK.out.under HXD.out) (HNS.out.under HXD.out) HNL.out HNO.out HOM.out).mono ?_
      rintro e w5 ⟨v5, rfl, ho5, hb5⟩
      have HX5 : Hid (Below ws.heap.size ws w5) := Lib.hid (HXD.out.trans (hb5.mono HXD.out.size))
      have HO5 := Lib.hid ho5
      have HZ5 : Hid (ws.drew.heap.size ≤ w5.heap.size) := Lib.hid hb5.size
      obtain ⟨A5, c5, hv5, _⟩ := ho5.parts
      obtain ⟨n5, hn5⟩ : ∃ q, (ofM M NM2).length = q := ⟨_, rfl⟩
      rw [hn5] at hv5
      have HN5 : Hid (n5 ≤ 1000) := Lib.hid (by rw [← hn5]; exact HOL2.out)
      subst hv5
      clear ho5 hb5 hn5
      refine hK.out _ _ ?_ (fun hHeld => ?_)
      · exact ⟨cell_later HX5.out p0, cell_later HX5.out p1⟩
      clear hK K
      try simp only [Act.put]
      try simp only [List.setIfInBounds_toArray, List.set_cons_zero, List.set_cons_succ]
      refine stepOne 5 (o := ?oT6) ?hiT6 (by kernel_rfl) ?hwT6 (fun K hK => ?_)
      case hiT6 => (simp only [List.getElem?_toArray, List.getElem?_cons_succ, List.getElem?_cons_zero]; with_reducible rfl)
      case hwT6 => rfl
      go_simp
      go_at_call 32
      refine (aheadin_any A n c dA dn dc mb).mono ?_
      rintro e w6 ⟨rfl, hp6, hq6, hb6, hs6⟩
      have HX6 : Hid (Below ws.heap.size ws w6) := Lib.hid (HX5.out.trans (hb6.mono HX5.out.size))
      have HO6 := Lib.hid (HO5.out.under hb6)
      have HP6 := Lib.hid hp6
      have HQ6 := Lib.hid hq6
      have HS6 : Hid (w6.heap.size = w5.heap.size + 2) := Lib.hid hs6
      clear hp6 hq6 hb6 hs6
      refine hK.out _ _ ?_ (fun hHeld => ?_)
      · exact ⟨cell_later HX6.out p0, cell_later HX6.out p1⟩
      clear hK K
      try simp only [Act.put]
      try simp only [List.setIfInBounds_toArray, List.set_cons_zero, List.set_cons_succ]
      refine stepOne 6 (o := ?oT7) ?hiT7 (by kernel_rfl) ?hwT7 (fun K hK => ?_)
      case hiT7 => (simp only [List.getElem?_toArray, List.getElem?_cons_succ, List.getElem?_cons_zero]; with_reducible rfl)
      case hwT7 => rfl
      go_simp
      go_at_call 20
      refine (reach_any 56 #[.pointer (some ⟨w5.heap.size + 1, 0, none⟩), .pointer (some ⟨w5.heap.size, 0, none⟩)] HO6.out.rdN (by have h1 := HO6.out.1; have h2 := HOL2.out; omega)).mono ?_
      rintro e w7 ⟨p7, q7, v7, rfl, hr7, hp7, hq7, hb7⟩
      have HX7 : Hid (Below ws.heap.size ws w7) := Lib.hid (HX6.out.trans (hb7.mono HX6.out.size))
      have HR7 := Lib.hid hr7
      have HP7 := Lib.hid (HP6.out.under hb7)
      have HQ7 := Lib.hid (HQ6.out.under hb7)
      have HB7 := Lib.hid hb7
      have HPG := Lib.hid hp7
      have HQG := Lib.hid hq7
      clear hr7 hp7 hq7 hb7
      refine hK.out _ _ ?_ (fun hHeld => ?_)
      · exact ⟨cell_later HX7.out p0, cell_later HX7.out p1⟩
      clear hK K
      try simp only [Act.put]
      try simp only [List.setIfInBounds_toArray, List.set_cons_zero, List.set_cons_succ]
      refine wpAnyH_done (by kernel_rfl) ?_ _
      refine NoPanic.normal ?_
      skip
    -- END8
      obtain ⟨G, hG⟩ : ∃ G : Nat → Prop, (fun j => j < w3.heap.size ∨ j = w5.heap.size ∨ j = w5.heap.size + 1) = G := ⟨_, rfl⟩
      have HG : Hid (∀ j, G j ↔ (j < w3.heap.size ∨ j = w5.heap.size ∨ j = w5.heap.size + 1)) := Lib.hid (fun j => by rw [← hG])
      clear hG
      have HLT : Hid (∀ x, x < n → ∀ y ∈ aheadF R0 M x, y < n) := Lib.hid (fun x hx y hy => by
        rw [← HME.out] at hy
        exact ((aheadF_mem R0 n x y).1 hy).1)
      have HOT : Hid (∀ x ∈ addL [] (ofM M NM2), x < n) := Lib.hid (addL_all _ _ (by simp) (fun x hx => by
        rw [← HME.out] at hx
        obtain ⟨s, _, hs⟩ := List.mem_flatMap.1 hx
        exact ((mkM_mem R0 s x n).1 hs).1))
      have HLE := Lib.hid (rs_le HOT.out (addL_nd _ _ (by simp)) HLT.out n)
      have HDD := Lib.hid (rs_all (f := aheadF R0 M) HOT.out HLT.out n)
      have HFB : Hid (∀ x ∈ Gr.rs (aheadF R0 M) (addL [] (ofM M NM2)) n, (aheadF R0 M x).length ≤ 1000) := Lib.hid (fun x hx => by
        rw [← HME.out]
        exact HF.out.fine n HNN.out.symm x (HDD.out x hx))
      have HS37 : Hid (Same w3 w7) := Lib.hid (Same.of ((show Below w3.heap.size w3 ws by rw [HRB.out]; exact HBS.out).trans (HX7.out.mono (by rw [HSZ.out, ← HRB.out]; omega))))
      have HZ57 : Hid (w3.heap.size ≤ w5.heap.size ∧ w5.heap.size + 2 ≤ w6.heap.size ∧ w6.heap.size ≤ w7.heap.size ∧ rb + 2 ≤ w5.heap.size) := Lib.hid (by
        have h1 := HX5.out.size
        have h2 := HSZ.out
        have h3 := HRB.out
        have h4 := HS6.out
        have h5 := HB7.out.size
        omega)
      have HA : Hid (AheadG w7 G 56 #[.pointer (some ⟨w5.heap.size + 1, 0, none⟩), .pointer (some ⟨w5.heap.size, 0, none⟩)] (aheadF R0 M) (fun x => x < n)) := Lib.hid (by
        refine ⟨enters_of Try.func56 (by kernel_rfl) rfl, fun j hj => ?_, fun x wx hx he hs => ?_⟩
        · have h1 := HZ57.out
          rcases (HG.out j).1 hj with h | h | h <;> omega
        · have hsm : Same w3 wx := ⟨Nat.le_trans HS37.out.1 hs, fun j hj => (he j ((HG.out j).2 (.inl hj))).trans (HS37.out.2 j hj)⟩
          have hfx := HF.out.fine n HNN.out.symm x hx
          rw [HME.out] at hfx
          have hrx : SlR wx (.slice A n c) R0 := (HR.out.under HB3.out).eq hsm
          refine (ahead1_any (dA := dA) (dn := dn) (dc := dc) hrx HNN.out hx hnB HF.out.small HF.out.needsl (HMK3S.out.eq hsm) ((he _ ((HG.out _).2 (.inr (.inl rfl)))).trans HP7.out) ((he _ ((HG.out _).2 (.inr (.inr rfl)))).trans HQ7.out) (by omega) (HF.out.lens x)).mono ?_
          rintro e w' ⟨v', rfl, ho, hb'⟩
          exact ⟨v', rfl, ho.rdN, fun k hk => .inr (ho.lt k hk), hb'⟩)
      obtain ⟨R, hR⟩ : ∃ R, Gr.rs (aheadF R0 M) (addL [] (ofM M NM2)) n = R := ⟨_, rfl⟩
      have HRE := Lib.hid hR
      have HIT := Lib.hid (reach_iter n HR7.out HA.out HOL2.out HLE.out hnB HDD.out HFB.out)
      rw [hR] at HIT HLE HDD
      clear hR HFB
      have HTR7 : Hid (TruthAt w7 pt rb n (marks n [])) := Lib.hid (HTR.out.under HX7.out)
      have HPT2 : Hid (pt < w7.heap.size ∧ rb < w7.heap.size ∧ pt ≠ rb) := Lib.hid (by have h1 := HZ57.out; have h2 := HPT.out; omega)
      have HF0 : Hid (∀ j, ReachReads p7 q7 v7 G j → j < w7.heap.size ∧ j ≠ rb) := Lib.hid (fun j hj => by
        have h1 := HZ57.out
        have h2 := HPG.out
        have h3 := HQG.out
        have h4 := HRB.out
        rcases hj with rfl | rfl | hj | hj
        · exact ⟨HR7.out.from'.size, by omega⟩
        · exact ⟨HR7.out.fn.size, by omega⟩
        · have h5 := HR7.out.row.lt j hj
          omega
        · rcases (HG.out j).1 hj with h | h | h <;> omega)
      clear hHeld
      go_wp2_with fail
      refine wp_rangeH (brk := 0) (gf := 46) (lb := #[.pointer (some ⟨p7, 0, none⟩), .pointer (some ⟨q7, 0, none⟩)]) rfl (enters_of Try.func46 (by kernel_rfl) rfl)
        HIT.out (Nat.le_refl _) (fun j hj => ⟨(HF0.out j hj).1, rfl⟩) (fun _ => rfl)
        (fun k F W => TruthAt W pt rb n (marks n (R.take k)) ∧ Moves (fun j => j = rb) w7 W) (fun _ => False) ?hI (fun _ _ _ _ h => h.elim) ?hmono ⟨by simpa using HTR7.out, Moves.refl _ _⟩
        (fun x => { tmps := #[.agg #[.slice A n c, .slice dA dn dc], .slice A2 n2 c2, .pointer (some ⟨p, 0, none⟩), undef, .slice none 0 0, .slice A1 n1 c1, .bool (rulesF R0 R0.length R0.length []).isSome, .map (some mb), .pointer (some ⟨pt, 0, none⟩), .int .i64 (x : Int),
          .tuple #[.slice A1 n1 c1, .bool (rulesF R0 R0.length R0.length []).isSome], .agg #[.slice A n c, .slice dA dn dc], .tuple #[.slice A1 n1 c1, .bool (rulesF R0 R0.length R0.length []).isSome], .slice A1 n1 c1, .bool (rulesF R0 R0.length R0.length []).isSome, u15, u16, u17, u18, u19,
          .slice A2 n2 c2, .int .i64 (n2 : Int), .bool false, undef, .agg #[.slice A n c, .slice dA dn dc], .map (some mb), .pointer (some ⟨p, 0, none⟩), .slice A n c, .int .i64 (n : Int), .slice (some ⟨rb, 0, none⟩) n n, .map (some mb), .slice A2 n2 c2, .slice A5 n5 c5, .agg #[.slice A n c, .slice dA dn dc], .map (some mb),
          .func (.func 56) #[] #[.pointer (some ⟨w5.heap.size + 1, 0, none⟩), .pointer (some ⟨w5.heap.size, 0, none⟩)], .func (.func 46) #[] #[.pointer (some ⟨p7, 0, none⟩), .pointer (some ⟨q7, 0, none⟩)], .int .i64 (x : Int), undef, undef, undef, undef, undef, undef], defers := [] })
        ?assign ?body ?done (fun _ _ _ h => h.elim)
      case hI =>
        intro F k A' B' row h hg hr
        have hmv := Moves.grown hg
        refine ⟨h.1.moves hmv (fun e => ?_) (fun e => ?_), h.2.then hmv fun i hi e => ?_⟩
        · have h1 := (hr _ e).1
          have h2 := HPT2.out
          omega
        · have h1 := (hr _ e).1
          have h2 := HPT2.out
          omega
        · have h1 := (hr _ e).1
          omega
      case hmono =>
        intro k F A' B' hF h hmv
        refine ⟨h.1.moves hmv (fun e => ?_) (fun e => ?_), h.2.then hmv fun i hi e => ?_⟩
        · have h1 := hF _ e
          have h2 := HPT2.out
          omega
        · have h1 := hF _ e
          have h2 := HPT2.out
          omega
        · have h1 := hF _ e
          omega
      case assign =>
        intro l' x W K hK
        gi_wp2
        exact hK
      case body =>
        rintro l' k F W hk hF ⟨ht, hm⟩ hz
        obtain ⟨x, hx⟩ : ∃ x, R.getD k 0 = x := ⟨_, rfl⟩
        have hxn : x < n := HDD.out x (by
          rw [← hx, List.getD_eq_getElem?_getD, List.getElem?_eq_getElem hk]
          exact List.getElem_mem _)
        have HXS : Hid (marks n (R.take (k + 1)) = (marks n (R.take k)).set x true) := Lib.hid (by
          rw [← marks_snoc, ← hx, List.take_succ_eq_append_getElem hk, List.getD_eq_getElem?_getD, List.getElem?_eq_getElem hk]
          rfl)
        have k1 : W.cell? ⟨pt, 0, none⟩ = some (.slice (some ⟨rb, 0, none⟩) n n) := ht.var.at 0
        have k2 := ht.at hxn
        have k3 : W.frozen? ⟨rb, x, none⟩ = false := ht.row.free x
        have HTW := Lib.hid ht
        have HMW := Lib.hid hm
        have hxI : (x : Int) < (n : Int) := by omega
        have HFF := Lib.hid hF
        clear ht hm hF
        dsimp only
        rw [hx]
        clear hx
        gi_wp2_with fail
        have hset := Moves.setCell W ⟨rb, x, none⟩ (.bool true)
        refine ⟨(KeepsOthers.setCell _ _ _).from _, ⟨by simp, fun j hj hlt => hset.block j hlt (fun e => ?_)⟩, ?_, HMW.out.then hset fun i _ e => e⟩
        · dsimp only at e
          rcases hj with hj | hj
          · have h1 := HFF.out j hj
            have h2 := HPT2.out
            omega
          · exact (HF0.out j hj).2 e
        · rw [HXS.out]
          exact HTW.out.set x true HPT2.out.2.2
      case done =>
        rintro Dn F W hDn ⟨ht, hm⟩ hK
        rw [List.take_length] at ht
        have HTW := Lib.hid ht
        have HMW := Lib.hid hm
        have HK := Lib.hid hK
        have HDN := Lib.hid hDn
        have HO37 : Hid (OwnI w7 w1.heap.size (.slice A1 n1 c1) O) := Lib.hid (HO3.out.under ((show Below w3.heap.size w3 ws by rw [HRB.out]; exact HBS.out).trans (HX7.out.mono (by rw [HSZ.out, ← HRB.out]; omega))))
        have HOB : Hid (∀ k, (Value.slice A1 n1 c1).ownBlock = some k → w1.heap.size ≤ k ∧ k < rb) := Lib.hid (fun k hk => by
          have h1 := HO3.out.lt k hk
          rw [HRB.out] at h1
          exact h1)
        have HOW : Hid (OwnI W w1.heap.size (.slice A1 n1 c1) O) := Lib.hid (HO37.out.moves HMW.out (fun k hk e => by have := HOB.out k hk; omega))
        clear ht hm hK hDn
        go_wp2_with fail
        refine (deletefunc_any HTW.out HOW.out HOL.out HON.out).mono ?_
        rintro e w8 ⟨v8, rfl, ho8, hm8⟩
        have HO8 := Lib.hid ho8
        have HM8 := Lib.hid hm8
        have HK8 : Hid (w8.heap[Dn]? = some (.deferred (some []))) := Lib.hid ((hm8.block Dn (Array.getElem?_eq_some_iff.1 HK.out).1 (fun e => by
          have h1 := HOB.out Dn e
          have h2 := HDN.out
          have h3 := HPT2.out
          omega)).trans HK.out)
        have hf : w.heap.size ≤ w1.heap.size := HB1.out.size
        have hfin : Below w.heap.size w w8 := by
          have h1 := HB3S.out.trans (HX7.out.mono HB3S.out.size)
          have h2 : Below w.heap.size w7 W := HMW.out.below h1.size (fun k e => by have := HRB.out; have := HB3.out.size; omega)
          have h3 : Below w.heap.size W w8 := hm8.below (Nat.le_trans h1.size HMW.out.size) (fun k e => by have := HOB.out k e; omega)
          exact (h1.trans h2).trans h3
        have HFI := Lib.hid hfin
        have HWR : Hid (wantedF R0 dflt NM = kept (marks n R) O) := Lib.hid (by
          rw [HWF.out, if_neg HNE.out]
          unfold wantedG
          rw [HNN.out, HME.out, HRE.out, ← HOE.out, HNN.out])
        clear ho8 hm8 hfin hf
        go_wp2_with fail
        have hK8 := HK8.out
        refine ⟨by simp, .inl ⟨_, _, rfl, run_takeDeferred hK8, ?_⟩⟩
        refine ⟨_, results_tmp rfl _ _ _, ?_⟩
        refine ⟨v8, rfl, ?_, ?_⟩
        · rw [HWR.out]
          have h1 := World.ownsRow.mono HO8.out HB1.out.size
          refine World.ownsRow.kept h1 (grownBy_putObj' _ Dn _) ?_
          rcases hv : v8.ownBlock with _ | g
          · exact .inl rfl
          · refine .inr fun e => ?_
            injection e with e
            subst e
            have h2 := own_cells h1 _ _ hv hK8
            simp [Obj.isCells] at h2
        · refine HFI.out.trans ((Below.refl _ _).grown (grownBy_putObj' _ Dn _) HFI.out.size ?_)
          rintro _ ⟨⟩
          have h1 := HDN.out
          have h2 := HFI.out.size
          have h3 := HX7.out.size
          have h4 := HB3S.out.size
          omega
end Go.Proofs.Ytemliglhippdcaa

/- Package grph: the function values of the known answers, and what is told for them. -/
namespace Go.Proofs.Ytemliglhippdcaa
set_option maxRecDepth 100000
open Go.ChangeShapes Go.WideShapes Go.ChangeAt Go.RowKit Go.Shelf

theorem ownI_lit (w : World) (base : Nat) (L : List Nat) (C : Array Value) (n : Nat) (hn : L.length = n) (hC : C.toList = rowI L) (hb : base ≤ w.heap.size) (hm : L.length ≤ 1000000) : OwnI (w.alloc (.cells C 3)) base (.slice (some ⟨w.heap.size, 0, none⟩) n n) L := by
  subst hn
  have hl : (rowI L).length = L.length := by simp [rowI]
  have hs : C.size = L.length * 1 := by rw [← hl, ← hC]; simp
  exact ⟨by rw [Nat.mul_one]; exact hl, .inr ⟨w.heap.size, L.length, C, rfl, hb, heap_alloc_new w _, Nat.le_refl _, by unfold maxLen; omega, hs, by rw [hC, List.take_of_length_le (by rw [hl]; omega)]⟩⟩
theorem ownT_row (w : World) (base : Nat) (L : List (List Nat)) (C : Array Value) (n : Nat) (hn : L.length = n) (hC : C.toList = rowT L) (hb : base ≤ w.heap.size) (hm : L.length ≤ 1000000) : OwnT (w.alloc (.cells C 9)) base (.slice (some ⟨w.heap.size, 0, none⟩) n n) L := by
  subst hn
  have hl : (rowT L).length = L.length := by simp [rowT]
  have hs : C.size = L.length * 1 := by rw [← hl, ← hC]; simp
  exact ⟨by rw [Nat.mul_one]; exact hl, .inr ⟨w.heap.size, L.length, C, rfl, hb, heap_alloc_new w _, Nat.le_refl _, by unfold maxLen; omega, hs, by rw [hC, List.take_of_length_le (by rw [hl]; omega)]⟩⟩
theorem bel_alloc (w : World) (o : Obj) : Below w.heap.size w (w.alloc o) := (Below.refl _ _).alloc (Nat.le_refl _) o
def f1 (k : Nat) : List Nat := if k = 1 then [3, 9] else []
def f2 (_ : List Nat) : List (List Nat) := [[97], [98]]
def f3 (k : Nat) : List Nat := [k / 2, 5]
theorem awake1_any (x : Nat) (w : World) : Calls Try.prog 35 #[.int .i64 (x : Int)] w fun e w' => ∃ v, e = .returned v ∧ OwnI w' w.heap.size v (f1 x) ∧ Below w.heap.size w w' := by
  by_cases h : x = 1
  · subst h
    go_enter Try.func35, Try.ntmps35
    go_wp2_with fail
    go_ret
    exact ⟨_, rfl, ownI_lit w _ [3, 9] _ 2 rfl rfl (Nat.le_refl _) (by simp), bel_alloc _ _⟩
  · have hx : ¬ (x : Int) = 1 := by omega
    have hf : f1 x = [] := by unfold f1; rw [if_neg h]
    rw [hf]
    clear h hf
    go_enter Try.func35, Try.ntmps35
    go_wp2_with fail
    go_ret
    exact ⟨_, rfl, ownI_none _ _, Below.refl _ _⟩
theorem awake2_any (t : List Nat) (w : World) : Calls Try.prog 36 #[.string (str t)] w fun e w' => ∃ v, e = .returned v ∧ OwnT w' w.heap.size v (f2 t) ∧ Below w.heap.size w w' := by
  go_enter Try.func36, Try.ntmps36
  go_wp2_with fail
  go_ret
  exact ⟨_, rfl, ownT_row w _ [[97], [98]] _ 2 rfl rfl (Nat.le_refl _) (by simp), bel_alloc _ _⟩
theorem awake3_any (x : Nat) (hx : x ≤ 1000) (w : World) : Calls Try.prog 37 #[.int .i64 (x : Int)] w fun e w' => ∃ v, e = .returned v ∧ OwnI w' w.heap.size v (f3 x) ∧ Below w.heap.size w w' := by
  go_enter Try.func37, Try.ntmps37
  go_wp2_with fail
  go_ret
  exact ⟨_, rfl, ownI_lit w _ [x / 2, 5] _ 2 rfl rfl (Nat.le_refl _) (by simp), bel_alloc _ _⟩
theorem aw1_order {w w' : World} {e : Ending} (h : OrderIs (addL [] [1, 2, 3]) f1 w e w') : ∃ v, e = .returned (.tuple #[v, .bool true]) ∧ OwnI w' w.heap.size v [2, 3, 1] := by
  unfold OrderIs at h
  rw [if_neg (by decide)] at h
  exact h
theorem aw2_order {w w' : World} {e : Ending} (h : OrderIsS (addLS [] [[97], [98]]) f2 w e w') : e = .returned (.tuple #[.slice none 0 0, .bool false]) := by
  unfold OrderIsS at h
  rw [if_pos (by decide)] at h
  exact h
theorem aw3_rs : Gr.rs f3 (addL [] [5]) 4 = [5, 2, 1, 0] := by decide
theorem aw1_ahead (w : World) : AheadN w 35 #[] f1 (fun x => x ∈ addL [] [1, 2, 3]) :=
  ⟨enters_of Try.func35 (by kernel_rfl) rfl, fun x wx _ _ => (awake1_any x wx).mono fun _ _ ⟨v', h1, ho, hb⟩ => ⟨v', h1, ho.rdN, fun k hk => .inr (ho.lt k hk), hb⟩⟩
theorem aw2_ahead (w : World) : AheadNS w 36 #[] f2 (fun x => x ∈ addLS [] [[97], [98]]) :=
  ⟨enters_of Try.func36 (by kernel_rfl) rfl, fun x wx _ _ => (awake2_any x wx).mono fun _ _ ⟨v', h1, ho, hb⟩ => ⟨v', h1, ho.rdS, fun k hk => .inr (World.ownsRow.lt ho k hk), hb⟩⟩
theorem aw1_call (w : World) (v : Value) (h : OwnI w 0 v [1, 2, 3]) : Calls Try.prog 13 #[v, .func (.func 35) #[] #[]] w fun e w' => (∃ v, e = .returned (.tuple #[v, .bool true]) ∧ OwnI w' w.heap.size v [2, 3, 1]) ∧ Below w.heap.size w w' := by
  refine (order_any (f := f1) 10 h.rdN (fun k hk => (h.lt k hk).2) (by simp) (by simp) (aw1_ahead w) (fun x _ => by unfold f1; split <;> simp)).mono ?_
  rintro e w' ⟨h1, h2⟩
  exact ⟨aw1_order h1, h2⟩
theorem aw2_call (w : World) (v : Value) (h : OwnT w 0 v [[97], [98]]) : Calls Try.prog 16 #[v, .func (.func 36) #[] #[]] w fun e w' => e = .returned (.tuple #[.slice none 0 0, .bool false]) ∧ Below w.heap.size w w' := by
  refine (order_anyS (f := f2) 10 (by simp) (fun x _ => by unfold f2; simp) h.rdS (fun k hk => (World.ownsRow.lt h k hk).2) (by simp) (by simp) (aw2_ahead w) (fun x _ => by unfold f2; simp)).mono ?_
  rintro e w' ⟨h1, h2⟩
  exact ⟨aw2_order h1, h2⟩
theorem aw3_ahead (w : World) : AheadG w (fun _ => False) 37 #[] f3 (fun x => x ≤ 1000) :=
  ⟨enters_of Try.func37 (by kernel_rfl) rfl, fun _ h => h.elim, fun x wx hx _ _ => (awake3_any x hx wx).mono fun _ _ ⟨v', h1, ho, hb⟩ => ⟨v', h1, ho.rdN, fun k hk => .inr (ho.lt k hk), hb⟩⟩
theorem aw3_iter {w0 : World} {p q base : Nat} {v : Value} (hR : ReachAt w0 p q v base [5] 37 #[]) :
    IterF Try.prog 46 #[.pointer (some ⟨p, 0, none⟩), .pointer (some ⟨q, 0, none⟩)] (fun n : Nat => #[Value.int .i64 (n : Int)]) 4 (fun k => [5, 2, 1, 0].getD k 0) (ReachReads p q v (fun _ => False)) w0 := by
  have h := reach_iter 4 hR (aw3_ahead w0) (by simp) (by rw [aw3_rs]; simp) (by simp) (by rw [aw3_rs]; simp) (by intro x _; simp [f3])
  rw [aw3_rs] at h
  exact h
end Go.Proofs.Ytemliglhippdcaa

/- Package grph: what is asked of a manifest's rules, reckoned; the manifest of the known answers. -/
namespace Go.Proofs.Ytemliglhippdcaa
set_option maxRecDepth 100000
open Go.ChangeShapes Go.WideShapes Go.ChangeAt Go.RowKit Go.Shelf

def okNames (l : List (List Nat)) : Bool := decide (l.length ≤ 1000) && l.all fun s => decide (s.length ≤ 1000) && s.all fun c => decide (c < 256)
theorem okNames_is {l : List (List Nat)} (h : okNames l = true) : l.length ≤ 1000 ∧ ∀ s ∈ l, s.length ≤ 1000 ∧ ∀ c ∈ s, c < 256 := by
  unfold okNames at h
  simp only [Bool.and_eq_true, decide_eq_true_eq, List.all_eq_true] at h
  exact ⟨h.1, fun s hs => h.2 s hs⟩
def okRule (r : Mn.Rule) : Bool := okNames r.outs && okNames r.ins && okNames r.order
def fineB (R : List Mn.Rule) : Bool := decide (R.length ≤ 1000) && R.all okRule && (List.range R.length).all fun i => decide ((aheadF R (mkM R R.length) i).length ≤ 1000)
theorem fineB_is {R : List Mn.Rule} (h : fineB R = true) : FineR R := by
  unfold fineB at h
  simp only [Bool.and_eq_true, decide_eq_true_eq, List.all_eq_true, List.mem_range] at h
  obtain ⟨⟨h1, h2⟩, h3⟩ := h
  have hr : ∀ r ∈ R, (r.outs.length ≤ 1000 ∧ ∀ s ∈ r.outs, s.length ≤ 1000 ∧ ∀ c ∈ s, c < 256) ∧ (r.ins.length ≤ 1000 ∧ ∀ s ∈ r.ins, s.length ≤ 1000 ∧ ∀ c ∈ s, c < 256) ∧ (r.order.length ≤ 1000 ∧ ∀ s ∈ r.order, s.length ≤ 1000 ∧ ∀ c ∈ s, c < 256) := fun r hr => by
    have := h2 r hr
    unfold okRule at this
    simp only [Bool.and_eq_true] at this
    exact ⟨okNames_is this.1.1, okNames_is this.1.2, okNames_is this.2⟩
  refine ⟨h1, fun r hm => ⟨⟨by have := (hr r hm).1.1; omega, fun x hx => ((hr r hm).1.2 x hx).2⟩, ⟨by have := (hr r hm).2.1.1; omega, fun x hx => ((hr r hm).2.1.2 x hx).2⟩, ⟨by have := (hr r hm).2.2.1; omega, fun x hx => ((hr r hm).2.2.2 x hx).2⟩⟩, fun r hm => (hr r hm).1.1, fun r hm s hs => by have := ((hr r hm).1.2 s hs).1; omega, fun r hm s hs => ?_, fun i => ?_, fun n hn i hi => by subst hn; exact h3 i hi⟩
  · rcases List.mem_append.1 hs with hs | hs
    · have := ((hr r hm).2.1.2 s hs).1
      omega
    · have := ((hr r hm).2.2.2 s hs).1
      omega
  · by_cases hi : i < R.length
    · have hm : R.getD i emptyRule ∈ R := by
        rw [List.getD_eq_getElem?_getD, List.getElem?_eq_getElem hi]
        exact List.getElem_mem _
      exact ⟨(hr _ hm).2.1.1, (hr _ hm).2.2.1⟩
    · rw [List.getD_eq_getElem?_getD, List.getElem?_eq_none (by omega)]
      simp [emptyRule]
def fineNB (R : List Mn.Rule) (l : List (List Nat)) : Bool := okNames l && decide ((ofM (mkM R R.length) l).length ≤ 1000)
theorem fineNB_is {R : List Mn.Rule} {l : List (List Nat)} (h : fineNB R l = true) : FineN R l := by
  unfold fineNB at h
  simp only [Bool.and_eq_true, decide_eq_true_eq] at h
  have h1 := okNames_is h.1
  exact ⟨by have := h1.1; omega, fun s hs => ⟨(h1.2 s hs).2, by have := (h1.2 s hs).1; omega⟩, h.2⟩
theorem grph_fine : FineR grphSt.rules := fineB_is (by kernel_rfl)
theorem grph_fineb : FineN grphSt.rules [[98]] := fineNB_is (by kernel_rfl)
theorem grph_finen : FineN grphSt.rules [] := fineNB_is (by kernel_rfl)
theorem grph_dflt : grphSt.dflt = [] := by kernel_rfl
theorem grph_rulesF : rulesF grphSt.rules grphSt.rules.length grphSt.rules.length [] = some [1, 0] := by
  rw [grph_rules.1]
  exact grph_rules.2.1
theorem grph_wantedb : wantedF grphSt.rules [] [[98]] = [1] := by kernel_rfl
theorem grph_wantedn : wantedF grphSt.rules [] [] = [1, 0] := by kernel_rfl
theorem grph_rules_any {w : World} {A : Option Addr} {c : Nat} {dA : Option Addr} {dn dc : Nat} (hr : SlR w (.slice A 2 c) grphSt.rules) :
    Calls Try.prog 22 #[.agg #[.slice A 2 c, .slice dA dn dc]] w fun e w' => (∃ u, e = .returned (.tuple #[u, .bool true]) ∧ OwnI w' w.heap.size u [1, 0]) ∧ Below w.heap.size w w' := by
  have h := grules_any (dA := dA) (dn := dn) (dc := dc) hr grph_rules.1 grph_fine
  rw [grph_rulesF] at h
  exact h
theorem grph_wantedb_any {w : World} {A : Option Addr} {c : Nat} {dA : Option Addr} {dc : Nat} {nv : Value} (hr : SlR w (.slice A 2 c) grphSt.rules) (hd : SlT w (.slice dA 0 dc) []) (hn : RdS w nv [[98]]) :
    Calls Try.prog 9 #[.agg #[.slice A 2 c, .slice dA 0 dc], nv] w fun e w' => ∃ v, e = .returned v ∧ OwnI w' w.heap.size v [1] ∧ Below w.heap.size w w' := by
  have h := wantedsome_any hr grph_rules.1 grph_fine hd hn grph_finen grph_fineb
  rw [grph_wantedb] at h
  exact h
theorem grph_wantedn_any {w : World} {A : Option Addr} {c : Nat} {dA : Option Addr} {dc : Nat} (hr : SlR w (.slice A 2 c) grphSt.rules) (hd : SlT w (.slice dA 0 dc) []) :
    Calls Try.prog 9 #[.agg #[.slice A 2 c, .slice dA 0 dc], .slice none 0 0] w fun e w' => ∃ v, e = .returned v ∧ OwnI w' w.heap.size v [1, 0] ∧ Below w.heap.size w w' := by
  have h := wantedsome_any hr grph_rules.1 grph_fine hd (rdS_none w) grph_finen grph_finen
  rw [grph_wantedn] at h
  exact h
theorem sameints_yes (A : List Nat) (va vb : Value) (w : World) (ha : RdN w va A) (hb : RdN w vb A) (hm : A.length ≤ 1000000) :
    Calls Try.prog 18 #[va, vb] w fun e w' => e = .returned (.bool true) ∧ Below w.heap.size w w' := by
  have h := sameints_any A A va vb w ha hb hm hm
  rw [decide_eq_true rfl] at h
  exact h
end Go.Proofs.Ytemliglhippdcaa

/- What stage 8's statements ask beside: the known answers of package grph. -/
namespace Go.Proofs.Ytemliglhippdcaa
set_option maxRecDepth 100000
open Go.ChangeShapes Go.WideShapes Go.ChangeAt Go.RowKit Go.Shelf

attribute [local go_sem] Oper.semAt_some

def dig (k : Nat) : Nat := [0, 5, 52, 521, 5210].getD k 0
theorem dig_step (k : Nat) (hk : k < 4) : 10 * (dig k : Int) + (([5, 2, 1, 0].getD k 0 : Nat) : Int) = (dig (k + 1) : Int) := by
  rcases k with _ | _ | _ | _ | k
  · rfl
  · rfl
  · rfl
  · rfl
  · omega
theorem dig_le (k : Nat) (hk : k < 4) : dig k ≤ 10000 ∧ [5, 2, 1, 0].getD k 0 ≤ 5 := by
  rcases k with _ | _ | _ | _ | k
  · decide
  · decide
  · decide
  · decide
  · omega
set_option maxHeartbeats 16000000 in
theorem grphawake_any (w : World) : Calls Try.prog 11 #[] w fun e w' => e = .returned (.bool true) ∧ Below w.heap.size w w' := by
  have kc := fun (w : World) (C : Array Value) (n c : Nat) => Lib.run_convert_bytes_const (P := Try.prog) w 31 5 C n c Try.underlying31 Try.underlying5
  have knil := fun (W : World) (f : Fn) (a b : Array Value) => run_eql_func_nil (P := Try.prog) W f a b Try.underlying55
  refine (callsIn_wide (n := 0)).1 (callsIn_of_wp_marks Try.func11 rfl trivial (wpIn_wide.2 ?_) rfl)
  simp only [Try.ntmps11, List.size_toArray, List.length_nil, Nat.reduceSub, Array.replicate_succ, Array.replicate_zero, List.push_toArray, List.append_toArray, List.nil_append, List.cons_append]
  go_wp2_with fail
  refine (aw1_call _ _ (ownI_lit w 0 [1, 2, 3] _ 3 rfl rfl (Nat.zero_le _) (by simp))).mono ?_
  rintro e w1 ⟨⟨v1, rfl, ho1⟩, hb1⟩
  have HB1 := Lib.hid ((bel_alloc w (.cells #[.int .i64 1, .int .i64 2, .int .i64 3] 3)).trans (hb1.mono (bel_alloc w _).size))
  have HR1 := Lib.hid ho1.rdN
  have HV1 := Lib.hid ho1.lt
  obtain ⟨A1, c1, hv1, _⟩ := ho1.parts
  rw [show ([2, 3, 1] : List Nat).length = 3 from rfl] at hv1
  subst hv1
  clear ho1 hb1
  go_wp2_with fail
  refine (aw2_call _ _ (ownT_row w1 0 [[97], [98]] _ 2 rfl rfl (Nat.zero_le _) (by simp))).mono ?_
  rintro e w2 ⟨rfl, hb2⟩
  have HB12 := Lib.hid ((bel_alloc w1 (.cells #[.string (str [97]), .string (str [98])] 9)).trans (hb2.mono (bel_alloc w1 _).size))
  have HB2 := Lib.hid (HB1.out.trans (HB12.out.mono HB1.out.size))
  have HR2 := Lib.hid (HR1.out.under HB12.out)
  clear hb2
  go_upto_region 4 with fail
  obtain ⟨w3, hw3⟩ : ∃ W, w2.alloc (.cells #[.int .i64 0] 3) = W := ⟨_, rfl⟩
  obtain ⟨pn, hpn⟩ : ∃ q, w2.heap.size = q := ⟨_, rfl⟩
  have HPN : Hid (Blk w3 pn 3 #[.int .i64 0]) := Lib.hid (by rw [← hw3, ← hpn]; exact heap_alloc_new w2 _)
  have HB3 : Hid (Below w.heap.size w w3) := Lib.hid (HB2.out.trans (by rw [← hw3]; exact (bel_alloc w2 _).mono HB2.out.size))
  have HB23 : Hid (Below w2.heap.size w2 w3) := Lib.hid (by rw [← hw3]; exact bel_alloc w2 _)
  have HR3 := Lib.hid (HR2.out.under HB23.out)
  have HPE := Lib.hid hpn
  have HWE := Lib.hid hw3
  rw [hw3, hpn]
  clear hw3 hpn
  go_wp2_with fail
  refine (reach_any 37 #[] (ownI_lit w3 0 [5] _ 1 rfl rfl (Nat.zero_le _) (by simp)).rdN (by simp)).mono ?_
  rintro e w4 ⟨p4, q4, v4, rfl, hr4, hp4, hq4, hb4⟩
  have HB34 := Lib.hid ((bel_alloc w3 (.cells #[.int .i64 5] 3)).trans (hb4.mono (bel_alloc w3 _).size))
  have HR4 := Lib.hid hr4
  have HPN4 := Lib.hid (HPN.out.under HB34.out)
  have HP4 := Lib.hid hp4
  have HQ4 := Lib.hid hq4
  clear hr4 hp4 hq4 hb4
  have HF0 : Hid (∀ j, ReachReads p4 q4 v4 (fun _ => False) j → j < w4.heap.size ∧ j ≠ pn) := Lib.hid (fun j hj => by
    have h1 := HP4.out
    have h2 := HQ4.out
    have h3 := HPN.out.size
    rw [World.size_alloc] at h1 h2
    have h4 : pn < w3.heap.size := HPN.out.size
    rcases hj with rfl | rfl | hj | hj
    · exact ⟨HR4.out.from'.size, by omega⟩
    · exact ⟨HR4.out.fn.size, by omega⟩
    · have h5 := HR4.out.row.lt j hj
      have h6 := h5.1
      rw [World.size_alloc] at h6
      exact ⟨h5.2, by omega⟩
    · exact hj.elim)
  have HIT := Lib.hid (aw3_iter HR4.out)
  have HPS : Hid (pn < w4.heap.size) := Lib.hid HPN4.out.size
  go_wp2_with fail
  refine wp_rangeH (brk := 0) (gf := 46) (lb := #[.pointer (some ⟨p4, 0, none⟩), .pointer (some ⟨q4, 0, none⟩)]) rfl (enters_of Try.func46 (by kernel_rfl) rfl)
    HIT.out (Nat.le_refl _) (fun j hj => ⟨(HF0.out j hj).1, rfl⟩) (fun _ => rfl)
    (fun k F W => Blk W pn 3 #[.int .i64 (dig k : Int)] ∧ Moves (fun j => j = pn) w4 W) (fun _ => False) ?hI (fun _ _ _ _ h => h.elim) ?hmono ⟨HPN4.out, Moves.refl _ _⟩
    (fun x => { tmps := #[Value.bool false, Value.slice A1 3 c1, Value.bool true, Value.slice none 0 0, Value.bool false, Value.pointer (some { block := pn, off := 0 }), Value.func (.func 46) #[] #[Value.pointer (some { block := p4, off := 0 }), Value.pointer (some { block := q4, off := 0 })], .int .i64 (x : Int), undef, undef, undef, undef, Value.tuple #[Value.slice A1 3 c1, Value.bool true], Value.slice (some { block := w.heap.size, off := 0 }) 3 3, Value.tuple #[Value.slice A1 3 c1, Value.bool true], Value.slice A1 3 c1, Value.bool true, Value.tuple #[Value.slice none 0 0, Value.bool false], Value.slice (some { block := w1.heap.size, off := 0 }) 2 2, Value.tuple #[Value.slice none 0 0, Value.bool false], Value.slice none 0 0, Value.bool false, Value.slice (some { block := w3.heap.size, off := 0 }) 1 1, Value.func (.func 46) #[] #[Value.pointer (some { block := p4, off := 0 }), Value.pointer (some { block := q4, off := 0 })], Value.func (.func 46) #[] #[Value.pointer (some { block := p4, off := 0 }), Value.pointer (some { block := q4, off := 0 })], Value.bool false, Value.func (.func 46) #[] #[Value.pointer (some { block := p4, off := 0 }), Value.pointer (some { block := q4, off := 0 })], .int .i64 (x : Int), undef, undef, undef, undef, undef, undef, undef, undef, undef, undef, undef, undef, undef, undef, undef, undef, undef, undef, undef, undef, undef, undef, undef, undef, undef, undef, undef, undef, undef, undef, undef, undef, undef, undef, undef, undef, undef, undef, undef, undef, undef, undef, undef, undef, undef, undef, undef, undef, undef, undef], defers := [] })
    ?assign ?body ?done (fun _ _ _ h => h.elim)
  case hI =>
    intro F k A' B' row h hg hr
    have hmv := Moves.grown hg
    refine ⟨h.1.moves hmv (fun e => ?_), h.2.then hmv fun i hi e => ?_⟩
    · have h1 := (hr _ e).1
      have h2 := HPS.out
      omega
    · have h1 := (hr _ e).1
      omega
  case hmono =>
    intro k F A' B' hF h hmv
    refine ⟨h.1.moves hmv (fun e => ?_), h.2.then hmv fun i hi e => ?_⟩
    · have h1 := hF _ e
      have h2 := HPS.out
      omega
    · have h1 := hF _ e
      omega
  case assign =>
    intro l' x W K hK
    gi_wp2
    exact hK
  case body =>
    rintro l' k F W hk hF ⟨hb, hm⟩ hz
    have hd := dig_le k hk
    have HDS := Lib.hid (dig_step k hk)
    obtain ⟨x, hx⟩ : ∃ x, [5, 2, 1, 0].getD k 0 = x := ⟨_, rfl⟩
    obtain ⟨d, hdd⟩ : ∃ d, dig k = d := ⟨_, rfl⟩
    rw [hx] at hd HDS
    rw [hdd] at hd HDS hb
    have k1 : W.cell? ⟨pn, 0, none⟩ = some (.int .i64 (d : Int)) := hb.at 0
    have k3 : W.frozen? ⟨pn, 0, none⟩ = false := hb.free 0
    have HBW := Lib.hid hb
    have HMW := Lib.hid hm
    have HFF := Lib.hid hF
    obtain ⟨hd1, hd2⟩ := hd
    clear hb hm hF
    dsimp only
    rw [hx]
    clear hx hdd
    gi_wp2_with fail
    have hset := Moves.setCell W ⟨pn, 0, none⟩ (.int .i64 (10 * (d : Int) + (x : Int)))
    refine ⟨(KeepsOthers.setCell _ _ _).from _, ⟨by simp, fun j hj hlt => hset.block j hlt (fun e => ?_)⟩, ?_, HMW.out.then hset fun i _ e => e⟩
    · dsimp only at e
      rcases hj with hj | hj
      · have h1 := HFF.out j hj
        have h2 := HPS.out
        omega
      · exact (HF0.out j hj).2 e
    · rw [← HDS.out]
      exact HBW.out.set 0 _
  case done =>
    rintro Dn F W hDn ⟨hb, hm⟩ hK
    have HBW := Lib.hid hb
    have HMW := Lib.hid hm
    have HK := Lib.hid hK
    have HDN := Lib.hid hDn
    have HR4W : Hid (RdN W (.slice A1 3 c1) [2, 3, 1]) := Lib.hid ((HR3.out.under HB34.out).moves hm (fun k hk e => by
      have h1 := HV1.out k hk
      have h2 := HB12.out.size
      have h3 := HPE.out
      omega))
    have HBA : Hid (Below w.heap.size w W) := Lib.hid ((HB3.out.trans (HB34.out.mono HB3.out.size)).trans (hm.below (Nat.le_trans HB3.out.size HB34.out.size) (fun k e => by
      have h1 := HPE.out
      have h2 := HB2.out.size
      omega)))
    clear hb hm hK hDn
    go_wp2_with fail
    refine (grph_parse _ _ (bytes_new W _ rfl grphText 5 (37, 38) (by decide) (by decide))).mono ?_
    rintro e w5 ⟨⟨rv, dv, rfl, hr5, hd5⟩, hb5⟩
    obtain ⟨Ar, cr, hrv, _⟩ := hr5.parts
    obtain ⟨Ad, cd, hdv, _⟩ := hd5.parts
    rw [grph_rules.1] at hrv
    rw [show grphSt.dflt.length = 0 by kernel_rfl] at hdv
    subst hrv hdv
    have HR5 := Lib.hid hr5
    have HD5 := Lib.hid hd5
    have HW5 := Lib.hid ((bel_alloc W (.cells (grphText.map fun n : Nat => Value.int .u8 (n : Int)).toArray 5 (37, 38))).trans (hb5.mono (bel_alloc W _).size))
    clear hr5 hd5 hb5
    go_upto_region 11 with fail
    obtain ⟨w6, hw6⟩ : ∃ X, (w5.alloc (.cells #[.slice Ar 2 cr, .slice Ad 0 cd] 26)).alloc (.cells #[.int .i64 0, .int .i64 0, .int .i64 0] 28) = X := ⟨_, rfl⟩
    obtain ⟨pm, hpm⟩ : ∃ q, w5.heap.size = q := ⟨_, rfl⟩
    have HM6 : Hid (Blk w6 pm 26 #[.slice Ar 2 cr, .slice Ad 0 cd]) := Lib.hid (by rw [← hw6, ← hpm]; exact Blk.alloc (heap_alloc_new w5 _) _)
    have HB56 : Hid (Below w5.heap.size w5 w6) := Lib.hid (by rw [← hw6]; exact ((Below.refl _ _).alloc (Nat.le_refl _) _).alloc (by simp) _)
    rw [hw6, hpm]
    clear hw6 hpm
    have c0 : w6.cell? ⟨pm, 0, none⟩ = some (.slice Ar 2 cr) := HM6.out.at 0
    have c1' : w6.cell? ⟨pm, 1, none⟩ = some (.slice Ad 0 cd) := HM6.out.at 1
    go_wp2_with fail
    refine (grph_rules_any (HR5.out.under HB56.out)).mono ?_
    rintro e w8 ⟨⟨v8, rfl, ho8⟩, hb8⟩
    obtain ⟨AO, cO, hv8, _⟩ := ho8.parts
    rw [show ([1, 0] : List Nat).length = 2 from rfl] at hv8
    subst hv8
    have HB58 := Lib.hid (HB56.out.trans (hb8.mono HB56.out.size))
    have HBW8 := Lib.hid (HW5.out.trans (HB58.out.mono HW5.out.size))
    have HS1 : Hid (∀ X, Below w8.heap.size w8 X → RdN X (.slice A1 3 c1) [2, 3, 1]) := Lib.hid (fun X hb => (HR4W.out.under HBW8.out).under hb)
    have HSO : Hid (∀ X, Below w8.heap.size w8 X → RdN X (.slice AO 2 cO) [1, 0]) := Lib.hid (fun X hb => ho8.rdN.under hb)
    have HM8 : Hid (Blk w8 pm 26 #[.slice Ar 2 cr, .slice Ad 0 cd]) := Lib.hid (HM6.out.under hb8)
    have HN8 : Hid (Blk w8 pn 3 #[.int .i64 5210]) := Lib.hid (HBW.out.under HBW8.out)
    have HK8 : Hid (∀ X, Below w8.heap.size w8 X → X.heap[Dn]? = some (.deferred (some []))) := Lib.hid (fun X hb => by
      have h1 := (HBW8.out.block Dn (Array.getElem?_eq_some_iff.1 HK.out).1).trans HK.out
      exact (hb.block Dn (Array.getElem?_eq_some_iff.1 h1).1).trans h1)
    have HC8 : Hid (∀ X, Below w8.heap.size w8 X → X.cell? ⟨pn, 0, none⟩ = some (.int .i64 5210) ∧ X.cell? ⟨pm, 0, none⟩ = some (.slice Ar 2 cr) ∧ X.cell? ⟨pm, 1, none⟩ = some (.slice Ad 0 cd)) := Lib.hid (fun X hb => ⟨(HN8.out.under hb).at 0, (HM8.out.under hb).at 0, (HM8.out.under hb).at 1⟩)
    have HR8 := Lib.hid (HR5.out.under HB58.out)
    have HD8 : Hid (SlT w8 (.slice Ad 0 cd) []) := Lib.hid (by
      have h1 := HD5.out
      rw [grph_dflt] at h1
      exact (h1.keep (Q := fun _ => True) (Keep.below HB58.out) trivial))
    have HWB : Hid (∀ X nv, Below w8.heap.size w8 X → RdS X nv [[98]] → Calls Try.prog 9 #[.agg #[.slice Ar 2 cr, .slice Ad 0 cd], nv] X fun e w' => ∃ v, e = .returned v ∧ OwnI w' X.heap.size v [1] ∧ Below X.heap.size X w') := Lib.hid (fun X nv hb hn => grph_wantedb_any (HR8.out.under hb) (HD8.out.keep (Q := fun _ => True) (Keep.below hb) trivial) hn)
    have HWN : Hid (∀ X, Below w8.heap.size w8 X → Calls Try.prog 9 #[.agg #[.slice Ar 2 cr, .slice Ad 0 cd], .slice none 0 0] X fun e w' => ∃ v, e = .returned v ∧ OwnI w' X.heap.size v [1, 0] ∧ Below X.heap.size X w') := Lib.hid (fun X hb => grph_wantedn_any (HR8.out.under hb) (HD8.out.keep (Q := fun _ => True) (Keep.below hb) trivial))
    have HEND : Hid (Below w.heap.size w w8) := Lib.hid (HBA.out.trans (HBW8.out.mono HBA.out.size))
    have HDW : Hid (w.heap.size ≤ Dn) := Lib.hid (Nat.le_trans (Nat.le_trans HB3.out.size HB34.out.size) HDN.out)
    clear ho8 hb8 c0 c1' kc knil HR1 HR2 HR3 HB1 HB2 HB12 HB23 HV1 HPN HPE HWE HB34 HR4 HPN4 HP4 HQ4 HF0 HIT HPS HBW HMW HK HDN HR4W HBA HR5 HD5 HW5 HM6 HB56 HB58 HBW8 HM8 HN8 HR8 HD8 HB3
    obtain ⟨wb, hwb⟩ : ∃ q, w8 = q := ⟨_, rfl⟩
    have hB0 : Below w8.heap.size w8 wb := by rw [← hwb]; exact Below.refl _ _
    have k0 := HC8.out _ hB0
    obtain ⟨k1, k2, k3⟩ := k0
    have HB0 := Lib.hid hB0
    rw [hwb]
    clear hB0 hwb
    go_wp2_with fail
    refine (sameints_yes [2, 3, 1] _ _ _ (HS1.out _ (HB0.out.trans ((bel_alloc wb _).mono HB0.out.size))) (ownI_lit wb 0 [2, 3, 1] _ 3 rfl rfl (Nat.zero_le _) (by simp)).rdN (by simp)).mono ?_
    rintro e wn1 ⟨rfl, hb⟩
    have HB1 := Lib.hid ((HB0.out.trans ((bel_alloc wb (.cells #[.int .i64 2, .int .i64 3, .int .i64 1] 3)).mono HB0.out.size)).trans (hb.mono (Nat.le_trans HB0.out.size (bel_alloc wb _).size)))
    clear hb HB0 k1 k2 k3
    obtain ⟨k1, k2, k3⟩ := HC8.out _ HB1.out
    go_wp2_with fail
    refine (sameints_yes [1, 0] _ _ _ (HSO.out _ (HB1.out.trans ((bel_alloc wn1 _).mono HB1.out.size))) (ownI_lit wn1 0 [1, 0] _ 2 rfl rfl (Nat.zero_le _) (by simp)).rdN (by simp)).mono ?_
    rintro e wn2 ⟨rfl, hb⟩
    have HB2 := Lib.hid ((HB1.out.trans ((bel_alloc wn1 (.cells #[.int .i64 1, .int .i64 0] 3)).mono HB1.out.size)).trans (hb.mono (Nat.le_trans HB1.out.size (bel_alloc wn1 _).size)))
    clear hb HB1 k1 k2 k3
    obtain ⟨k1, k2, k3⟩ := HC8.out _ HB2.out
    go_wp2_with fail
    refine (HWB.out _ _ (HB2.out.trans ((bel_alloc wn2 _).mono HB2.out.size)) (ownT_row wn2 0 [[98]] _ 1 rfl rfl (Nat.zero_le _) (by simp)).rdS).mono ?_
    rintro e wn3 ⟨v3, rfl, ho, hb⟩
    have HB3 := Lib.hid ((HB2.out.trans ((bel_alloc wn2 (.cells #[.string (str [98])] 9)).mono HB2.out.size)).trans (hb.mono (Nat.le_trans HB2.out.size (bel_alloc wn2 _).size)))
    have HO3 := Lib.hid ho.rdN
    clear ho hb HB2 k1 k2 k3
    obtain ⟨k1, k2, k3⟩ := HC8.out _ HB3.out
    go_wp2_with fail
    refine (sameints_yes [1] _ _ _ (HO3.out.under (bel_alloc wn3 _)) (ownI_lit wn3 0 [1] _ 1 rfl rfl (Nat.zero_le _) (by simp)).rdN (by simp)).mono ?_
    rintro e wn4 ⟨rfl, hb⟩
    have HB4 := Lib.hid ((HB3.out.trans ((bel_alloc wn3 (.cells #[.int .i64 1] 3)).mono HB3.out.size)).trans (hb.mono (Nat.le_trans HB3.out.size (bel_alloc wn3 _).size)))
    clear hb HB3 HO3 k1 k2 k3
    obtain ⟨k1, k2, k3⟩ := HC8.out _ HB4.out
    go_wp2_with fail
    refine (HWN.out _ HB4.out).mono ?_
    rintro e wn5 ⟨v5, rfl, ho, hb⟩
    have HB5 := Lib.hid (HB4.out.trans (hb.mono HB4.out.size))
    have HO5 := Lib.hid ho.rdN
    clear ho hb HB4 k1 k2 k3
    go_wp2_with fail
    refine (sameints_yes [1, 0] _ _ _ (HO5.out.under (bel_alloc wn5 _)) (ownI_lit wn5 0 [1, 0] _ 2 rfl rfl (Nat.zero_le _) (by simp)).rdN (by simp)).mono ?_
    rintro e wn6 ⟨rfl, hb⟩
    have HB6 := Lib.hid ((HB5.out.trans ((bel_alloc wn5 (.cells #[.int .i64 1, .int .i64 0] 3)).mono HB5.out.size)).trans (hb.mono (Nat.le_trans HB5.out.size (bel_alloc wn5 _).size)))
    clear hb HB5 HO5
    go_wp2_with fail
    refine ⟨by simp, .inl ⟨_, _, rfl, run_takeDeferred (HK8.out _ HB6.out), ?_⟩⟩
    refine ⟨_, results_tmp rfl _ _ _, rfl, ?_⟩
    refine (HEND.out.trans (HB6.out.mono HEND.out.size)).trans ((Below.refl _ _).grown (grownBy_putObj' _ Dn _) (Nat.le_trans HEND.out.size HB6.out.size) ?_)
    rintro _ ⟨⟩
    exact HDW.out
end Go.Proofs.Ytemliglhippdcaa
