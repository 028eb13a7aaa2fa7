/- The document's own answer for manifests: its parser: a rule's outputs. -/
import Derived.Test.YtemliglhippdcaaManiOut
import Derived.Deep.DeepCutAuto
import Derived.Deep.CutBlock
import Derived.BigQuiet
import Derived.Deep.QuietTactic
import Derived.RegionTactic
namespace Go.Proofs.Ytemliglhippdcaa
set_option maxRecDepth 100000
open Go.ChangeShapes Go.WideShapes Go.ChangeAt Go.RowKit

/-- What is wrong with one name. -/
def oneF (x : Ln.W) (e : Mn.F) : Mn.F := match Mn.chk true x with
  | some k => Mn.fw k x
  | none => e
theorem names_one (x : Ln.W) (hx : Mn.isW [] x = false) : Mn.names 1 true (fun x => Mn.isW [] x || Mn.isW [] x) ([x].drop 0) [] = match Mn.chk true x with
    | some k => .bad (Mn.fw k x)
    | none => .ok ([x.text], []) := by
  rw [List.drop_zero, Mn.names]
  rw [hx]
  rcases Mn.chk true x with _ | k
  · rfl
  · rfl
theorem refname_any (g : Nat) (v : Value) (x : Ln.W) (rv dv lv fv : Value) (e : Mn.F) (w : World) (h : Pb w g rv dv lv fv e) (h0 : e.k = 0) (hv : RdW w v [x]) (hne : v.ownBlock ≠ some g)
    (ht : (∀ c ∈ x.text, c < 256) ∧ x.text.length ≤ 1099511627776) (hx : Mn.isW [] x = false) :
    Calls Try.prog 55 #[.pointer (some ⟨g, 0, none⟩), v, .int .i64 0, .int .i64 1, .bool true, .string ⟨#[]⟩, .string ⟨#[]⟩] w fun en w' => (∃ u j, en = .returned (.tuple #[u, .int .i64 ((j : Nat) : Int)])) ∧ Pb w' g rv dv lv fv (oneF x e) ∧ w.grownBy w' (some g) := by
  have := refnames_any g 0 1 true [] [] v [x] rv dv lv fv e w h h0 hv hne (by simp) (by simp) (by decide) (fun y hy => by rw [List.mem_singleton.1 hy]; exact ht) (by simp) (by simp)
  rw [names_one x hx] at this
  refine this.mono fun en w' hn => ?_
  unfold oneF
  revert hn
  rcases Mn.chk true x with _ | k <;> intro hn
  · obtain ⟨⟨u, j, he, _, _, _, hp⟩, hg⟩ := hn
    exact ⟨⟨u, j, he⟩, hp, hg⟩
  · obtain ⟨⟨u, j, he, _, _, hp⟩, hg⟩ := hn
    exact ⟨⟨u, j, he⟩, hp, hg⟩
/-- How one more output turns what is wrong. -/
def outF (rules : List Mn.Rule) (most : Nat) (out : List (List Nat)) (x : Ln.W) (e : Mn.F) : Mn.F :=
  let e2 := if most ≤ out.length then fstF (oneF x e) (Mn.fw 7 x) else oneF x e
  if Mn.taken rules x.text || decide (x.text ∈ out) then fstF e2 (Mn.fw 8 x) else e2
theorem outs_at {rules : List Mn.Rule} {most : Nat} {first : Ln.W} {L : List Ln.W} {j : Nat} {out : List (List Nat)} {e : Mn.F} (h0 : e.k = 0) (hj : j < L.length) (hs : Mn.isW [58] (L[j]'hj) = false) :
    (outF rules most out (L[j]'hj) e = e ∧ Mn.outs rules most first (L.drop j) out = Mn.outs rules most first (L.drop (j + 1)) (out ++ [(L[j]'hj).text])) ∨ ((outF rules most out (L[j]'hj) e).k ≠ 0 ∧ Mn.outs rules most first (L.drop j) out = .bad (outF rules most out (L[j]'hj) e)) := by
  rw [List.drop_eq_getElem_cons hj, Mn.outs, hs, if_neg (by simp)]
  generalize hx : L[j]'hj = x
  unfold outF oneF
  rcases hc : Mn.chk true x with _ | k
  · by_cases hm : most ≤ out.length
    · refine .inr ?_
      simp only [hm, if_true]
      have e7 : fstF e (Mn.fw 7 x) = Mn.fw 7 x := by unfold fstF; rw [if_pos h0]
      rw [e7]
      have k7 : (Mn.fw 7 x).k = 7 := rfl
      split
      · unfold fstF; rw [if_neg (by rw [k7]; decide)]; exact ⟨by rw [k7]; decide, rfl⟩
      · exact ⟨by rw [k7]; decide, rfl⟩
    · simp only [hm, if_false]
      by_cases ht : (Mn.taken rules x.text || decide (x.text ∈ out)) = true
      · refine .inr ?_
        rw [if_pos ht, if_pos ht]
        have e8 : fstF e (Mn.fw 8 x) = Mn.fw 8 x := by unfold fstF; rw [if_pos h0]
        rw [e8]
        exact ⟨by show (8 : Nat) ≠ 0; decide, rfl⟩
      · refine .inl ?_
        rw [if_neg ht, if_neg ht]
        exact ⟨rfl, rfl⟩
  · refine .inr ?_
    have hk : k ≠ 0 := by
      unfold Mn.chk at hc
      split at hc
      · cases hc; decide
      · split at hc
        · cases hc; decide
        · cases hc
    have kk : ∀ e', fstF (Mn.fw k x) e' = Mn.fw k x := fun e' => by unfold fstF; rw [if_neg (show ¬ (Mn.fw k x).k = 0 from hk)]
    simp only [kk]
    have hE : (if (Mn.taken rules x.text || decide (x.text ∈ out)) = true then (if most ≤ out.length then Mn.fw k x else Mn.fw k x) else (if most ≤ out.length then Mn.fw k x else Mn.fw k x)) = Mn.fw k x := by
      split <;> split <;> rfl
    refine ⟨?_, ?_⟩
    · split <;> split <;> first | exact hk | (rw [kk]; exact hk)
    · congr 1
      split <;> split <;> first | rfl | (rw [kk])
theorem rdW_one {w : World} {B o c : Nat} {x : Ln.W} (h0 : w.cell? ⟨B, o, none⟩ = some (.string (str x.text))) (h1 : w.cell? ⟨B, o + 1, none⟩ = some (.int .i64 (x.line : Int))) (h2 : w.cell? ⟨B, o + 2, none⟩ = some (.int .i64 (x.col : Int))) (h3 : w.cell? ⟨B, o + 3, none⟩ = some (.bool x.q)) (hc : 1 ≤ c) : RdW w (.slice (some ⟨B, o, none⟩) 1 c) [x] := by
  refine ⟨_, c, rfl, hc, by unfold maxLen; simp, fun _ => ⟨B, o, rfl, fun k hk => ?_⟩⟩
  obtain rfl : k = 0 := by simp at hk; omega
  rw [Nat.zero_mul, Nat.add_zero]
  exact ⟨h0, h1, h2, h3⟩
theorem RdW.words {w : World} {v : Value} {L : List Ln.W} {B off n c : Nat} (h : RdW w v L) (hv : v = .slice (some ⟨B, off, none⟩) n c) {j : Nat} (hj : j < L.length) {x : Ln.W} (hx : L[j]'hj = x) : w.cell? ⟨B, off + j * 4, none⟩ = some (.string (str x.text)) ∧ w.cell? ⟨B, off + j * 4 + 1, none⟩ = some (.int .i64 (x.line : Int)) ∧ w.cell? ⟨B, off + j * 4 + 2, none⟩ = some (.int .i64 (x.col : Int)) ∧ w.cell? ⟨B, off + j * 4 + 3, none⟩ = some (.bool x.q) := by
  subst hv hx
  obtain ⟨b', o', e, h⟩ := h.at2 j hj
  injection e with e
  injection e with e1 e2
  subst e1 e2
  exact h
theorem below_drews (w : World) (n : Nat) : Below w.heap.size w (w.drewN n) := ⟨rfl, rfl, rfl, Nat.le_refl _, fun _ _ => rfl⟩
/-- What is told of outputs. -/
def OutsIs (w : World) (g : Nat) (rv dv lv fv : Value) (e : Mn.F) (L : List Ln.W) (en : Ending) (w' : World) : Mn.R (List (List Nat) × List Ln.W) → Prop
  | .ok (o, rest) => (∃ u j, en = .returned (.tuple #[u, .int .i64 ((j : Nat) : Int)]) ∧ j ≤ L.length ∧ L.drop j = rest ∧ OwnT w' w.heap.size u o ∧ Pb w' g rv dv lv fv e) ∧ w.grownBy w' (some g)
  | .bad f => (∃ u j, en = .returned (.tuple #[u, .int .i64 ((j : Nat) : Int)]) ∧ j ≤ L.length + 1 ∧ (∃ o, OwnT w' w.heap.size u o) ∧ Pb w' g rv dv lv fv f) ∧ w.grownBy w' (some g)
/-- How far outputs are read. -/
def Oe (rules : List Mn.Rule) (most : Nat) (L : List Ln.W) (j : Nat) (out : List (List Nat)) (e ee : Mn.F) : Prop :=
  (ee = e ∧ Mn.outs rules most (L.headD ⟨[], 0, 0, false⟩) (L.drop 1) [] = Mn.outs rules most (L.headD ⟨[], 0, 0, false⟩) (L.drop j) out) ∨ (ee.k ≠ 0 ∧ Mn.outs rules most (L.headD ⟨[], 0, 0, false⟩) (L.drop 1) [] = .bad ee)
/-- What is wrong once outputs are over. -/
def endF (L : List Ln.W) (j : Nat) (out : List (List Nat)) (ee : Mn.F) : Mn.F :=
  if ee.k = 0 ∧ out = [] then fstF (if h : j < L.length then fstF ee (Mn.fw 4 (L[j]'h)) else ee) (Mn.fw 4 (L.headD ⟨[], 0, 0, false⟩)) else ee
theorem fstF_zero {e f : Mn.F} (h : e.k = 0) : fstF e f = f := by unfold fstF; rw [if_pos h]
theorem fstF_non {e f : Mn.F} (h : e.k ≠ 0) : fstF e f = e := by unfold fstF; rw [if_neg h]
theorem needF_non {s : List Nat} {L : List Ln.W} {i : Nat} {e : Mn.F} (h : e.k ≠ 0) : needF s L i e = e := by
  unfold needF
  split
  · split
    · rfl
    · exact fstF_non h
  · exact fstF_non h
theorem outs_end {rules : List Mn.Rule} {most : Nat} {L : List Ln.W} {j : Nat} {out : List (List Nat)} {e ee : Mn.F} {w w' : World} {g : Nat} {rv dv lv fv u : Value} (h : Oe rules most L j out e ee) (h0 : e.k = 0) (hj : j ≤ L.length) (hend : ∀ hj : j < L.length, ee.k ≠ 0 ∨ Mn.isW [58] (L[j]'hj) = true)
    (hp : Pb w' g rv dv lv fv (needF [58] L j (endF L j out ee))) (ho : OwnT w' w.heap.size u out) (hg : w.grownBy w' (some g)) :
    OutsIs w g rv dv lv fv e L (.returned (.tuple #[u, .int .i64 ((j + 1 : Nat) : Int)])) w' (Mn.outs rules most (L.headD ⟨[], 0, 0, false⟩) (L.drop 1) []) := by
  rcases h with ⟨rfl, h⟩ | ⟨hk, h⟩
  · rw [h]
    rcases Nat.lt_or_ge j L.length with hlt | hge
    · have hw : Mn.isW [58] (L[j]'hlt) = true := (hend hlt).resolve_left (by simp [h0])
      have hd : L.drop j = L[j]'hlt :: L.drop (j + 1) := List.drop_eq_getElem_cons hlt
      rw [hd, Mn.outs, if_pos hw]
      by_cases hO : out = []
      · rw [if_pos hO]
        have : needF [58] L j (endF L j out ee) = Mn.fw 4 (L[j]'hlt) := by
          unfold endF
          rw [if_pos ⟨h0, hO⟩, dif_pos hlt, fstF_zero h0, fstF_non (by show (4 : Nat) ≠ 0; decide)]
          exact needF_non (by show (4 : Nat) ≠ 0; decide)
        rw [this] at hp
        exact ⟨⟨u, j + 1, rfl, by omega, ⟨out, ho⟩, hp⟩, hg⟩
      · rw [if_neg hO]
        have : needF [58] L j (endF L j out ee) = ee := by
          unfold endF
          rw [if_neg (fun h => hO h.2)]
          unfold needF
          rw [dif_pos hlt, if_pos hw]
        rw [this] at hp
        exact ⟨⟨u, j + 1, rfl, by omega, rfl, ho, hp⟩, hg⟩
    · rw [List.drop_eq_nil_of_le hge, Mn.outs]
      have : needF [58] L j (endF L j out ee) = Mn.fw 4 (L.headD ⟨[], 0, 0, false⟩) := by
        by_cases hO : out = []
        · unfold endF
          rw [if_pos ⟨h0, hO⟩, dif_neg (by omega), fstF_zero h0]
          exact needF_non (by show (4 : Nat) ≠ 0; decide)
        · unfold endF
          rw [if_neg (fun h => hO h.2)]
          unfold needF
          rw [dif_neg (by omega), fstF_zero h0]
      rw [this] at hp
      exact ⟨⟨u, j + 1, rfl, by omega, ⟨out, ho⟩, hp⟩, hg⟩
  · rw [h]
    have : needF [58] L j (endF L j out ee) = ee := by
      unfold endF
      rw [if_neg (fun h => hk h.1)]
      exact needF_non hk
    rw [this] at hp
    exact ⟨⟨u, j + 1, rfl, by omega, ⟨out, ho⟩, hp⟩, hg⟩
set_option maxRecDepth 100000 in
set_option maxHeartbeats 16000000 in
theorem refouts_any (g most : Nat) (v : Value) (L : List Ln.W) (rules : List Mn.Rule) (rv dv lv fv : Value) (e : Mn.F) (w : World) (h : Pb w g rv dv lv fv e) (h0 : e.k = 0) (hv : RdW w v L) (hne : v.ownBlock ≠ some g) (hr : SlR w rv rules) (hL : 0 < L.length) (hL2 : L.length ≤ 1000000) (hm : most ≤ 1000)
    (hn : rules.length ≤ 1000000) (ho : ∀ r ∈ rules, r.outs.length ≤ 1000000 ∧ ∀ x ∈ r.outs, ∀ c ∈ x, c < 256)
    (ht : ∀ x ∈ L, (∀ c ∈ x.text, c < 256) ∧ x.text.length ≤ 1099511627776 ∧ Mn.isW [] x = false) :
    Calls Try.prog 69 #[.pointer (some ⟨g, 0, none⟩), v, .int .i64 (most : Int)] w fun en w' => OutsIs w g rv dv lv fv e L en w' (Mn.outs rules most (L.headD ⟨[], 0, 0, false⟩) (L.drop 1) []) := by
  have H := Lib.hid h
  have HV := Lib.hid hv
  have HT := Lib.hid ht
  have HNE := Lib.hid hne
  have HR := Lib.hid hr
  have HE0 := Lib.hid h0
  have HM := Lib.hid hm
  have HGS := Lib.hid (Blk.size h)
  have HRN := Lib.hid (show _ ∧ _ from ⟨hn, ho⟩)
  have HT2 : Hid (∀ x ∈ L, (∀ c ∈ x.text, c < 256) ∧ x.text.length ≤ 1099511627776) := Lib.hid (fun x hx => ⟨(ht x hx).1, (ht x hx).2.1⟩)
  obtain ⟨A, c, rfl, hc⟩ := hv.parts2
  obtain ⟨n, hN⟩ : ∃ n, L.length = n := ⟨_, rfl⟩
  rw [hN] at HV HNE hc hL hL2 ⊢
  have HN := Lib.hid hN
  have HLI := Lib.hid (show 0 < n ∧ n ≤ 1000000 ∧ n ≤ c from ⟨hL, hL2, hc⟩)
  clear h hv ht hne hr h0 hm hn ho hN hL hL2 hc
  go_enter Try.func69, Try.ntmps69
  go_wp2_with fail
  go_loopg [8, 9] (n + 1) (fun gg ov iv wr => ∃ (j : Nat) (out : List (List Nat)) (ee : Mn.F), Hid (1 ≤ j ∧ j ≤ n ∧ n + 1 - j ≤ gg ∧ out.length ≤ j) ∧ iv = .int .i64 (j : Int) ∧ Hid (Oe rules most L j out e ee) ∧ Hid (OwnT wr w.heap.size ov out) ∧ Hid (Pb wr g rv dv lv fv ee) ∧ Hid (w.grownBy wr (some g)) ∧ Hid (∀ t ∈ out, ∀ c ∈ t, c < 256))
  case atStart => exact ⟨1, [], e, Lib.hid (by have := HLI.out; simp; omega), by go_num, Lib.hid (.inl ⟨rfl, rfl⟩), Lib.hid (ownT_none _ _), H, Lib.hid (grown_same _ _), Lib.hid (by simp)⟩
  case round =>
    obtain ⟨j, out, ee, HJ, rfl, hOe, hO, hP, hG, HOB⟩ := hrel
    obtain ⟨wz, rfl⟩ : ∃ wx : World, wx = wr := ⟨_, rfl⟩
    have p4 := hP.out.at 4
    change wz.cell? ⟨g, 4, none⟩ = some (.int .i64 (ee.k : Int)) at p4
    have HVZ := Lib.hid (HV.out.grown hG.out (.inr HNE.out))
    by_cases hlt : j < n
    · have hltI : (j : Int) < (n : Int) := by omega
      have hjL : j < L.length := by rw [HN.out]; exact hlt
      by_cases hk0 : ee.k = 0
      · have hk0I : ((ee.k : Int) == 0) = true := by simp; omega
        obtain ⟨B, off, rfl, a0, a1, a2, a3⟩ := HVZ.out.at2 j hjL
        have HTX := Lib.hid (HT.out _ (List.getElem_mem hjL))
        obtain ⟨x, hx⟩ : ∃ x, L[j]'hjL = x := ⟨_, rfl⟩
        have HXJ := Lib.hid hx
        rw [hx] at a0 a1 a2 a3 HTX
        clear hx
        have HCA : Hid (∀ W, Calls Try.prog 52 #[.agg (cellsW x).toArray, .string ⟨#[58]⟩] W fun e w' => e = .returned (.bool (Mn.isW [58] x)) ∧ Below W.heap.size W w') := Lib.hid (fun W => refis_w [58] x W HTX.out.1 (by decide))
        obtain ⟨xt, xl, xc, xq⟩ := x
        change wz.cell? ⟨B, off + j * 4, none⟩ = some (.string (str xt)) at a0
        change wz.cell? ⟨B, off + j * 4 + 1, none⟩ = some (.int .i64 (xl : Int)) at a1
        change wz.cell? ⟨B, off + j * 4 + 2, none⟩ = some (.int .i64 (xc : Int)) at a2
        change wz.cell? ⟨B, off + j * 4 + 3, none⟩ = some (.bool xq) at a3
        rw [show (cellsW ⟨xt, xl, xc, xq⟩).toArray = #[.string (str xt), .int .i64 (xl : Int), .int .i64 (xc : Int), .bool xq] from rfl] at HCA
        go_wp2_with fail
        refine (HCA.out _).mono ?_
        rintro en w1 ⟨rfl, hb1⟩
        have HB1 := Lib.hid hb1
        have HO1 := Lib.hid (hO.out.under hb1)
        have HP1 := Lib.hid (hP.out.under hb1)
        have HG1 := Lib.hid (grown_on hG.out (Below.toGrown hb1 (some g)))
        have HV1 := Lib.hid (HVZ.out.under hb1)
        clear hb1 a0 a1 a2 a3 HCA hO hP hG HVZ p4
        rcases hs : Mn.isW [58] ⟨xt, xl, xc, xq⟩ with _ | _
        · obtain ⟨rfl, hOm⟩ : ee = e ∧ _ := by
            rcases hOe.out with h | ⟨h, _⟩
            · exact h
            · exact absurd hk0 h
          have HOM := Lib.hid hOm
          have hat := outs_at (rules := rules) (most := most) (first := L.headD ⟨[], 0, 0, false⟩) (out := out) hk0 hjL (by rw [HXJ.out]; exact hs)
          rw [HXJ.out] at hat
          have HAT2 := Lib.hid hat
          clear hat hOm hs
          have hj0 : (0 : Int) ≤ (j : Int) := by omega
          have hj1 : (j : Int) ≤ (j : Int) + 1 := by omega
          have hj2 : (j : Int) + 1 ≤ (c : Int) := by have := HLI.out; omega
          have hj3 : j ≤ 1000000 := by have := HLI.out; omega
          have hcj : 1 ≤ c - j := by have := HLI.out; omega
          have HW1 := Lib.hid (HV1.out.words rfl hjL HXJ.out)
          have HNM := Lib.hid (refname_any g (.slice (some ⟨B, off + j * 4, none⟩) 1 (c - j)) ⟨xt, xl, xc, xq⟩ rv dv lv fv ee w1 HP1.out hk0 (rdW_one HW1.out.1 HW1.out.2.1 HW1.out.2.2.1 HW1.out.2.2.2 hcj) HNE.out ⟨HTX.out.1, HTX.out.2.1⟩ HTX.out.2.2)
          go_wp2_with fail
          refine HNM.out.mono ?_
          rintro en w2 ⟨⟨uu, jj, rfl⟩, hp2, hg2⟩
          obtain ⟨e1, he1⟩ : ∃ e1, oneF ⟨xt, xl, xc, xq⟩ ee = e1 := ⟨_, rfl⟩
          rw [he1] at hp2
          have HE1 := Lib.hid he1
          have HP2 := Lib.hid hp2
          have HG2 := Lib.hid (grown_on HG1.out hg2)
          have HO2 := Lib.hid (HO1.out.grownG hg2 HGS.out)
          clear hp2 hg2 he1 HNM HP1 HG1 HO1 HV1 HW1 hj0 hj1 hj2 hcj hk0I
          obtain ⟨Ao, co, hou⟩ : ∃ A c, u8 = .slice A out.length c := by
            rcases HO2.out.2 with ⟨hu, h0⟩ | ⟨g', cap, cur, hu, _⟩
            · exact ⟨none, 0, by rw [hu, h0]⟩
            · exact ⟨_, _, hu⟩
          subst hou
          obtain ⟨on, hon⟩ : ∃ on, out.length = on := ⟨_, rfl⟩
          rw [hon] at HO2 ⊢
          have HON := Lib.hid hon
          clear hon
          go_upto_if 44 with fail
          obtain ⟨e2, he2⟩ : ∃ e2, e2 = (if most ≤ out.length then fstF e1 (Mn.fw 7 ⟨xt, xl, xc, xq⟩) else e1) := ⟨_, rfl⟩
          have HE2 := Lib.hid he2
          clear he2
          go_cut [] (fun wx => Hid (OwnT wx w.heap.size (.slice Ao on co) out) ∧ Hid (Pb wx g rv dv lv fv e2) ∧ Hid (w.grownBy wx (some g)))
          case first =>
            have HVW := Lib.hid ((HV.out.grown HG2.out (.inr HNE.out)).words rfl hjL HXJ.out)
            have b0 := HVW.out.1
            have b1 := HVW.out.2.1
            have b2 := HVW.out.2.2.1
            have b3 := HVW.out.2.2.2
            dsimp only at b0 b1 b2 b3
            by_cases hmo : most ≤ on
            · have hmoI : (most : Int) ≤ (on : Int) := by omega
              have HE3 : Hid (e2 = fstF e1 (Mn.fw 7 ⟨xt, xl, xc, xq⟩)) := Lib.hid (by rw [HE2.out, if_pos (by rw [HON.out]; exact hmo)])
              have HAT := Lib.hid (refat_any g 7 ⟨xt, xl, xc, xq⟩ rv dv lv fv e1 w2 HP2.out)
              rw [show (cellsW ⟨xt, xl, xc, xq⟩).toArray = #[.string (str xt), .int .i64 (xl : Int), .int .i64 (xc : Int), .bool xq] from rfl] at HAT
              go_wp2_with fail
              refine HAT.out.mono ?_
              rintro en w3 ⟨rfl, hp3, hg3⟩
              have HP3 : Hid (Pb w3 g rv dv lv fv e2) := Lib.hid (by rw [HE3.out]; exact hp3)
              have HO3 := Lib.hid (HO2.out.grownG hg3 HGS.out)
              have HG3 := Lib.hid (grown_on HG2.out hg3)
              clear hp3 hg3 b0 b1 b2 b3
              go_wp2_with fail
              go_meet
              exact ⟨HO3, HP3, HG3⟩
            · have hmoI : ¬ (most : Int) ≤ (on : Int) := by omega
              have HE3 : Hid (e2 = e1) := Lib.hid (by rw [HE2.out, if_neg (by rw [HON.out]; exact hmo)])
              clear b0 b1 b2 b3
              go_wp2_with fail
              go_meet
              exact ⟨HO2, Lib.hid (by rw [HE3.out]; exact HP2.out), HG2⟩
          case rest =>
            obtain ⟨HO4, HP4, HG4⟩ := hcut
            obtain ⟨w4, rfl⟩ : ∃ wx : World, wx = wc := ⟨_, rfl⟩
            have HVW := Lib.hid ((HV.out.grown HG4.out (.inr HNE.out)).words rfl hjL HXJ.out)
            have HRW := Lib.hid (HR.out.parser H.out HG4.out)
            obtain ⟨tk, htk⟩ : ∃ tk, Mn.taken rules xt = tk := ⟨_, rfl⟩
            have HTK : Hid (Calls Try.prog 27 #[.pointer (some ⟨g, 0, none⟩), .string (str xt)] w4 fun en w' => en = .returned (.bool tk) ∧ w4 = w') := Lib.hid (by
              rw [← htk]
              exact refout_any g xt rules rv dv lv fv e2 w4 HP4.out HRW.out HRN.out.1 HRN.out.2 HTX.out.1)
            have HTK2 := Lib.hid htk
            clear htk HP2 HG2 HO2
            have b0 := HVW.out.1
            dsimp only at b0
            go_wp2_with fail
            refine HTK.out.mono ?_
            rintro en w5 ⟨rfl, rfl⟩
            go_wp2_with fail
            go_loopg [10, 11] on (fun gg tv kv wr => ∃ (k : Nat) (q : Bool), Hid (k ≤ on ∧ on - k ≤ gg) ∧ kv = .int .i64 (k : Int) ∧ tv = .bool q ∧ Hid (q = (tk || decide (xt ∈ out.take k))) ∧ Hid (∃ nq, wr = w4.drewN nq))
            case atStart => exact ⟨0, tk, Lib.hid (by omega), rfl, rfl, Lib.hid (by simp), Lib.hid ⟨0, rfl⟩⟩
            case round =>
              obtain ⟨k, q, HK, rfl, rfl, hq, hw⟩ := hrel
              obtain ⟨nq, rfl⟩ := hw.out
              by_cases hlk : k < on
              · have hlkI : (k : Int) < (on : Int) := by omega
                have hkL : k < out.length := by rw [HON.out]; exact hlk
                have hol : out ≠ [] := fun e => by rw [e] at hkL; simp at hkL
                have HOc := HO4.out
                obtain ⟨g', c', hu, -, -⟩ := HO4.out.parts hol
                · injection hu with hu1 hu2 hu3
                  subst hu1
                  have hcell : w4.cell? ⟨g', k, none⟩ = some (.string (str (out.getD k []))) := HOc.cell hkL
                  obtain ⟨y, hy⟩ : ∃ y, out.getD k [] = y := ⟨_, rfl⟩
                  rw [hy] at hcell
                  have HNXT : Hid ((tk || decide (xt ∈ out.take (k + 1))) = (q || decide (y = xt))) := Lib.hid (by
                    rw [hq.out, List.take_succ_eq_append_getElem hkL]
                    have : out[k]'hkL = y := by rw [← hy, List.getD_eq_getElem?_getD, List.getElem?_eq_getElem hkL]; rfl
                    rw [this]
                    have hd : decide (xt ∈ out.take k ++ [y]) = (decide (xt ∈ out.take k) || decide (y = xt)) := by
                      rw [Bool.eq_iff_iff]
                      simp only [decide_eq_true_eq, List.mem_append, List.mem_singleton, Bool.or_eq_true]
                      exact ⟨fun h => h.imp id Eq.symm, fun h => h.imp id Eq.symm⟩
                    rw [hd, Bool.or_assoc])
                  have HYL : Hid (∀ c ∈ y, c < 256) := Lib.hid (by
                    rw [← hy, List.getD_eq_getElem?_getD, List.getElem?_eq_getElem hkL]
                    exact HOB.out _ (List.getElem_mem hkL))
                  have hcmp : ((str y).toList == (str xt).toList) = decide (y = xt) := str_same HYL.out HTX.out.1
                  obtain ⟨qy, hqy⟩ : ∃ qy, decide (y = xt) = qy := ⟨_, rfl⟩
                  rw [hqy] at hcmp HNXT
                  obtain ⟨sy, hsy⟩ : ∃ sy, str y = sy := ⟨_, rfl⟩
                  rw [hsy] at hcell hcmp
                  have hk8 : k ≤ 1000000 := by have := HJ.out; have := HON.out; omega
                  have hj0 : (0 : Int) ≤ (j : Int) := by omega
                  have hk0' : (0 : Int) ≤ (k : Int) := by omega
                  clear hsy hqy hy hkL hol HOc hw
                  rcases q with _ | _
                  · go_upto_region 12 with fail
                    go_quiet (fail)
                    go_wp2
                    go_roundg (on - (k + 1))
                    case measure => have := HK.out; omega
                    case rel => exact ⟨k + 1, qy, Lib.hid (by omega), by go_num, rfl, Lib.hid (by rw [HNXT.out]; rfl), Lib.hid ⟨_, rfl⟩⟩
                  · go_upto_region 12 with fail
                    go_quiet (fail)
                    go_wp2
                    go_roundg (on - (k + 1))
                    case measure => have := HK.out; omega
                    case rel => exact ⟨k + 1, true, Lib.hid (by omega), by go_num, rfl, Lib.hid (by rw [HNXT.out]; rfl), Lib.hid ⟨_, rfl⟩⟩
              · obtain rfl : k = on := by have := HK.out; omega
                rw [List.take_of_length_le (by rw [HON.out]; exact Nat.le_refl _)] at hq
                obtain ⟨w6, hw6⟩ : ∃ w6, w6 = w4.drewN nq := ⟨_, rfl⟩
                have HO6 : Hid (OwnT w6 w.heap.size (.slice Ao k co) out) := Lib.hid (by rw [hw6]; exact HO4.out.under (below_drews _ _))
                have HP6 : Hid (Pb w6 g rv dv lv fv e2) := Lib.hid (by rw [hw6]; exact HP4.out.under (below_drews _ _))
                have HG6 : Hid (w.grownBy w6 (some g)) := Lib.hid (by rw [hw6]; exact grown_on HG4.out (Below.toGrown (below_drews _ _) (some g)))
                rw [← hw6]
                obtain ⟨e3, he3⟩ : ∃ e3, e3 = (if q then fstF e2 (Mn.fw 8 ⟨xt, xl, xc, xq⟩) else e2) := ⟨_, rfl⟩
                have HE3 := Lib.hid he3
                have HEF : Hid (e3 = outF rules most out ⟨xt, xl, xc, xq⟩ ee) := Lib.hid (by rw [he3, HE2.out, ← HE1.out, hq.out, ← HTK2.out]; rfl)
                clear hw6 hw he3 b0 hlk HK HO4 HP4 HG4 HVW HRW HTK
                go_upto_if 77 with fail
                go_cut [] (fun wx => Hid (OwnT wx w.heap.size (.slice Ao k co) out) ∧ Hid (Pb wx g rv dv lv fv e3) ∧ Hid (w.grownBy wx (some g)))
                case first =>
                  have HVW := Lib.hid ((HV.out.grown HG6.out (.inr HNE.out)).words rfl hjL HXJ.out)
                  have b0 := HVW.out.1
                  have b1 := HVW.out.2.1
                  have b2 := HVW.out.2.2.1
                  have b3 := HVW.out.2.2.2
                  dsimp only at b0 b1 b2 b3
                  rcases q with _ | _
                  · have HE4 : Hid (e3 = e2) := Lib.hid (by rw [HE3.out]; rfl)
                    clear b0 b1 b2 b3
                    go_wp2_with fail
                    go_meet
                    exact ⟨HO6, Lib.hid (by rw [HE4.out]; exact HP6.out), HG6⟩
                  · have HE4 : Hid (e3 = fstF e2 (Mn.fw 8 ⟨xt, xl, xc, xq⟩)) := Lib.hid (by rw [HE3.out]; rfl)
                    have HAT := Lib.hid (refat_any g 8 ⟨xt, xl, xc, xq⟩ rv dv lv fv e2 w6 HP6.out)
                    rw [show (cellsW ⟨xt, xl, xc, xq⟩).toArray = #[.string (str xt), .int .i64 (xl : Int), .int .i64 (xc : Int), .bool xq] from rfl] at HAT
                    go_wp2_with fail
                    refine HAT.out.mono ?_
                    rintro en w7 ⟨rfl, hp7, hg7⟩
                    have HP7 : Hid (Pb w7 g rv dv lv fv e3) := Lib.hid (by rw [HE4.out]; exact hp7)
                    have HO7 := Lib.hid (HO6.out.grownG hg7 HGS.out)
                    have HG7 := Lib.hid (grown_on HG6.out hg7)
                    clear hp7 hg7 b0 b1 b2 b3
                    go_wp2_with fail
                    go_meet
                    exact ⟨HO7, HP7, HG7⟩
                case rest =>
                  obtain ⟨HO8, HP8, HG8⟩ := hcut
                  obtain ⟨w8, rfl⟩ : ∃ wx : World, wx = wc := ⟨_, rfl⟩
                  have HVW := Lib.hid ((HV.out.grown HG8.out (.inr HNE.out)).words rfl hjL HXJ.out)
                  have b0 := HVW.out.1
                  dsimp only at b0
                  have HOeN : Hid (Oe rules most L (j + 1) (out ++ [xt]) ee e3) := Lib.hid (by
                    rw [HEF.out]
                    rcases HAT2.out with ⟨h1, h2⟩ | ⟨h1, h2⟩
                    · exact .inl ⟨h1, by rw [HOM.out, h2]⟩
                    · exact .inr ⟨h1, by rw [HOM.out, h2]⟩)
                  have HZO : Hid (out.length ≤ 1000000) := Lib.hid (by have := HJ.out; have := HON.out; omega)
                  have HOB2 : Hid (∀ t ∈ out ++ [xt], ∀ c ∈ t, c < 256) := Lib.hid (fun t ht => by
                    rcases List.mem_append.1 ht with ht | ht
                    · exact HOB.out t ht
                    · rw [List.mem_singleton.1 ht]; exact HTX.out.1)
                  have HO8' : Hid (OwnT w8 w.heap.size (.slice Ao k co) out) := HO8
                  go_wp2_with (at_builtin; refine wpList_append_text rfl _ _ rfl w.heap.size _ out xt rfl HO8'.out rfl (0, 0) (by have := HZO.out; omega) HG8.out.size (out ++ [xt]) rfl ?_)
                  rintro u' w9 ⟨hO9, -, hb9⟩
                  have HO9 := Lib.hid hO9
                  have HP9 : Hid (Pb w9 g rv dv lv fv e3) := Lib.hid (Blk.below (Blk.alloc HP8.out _) hb9 HGS.out)
                  have HG9 := Lib.hid (grown_below HG8.out (((Below.refl _ _).alloc (Nat.le_refl _) _).mono HG8.out.size |>.trans hb9))
                  clear hO9 hb9 b0
                  go_wp2
                  go_roundg (n + 1 - (j + 1))
                  case measure => have := HJ.out; omega
                  case rel => exact ⟨j + 1, out ++ [xt], e3, Lib.hid (by have := HJ.out; have := HON.out; rw [List.length_append, List.length_singleton]; omega), by go_num, HOeN, HO9, HP9, HG9, HOB2⟩
        · obtain ⟨Ao, co, hou⟩ : ∃ A c, u8 = .slice A out.length c := by
            rcases HO1.out.2 with ⟨hu, h0⟩ | ⟨g', cap, cur, hu, _⟩
            · exact ⟨none, 0, by rw [hu, h0]⟩
            · exact ⟨_, _, hu⟩
          subst hou
          obtain ⟨on, hon⟩ : ∃ on, out.length = on := ⟨_, rfl⟩
          rw [hon] at HO1 ⊢
          have HON := Lib.hid hon
          clear hon
          have HJ1 := Lib.hid (show j ≤ n from HJ.out.2.1)
          have q4 := HP1.out.at 4
          change w1.cell? ⟨g, 4, none⟩ = some (.int .i64 (ee.k : Int)) at q4
          by_cases hO : out = []
          · have hon0 : on = 0 := by rw [← HON.out, hO]; rfl
            subst hon0
            have hw1 := Lib.hid (HV1.out.words rfl hjL HXJ.out)
            have d0 := hw1.out.1
            have d1 := hw1.out.2.1
            have d2 := hw1.out.2.2.1
            have d3 := hw1.out.2.2.2
            dsimp only at d0 d1 d2 d3
            have hj0 : (0 : Int) ≤ (j : Int) := by omega
            have HATY := Lib.hid (refat_any g 4 ⟨xt, xl, xc, xq⟩ rv dv lv fv ee w1 HP1.out)
            rw [show (cellsW ⟨xt, xl, xc, xq⟩).toArray = #[.string (str xt), .int .i64 (xl : Int), .int .i64 (xc : Int), .bool xq] from rfl] at HATY
            go_wp2_with fail
            refine HATY.out.mono ?_
            rintro en w7 ⟨rfl, hp7, hg7⟩
            have HP7 := Lib.hid hp7
            have HO7 := Lib.hid (HO1.out.grownG hg7 HGS.out)
            have HG7 := Lib.hid (grown_on HG1.out hg7)
            clear hp7 hg7 d0 d1 d2 d3
            have hw0 := Lib.hid (HV.out.grown HG7.out (.inr HNE.out))
            have hL0 : 0 < L.length := by rw [HN.out]; exact HLI.out.1
            obtain ⟨B0, off0, hA0, c0, c1, c2, c3⟩ := hw0.out.at2 0 hL0
            injection hA0 with hA1
            injection hA1 with hA2 hA3
            subst hA2 hA3
            have HL0 : Hid (L.headD ⟨[], 0, 0, false⟩ = L[0]'hL0) := Lib.hid (by
              rcases L with _ | ⟨y, r⟩
              · exact absurd hL0 (by simp)
              · rfl)
            obtain ⟨x0, hx0⟩ : ∃ x0, L[0]'hL0 = x0 := ⟨_, rfl⟩
            rw [hx0] at c0 c1 c2 c3 HL0
            clear hx0 hL0
            obtain ⟨yt, yl, yc, yq⟩ := x0
            change w7.cell? ⟨B, off + 0 * 4, none⟩ = some (.string (str yt)) at c0
            change w7.cell? ⟨B, off + 0 * 4 + 1, none⟩ = some (.int .i64 (yl : Int)) at c1
            change w7.cell? ⟨B, off + 0 * 4 + 2, none⟩ = some (.int .i64 (yc : Int)) at c2
            change w7.cell? ⟨B, off + 0 * 4 + 3, none⟩ = some (.bool yq) at c3
            rw [Nat.zero_mul, Nat.add_zero] at c0 c1 c2 c3
            have hnI0 : (0 : Int) < (n : Int) := by have := HLI.out; omega
            have HATZ := Lib.hid (refat_any g 4 ⟨yt, yl, yc, yq⟩ rv dv lv fv (fstF ee ⟨4, xl, xc⟩) w7 HP7.out)
            rw [show (cellsW ⟨yt, yl, yc, yq⟩).toArray = #[.string (str yt), .int .i64 (yl : Int), .int .i64 (yc : Int), .bool yq] from rfl] at HATZ
            go_wp2_with fail
            refine HATZ.out.mono ?_
            rintro en w8 ⟨rfl, hp8, hg8⟩
            have HP8 := Lib.hid hp8
            have HO8 := Lib.hid (HO7.out.grownG hg8 HGS.out)
            have HG8 := Lib.hid (grown_on HG7.out hg8)
            clear hp8 hg8 c0 c1 c2 c3
            have HND := Lib.hid (refneed_any g j [58] (.slice (some ⟨B, off, none⟩) n c) L rv dv lv fv (fstF (fstF ee ⟨4, xl, xc⟩) ⟨4, yl, yc⟩) w8 HP8.out (HV.out.grown HG8.out (.inr HNE.out)) (by have := HLI.out; have := HN.out; omega) (by have := HLI.out; have := HJ1.out; omega) HT2.out (by decide))
            rw [show str [58] = (⟨#[58]⟩ : ByteArray) from rfl] at HND
            go_wp2_with fail
            refine HND.out.mono ?_
            rintro en w9 ⟨rfl, hp9, hg9⟩
            have HO9 := Lib.hid (HO8.out.grownG hg9 HGS.out)
            have HP9 := Lib.hid hp9
            have HG9 := Lib.hid (grown_on HG8.out hg9)
            clear hp9 hg9
            go_wp2
            go_ret2
            exact outs_end hOe.out HE0.out (by rw [HN.out]; exact HJ1.out) (fun hj => .inr (by rw [HXJ.out]; exact hs)) (by rw [show endF L j out ee = fstF (fstF ee ⟨4, xl, xc⟩) ⟨4, yl, yc⟩ from by (unfold endF; rw [if_pos ⟨hk0, hO⟩, dif_pos hjL, HXJ.out, HL0.out]; rfl)]; exact HP9.out) HO9.out HG9.out
          · have hon0 : ((on : Int) == 0) = false := by
              have : on ≠ 0 := by rw [← HON.out]; exact fun h => hO (List.length_eq_zero_iff.1 h)
              simp; omega
            have HND := Lib.hid (refneed_any g j [58] (.slice (some ⟨B, off, none⟩) n c) L rv dv lv fv (ee) w1 HP1.out (HV1.out) (by have := HLI.out; have := HN.out; omega) (by have := HLI.out; have := HJ1.out; omega) HT2.out (by decide))
            rw [show str [58] = (⟨#[58]⟩ : ByteArray) from rfl] at HND
            go_wp2_with fail
            refine HND.out.mono ?_
            rintro en w9 ⟨rfl, hp9, hg9⟩
            have HO9 := Lib.hid (HO1.out.grownG hg9 HGS.out)
            have HP9 := Lib.hid hp9
            have HG9 := Lib.hid (grown_on HG1.out hg9)
            clear hp9 hg9
            go_wp2
            go_ret2
            exact outs_end hOe.out HE0.out (by rw [HN.out]; exact HJ1.out) (fun hj => .inr (by rw [HXJ.out]; exact hs)) (by rw [show endF L j out ee = ee from by (unfold endF; rw [if_neg (fun h => hO h.2)])]; exact HP9.out) HO9.out HG9.out
      · have hk0I : ((ee.k : Int) == 0) = false := by simp; omega
        obtain ⟨Ao, co, hou⟩ : ∃ A c, u8 = .slice A out.length c := by
          rcases hO.out.2 with ⟨hu, h0⟩ | ⟨g', cap, cur, hu, _⟩
          · exact ⟨none, 0, by rw [hu, h0]⟩
          · exact ⟨_, _, hu⟩
        subst hou
        obtain ⟨on, hon⟩ : ∃ on, out.length = on := ⟨_, rfl⟩
        rw [hon] at hO ⊢
        have HON := Lib.hid hon
        clear hon
        have HJ1 := Lib.hid (show j ≤ n from HJ.out.2.1)
        have HND := Lib.hid (refneed_any g j [58] (.slice A n c) L rv dv lv fv (ee) wz hP.out (HVZ.out) (by have := HLI.out; have := HN.out; omega) (by have := HLI.out; have := HJ1.out; omega) HT2.out (by decide))
        rw [show str [58] = (⟨#[58]⟩ : ByteArray) from rfl] at HND
        go_wp2_with fail
        refine HND.out.mono ?_
        rintro en w9 ⟨rfl, hp9, hg9⟩
        have HO9 := Lib.hid (hO.out.grownG hg9 HGS.out)
        have HP9 := Lib.hid hp9
        have HG9 := Lib.hid (grown_on hG.out hg9)
        clear hp9 hg9
        go_wp2
        go_ret2
        exact outs_end hOe.out HE0.out (by rw [HN.out]; exact HJ1.out) (fun _ => .inl hk0) (by rw [show endF L j out ee = ee from by (unfold endF; rw [if_neg (fun h => hk0 h.1)])]; exact HP9.out) HO9.out HG9.out
    · have hltI : ¬ (j : Int) < (n : Int) := by omega
      obtain ⟨Ao, co, hou⟩ : ∃ A c, u8 = .slice A out.length c := by
        rcases hO.out.2 with ⟨hu, h0⟩ | ⟨g', cap, cur, hu, _⟩
        · exact ⟨none, 0, by rw [hu, h0]⟩
        · exact ⟨_, _, hu⟩
      subst hou
      obtain ⟨on, hon⟩ : ∃ on, out.length = on := ⟨_, rfl⟩
      rw [hon] at hO ⊢
      have HON := Lib.hid hon
      clear hon
      have HJ1 := Lib.hid (show j ≤ n from HJ.out.2.1)
      by_cases hk0 : ee.k = 0
      · have hk0I : ((ee.k : Int) == 0) = true := by simp; omega
        by_cases hOo : out = []
        · have hon0 : on = 0 := by rw [← HON.out, hOo]; rfl
          subst hon0
          have hw0 := Lib.hid (HVZ.out)
          have hL0 : 0 < L.length := by rw [HN.out]; exact HLI.out.1
          obtain ⟨B0, off0, hA0, c0, c1, c2, c3⟩ := hw0.out.at2 0 hL0
          subst hA0
          have HL0 : Hid (L.headD ⟨[], 0, 0, false⟩ = L[0]'hL0) := Lib.hid (by
            rcases L with _ | ⟨y, r⟩
            · exact absurd hL0 (by simp)
            · rfl)
          obtain ⟨x0, hx0⟩ : ∃ x0, L[0]'hL0 = x0 := ⟨_, rfl⟩
          rw [hx0] at c0 c1 c2 c3 HL0
          clear hx0 hL0
          obtain ⟨yt, yl, yc, yq⟩ := x0
          change wz.cell? ⟨B0, off0 + 0 * 4, none⟩ = some (.string (str yt)) at c0
          change wz.cell? ⟨B0, off0 + 0 * 4 + 1, none⟩ = some (.int .i64 (yl : Int)) at c1
          change wz.cell? ⟨B0, off0 + 0 * 4 + 2, none⟩ = some (.int .i64 (yc : Int)) at c2
          change wz.cell? ⟨B0, off0 + 0 * 4 + 3, none⟩ = some (.bool yq) at c3
          rw [Nat.zero_mul, Nat.add_zero] at c0 c1 c2 c3
          have hnI0 : (0 : Int) < (n : Int) := by have := HLI.out; omega
          have HATZ := Lib.hid (refat_any g 4 ⟨yt, yl, yc, yq⟩ rv dv lv fv (ee) wz hP.out)
          rw [show (cellsW ⟨yt, yl, yc, yq⟩).toArray = #[.string (str yt), .int .i64 (yl : Int), .int .i64 (yc : Int), .bool yq] from rfl] at HATZ
          go_wp2_with fail
          refine HATZ.out.mono ?_
          rintro en w8 ⟨rfl, hp8, hg8⟩
          have HP8 := Lib.hid hp8
          have HO8 := Lib.hid (hO.out.grownG hg8 HGS.out)
          have HG8 := Lib.hid (grown_on hG.out hg8)
          clear hp8 hg8 c0 c1 c2 c3
          have HND := Lib.hid (refneed_any g j [58] (.slice (some ⟨B0, off0, none⟩) n c) L rv dv lv fv (fstF ee ⟨4, yl, yc⟩) w8 HP8.out (HV.out.grown HG8.out (.inr HNE.out)) (by have := HLI.out; have := HN.out; omega) (by have := HLI.out; have := HJ1.out; omega) HT2.out (by decide))
          rw [show str [58] = (⟨#[58]⟩ : ByteArray) from rfl] at HND
          go_wp2_with fail
          refine HND.out.mono ?_
          rintro en w9 ⟨rfl, hp9, hg9⟩
          have HO9 := Lib.hid (HO8.out.grownG hg9 HGS.out)
          have HP9 := Lib.hid hp9
          have HG9 := Lib.hid (grown_on HG8.out hg9)
          clear hp9 hg9
          go_wp2
          go_ret2
          exact outs_end hOe.out HE0.out (by rw [HN.out]; exact HJ1.out) (fun hj => absurd hj (by rw [HN.out]; exact hlt)) (by rw [show endF L j out ee = fstF ee ⟨4, yl, yc⟩ from by (unfold endF; rw [if_pos ⟨hk0, hOo⟩, dif_neg (by rw [HN.out]; exact hlt), HL0.out]; rfl)]; exact HP9.out) HO9.out HG9.out
        · have hon0 : ((on : Int) == 0) = false := by
            have : on ≠ 0 := by rw [← HON.out]; exact fun h => hOo (List.length_eq_zero_iff.1 h)
            simp; omega
          have HND := Lib.hid (refneed_any g j [58] (.slice A n c) L rv dv lv fv (ee) wz hP.out (HVZ.out) (by have := HLI.out; have := HN.out; omega) (by have := HLI.out; have := HJ1.out; omega) HT2.out (by decide))
          rw [show str [58] = (⟨#[58]⟩ : ByteArray) from rfl] at HND
          go_wp2_with fail
          refine HND.out.mono ?_
          rintro en w9 ⟨rfl, hp9, hg9⟩
          have HO9 := Lib.hid (hO.out.grownG hg9 HGS.out)
          have HP9 := Lib.hid hp9
          have HG9 := Lib.hid (grown_on hG.out hg9)
          clear hp9 hg9
          go_wp2
          go_ret2
          exact outs_end hOe.out HE0.out (by rw [HN.out]; exact HJ1.out) (fun hj => absurd hj (by rw [HN.out]; exact hlt)) (by rw [show endF L j out ee = ee from by (unfold endF; rw [if_neg (fun h => hOo h.2)])]; exact HP9.out) HO9.out HG9.out
      · have hk0I : ((ee.k : Int) == 0) = false := by simp; omega
        have HND := Lib.hid (refneed_any g j [58] (.slice A n c) L rv dv lv fv (ee) wz hP.out (HVZ.out) (by have := HLI.out; have := HN.out; omega) (by have := HLI.out; have := HJ1.out; omega) HT2.out (by decide))
        rw [show str [58] = (⟨#[58]⟩ : ByteArray) from rfl] at HND
        go_wp2_with fail
        refine HND.out.mono ?_
        rintro en w9 ⟨rfl, hp9, hg9⟩
        have HO9 := Lib.hid (hO.out.grownG hg9 HGS.out)
        have HP9 := Lib.hid hp9
        have HG9 := Lib.hid (grown_on hG.out hg9)
        clear hp9 hg9
        go_wp2
        go_ret2
        exact outs_end hOe.out HE0.out (by rw [HN.out]; exact HJ1.out) (fun _ => .inl hk0) (by rw [show endF L j out ee = ee from by (unfold endF; rw [if_neg (fun h => hk0 h.1)])]; exact HP9.out) HO9.out HG9.out
end Go.Proofs.Ytemliglhippdcaa
