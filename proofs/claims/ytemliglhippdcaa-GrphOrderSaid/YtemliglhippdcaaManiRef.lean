/- The document's own answer for manifests: its parser, leaf by leaf. -/
import Derived.Test.YtemliglhippdcaaManiMath
import Derived.Test.YtemliglhippdcaaActRef
import Derived.Test.YtemliglhippdcaaLineRef
import Derived.Test.YtemliglhippdcaaNameRef
import Derived.Test.YtemliglhippdcaaTexts
import Derived.Test.YtemliglhippdcaaActOne
namespace Go.Proofs.Ytemliglhippdcaa
set_option maxRecDepth 100000
open Go.ChangeShapes Go.WideShapes Go.ChangeAt Go.RowKit

/-- The parser in its block: what it holds of rules, of default, of names and of default's words, and what is wrong. -/
def Pb (w : World) (g : Nat) (rv dv lv fv : Value) (e : Mn.F) : Prop :=
  Blk w g 66 #[rv, dv, lv, fv, .int .i64 (e.k : Int), .int .i64 (e.line : Int), .int .i64 (e.col : Int)]
theorem grown_on {w w' w'' : World} {row : Option Nat} (h : w.grownBy w' row) (k : w'.grownBy w'' row) : w.grownBy w'' row := ⟨k.os.trans h.os, k.tape.trans h.tape, k.output.trans h.output, Nat.le_trans h.size k.size, fun j hj hr => (k.block j (Nat.lt_of_lt_of_le hj h.size) hr).trans (h.block j hj hr)⟩
def fstF (e e' : Mn.F) : Mn.F := if e.k = 0 then e' else e
theorem Pb.under {w w' : World} {g : Nat} {rv dv lv fv : Value} {e : Mn.F} (h : Pb w g rv dv lv fv e) (hb : Below w.heap.size w w') : Pb w' g rv dv lv fv e := Blk.under h hb
set_option maxHeartbeats 4000000 in
theorem refasign_any (x : Ln.W) (w : World) (hx : ∀ c ∈ x.text, c < 256) :
    Calls Try.prog 67 #[.agg (cellsW x).toArray] w fun e w' => e = .returned (.bool (Mn.aSign x)) ∧ Below w.heap.size w w' := by
  obtain ⟨xt, xl, xc, xq⟩ := x
  have HBX : Hid (∀ o, Below w.heap.size w (w.alloc o)) := Lib.hid (fun o => (Below.refl _ _).alloc (Nat.le_refl _) o)
  rw [show (cellsW ⟨xt, xl, xc, xq⟩).toArray = #[.string (str xt), .int .i64 xl, .int .i64 xc, .bool xq] from rfl]
  have hsz := str_size xt
  rcases xq with _ | _
  · by_cases h1 : xt.length = 1
    · obtain ⟨c, rfl⟩ : ∃ c, xt = [c] := by
        rcases xt with _ | ⟨c, _ | ⟨d, r⟩⟩
        · cases h1
        · exact ⟨c, rfl⟩
        · simp at h1
      have hg : ∀ h, ((str [c])[0]'h).toNat = c := fun h => str_get (l := [c]) hx 0 h
      have HW : Hid (Mn.aSign ⟨[c], xl, xc, false⟩ = Ln.sign c) := Lib.hid (by unfold Mn.aSign; simp)
      go_enter Try.func67, Try.ntmps67
      go_wp2_with fail
      refine (refsign_any c _).mono ?_
      rintro e w2 ⟨rfl, rfl⟩
      go_wp2
      go_ret
      exact ⟨by rw [HW.out] <;> rfl, HBX.out _⟩
    · have hn : ((xt.length : Int) == 1) = false := by simp; omega
      have HW : Hid (Mn.aSign ⟨xt, xl, xc, false⟩ = false) := Lib.hid (by unfold Mn.aSign; simp [h1])
      clear h1
      go_enter Try.func67, Try.ntmps67
      go_wp2
      go_ret
      exact ⟨by rw [HW.out] <;> rfl, HBX.out _⟩
  · have HW : Hid (Mn.aSign ⟨xt, xl, xc, true⟩ = false) := Lib.hid (by unfold Mn.aSign; simp)
    go_enter Try.func67, Try.ntmps67
    go_wp2
    go_ret
    exact ⟨by rw [HW.out] <;> rfl, HBX.out _⟩
set_option maxHeartbeats 4000000 in
theorem refat_any (g K : Nat) (x : Ln.W) (rv dv lv fv : Value) (e : Mn.F) (w : World) (h : Pb w g rv dv lv fv e) :
    Calls Try.prog 28 #[.pointer (some ⟨g, 0, none⟩), .int .i64 (K : Int), .agg (cellsW x).toArray] w fun en w' => en = .returned (.tuple #[]) ∧ Pb w' g rv dv lv fv (fstF e ⟨K, x.line, x.col⟩) ∧ w.grownBy w' (some g) := by
  obtain ⟨xt, xl, xc, xq⟩ := x
  rw [show (cellsW ⟨xt, xl, xc, xq⟩).toArray = #[.string (str xt), .int .i64 xl, .int .i64 xc, .bool xq] from rfl]
  have H := Lib.hid h
  have k4 := H.out.at 4
  change w.cell? ⟨g, 4, none⟩ = some (.int .i64 (e.k : Int)) at k4
  have k4o : ∀ o, (w.alloc o).cell? ⟨g, 4, none⟩ = some (.int .i64 (e.k : Int)) := fun o => (H.out.alloc o).at 4
  clear h
  by_cases h0 : e.k = 0
  · go_enter Try.func28, Try.ntmps28
    go_wp2_with fail
    refine (reffault_any _ _ _ _).mono ?_
    rintro en w2 ⟨rfl, hb2⟩
    have hb : Below w.heap.size w w2 := ((Below.refl _ _).alloc (Nat.le_refl _) _).trans (hb2.mono (by simp))
    have H2 := Lib.hid (H.out.under hb)
    have HB := Lib.hid hb
    have q4 := H2.out.at 4
    have q5 := H2.out.at 5
    have q6 := H2.out.at 6
    have f4 := H2.out.free 4
    have f5 := H2.out.free 5
    have f6 := H2.out.free 6
    change w2.cell? ⟨g, 4, none⟩ = some (.int .i64 (e.k : Int)) at q4
    change w2.cell? ⟨g, 5, none⟩ = some (.int .i64 (e.line : Int)) at q5
    change w2.cell? ⟨g, 6, none⟩ = some (.int .i64 (e.col : Int)) at q6
    have HF : Hid (Pb (((w2.setCell ⟨g, 4, none⟩ (.int .i64 (K : Int))).setCell ⟨g, 5, none⟩ (.int .i64 (xl : Int))).setCell ⟨g, 6, none⟩ (.int .i64 (xc : Int))) g rv dv lv fv ⟨K, xl, xc⟩) := Lib.hid (((H2.out.set 4 _).set 5 _).set 6 _)
    have HG : Hid (w.grownBy (((w2.setCell ⟨g, 4, none⟩ (.int .i64 (K : Int))).setCell ⟨g, 5, none⟩ (.int .i64 (xl : Int))).setCell ⟨g, 6, none⟩ (.int .i64 (xc : Int))) (some g)) := Lib.hid (grown_on (grown_on (grown_on (Below.toGrown HB.out (some g)) (grown_setCell _ ⟨g, 4, none⟩ _)) (grown_setCell _ ⟨g, 5, none⟩ _)) (grown_setCell _ ⟨g, 6, none⟩ _))
    clear hb2 hb k4 k4o
    go_wp2
    go_end0
    exact ⟨rfl, by unfold fstF; rw [if_pos h0]; exact HF.out, HG.out⟩
  · have hk : ((e.k : Int) == 0) = false := by simp; omega
    go_enter Try.func28, Try.ntmps28
    go_wp2
    go_end0
    exact ⟨rfl, by unfold fstF; rw [if_neg h0]; exact Blk.alloc H.out _, Below.toGrown ((Below.refl _ _).alloc (Nat.le_refl _) _) _⟩
theorem RdW.grown {w w' : World} {v : Value} {R : List Ln.W} {row : Option Nat} (h : RdW w v R) (hg : w.grownBy w' row) (hne : v.ownBlock = none ∨ v.ownBlock ≠ row) : RdW w' v R := by
  obtain ⟨A, c, rfl, h1, h2, h3⟩ := h
  refine ⟨A, c, rfl, h1, h2, fun h0 => ?_⟩
  obtain ⟨b, off, rfl, hc⟩ := h3 h0
  have hb : b < w.heap.size := World.block_lt_of_cell? _ _ (hc 0 h0).1
  have hk : w'.heap[b]? = w.heap[b]? := hg.block b hb (by
    rcases hne with e | e
    · simp [Value.ownBlock] at e
    · simpa [Value.ownBlock] using e)
  refine ⟨b, off, rfl, fun k hkk => ?_⟩
  have e : ∀ j, w'.cell? ⟨b, j, none⟩ = w.cell? ⟨b, j, none⟩ := fun j => World.cell?_of_block hk
  rw [e, e, e, e]
  exact hc k hkk
/-- Where a name may stand, a word that is none: the second test of the two. -/
def badName (rule : Bool) (x : Ln.W) : Bool := x.q || !Nm.ok x.text || (rule && (decide (x.text = Mn.manifest) || decide (x.text = Mn.trace)))
theorem chk_is (rule : Bool) (x : Ln.W) : Mn.chk rule x = if Mn.aSign x then some 4 else if badName rule x then some 5 else none := rfl
theorem refis_w (s : List Nat) (x : Ln.W) (w : World) (hx : ∀ c ∈ x.text, c < 256) (hs : ∀ c ∈ s, c < 256) :
    Calls Try.prog 52 #[.agg (cellsW x).toArray, .string (str s)] w fun e w' => e = .returned (.bool (Mn.isW s x)) ∧ Below w.heap.size w w' := refis_any x s w hx hs
theorem str_is {t m : List Nat} (ht : ∀ c ∈ t, c < 256) (hm : ∀ c ∈ m, c < 256) : ((str t).toList == m.map UInt8.ofNat) = decide (t = m) := by
  rw [← str_toList m]
  exact str_eq ht hm
theorem grown_below {w w1 w2 : World} {row : Option Nat} (h : w.grownBy w1 row) (hb : Below w.heap.size w1 w2) : w.grownBy w2 row := ⟨hb.os.trans h.os, hb.tape.trans h.tape, hb.output.trans h.output, Nat.le_trans h.size hb.size, fun j hj hr => (hb.block j hj).trans (h.block j hj hr)⟩
theorem grown_same (w : World) (row : Option Nat) : w.grownBy w row := ⟨rfl, rfl, rfl, Nat.le_refl _, fun _ _ _ => rfl⟩
theorem OwnT.grownG {w w' : World} {base g : Nat} {u : Value} {L : List (List Nat)} (h : OwnT w base u L) (hg : w.grownBy w' (some g)) (hlt : g < base) : OwnT w' base u L :=
  World.ownsRow.kept h hg (by
    cases hu : u.ownBlock with
    | none => exact .inl rfl
    | some k =>
      refine .inr fun e => ?_
      injection e with e
      have := (h.lt k hu).1
      omega)
/-- What is told of names. -/
def NamesIs (w : World) (g : Nat) (rv dv lv fv : Value) (e : Mn.F) (L : List Ln.W) (en : Ending) (w' : World) : Mn.R (List (List Nat) × List Ln.W) → Prop
  | .ok (o, rest) => (∃ u j, en = .returned (.tuple #[u, .int .i64 ((j : Nat) : Int)]) ∧ j ≤ L.length ∧ L.drop j = rest ∧ OwnT w' w.heap.size u o ∧ Pb w' g rv dv lv fv e) ∧ w.grownBy w' (some g)
  | .bad f => (∃ u j, en = .returned (.tuple #[u, .int .i64 ((j : Nat) : Int)]) ∧ j ≤ L.length ∧ (∃ o, OwnT w' w.heap.size u o) ∧ Pb w' g rv dv lv fv f) ∧ w.grownBy w' (some g)
/-- How far names are read. -/
def Ne (most : Nat) (rule : Bool) (a b : List Nat) (L : List Ln.W) (i j : Nat) (out : List (List Nat)) (e ee : Mn.F) : Prop :=
  (ee = e ∧ Mn.names most rule (fun x => Mn.isW a x || Mn.isW b x) (L.drop i) [] = Mn.names most rule (fun x => Mn.isW a x || Mn.isW b x) (L.drop j) out) ∨ (ee.k ≠ 0 ∧ Mn.names most rule (fun x => Mn.isW a x || Mn.isW b x) (L.drop i) [] = .bad ee)
theorem ne_told {w wr : World} {g : Nat} {rv dv lv fv : Value} {most i j : Nat} {rule : Bool} {a b : List Nat} {L : List Ln.W} {out : List (List Nat)} {e ee : Mn.F} {u : Value} (h : Ne most rule a b L i j out e ee) (h0 : e.k = 0) (hj : j ≤ L.length) (hO : OwnT wr w.heap.size u out) (hP : Pb wr g rv dv lv fv ee) (hG : w.grownBy wr (some g))
    (hend : ee.k = 0 → Mn.names most rule (fun x => Mn.isW a x || Mn.isW b x) (L.drop j) out = .ok (out, L.drop j)) : NamesIs w g rv dv lv fv e L (.returned (.tuple #[u, .int .i64 ((j : Nat) : Int)])) wr (Mn.names most rule (fun x => Mn.isW a x || Mn.isW b x) (L.drop i) []) := by
  rcases h with ⟨rfl, h⟩ | ⟨hk, h⟩
  · rw [h, hend h0]
    exact ⟨⟨u, j, rfl, hj, rfl, hO, hP⟩, hG⟩
  · rw [h]
    exact ⟨⟨u, j, rfl, hj, ⟨out, hO⟩, hP⟩, hG⟩
theorem names_under {w wr w' : World} {g : Nat} {rv dv lv fv : Value} {e : Mn.F} {L : List Ln.W} {en : Ending} {T : Mn.R (List (List Nat) × List Ln.W)} (h : NamesIs w g rv dv lv fv e L en wr T) (hb : Below wr.heap.size wr w') : NamesIs w g rv dv lv fv e L en w' T := by
  rcases T with ⟨o, rest⟩ | f
  · obtain ⟨⟨u, j, he, hj, hd, ho, hp⟩, hg⟩ := h
    exact ⟨⟨u, j, he, hj, hd, ho.under hb, hp.under hb⟩, grown_on hg (Below.toGrown hb _)⟩
  · obtain ⟨⟨u, j, he, hj, ⟨o, ho⟩, hp⟩, hg⟩ := h
    exact ⟨⟨u, j, he, hj, ⟨o, ho.under hb⟩, hp.under hb⟩, grown_on hg (Below.toGrown hb _)⟩
theorem ne_first {most i j : Nat} {rule : Bool} {a b : List Nat} {L : List Ln.W} {out : List (List Nat)} {e ee : Mn.F} (h : Ne most rule a b L i j out e ee) (hk : ee.k = 0) : ee = e ∧ Mn.names most rule (fun x => Mn.isW a x || Mn.isW b x) (L.drop i) [] = Mn.names most rule (fun x => Mn.isW a x || Mn.isW b x) (L.drop j) out := by
  rcases h with h | ⟨h, _⟩
  · exact h
  · exact absurd hk h
theorem names_at {most j : Nat} {rule : Bool} {stop : Ln.W → Bool} {L : List Ln.W} {out : List (List Nat)} (hj : j < L.length) : Mn.names most rule stop (L.drop j) out = (if stop (L[j]'hj) then .ok (out, L.drop j) else match Mn.chk rule (L[j]'hj) with
    | some k => .bad (Mn.fw k (L[j]'hj))
    | none => if most ≤ out.length then .bad (Mn.fw 7 (L[j]'hj)) else Mn.names most rule stop (L.drop (j + 1)) (out ++ [(L[j]'hj).text])) := by
  rw [List.drop_eq_getElem_cons hj, Mn.names]
  rfl
set_option maxRecDepth 100000 in
set_option maxHeartbeats 16000000 in
theorem refnames_any (g i most : Nat) (rule : Bool) (a b : List Nat) (v : Value) (L : List Ln.W) (rv dv lv fv : Value) (e : Mn.F) (w : World) (h : Pb w g rv dv lv fv e) (h0 : e.k = 0) (hv : RdW w v L) (hne : v.ownBlock ≠ some g) (hL : L.length ≤ 1000000) (hi : i ≤ L.length) (hm : most ≤ 1000)
    (ht : ∀ x ∈ L, (∀ c ∈ x.text, c < 256) ∧ x.text.length ≤ 1099511627776) (ha : ∀ c ∈ a, c < 256) (hb : ∀ c ∈ b, c < 256) :
    Calls Try.prog 55 #[.pointer (some ⟨g, 0, none⟩), v, .int .i64 (i : Int), .int .i64 (most : Int), .bool rule, .string (str a), .string (str b)] w fun en w' =>
      NamesIs w g rv dv lv fv e L en w' (Mn.names most rule (fun x => Mn.isW a x || Mn.isW b x) (L.drop i) []) := by
  have H := Lib.hid h
  have HV := Lib.hid hv
  have HT := Lib.hid ht
  have HNE := Lib.hid hne
  have HA := Lib.hid ha
  have HB := Lib.hid hb
  have HE0 := Lib.hid h0
  have HM := Lib.hid hm
  have hgs := Blk.size h
  have HGS := Lib.hid hgs
  obtain ⟨A, c, rfl, hc⟩ := hv.parts2
  obtain ⟨n, hn⟩ : ∃ n, L.length = n := ⟨_, rfl⟩
  rw [hn] at HV HNE hL hi hc ⊢
  have HN := Lib.hid hn
  have HLI := Lib.hid (show n ≤ 1000000 ∧ i ≤ n from ⟨hL, hi⟩)
  obtain ⟨sa, hsa⟩ : ∃ sa, str a = sa := ⟨_, rfl⟩
  obtain ⟨sb, hsb⟩ : ∃ sb, str b = sb := ⟨_, rfl⟩
  have HISA : Hid (∀ W (x : Ln.W), (∀ c ∈ x.text, c < 256) → Calls Try.prog 52 #[.agg (cellsW x).toArray, .string sa] W fun e w' => e = .returned (.bool (Mn.isW a x)) ∧ Below W.heap.size W w') := Lib.hid (fun W x hx => by rw [← hsa]; exact refis_w a x W hx HA.out)
  have HISB : Hid (∀ W (x : Ln.W), (∀ c ∈ x.text, c < 256) → Calls Try.prog 52 #[.agg (cellsW x).toArray, .string sb] W fun e w' => e = .returned (.bool (Mn.isW b x)) ∧ Below W.heap.size W w') := Lib.hid (fun W x hx => by rw [← hsb]; exact refis_w b x W hx HB.out)
  rw [hsa, hsb]
  clear h hv ht hne ha hb h0 hm hgs hn hsa hsb hL hi hc
  go_enter Try.func55, Try.ntmps55
  go_wp2_with fail
  go_loopg [2, 16] (n + 1) (fun gg iv ov wr => ∃ (j : Nat) (out : List (List Nat)) (ee : Mn.F), Hid (i ≤ j ∧ j ≤ n ∧ n + 1 - j ≤ gg ∧ out.length ≤ j) ∧ iv = .int .i64 (j : Int) ∧ Hid (Ne most rule a b L i j out e ee) ∧ Hid (OwnT wr w.heap.size ov out) ∧ Hid (Pb wr g rv dv lv fv ee) ∧ Hid (w.grownBy wr (some g)))
  case atStart => exact ⟨i, [], e, Lib.hid (by have := HLI.out; simp; omega), rfl, Lib.hid (.inl ⟨rfl, rfl⟩), Lib.hid (ownT_none _ _), H, Lib.hid ⟨rfl, rfl, rfl, Nat.le_refl _, fun _ _ _ => rfl⟩⟩
  case round =>
    obtain ⟨j, out, ee, HJ, rfl, hNe, hO, hP, hG⟩ := hrel
    obtain ⟨wz, rfl⟩ : ∃ wx : World, wx = wr := ⟨_, rfl⟩
    have p4 := hP.out.at 4
    change wz.cell? ⟨g, 4, none⟩ = some (.int .i64 (ee.k : Int)) at p4
    by_cases hlt : j < n
    · have hltI : (j : Int) < (n : Int) := by omega
      have hjL : j < L.length := by rw [HN.out]; exact hlt
      by_cases hk0 : ee.k = 0
      · have hk0I : ((ee.k : Int) == 0) = true := by simp; omega
        obtain ⟨rfl, hnm⟩ := ne_first hNe.out hk0
        have hnx := names_at (most := most) (rule := rule) (stop := fun x => Mn.isW a x || Mn.isW b x) (out := out) hjL
        rw [← hnm] at hnx
        obtain ⟨B, off, rfl, a0, a1, a2, a3⟩ := (HV.out.grown hG.out (.inr HNE.out)).at2 j hjL
        have HTX := Lib.hid (HT.out _ (List.getElem_mem hjL))
        obtain ⟨x, hx⟩ : ∃ x, L[j]'hjL = x := ⟨_, rfl⟩
        rw [hx] at a0 a1 a2 a3 HTX hnx
        have HNX := Lib.hid hnx
        have HXJ := Lib.hid hx
        clear hx hnx hnm
        rcases hsa : Mn.isW a x with _ | _
        · rcases hsb : Mn.isW b x with _ | _
          · have HIA := HISA.out
            have HNX2 : Hid (Mn.names most rule (fun x => Mn.isW a x || Mn.isW b x) (L.drop i) [] = match Mn.chk rule x with
              | some k => .bad (Mn.fw k x)
              | none => if most ≤ out.length then .bad (Mn.fw 7 x) else Mn.names most rule (fun x => Mn.isW a x || Mn.isW b x) (L.drop (j + 1)) (out ++ [x.text])) := Lib.hid (by rw [HNX.out]; simp only [hsa, hsb]; rfl)
            have HCA : Hid (∀ W, Calls Try.prog 52 #[.agg (cellsW x).toArray, .string sa] W fun e w' => e = .returned (.bool false) ∧ Below W.heap.size W w') := Lib.hid (fun W => by rw [← hsa]; exact HISA.out W x HTX.out.1)
            have HCB : Hid (∀ W, Calls Try.prog 52 #[.agg (cellsW x).toArray, .string sb] W fun e w' => e = .returned (.bool false) ∧ Below W.heap.size W w') := Lib.hid (fun W => by rw [← hsb]; exact HISB.out W x HTX.out.1)
            clear hsa hsb HIA HNX
            obtain ⟨xt, xl, xc, xq⟩ := x
            change wz.cell? ⟨B, off + j * 4, none⟩ = some (.string (str xt)) at a0
            change wz.cell? ⟨B, off + j * 4 + 1, none⟩ = some (.int .i64 (xl : Int)) at a1
            change wz.cell? ⟨B, off + j * 4 + 2, none⟩ = some (.int .i64 (xc : Int)) at a2
            change wz.cell? ⟨B, off + j * 4 + 3, none⟩ = some (.bool xq) at a3
            obtain ⟨s, hs⟩ : ∃ s, str xt = s := ⟨_, rfl⟩
            rw [hs] at a0
            rw [show (cellsW ⟨xt, xl, xc, xq⟩).toArray = #[.string s, .int .i64 (xl : Int), .int .i64 (xc : Int), .bool xq] from by rw [← hs]; rfl] at HCA HCB
            have HS := Lib.hid hs
            clear hs
            go_wp2_with fail
            refine (HCA.out _).mono ?_
            rintro en w1 ⟨rfl, hb1⟩
            have b0 := cell_later hb1 a0
            have b1 := cell_later hb1 a1
            have b2 := cell_later hb1 a2
            have b3 := cell_later hb1 a3
            clear a0 a1 a2 a3 p4
            go_wp2_with fail
            refine (HCB.out _).mono ?_
            rintro en w2 ⟨rfl, hb2⟩
            have a0 := cell_later hb2 b0
            have a1 := cell_later hb2 b1
            have a2 := cell_later hb2 b2
            have a3 := cell_later hb2 b3
            have hb3 : Below wz.heap.size wz w2 := hb1.trans (hb2.mono hb1.size)
            have HB3 := Lib.hid hb3
            have HO2 := Lib.hid (hO.out.under hb3)
            have HP2 := Lib.hid (hP.out.under hb3)
            have HG2 := Lib.hid (grown_on hG.out (Below.toGrown hb3 (some g)))
            clear hb1 hb2 hb3 b0 b1 b2 b3 HCA HCB hO hP hG
            go_upto_region 3 with fail
            have HCS : Hid (∀ W, Calls Try.prog 67 #[.agg #[.string s, .int .i64 (xl : Int), .int .i64 (xc : Int), .bool xq]] W fun e w' => e = .returned (.bool (Mn.aSign ⟨xt, xl, xc, xq⟩)) ∧ Below W.heap.size W w') := Lib.hid (fun W => by rw [← HS.out]; exact refasign_any ⟨xt, xl, xc, xq⟩ W HTX.out.1)
            have HAT : Hid (∀ (W : World) (K : Nat), Pb W g rv dv lv fv ee → Calls Try.prog 28 #[.pointer (some ⟨g, 0, none⟩), .int .i64 (K : Int), .agg #[.string s, .int .i64 (xl : Int), .int .i64 (xc : Int), .bool xq]] W fun en w' => en = .returned (.tuple #[]) ∧ Pb w' g rv dv lv fv ⟨K, xl, xc⟩ ∧ W.grownBy w' (some g)) := Lib.hid (fun W K hp => by
              have := refat_any g K ⟨xt, xl, xc, xq⟩ rv dv lv fv ee W hp
              rw [show (cellsW ⟨xt, xl, xc, xq⟩).toArray = #[.string s, .int .i64 (xl : Int), .int .i64 (xc : Int), .bool xq] from by rw [← HS.out]; rfl] at this
              unfold fstF at this
              rw [if_pos hk0] at this
              exact this)
            have HOK : Hid (∀ W, Calls Try.prog 71 #[.string s] W fun e w' => e = .returned (.bool (Nm.ok xt)) ∧ W = w') := Lib.hid (fun W => by rw [← HS.out]; exact refok_any xt W HTX.out.1 HTX.out.2)
            go_wp2_with fail
            refine (HCS.out _).mono ?_
            rintro en w3 ⟨rfl, hb4⟩
            have z0 := cell_later hb4 a0
            have z1 := cell_later hb4 a1
            have z2 := cell_later hb4 a2
            have z3 := cell_later hb4 a3
            have HO3 := Lib.hid (HO2.out.under hb4)
            have HP3 := Lib.hid (HP2.out.under hb4)
            have HG3 := Lib.hid (grown_on HG2.out (Below.toGrown hb4 (some g)))
            clear hb4 a0 a1 a2 a3 HCS HO2 HP2 HG2
            rcases hsg : Mn.aSign ⟨xt, xl, xc, xq⟩ with _ | _
            · have hman : (s.toList == [109, 97, 110, 105, 102, 101, 115, 116]) = decide (xt = Mn.manifest) := by rw [← HS.out]; exact str_is (m := Mn.manifest) HTX.out.1 (by decide)
              have htra : (s.toList == [116, 114, 97, 99, 101]) = decide (xt = Mn.trace) := by rw [← HS.out]; exact str_is (m := Mn.trace) HTX.out.1 (by decide)
              obtain ⟨mb, hmb⟩ : ∃ mb, decide (xt = Mn.manifest) = mb := ⟨_, rfl⟩
              obtain ⟨tb, htb⟩ : ∃ tb, decide (xt = Mn.trace) = tb := ⟨_, rfl⟩
              obtain ⟨ok, hok⟩ : ∃ ok, Nm.ok xt = ok := ⟨_, rfl⟩
              rw [hmb] at hman
              rw [htb] at htra
              rw [hok] at HOK
              have HBN : Hid (badName rule ⟨xt, xl, xc, xq⟩ = (xq || !ok || (rule && (mb || tb)))) := Lib.hid (by unfold badName; rw [hok, hmb, htb])
              clear hmb htb hok
              go_upto_region 5 with fail
              go_cut [59] (fun s59 wx => s59 = .bool (badName rule ⟨xt, xl, xc, xq⟩) ∧ wx = w3)
              case first =>
                rcases xq with _ | _
                · rcases ok with _ | _
                  · go_wp2_with (go_at_call 71; refine (HOK.out _).mono ?_; rintro en w5 ⟨rfl, rfl⟩)
                    go_meet
                    exact ⟨by rw [HBN.out] <;> rfl, rfl⟩
                  · rcases rule with _ | _
                    · go_wp2_with (go_at_call 71; refine (HOK.out _).mono ?_; rintro en w5 ⟨rfl, rfl⟩)
                      go_meet
                      exact ⟨by rw [HBN.out] <;> rfl, rfl⟩
                    · rcases mb with _ | _
                      · rcases tb with _ | _
                        · go_wp2_with (go_at_call 71; refine (HOK.out _).mono ?_; rintro en w5 ⟨rfl, rfl⟩)
                          go_meet
                          exact ⟨by rw [HBN.out] <;> rfl, rfl⟩
                        · go_wp2_with (go_at_call 71; refine (HOK.out _).mono ?_; rintro en w5 ⟨rfl, rfl⟩)
                          go_meet
                          exact ⟨by rw [HBN.out] <;> rfl, rfl⟩
                      · go_wp2_with (go_at_call 71; refine (HOK.out _).mono ?_; rintro en w5 ⟨rfl, rfl⟩)
                        go_meet
                        exact ⟨by rw [HBN.out] <;> rfl, rfl⟩
                · go_wp2_with fail
                  go_meet
                  exact ⟨by rw [HBN.out] <;> simp, rfl⟩
              case rest =>
                obtain ⟨rfl, hwc⟩ := hcut
                obtain rfl : wc = w3 := hwc
                have HCK : Hid (Mn.chk rule ⟨xt, xl, xc, xq⟩ = if badName rule ⟨xt, xl, xc, xq⟩ then some 5 else none) := Lib.hid (by rw [chk_is, hsg]; rfl)
                clear hman htra hsg HBN HOK
                rcases hbn : badName rule ⟨xt, xl, xc, xq⟩ with _ | _
                · have HCK2 : Hid (Mn.chk rule ⟨xt, xl, xc, xq⟩ = none) := Lib.hid (by rw [HCK.out, hbn]; rfl)
                  clear hbn
                  obtain ⟨Ao, co, hou⟩ : ∃ A c, u16 = .slice A out.length c := by
                    rcases HO3.out.2 with ⟨hu, h0⟩ | ⟨g', cap, cur, hu, _⟩
                    · exact ⟨none, 0, by rw [hu, h0]⟩
                    · exact ⟨_, _, hu⟩
                  subst hou
                  obtain ⟨on, hon⟩ : ∃ on, out.length = on := ⟨_, rfl⟩
                  rw [hon] at HO3 ⊢
                  have HON := Lib.hid hon
                  clear hon
                  by_cases hmo : most ≤ on
                  · have hmoI : (most : Int) ≤ (on : Int) := by omega
                    have HNJ : Hid (Ne most rule a b L i (j + 1) (out ++ [xt]) ee ⟨7, xl, xc⟩) := Lib.hid (.inr ⟨by show (7 : Nat) ≠ 0; decide, by rw [HNX2.out, HCK2.out]; show (if most ≤ out.length then _ else _) = _; rw [if_pos (by rw [HON.out]; exact hmo)]; rfl⟩)
                    go_wp2_with fail
                    refine (HAT.out _ 7 HP3.out).mono ?_
                    rintro en w4 ⟨rfl, hp4, hg4⟩
                    have HP4 := Lib.hid hp4
                    have HG4 := Lib.hid hg4
                    clear hp4 hg4 hmoI hmo
                    go_upto_region 9 with fail
                    have HOq := Lib.hid (HO3.out.grownG HG4.out HGS.out)
                    have HGq := Lib.hid (grown_on HG3.out HG4.out)
                    obtain rfl : str xt = s := HS.out
                    obtain ⟨B', off', e', q0, -, -, -⟩ := (HV.out.grown HGq.out (.inr HNE.out)).at2 j hjL
                    rw [HXJ.out] at q0
                    cases e'
                    change w4.cell? ⟨B, off + j * 4, none⟩ = some (.string (str xt)) at q0
                    have HZO : Hid (out.length ≤ 1000000) := Lib.hid (by have := HJ.out; have := HLI.out; omega)
                    clear z0 z1 z2 z3 hk0I
                    go_wp2_with (at_builtin; refine wpList_append_text rfl _ _ rfl w.heap.size _ out xt rfl HOq.out rfl (0, 0) (by have := HZO.out; omega) HGq.out.size (out ++ [xt]) rfl ?_)
                    rintro u' w6 ⟨hO6, -, hb6⟩
                    have HO6 := Lib.hid hO6
                    have HP6 : Hid (Pb w6 g rv dv lv fv ⟨7, xl, xc⟩) := Lib.hid (Blk.below (Blk.alloc HP4.out _) hb6 HGS.out)
                    have HG6 := Lib.hid (grown_below HGq.out (((Below.refl _ _).alloc (Nat.le_refl _) _).mono HGq.out.size |>.trans hb6))
                    clear hO6 hb6 q0
                    have hj8 : j ≤ 1000000 := by have := HLI.out; omega
                    go_wp2
                    go_roundg (n + 1 - (j + 1))
                    case measure => have := HJ.out; omega
                    case rel => exact ⟨j + 1, out ++ [xt], ⟨7, xl, xc⟩, Lib.hid (by have := HJ.out; rw [List.length_append, List.length_singleton]; omega), by go_num, HNJ, HO6, HP6, HG6⟩
                  · have hmoI : ¬ (most : Int) ≤ (on : Int) := by omega
                    have HNJ : Hid (Ne most rule a b L i (j + 1) (out ++ [xt]) ee ee) := Lib.hid (.inl ⟨rfl, by rw [HNX2.out, HCK2.out]; show (if most ≤ out.length then _ else _) = _; rw [if_neg (by rw [HON.out]; exact hmo)]⟩)
                    have HG4 : Hid (wc.grownBy wc (some g)) := Lib.hid (grown_same _ _)
                    go_upto_region 9 with fail
                    clear hmoI hmo
                    have HOq := Lib.hid (HO3.out.grownG HG4.out HGS.out)
                    have HGq := Lib.hid (grown_on HG3.out HG4.out)
                    obtain rfl : str xt = s := HS.out
                    obtain ⟨B', off', e', q0, -, -, -⟩ := (HV.out.grown HGq.out (.inr HNE.out)).at2 j hjL
                    rw [HXJ.out] at q0
                    cases e'
                    change wc.cell? ⟨B, off + j * 4, none⟩ = some (.string (str xt)) at q0
                    have HZO : Hid (out.length ≤ 1000000) := Lib.hid (by have := HJ.out; have := HLI.out; omega)
                    clear z0 z1 z2 z3 hk0I
                    go_wp2_with (at_builtin; refine wpList_append_text rfl _ _ rfl w.heap.size _ out xt rfl HOq.out rfl (0, 0) (by have := HZO.out; omega) HGq.out.size (out ++ [xt]) rfl ?_)
                    rintro u' w6 ⟨hO6, -, hb6⟩
                    have HO6 := Lib.hid hO6
                    have HP6 : Hid (Pb w6 g rv dv lv fv ee) := Lib.hid (Blk.below (Blk.alloc HP3.out _) hb6 HGS.out)
                    have HG6 := Lib.hid (grown_below HGq.out (((Below.refl _ _).alloc (Nat.le_refl _) _).mono HGq.out.size |>.trans hb6))
                    clear hO6 hb6 q0
                    have hj8 : j ≤ 1000000 := by have := HLI.out; omega
                    go_wp2
                    go_roundg (n + 1 - (j + 1))
                    case measure => have := HJ.out; omega
                    case rel => exact ⟨j + 1, out ++ [xt], ee, Lib.hid (by have := HJ.out; rw [List.length_append, List.length_singleton]; omega), by go_num, HNJ, HO6, HP6, HG6⟩
                · have HNJ : Hid (Ne most rule a b L i (j + 1) (out ++ [xt]) ee ⟨5, xl, xc⟩) := Lib.hid (.inr ⟨by show (5 : Nat) ≠ 0; decide, by rw [HNX2.out, HCK.out, hbn]; rfl⟩)
                  clear hbn
                  go_wp2_with fail
                  refine (HAT.out _ 5 HP3.out).mono ?_
                  rintro en w4 ⟨rfl, hp4, hg4⟩
                  have HP4 := Lib.hid hp4
                  have HG4 := Lib.hid hg4
                  clear hp4 hg4
                  go_upto_region 9 with fail
                  have HOq := Lib.hid (HO3.out.grownG HG4.out HGS.out)
                  have HGq := Lib.hid (grown_on HG3.out HG4.out)
                  obtain rfl : str xt = s := HS.out
                  obtain ⟨B', off', e', q0, -, -, -⟩ := (HV.out.grown HGq.out (.inr HNE.out)).at2 j hjL
                  rw [HXJ.out] at q0
                  cases e'
                  change w4.cell? ⟨B, off + j * 4, none⟩ = some (.string (str xt)) at q0
                  have HZO : Hid (out.length ≤ 1000000) := Lib.hid (by have := HJ.out; have := HLI.out; omega)
                  clear z0 z1 z2 z3 hk0I
                  go_wp2_with (at_builtin; refine wpList_append_text rfl _ _ rfl w.heap.size _ out xt rfl HOq.out rfl (0, 0) (by have := HZO.out; omega) HGq.out.size (out ++ [xt]) rfl ?_)
                  rintro u' w6 ⟨hO6, -, hb6⟩
                  have HO6 := Lib.hid hO6
                  have HP6 : Hid (Pb w6 g rv dv lv fv ⟨5, xl, xc⟩) := Lib.hid (Blk.below (Blk.alloc HP4.out _) hb6 HGS.out)
                  have HG6 := Lib.hid (grown_below HGq.out (((Below.refl _ _).alloc (Nat.le_refl _) _).mono HGq.out.size |>.trans hb6))
                  clear hO6 hb6 q0
                  have hj8 : j ≤ 1000000 := by have := HLI.out; omega
                  go_wp2
                  go_roundg (n + 1 - (j + 1))
                  case measure => have := HJ.out; omega
                  case rel => exact ⟨j + 1, out ++ [xt], ⟨5, xl, xc⟩, Lib.hid (by have := HJ.out; rw [List.length_append, List.length_singleton]; omega), by go_num, HNJ, HO6, HP6, HG6⟩
            · have HNJ : Hid (Ne most rule a b L i (j + 1) (out ++ [xt]) ee ⟨4, xl, xc⟩) := Lib.hid (.inr ⟨by show (4 : Nat) ≠ 0; decide, by rw [HNX2.out, chk_is, hsg]; rfl⟩)
              clear hsg
              go_wp2_with fail
              refine (HAT.out w3 4 HP3.out).mono ?_
              rintro en w4 ⟨rfl, hp4, hg4⟩
              have HP4 := Lib.hid hp4
              have HG4 := Lib.hid hg4
              clear hp4 hg4
              go_upto_region 9 with fail
              have HOq := Lib.hid (HO3.out.grownG HG4.out HGS.out)
              have HGq := Lib.hid (grown_on HG3.out HG4.out)
              obtain rfl : str xt = s := HS.out
              obtain ⟨B', off', e', q0, -, -, -⟩ := (HV.out.grown HGq.out (.inr HNE.out)).at2 j hjL
              rw [HXJ.out] at q0
              cases e'
              change w4.cell? ⟨B, off + j * 4, none⟩ = some (.string (str xt)) at q0
              have HZO : Hid (out.length ≤ 1000000) := Lib.hid (by have := HJ.out; have := HLI.out; omega)
              clear z0 z1 z2 z3 hk0I
              go_wp2_with (at_builtin; refine wpList_append_text rfl _ _ rfl w.heap.size _ out xt rfl HOq.out rfl (0, 0) (by have := HZO.out; omega) HGq.out.size (out ++ [xt]) rfl ?_)
              rintro u' w6 ⟨hO6, -, hb6⟩
              have HO6 := Lib.hid hO6
              have HP6 : Hid (Pb w6 g rv dv lv fv ⟨4, xl, xc⟩) := Lib.hid (Blk.below (Blk.alloc HP4.out _) hb6 HGS.out)
              have HG6 := Lib.hid (grown_below HGq.out (((Below.refl _ _).alloc (Nat.le_refl _) _).mono HGq.out.size |>.trans hb6))
              clear hO6 hb6 q0
              have hj8 : j ≤ 1000000 := by have := HLI.out; omega
              go_wp2
              go_roundg (n + 1 - (j + 1))
              case measure => have := HJ.out; omega
              case rel => exact ⟨j + 1, out ++ [xt], ⟨4, xl, xc⟩, Lib.hid (by have := HJ.out; rw [List.length_append, List.length_singleton]; omega), by go_num, HNJ, HO6, HP6, HG6⟩
          · have HTL := Lib.hid (ne_told hNe.out HE0.out (by rw [HN.out]; have := HJ.out; omega) hO.out hP.out hG.out (fun _ => by
              have := names_at (most := most) (rule := rule) (stop := fun x => Mn.isW a x || Mn.isW b x) (out := out) hjL
              rw [HXJ.out] at this
              rw [this]
              simp only [hsa, hsb]
              rfl))
            have HCA : Hid (∀ W, Calls Try.prog 52 #[.agg (cellsW x).toArray, .string sa] W fun e w' => e = .returned (.bool false) ∧ Below W.heap.size W w') := Lib.hid (fun W => by rw [← hsa]; exact HISA.out W x HTX.out.1)
            have HCB : Hid (∀ W, Calls Try.prog 52 #[.agg (cellsW x).toArray, .string sb] W fun e w' => e = .returned (.bool true) ∧ Below W.heap.size W w') := Lib.hid (fun W => by rw [← hsb]; exact HISB.out W x HTX.out.1)
            clear hsa hsb HNX HXJ
            obtain ⟨xt, xl, xc, xq⟩ := x
            change wz.cell? ⟨B, off + j * 4, none⟩ = some (.string (str xt)) at a0
            change wz.cell? ⟨B, off + j * 4 + 1, none⟩ = some (.int .i64 (xl : Int)) at a1
            change wz.cell? ⟨B, off + j * 4 + 2, none⟩ = some (.int .i64 (xc : Int)) at a2
            change wz.cell? ⟨B, off + j * 4 + 3, none⟩ = some (.bool xq) at a3
            obtain ⟨s, hs⟩ : ∃ s, str xt = s := ⟨_, rfl⟩
            rw [hs] at a0
            rw [show (cellsW ⟨xt, xl, xc, xq⟩).toArray = #[.string s, .int .i64 (xl : Int), .int .i64 (xc : Int), .bool xq] from by rw [← hs]; rfl] at HCA HCB
            clear hs
            go_wp2_with fail
            refine (HCA.out _).mono ?_
            rintro en w1 ⟨rfl, hb1⟩
            have b0 := cell_later hb1 a0
            have b1 := cell_later hb1 a1
            have b2 := cell_later hb1 a2
            have b3 := cell_later hb1 a3
            clear a0 a1 a2 a3
            go_wp2_with fail
            refine (HCB.out _).mono ?_
            rintro en w2 ⟨rfl, hb2⟩
            have HE2 : Hid (NamesIs w g rv dv lv fv ee L (.returned (.tuple #[u16, .int .i64 ((j : Nat) : Int)])) w2 (Mn.names most rule (fun x => Mn.isW a x || Mn.isW b x) (L.drop i) [])) := Lib.hid (names_under HTL.out (hb1.trans (hb2.mono hb1.size)))
            clear hb1 hb2 b0 b1 b2 b3
            go_wp2
            go_ret2
            exact HE2.out
        · have HTL := Lib.hid (ne_told hNe.out HE0.out (by rw [HN.out]; have := HJ.out; omega) hO.out hP.out hG.out (fun _ => by
            have := names_at (most := most) (rule := rule) (stop := fun x => Mn.isW a x || Mn.isW b x) (out := out) hjL
            rw [HXJ.out] at this
            rw [this]
            simp only [hsa]
            rfl))
          have HCA : Hid (∀ W, Calls Try.prog 52 #[.agg (cellsW x).toArray, .string sa] W fun e w' => e = .returned (.bool true) ∧ Below W.heap.size W w') := Lib.hid (fun W => by rw [← hsa]; exact HISA.out W x HTX.out.1)
          clear hsa HNX HXJ
          obtain ⟨xt, xl, xc, xq⟩ := x
          change wz.cell? ⟨B, off + j * 4, none⟩ = some (.string (str xt)) at a0
          change wz.cell? ⟨B, off + j * 4 + 1, none⟩ = some (.int .i64 (xl : Int)) at a1
          change wz.cell? ⟨B, off + j * 4 + 2, none⟩ = some (.int .i64 (xc : Int)) at a2
          change wz.cell? ⟨B, off + j * 4 + 3, none⟩ = some (.bool xq) at a3
          obtain ⟨s, hs⟩ : ∃ s, str xt = s := ⟨_, rfl⟩
          rw [hs] at a0
          rw [show (cellsW ⟨xt, xl, xc, xq⟩).toArray = #[.string s, .int .i64 (xl : Int), .int .i64 (xc : Int), .bool xq] from by rw [← hs]; rfl] at HCA
          clear hs
          go_wp2_with fail
          refine (HCA.out _).mono ?_
          rintro en w1 ⟨rfl, hb1⟩
          have HE2 : Hid (NamesIs w g rv dv lv fv ee L (.returned (.tuple #[u16, .int .i64 ((j : Nat) : Int)])) w1 (Mn.names most rule (fun x => Mn.isW a x || Mn.isW b x) (L.drop i) [])) := Lib.hid (names_under HTL.out hb1)
          clear hb1 a0 a1 a2 a3
          go_wp2
          go_ret2
          exact HE2.out
      · have hk0I : ((ee.k : Int) == 0) = false := by simp; omega
        have HTL := Lib.hid (ne_told hNe.out HE0.out (by rw [HN.out]; have := HJ.out; omega) hO.out hP.out hG.out (fun h => absurd h hk0))
        go_wp2_with fail
        go_ret2
        exact HTL.out
    · obtain rfl : j = n := by have := HJ.out; omega
      have HTL := Lib.hid (ne_told hNe.out HE0.out (by rw [HN.out]; exact Nat.le_refl _) hO.out hP.out hG.out (fun _ => by rw [List.drop_of_length_le (by rw [HN.out]; exact Nat.le_refl _)]; rfl))
      go_wp2_with fail
      go_ret2
      exact HTL.out
end Go.Proofs.Ytemliglhippdcaa
