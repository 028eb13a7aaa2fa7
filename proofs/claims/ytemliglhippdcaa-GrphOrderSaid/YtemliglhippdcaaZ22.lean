/- How package acts reads words: the signs between parts, the kind, the text, the number. -/
import Derived.Test.YtemliglhippdcaaZ05
import Derived.Test.YtemliglhippdcaaActOne
import Derived.Test.YtemliglhippdcaaZ14
import Derived.Lib.Hide
import Derived.Deep.RegionWith
import Derived.Deep.RegionHeld3
import Derived.Deep.DeepCutAuto
import Derived.Deep.CutRange
namespace Go.Proofs.Ytemliglhippdcaa
set_option maxRecDepth 100000
open Go.ChangeShapes Go.WideShapes Go.ChangeAt Go.RowKit

/-- The first sign between parts, or that there is none. -/
def SepAt (R : List Ln.W) : Option Nat → Prop
  | some k => ∃ hk : k < R.length, Ac.sep (R[k]'hk) = true ∧ ∀ j (hj : j < R.length), j < k → Ac.sep (R[j]'hj) = false
  | none => ∀ j (hj : j < R.length), Ac.sep (R[j]'hj) = false
def at64 : Option Nat → Int
  | some k => k
  | none => -1
end Go.Proofs.Ytemliglhippdcaa

/- How package acts reads a kind, a text, a number. -/
namespace Go.Proofs.Ytemliglhippdcaa
set_option maxRecDepth 100000
open Go.ChangeShapes Go.WideShapes Go.ChangeAt Go.RowKit

theorem differs {t : List Nat} (ht : ∀ c ∈ t, c < 256) (m : List Nat) (hm : ∀ c ∈ m, c < 256) (h : t ≠ m) : ((str t).toList == m.map UInt8.ofNat) = false := by
  have := str_same ht hm
  rw [str_toList m] at this
  rw [this]
  exact decide_eq_false h
/-- One text, quoted; one number, not quoted. -/
def textOf : List Ln.W → Option (List Nat)
  | [y] => if y.q then some y.text else none
  | _ => none
def numOf : List Ln.W → Option Int
  | [y] => if y.q then none else Ac.numE y.text
  | _ => none
theorem atoi_bounds {l : List UInt8} {v : Int} (h : Lib.atoiAll l = .ok v) : -9223372036854775808 ≤ v ∧ v ≤ 9223372036854775807 := by
  unfold Lib.atoiAll at h
  split at h
  · cases h
  · simp only at h
    split at h
    · cases h
    · cases h
    · split at h
      · cases h
      · split at h
        · cases h
        · rename_i h1 h2
          injection h with h
          subst h
          split <;> omega
end Go.Proofs.Ytemliglhippdcaa

/- How package acts reads a number: whatever the library reads, if it is written back so. -/
namespace Go.Proofs.Ytemliglhippdcaa
set_option maxRecDepth 100000
open Go.ChangeShapes Go.WideShapes Go.ChangeAt Go.RowKit

def itoaS (v : Int) : ByteArray := ⟨(Lib.itoa v).toArray⟩
theorem itoaS_eq {t : List Nat} (v : Int) : ((itoaS v).toList == (str t).toList) = decide (Lib.itoa v = t.map UInt8.ofNat) := by
  rw [str_toList]
  have : (itoaS v).toList = Lib.itoa v := by simp [itoaS]
  rw [this]
  by_cases h : Lib.itoa v = t.map UInt8.ofNat
  · rw [h, decide_eq_true rfl]; simp
  · rw [decide_eq_false h]; simpa using h
end Go.Proofs.Ytemliglhippdcaa

/- How package acts parts words at the first sign. -/
namespace Go.Proofs.Ytemliglhippdcaa
set_option maxRecDepth 100000
open Go.ChangeShapes Go.WideShapes Go.ChangeAt Go.RowKit

theorem RdW.slice {w : World} {b off n c : Nat} {R : List Ln.W} (h : RdW w (.slice (some ⟨b, off, none⟩) n c) R) {i fr : Nat} (hf : fr ≤ i) (hi : i ≤ n) {A' : Option Addr} (hA : fr < i → A' = some ⟨b, off + fr * 4, none⟩) : RdW w (.slice A' (i - fr) (c - fr)) ((R.drop fr).take (i - fr)) := by
  obtain ⟨A, c', e, h1, h2, hx⟩ := h
  injection e with e1 e2 e3
  subst e2 e3
  have hl : ((R.drop fr).take (i - fr)).length = i - fr := by rw [List.length_take, List.length_drop]; omega
  refine ⟨A', c - fr, by rw [hl], by rw [hl]; omega, by rw [hl]; omega, fun h0 => ?_⟩
  rw [hl] at h0
  obtain ⟨b', o', e4, hc⟩ := hx (by omega)
  rw [e4] at e1
  injection e1 with e1
  injection e1 with e5 e6
  subst e5 e6
  refine ⟨b, off + fr * 4, hA (by omega), fun k hk => ?_⟩
  rw [hl] at hk
  have hg : ((R.drop fr).take (i - fr))[k]'(by rw [hl]; exact hk) = R[fr + k]'(by omega) := by rw [List.getElem_take, List.getElem_drop]
  rw [hg, show off + fr * 4 + k * 4 = off + (fr + k) * 4 from by omega]
  exact hc (fr + k) (by omega)
def CutIs (w0 w : World) (v : Value) (R : List Ln.W) (e : Ending) (w' : World) : Option Nat → Prop
  | none => e = .returned (.tuple #[v, .slice none 0 0, .bool false]) ∧ Below w.heap.size w w'
  | some k => (∃ u1 u2, e = .returned (.tuple #[u1, u2, .bool true]) ∧ RdW w0 u1 (R.take k) ∧ RdW w0 u2 (R.drop (k + 1))) ∧ Below w.heap.size w w'
end Go.Proofs.Ytemliglhippdcaa

/- How package acts reads the words of one thing. -/
namespace Go.Proofs.Ytemliglhippdcaa
set_option maxRecDepth 100000
open Go.ChangeShapes Go.WideShapes Go.ChangeAt Go.RowKit

def ReadIs (w : World) (e : Ending) (w' : World) : Option Ac.E → Prop
  | some d => e = .returned (.tuple #[.agg (cellsE d).toArray, .bool true]) ∧ Below w.heap.size w w'
  | none => e = .returned (.tuple #[.agg (cellsE ⟨0, 0, []⟩).toArray, .bool false]) ∧ Below w.heap.size w w'
theorem read_none {w w' : World} {e : Ending} {T : Option Ac.E} (h : T = none) (he : e = .returned (.tuple #[.agg (cellsE ⟨0, 0, []⟩).toArray, .bool false])) (hb : Below w.heap.size w w') : ReadIs w e w' T := by
  rw [h]
  exact ⟨he, hb⟩
theorem read_some {w w' : World} {e : Ending} {T : Option Ac.E} {d : Ac.E} (h : T = some d) (he : e = .returned (.tuple #[.agg (cellsE d).toArray, .bool true])) (hb : Below w.heap.size w w') : ReadIs w e w' T := by
  rw [h]
  exact ⟨he, hb⟩
theorem kind_le (t : List Nat) : Ac.kindOf t ≤ 11 := by
  unfold Ac.kindOf
  split
  · omega
  · split <;> omega
def oneKind (k : Nat) (r : List Ln.W) : Option Ac.E :=
  if Ac.isText k then (textOf r).map fun t => ⟨k, 0, t⟩
  else if Ac.most k ≠ 0 then (numOf r).map fun v => ⟨k, v, []⟩
  else if r.length = 0 then some ⟨k, 0, []⟩ else none
theorem oneE_kind (xt : List Nat) (xl xc : Nat) (r : List Ln.W) : Ac.oneE (⟨xt, xl, xc, false⟩ :: r) = oneKind (Ac.kindOf xt) r := by
  have e2 : Ac.oneE (⟨xt, xl, xc, false⟩ :: r) = if Ac.isText (Ac.kindOf xt) then match r with
      | [y] => if y.q then some ⟨Ac.kindOf xt, 0, y.text⟩ else none
      | _ => none
    else if Ac.most (Ac.kindOf xt) ≠ 0 then match r with
      | [y] => if y.q then none else match Ac.numE y.text with
        | some v => some ⟨Ac.kindOf xt, v, []⟩
        | none => none
      | _ => none
    else match r with
      | [] => some ⟨Ac.kindOf xt, 0, []⟩
      | _ => none := by unfold Ac.oneE; rfl
  rw [e2]
  unfold oneKind
  generalize Ac.kindOf xt = k
  by_cases h1 : Ac.isText k = true
  · rw [if_pos h1, if_pos h1]
    rcases r with _ | ⟨⟨yt, yl, yc, yq⟩, _ | ⟨y2, r⟩⟩
    · rfl
    · cases yq <;> rfl
    · rfl
  · rw [if_neg h1, if_neg h1]
    by_cases h2 : Ac.most k ≠ 0
    · rw [if_pos h2, if_pos h2]
      rcases r with _ | ⟨⟨yt, yl, yc, yq⟩, _ | ⟨y2, r⟩⟩
      · rfl
      · cases yq
        · show (match Ac.numE yt with
            | some v => some (Ac.E.mk k v [])
            | none => none) = (Ac.numE yt).map _
          rcases Ac.numE yt <;> rfl
        · rfl
      · rfl
    · rw [if_neg h2, if_neg h2]
      rcases r with _ | ⟨y, r⟩
      · rfl
      · rfl
end Go.Proofs.Ytemliglhippdcaa

/- How package acts reads an action: Parse. -/
namespace Go.Proofs.Ytemliglhippdcaa
set_option maxRecDepth 100000
open Go.ChangeShapes Go.WideShapes Go.ChangeAt Go.RowKit

theorem wpList_append_doE {w : World} {ops : Array Oper} {rest : List Oper} {o : Oper} {a : Act} {Q : Exit → Act → World → Prop} (hgd : o.guard = none) (s x : Operand)
    (ho : o.op = .call { callee := .builtin .append, args := #[s, x], argTypes := #[140, 140] }) (base B : Nat) (u : Value) (R : List Ac.E) (z : Ac.E) (hs : a.eval s = u) (hst : OwnE w base u R)
    (hx : a.eval x = .slice (some ⟨B, 0, none⟩) 1 1) (hB : ∀ j y, (cellsE z)[j]? = some y → w.cell? ⟨B, j, none⟩ = some y)
    (hlen : R.length ≤ 1099511627776) (hbase : base ≤ w.heap.size) (R' : List Ac.E) (hR : R ++ [z] = R')
    (h : ∀ u' w', OwnE w' base u' R' → w.grownBy w' u.ownBlock → Below base w w' → wpList Try.prog ops Q rest (a.put o.dst u') w') : wpList Try.prog ops Q (o :: rest) a w := by
  subst hR
  obtain ⟨i, hi, hz0, hz1, hz2⟩ := info_parts infoDo
  refine wpList_append_own_at w hgd s x 140 ho base 145 i (.agg #[.int .i64 0, .int .i64 0, .string ⟨#[]⟩]) 3 32 Try.underlying140 hi hz0 hz1 hz2 (by kernel_rfl) (by decide) u R.length (rowE R) hs hst ⟨B, 0, none⟩ 1 1 (cellsE z) hx rfl ?_ (cellsE_one z) (by unfold maxLen; omega) (by omega) hbase ?_
  · intro j y hy
    rw [add_plain]
    simpa using hB j y hy
  · intro u' w' g1 g2 _ _
    refine h u' w' ?_ g2 ((Below.refl _ _).grown g2 hbase fun k hk => (World.ownsRow.lt hst k hk).1)
    unfold OwnE
    rw [List.length_append, List.length_singleton, rowE_snoc]
    exact g1
theorem do_cellsE (w : World) (o : Obj) (z : Ac.E) : ∀ j y, (cellsE z)[j]? = some y → ((w.alloc o).alloc (.cells (cellsE z).toArray 145)).cell? ⟨w.heap.size + 1, j, none⟩ = some y := fun j y hy => by
  have hs : w.heap.size + 1 = (w.alloc o).heap.size := by simp
  have h : Blk ((w.alloc o).alloc (.cells (cellsE z).toArray 145)) (w.heap.size + 1) 145 (cellsE z).toArray := by
    rw [hs]
    exact heap_alloc_new _ _
  rw [h.at j, List.getElem?_toArray]
  exact hy
theorem rdW_empty (w : World) (A : Option Addr) : RdW w (.slice A 0 0) [] := ⟨A, 0, rfl, Nat.le_refl _, Nat.zero_le _, fun h => absurd h (by simp)⟩
theorem textOf_mem {r : List Ln.W} {t : List Nat} (h : textOf r = some t) : ∃ y ∈ r, t = y.text := by
  rcases r with _ | ⟨⟨yt, yl, yc, yq⟩, _ | ⟨y2, r⟩⟩
  · cases h
  · cases yq
    · cases h
    · cases h; exact ⟨_, by simp, rfl⟩
  · cases h
theorem oneE_text {R : List Ln.W} {d : Ac.E} (h : ∀ x ∈ R, (∀ c ∈ x.text, c < 256) ∧ x.text.length ≤ 1099511627776) (hd : Ac.oneE R = some d) : d.kind ≤ 1000000 ∧ (∀ c ∈ d.text, c < 256) ∧ d.text.length ≤ 1099511627776 := by
  have hnil : (∀ c ∈ ([] : List Nat), c < 256) ∧ ([] : List Nat).length ≤ 1099511627776 := ⟨by simp, by simp⟩
  rcases R with _ | ⟨⟨xt, xl, xc, xq⟩, r⟩
  · cases hd
  cases xq with
  | true => simp [Ac.oneE] at hd
  | false =>
    rw [oneE_kind] at hd
    have hk := kind_le xt
    unfold oneKind at hd
    split at hd
    · rcases ht : textOf r with _ | t
      · rw [ht] at hd; cases hd
      · rw [ht] at hd
        cases hd
        obtain ⟨y, hy, rfl⟩ := textOf_mem ht
        exact ⟨by show Ac.kindOf xt ≤ _; omega, h y (by simp [hy])⟩
    · split at hd
      · rcases ht : numOf r with _ | t
        · rw [ht] at hd; cases hd
        · rw [ht] at hd
          cases hd
          exact ⟨by show Ac.kindOf xt ≤ _; omega, hnil⟩
      · split at hd
        · cases hd
          exact ⟨by show Ac.kindOf xt ≤ _; omega, hnil⟩
        · cases hd
/-- A part of words: what it is, and what stands behind it. -/
structure Part (R P R2 : List Ln.W) (q : Bool) : Prop where
  less : q = true → R2.length + 1 ≤ R.length
  last : q = false → R2 = []
  of1 : ∀ x ∈ P, x ∈ R
  of2 : ∀ x ∈ R2, x ∈ R
  no : ∀ M, Ac.oneE P = none → Ac.partsE [] M R = none
  on : q = true → ∀ M d, Ac.oneE P = some d → Ac.partsE [] M R = Ac.partsE [] (M ++ [d]) R2
  fin : q = false → ∀ M d, Ac.oneE P = some d → Ac.partsE [] M R = some (M ++ [d])
theorem part_of {R : List Ln.W} : (∀ j (hj : j < R.length), Ac.sep (R[j]'hj) = false) → Part R R [] false := fun h =>
  ⟨by simp, fun _ => rfl, fun _ h => h, by simp, fun M hn => by rw [Ac.partsE_last h, hn], by simp, fun _ M d hd => by rw [Ac.partsE_last h, hd]⟩
theorem part_at {R : List Ln.W} {k : Nat} (h : SepAt R (some k)) : Part R (R.take k) (R.drop (k + 1)) true := by
  obtain ⟨hk, hs, hj⟩ := h
  refine ⟨fun _ => by rw [List.length_drop]; omega, by simp, fun x hx => List.mem_of_mem_take hx, fun x hx => List.mem_of_mem_drop hx, fun M hn => by rw [Ac.partsE_cut hk hs hj, hn], fun _ M d hd => by rw [Ac.partsE_cut hk hs hj, hd], by simp⟩
def ParsedIs (w : World) (e : Ending) (w' : World) : Option (List Ac.D) → Prop
  | some L => (∃ u, e = .returned (.tuple #[u, .bool true]) ∧ OwnD w' w.heap.size u L) ∧ Below w.heap.size w w'
  | none => e = .returned (.tuple #[.slice none 0 0, .bool false]) ∧ Below w.heap.size w w'
theorem parsed_none {w w' : World} {e : Ending} {T : Option (List Ac.D)} (h : T = none) (he : e = .returned (.tuple #[.slice none 0 0, .bool false])) (hb : Below w.heap.size w w') : ParsedIs w e w' T := by
  rw [h]
  exact ⟨he, hb⟩
theorem parsed_some {w w' : World} {e : Ending} {T : Option (List Ac.D)} {M : List Ac.E} (h : T.map (List.map Ac.D.e) = some M) (u : Value) (he : e = .returned (.tuple #[u, .bool true])) (ho : OwnE w' w.heap.size u M) (hb : Below w.heap.size w w') : ParsedIs w e w' T := by
  rcases T with _ | L
  · cases h
  · cases h
    exact ⟨⟨u, he, ho.back⟩, hb⟩
theorem map_none {T : Option (List Ac.D)} (h : T.map (List.map Ac.D.e) = none) : T = none := by
  cases T with
  | none => rfl
  | some L => cases h
/-- How far an action is read. -/
structure Pe (R R2 : List Ln.W) (M : List Ac.E) (q : Bool) : Prop where
  on : q = true → Ac.partsE [] [] R = Ac.partsE [] M R2
  fin : q = false → Ac.partsE [] [] R = some M
  texts : ∀ x ∈ R2, x ∈ R
  things : ∀ d ∈ M, d.kind ≤ 1000000 ∧ (∀ c ∈ d.text, c < 256) ∧ d.text.length ≤ 1099511627776
theorem Pe.next {R R2 P R3 : List Ln.W} {M : List Ac.E} {d : Ac.E} {q : Bool} (h : Pe R R2 M true) (hp : Part R2 P R3 q) (hd : Ac.oneE P = some d) (ht : ∀ x ∈ R, (∀ c ∈ x.text, c < 256) ∧ x.text.length ≤ 1099511627776) : Pe R R3 (M ++ [d]) q := by
  refine ⟨fun hq => by rw [h.on rfl, hp.on hq M d hd], fun hq => by rw [h.on rfl, hp.fin hq M d hd], fun x hx => h.texts x (hp.of2 x hx), fun x hx => ?_⟩
  rcases List.mem_append.1 hx with hx | hx
  · exact h.things x hx
  · rw [List.mem_singleton.1 hx]
    exact oneE_text (fun y hy => ht y (h.texts y (hp.of1 y hy))) hd
end Go.Proofs.Ytemliglhippdcaa
