/- The steps of a region that draws its order, taken one by one by hand: an operation taken first, one that is not wanted passed by, the one that may come up carried out. -/
import Derived.Deep.RegionHeld3
import Derived.Test.YtoloidfkpfdboaaZKit
namespace Go.Proofs.Ytoloidfkpfdboaa
set_option maxRecDepth 100000
open Go.ChangeShapes Go.WideShapes Go.ChangeAt Go.RowKit

section
variable {P : Program} {ops : Array Oper} {Q : Exit → Act → World → Prop} {md : Region.Mode} {S : World → Prop}

/-- What reads alone yields the same in every world that meets S: it is taken first. -/
theorem takeW (i : Nat) (d : Option Nat) {oi : Oper} {v : Value} {fuel : Nat} {listed : Array Bool} {a : Act} {w : World} (hi : ops[i]? = some oi) (hd : oi.dst = d)
    (hs : Region.noSelect ops = true) (hf : Region.free md ops listed i = true) (hr : (Region.ready md ops listed).contains i = true)
    (hQ : ∀ c a w, Q (.panic c) (a.put d v) w → Q (.panic c) a w) (hw : Region.wanted oi (yielded ops a.tmps) = true) (hy : ∀ w, S w → (execOp a.eval oi).run P w = .ok (.value v) w) (hS : S w)
    (h : wpAnyH P md ops Q S fuel (listed.setIfInBounds i true) (a.put d v) w) : wpAnyH P md ops Q S (fuel + 1) listed a w := by
  subst hd
  exact wpAnyH_take hi hs hf hr hQ (Or.inl ⟨hw, hy⟩) hS h
/-- What is not wanted is passed by. -/
theorem takeU (i : Nat) (d : Option Nat) {oi : Oper} {fuel : Nat} {listed : Array Bool} {a : Act} {w : World} (hi : ops[i]? = some oi) (hd : oi.dst = d)
    (hs : Region.noSelect ops = true) (hf : Region.free md ops listed i = true) (hr : (Region.ready md ops listed).contains i = true)
    (hQ : ∀ c a w, Q (.panic c) (a.put d undef) w → Q (.panic c) a w) (hw : Region.wanted oi (yielded ops a.tmps) = false) (hS : S w)
    (h : wpAnyH P md ops Q S fuel (listed.setIfInBounds i true) (a.put d undef) w) : wpAnyH P md ops Q S (fuel + 1) listed a w := by
  subst hd
  exact wpAnyH_take hi hs hf hr hQ (Or.inr ⟨hw, rfl⟩) hS h
/-- One alone may come up: it is carried out; behind it S is shown anew. -/
theorem stepOne (i : Nat) {o : Oper} {fuel : Nat} {listed : Array Bool} {a : Act} {w : World} (hi : ops[i]? = some o) (hr : Region.ready md ops listed = [i]) (hw : Region.wanted o (yielded ops a.tmps) = true)
    (h : ∀ K' : Act → World → Prop, Shut (∀ a w, S w → (S w → wpAnyH P md ops Q S fuel (listed.setIfInBounds i true) a w) → K' a w) → Oper.wp P o a w K' Q) : wpAnyH P md ops Q S (fuel + 1) listed a w :=
  wpAnyH_ready hr (by simp) (AllReadyH.cons hi (fun K' hK => by rw [if_pos hw]; exact h K' hK) AllReadyH.nil)
/-- One of those that may come up. -/
theorem stepOf (i : Nat) {o : Oper} {fuel : Nat} {listed : Array Bool} {a : Act} {w : World} {rs : List Nat} (hi : ops[i]? = some o) (hw : Region.wanted o (yielded ops a.tmps) = true)
    (h : ∀ K' : Act → World → Prop, Shut (∀ a w, S w → (S w → wpAnyH P md ops Q S fuel (listed.setIfInBounds i true) a w) → K' a w) → Oper.wp P o a w K' Q)
    (hs : AllReadyH P md ops Q S fuel listed a w rs) : AllReadyH P md ops Q S fuel listed a w (i :: rs) :=
  AllReadyH.cons hi (fun K' hK => by rw [if_pos hw]; exact h K' hK) hs
end
end Go.Proofs.Ytoloidfkpfdboaa

/- The rest of a region that draws its order, under a name: a state in which many orders meet is told of, and walked from once. -/
namespace Go.Proofs.Ytoloidfkpfdboaa
set_option maxRecDepth 100000
open Go.ChangeShapes Go.WideShapes Go.ChangeAt Go.RowKit

theorem named {P : Program} {ops : Array Oper} {Q : Exit → Act → World → Prop} {md : Region.Mode} {S : World → Prop} {fuel : Nat} {listed : Array Bool} {a : Act} {w : World}
    (h : ∀ X : Nat → Array Bool → Act → World → Prop, (∀ f l a w, wpAnyH P md ops Q S f l a w → X f l a w) → (∀ f l a w, X f l a w → wpAnyH P md ops Q S f l a w) → X fuel listed a w) :
    wpAnyH P md ops Q S fuel listed a w := h (fun f l a w => wpAnyH P md ops Q S f l a w) (fun _ _ _ _ h => h) (fun _ _ _ _ h => h)
theorem named2 {P : Program} {ops : Array Oper} {Q : Exit → Act → World → Prop} {md : Region.Mode} {S : World → Prop} {fuel : Nat} {listed : Array Bool} {a : Act} {w : World} (ops' : Array Oper) (e : ops' = ops)
    (h : ∀ X : Nat → Array Bool → Act → World → Prop, (∀ f l a w, wpAnyH P md ops' Q S f l a w → X f l a w) → (∀ f l a w, X f l a w → wpAnyH P md ops Q S f l a w) → wpAnyH P md ops Q S fuel listed a w) :
    wpAnyH P md ops Q S fuel listed a w := by
  subst e
  exact h _ (fun _ _ _ _ h => h) (fun _ _ _ _ h => h)
/-- A frame's slots, written out. -/
theorem slots_out (t : Array Value) (n : Nat) (h : t.size = n) : t = ((List.range n).map fun i => t.getD i undef).toArray := by
  subst h
  apply Array.ext
  · simp
  · intro i h1 h2
    simp [Array.getD, h1]
end Go.Proofs.Ytoloidfkpfdboaa

/- A region that draws its order and ends in one operation that turns what the others read (a store): the condition on the world is owed till that one has come up, and no longer. -/
namespace Go.Proofs.Ytoloidfkpfdboaa
set_option maxRecDepth 100000
open Go.ChangeShapes Go.WideShapes Go.ChangeAt Go.RowKit

section
variable {P : Program} {ops : Array Oper} {Q : Exit → Act → World → Prop} {md : Region.Mode} {S : World → Prop} {n : Nat}

/-- Whatever comes up; S holds as long as number n has not come up. -/
def wpAnyL (P : Program) (md : Region.Mode) (ops : Array Oper) (Q : Exit → Act → World → Prop) (S : World → Prop) (n : Nat) : Nat → Array Bool → Act → World → Prop
  | 0, L, a, w => Region.ready md ops L = [] ∧ Q .normal a w
  | f + 1, L, a, w => (Region.ready md ops L = [] → Q .normal a w) ∧
    ∀ k ∈ Region.ready md ops L, wpOp P ops Q k (fun b u => ((L.setIfInBounds k true).getD n true = false → S u) ∧ wpAnyL P md ops Q S n f (L.setIfInBounds k true) b u) a w
theorem wpAny_ofL (f : Nat) : ∀ (L : Array Bool) (a : Act) (w : World), wpAnyL P md ops Q S n f L a w → wpAny P md ops Q f L a w := by
  induction f with
  | zero => exact fun _ _ _ h => h
  | succ f ih => exact fun L a w h => ⟨h.1, fun k hk => wpOp_mono (fun b u hu => ih _ b u hu.2) (h.2 k hk)⟩
theorem startL {id : Nat} {a : Act} {w : World} (n : Nat) (S : World → Prop) (hm : P.follows .mixedOrders = true) (hS : S w.drew) (h : S w.drew → wpAnyL P .any ops Q S n ops.size (Array.replicate ops.size false) a w.drew) : (Code.region id ops true).wp P Q a w :=
  wp_region_any hm (wpAny_ofL _ _ _ _ (h hS))

/-- Number n waits for number i. -/
def waits (md : Region.Mode) (ops : Array Oper) (n i : Nat) : Bool := ((ops[n]?).map fun o => o.after.any fun e => Region.binds md e && e.on == i).getD false
theorem waits_spec {L : Array Bool} {n i : Nat} (h : waits md ops n i = true) (hn : n ∈ Region.ready md ops L) : L.getD i false = true := by
  obtain ⟨_, o, ho, hall⟩ := mem_ready.1 hn
  unfold waits at h
  rw [ho] at h
  simp only [Option.map_some, Option.getD_some, Array.any_eq_true] at h
  obtain ⟨k, hk, hb⟩ := h
  simp only [Bool.and_eq_true, beq_iff_eq] at hb
  rw [← hb.2]
  exact hall _ (Array.getElem_mem hk) hb.1
theorem firstL {i : Nat} {oi : Oper} {v : Value} (hi : ops[i]? = some oi) (hsel : ∀ (j : Nat) (o : Oper) cs b, ops[j]? = some o → o.op ≠ .select cs b) (hin : i ≠ n) (hnw : waits md ops n i = true)
    (hQ : ∀ c a w, Q (.panic c) (a.put oi.dst v) w → Q (.panic c) a w) (f : Nat) : ∀ (L : Array Bool) (a : Act) (w : World),
    (∀ j oj, ops[j]? = some oj → j ≠ i → L.getD j true = false → (∀ e ∈ oj.after, Region.binds md e = true → e.on ≠ i) → oi.apart ops oj = true) →
    L.getD n true = false → i ∈ Region.ready md ops L → YieldsIf P ops S oi v a → S w → wpAnyL P md ops Q S n f (L.setIfInBounds i true) (a.put oi.dst v) w → wpAnyL P md ops Q S n (f + 1) L a w := by
  induction f with
  | zero =>
    intro L a w _ _ hr hy hS H
    refine ⟨fun h0 => absurd hr (by rw [h0]; simp), fun j hj => ?_⟩
    rcases Decidable.em (j = i) with rfl | hne
    · exact hy.wpOp hi hS ⟨fun _ => hS, H⟩
    · have h1 := ready_mono hj hne
      rw [H.1] at h1
      exact absurd h1 (by simp)
  | succ f ih =>
    intro L a w hfree hLn hr hy hS H
    refine ⟨fun h0 => absurd hr (by rw [h0]; simp), fun j hj => ?_⟩
    rcases Decidable.em (j = i) with rfl | hne
    · exact hy.wpOp hi hS ⟨fun _ => hS, H⟩
    · obtain ⟨hun, oj, hoj, hwait⟩ := mem_ready.1 hj
      have hLi : L.getD i true = false := (mem_ready.1 hr).1
      have hno : ∀ e ∈ oj.after, Region.binds md e = true → e.on ≠ i := fun e he hb heq => by
        have h1 := hwait e he hb
        rw [heq] at h1
        by_cases hs : i < L.size
        · simp [hs] at h1 hLi
          rw [hLi] at h1
          cases h1
        · simp [Array.getElem?_eq_none (Nat.le_of_not_lt hs)] at h1
      have hput := wpOp_putIf hoj (hfree j oj hoj hne hun hno) (fun cs b => hsel i oi cs b hi) (fun cs b => hsel j oj cs b hoj) hQ hy (H.2 j (ready_mono hj hne))
      refine wpOp_mono (fun b u hu => ?_) hput
      have hL : (L.setIfInBounds i true).setIfInBounds j true = (L.setIfInBounds j true).setIfInBounds i true := Array.setIfInBounds_comm _ _ (Ne.symm hne)
      have hSn : (L.setIfInBounds j true).getD n true = false → S u := fun h0 => hu.2.1 (by rw [hL, getD_set_ne true hin]; exact h0)
      refine ⟨hSn, ?_⟩
      have hu2 := hu.2.2
      rw [hL] at hu2
      have hfree' : ∀ k ok, ops[k]? = some ok → k ≠ i → (L.setIfInBounds j true).getD k true = false → (∀ e ∈ ok.after, Region.binds md e = true → e.on ≠ i) → oi.apart ops ok = true := fun k ok hk hki hku hkn => by
        rcases Decidable.em (j = k) with rfl | hjk
        · exact hfree j ok hk hki hun hkn
        · rw [getD_set_ne true hjk] at hku
          exact hfree k ok hk hki hku hkn
      have hjn : j ≠ n := fun e => by
        rw [e] at hj
        have h1 := waits_spec hnw hj
        by_cases hs : i < L.size
        · simp [hs] at h1 hLi
          rw [hLi] at h1
          cases h1
        · simp [Array.getElem?_eq_none (Nat.le_of_not_lt hs)] at h1
      have hLn' : (L.setIfInBounds j true).getD n true = false := by rw [getD_set_ne true hjn]; exact hLn
      exact ih _ b u hfree' hLn' (ready_mono hr (Ne.symm hne)) hu.1 (hSn hLn') hu2
/-- What reads alone yields the same in every world that meets S: it is taken first. -/
theorem takeLW (i : Nat) (d : Option Nat) {oi : Oper} {v : Value} {fuel : Nat} {L : Array Bool} {a : Act} {w : World} (hi : ops[i]? = some oi) (hd : oi.dst = d)
    (hs : Region.noSelect ops = true) (hin : i ≠ n) (hnw : waits md ops n i = true) (hf : Region.free md ops L i = true) (hr : (Region.ready md ops L).contains i = true) (hLn : L.getD n true = false)
    (hQ : ∀ c a w, Q (.panic c) (a.put d v) w → Q (.panic c) a w) (hw : Region.wanted oi (yielded ops a.tmps) = true) (hy : ∀ w, S w → (execOp a.eval oi).run P w = .ok (.value v) w) (hS : S w)
    (h : wpAnyL P md ops Q S n fuel (L.setIfInBounds i true) (a.put d v) w) : wpAnyL P md ops Q S n (fuel + 1) L a w := by
  subst hd
  exact firstL hi (Region.noSelect_spec hs) hin hnw hQ fuel L a w (Region.free_spec hi hf) hLn (by simpa using hr) (Or.inl ⟨hw, hy⟩) hS h
/-- One of those that may come up, not the last one. -/
theorem stepL (i : Nat) {o : Oper} {fuel : Nat} {L : Array Bool} {a : Act} {w : World} (hi : ops[i]? = some o) (hw : Region.wanted o (yielded ops a.tmps) = true)
    (h : ∀ K' : Act → World → Prop, Shut (∀ a w, S w → (S w → wpAnyL P md ops Q S n fuel (L.setIfInBounds i true) a w) → K' a w) → Oper.wp P o a w K' Q) :
    wpOp P ops Q i (fun b u => ((L.setIfInBounds i true).getD n true = false → S u) ∧ wpAnyL P md ops Q S n fuel (L.setIfInBounds i true) b u) a w :=
  wpOp_step hi (fun K' hK => by rw [if_pos hw]; exact h K' (fun b u hS hW => hK b u ⟨fun _ => hS, hW hS⟩))
/-- The last one: nothing is owed behind it. -/
theorem lastL {o : Oper} {fuel : Nat} {L : Array Bool} {a : Act} {w : World} (hi : ops[n]? = some o) (hln : n < L.size) (hw : Region.wanted o (yielded ops a.tmps) = true)
    (h : ∀ K' : Act → World → Prop, Shut (∀ a w, wpAnyL P md ops Q S n fuel (L.setIfInBounds n true) a w → K' a w) → Oper.wp P o a w K' Q) :
    wpOp P ops Q n (fun b u => ((L.setIfInBounds n true).getD n true = false → S u) ∧ wpAnyL P md ops Q S n fuel (L.setIfInBounds n true) b u) a w :=
  wpOp_step hi (fun K' hK => by rw [if_pos hw]; exact h K' (fun b u hW => hK b u ⟨fun h0 => by simp [Array.getD, hln] at h0, hW⟩))
/-- Each of those that may come up. -/
theorem branchL {fuel : Nat} {L : Array Bool} {a : Act} {w : World} {rs : List Nat} (hr : Region.ready md ops L = rs) (hne : rs ≠ [])
    (h : ∀ i ∈ rs, wpOp P ops Q i (fun b u => ((L.setIfInBounds i true).getD n true = false → S u) ∧ wpAnyL P md ops Q S n fuel (L.setIfInBounds i true) b u) a w) : wpAnyL P md ops Q S n (fuel + 1) L a w :=
  ⟨fun h0 => absurd (hr ▸ h0) hne, hr ▸ h⟩
theorem doneL {L : Array Bool} {a : Act} {w : World} (hr : Region.ready md ops L = []) (h : Q .normal a w) : ∀ fuel, wpAnyL P md ops Q S n fuel L a w
  | 0 => ⟨hr, h⟩
  | _ + 1 => ⟨fun _ => h, by rw [hr]; simp⟩
end
end Go.Proofs.Ytoloidfkpfdboaa
