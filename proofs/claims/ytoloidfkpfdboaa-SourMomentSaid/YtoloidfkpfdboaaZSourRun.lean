/- Package sour in plain words: files by what each name holds; steps; all of them at one moment. -/
import Derived.Test.YtoloidfkpfdboaaZSourMath
namespace Go.Proofs.Ytoloidfkpfdboaa
set_option maxRecDepth 100000
open Sf
namespace Sr
theorem sget_wr (s : S) (t b u : List Nat) : Sf.get (wr s t b).l u = if u = t then some ⟨t, b, s.next + 1⟩ else Sf.get s.l u := get_put s.l ⟨t, b, s.next + 1⟩ u
theorem sused_wr {s : S} (ho : Ord s.l) (t b : List Nat) : used (wr s t b).l ≤ used s.l + b.length := by
  have h1 := used_put s.l ⟨t, b, s.next + 1⟩
  have h2 := used_gone ho t
  show used (put s.l ⟨t, b, s.next + 1⟩) ≤ _
  rw [h1]
  show used (gone s.l t) + b.length ≤ _
  omega
theorem sput_ok {s : S} (t b : List Nat) (ht : Nm.file t = true) (hu : (used s.l : Int) + b.length ≤ s.room) : putS s t b = (wr s t b, s.next + 1, 0) := by
  have hf : fits s t b.length = true := by
    unfold fits
    simp only [Bool.or_eq_true, decide_eq_true_eq]
    right
    omega
  unfold putS
  rw [if_pos ht, if_pos hf]
theorem sread_some {s : S} {t b : List Nat} {k : Nat} (ht : Nm.file t = true) (h : Sf.get s.l t = some ⟨t, b, k⟩) : Sf.read s t = (b, k, 0) := by
  unfold Sf.read
  rw [if_pos ht, h]
theorem sread_none {s : S} {t : List Nat} (ht : Nm.file t = true) (h : Sf.get s.l t = none) : (Sf.read s t).2.2 ≠ 0 := by
  unfold Sf.read
  rw [if_pos ht, h]
  decide
theorem sstamp_some {s : S} {t b : List Nat} {k : Nat} (h : Sf.get s.l t = some ⟨t, b, k⟩) : Sf.stamp s.l t = k := by
  unfold Sf.stamp
  rw [h]
  rfl
variable {md : List Nat → Bool} {s : S} {x : R}
theorem step_told (h : x.told ≠ 0) : step md s x = (x, x.told) := by
  unfold step
  rw [if_neg h]
theorem step_read {t b v : List Nat} {k : Nat} (h0 : x.told = 0) (h1 : x.vals.length < x.names.length) (ht : x.names.getD x.vals.length [] = t) (hf : Nm.file t = true) (hg : Sf.get s.l t = some ⟨t, b, k⟩) (hv : value md t b = some v) (hl : v.length ≤ 256) :
    step md s x = ({ x with vals := x.vals ++ [v], stamps := x.stamps ++ [k] }, 0) := by
  unfold step doo read
  rw [if_pos h0, if_pos h1, ht, sread_some hf hg, if_pos rfl, hv, if_pos (by simp; exact hl)]
  simp [h0]
theorem step_none {t : List Nat} (h0 : x.told = 0) (h1 : x.vals.length < x.names.length) (ht : x.names.getD x.vals.length [] = t) (hf : Nm.file t = true) (hg : Sf.get s.l t = none) :
    step md s x = ({ forget x with told := 2 }, 2) := by
  unfold step doo read
  rw [if_pos h0, if_pos h1, ht, if_neg (sread_none hf hg)]
theorem step_bad {t b : List Nat} {k : Nat} (h0 : x.told = 0) (h1 : x.vals.length < x.names.length) (ht : x.names.getD x.vals.length [] = t) (hf : Nm.file t = true) (hg : Sf.get s.l t = some ⟨t, b, k⟩) (hv : ∀ v, value md t b = some v → ¬ v.length ≤ 256) :
    step md s x = ({ forget x with told := 3 }, 3) := by
  unfold step doo read
  rw [if_pos h0, if_pos h1, ht, sread_some hf hg, if_pos rfl, if_neg ?_]
  show ¬ ((value md t b).isSome && decide (((value md t b).getD []).length ≤ 256)) = true
  rcases hvv : value md t b with _ | v
  · simp
  · have := hv v hvv
    simp
    omega
theorem step_ask (h0 : x.told = 0) (h1 : x.vals.length = x.names.length) (h2 : 0 < x.names.length) (hs : Sf.stamp s.l (x.names.getD x.asked []) = x.stamps.getD x.asked 0) :
    step md s x = ({ x with asked := x.asked + 1, told := if x.asked + 1 < x.names.length then 0 else 1 }, if x.asked + 1 < x.names.length then 0 else 1) := by
  unfold step doo ask
  rw [if_pos h0, if_neg (by omega), if_pos h2, if_pos hs]
theorem step_anew (h0 : x.told = 0) (h1 : x.vals.length = x.names.length) (h2 : 0 < x.names.length) (hs : ¬ Sf.stamp s.l (x.names.getD x.asked []) = x.stamps.getD x.asked 0) :
    step md s x = ({ forget x with told := 0 }, 0) := by
  unfold step doo ask
  rw [if_pos h0, if_neg (by omega), if_pos h2, if_neg hs]
theorem step_nil (h0 : x.told = 0) (h1 : x.names = []) : step md s x = ({ x with told := 1 }, 1) := by
  unfold step doo
  rw [if_pos h0, if_neg (by rw [h1]; simp), if_neg (by rw [h1]; simp)]
/-- Files as they are written, one write at a time, and not any more from M on. -/
structure Hist (F : Nat → S) (M : Nat) : Prop where
  next : ∀ j, F (j + 1) = F j ∨ (j < M ∧ ∃ t b, F (j + 1) = wr (F j) t b)
  le : ∀ j t, Sf.stamp (F j).l t ≤ (F j).next
def T (F : Nat → S) (j : Nat) (t : List Nat) : Nat := Sf.stamp (F j).l t
def V (md : List Nat → Bool) (F : Nat → S) (j : Nat) (t : List Nat) : List Nat := (value md t (Sf.bytes (F j).l t)).getD []
theorem Hist.mono {F : Nat → S} {M : Nat} (h : Hist F M) (t : List Nat) (j : Nat) : ∀ d, T F j t ≤ T F (j + d) t ∧ (T F (j + d) t = T F j t → Sf.get (F (j + d)).l t = Sf.get (F j).l t)
  | 0 => ⟨Nat.le_refl _, fun _ => rfl⟩
  | d + 1 => by
    obtain ⟨h1, h2⟩ := h.mono t j d
    rcases h.next (j + d) with e | ⟨_, u, b, e⟩
    · have e' : F (j + (d + 1)) = F (j + d) := e
      unfold T at *
      rw [e']
      exact ⟨h1, h2⟩
    · have e' : F (j + (d + 1)) = wr (F (j + d)) u b := e
      have hl := h.le (j + d) t
      unfold T at *
      rw [e']
      by_cases hu : t = u
      · subst hu
        have : Sf.stamp (wr (F (j + d)) t b).l t = (F (j + d)).next + 1 := sstamp_some (b := b) (by rw [sget_wr, if_pos rfl])
        rw [this]
        exact ⟨by omega, fun e => by omega⟩
      · have hg : Sf.get (wr (F (j + d)) u b).l t = Sf.get (F (j + d)).l t := by rw [sget_wr, if_neg hu]
        have hs : Sf.stamp (wr (F (j + d)) u b).l t = Sf.stamp (F (j + d)).l t := by unfold Sf.stamp; rw [hg]
        rw [hg, hs]
        exact ⟨h1, h2⟩
theorem Hist.still {F : Nat → S} {M : Nat} (h : Hist F M) (t : List Nat) {j m j' : Nat} (h1 : j ≤ m) (h2 : m ≤ j') (he : T F j' t = T F j t) : Sf.get (F m).l t = Sf.get (F j).l t := by
  obtain ⟨d, rfl⟩ := Nat.le.dest h1
  obtain ⟨d', rfl⟩ := Nat.le.dest h2
  have a := h.mono t j d
  have b := h.mono t (j + d) d'
  exact a.2 (by omega)
theorem Hist.const {F : Nat → S} {M : Nat} (h : Hist F M) : ∀ d, F (M + d) = F M
  | 0 => rfl
  | d + 1 => by
    rcases h.next (M + d) with e | ⟨hlt, _⟩
    · exact (show F (M + (d + 1)) = F (M + d) from e).trans (h.const d)
    · omega
theorem Hist.after {F : Nat → S} {M : Nat} (h : Hist F M) {j : Nat} (hj : M ≤ j) : F j = F M := by
  obtain ⟨d, rfl⟩ := Nat.le.dest hj
  exact h.const d
theorem V_of_get {md : List Nat → Bool} {F : Nat → S} {j m : Nat} {t : List Nat} (h : Sf.get (F m).l t = Sf.get (F j).l t) : V md F m t = V md F j t := by
  unfold V Sf.bytes
  rw [h]
/-- Each name is there, and has a value. -/
def There (md : List Nat → Bool) (F : Nat → S) (L : List (List Nat)) : Prop :=
  ∀ j, ∀ t ∈ L, Nm.file t = true ∧ ∃ b k v, Sf.get (F j).l t = some ⟨t, b, k⟩ ∧ value md t b = some v ∧ v.length ≤ 256
theorem There.at {md : List Nat → Bool} {F : Nat → S} {L : List (List Nat)} (h : There md F L) (j : Nat) {t : List Nat} (ht : t ∈ L) : Nm.file t = true ∧ ∃ b, Sf.get (F j).l t = some ⟨t, b, T F j t⟩ ∧ value md t b = some (V md F j t) ∧ (V md F j t).length ≤ 256 := by
  obtain ⟨h1, b, k, v, h2, h3, h4⟩ := h j t ht
  have e1 : T F j t = k := sstamp_some h2
  have e2 : V md F j t = v := by
    unfold V Sf.bytes
    rw [h2]
    show (value md t b).getD [] = v
    rw [h3]
    rfl
  rw [e1, e2]
  exact ⟨h1, b, h2, h3, h4⟩
/-- A Read ahead of its step i: its pass began at step st. -/
structure Pass (md : List Nat → Bool) (F : Nat → S) (L : List (List Nat)) (M i st : Nat) (x : R) : Prop where
  names : x.names = L
  told : x.told = 0
  pos : st + x.vals.length + x.asked = i
  same : x.stamps.length = x.vals.length
  most : x.vals.length ≤ L.length
  ask : x.asked = 0 ∨ x.vals.length = L.length
  here : (L = [] ∧ x.asked = 0) ∨ x.asked < L.length
  begun : st ≤ M + L.length
  vals : ∀ k, k < x.vals.length → x.vals.getD k [] = V md F (st + k) (L.getD k []) ∧ x.stamps.getD k 0 = T F (st + k) (L.getD k [])
  looked : ∀ k, k < x.asked → T F (st + L.length + k) (L.getD k []) = T F (st + k) (L.getD k [])
theorem pass_begin (md : List Nat → Bool) (F : Nat → S) (L : List (List Nat)) (M : Nat) : Pass md F L M 0 0 ⟨L, [], [], 0, 0⟩ :=
  ⟨rfl, rfl, rfl, rfl, Nat.zero_le _, .inl rfl, by
    rcases L with _ | ⟨a, l⟩
    · exact .inl ⟨rfl, rfl⟩
    · exact .inr (by simp), Nat.zero_le _, fun k hk => absurd hk (by simp), fun k hk => absurd hk (by simp)⟩
theorem Pass.small {md : List Nat → Bool} {F : Nat → S} {L : List (List Nat)} {M i st : Nat} {x : R} (h : Pass md F L M i st x) : i ≤ M + 3 * L.length := by
  have := h.pos
  have := h.most
  have := h.begun
  rcases h.here with ⟨_, e⟩ | e
  · omega
  · omega
theorem mem_getD {L : List (List Nat)} {k : Nat} (hk : k < L.length) : L.getD k [] ∈ L := by
  rw [List.getD_eq_getElem?_getD, List.getElem?_eq_getElem hk]
  exact List.getElem_mem hk
theorem getD_snoc {α : Type} (l : List α) (a d : α) (k : Nat) : (l ++ [a]).getD k d = if k < l.length then l.getD k d else if k = l.length then a else d := by
  simp only [List.getD_eq_getElem?_getD]
  by_cases h1 : k < l.length
  · rw [if_pos h1, List.getElem?_append_left h1]
  · rw [if_neg h1, List.getElem?_append_right (by omega)]
    by_cases h2 : k = l.length
    · subst h2
      simp
    · rw [if_neg h2]
      rw [List.getElem?_eq_none (by simp; omega)]
      rfl
/-- What it tells at last. -/
structure Moment (md : List Nat → Bool) (F : Nat → S) (L : List (List Nat)) (M i : Nat) (x : R) : Prop where
  told : x.told = 1
  one : ∃ j, j ≤ i ∧ x.vals = L.map (V md F j)
  len : x.stamps.length = L.length
  still : (i = 0 ∨ M = 0) → ∀ k, k < L.length → x.stamps.getD k 0 = T F i (L.getD k [])
theorem Pass.step {md : List Nat → Bool} {F : Nat → S} {L : List (List Nat)} {M i st : Nat} {x : R} (h : Pass md F L M i st x) (hh : Hist F M) (ht : There md F L) :
    (∃ x' st', step md (F i) x = (x', 0) ∧ Pass md F L M (i + 1) st' x') ∨ (∃ x', step md (F i) x = (x', 1) ∧ Moment md F L M i x') := by
  by_cases h1 : x.vals.length < L.length
  · left
    obtain ⟨hf, b, hg, hv, hl⟩ := ht.at i (mem_getD h1)
    have ha : x.asked = 0 := by
      rcases h.ask with e | e
      · exact e
      · omega
    have hi : st + x.vals.length = i := by
      have := h.pos
      omega
    refine ⟨_, st, step_read h.told (by rw [h.names]; exact h1) (by rw [h.names]) hf hg hv hl, ⟨h.names, h.told, ?_, ?_, ?_, .inl ha, h.here, h.begun, fun k hk => ?_, fun k hk => ?_⟩⟩
    · show st + (x.vals ++ [_]).length + x.asked = i + 1
      simp
      omega
    · show (x.stamps ++ [_]).length = (x.vals ++ [_]).length
      have := h.same
      simp
      omega
    · show (x.vals ++ [_]).length ≤ L.length
      simp
      omega
    · have hk' : k < x.vals.length + 1 := by
        have : k < (x.vals ++ [V md F i (L.getD x.vals.length [])]).length := hk
        simpa using this
      show (x.vals ++ [_]).getD k [] = _ ∧ (x.stamps ++ [_]).getD k 0 = _
      rw [getD_snoc, getD_snoc, h.same]
      by_cases e : k < x.vals.length
      · rw [if_pos e, if_pos e]
        exact h.vals k e
      · obtain rfl : k = x.vals.length := by omega
        rw [if_neg e, if_neg e, if_pos rfl, if_pos rfl, hi]
        exact ⟨rfl, rfl⟩
    · have hk' : k < x.asked := hk
      omega
  · have h2 : x.vals.length = L.length := by have := h.most; omega
    by_cases h3 : L = []
    · right
      subst h3
      have hv : x.vals = [] := List.eq_nil_of_length_eq_zero h2
      have hs : x.stamps = [] := List.eq_nil_of_length_eq_zero (by rw [h.same, h2]; rfl)
      exact ⟨_, step_nil h.told h.names, ⟨rfl, ⟨0, Nat.zero_le _, hv⟩, by show x.stamps.length = 0; rw [hs]; rfl, fun _ k hk => absurd hk (by simp)⟩⟩
    · have h4 : 0 < L.length := by
        rcases L with _ | ⟨a, l⟩
        · exact absurd rfl h3
        · simp
      have h5 : x.asked < L.length := by
        rcases h.here with e | e
        · exact absurd e.1 h3
        · exact e
      have hst := (h.vals x.asked (by omega)).2
      have hi : st + L.length + x.asked = i := by
        have := h.pos
        omega
      by_cases he : Sf.stamp (F i).l (x.names.getD x.asked []) = x.stamps.getD x.asked 0
      · have he' : T F i (L.getD x.asked []) = T F (st + x.asked) (L.getD x.asked []) := by
          rw [← hst, ← he, h.names]
          rfl
        have hlk : ∀ k, k < x.asked + 1 → T F (st + L.length + k) (L.getD k []) = T F (st + k) (L.getD k []) := fun k hk => by
          by_cases e : k < x.asked
          · exact h.looked k e
          · obtain rfl : k = x.asked := by omega
            rw [hi]
            exact he'
        have hs := step_ask (md := md) h.told (by rw [h.names]; exact h2) (by rw [h.names]; exact h4) he
        by_cases h6 : x.asked + 1 < L.length
        · left
          rw [h.names, if_pos h6] at hs
          exact ⟨_, st, hs, ⟨rfl, rfl, by show st + x.vals.length + (x.asked + 1) = i + 1; have := h.pos; omega, h.same, h.most, .inr h2, .inr h6, h.begun, h.vals, hlk⟩⟩
        · right
          rw [h.names, if_neg h6] at hs
          refine ⟨_, hs, ⟨rfl, ⟨st + L.length, by omega, ?_⟩, by show x.stamps.length = _; rw [h.same, h2], fun h0 k hk => ?_⟩⟩
          · show x.vals = _
            refine List.ext_getElem (by simp [h2]) fun k hk1 hk2 => ?_
            have hk : k < L.length := by omega
            have e1 := (h.vals k hk1).1
            rw [List.getD_eq_getElem?_getD, List.getElem?_eq_getElem hk1] at e1
            have e2 := V_of_get (md := md) (hh.still (L.getD k []) (j := st + k) (m := st + L.length) (j' := st + L.length + k) (by omega) (by omega) (hlk k (by omega)))
            have e3 : L.getD k [] = L[k] := by rw [List.getD_eq_getElem?_getD, List.getElem?_eq_getElem hk]; rfl
            rw [List.getElem_map, show x.vals[k] = V md F (st + k) (L.getD k []) from e1, ← e2, e3]
          · show x.stamps.getD k 0 = _
            rw [(h.vals k (by omega)).2]
            rcases h0 with h0 | h0
            · omega
            · subst h0
              unfold T
              rw [hh.after (Nat.zero_le (st + k)), hh.after (Nat.zero_le i)]
      · left
        refine ⟨_, i + 1, step_anew h.told (by rw [h.names]; exact h2) (by rw [h.names]; exact h4) he, ⟨h.names, rfl, rfl, rfl, Nat.zero_le _, .inl rfl, .inr h4, ?_, fun k hk => absurd hk (by simp [forget]), fun k hk => absurd hk (by simp [forget])⟩⟩
        by_cases hm : st + x.asked < M
        · omega
        · exfalso
          refine he ?_
          rw [hst, h.names]
          unfold T
          rw [hh.after (show M ≤ i by omega), hh.after (show M ≤ st + x.asked by omega)]
end Sr
end Go.Proofs.Ytoloidfkpfdboaa
