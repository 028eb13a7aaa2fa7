/- Package sour in plain words: what comes of a row of names of which some are not there, or bad; a row that nobody writes behind its reading. -/
import Derived.Test.YtoloidfkpfdboaaZSourRun
import Derived.Test.YtoloidfkpfdboaaZSourSame
namespace Go.Proofs.Ytoloidfkpfdboaa
set_option maxRecDepth 100000
open Sf
namespace Sr
/-- What is told of the first k names: 1 where all are there, else what is told of the first one that isn't. -/
def IsRes (o : Nat → Nat) (N r : Nat) : Prop := ((∀ k, k < N → o k = 1) ∧ r = 1) ∨ ∃ k, k < N ∧ (∀ m, m < k → o m = 1) ∧ o k ≠ 1 ∧ r = o k
theorem IsRes.next {o : Nat → Nat} {N r : Nat} (h : IsRes o N r) : IsRes o (N + 1) (if r = 1 then o N else r) := by
  rcases h with ⟨h1, rfl⟩ | ⟨k, h1, h2, h3, rfl⟩
  · rw [if_pos rfl]
    by_cases e : o N = 1
    · refine .inl ⟨fun k hk => ?_, e⟩
      by_cases hk2 : k < N
      · exact h1 k hk2
      · rw [show k = N by omega]
        exact e
    · exact .inr ⟨N, by omega, h1, e, rfl⟩
  · rw [if_neg h3]
    exact .inr ⟨k, by omega, h2, h3, rfl⟩
theorem IsRes.congr {o o' : Nat → Nat} {N r : Nat} (h : IsRes o N r) (he : ∀ k, k < N → o' k = o k) : IsRes o' N r := by
  rcases h with ⟨h1, rfl⟩ | ⟨k, h1, h2, h3, rfl⟩
  · exact .inl ⟨fun k hk => by rw [he k hk]; exact h1 k hk, rfl⟩
  · exact .inr ⟨k, h1, fun m hm => by rw [he m (by omega)]; exact h2 m hm, by rw [he k h1]; exact h3, (he k h1).symm⟩
/-- A name is there, is not, or is bad. -/
def Out (md : List Nat → Bool) (s : S) (t : List Nat) (r : Nat) : Prop :=
  (r = 1 ∧ ∃ b k v, Sf.get s.l t = some ⟨t, b, k⟩ ∧ value md t b = some v ∧ v.length ≤ 256) ∨ (r = 2 ∧ Sf.get s.l t = none) ∨ (r = 3 ∧ ∃ b k, Sf.get s.l t = some ⟨t, b, k⟩ ∧ ∀ v, value md t b = some v → ¬ v.length ≤ 256)
structure Outs (md : List Nat → Bool) (s : S) (L : List (List Nat)) (o : Nat → Nat) : Prop where
  file : ∀ t ∈ L, Nm.file t = true
  out : ∀ k, k < L.length → Out md s (L.getD k []) (o k)
structure Going (s : S) (L : List (List Nat)) (o : Nat → Nat) (j : Nat) (x : R) : Prop where
  told : x.told = 0
  pos : x.vals.length + x.asked = j
  ask : x.asked = 0 ∨ x.vals.length = L.length
  most : x.vals.length ≤ L.length
  same : x.stamps.length = x.vals.length
  stamps : ∀ k, k < x.vals.length → o k = 1 ∧ x.stamps.getD k 0 = Sf.stamp s.l (L.getD k [])
  here : x.asked < L.length
/-- Behind j steps. -/
def After (s : S) (L : List (List Nat)) (o : Nat → Nat) (r j : Nat) (x : R) : Prop := x.names = L ∧ (Going s L o j x ∨ (x.told ≠ 0 ∧ x.told = r))
theorem after_begin (s : S) (L : List (List Nat)) (o : Nat → Nat) (r : Nat) (h0 : 0 < L.length) : After s L o r 0 ⟨L, [], [], 0, 0⟩ :=
  ⟨rfl, .inl ⟨rfl, rfl, .inl rfl, Nat.zero_le _, rfl, fun k hk => absurd hk (by simp), h0⟩⟩
theorem After.end' {s : S} {L : List (List Nat)} {o : Nat → Nat} {r j : Nat} {x : R} (h : After s L o r j x) (hj : x.told ≠ 0 ∨ 2 * L.length ≤ j) : x.told = r := by
  rcases h.2 with h1 | h1
  · exfalso
    rcases hj with hj | hj
    · exact hj h1.told
    · have := h1.pos
      have := h1.most
      have := h1.here
      omega
  · exact h1.2
theorem After.step {md : List Nat → Bool} {s : S} {L : List (List Nat)} {o : Nat → Nat} {r j : Nat} {x : R} (h : After s L o r j x) (hO : Outs md s L o) (hr : IsRes o L.length r) :
    After s L o r (j + 1) (Sr.step md s x).1 ∧ (Sr.step md s x).2 = (Sr.step md s x).1.told := by
  obtain ⟨hn, h | ⟨h1, h2⟩⟩ := h
  · by_cases h1 : x.vals.length < L.length
    · have ha : x.asked = 0 := by
        rcases h.ask with e | e
        · exact e
        · omega
      have hbad : o x.vals.length ≠ 1 → o x.vals.length = r := fun hne => by
        rcases hr with ⟨hall, _⟩ | ⟨k, hk1, hk2, hk3, rfl⟩
        · exact absurd (hall _ h1) hne
        · have e1 : ¬ k < x.vals.length := fun hlt => hk3 (h.stamps k hlt).1
          have e2 : ¬ x.vals.length < k := fun hlt => hne (hk2 _ hlt)
          rw [show x.vals.length = k by omega]
      have hf := hO.file _ (mem_getD h1)
      have hg : x.names.getD x.vals.length [] = L.getD x.vals.length [] := by rw [hn]
      have hv : x.vals.length < x.names.length := by rw [hn]; exact h1
      rcases hO.out _ h1 with ⟨e, b, k, v, g1, g2, g3⟩ | ⟨e, g1⟩ | ⟨e, b, k, g1, g2⟩
      · rw [step_read h.told hv hg hf g1 g2 g3]
        refine ⟨⟨hn, .inl ⟨h.told, ?_, .inl ha, ?_, ?_, fun m hm => ?_, h.here⟩⟩, h.told.symm⟩
        · show (x.vals ++ [v]).length + x.asked = j + 1
          have := h.pos
          simp
          omega
        · show (x.vals ++ [v]).length ≤ L.length
          simp
          omega
        · show (x.stamps ++ [k]).length = (x.vals ++ [v]).length
          have := h.same
          simp
          omega
        · show o m = 1 ∧ (x.stamps ++ [k]).getD m 0 = _
          have hm' : m < x.vals.length + 1 := by
            have : m < (x.vals ++ [v]).length := hm
            simpa using this
          rw [getD_snoc, h.same]
          by_cases e2 : m < x.vals.length
          · rw [if_pos e2]
            exact h.stamps m e2
          · obtain rfl : m = x.vals.length := by omega
            rw [if_neg e2, if_pos rfl]
            exact ⟨e, (sstamp_some g1).symm⟩
      · rw [step_none h.told hv hg hf g1]
        exact ⟨⟨hn, .inr ⟨by simp, by rw [← hbad (by omega), e]⟩⟩, rfl⟩
      · rw [step_bad h.told hv hg hf g1 g2]
        exact ⟨⟨hn, .inr ⟨by simp, by rw [← hbad (by omega), e]⟩⟩, rfl⟩
    · have h2 : x.vals.length = L.length := by have := h.most; omega
      have hr1 : r = 1 := by
        rcases hr with ⟨_, e⟩ | ⟨k, hk1, _, hk3, _⟩
        · exact e
        · exact absurd (h.stamps k (by omega)).1 hk3
      have hst := (h.stamps x.asked (by have := h.here; omega)).2
      rw [step_ask h.told (by rw [hn]; exact h2) (by rw [hn]; have := h.here; omega) (by rw [hn, hst])]
      rw [hn]
      by_cases hlt : x.asked + 1 < L.length
      · rw [if_pos hlt]
        exact ⟨⟨rfl, .inl ⟨rfl, by show x.vals.length + (x.asked + 1) = j + 1; have := h.pos; omega, .inr h2, h.most, h.same, h.stamps, hlt⟩⟩, rfl⟩
      · rw [if_neg hlt]
        exact ⟨⟨rfl, .inr ⟨by simp, hr1.symm⟩⟩, rfl⟩
  · rw [step_told h1]
    exact ⟨⟨hn, .inr ⟨h1, h2⟩⟩, rfl⟩
/-- Nobody writes what has been read. -/
theorem Pass.on {md : List Nat → Bool} {F : Nat → S} {L : List (List Nat)} {M i : Nat} {x : R} (h : Pass md F L M i 0 x) (ht : There md F L) (hs : ∀ k, k < L.length → T F (L.length + k) (L.getD k []) = T F k (L.getD k [])) (h0 : 0 < L.length) :
    (i + 1 < 2 * L.length → ∃ x', Sr.step md (F i) x = (x', 0) ∧ Pass md F L M (i + 1) 0 x') ∧ (i + 1 = 2 * L.length → ∃ x', Sr.step md (F i) x = (x', 1) ∧ x'.told = 1 ∧ x'.vals.length = L.length ∧ x'.stamps.length = L.length) := by
  have hpos := h.pos
  have hmost := h.most
  by_cases h1 : x.vals.length < L.length
  · have ha : x.asked = 0 := by
      rcases h.ask with e | e
      · exact e
      · omega
    obtain ⟨hf, b, hg, hv, hl⟩ := ht.at i (mem_getD h1)
    refine ⟨fun hi => ?_, fun hi => by omega⟩
    refine ⟨_, step_read h.told (by rw [h.names]; exact h1) (by rw [h.names]) hf hg hv hl, ⟨h.names, h.told, ?_, ?_, ?_, .inl ha, h.here, h.begun, fun k hk => ?_, fun k hk => ?_⟩⟩
    · show 0 + (x.vals ++ [_]).length + x.asked = i + 1
      simp
      omega
    · show (x.stamps ++ [_]).length = (x.vals ++ [_]).length
      have := h.same
      simp
      omega
    · show (x.vals ++ [_]).length ≤ L.length
      simp
      omega
    · have hk' : k < x.vals.length + 1 := by
        have : k < (x.vals ++ [V md F i (L.getD x.vals.length [])]).length := hk
        simpa using this
      show (x.vals ++ [_]).getD k [] = _ ∧ (x.stamps ++ [_]).getD k 0 = _
      rw [getD_snoc, getD_snoc, h.same]
      by_cases e : k < x.vals.length
      · rw [if_pos e, if_pos e]
        exact h.vals k e
      · obtain rfl : k = x.vals.length := by omega
        have hi : 0 + x.vals.length = i := by omega
        rw [if_neg e, if_neg e, if_pos rfl, if_pos rfl, hi]
        exact ⟨rfl, rfl⟩
    · have hk' : k < x.asked := hk
      omega
  · have h2 : x.vals.length = L.length := by omega
    have h5 : x.asked < L.length := by
      rcases h.here with ⟨e, _⟩ | e
      · rw [e] at h0
        exact absurd h0 (by simp)
      · exact e
    have hst := (h.vals x.asked (by omega)).2
    have hi : L.length + x.asked = i := by omega
    have he : Sf.stamp (F i).l (x.names.getD x.asked []) = x.stamps.getD x.asked 0 := by
      have h6 := hs x.asked h5
      rw [hst, h.names, Nat.zero_add, ← h6, hi]
      rfl
    have hlk : ∀ k, k < x.asked + 1 → T F (0 + L.length + k) (L.getD k []) = T F (0 + k) (L.getD k []) := fun k hk => by
      rw [Nat.zero_add, Nat.zero_add]
      exact hs k (by omega)
    have hsa := step_ask (md := md) h.told (by rw [h.names]; exact h2) (by rw [h.names]; exact h0) he
    refine ⟨fun hi2 => ?_, fun hi2 => ?_⟩
    · have h6 : x.asked + 1 < L.length := by omega
      rw [h.names, if_pos h6] at hsa
      exact ⟨_, hsa, ⟨rfl, rfl, by show 0 + x.vals.length + (x.asked + 1) = i + 1; omega, h.same, h.most, .inr h2, .inr h6, h.begun, h.vals, hlk⟩⟩
    · have h6 : ¬ x.asked + 1 < L.length := by omega
      rw [h.names, if_neg h6] at hsa
      exact ⟨_, hsa, rfl, h2, by show x.stamps.length = _; rw [h.same, h2]⟩
end Sr
end Go.Proofs.Ytoloidfkpfdboaa
