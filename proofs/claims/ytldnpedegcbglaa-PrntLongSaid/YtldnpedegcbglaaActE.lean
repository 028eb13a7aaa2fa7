/- An action's things with numbers of any size, held to what may be. -/
import Derived.Test.YtldnpedegcbglaaActMath
namespace Go.Proofs.Ytldnpedegcbglaa.Ac
set_option maxRecDepth 100000

structure E where
  kind : Nat
  n : Int
  text : List Nat
deriving DecidableEq
def D.e (d : D) : E := ⟨d.kind, d.n, d.text⟩
def right (x : E) : Bool := decide (1 ≤ x.kind) && decide (x.kind ≤ 11) && decide (0 ≤ x.n) && decide (x.n ≤ most x.kind) && plainT x.text && (isText x.kind || decide (x.text = []))
def okX (first : Bool) (x : E) : Bool := (isFirst x.kind == first) && right x
def okL : List E → Bool
  | [] => false
  | d :: r => okX true d && r.all (okX false) && decide (r.length + 1 ≤ 8)
theorem okX_e (b : Bool) (d : D) : okX b d.e = okD b d := by
  unfold okX okD right D.e
  have h1 : decide (0 ≤ (d.n : Int)) = true := decide_eq_true (by omega)
  have h2 : decide ((d.n : Int) ≤ (most d.kind : Int)) = decide (d.n ≤ most d.kind) := by simp
  simp only [h1, h2, Bool.and_true]
  rcases (isFirst d.kind == b) <;> rcases decide (1 ≤ d.kind) <;> rcases decide (d.kind ≤ 11) <;> rcases decide (d.n ≤ most d.kind) <;> rcases plainT d.text <;> rfl
theorem okL_map (L : List D) : okL (L.map D.e) = ok L := by
  cases L with
  | nil => rfl
  | cons d r =>
    show (okX true d.e && (r.map D.e).all (okX false) && decide ((r.map D.e).length + 1 ≤ 8)) = (okD true d && r.all (okD false) && decide (r.length + 1 ≤ 8))
    rw [okX_e, List.length_map, List.all_map]
    congr 3
    funext x
    exact okX_e false x
theorem okX_back {b : Bool} {x : E} (h : okX b x = true) : ∃ d : D, x = d.e := by
  unfold okX right at h
  simp only [Bool.and_eq_true, decide_eq_true_eq] at h
  obtain ⟨_, ⟨⟨⟨⟨_, h3⟩, _⟩, _⟩, _⟩⟩ := h
  refine ⟨⟨x.kind, x.n.toNat, x.text⟩, ?_⟩
  unfold D.e
  obtain ⟨k, n, t⟩ := x
  simp only [E.mk.injEq, true_and, and_true]
  simp at h3
  omega
theorem all_back : ∀ {r : List E}, r.all (okX false) = true → ∃ L : List D, r = L.map D.e
  | [], _ => ⟨[], rfl⟩
  | x :: r, h => by
    rw [List.all_cons, Bool.and_eq_true] at h
    obtain ⟨d, rfl⟩ := okX_back h.1
    obtain ⟨L, rfl⟩ := all_back h.2
    exact ⟨d :: L, rfl⟩
theorem okL_back {M : List E} (h : okL M = true) : ∃ L : List D, M = L.map D.e ∧ ok L = true := by
  cases M with
  | nil => cases h
  | cons x r =>
    have h' := h
    unfold okL at h
    simp only [Bool.and_eq_true] at h
    obtain ⟨⟨h1, h2⟩, _⟩ := h
    obtain ⟨d, rfl⟩ := okX_back h1
    obtain ⟨L, rfl⟩ := all_back h2
    exact ⟨d :: L, rfl, by rw [← okL_map]; exact h'⟩
theorem okL_bad {M : List E} {x : E} (hx : x ∈ M) (h : right x = false) : okL M = false := by
  have hX : ∀ b, okX b x = false := fun b => by unfold okX; rw [h, Bool.and_false]
  cases M with
  | nil => cases hx
  | cons d r =>
    show (okX true d && r.all (okX false) && decide (r.length + 1 ≤ 8)) = false
    rcases List.mem_cons.1 hx with rfl | hx
    · rw [hX]; rfl
    · rw [show r.all (okX false) = false from List.all_eq_false.2 ⟨x, hx, by rw [hX]; simp⟩, Bool.and_false]; rfl
end Go.Proofs.Ytldnpedegcbglaa.Ac
