/- PrntOwn: what is read of a print is one's own. -/
import Derived.Test.YtldnpedegcbglaaPrntAwake
import Derived.Test.YtldnpedegcbglaaPrntRows
import Derived.Test.YtldnpedegcbglaaAct
import Derived.Test.YtldnpedegcbglaaInts
import Derived.Deep.CutBlock
namespace Go.Proofs.Ytldnpedegcbglaa
set_option maxRecDepth 100000
open Go.ChangeShapes Go.WideShapes Go.ChangeAt Go.RowKit

theorem pgo_few (ins : List (List Nat)) : ∀ (l : List Ac.D) (b x : List Nat), b.length ≤ 256 → Ac.go ins l b = some x → x.length ≤ 256
  | [], b, x, hb, h => by
    injection h with h
    rw [← h]; exact hb
  | d :: r, b, x, _, h => by
    rw [Ac.go] at h
    split at h
    · cases h
    · rename_i y _
      split at h
      · rename_i hy
        exact pgo_few ins r y x hy h
      · cases h
theorem prun_few {l : List Ac.D} {ins : List (List Nat)} {x : List Nat} (h : Ac.run l ins = some x) : x.length ≤ 256 := by
  unfold Ac.run at h
  split at h
  · exact pgo_few ins l [] x (by simp) h
  · cases h
theorem came_small {base : Nat} {w w' : World} {e : Ending} {T : Option (List Nat)} (h : CameIs base w e w' T) (ht : ∀ x, T = some x → x.length ≤ 256) : ∃ u q l, e = .returned (.tuple #[u, .bool q]) ∧ Mine w' base u l ∧ l.length ≤ 256 ∧ Below base w w' := by
  rcases T with _ | b
  · obtain ⟨rfl, hb⟩ := h
    exact ⟨_, false, [], rfl, mine_none _ _, by simp, hb⟩
  · obtain ⟨⟨u, rfl, hm⟩, hb⟩ := h
    exact ⟨u, true, b, rfl, hm, ht b rfl, hb⟩
def pup (c : Nat) : Nat := (c + 1) % 256
theorem pup_int (x : Nat) : ((pup x : Nat) : Int) = ((x : Int) + 1) % 256 := by unfold pup; omega
theorem pup_lt (x : Nat) : pup x < 256 := Nat.mod_lt _ (by decide)
theorem pfew_of {J : List (List Nat)} (h8 : J.length ≤ 8) (h : ∀ j, j < J.length → (J.getD j []).length ≤ 256) : Pr.few J = true := by
  unfold Pr.few
  rw [decide_eq_true h8, Bool.true_and, List.all_eq_true]
  intro x hx
  obtain ⟨i, hi, rfl⟩ := List.getElem_of_mem hx
  have := h i hi
  rw [List.getD_eq_getElem?_getD, List.getElem?_eq_getElem hi] at this
  exact decide_eq_true this
theorem pfew_all {J : List (List Nat)} (h : Pr.few J = true) : J.length ≤ 8 ∧ ∀ x ∈ J, x.length ≤ 256 := by
  unfold Pr.few at h
  rw [Bool.and_eq_true, decide_eq_true_eq, List.all_eq_true] at h
  exact ⟨h.1, fun x hx => by simpa using h.2 x hx⟩
theorem ok_x {L : List Ac.D} (h : Ac.ok L = true) : (L.map Pr.ofD).length ≤ 100 ∧ (∀ d ∈ L.map Pr.ofD, (∀ c ∈ d.text, c < 256) ∧ d.text.length ≤ 100000) ∧ Pr.bytes (L.map Pr.ofD) = Ac.bytes L := by
  obtain ⟨_, h2, h3⟩ := Ac.ok_small h
  refine ⟨by rw [List.length_map]; omega, fun d hd => ?_, Pr.bytes_of fun d hd => ?_⟩
  · obtain ⟨d', hd', rfl⟩ := List.mem_map.1 hd
    have := h3 d' hd'
    exact ⟨this.2.2.2.2, by show d'.text.length ≤ _; omega⟩
  · have := h3 d hd
    omega
/-- A print of an action and few inputs: its length, and what it is read as. -/
theorem print_back {L : List Ac.D} {J : List (List Nat)} (h : Ac.ok L = true) (hJ : Pr.few J = true) : (Pr.print (Ac.bytes L) J).length ≤ 10000 ∧ Pr.parse 999 ((Pr.print (Ac.bytes L) J).length : Int) (Pr.print (Ac.bytes L) J) = some (L, J) ∧ Pr.value 999 ((Pr.print (Ac.bytes L) J).length : Int) (Pr.print (Ac.bytes L) J) = Ac.run L J := by
  obtain ⟨h8, hx⟩ := pfew_all hJ
  have hl := Pr.acts_len h
  have hp := Pr.print_len (Ac.bytes L) J
  have hq := Pr.lbs_len J 256 hx
  have hm : J.length * (6 + 256) ≤ 8 * (6 + 256) := Nat.mul_le_mul_right _ h8
  have hpar := Pr.parse_on (mb := ((Pr.print (Ac.bytes L) J).length : Int)) (I := J) h (by omega) (by omega) (by omega) (fun x hx' => by have := hx x hx'; omega)
  rw [hJ, if_pos rfl] at hpar
  refine ⟨by omega, hpar, ?_⟩
  rw [Pr.value_eq, hpar]
  rfl
end Go.Proofs.Ytldnpedegcbglaa
