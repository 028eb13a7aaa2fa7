/- What package acts does to bytes that are the call's own: letters turned, backwards, twice, with a text between. -/
import Derived.Test.YtgjehlegcmeeoaaGreatDoorZ04
import Derived.Test.YtgjehlegcmeeoaaGreatDoorZ00
import Derived.Lib.AppendStr
import Derived.Lib.Hide
import Derived.RegionTactic
import Derived.BigQuiet
import Derived.Deep.QuietTactic
namespace Go.Proofs.YtgjehlegcmeeoaaGreatDoor
set_option maxRecDepth 100000
open Go.ChangeShapes Go.WideShapes Go.ChangeAt Go.RowKit

def turned (f t c : Nat) : Nat := if f ≤ c ∧ c < f + 26 then c - f + t else c
theorem turned_upper (l : List Nat) : l.map (turned 97 65) = l.map Ac.upper := List.map_congr_left fun c _ => by
  unfold turned Ac.upper
  by_cases h : 97 ≤ c ∧ c ≤ 122
  · rw [if_pos (by omega), if_pos h]; omega
  · rw [if_neg (by omega), if_neg h]
theorem turned_lower (l : List Nat) : l.map (turned 65 97) = l.map Ac.lower := List.map_congr_left fun c _ => by
  unfold turned Ac.lower
  by_cases h : 65 ≤ c ∧ c ≤ 90
  · rw [if_pos (by omega), if_pos h]; omega
  · rw [if_neg (by omega), if_neg h]
/-- The first k are turned. -/
def half (g : Nat → Nat) (l : List Nat) (k : Nat) : List Nat := (l.take k).map g ++ l.drop k
theorem half_len (g : Nat → Nat) (l : List Nat) (k : Nat) : (half g l k).length = l.length := by
  unfold half
  rw [List.length_append, List.length_map, List.length_take, List.length_drop]
  omega
theorem half_at (g : Nat → Nat) (l : List Nat) (k : Nat) (h : k < l.length) : (half g l k).getD k 0 = l.getD k 0 := by
  unfold half
  rw [List.getD_eq_getElem?_getD, List.getD_eq_getElem?_getD, List.getElem?_append_right (by rw [List.length_map, List.length_take]; omega), List.length_map, List.length_take, List.getElem?_drop]
  congr 2
  omega
theorem half_set (g : Nat → Nat) (l : List Nat) (k : Nat) (h : k < l.length) : (half g l k).set k (g (l.getD k 0)) = half g l (k + 1) := by
  unfold half
  have e : (List.map g (l.take k)).length = k := by rw [List.length_map, List.length_take]; omega
  rw [List.set_append_right _ _ (by omega), e, Nat.sub_self, List.drop_eq_getElem_cons h, List.take_succ_eq_append_getElem h, List.map_append, List.append_assoc, List.getD_eq_getElem?_getD, List.getElem?_eq_getElem h]
  rfl
theorem half_same (g : Nat → Nat) (l : List Nat) (k : Nat) (h : k < l.length) (e : g (l.getD k 0) = l.getD k 0) : half g l k = half g l (k + 1) := by
  rw [← half_set g l k h, e, ← half_at g l k h, List.getD_eq_getElem?_getD, List.getElem?_eq_getElem (by rw [half_len]; exact h)]
  exact (List.set_getElem_self _).symm
theorem half_end (g : Nat → Nat) (l : List Nat) (k : Nat) (h : k = l.length) : half g l k = l.map g := by
  subst h
  unfold half
  rw [List.take_length, List.drop_length, List.append_nil]

end Go.Proofs.YtgjehlegcmeeoaaGreatDoor

/- A text between bytes of the call's own. -/
namespace Go.Proofs.YtgjehlegcmeeoaaGreatDoor
set_option maxRecDepth 100000
open Go.ChangeShapes Go.WideShapes Go.ChangeAt Go.RowKit

theorem strCells_row8 {t : List Nat} (ht : ∀ c ∈ t, c < 256) : Lib.strCells (str t) = row8 t := by
  unfold Lib.strCells row8
  have := str_data t
  show _ = _
  simp only [str, List.map_map]
  refine List.map_congr_left fun c hc => ?_
  have h := ht c hc
  simp
  omega
theorem wpList_append_str {w : World} {ops : Array Oper} {rest : List Oper} {o : Oper} {a : Act} {Q : Exit → Act → World → Prop} (hgd : o.guard = none) (s x : Operand)
    (ho : o.op = .call { callee := .builtin .append, args := #[s, x], argTypes := #[32, 9] }) (base : Nat) (v : Value) (l m : List Nat) (hs : a.eval s = v) (hown : Own w base v l) (hx : a.eval x = .string (str m)) (hm : ∀ c ∈ m, c < 256)
    (hlen : l.length + m.length ≤ 70368744177664) (hbase : base ≤ w.heap.size) (r : List Nat) (hr : l ++ m = r)
    (h : ∀ v' w', Own w' base v' r → Below base w w' → wpList Tryz.prog ops Q rest (a.put o.dst v') w') : wpList Tryz.prog ops Q (o :: rest) a w := by
  subst hr
  obtain ⟨i, hi, hz0, hz1, hz2⟩ := info_parts infoU8
  refine Lib.wpList_append_own_string (w := w) hgd s x 32 9 ho base 5 i Tryz.underlying32 Tryz.underlying9 hi hz0 hz1 hz2 v l.length (row8 l) hs hown.1 (str m) hx (by rw [str_size]; unfold maxLen; omega) (by rw [str_size]; omega) hbase ?_
  intro v' w' h2 h3 _
  refine h v' w' ⟨?_, fun c hc => (List.mem_append.1 hc).elim (hown.2 c) (hm c)⟩ ((Below.refl _ _).grown h3 hbase fun k hk => (hown.lt k hk).1)
  rw [strCells_row8 hm, str_size] at h2
  rw [List.length_append]
  unfold row8 at h2 ⊢
  rw [List.map_append]
  exact h2
theorem joined_snoc (t : List Nat) (x : Nat) : ∀ l : List Nat, l ≠ [] → Ac.joined t (l ++ [x]) = Ac.joined t l ++ (t ++ [x])
  | [], h => absurd rfl h
  | [c], _ => by simp [Ac.joined]
  | c :: d :: r, _ => by
    show c :: (t ++ Ac.joined t (d :: r ++ [x])) = (c :: (t ++ Ac.joined t (d :: r))) ++ (t ++ [x])
    rw [joined_snoc t x (d :: r) (by simp)]
    simp
theorem joined_len (t : List Nat) : ∀ l : List Nat, (Ac.joined t l).length ≤ l.length * (t.length + 1)
  | [] => by simp [Ac.joined]
  | [c] => by simp [Ac.joined]
  | c :: d :: r => by
    have := joined_len t (d :: r)
    simp only [Ac.joined, List.length_cons, List.length_append] at this ⊢
    rw [Nat.add_mul _ 1 (t.length + 1)]
    omega
theorem joined_lt {t l : List Nat} (ht : ∀ c ∈ t, c < 256) (hl : ∀ c ∈ l, c < 256) : ∀ c ∈ Ac.joined t l, c < 256 := by
  induction l with
  | nil => simp [Ac.joined]
  | cons c l ih =>
    cases l with
    | nil => simpa [Ac.joined] using hl
    | cons d r =>
      intro x hx
      simp only [Ac.joined, List.mem_cons, List.mem_append] at hx
      rcases hx with rfl | hx | hx
      · exact hl _ (by simp)
      · exact ht _ hx
      · exact ih (fun y hy => hl y (by simp [hy])) x hx
end Go.Proofs.YtgjehlegcmeeoaaGreatDoor
