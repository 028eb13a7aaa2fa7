/- One row of bytes: the program and the document read it alike. The document's print of it, in plain words. -/
import Derived.Test.YtdcefnjdbdnhfaaPrntOwn
import Derived.Test.YtdcefnjdbdnhfaaPrntRun
import Derived.Test.YtdcefnjdbdnhfaaPrntRefW
namespace Go.Proofs.Ytdcefnjdbdnhfaa
set_option maxRecDepth 100000
open Go.ChangeShapes Go.WideShapes Go.ChangeAt Go.RowKit

/-- What is read of a print: both that read it, said at once. -/
theorem pair_said {w w' : World} {e : Ending} {T : Option (List Ac.D × List (List Nat))} (h : PairIs w e w' T) : ∃ u v, e = .returned (.tuple #[u, v, .bool T.isSome]) ∧ RdD w' u ((T.map Prod.fst).getD []) ∧ Rows2 w' v ((T.map Prod.snd).getD []) ∧ Below w.heap.size w w' := by
  rcases T with _ | ⟨L, I⟩
  · obtain ⟨rfl, hb⟩ := h
    exact ⟨_, _, rfl, rdD_none _, rows2_none _, hb⟩
  · obtain ⟨⟨u, v, rfl, ho, hi⟩, hb⟩ := h
    exact ⟨u, v, rfl, ho.rd, hi.rows, hb⟩
theorem came_said {base : Nat} {w w' : World} {e : Ending} {T : Option (List Nat)} (h : CameIs base w e w' T) : ∃ u, e = .returned (.tuple #[u, .bool T.isSome]) ∧ Bytes w' u (T.getD []) ∧ Below base w w' := by
  rcases T with _ | l
  · obtain ⟨rfl, hb⟩ := h
    exact ⟨_, rfl, bytes_none _, hb⟩
  · obtain ⟨⟨u, rfl, hm⟩, hb⟩ := h
    exact ⟨u, rfl, hm.bytes, hb⟩
theorem parse_texts {mb : Int} {b : List Nat} (hb : ∀ c ∈ b, c < 256) : ∀ d ∈ ((Pr.parse 999 mb b).map Prod.fst).getD [], ∀ c ∈ d.text, c < 256 := by
  rcases h : Pr.parse 999 mb b with _ | ⟨L, I⟩
  · intro d hd
    cases hd
  · intro d hd
    have := (Ac.ok_small (Pr.parse_good hb h).1).2.2 d hd
    exact this.2.2.2.2
/-- What the program reads. -/
theorem pparse_said (v : Value) (b : List Nat) (w : World) (hv : Bytes w v b) (hb : b.length ≤ 10000) : Calls Try.prog 8 #[v] w fun e w' => ∃ u y, e = .returned (.tuple #[u, y, .bool (Pr.parse 999 10000 b).isSome]) ∧ RdD w' u (((Pr.parse 999 10000 b).map Prod.fst).getD []) ∧ Rows2 w' y (((Pr.parse 999 10000 b).map Prod.snd).getD []) ∧ Below w.heap.size w w' :=
  (pparse_any v b w hv (by omega) (Pr.parse 999 10000 b) (by rw [← Pr.parse_two (m := 10000) (m' := 10000) (by omega) (by omega), Pr.parse_two (m' := (b.length : Int)) (by omega) (by omega)])).mono fun _ _ h => pair_said h
theorem refpparse_said (v : Value) (b : List Nat) (w : World) (hv : Bytes w v b) (hb : b.length ≤ 10000) : Calls Try.prog 14 #[v] w fun e w' => ∃ u y, e = .returned (.tuple #[u, y, .bool (Pr.parse 999 10000 b).isSome]) ∧ RdD w' u (((Pr.parse 999 10000 b).map Prod.fst).getD []) ∧ Rows2 w' y (((Pr.parse 999 10000 b).map Prod.snd).getD []) ∧ Below w.heap.size w w' :=
  (refpparse_any v b w hv (by omega)).mono fun _ _ h => pair_said (by rw [Pr.parse_two (m' := 10000) (by omega) (by omega)] at h; exact h)
theorem pvalue_said (v : Value) (b : List Nat) (w : World) (hv : Bytes w v b) (hb : b.length ≤ 10000) : Calls Try.prog 9 #[v] w fun e w' => ∃ u, e = .returned (.tuple #[u, .bool (Pr.value 999 10000 b).isSome]) ∧ Bytes w' u ((Pr.value 999 10000 b).getD []) ∧ Below w.heap.size w w' :=
  (pvalue_any v b w hv (by omega) (Pr.value 999 10000 b) (by rw [← Pr.value_two (m := 10000) (m' := 10000) (by omega) (by omega), Pr.value_two (m' := (b.length : Int)) (by omega) (by omega)])).mono fun _ _ h => came_said h
theorem refpvalue_said (v : Value) (b : List Nat) (w : World) (hv : Bytes w v b) (hb : b.length ≤ 10000) : Calls Try.prog 15 #[v] w fun e w' => ∃ u, e = .returned (.tuple #[u, .bool (Pr.value 999 10000 b).isSome]) ∧ Bytes w' u ((Pr.value 999 10000 b).getD []) ∧ Below w.heap.size w w' :=
  (refpvalue_any v b w hv (by omega) (Pr.value 999 10000 b) (by rw [← Pr.value_two (m := 10000) (m' := 10000) (by omega) (by omega)]) hb).mono fun _ _ h => came_said h
/-- Six rows of bytes, newly laid. -/
theorem rows2_six {w : World} {g : Nat} {t : TypeId} {us : List Value} {X : List (List Nat)} (hg : w.heap[g]? = some (.cells us.toArray t (0, 0))) (hl : us.length = X.length) (hx : X.length ≤ 1000000) (h : ∀ i, i < X.length → Bytes w (us.getD i undef) (X.getD i [])) : Rows2 w (.slice (some ⟨g, 0, none⟩) X.length X.length) X := by
  refine ⟨by omega, _, _, rfl, Nat.le_refl _, fun _ => ⟨g, 0, rfl, fun i hi => ⟨us.getD i undef, ?_, h i hi⟩⟩⟩
  rw [Nat.zero_add, cell_of_row w g i _ t (0, 0) hg, List.getElem?_toArray, List.getD_eq_getElem?_getD, List.getElem?_eq_getElem (by omega)]
  rfl
end Go.Proofs.Ytdcefnjdbdnhfaa
