/- An action among the arguments, whatever its numbers and texts are. -/
import Derived.Test.YtdcefnjdbdnhfaaPrntWrite
import Derived.Deep.Slices
import Derived.Deep.Strs
namespace Go.Proofs.Ytdcefnjdbdnhfaa
set_option maxRecDepth 100000
open Go.ChangeShapes Go.WideShapes Go.ChangeAt Go.RowKit Go.Deep

theorem open_do {H : Type} {enc : TypeId × Value → H} {W : World} {n : Nat} {cs : List Value} {x : DataW H × List MemPlace} (h : DataW.trod enc Try.prog W 0 (fun _ => true) true n 26 cs = some x) :
    ∃ z : Pr.X, cs = [.int .i64 z.kind, .int .i64 z.n, .string (str z.text)] ∧ (∀ c ∈ z.text, c < 256) ∧ z.text.length ≤ 9223372036854775807 := by
  obtain ⟨y0, y1, y2, n, _, hl, h0, h1, h2⟩ := trod_struct3 Try.underlying26 h
  have hc : Try.prog.cellsOf 26 = 3 := by kernel_rfl
  have ci : Try.prog.cellsOf 3 = 1 := by kernel_rfl
  have cst : Try.prog.cellsOf 9 = 1 := by kernel_rfl
  rw [hc] at hl
  match cs, hl with
  | [v0, v1, v2], _ =>
    simp only [ci, cst] at h0 h1 h2
    obtain ⟨k, e0, _, _⟩ := DataW.trod_int Try.underlying3 h0
    obtain ⟨m, e1, _, _⟩ := DataW.trod_int Try.underlying3 h1
    obtain ⟨s, e2, _, hs⟩ := DataW.trod_string Try.underlying9 h2
    simp at e0 e1 e2
    subst e0 e1 e2
    refine ⟨⟨k, m, s.data.toList.map (·.toNat)⟩, ?_, ?_, ?_⟩
    · rw [← str_all s]
    · intro c hc
      obtain ⟨b, _, rfl⟩ := List.mem_map.1 hc
      exact UInt8.toNat_lt b
    · unfold maxLen at hs
      have : s.data.toList.length = s.size := by rw [Array.length_toList]; rfl
      rw [List.length_map, this]
      omega
def w_at (W : World) (a : Addr) (o : Nat) (z : Pr.X) : Prop := W.cell? (a.add o) = some (.int .i64 z.kind) ∧ W.cell? (a.add (o + 1)) = some (.int .i64 z.n) ∧ W.cell? (a.add (o + 2)) = some (.string (str z.text))
theorem open_dos {H : Type} {enc : TypeId × Value → H} {W : World} {base : Nat} {v : Value} {d : DataW H} {p : List MemPlace} (hv : Value.okWide Try.prog W .any base 27 v)
    (h : DataW.Trod enc Try.prog W 0 (fun _ => true) true 27 v d p) : ∃ R : List Pr.X, RdX W v R ∧ ∀ x ∈ R, (∀ c ∈ x.text, c < 256) ∧ x.text.length ≤ 9223372036854775807 := by
  obtain ⟨a0, len, cap, rfl⟩ := okWide_slice Try.underlying27 hv
  obtain ⟨fuel, hf⟩ := h
  have hc : Try.prog.cellsOf 26 = 3 := by kernel_rfl
  rcases open_slice Try.underlying27 hf with ⟨hcs, _⟩ | ⟨a, len', cap', m, n, D, Pl, hcs, _, hl, hm, hmm, _, hx⟩
  · simp [Value.cells] at hcs
    obtain ⟨rfl, rfl, rfl⟩ := hcs
    exact ⟨[], ⟨none, 0, rfl, Nat.le_refl _, Nat.zero_le _, fun h => absurd h (by simp)⟩, by simp⟩
  · simp [Value.cells] at hcs
    obtain ⟨rfl, rfl, rfl⟩ := hcs
    simp only [if_true] at hmm
    subst hmm
    have each : ∀ i, ∃ z : Pr.X, i < len → (w_at W a (i * 3) z) ∧ (∀ c ∈ z.text, c < 256) ∧ z.text.length ≤ 9223372036854775807 := by
      intro i
      by_cases hi : i < len
      · obtain ⟨cs', h1, h2⟩ := hx i (by omega)
        rw [hc] at h1
        obtain ⟨z, rfl, hz, hzl⟩ := open_do h2
        obtain ⟨_, _, hcell⟩ := World.cells?_some h1
        have e0 := hcell 0 (by decide)
        have e1 := hcell 1 (by decide)
        have e2 := hcell 2 (by decide)
        rw [add_add] at e0 e1 e2
        exact ⟨z, fun _ => ⟨⟨by simpa using e0, by simpa using e1, by simpa using e2⟩, hz, hzl⟩⟩
      · exact ⟨⟨0, 0, []⟩, fun h => absurd h hi⟩
    obtain ⟨f, hf'⟩ := Classical.axiomOfChoice each
    refine ⟨(List.range len).map f, ⟨some a, _, by simp; rfl, by simpa using hl, by simp; omega, fun h0 => ?_⟩, fun x hx' => ?_⟩
    · simp at h0
      obtain ⟨b, off, spot⟩ := a
      have hspot : spot = none := by
        have := (hf' 0 h0).1.1
        simpa [Addr.add] using World.cell?_spot this
      subst hspot
      refine ⟨b, off, rfl, fun k hk => ?_⟩
      have hk' : k < len := by simpa using hk
      obtain ⟨h1, _, _⟩ := hf' k hk'
      simp only [List.getElem_map, List.getElem_range]
      obtain ⟨e0, e1, e2⟩ := h1
      rw [add_plain] at e0 e1 e2
      exact ⟨e0, by rw [← e1]; rfl, by rw [← e2]; rfl⟩
    · obtain ⟨i, hi, rfl⟩ := List.mem_map.1 hx'
      exact (hf' i (by simpa using hi)).2
end Go.Proofs.Ytdcefnjdbdnhfaa
