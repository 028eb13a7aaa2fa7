/- What the document's own answer of layer 11 (fettleref10) is: an artifact made, and opened. -/
import Derived.Test.YtkfmjkoghfcciaaArti
import Derived.Test.YtkfmjkoghfcciaaFramRefScan
namespace Go.Proofs.Ytkfmjkoghfcciaa
set_option maxRecDepth 100000
open Go.ChangeShapes Go.WideShapes Go.ChangeAt Go.RowKit

theorem aref_new {w : World} {v : Value} {b : List Nat} (h : Bytes w v b) (hb : b.length ≤ 1099511627776) : Ref (w.alloc (.cells #[v, .bool false] 111)) w.heap.size w.heap.size (some b) :=
  ⟨Nat.le_refl _, v, heap_alloc_new w _, h.alloc _, fun h0 => h.between h0, hb⟩

/-- What the one frame that bytes are holds; nothing else. -/
def AWholeIs (l : List Nat) (w : World) (e : Ending) (w' : World) : Prop := ∃ x, e = .returned (.tuple #[x, .bool (Ar.one l)]) ∧ Bytes w' x (if Ar.one l then Fr.held l else []) ∧ Below w.heap.size w w'

set_option maxHeartbeats 2000000 in
theorem refwhole_any (v : Value) (l : List Nat) (w : World) (h : Bytes w v l) (hl : l.length ≤ 1099511627776) :
    Calls Try.prog 85 #[v] w (AWholeIs l w) := by
  obtain ⟨N, hS⟩ := Fr.ex_scan l
  have HS := Lib.hid hS
  have HONE := Lib.hid (Ar.one_scn hS)
  obtain ⟨_, _, A0, c0, rfl, _, _⟩ := h.parts
  obtain ⟨n, hn⟩ : ∃ n, l.length = n := ⟨_, rfl⟩
  have H := Lib.hid h
  rw [hn] at H HONE hl ⊢
  have HN := Lib.hid hn
  have hN := (hS.le (Nat.le_refl N)).2
  have hN2 := (hS.le (Nat.le_refl N)).1
  rw [hn] at hN2
  clear h hn hS
  go_enter Try.func85, Try.ntmps85
  go_wp2_with fail
  refine (refscan_any _ l N w H.out HS.out (by rw [HN.out]; exact hl)).mono ?_
  rintro e w1 ⟨u, rfl, hou, hb1⟩
  have HB1 := Lib.hid hb1
  have HU := Lib.hid hou.rows
  obtain ⟨Au, cu, rfl, _⟩ := hou.parts
  have hrl := Fr.rows_length l N
  rw [hrl] at HU ⊢
  obtain ⟨q, hq⟩ : ∃ q, Fr.pos l N = q := ⟨_, rfl⟩
  rw [hq] at HONE hN hN2 ⊢
  clear hou hb1 hrl hq
  by_cases h1 : N = 1 ∧ q = n
  · obtain ⟨rfl, rfl⟩ := h1
    have ho : Hid (Ar.one l = true) := Lib.hid (by rw [HONE.out]; simp)
    obtain ⟨b, off, u, rfl, hcu, hbu⟩ := HU.out.at (k := 0) (by omega)
    rw [Fr.rows_at _ _ _ (by omega)] at hbu
    have hd : Fr.held (l.drop (Fr.pos l 0)) = Fr.held l := rfl
    rw [hd] at hbu
    rw [Nat.add_zero] at hcu
    have HBU := Lib.hid hbu
    clear hbu HU hd HONE
    go_wp2
    go_ret2
    exact ⟨_, by rw [ho.out]; rfl, by rw [ho.out]; exact HBU.out, HB1.out⟩
  · have ho : Hid (Ar.one l = false) := Lib.hid (by
      rw [HONE.out]
      by_cases hN1 : N = 1
      · have : q ≠ n := fun e => h1 ⟨hN1, e⟩
        simp [this]
      · simp [hN1])
    by_cases hN1 : N = 1
    · subst hN1
      have hqn : ¬ q = n := fun e => h1 ⟨rfl, e⟩
      have hqI : ((q : Int) != (n : Int)) = true := by rw [bne_iff_ne]; omega
      clear h1 HONE
      go_wp2
      go_ret2
      exact ⟨_, by rw [ho.out]; rfl, by rw [ho.out]; exact bytes_none _, HB1.out⟩
    · have hNI : ((N : Int) != 1) = true := by rw [bne_iff_ne]; omega
      clear h1 HONE
      go_wp2
      go_ret2
      exact ⟨_, by rw [ho.out]; rfl, by rw [ho.out]; exact bytes_none _, HB1.out⟩

end Go.Proofs.Ytkfmjkoghfcciaa
