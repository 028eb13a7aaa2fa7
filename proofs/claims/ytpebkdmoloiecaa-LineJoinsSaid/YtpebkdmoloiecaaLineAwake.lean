/- What the statements of layer 5 ask first: known texts, and what they are. -/
import Derived.Test.YtpebkdmoloiecaaLineApi
import Derived.Shelf.RegionOpen
namespace Go.Proofs.Ytpebkdmoloiecaa
open Go.ChangeShapes Go.WideShapes Go.ChangeAt Go.RowKit

def aw1 : List Nat := [97, 58, 98, 32, 34, 120, 32, 121, 34, 32, 35, 32, 122, 10, 10, 32, 99]
def aw2 : List Nat := [97, 10, 32, 34, 98]
def aw3 : List Nat := [97, 1]
theorem aw1_is : Ln.split aw1 = .ok [[⟨[97], 1, 1, false⟩, ⟨[58], 1, 2, false⟩, ⟨[98], 1, 3, false⟩, ⟨[120, 32, 121], 1, 5, true⟩], [⟨[99], 3, 2, false⟩]] := by rfl
theorem aw2_is : Ln.split aw2 = .bad 2 2 2 := by rfl
theorem aw3_is : Ln.split aw3 = .bad 1 1 2 := by rfl
/-- What is known of a row whose length is. -/
theorem RdL.at {w : World} {A : Option Addr} {n c : Nat} {LL : List (List Ln.W)} (h : RdL w (.slice A n c) LL) (i : Nat) (hi : i < LL.length) : ∃ b off u, A = some ⟨b, off, none⟩ ∧ w.cell? ⟨b, off + i, none⟩ = some u ∧ RdW w u (LL[i]'hi) := by
  obtain ⟨A', c', e, _, _, hx⟩ := h
  injection e with e1 e2 e3
  subst e1
  obtain ⟨b, off, rfl, hc⟩ := hx (by omega)
  obtain ⟨u, h1, h2⟩ := hc i hi
  exact ⟨b, off, u, rfl, h1, h2⟩
theorem RdW.at {w : World} {A : Option Addr} {n c : Nat} {R : List Ln.W} (h : RdW w (.slice A n c) R) (k : Nat) (hk : k < R.length) : ∃ b off, A = some ⟨b, off, none⟩ ∧ w.cell? ⟨b, off + k * 4, none⟩ = some (.string (str (R[k]'hk).text)) ∧ w.cell? ⟨b, off + k * 4 + 1, none⟩ = some (.int .i64 (R[k]'hk).line) ∧ w.cell? ⟨b, off + k * 4 + 2, none⟩ = some (.int .i64 (R[k]'hk).col) ∧ w.cell? ⟨b, off + k * 4 + 3, none⟩ = some (.bool (R[k]'hk).q) := by
  obtain ⟨A', c', e, _, _, hx⟩ := h
  injection e with e1 e2 e3
  subst e1
  obtain ⟨b, off, rfl, hc⟩ := hx (by omega)
  exact ⟨b, off, rfl, hc k hk⟩
theorem RdL.parts {w : World} {v : Value} {LL : List (List Ln.W)} (h : RdL w v LL) : ∃ A c, v = .slice A LL.length c := by
  obtain ⟨A, c, e, _⟩ := h
  exact ⟨A, c, e⟩
theorem RdW.parts {w : World} {v : Value} {R : List Ln.W} (h : RdW w v R) : ∃ A c, v = .slice A R.length c ∧ R.length ≤ c := by
  obtain ⟨A, c, e, h, _⟩ := h
  exact ⟨A, c, e, h⟩
theorem rdL_none (w : World) (A : Option Addr) (c : Nat) : RdL w (.slice A 0 c) [] := ⟨A, c, rfl, Nat.zero_le _, Nat.zero_le _, fun h => absurd h (by simp)⟩
/-- What is told of a text, as it reads. -/
theorem Told.rd {w w' : World} {e : Ending} {R : Ln.Res} (h : Told w w' e R) : ∃ (v : Value) (LL : List (List Ln.W)) (k ln col : Nat), e = .returned (.tuple #[v, .agg #[.int .i64 (k : Int), .int .i64 (ln : Int), .int .i64 (col : Int)]]) ∧ RdL w' v LL ∧
    ((R = .ok LL ∧ k = 0 ∧ ln = 0 ∧ col = 0) ∨ (R = .bad k ln col ∧ LL = [])) := by
  rcases R with LL | ⟨k, ln, col⟩
  · obtain ⟨v, he, hl⟩ := h
    exact ⟨v, LL, 0, 0, 0, he, hl.rd, .inl ⟨rfl, rfl, rfl, rfl⟩⟩
  · obtain ⟨A, c, he⟩ := h
    exact ⟨_, [], k, ln, col, he, rdL_none w' A c, .inr ⟨rfl, rfl⟩⟩
set_option maxRecDepth 100000 in
set_option maxHeartbeats 4000000 in
theorem awake_any (w : World) : Calls Try.prog 8 #[] w fun e w' => e = .returned (.bool true) ∧ Below w.heap.size w w' := by
  have kc := fun (w : World) (C : Array Value) (n c : Nat) => Lib.run_convert_bytes_const (P := Try.prog) w 22 5 C n c Try.underlying22 Try.underlying5
  have kc2 := fun (w : World) (O : Obj) (C : Array Value) (n c : Nat) => convert_second (P := Try.prog) w O 22 5 C n c Try.underlying22 Try.underlying5
  go_enter Try.func8, Try.ntmps8
  go_wp2_with fail
  refine (split_any _ aw1 _ (bytes_new w _ rfl aw1 _ _ (by decide) (by decide)) (by decide)).mono ?_
  rintro e w1 ⟨ht, hb1⟩
  rw [aw1_is] at ht
  obtain ⟨v1, rfl, hl⟩ := ht
  have hB1 : Below w.heap.size w w1 := ((Below.refl _ _).alloc (Nat.le_refl _) _).trans (hb1.mono (by simp))
  have hR1 := hl.rd
  have hS1 := heap_alloc_new w1 (.cells #[.int .i64 0, .int .i64 0, .int .i64 0] 29)
  clear hl hb1
  go_wp2_with fail
  refine (split_any _ aw2 _ (bytes_new (w1.alloc (.cells #[.int .i64 0, .int .i64 0, .int .i64 0] 29)) _ (by simp) aw2 _ _ (by decide) (by decide)) (by decide)).mono ?_
  rintro e w2 ⟨ht, hb2⟩
  rw [aw2_is] at ht
  obtain ⟨A2, c2, rfl⟩ := ht
  have hX1 : Below w1.heap.size w1 w2 := (((Below.refl _ _).alloc (Nat.le_refl _) _).alloc (by simp) _).trans (hb2.mono (by simp; omega))
  have hF1 : Blk w2 w1.heap.size 29 #[.int .i64 0, .int .i64 0, .int .i64 0] := Blk.below (Blk.alloc hS1 _) hb2 (by simp; omega)
  have hB2 := hB1.trans (hX1.mono hB1.size)
  have hR2 := hR1.under hX1
  clear hb2 hR1 hS1 hX1
  go_wp2_with fail
  have hS2 : Blk (w2.alloc (.cells #[.int .i64 2, .int .i64 2, .int .i64 2] 29)) w2.heap.size 29 #[.int .i64 2, .int .i64 2, .int .i64 2] := heap_alloc_new w2 _
  refine (split_any _ aw3 _ (bytes_new (w2.alloc (.cells #[.int .i64 2, .int .i64 2, .int .i64 2] 29)) _ (by simp) aw3 _ _ (by decide) (by decide)) (by decide)).mono ?_
  rintro e w3 ⟨ht, hb3⟩
  rw [aw3_is] at ht
  obtain ⟨A3, c3, rfl⟩ := ht
  have hX2 : Below w2.heap.size w2 w3 := (((Below.refl _ _).alloc (Nat.le_refl _) _).alloc (by simp) _).trans (hb3.mono (by simp; omega))
  have hF2 : Blk w3 w2.heap.size 29 #[.int .i64 2, .int .i64 2, .int .i64 2] := Blk.below (Blk.alloc hS2 _) hb3 (by simp; omega)
  have hF12 := hF1.under hX2
  have hB3 := hB2.trans (hX2.mono hB2.size)
  have hR3 := hR2.under hX2
  clear hb3 hR2 hS2 hX2 hF1
  obtain ⟨A1, c1, rfl⟩ := hR3.parts
  obtain ⟨b, o, u1, rfl, k1, hw1⟩ := hR3.at 0 (by decide)
  obtain ⟨b', o', u2, hbo, k2, hw2⟩ := hR3.at 1 (by decide)
  cases hbo
  obtain ⟨B1, d1, rfl, hd1⟩ := hw1.parts
  obtain ⟨B2, d2, rfl, hd2⟩ := hw2.parts
  obtain ⟨x1, y1, rfl, p0, p1, p2, p3⟩ := hw1.at 3 (by decide)
  obtain ⟨x2, y2, rfl, q0, q1, q2, q3⟩ := hw2.at 0 (by decide)
  have s1 : ({ data := #[120, 32, 121] } : ByteArray) = str [120, 32, 121] := rfl
  have s2 : ({ data := #[99] } : ByteArray) = str [99] := rfl
  have k1' : w3.cell? ⟨b, o, none⟩ = some (.slice (some ⟨x1, y1, none⟩) 4 d1) := k1
  have k2' : w3.cell? ⟨b, o + 1, none⟩ = some (.slice (some ⟨x2, y2, none⟩) 1 d2) := k2
  have p0' : w3.cell? ⟨x1, y1 + 12, none⟩ = some (.string (str [120, 32, 121])) := p0
  have p1' : w3.cell? ⟨x1, y1 + 12 + 1, none⟩ = some (.int .i64 1) := p1
  have p2' : w3.cell? ⟨x1, y1 + 12 + 2, none⟩ = some (.int .i64 5) := p2
  have p3' : w3.cell? ⟨x1, y1 + 12 + 3, none⟩ = some (.bool true) := p3
  have q0' : w3.cell? ⟨x2, y2, none⟩ = some (.string (str [99])) := by simpa using q0
  have q1' : w3.cell? ⟨x2, y2 + 1, none⟩ = some (.int .i64 3) := by simpa using q1
  have q2' : w3.cell? ⟨x2, y2 + 2, none⟩ = some (.int .i64 2) := by simpa using q2
  have q3' : w3.cell? ⟨x2, y2 + 3, none⟩ = some (.bool false) := by simpa using q3
  have m0 : w3.cell? ⟨w1.heap.size, 0, none⟩ = some (.int .i64 0) := hF12.at 0
  have m1 : w3.cell? ⟨w1.heap.size, 1, none⟩ = some (.int .i64 0) := hF12.at 1
  have m2 : w3.cell? ⟨w1.heap.size, 2, none⟩ = some (.int .i64 0) := hF12.at 2
  have n0 : w3.cell? ⟨w2.heap.size, 0, none⟩ = some (.int .i64 2) := hF2.at 0
  have n1 : w3.cell? ⟨w2.heap.size, 1, none⟩ = some (.int .i64 2) := hF2.at 1
  have n2 : w3.cell? ⟨w2.heap.size, 2, none⟩ = some (.int .i64 2) := hF2.at 2
  have hd1' : 4 ≤ d1 := hd1
  have hd2' : 1 ≤ d2 := hd2
  have old : ∀ {a : Addr} {v : Value}, w3.cell? a = some v → ∀ o, (w3.alloc o).cell? a = some v := fun {a v} h o => (World.cell?_alloc_lt w3 o a (World.block_lt_of_cell? _ _ h)).trans h
  have z1 := old k1'
  have z2 := old k2'
  have z3 := old p0'
  have z4 := old p1'
  have z5 := old p2'
  have z6 := old p3'
  have z7 := old q0'
  have z8 := old q1'
  have z9 := old q2'
  have za := old q3'
  have zb := old m0
  have zc := old m1
  have zd := old m2
  have ze := old n0
  have zf := old n1
  have zg := old n2
  clear hw1 hw2 hR3 k1 k2 p0 p1 p2 p3 q0 q1 q2 q3 hd1 hd2 old k1' k2' p0' p1' p2' p3' q0' q1' q2' q3' m0 m1 m2 n0 n1 n2 hF2 hF12
  go_wp2
  go_ret
  exact ⟨rfl, hB3.alloc hB3.size _⟩
end Go.Proofs.Ytpebkdmoloiecaa
