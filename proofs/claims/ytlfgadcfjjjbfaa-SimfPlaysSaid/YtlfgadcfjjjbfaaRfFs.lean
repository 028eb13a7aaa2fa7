/- The document's own files: a block of its own, a row of files in the order of their names; what only reads them. -/
import Derived.Test.YtlfgadcfjjjbfaaSimKeep
namespace Go.Proofs.Ytlfgadcfjjjbfaa
set_option maxRecDepth 100000
open Go.ChangeShapes Go.WideShapes Go.ChangeAt Go.RowKit Go.ChangeMaps
open Sf

/-- A slice of files that reads as a list; its blocks are among G, and are not q. -/
def RdF (q : Nat) (G : Nat → Prop) (w : World) (lv : Value) (l : List Fi) : Prop :=
  ∃ A c, lv = .slice A l.length c ∧ l.length ≤ c ∧ l.length ≤ 1048576 ∧ (0 < l.length → ∃ b off, A = some ⟨b, off, none⟩ ∧ G b ∧ b ≠ q ∧ ∀ k (h : k < l.length), w.cell? ⟨b, off + k * 3, none⟩ = some (.string (str (l[k]'h).name)) ∧
    (∃ bv, w.cell? ⟨b, off + k * 3 + 1, none⟩ = some bv ∧ Bytes w bv (l[k]'h).b ∧ ∀ j, bv.ownBlock = some j → G j ∧ j ≠ q) ∧ w.cell? ⟨b, off + k * 3 + 2, none⟩ = some (.int .i64 (((l[k]'h).stamp : Nat) : Int)))
theorem RdF.same {q : Nat} {G G' : Nat → Prop} {w w' : World} {lv : Value} {l : List Fi} (h : RdF q G w lv l) (hg : ∀ k, G k → k ≠ q → w'.heap[k]? = w.heap[k]?) (hG : ∀ k, G k → G' k) : RdF q G' w' lv l := by
  obtain ⟨A, c, rfl, h1, h2, h3⟩ := h
  refine ⟨A, c, rfl, h1, h2, fun h0 => ?_⟩
  obtain ⟨b, off, rfl, hb, hbq, hc⟩ := h3 h0
  have hcell : ∀ o, w'.cell? ⟨b, o, none⟩ = w.cell? ⟨b, o, none⟩ := fun o => World.cell?_of_block (hg b hb hbq)
  refine ⟨b, off, rfl, hG b hb, hbq, fun k hk => ?_⟩
  obtain ⟨c1, ⟨bv, c2, c3, c4⟩, c5⟩ := hc k hk
  exact ⟨(hcell _).trans c1, ⟨bv, (hcell _).trans c2, c3.same fun j _ hj => hg j (c4 j hj).1 (c4 j hj).2, fun j hj => ⟨hG j (c4 j hj).1, (c4 j hj).2⟩⟩, (hcell _).trans c5⟩
def cellsR (lv : Value) (s : S) : Array Value := #[lv, .int .i64 s.room, .int .i64 (s.next : Int), .int .i64 s.cut]
structure Rf (w : World) (q : Nat) (lv : Value) (G : Nat → Prop) (s : S) : Prop where
  blk : Blk w q 56 (cellsR lv s)
  row : RdF q G w lv s.l
  gq : G q
  lt : ∀ k, G k → k < w.heap.size
  good : Sf.Good s
theorem Rf.same {w w' : World} {q : Nat} {lv : Value} {G : Nat → Prop} {s : S} (h : Rf w q lv G s) (hs : w.heap.size ≤ w'.heap.size) (hb : ∀ k, G k → w'.heap[k]? = w.heap[k]?) : Rf w' q lv G s :=
  ⟨(hb q h.gq).trans h.blk, h.row.same (fun k hk _ => hb k hk) fun _ h => h, h.gq, fun k hk => Nat.lt_of_lt_of_le (h.lt k hk) hs, h.good⟩
theorem Rf.under {w w' : World} {q : Nat} {lv : Value} {G : Nat → Prop} {s : S} (h : Rf w q lv G s) (hb : Below w.heap.size w w') : Rf w' q lv G s := h.same hb.size fun k hk => hb.block k (h.lt k hk)
theorem Rf.heap {w W : World} {q : Nat} {lv : Value} {G : Nat → Prop} {s : S} (h : Rf w q lv G s) (e : W.heap = w.heap) : Rf W q lv G s := h.same (by rw [e]; exact Nat.le_refl _) fun k _ => by rw [e]
theorem Rf.kept {w w' : World} {q : Nat} {lv : Value} {G K : Nat → Prop} {s : S} (h : Rf w q lv G s) (hk : Kept K w w') (hG : ∀ k, G k → K k) : Rf w' q lv G s := h.same hk.1 fun k hg => hk.2 k (hG k hg)
/-- Where a file stands. -/
def AtIs (l : List Fi) (t : List Nat) (z : Int) : Prop := (z = -1 ∧ Sf.get l t = none) ∨ ∃ k, ∃ h : k < l.length, z = (k : Int) ∧ Sf.get l t = some (l[k]'h) ∧ ∀ j, ∀ h' : j < l.length, j < k → (l[j]'h').name ≠ t
theorem get_first {l : List Fi} {t : List Nat} {k : Nat} (hk : k < l.length) (hn : (l[k]'hk).name = t) (hall : ∀ j, ∀ h' : j < l.length, j < k → (l[j]'h').name ≠ t) : Sf.get l t = some (l[k]'hk) := by
  unfold Sf.get
  rw [List.find?_eq_some_iff_getElem]
  exact ⟨by simpa using hn, k, hk, rfl, fun j hj => by simpa using hall j (by omega) hj⟩
theorem get_nowhere {l : List Fi} {t : List Nat} (hall : ∀ j, ∀ h' : j < l.length, (l[j]'h').name ≠ t) : Sf.get l t = none := by
  unfold Sf.get
  rw [List.find?_eq_none]
  intro x hx
  obtain ⟨j, hj, rfl⟩ := List.getElem_of_mem hx
  simpa using hall j hj
set_option maxHeartbeats 4000000 in
theorem rat_any (t : List Nat) (w : World) (q : Nat) (lv : Value) (G : Nat → Prop) (s : S) (h : Rf w q lv G s) (ht : ∀ c ∈ t, c < 256) :
    Calls Try.prog 32 #[.pointer (some ⟨q, 0, none⟩), .string (str t)] w fun e w' => (∃ z, e = .returned (.int .i64 z) ∧ AtIs s.l t z) ∧ w = w' := by
  have k0 : w.cell? ⟨q, 0, none⟩ = some lv := h.blk.at 0
  obtain ⟨A, c, rfl, hc, hm, hx⟩ := h.row
  obtain ⟨n, hn⟩ : ∃ n, s.l.length = n := ⟨_, rfl⟩
  have HX := Lib.hid hx
  have HN := Lib.hid hn
  have HT := Lib.hid ht
  have HG := Lib.hid h.good
  rw [hn] at hc hm k0
  clear hx hn ht h
  go_enter Try.func32, Try.ntmps32
  go_wp2_with fail
  go_loopw [5] (fun iv wr => ∃ k : Nat, k ≤ n ∧ iv = .int .i64 (k : Int) ∧ Hid (∀ j, ∀ h' : j < s.l.length, j < k → (s.l[j]'h').name ≠ t) ∧ wr = w) (fun iv _ => n - (intOf iv).toNat)
  case atStart => exact ⟨0, by omega, rfl, Lib.hid (by intro j _ hj; omega), rfl⟩
  case round =>
    obtain ⟨k, hk, rfl, HA, rfl⟩ := hrel
    by_cases hlt : k < n
    · have hlt' : (k : Int) < (n : Int) := by omega
      have hkl : k < s.l.length := by rw [HN.out]; exact hlt
      obtain ⟨b, off, rfl, -, -, hcs⟩ := HX.out (by omega)
      obtain ⟨hc1, -, -⟩ := hcs k hkl
      obtain ⟨u, hu⟩ : ∃ u, (s.l[k]'hkl).name = u := ⟨_, rfl⟩
      rw [hu] at hc1
      have hse := str_same (l := u) (m := t) (by rw [← hu]; exact (HG.out.2.1 _ (List.getElem_mem hkl)).1) HT.out
      have HU : Hid ((s.l[k]'hkl).name = u) := Lib.hid hu
      clear hcs hu
      by_cases hd : u = t
      · have HF : Hid (AtIs s.l t (k : Int)) := Lib.hid (.inr ⟨k, hkl, rfl, get_first hkl (HU.out.trans hd) HA.out, HA.out⟩)
        rw [decide_eq_true hd] at hse
        clear hd HU
        go_wp2
        go_ret
        exact ⟨⟨_, rfl, HF.out⟩, rfl⟩
      · have HA2 : Hid (∀ j, ∀ h' : j < s.l.length, j < k + 1 → (s.l[j]'h').name ≠ t) := Lib.hid fun j h' hj => by
          by_cases e : j = k
          · subst e
            rw [HU.out]
            exact hd
          · exact HA.out j h' (by omega)
        rw [decide_eq_false hd] at hse
        clear hd HU
        go_wp2
        go_roundw
        case rel => exact ⟨k + 1, by omega, by go_num, HA2, trivial⟩
        case measure => simp [intOf]; omega
    · obtain rfl : n = k := by omega
      have HF : Hid (AtIs s.l t (-1)) := Lib.hid (.inl ⟨rfl, get_nowhere fun j h' => HA.out j h' (by rw [← HN.out]; exact h')⟩)
      go_wp2
      go_ret
      exact ⟨⟨_, rfl, HF.out⟩, rfl⟩
end Go.Proofs.Ytlfgadcfjjjbfaa
