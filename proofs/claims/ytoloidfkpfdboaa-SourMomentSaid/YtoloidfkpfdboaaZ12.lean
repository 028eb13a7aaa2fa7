/- Files in memory: the names in a folder, rising. -/
import Derived.Test.YtoloidfkpfdboaaZSimSort
import Derived.Test.YtoloidfkpfdboaaZ10
import Derived.Maps.RangeWalk
namespace Go.Proofs.Ytoloidfkpfdboaa
set_option maxRecDepth 100000
open Go.ChangeShapes Go.WideShapes Go.ChangeAt Go.RowKit Go.ChangeMaps
open Sf

theorem skey_inv (key : Value) (kl : Lit) (h : keyOf Try.prog 9 key = some kl) : ∃ s : ByteArray, key = Value.string s := by
  cases key <;> simp [keyOf, Try.underlying9, mapKey] at h
  exact ⟨_, rfl⟩
theorem skey_of (s : ByteArray) (kl : Lit) (h : keyOf Try.prog 9 (.string s) = some kl) : kl = keyL (s.data.toList.map (·.toNat)) := by
  simp [keyOf, Try.underlying9, mapKey] at h
  rw [← h.2]
  unfold keyL
  rw [List.map_map]
  congr 1
  conv => lhs; rw [← List.map_id s.data.toList]
  exact List.map_congr_left fun b _ => by simp
theorem skey_same {t u : List Nat} (ht : ∀ c ∈ t, c < 256) (hu : ∀ c ∈ u, c < 256) : (keyL t).sameKey (keyL u) = decide (t = u) := by
  by_cases e : t = u
  · subst e
    rw [WideAt.sameKey_self (keyL_key t), decide_eq_true rfl]
  · rw [decide_eq_false e]
    cases h : (keyL t).sameKey (keyL u)
    · rfl
    · exact absurd (keyL_inj ht hu (WideAt.sameKey_eq h)) e
/-- What the loop over the files has come to. -/
structure Got (l : List Fi) (d : List Nat) (left : Lit → Bool) (L : List (List Nat)) : Prop where
  mem : ∀ t ∈ L, (∀ c ∈ t, c < 256) ∧ (Sf.get l t).isSome = true ∧ folder t = d ∧ left (keyL t) = false
  nd : L.Nodup
  all : ∀ t, (∀ c ∈ t, c < 256) → (Sf.get l t).isSome = true → folder t = d → left (keyL t) = false → t ∈ L
theorem Got.skip {l : List Fi} {d : List Nat} {left : Lit → Bool} {L : List (List Nat)} (h : Got l d left L) {t : List Nat} (ht : ∀ c ∈ t, c < 256) (hd : folder t ≠ d) : Got l d (fun z => left z && !z.sameKey (keyL t)) L := by
  refine ⟨fun u hu => ?_, h.nd, fun u hu h1 h2 h3 => ?_⟩
  · obtain ⟨a, b, c, e⟩ := h.mem u hu
    exact ⟨a, b, c, by simp [e]⟩
  · rw [skey_same hu ht] at h3
    by_cases e : u = t
    · exact absurd (e ▸ h2) hd
    · rw [decide_eq_false e] at h3
      exact h.all u hu h1 h2 (by simpa using h3)
theorem Got.take {l : List Fi} {d : List Nat} {left : Lit → Bool} {L : List (List Nat)} (h : Got l d left L) {t : List Nat} (ht : ∀ c ∈ t, c < 256) (hg : (Sf.get l t).isSome = true) (hd : folder t = d) (hl : left (keyL t) = true) : Got l d (fun z => left z && !z.sameKey (keyL t)) (L ++ [t]) := by
  have hn : t ∉ L := fun hm => by
    have := (h.mem t hm).2.2.2
    rw [hl] at this
    cases this
  refine ⟨fun u hu => ?_, ?_, fun u hu h1 h2 h3 => ?_⟩
  · rcases List.mem_append.1 hu with hu | hu
    · obtain ⟨a, b, c, e⟩ := h.mem u hu
      exact ⟨a, b, c, by simp [e]⟩
    · simp at hu
      subst hu
      exact ⟨ht, hg, hd, by simp [skey_same ht ht]⟩
  · rw [List.nodup_append]
    exact ⟨h.nd, by simp, fun a ha b hb e => by simp at hb; subst hb; exact hn (e ▸ ha)⟩
  · rw [skey_same hu ht] at h3
    by_cases e : u = t
    · rw [e]; simp
    · rw [decide_eq_false e] at h3
      exact List.mem_append_left _ (h.all u hu h1 h2 (by simpa using h3))
theorem pairwise_unique {A B : List (List Nat)} (ha : A.Pairwise (· < ·)) (hb : B.Pairwise (· < ·)) (h : ∀ t, t ∈ A ↔ t ∈ B) : A = B := by
  have hna : A.Nodup := ha.imp fun h => lt_ne h
  have hnb : B.Nodup := hb.imp fun h => lt_ne h
  refine List.Perm.eq_of_pairwise (le := (· < ·)) (fun a b _ _ h1 h2 => absurd h2 (List.lt_asymm h1)) ha hb ((List.perm_ext_iff_of_nodup hna hnb).2 h)
theorem mem_list {s : S} (hg : Sf.Good s) (d t : List Nat) : t ∈ list s.l d ↔ (∀ c ∈ t, c < 256) ∧ (Sf.get s.l t).isSome = true ∧ folder t = d := by
  unfold list
  rw [List.mem_filter, List.mem_map]
  constructor
  · rintro ⟨⟨x, hx, rfl⟩, h⟩
    refine ⟨(hg.2.1 x hx).1, ?_, by simpa using h⟩
    rcases hf : Sf.get s.l x.name with _ | y
    · exact absurd rfl (get_none hf x hx)
    · rfl
  · rintro ⟨h1, h2, h3⟩
    obtain ⟨x, hx⟩ := Option.isSome_iff_exists.1 h2
    obtain ⟨e1, e2⟩ := get_some hx
    exact ⟨⟨x, e1, e2⟩, by simpa using h3⟩
theorem list_ord {s : S} (hg : Sf.Good s) (d : List Nat) : (list s.l d).Pairwise (· < ·) := by
  unfold list
  refine List.Pairwise.filter _ ?_
  rw [List.pairwise_map]
  exact hg.1
theorem got_end {s : S} (hg : Sf.Good s) {d : List Nat} {left : Lit → Bool} {L T : List (List Nat)} (h : Got s.l d left L) (hl : ∀ kl, left kl = false) (hp : T.Perm L) (ht : T.Pairwise (· < ·)) : T = list s.l d := by
  refine pairwise_unique ht (list_ord hg d) fun t => ?_
  rw [mem_list hg, hp.mem_iff]
  constructor
  · intro hm
    obtain ⟨a, b, c, _⟩ := h.mem t hm
    exact ⟨a, b, c⟩
  · rintro ⟨a, b, c⟩
    exact h.all t a b c (hl _)

end Go.Proofs.Ytoloidfkpfdboaa

/- Files in memory: their calls, for whoever holds nothing else. -/
namespace Go.Proofs.Ytoloidfkpfdboaa
set_option maxRecDepth 100000
open Go.ChangeShapes Go.WideShapes Go.ChangeAt Go.RowKit Go.ChangeMaps
open Sf

/-- Files s lie at p; of what was there in w0 nothing has turned. -/
def Fs (w0 w : World) (p : Nat) (s : S) : Prop := ∃ mb V F, At none w p mb V F s ∧ (∀ k, F k → w0.heap.size ≤ k) ∧ Below w0.heap.size w0 w
theorem Fs.under {w0 w w1 : World} {p : Nat} {s : S} (h : Fs w0 w p s) (hb : Below w.heap.size w w1) : Fs w0 w1 p s := by
  obtain ⟨mb, V, F, h1, h2, h3⟩ := h
  exact ⟨mb, V, F, h1.under hb, h2, h3.trans (hb.mono h3.size)⟩
theorem Fs.alloc {w0 w : World} {p : Nat} {s : S} (h : Fs w0 w p s) (o : Obj) : Fs w0 (w.alloc o) p s := h.under ((Below.refl _ _).alloc (Nat.le_refl _) o)
theorem Fs.heap {w0 w W : World} {p : Nat} {s : S} (h : Fs w0 w p s) (hb : Below w.heap.size w W) : Fs w0 W p s := h.under hb
theorem Fs.below {w0 w : World} {p : Nat} {s : S} (h : Fs w0 w p s) : Below w0.heap.size w0 w := by
  obtain ⟨_, _, _, _, _, h3⟩ := h
  exact h3
theorem Fs.done {w0 w w' : World} {p : Nat} {s' : S} {F : Nat → Prop} (h2 : ∀ k, F k → w0.heap.size ≤ k) (h3 : Below w0.heap.size w0 w) (hd : Done F p s' w w') : Fs w0 w' p s' := by
  obtain ⟨F', ⟨mb, V, ha⟩, hf⟩ := hd
  exact ⟨mb, V, F', ha, hf.out h2 h3.size, h3.trans (hf.below h2 h3.size)⟩
theorem Fs.good {w0 w : World} {p : Nat} {s : S} (h : Fs w0 w p s) : Sf.Good s := by
  obtain ⟨mb, V, F, h1, _⟩ := h
  exact h1.good
theorem fs_new (n : Int) (w : World) : Calls Try.prog 7 #[.int .i64 n] w fun e w' => ∃ p, e = .returned (.pointer (some ⟨p, 0, none⟩)) ∧ Fs w w' p (new n) :=
  (fnew_any n w).mono fun _ _ ⟨p, mb, V, F, he, ha, hf, hb⟩ => ⟨p, he, mb, V, F, ha, hf, hb⟩
theorem fs_put (t b : List Nat) (vb : Value) (w0 w : World) (p : Nat) (s : S) (h : Fs w0 w p s) (ht : Nice t) (hb : Bytes w vb b) (hnx : s.next ≤ 1073741824) (hu : used s.l + b.length ≤ 274877906944) :
    Calls Try.prog 8 #[.pointer (some ⟨p, 0, none⟩), .string (str t), vb] w fun e w' => e = .returned (.tuple #[.int .i64 (((putS s t b).2.1 : Nat) : Int), .int .i64 (((putS s t b).2.2 : Nat) : Int)]) ∧ Fs w0 w' p (putS s t b).1 := by
  obtain ⟨mb, V, F, h1, h2, h3⟩ := h
  exact (simput_any t b vb w p mb V F s h1 ht hb hnx (by omega)).mono fun _ _ ⟨he, hd⟩ => ⟨he, Fs.done h2 h3 hd⟩
theorem fs_read (t : List Nat) (w0 w : World) (p : Nat) (s : S) (h : Fs w0 w p s) (ht : Nice t) (hu : used s.l ≤ 274877906944) :
    Calls Try.prog 28 #[.pointer (some ⟨p, 0, none⟩), .string (str t)] w fun e w' => ∃ v, e = .returned (.tuple #[v, .int .i64 (((Sf.read s t).2.1 : Nat) : Int), .int .i64 (((Sf.read s t).2.2 : Nat) : Int)]) ∧ Own w' w.heap.size v (Sf.read s t).1 ∧ Below w.heap.size w w' := by
  obtain ⟨mb, V, F, h1, h2, h3⟩ := h
  exact fread_any t w p mb V F s h1 ht (by omega)
theorem fs_stamp (t : List Nat) (w0 w : World) (p : Nat) (s : S) (h : Fs w0 w p s) (ht : Nice t) :
    Calls Try.prog 19 #[.pointer (some ⟨p, 0, none⟩), .string (str t)] w fun e w' => e = .returned (.int .i64 ((stamp s.l t : Nat) : Int)) ∧ w = w' := by
  obtain ⟨mb, V, F, h1, _⟩ := h
  exact fstamp_any t w p mb V F s h1 ht.1 ht.2
theorem fs_room (n : Int) (w0 w : World) (p : Nat) (s : S) (h : Fs w0 w p s) :
    Calls Try.prog 20 #[.pointer (some ⟨p, 0, none⟩), .int .i64 n] w fun e w' => e = .returned (.tuple #[]) ∧ Fs w0 w' p { s with room := held n } := by
  obtain ⟨mb, V, F, h1, h2, h3⟩ := h
  exact (froom_any n w p mb V F s h1).mono fun _ _ ⟨he, ha, hg⟩ => ⟨he, mb, V, F, ha, h2, h3.grown hg h3.size fun k hk => by injection hk with hk; rw [← hk]; exact h2 p h1.fp⟩
theorem rdG_one (w : World) (t : List Nat) (k : Int) : RdG (w.alloc (.cells #[.string (str t), .int .i64 k] 69)) (.slice (some ⟨w.heap.size, 0, none⟩) 1 1) [(t, k)] := by
  refine ⟨_, 1, rfl, Nat.le_refl _, by simp, fun _ => ⟨w.heap.size, 0, rfl, fun j hj => ?_⟩⟩
  have : j = 0 := by simpa using hj
  subst this
  exact ⟨cell_of_row _ _ 0 _ _ _ (heap_alloc_new w _), cell_of_row _ _ 1 _ _ _ (heap_alloc_new w _)⟩
/-- Whether two rows of texts are the same. -/
theorem same_next {A B : List (List Nat)} {n k : Nat} (ha : A.length = n) (hb : B.length = n) (hk : k < n) (h : A.take k = B.take k) (he : A.getD k [] = B.getD k []) : A.take (k + 1) = B.take (k + 1) := by
  rw [List.take_succ_eq_append_getElem (by omega), List.take_succ_eq_append_getElem (by omega), h]
  rw [List.getD_eq_getElem?_getD, List.getD_eq_getElem?_getD, List.getElem?_eq_getElem (by omega), List.getElem?_eq_getElem (by omega)] at he
  rw [show A[k] = B[k] from he]
end Go.Proofs.Ytoloidfkpfdboaa

/- Files in memory: what the document fixes. -/
namespace Go.Proofs.Ytoloidfkpfdboaa
set_option maxRecDepth 100000
open Go.ChangeShapes Go.WideShapes Go.ChangeAt Go.RowKit Go.ChangeMaps
open Sf

def aw (l : List Fi) (n : Nat) (c : Int) : S := ⟨l, 10, n, c⟩
def awA : List Fi := [⟨[97], [120, 121], 1⟩]
def awB : List Fi := [⟨[97], [120, 121], 1⟩, ⟨[116, 109, 112, 47, 98], [113], 2⟩]
def awC : List Fi := [⟨[97], [113], 3⟩]
def awD : List Fi := [⟨[97], [113, 122], 4⟩]
theorem nice_a : Nice [97] := by constructor <;> simp
theorem nice_t : Nice [116, 109, 112, 47, 98] := by constructor <;> simp
theorem saw1 : make (new 10) [97] [120, 121] = (aw awA 1 (-1), 1, 0) := by rfl
theorem saw2 : make (aw awA 1 (-1)) [97] [] = (aw awA 1 (-1), 0, 3) := by rfl
theorem saw3 : putS (aw awA 1 (-1)) [116, 109, 112, 47, 98] [49, 50, 51, 52, 53, 54, 55, 56, 57] = (aw awA 1 (-1), 0, 2) := by rfl
theorem saw4 : putS (aw awA 1 (-1)) [116, 109, 112, 47, 98] [113] = (aw awB 2 (-1), 2, 0) := by rfl
theorem saw5 : Sf.move (aw awB 2 (-1)) [116, 109, 112, 47, 98] [97] [([97], 6)] = (aw awB 2 (-1), 0, 5) := by rfl
theorem saw6 : Sf.move (aw awB 2 (-1)) [116, 109, 112, 47, 98] [97] [([97], 1)] = (aw awC 3 (-1), 3, 0) := by rfl
theorem saw7 : app (aw awC 3 1) [97] [122, 122] [] = (aw awD 4 (-1), 0, 7) := by rfl
theorem saw8 : Sf.read (aw awD 4 (-1)) [97] = ([113, 122], 4, 0) := by rfl
theorem saw9 : Sf.list awD [] = [[97]] := by rfl
theorem saw10 : Sf.list awD [116, 109, 112] = [] := by rfl
theorem saw11 : Sf.drop (aw awD 4 (-1)) [97] [] = (aw [] 4 (-1), 0) := by rfl

end Go.Proofs.Ytoloidfkpfdboaa

/- Files in memory: their calls, for whoever holds other things, too: the blocks K stay as they are. -/
namespace Go.Proofs.Ytoloidfkpfdboaa
set_option maxRecDepth 100000
open Go.ChangeShapes Go.WideShapes Go.ChangeAt Go.RowKit Go.ChangeMaps
open Sf

def Fk (K : Nat → Prop) (w0 w : World) (p : Nat) (s : S) : Prop := ∃ mb V F, At none w p mb V F s ∧ (∀ k, F k → w0.heap.size ≤ k) ∧ Below w0.heap.size w0 w ∧ ∀ k, K k → k < w.heap.size ∧ ¬ F k
variable {K : Nat → Prop} {w0 w w' w1 : World} {p : Nat} {s s' : S}
theorem Fk.fs (h : Fk K w0 w p s) : Fs w0 w p s := by
  obtain ⟨mb, V, F, h1, h2, h3, _⟩ := h
  exact ⟨mb, V, F, h1, h2, h3⟩
theorem Fs.keep (h : Fs w0 w p s) : Fk (fun _ => False) w0 w p s := by
  obtain ⟨mb, V, F, h1, h2, h3⟩ := h
  exact ⟨mb, V, F, h1, h2, h3, fun _ h => h.elim⟩
/-- More blocks, newly made, are held. -/
theorem Fk.grow (h : Fk K w0 w p s) (hb : Below w.heap.size w w1) (K' : Nat → Prop) (hK : ∀ k, K' k → K k ∨ (w.heap.size ≤ k ∧ k < w1.heap.size)) : Fk K' w0 w1 p s := by
  obtain ⟨mb, V, F, h1, h2, h3, h4⟩ := h
  refine ⟨mb, V, F, h1.under hb, h2, h3.trans (hb.mono h3.size), fun k hk => ?_⟩
  rcases hK k hk with e | ⟨e1, e2⟩
  · exact ⟨Nat.lt_of_lt_of_le (h4 k e).1 hb.size, (h4 k e).2⟩
  · exact ⟨e2, fun e => by have := h1.lt k e; omega⟩
theorem Fk.under (h : Fk K w0 w p s) (hb : Below w.heap.size w w1) : Fk K w0 w1 p s := h.grow hb K fun _ h => .inl h
theorem Fk.alloc (h : Fk K w0 w p s) (o : Obj) : Fk K w0 (w.alloc o) p s := h.under ((Below.refl _ _).alloc (Nat.le_refl _) o)
theorem Fk.lt (h : Fk K w0 w p s) {k : Nat} (hk : K k) : k < w.heap.size := by
  obtain ⟨_, _, _, _, _, _, h4⟩ := h
  exact (h4 k hk).1
theorem Fk.less (h : Fk K w0 w p s) (K' : Nat → Prop) (hK : ∀ k, K' k → K k) : Fk K' w0 w p s := by
  obtain ⟨mb, V, F, h1, h2, h3, h4⟩ := h
  exact ⟨mb, V, F, h1, h2, h3, fun k hk => h4 k (hK k hk)⟩
/-- Blocks of K are turned by others. -/
theorem Fk.turned (h : Fk K w0 w p s) {b : Nat} (hb : K b) (hB : w0.heap.size ≤ b) (hg : w.grownBy w1 (some b)) (hs : ∀ k, k ≠ b → w1.heap[k]? = w.heap[k]?) : Fk K w0 w1 p s := by
  obtain ⟨mb, V, F, h1, h2, h3, h4⟩ := h
  refine ⟨mb, V, F, h1.same hg.size fun k hk => hs k fun e => (h4 b hb).2 (e ▸ hk), h2, h3.grown hg h3.size fun k hk => by injection hk with hk; rw [← hk]; exact hB, fun k hk => ⟨Nat.lt_of_lt_of_le (h4 k hk).1 hg.size, (h4 k hk).2⟩⟩
theorem Fk.grown (h : Fk K w0 w p s) {row : Option Nat} (hr : ∀ b, row = some b → K b ∧ w0.heap.size ≤ b) (hg : w.grownBy w1 row) : Fk K w0 w1 p s := by
  obtain ⟨mb, V, F, h1, h2, h3, h4⟩ := h
  refine ⟨mb, V, F, h1.same hg.size fun k hk => hg.block k (h1.lt k hk) fun e => (h4 k (hr k e.symm).1).2 hk, h2, h3.grown hg h3.size fun k hk => (hr k hk).2, fun k hk => ⟨Nat.lt_of_lt_of_le (h4 k hk).1 hg.size, (h4 k hk).2⟩⟩
def Kept (K : Nat → Prop) (w w' : World) : Prop := w.heap.size ≤ w'.heap.size ∧ ∀ k, K k → w'.heap[k]? = w.heap[k]?
theorem fk_done {F : Nat → Prop} (h2 : ∀ k, F k → w0.heap.size ≤ k) (h3 : Below w0.heap.size w0 w) (h4 : ∀ k, K k → k < w.heap.size ∧ ¬ F k) (hd : Done F p s' w w') : Fk K w0 w' p s' ∧ Kept K w w' := by
  obtain ⟨F', ⟨mb, V, ha⟩, hf⟩ := hd
  exact ⟨⟨mb, V, F', ha, hf.out h2 h3.size, h3.trans (hf.below h2 h3.size), fun k hk => ⟨Nat.lt_of_lt_of_le (h4 k hk).1 hf.size, hf.not (h4 k hk).2 (h4 k hk).1⟩⟩, hf.size, fun k hk => hf.block k (h4 k hk).1 (h4 k hk).2⟩
theorem fk_put (t b : List Nat) (vb : Value) (h : Fk K w0 w p s) (ht : Nice t) (hb : Bytes w vb b) (hnx : s.next ≤ 1073741824) (hu : used s.l + b.length ≤ 274877906944) :
    Calls Try.prog 8 #[.pointer (some ⟨p, 0, none⟩), .string (str t), vb] w fun e w' => e = .returned (.tuple #[.int .i64 (((putS s t b).2.1 : Nat) : Int), .int .i64 (((putS s t b).2.2 : Nat) : Int)]) ∧ Fk K w0 w' p (putS s t b).1 ∧ Kept K w w' := by
  obtain ⟨mb, V, F, h1, h2, h3, h4⟩ := h
  exact (simput_any t b vb w p mb V F s h1 ht hb hnx (by omega)).mono fun _ _ ⟨he, hd⟩ => ⟨he, fk_done h2 h3 h4 hd⟩
theorem fk_room (n : Int) (h : Fk K w0 w p s) :
    Calls Try.prog 20 #[.pointer (some ⟨p, 0, none⟩), .int .i64 n] w fun e w' => e = .returned (.tuple #[]) ∧ Fk K w0 w' p { s with room := held n } ∧ Kept K w w' := by
  obtain ⟨mb, V, F, h1, h2, h3, h4⟩ := h
  exact (froom_any n w p mb V F s h1).mono fun _ _ ⟨he, ha, hg⟩ => ⟨he, fk_done h2 h3 h4 ⟨F, ⟨mb, V, ha⟩, Frm.grown hg h1.fp⟩⟩
/-- What lies in blocks of K is kept. -/
theorem Bytes.kept {v : Value} {l : List Nat} (h : Bytes w v l) (hk : Kept K w w') (hv : ∀ k, v.ownBlock = some k → K k) : Bytes w' v l := h.same fun k _ e => hk.2 k (hv k e)
theorem RdG.kept {v : Value} {R : List (List Nat × Int)} (h : RdG w v R) (hk : Kept K w w') (hv : ∀ k, v.ownBlock = some k → K k) : RdG w' v R := by
  obtain ⟨A, c, rfl, h1, h2, h3⟩ := h
  refine ⟨A, c, rfl, h1, h2, fun h0 => ?_⟩
  obtain ⟨b, off, rfl, hc⟩ := h3 h0
  exact ⟨b, off, rfl, fun k hk' => ⟨(World.cell?_of_block (hk.2 b (hv b rfl))).trans (hc k hk').1, (World.cell?_of_block (hk.2 b (hv b rfl))).trans (hc k hk').2⟩⟩
end Go.Proofs.Ytoloidfkpfdboaa

/- Files and what is held beside them: blocks that are kept, made, turned. -/
namespace Go.Proofs.Ytoloidfkpfdboaa
set_option maxRecDepth 100000
open Go.ChangeShapes Go.WideShapes Go.ChangeAt Go.RowKit Go.ChangeMaps
open Sf

theorem blk_cell {w : World} {g : Nat} {ty : TypeId} {l : List Value} (h : Blk w g ty l.toArray) (i : Nat) {v : Value} (e : l[i]? = some v) : w.cell? ⟨g, i, none⟩ = some v := by rw [h.at i]; simpa using e
theorem blk_put {w : World} {g : Nat} {ty : TypeId} {l : List Value} (h : Blk w g ty l.toArray) (i : Nat) (v : Value) {l' : List Value} (e : l.set i v = l') : Blk (w.setCell ⟨g, i, none⟩ v) g ty l'.toArray := by
  subst e
  have := h.set i v
  simpa using this
theorem Kept.of_below {K : Nat → Prop} {w0 w w1 : World} {p : Nat} {s : S} (h : Fk K w0 w p s) (hb : Below w.heap.size w w1) : Kept K w w1 := ⟨hb.size, fun _ hk => hb.block _ (h.lt hk)⟩
theorem Kept.trans {K : Nat → Prop} {w w1 w2 : World} (h : Kept K w w1) (h2 : Kept K w1 w2) : Kept K w w2 := ⟨Nat.le_trans h.1 h2.1, fun k hk => (h2.2 k hk).trans (h.2 k hk)⟩
theorem Kept.less {K K' : Nat → Prop} {w w1 : World} (h : Kept K w w1) (hK : ∀ k, K' k → K k) : Kept K' w w1 := ⟨h.1, fun k hk => h.2 k (hK k hk)⟩
theorem Kept.but {K : Nat → Prop} {w w1 : World} {g : Nat} (h : Kept K w w1) : Kept (fun k => K k ∧ k ≠ g) w w1 := h.less fun _ hk => hk.1
theorem Kept.set (K : Nat → Prop) (w : World) (g i : Nat) (v : Value) : Kept (fun k => K k ∧ k ≠ g) w (w.setCell ⟨g, i, none⟩ v) := ⟨Nat.le_of_eq (by simp), fun k hk => Below.heap_setCell w _ v k (fun e => hk.2 e)⟩
theorem Kept.refl (K : Nat → Prop) (w : World) : Kept K w w := ⟨Nat.le_refl _, fun _ _ => rfl⟩
theorem Kept.blk {K : Nat → Prop} {w w1 : World} {g : Nat} {ty : TypeId} {l : Array Value} (h : Kept K w w1) (hg : K g) (hb : Blk w g ty l) : Blk w1 g ty l := (h.2 g hg).trans hb
theorem Fk.set {K : Nat → Prop} {w0 w : World} {p g : Nat} {s : S} (h : Fk K w0 w p s) (hg : K g) (hg0 : w0.heap.size ≤ g) (i : Nat) (v : Value) : Fk K w0 (w.setCell ⟨g, i, none⟩ v) p s :=
  h.turned hg hg0 (grown_setCell w ⟨g, i, none⟩ v) (fun k hk => Below.heap_setCell w _ v k (fun e => hk e))
theorem bput {w w1 : World} {B g : Nat} (h : Below B w w1) (hB : B ≤ w1.heap.size) (hg : B ≤ g) (i : Nat) (v : Value) : Below B w (w1.setCell ⟨g, i, none⟩ v) := h.grown (grown_setCell w1 ⟨g, i, none⟩ v) hB fun k hk => by injection hk with hk; rw [← hk]; exact hg
theorem natz {n : Nat} (h : n ≠ 0) : ((n : Int) != 0) = true := by simp [h]

/-- A block that is newly made is kept besides. -/
theorem Fk.put_in {K : Nat → Prop} {w0 w w1 : World} {p g : Nat} {s : S} (h : Fk K w0 w p s) (hb : Below w.heap.size w w1) (h1 : w.heap.size ≤ g) (h2 : g < w1.heap.size) : Fk (fun k => K k ∨ k = g) w0 w1 p s :=
  h.grow hb _ fun _ hk => hk.elim .inl fun e => .inr (by subst e; exact ⟨h1, h2⟩)
theorem Fk.box {K : Nat → Prop} {w0 w : World} {p : Nat} {s : S} (h : Fk K w0 w p s) (ty : TypeId) (x : Array Value) : ∃ w1 g K', w.alloc (.cells x ty) = w1 ∧ w.heap.size = g ∧ Fk K' w0 w1 p s ∧ K' g ∧ (∀ k, K k → K' k) ∧ Blk w1 g ty x ∧ Below w.heap.size w w1 ∧ w0.heap.size ≤ g :=
  ⟨_, _, _, rfl, rfl, h.put_in ((Below.refl _ _).alloc (Nat.le_refl _) _) (Nat.le_refl _) (by simp), .inr rfl, fun _ => .inl, heap_alloc_new _ _, (Below.refl _ _).alloc (Nat.le_refl _) _, h.fs.below.size⟩

theorem lg_and (a : Int) (k : Nat) (hk : k < 4294967296) : ∃ m : Nat, bits .and .i64 a (k : Int) = (m : Int) ∧ m ≤ k := by
  have h : bits .and .i64 a (k : Int) = IntKind.i64.wrap ((BitVec.ofInt 64 a &&& BitVec.ofInt 64 (k : Int)).toNat : Int) := rfl
  have hx : (BitVec.ofInt 64 a &&& BitVec.ofInt 64 (k : Int)).toNat ≤ k := by
    rw [BitVec.toNat_and]
    refine Nat.le_trans Nat.and_le_right ?_
    rw [BitVec.ofInt_natCast, BitVec.toNat_ofNat]
    exact Nat.mod_le _ _
  refine ⟨(BitVec.ofInt 64 a &&& BitVec.ofInt 64 (k : Int)).toNat, ?_, hx⟩
  rw [h, IntKind.wrap_i64]
  omega
theorem ownsRow_block {w w' : World} {base n s : Nat} {e : TypeId} {v : Value} {us : List Value} (h : w.ownsRow base e s v n us) (hb : ∀ k, v.ownBlock = some k → w'.heap[k]? = w.heap[k]?) : w'.ownsRow base e s v n us := by
  refine ⟨h.1, ?_⟩
  rcases h.2 with h2 | ⟨g, cap, cur, e1, hg, hh, rest⟩
  · exact .inl h2
  · exact .inr ⟨g, cap, cur, e1, hg, (hb g (by rw [e1]; rfl)).trans hh, rest⟩
/-- Blocks that are made while a row of K grows are new. -/
theorem Fk.grownNew {K : Nat → Prop} {w0 w w1 : World} {p : Nat} {s : S} (h : Fk K w0 w p s) {row : Option Nat} (hr : ∀ b, row = some b → K b ∧ w0.heap.size ≤ b) (hg : w.grownBy w1 row) : Fk (fun k => K k ∨ (w.heap.size ≤ k ∧ k < w1.heap.size)) w0 w1 p s := by
  obtain ⟨mb, V, F, h1, h2, h3, h4⟩ := h
  refine ⟨mb, V, F, h1.same hg.size fun k hk => hg.block k (h1.lt k hk) fun e => (h4 k (hr k e.symm).1).2 hk, h2, h3.grown hg h3.size fun k hk => (hr k hk).2, fun k hk => ?_⟩
  rcases hk with hk | hk
  · exact ⟨Nat.lt_of_lt_of_le (h4 k hk).1 hg.size, (h4 k hk).2⟩
  · exact ⟨hk.2, fun e => by have := h1.lt k e; omega⟩
theorem Fk.own {K : Nat → Prop} {w0 w w1 : World} {p : Nat} {s : S} {v : Value} {l : List Nat} (h : Fk K w0 w p s) (hb : Below w.heap.size w w1) (ho : Own w1 w.heap.size v l) : ∃ K', Fk K' w0 w1 p s ∧ (∀ k, v.ownBlock = some k → K' k) ∧ ∀ k, K k → K' k :=
  ⟨_, h.grow hb (fun k => K k ∨ v.ownBlock = some k) (fun k hk => hk.elim .inl fun e => .inr (ho.lt k e)), fun _ h => .inr h, fun _ h => .inl h⟩
end Go.Proofs.Ytoloidfkpfdboaa
