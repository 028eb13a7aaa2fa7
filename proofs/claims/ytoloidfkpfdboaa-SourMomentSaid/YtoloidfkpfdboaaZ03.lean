/- Texts as lists of bytes: length, a byte, a part, one behind the other, whether two are the same. -/
import Derived.Test.YtoloidfkpfdboaaZ02
import Derived.Deep.DeepCutAuto
import Derived.Deep.LoopGhost
import Derived.IntWalk
import Derived.Maps.OwnSet
import Derived.Maps.Own
import Derived.Test.YtoloidfkpfdboaaZ00
namespace Go.Proofs.Ytoloidfkpfdboaa
set_option maxRecDepth 100000
open Go.ChangeShapes Go.WideShapes Go.ChangeAt Go.RowKit

theorem str_size (l : List Nat) : (str l).size = l.length := by simp [str, ByteArray.size]
theorem str_data (l : List Nat) : (str l).data.toList = l.map UInt8.ofNat := by simp [str]
/-- Any text is that of its bytes. -/
theorem str_all (s : ByteArray) : s = str (s.data.toList.map (·.toNat)) := by
  apply ByteArray.ext
  apply Array.ext'
  rw [str_data, List.map_map]
  conv => lhs; rw [← List.map_id s.data.toList]
  exact List.map_congr_left fun c _ => by simp
theorem bytes_lt (s : ByteArray) : ∀ c ∈ s.data.toList.map (·.toNat), c < 256 := by
  intro c hc
  obtain ⟨b, _, rfl⟩ := List.mem_map.1 hc
  exact UInt8.toNat_lt b
theorem str_get {l : List Nat} (hl : ∀ c ∈ l, c < 256) (k : Nat) (h : k < (str l).size) : ((str l)[k]'h).toNat = l.getD k 0 := by
  have hk : k < l.length := by rwa [str_size] at h
  have e : (str l)[k]'h = UInt8.ofNat (l[k]'hk) := by
    show (str l).data[k] = _
    simp [str]
  rw [e, List.getD_eq_getElem?_getD, List.getElem?_eq_getElem hk]
  have := hl _ (List.getElem_mem hk)
  simp
  omega
theorem str_part (l : List Nat) (a b : Nat) : (str l).extract a b = str ((l.drop a).take (b - a)) := by
  unfold str
  rw [ByteArray.extract_mk]
  congr 2
  rw [List.map_take, List.map_drop]
theorem str_add (l m : List Nat) : str l ++ str m = str (l ++ m) := by
  apply ByteArray.ext
  apply Array.ext'
  simp [str]
theorem str_same {l m : List Nat} (hl : ∀ c ∈ l, c < 256) (hm : ∀ c ∈ m, c < 256) : ((str l).toList == (str m).toList) = decide (l = m) := str_eq hl hm
theorem str_const {s : ByteArray} {l : List Nat} (h : s.data.toList.map (·.toNat) = l) : s = str l := by rw [← h]; exact str_all s
/-- Two texts of no great length fit one behind the other. -/
theorem str_fits {l m : List Nat} (h : l.length + m.length ≤ 4611686018427387904) : ¬ 9223372036854775807 < (str l).size + (str m).size := by
  rw [str_size, str_size]
  omega
theorem str_empty : (str []).toList.isEmpty = true := by rw [str_toList]; rfl
theorem str_some (c : Nat) (l : List Nat) : (str (c :: l)).toList.isEmpty = false := by rw [str_toList]; rfl
theorem tenth {m n : Nat} (h : m ≤ n) (hn : n < 1000000000000000000) : wrap64 ((m : Int) / 10) = ((m / 10 : Nat) : Int) := by
  unfold wrap64
  omega
end Go.Proofs.Ytoloidfkpfdboaa

/- A row of texts of the call's own: read, kept, grown by one, set at one place. -/
namespace Go.Proofs.Ytoloidfkpfdboaa
set_option maxRecDepth 100000
open Go.ChangeShapes Go.WideShapes Go.ChangeAt Go.RowKit

def rowT (L : List (List Nat)) : List Value := L.map fun l => Value.string (str l)
def OwnT (w : World) (base : Nat) (v : Value) (L : List (List Nat)) : Prop := w.ownsRow base 9 1 v L.length (rowT L)
theorem ownT_none (w : World) (base : Nat) : OwnT w base (.slice none 0 0) [] := World.ownsRow_nil w base _ 1
theorem OwnT.under {w w' : World} {base : Nat} {v : Value} {L : List (List Nat)} (h : OwnT w base v L) (hb : Below w.heap.size w w') : OwnT w' base v L :=
  h.kept (row := none) ⟨hb.os, hb.tape, hb.output, hb.size, fun i hi _ => hb.block i hi⟩ (by cases hv : v.ownBlock <;> simp)
theorem OwnT.alloc {w : World} {base : Nat} {v : Value} {L : List (List Nat)} (h : OwnT w base v L) (o : Obj) : OwnT (w.alloc o) base v L := World.ownsRow.alloc h o
theorem OwnT.lt {w : World} {base : Nat} {v : Value} {L : List (List Nat)} (h : OwnT w base v L) : Between base w.heap.size v := fun k hk => World.ownsRow.lt h k hk
theorem OwnT.parts {w : World} {base : Nat} {v : Value} {L : List (List Nat)} (h : OwnT w base v L) (h0 : L ≠ []) : ∃ g c, v = .slice (some ⟨g, 0, none⟩) L.length c ∧ base ≤ g ∧ g < w.heap.size := by
  have hb := h.lt
  rcases h.2 with ⟨rfl, h1⟩ | ⟨g, cap, cur, rfl, _⟩
  · exact absurd (List.length_eq_zero_iff.1 h1) h0
  · exact ⟨g, cap, rfl, hb g rfl⟩
theorem OwnT.len {w : World} {base n c : Nat} {A : Option Addr} {L : List (List Nat)} (h : OwnT w base (.slice A n c) L) : n = L.length := by
  rcases h.2 with ⟨e, h0⟩ | ⟨g', cap, cur, e, _⟩
  · injection e with _ e _
    omega
  · injection e with _ e _
theorem OwnT.cell {w : World} {base g n c : Nat} {L : List (List Nat)} (h : OwnT w base (.slice (some ⟨g, 0, none⟩) n c) L) {k : Nat} (hk : k < L.length) : w.cell? ⟨g, k, none⟩ = some (.string (str (L.getD k []))) := by
  obtain rfl := h.len
  rcases h.2 with ⟨e, h0⟩ | ⟨g', cap, cur, e, _⟩
  · cases e
  · rw [World.ownsRow.cellAt h k (by omega)]
    unfold rowT
    rw [List.getElem?_map, List.getD_eq_getElem?_getD, List.getElem?_eq_getElem hk]
    rfl
theorem rowT_set (L : List (List Nat)) (k : Nat) (l : List Nat) : rowT (L.set k l) = (rowT L).set k (.string (str l)) := by
  unfold rowT
  exact List.map_set
/-- One text is put in another's place. -/
theorem OwnT.set {w : World} {base g n c : Nat} {L : List (List Nat)} (h : OwnT w base (.slice (some ⟨g, 0, none⟩) n c) L) (k : Nat) (l : List Nat) :
    OwnT (w.setCell ⟨g, k, none⟩ (.string (str l))) base (.slice (some ⟨g, 0, none⟩) n c) (L.set k l) := by
  obtain rfl := h.len
  unfold OwnT at *
  rw [List.length_set, rowT_set]
  exact (World.ownsRow.stored h k _).1
theorem OwnT.frozen {w : World} {base g n c : Nat} {L : List (List Nat)} (h : OwnT w base (.slice (some ⟨g, 0, none⟩) n c) L) (k : Nat) : w.frozen? ⟨g, k, none⟩ = false := by
  obtain rfl := h.len
  exact World.ownsRow.frozenAt h k
theorem infoText : (Try.prog.info? 9).map (fun i => (i.zero, i.size, i.bytes)) = some (some (.string ⟨#[]⟩), 1, 16) := by kernel_rfl
/-- A row of one text, newly made. -/
theorem ownT_one (w : World) (base : Nat) (l : List Nat) (hb : base ≤ w.heap.size) : OwnT (w.alloc (.cells #[.string (str l)] 9)) base (.slice (some ⟨w.heap.size, 0, none⟩) 1 1) [l] :=
  ⟨rfl, .inr ⟨w.heap.size, 1, #[.string (str l)], rfl, hb, heap_alloc_new w _, Nat.le_refl _, by unfold maxLen; omega, rfl, rfl⟩⟩
def GrewT (base : Nat) (v : Value) (L : List (List Nat)) (w : World) (v' : Value) (w' : World) : Prop := OwnT w' base v' L ∧ w.grownBy w' v.ownBlock ∧ Below base w w'
theorem wpList_append_text {w : World} {ops : Array Oper} {rest : List Oper} {o : Oper} {a : Act} {Q : Exit → Act → World → Prop} (hgd : o.guard = none) (s x : Operand)
    (ho : o.op = .call { callee := .builtin .append, args := #[s, x], argTypes := #[24, 24] }) (base : Nat) (v : Value) (L : List (List Nat)) (l : List Nat) (hs : a.eval s = v) (hown : OwnT w base v L)
    (hx : a.eval x = .slice (some ⟨w.heap.size, 0, none⟩) 1 1) (m : Nat × Nat)
    (hlen : L.length ≤ 1099511627776) (hbase : base ≤ w.heap.size) (r : List (List Nat)) (hr : L ++ [l] = r)
    (h : ∀ v' w', GrewT base v r (w.alloc (.cells #[.string (str l)] 9 m)) v' w' → wpList Try.prog ops Q rest (a.put o.dst v') w') : wpList Try.prog ops Q (o :: rest) a (w.alloc (.cells #[.string (str l)] 9 m)) := by
  subst hr
  obtain ⟨i, hi, hz0, hz1, hz2⟩ := info_parts infoText
  refine wpList_append_own _ hgd s x 24 ho base 9 i (.string ⟨#[]⟩) 1 16 Try.underlying24 hi hz0 hz1 hz2 rfl (by decide) v L.length (rowT L) hs (World.ownsRow.alloc hown _) ⟨w.heap.size, 0, none⟩ 1 1 [.string (str l)] hx rfl ?_ ?_ (by unfold maxLen; omega) (by omega) (by simp; omega) ?_
  · intro j u hu
    have hj : j = 0 := by
      rcases j with _ | j
      · rfl
      · simp at hu
    subst hj
    simp at hu
    subst hu
    rw [add_plain]
    have e1 : (w.alloc (.cells #[.string (str l)] 9 m)).heap[w.heap.size]? = some (.cells #[.string (str l)] 9 m) := heap_alloc_new w _
    unfold World.cell?
    rw [e1]
    rfl
  · intro u hu
    simp at hu
    subst hu
    rfl
  · intro v' w' h1 h2 _
    refine h v' w' ⟨?_, h2, (Below.refl _ _).grown h2 (by simp; omega) fun k hk => (World.ownsRow.lt hown k hk).1⟩
    unfold OwnT
    rw [List.length_append, show rowT (L ++ [l]) = rowT L ++ [.string (str l)] from List.map_append]
    exact h1
end Go.Proofs.Ytoloidfkpfdboaa

/- A map keyed by texts, as a function from texts to values: asked, stored into. -/
namespace Go.Proofs.Ytoloidfkpfdboaa
set_option maxRecDepth 100000
open Go.ChangeShapes Go.WideShapes Go.ChangeAt Go.RowKit Go.ChangeMaps

def heldR (v : Value) : Option (DataW Value × List MemPlace) := some (.held v, [])
def keyL (t : List Nat) : Lit := .string (t.map UInt8.ofNat)
theorem keyed : Go.Maps.Keyed Try.prog 9 := Go.Maps.string_keyed Try.underlying9
theorem key_of (t : List Nat) (h : t.length ≤ maxLen) : keyOf Try.prog 9 (.string (str t)) = some (keyL t) := by
  have := WideMaps.keyOf_string_mk (P := Try.prog) Try.underlying9 (s := str t) (by rw [str_size]; exact h)
  rw [this]
  simp [keyL, str_data]
theorem keyL_inj {t u : List Nat} (ht : ∀ c ∈ t, c < 256) (hu : ∀ c ∈ u, c < 256) (h : keyL t = keyL u) : t = u := by
  unfold keyL at h
  injection h with h
  have : ((str t).toList == (str u).toList) = true := by rw [str_toList, str_toList, h]; simp
  rw [str_same ht hu] at this
  simpa using this
theorem keyL_key (t : List Nat) : WideAt.IsKeyLit (keyL t) := trivial
/-- Block b is a map of at most n entries that answers as f does. -/
def MapIs (w : World) (b n : Nat) (f : List Nat → Option Value) : Prop :=
  ∃ D, w.ownsMap Try.prog 9 heldR b n D ∧ ∀ t, (∀ c ∈ t, c < 256) → Maps.has D (keyL t) = (f t).isSome ∧ ∀ v z, f t = some v → D.atKey (keyL t) z = .held v
theorem mapIs_made (w : World) : MapIs (w.alloc (.map #[] 0)) w.heap.size 0 fun _ => none :=
  ⟨_, World.ownsMap_made _ _ _ _, fun t _ => ⟨rfl, fun v z h => by cases h⟩⟩
theorem MapIs.kept {w w' : World} {b n : Nat} {f : List Nat → Option Value} {row : Option Nat} (h : MapIs w b n f) (hg : w.grownBy w' row) (hne : some b ≠ row) : MapIs w' b n f := by
  obtain ⟨D, h1, h2⟩ := h
  exact ⟨D, h1.kept hg hne, h2⟩
theorem MapIs.lt {w : World} {b n : Nat} {f : List Nat → Option Value} (h : MapIs w b n f) : b < w.heap.size := by
  obtain ⟨D, h1, _⟩ := h
  exact h1.lt
theorem MapIs.map {w : World} {b n : Nat} {f : List Nat → Option Value} (h : MapIs w b n f) : ∃ es c, w.heap[b]? = some (.map es c) := by
  obtain ⟨D, ⟨es, c, hb, _⟩, _⟩ := h
  exact ⟨es, c, hb⟩
theorem MapIs.same {w w' : World} {b n : Nat} {f : List Nat → Option Value} (h : MapIs w b n f) (hb : w'.heap[b]? = w.heap[b]?) : MapIs w' b n f := by
  obtain ⟨D, ⟨es, c, h1, h3⟩, h2⟩ := h
  exact ⟨D, ⟨es, c, hb.trans h1, h3⟩, h2⟩
theorem MapIs.mono {w : World} {b n n' : Nat} {f : List Nat → Option Value} (h : MapIs w b n f) (hn : n ≤ n') : MapIs w b n' f := by
  obtain ⟨D, h1, h2⟩ := h
  exact ⟨D, h1.mono hn, h2⟩
section
variable (w : World) {ops : Array Oper} {rest : List Oper} {o : Oper} {a : Act} {Q : Exit → Act → World → Prop}
theorem wpList_look (hg : o.guard = none) (m x : Operand) (T : TypeId) (hop : o.op = Op.lookup T m x true) (e : TypeId) (ht : Try.prog.underlying T = some (.map 9 e)) (z : Value) (hz : (zeroValue e).run Try.prog w = .ok z w)
    (b n : Nat) (f : List Nat → Option Value) (hm : a.eval m = .map (some b)) (h : MapIs w b n f) (t : List Nat) (ht1 : ∀ c ∈ t, c < 256) (ht2 : t.length ≤ 1099511627776) (hx : a.eval x = .string (str t))
    (hK : wpList Try.prog ops Q rest (a.put o.dst (.tuple #[(f t).getD z, .bool (f t).isSome])) w) : wpList Try.prog ops Q (o :: rest) a w := by
  obtain ⟨D, h1, h2⟩ := h
  refine wpList_lookup_own_ok w hg m x T hop 9 e keyed ht heldR hz (.held z) [] rfl b n D hm h1 _ _ hx (key_of t (by unfold maxLen; omega)) ?_
  intro v ps hv
  obtain ⟨e1, e2⟩ := h2 t ht1
  rw [e1]
  unfold heldR at hv
  injection hv with hv
  injection hv with hv _
  rcases hf : f t with _ | u
  · rw [hf] at e1 hK
    rw [Maps.atKey_of_not_has e1] at hv
    injection hv with hv
    subst hv
    exact hK
  · rw [hf] at hK
    rw [e2 u _ hf] at hv
    injection hv with hv
    subst hv
    exact hK
theorem wpList_store (hg : o.guard = none) (m x v : Operand) (T : TypeId) (hop : o.op = Op.mapUpdate T m x v) (e : TypeId) (ht : Try.prog.underlying T = some (.map 9 e))
    (b n : Nat) (f : List Nat → Option Value) (hm : a.eval m = .map (some b)) (h : MapIs w b n f) (hn : n ≤ 1099511627776) (t : List Nat) (ht1 : ∀ c ∈ t, c < 256) (ht2 : t.length ≤ 1099511627776) (hx : a.eval x = .string (str t)) (val : Value) (hv : a.eval v = val)
    (hK : ∀ w', MapIs w' b (n + 1) (fun u => if u = t then some val else f u) → w.grownBy w' (some b) → (∀ k, k ≠ b → w'.heap[k]? = w.heap[k]?) → w'.heap.size = w.heap.size → wpList Try.prog ops Q rest (a.put o.dst undef) w') : wpList Try.prog ops Q (o :: rest) a w := by
  obtain ⟨D, h1, h2⟩ := h
  refine wpList_mapUpdate_in w hg m x v T hop 9 e keyed ht heldR b n D hm h1 (by unfold maxLen; omega) _ val (keyL t) hx hv (key_of t (by unfold maxLen; omega)) (.held val) [] rfl ?_
  intro w' h3 h4
  have hD := h1.isMap
  refine hK w' ⟨_, h3, fun u hu => ?_⟩ h4.grown ?_ ?_
  · by_cases hut : u = t
    · subst hut
      simp only [if_true]
      exact ⟨Maps.has_put_same hD (keyL_key u) _, fun v z hv => by injection hv with hv; rw [← hv]; exact Maps.atKey_put_same hD (keyL_key u) _ _⟩
    · have hne : keyL u ≠ keyL t := fun e => hut (keyL_inj hu ht1 e)
      dsimp only
      rw [Maps.has_put_other hne, if_neg hut]
      exact ⟨(h2 u hu).1, fun v z hv => by rw [Maps.atKey_put_other hne]; exact (h2 u hu).2 v z hv⟩
  · obtain ⟨es, c, es', c', hb, rfl⟩ := h4
    intro k hk
    exact heap_setBlock_other hb _ hk
  · obtain ⟨es, c, es', c', hb, rfl⟩ := h4
    simp [setBlock]
end
end Go.Proofs.Ytoloidfkpfdboaa

/- A map keyed by texts: what asking it, and storing into it, come to as they run. -/
namespace Go.Proofs.Ytoloidfkpfdboaa
set_option maxRecDepth 100000
open Go.ChangeShapes Go.WideShapes Go.ChangeAt Go.RowKit Go.ChangeMaps

theorem MapIs.run_look {w : World} {b n : Nat} {f : List Nat → Option Value} (h : MapIs w b n f) {T e : TypeId} (ht : Try.prog.underlying T = some (.map 9 e)) {z : Value} (hz : (zeroValue e).run Try.prog w = .ok z w) {t : List Nat} (ht1 : ∀ c ∈ t, c < 256) (ht2 : t.length ≤ 1099511627776) :
    (Instr.lookup T (.map (some b)) (.string (str t)) true).run Try.prog w = .ok (.tuple #[(f t).getD z, .bool (f t).isSome]) w := by
  obtain ⟨D, h1, h2⟩ := h
  obtain ⟨v, ps, hrun, hv⟩ := h1.look_ok keyed ht hz (zd := .held z) (zp := []) rfl (key_of t (by unfold maxLen; omega))
  rw [hrun]
  obtain ⟨e1, e2⟩ := h2 t ht1
  rw [e1]
  unfold heldR at hv
  injection hv with hv
  injection hv with hv _
  rcases hf : f t with _ | u
  · rw [hf] at e1
    rw [Maps.atKey_of_not_has e1] at hv
    injection hv with hv
    subst hv
    rfl
  · rw [e2 u _ hf] at hv
    injection hv with hv
    subst hv
    rfl
theorem MapIs.run_store {w : World} {b n : Nat} {f : List Nat → Option Value} (h : MapIs w b n f) {T e : TypeId} (ht : Try.prog.underlying T = some (.map 9 e)) (hn : n ≤ 1099511627776) {t : List Nat} (ht1 : ∀ c ∈ t, c < 256) (ht2 : t.length ≤ 1099511627776) (val : Value) :
    ∃ w', (Instr.mapUpdate T (.map (some b)) (.string (str t)) val).run Try.prog w = .ok () w' ∧ MapIs w' b (n + 1) (fun u => if u = t then some val else f u) ∧ w.grownBy w' (some b) ∧ (∀ k, k ≠ b → w'.heap[k]? = w.heap[k]?) ∧ w'.heap.size = w.heap.size := by
  obtain ⟨D, h1, h2⟩ := h
  obtain ⟨w', hrun, h3, h4⟩ := h1.store keyed ht (val := val) (d := .held val) (ps := []) (by unfold maxLen; omega) (key_of t (by unfold maxLen; omega)) rfl
  have hD := h1.isMap
  refine ⟨w', hrun, ⟨_, h3, fun u hu => ?_⟩, h4.grown, ?_, ?_⟩
  · by_cases hut : u = t
    · subst hut
      simp only [if_true]
      exact ⟨Maps.has_put_same hD (keyL_key u) _, fun v z hv => by injection hv with hv; rw [← hv]; exact Maps.atKey_put_same hD (keyL_key u) _ _⟩
    · have hne : keyL u ≠ keyL t := fun e => hut (keyL_inj hu ht1 e)
      dsimp only
      rw [Maps.has_put_other hne, if_neg hut]
      exact ⟨(h2 u hu).1, fun v z hv => by rw [Maps.atKey_put_other hne]; exact (h2 u hu).2 v z hv⟩
  · obtain ⟨es, c, es', c', hb, rfl⟩ := h4
    intro k hk
    exact heap_setBlock_other hb _ hk
  · obtain ⟨es, c, es', c', hb, rfl⟩ := h4
    simp [setBlock]
end Go.Proofs.Ytoloidfkpfdboaa

/- Files in memory: a block of its own, a map from names to rows of bytes and stamps. -/
namespace Go.Proofs.Ytoloidfkpfdboaa
set_option maxRecDepth 100000
open Go.ChangeShapes Go.WideShapes Go.ChangeAt Go.RowKit Go.ChangeMaps

namespace Sf
def elem (v : Value) (n : Nat) : Value := .agg #[v, .int .i64 (n : Int)]
def cells (mb : Nat) (s : S) : Array Value := #[.map (some mb), .int .i64 s.room, .int .i64 ((used s.l : Nat) : Int), .int .i64 (s.next : Int), .int .i64 s.cut]
/-- Files s lie at p, their map at mb, each one's bytes at V; F: the blocks that are theirs. Of the name in X the bytes are not held. -/
structure At (X : Option (List Nat)) (w : World) (p mb : Nat) (V : List Nat → Value) (F : Nat → Prop) (s : S) : Prop where
  blk : Blk w p 51 (cells mb s)
  map : MapIs w mb s.next fun t => (get s.l t).map fun x => elem (V t) x.stamp
  fp : F p
  fm : F mb
  ne : p ≠ mb
  lt : ∀ k, F k → k < w.heap.size
  own : ∀ t x, get s.l t = some x → X ≠ some t → Own w 0 (V t) x.b
  sl : ∀ t x, get s.l t = some x → ∃ A c, V t = .slice A x.b.length c
  mine : ∀ t x k, get s.l t = some x → (V t).ownBlock = some k → F k ∧ k ≠ p ∧ k ≠ mb
  apart : ∀ t u x y, get s.l t = some x → get s.l u = some y → t ≠ u → (V t).ownBlock = none ∨ (V t).ownBlock ≠ (V u).ownBlock
  good : Good s
/-- What calls on files leave: of other blocks nothing has turned. -/
structure Frm (F F' : Nat → Prop) (w w' : World) : Prop where
  os : w'.os = w.os
  tape : w'.tape = w.tape
  output : w'.output = w.output
  size : w.heap.size ≤ w'.heap.size
  block : ∀ k, k < w.heap.size → ¬ F k → w'.heap[k]? = w.heap[k]?
  more : ∀ k, F' k → F k ∨ w.heap.size ≤ k
theorem Frm.trans {F F' F'' : Nat → Prop} {w w' w'' : World} (h : Frm F F' w w') (k : Frm F' F'' w' w'') : Frm F F'' w w'' := by
  refine ⟨k.os.trans h.os, k.tape.trans h.tape, k.output.trans h.output, Nat.le_trans h.size k.size, fun i hi hF => ?_, fun i hi => ?_⟩
  · rw [k.block i (Nat.lt_of_lt_of_le hi h.size) fun e => ?_]
    · exact h.block i hi hF
    · rcases h.more i e with e | e
      · exact hF e
      · omega
  · rcases k.more i hi with e | e
    · exact h.more i e
    · exact .inr (Nat.le_trans h.size e)
theorem Frm.refl (F : Nat → Prop) (w : World) : Frm F F w w := ⟨rfl, rfl, rfl, Nat.le_refl _, fun _ _ _ => rfl, fun _ h => .inl h⟩
theorem Frm.under {F : Nat → Prop} {w w' : World} (h : Below w.heap.size w w') : Frm F F w w' := ⟨h.os, h.tape, h.output, h.size, fun k hk _ => h.block k hk, fun _ h => .inl h⟩
theorem Frm.grown {F : Nat → Prop} {w w' : World} {p : Nat} (h : w.grownBy w' (some p)) (hp : F p) : Frm F F w w' :=
  ⟨h.os, h.tape, h.output, h.size, fun k hk hF => h.block k hk fun e => hF (by injection e with e; rw [e]; exact hp), fun _ h => .inl h⟩
theorem Frm.below {F F' : Nat → Prop} {w w' : World} {B : Nat} (h : Frm F F' w w') (hF : ∀ k, F k → B ≤ k) (hB : B ≤ w.heap.size) : Below B w w' :=
  ⟨h.os, h.tape, h.output, h.size, fun k hk => h.block k (by omega) fun e => by have := hF k e; omega⟩
theorem Frm.out {F F' : Nat → Prop} {w w' : World} {B : Nat} (h : Frm F F' w w') (hF : ∀ k, F k → B ≤ k) (hB : B ≤ w.heap.size) : ∀ k, F' k → B ≤ k := fun k hk => by
  rcases h.more k hk with e | e
  · exact hF k e
  · omega
theorem Frm.not {F F' : Nat → Prop} {w w' : World} {k : Nat} (h : Frm F F' w w') (hF : ¬ F k) (hk : k < w.heap.size) : ¬ F' k := fun e => by
  rcases h.more k e with e | e
  · exact hF e
  · omega

variable {X : Option (List Nat)} {w w' : World} {p mb : Nat} {V : List Nat → Value} {F : Nat → Prop} {s : S}
theorem own_under {w w' : World} {base : Nat} {v : Value} {l : List Nat} (h : Own w base v l) (hk : ∀ k, v.ownBlock = some k → w'.heap[k]? = w.heap[k]?) : Own w' base v l := by
  obtain ⟨⟨h1, h2⟩, h3⟩ := h
  refine ⟨⟨h1, ?_⟩, h3⟩
  rcases h2 with h2 | ⟨g, cap, cur, rfl, hg, hb, rest⟩
  · exact .inl h2
  · exact .inr ⟨g, cap, cur, rfl, hg, (hk g rfl).trans hb, rest⟩
theorem At.same (h : At X w p mb V F s) (hs : w.heap.size ≤ w'.heap.size) (hb : ∀ k, F k → w'.heap[k]? = w.heap[k]?) : At X w' p mb V F s := by
  refine ⟨(hb p h.fp).trans h.blk, h.map.same (hb mb h.fm), h.fp, h.fm, h.ne, fun k hk => Nat.lt_of_lt_of_le (h.lt k hk) hs, fun t x hx hX => ?_, h.sl, h.mine, h.apart, h.good⟩
  have ho := h.own t x hx hX
  rcases hv : (V t).ownBlock with _ | k
  · exact own_under ho fun k e => by rw [hv] at e; cases e
  · exact own_under ho fun j e => hb j (h.mine t x j hx e).1
theorem At.under (h : At X w p mb V F s) (hb : Below w.heap.size w w') : At X w' p mb V F s := h.same hb.size fun k hk => hb.block k (h.lt k hk)
theorem At.alloc (h : At X w p mb V F s) (o : Obj) : At X (w.alloc o) p mb V F s := h.under ((Below.refl _ _).alloc (Nat.le_refl _) o)
theorem At.heap (h : At X w p mb V F s) {W : World} (e : W.heap = w.heap) : At X W p mb V F s := h.same (by rw [e]; exact Nat.le_refl _) fun k _ => by rw [e]
theorem At.weak (h : At none w p mb V F s) (t : List Nat) : At (some t) w p mb V F s := { h with own := fun u x hx _ => h.own u x hx (by simp) }
/-- The bytes under a name, or none. -/
def val (V : List Nat → Value) (l : List Fi) (t : List Nat) : Value := match get l t with | some _ => V t | none => .slice none 0 0
theorem At.ask (h : At X w p mb V F s) {t : List Nat} (ht : ∀ c ∈ t, c < 256) (hl : t.length ≤ 1048576) {T : TypeId} (hT : Try.prog.underlying T = some (.map 9 55)) :
    (Instr.lookup T (.map (some mb)) (.string (str t)) false).run Try.prog w = .ok (elem (val V s.l t) (stamp s.l t)) w := by
  have hz : (zeroValue 55).run Try.prog w = .ok (elem (.slice none 0 0) 0) w := by kernel_rfl
  obtain ⟨D, h1, h2⟩ := h.map
  obtain ⟨v, ps, hrun, hv⟩ := h1.lookup keyed hT hz (zd := .held (elem (.slice none 0 0) 0)) (zp := []) rfl (key_of t (by unfold maxLen; omega))
  rw [hrun]
  obtain ⟨e1, e2⟩ := h2 t ht
  dsimp only at e1 e2
  unfold heldR at hv
  injection hv with hv
  injection hv with hv _
  unfold val stamp
  rcases hf : get s.l t with _ | x
  · rw [hf] at e1
    rw [Maps.atKey_of_not_has e1] at hv
    injection hv with hv
    subst hv
    rfl
  · rw [hf] at e2
    rw [e2 (elem (V t) x.stamp) _ rfl] at hv
    injection hv with hv
    subst hv
    rfl
theorem At.askOk (h : At X w p mb V F s) {t : List Nat} (ht : ∀ c ∈ t, c < 256) (hl : t.length ≤ 1048576) {T : TypeId} (hT : Try.prog.underlying T = some (.map 9 55)) :
    (Instr.lookup T (.map (some mb)) (.string (str t)) true).run Try.prog w = .ok (.tuple #[elem (val V s.l t) (stamp s.l t), .bool (get s.l t).isSome]) w := by
  have hz : (zeroValue 55).run Try.prog w = .ok (elem (.slice none 0 0) 0) w := by kernel_rfl
  rw [h.map.run_look hT hz ht (by omega)]
  unfold val stamp
  rcases hf : get s.l t with _ | x <;> rfl
theorem At.valSl (h : At X w p mb V F s) (t : List Nat) : ∃ A c, val V s.l t = .slice A (bytes s.l t).length c := by
  unfold val bytes
  rcases hf : get s.l t with _ | x
  · exact ⟨none, 0, rfl⟩
  · exact h.sl t x hf
theorem At.valOwn (h : At none w p mb V F s) (t : List Nat) : Own w 0 (val V s.l t) (bytes s.l t) := by
  unfold val bytes
  rcases hf : get s.l t with _ | x
  · exact own_none w 0
  · exact h.own t x hf (by simp)
end Sf
end Go.Proofs.Ytoloidfkpfdboaa

/- The document's own answer for names. -/
namespace Go.Proofs.Ytoloidfkpfdboaa
set_option maxRecDepth 100000
open Go.ChangeShapes Go.WideShapes Go.ChangeAt Go.RowKit

def szOf : Value → Nat
  | .string b => b.size
  | _ => 0
theorem dec_less (m : Nat) (l : List Nat) (h : ¬ m = 0) : 2 * (m / 10) + (1 - szOf (.string (str ((48 + m % 10) :: l)))) < 2 * m + (1 - szOf (.string (str l))) := by
  simp only [szOf, str_size, List.length_cons]
  omega
theorem run_low2 {P : Program} (w : World) (ts : Array TypeId) (t : TypeId) (x y n : Int) (h : min x y = n) : (Builtin.min_ ts t #[.int .i64 x, .int .i64 y]).run P w = .ok (.int .i64 n) w := by
  have e : (if y < x then y else x) = n := by
    subst h
    simp only [Int.min_def]
    split <;> split <;> omega
  simp [Builtin.min_, Builtin.min2, e]
theorem run_top2 {P : Program} (w : World) (ts : Array TypeId) (t : TypeId) (x y n : Int) (h : max x y = n) : (Builtin.max_ ts t #[.int .i64 x, .int .i64 y]).run P w = .ok (.int .i64 n) w := by
  have e : (if y > x then y else x) = n := by
    subst h
    simp only [Int.max_def]
    split <;> split <;> omega
  simp [Builtin.max_, Builtin.max2, e]
end Go.Proofs.Ytoloidfkpfdboaa
