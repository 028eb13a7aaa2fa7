/- A map keyed by things of package grph: asked for a key, and stored into at one that is new. -/
import Derived.Test.YtemliglhippdcaaZ02
import Derived.Test.YtemliglhippdcaaText
import Derived.Maps.OwnSet
import Derived.Maps.Own
import Derived.Test.YtemliglhippdcaaNameRef
import Derived.Test.YtemliglhippdcaaTexts
namespace Go.Proofs.Ytemliglhippdcaa
set_option maxRecDepth 100000
open Go.ChangeShapes Go.WideShapes Go.ChangeAt Go.RowKit

def kI (x : Int) : Value := .agg #[.int .i64 x, .bool false]
def kS (t : List Nat) : Value := .agg #[.string (str t), .bool false]
/-- Keys of type T: two of them are held against each other by what tells them apart. -/
structure Kd (T : TypeId) (α : Type) where
  key : α → Value
  ok : α → Prop
  same : α → α → Bool
  eq : ∀ x y w, ok x → ok y → (Op.equal T (key x) (key y)).run Try.prog w = .ok (same x y) w
  fs : Array Field
  kind : Try.prog.underlying T = some (.struct fs)
  agg : ∀ x, ∃ cs, key x = .agg cs
  check : ∀ b x w, (Instr.checkKey b 10000 T (key x)).run Try.prog w = .ok () w
theorem eqKI (x y : Int) (w : World) : (Op.equal 112 (kI x) (kI y)).run Try.prog w = .ok (decide (x = y)) w := by
  unfold Op.equal kI
  rw [show Op.maxDepth = 9998 + 1 + 1 from rfl, run_equalIn_struct w (9998 + 1) 112 _ _ (by kernel_rfl) (by kernel_rfl)]
  simp [go_sem]
  by_cases h : x = y <;> simp [h]
theorem eqKS (x y : List Nat) (hx : ∀ c ∈ x, c < 256) (hy : ∀ c ∈ y, c < 256) (w : World) : (Op.equal 123 (kS x) (kS y)).run Try.prog w = .ok (decide (x = y)) w := by
  unfold Op.equal kS
  rw [show Op.maxDepth = 9998 + 1 + 1 from rfl, run_equalIn_struct w (9998 + 1) 123 _ _ (by kernel_rfl) (by kernel_rfl)]
  have h := str_eq hx hy
  simp [go_sem]
  by_cases e : x = y
  · subst e; simp
  · rw [decide_eq_false e] at h
    simp [e]
    simpa using h
theorem checkI (n : Nat) (b : Bool) (x : Int) (w : World) : (Instr.checkKey b (n + 1) 3 (.int .i64 x)).run Try.prog w = .ok () w := by
  unfold Instr.checkKey
  simp [go_sem]
theorem checkS (n : Nat) (b : Bool) (x : ByteArray) (w : World) : (Instr.checkKey b (n + 1) 9 (.string x)).run Try.prog w = .ok () w := by
  unfold Instr.checkKey
  simp [go_sem]
theorem checkB (n : Nat) (b : Bool) (x : Bool) (w : World) : (Instr.checkKey b (n + 1) 4 (.bool x)).run Try.prog w = .ok () w := by
  unfold Instr.checkKey
  simp [go_sem]
theorem checkKI (b : Bool) (x : Int) (w : World) : (Instr.checkKey b 10000 112 (kI x)).run Try.prog w = .ok () w := by
  unfold kI
  rw [show 10000 = 9998 + 1 + 1 from rfl]
  unfold Instr.checkKey
  simp [go_sem]
  have h1 := checkI 9998 b x w
  have h2 := checkB 9998 b false w
  simp only [Nat.reduceAdd] at h1 h2
  rw [h1]
  simp [Result.andThen, h2]
theorem checkKS (b : Bool) (x : List Nat) (w : World) : (Instr.checkKey b 10000 123 (kS x)).run Try.prog w = .ok () w := by
  unfold kS
  rw [show 10000 = 9998 + 1 + 1 from rfl]
  unfold Instr.checkKey
  simp [go_sem]
  have h1 := checkS 9998 b (str x) w
  have h2 := checkB 9998 b false w
  simp only [Nat.reduceAdd] at h1 h2
  rw [h1]
  simp [Result.andThen, h2]
noncomputable def kdI : Kd 112 Int := ⟨kI, fun _ => True, fun x y => decide (x = y), fun x y w _ _ => eqKI x y w, Try.prog.fieldsOf 112, by kernel_rfl, fun x => ⟨_, rfl⟩, checkKI⟩
noncomputable def kdS : Kd 123 (List Nat) := ⟨kS, fun t => ∀ c ∈ t, c < 256, fun x y => decide (x = y), fun x y w hx hy => eqKS x y hx hy w, Try.prog.fieldsOf 123, by kernel_rfl, fun x => ⟨_, rfl⟩, checkKS⟩

/-- Block b is the map of the things l, each with its place. -/
def KeyMap {T : TypeId} {α : Type} (K : Kd T α) (w : World) (b : Nat) (l : List α) : Prop :=
  ∃ es c, w.heap[b]? = some (.map es c) ∧ es.toList.map (fun e => (e.key, e.val)) = l.zipIdx.map (fun p => (K.key p.1, Value.int .i64 (p.2 : Int))) ∧ ∀ x ∈ l, K.ok x
variable {T : TypeId} {α : Type} {K : Kd T α}
theorem KeyMap.same {w w' : World} {b : Nat} {l : List α} (h : KeyMap K w b l) (e : w'.heap[b]? = w.heap[b]?) : KeyMap K w' b l := by
  obtain ⟨es, c, h1, h2⟩ := h
  exact ⟨es, c, e.trans h1, h2⟩
theorem KeyMap.lt {w : World} {b : Nat} {l : List α} (h : KeyMap K w b l) : b < w.heap.size := by
  obtain ⟨es, c, h1, _⟩ := h
  exact (Array.getElem?_eq_some_iff.1 h1).1
theorem keyMap_made (K : Kd T α) (w : World) : KeyMap K (w.alloc (.map #[] 0)) w.heap.size [] := ⟨#[], 0, heap_alloc_new w _, by simp, by simp⟩
theorem run_find (w : World) (x : α) (hx : K.ok x) : ∀ (es : List MapEntry) (l : List α) (n i : Nat), es.map (fun e => (e.key, e.val)) = (l.zipIdx n).map (fun p => (K.key p.1, Value.int .i64 (p.2 : Int))) → (∀ y ∈ l, K.ok y) →
    (Instr.findAsking T (K.key x) es i).run Try.prog w = .ok ((l.findIdx? (K.same x)).map fun j => (i + j, Value.int .i64 ((n + j : Nat) : Int))) w := by
  intro es
  induction es with
  | nil =>
    intro l n i h _
    rcases l with _ | ⟨y, l⟩
    · simp [Instr.findAsking]
    · simp at h
  | cons e es ih =>
    intro l n i h hok
    rcases l with _ | ⟨y, l⟩
    · simp at h
    · simp only [List.map_cons, List.zipIdx_cons, List.cons.injEq, Prod.mk.injEq] at h
      obtain ⟨⟨hk, hv⟩, h⟩ := h
      unfold Instr.findAsking
      rw [Sem.run_bind, hk, K.eq x y w hx (hok y (by simp))]
      simp only [Result.andThen_ok]
      rw [List.findIdx?_cons]
      rcases hs : K.same x y with _ | _
      · simp only [Bool.false_eq_true, if_false]
        rw [ih l (n + 1) (i + 1) h (fun z hz => hok z (by simp [hz]))]
        congr 1
        rcases l.findIdx? (K.same x) with _ | j
        · rfl
        · simp
          omega
      · simp only [if_true, Sem.run_pure, hv]
        rfl
theorem run_findKey (w : World) (x : α) (hx : K.ok x) {l : List α} {es : Array MapEntry} (h : es.toList.map (fun e => (e.key, e.val)) = l.zipIdx.map (fun p => (K.key p.1, Value.int .i64 (p.2 : Int)))) (hok : ∀ y ∈ l, K.ok y) :
    (Instr.findKey T (K.key x) es.toList).run Try.prog w = .ok ((l.findIdx? (K.same x)).map fun j => (j, Value.int .i64 (j : Int))) w := by
  have hf := K.kind
  unfold Instr.findKey
  rw [Sem.run_bind, run_underlying hf]
  simp only [Result.andThen_ok]
  have hr := run_find w x hx es.toList l 0 0 h hok
  simp only [Nat.zero_add] at hr
  rcases hes : es.toList with _ | ⟨e, es'⟩
  · rw [hes] at hr
    rcases l with _ | ⟨y, l⟩
    · simp [Instr.findNow]
    · rw [hes] at h
      simp at h
  · rw [hes] at hr
    obtain ⟨cs, hcs⟩ := K.agg x
    have : Instr.findNow (.struct K.fs) (K.key x) (e :: es') 0 = none := by
      rw [hcs]
      simp [Instr.findNow, Instr.sameNow]
    rw [this]
    exact hr
theorem KeyMap.run_look {w : World} {b : Nat} {l : List α} (h : KeyMap K w b l) {M : TypeId} (hM : Try.prog.underlying M = some (.map T 3)) (x : α) (hx : K.ok x) :
    (Instr.lookup M (.map (some b)) (K.key x) true).run Try.prog w = .ok (.tuple #[.int .i64 (((l.findIdx? (K.same x)).getD 0 : Nat) : Int), .bool (l.findIdx? (K.same x)).isSome]) w := by
  obtain ⟨es, c, h1, h2, h3⟩ := h
  have hf := run_findKey w x hx h2 h3
  have hz : (zeroValue 3).run Try.prog w = .ok (.int .i64 0) w := by kernel_rfl
  unfold Instr.lookup
  simp only [Sem.run_bind, run_underlying hM, Result.andThen_ok, MapKept.run_getObj_map h1, Sem.run_pure, K.check, hf]
  rcases l.findIdx? (K.same x) with _ | j
  · simp [hz]
  · simp
theorem KeyMap.run_store {w : World} {b : Nat} {l : List α} (h : KeyMap K w b l) {M : TypeId} (hM : Try.prog.underlying M = some (.map T 3)) (x : α) (hx : K.ok x) (hn : l.findIdx? (K.same x) = none) (n : Nat) (hnl : l.length = n) :
    ∃ w', (Instr.mapUpdate M (.map (some b)) (K.key x) (.int .i64 (n : Int))).run Try.prog w = .ok () w' ∧ KeyMap K w' b (l ++ [x]) ∧ w.grownBy w' (some b) ∧ w'.heap.size = w.heap.size := by
  obtain ⟨es, c, h1, h2, h3⟩ := h
  have hf := run_findKey w x hx h2 h3
  rw [hn] at hf
  have hlt := (Array.getElem?_eq_some_iff.1 h1).1
  refine ⟨{ w with heap := w.heap.setIfInBounds b (.map (es.push { key := K.key x, val := .int .i64 (n : Int), born := c }) (c + 1)) }, ?_, ⟨es.push { key := K.key x, val := .int .i64 (n : Int), born := c }, c + 1, ?_, ?_, ?_⟩, ⟨rfl, rfl, rfl, by simp, fun k hk hne => ?_⟩, by simp⟩
  · unfold Instr.mapUpdate
    simp only [Sem.run_bind, run_underlying hM, Result.andThen_ok, MapKept.run_getObj_map h1, K.check, hf, Option.map_none, MapKept.run_setObj_map _ h1]
  · show (w.heap.setIfInBounds b _)[b]? = _
    rw [Array.getElem?_setIfInBounds]
    simp [hlt]
  · simp [List.zipIdx_append, h2, hnl]
  · intro y hy
    rcases List.mem_append.1 hy with hy | hy
    · exact h3 y hy
    · simp at hy
      subst hy
      exact hx
  · show (w.heap.setIfInBounds b _)[k]? = _
    rw [Array.getElem?_setIfInBounds]
    rw [if_neg (fun e => hne (by rw [e]))]
end Go.Proofs.Ytemliglhippdcaa

/- A map keyed by texts, as a function from texts to values: asked, stored into. -/
namespace Go.Proofs.Ytemliglhippdcaa
set_option maxRecDepth 100000
open Go.ChangeShapes Go.WideShapes Go.ChangeAt Go.RowKit Go.ChangeMaps

def heldR (v : Value) : Option (DataW Value × List MemPlace) := some (.held v, [])
def keyL (t : List Nat) : Lit := .string (t.map UInt8.ofNat)
theorem keyed : Go.Maps.Keyed Try.prog 9 := Go.Maps.string_keyed Try.underlying9
theorem key_of (t : List Nat) (h : t.length ≤ maxLen) : keyOf Try.prog 9 (.string (str t)) = some (keyL t) := by
  have := WideMaps.keyOf_string_mk (P := Try.prog) Try.underlying9 (s := str t) (by rw [str_size]; exact h)
  rw [this]
  simp [keyL, str_data]
theorem keyL_inj {t u : List Nat} (ht : ∀ c ∈ t, c < 256) (hu : ∀ c ∈ u, c < 256) (h : keyL t = keyL u) : t = u := by
  unfold keyL at h
  injection h with h
  have : ((str t).toList == (str u).toList) = true := by rw [str_toList, str_toList, h]; simp
  rw [str_same ht hu] at this
  simpa using this
theorem keyL_key (t : List Nat) : WideAt.IsKeyLit (keyL t) := trivial
/-- Block b is a map of at most n entries that answers as f does. -/
def MapIs (w : World) (b n : Nat) (f : List Nat → Option Value) : Prop :=
  ∃ D, w.ownsMap Try.prog 9 heldR b n D ∧ ∀ t, (∀ c ∈ t, c < 256) → Maps.has D (keyL t) = (f t).isSome ∧ ∀ v z, f t = some v → D.atKey (keyL t) z = .held v
theorem mapIs_made (w : World) : MapIs (w.alloc (.map #[] 0)) w.heap.size 0 fun _ => none :=
  ⟨_, World.ownsMap_made _ _ _ _, fun t _ => ⟨rfl, fun v z h => by cases h⟩⟩
theorem MapIs.kept {w w' : World} {b n : Nat} {f : List Nat → Option Value} {row : Option Nat} (h : MapIs w b n f) (hg : w.grownBy w' row) (hne : some b ≠ row) : MapIs w' b n f := by
  obtain ⟨D, h1, h2⟩ := h
  exact ⟨D, h1.kept hg hne, h2⟩
theorem MapIs.lt {w : World} {b n : Nat} {f : List Nat → Option Value} (h : MapIs w b n f) : b < w.heap.size := by
  obtain ⟨D, h1, _⟩ := h
  exact h1.lt
theorem MapIs.map {w : World} {b n : Nat} {f : List Nat → Option Value} (h : MapIs w b n f) : ∃ es c, w.heap[b]? = some (.map es c) := by
  obtain ⟨D, ⟨es, c, hb, _⟩, _⟩ := h
  exact ⟨es, c, hb⟩
theorem MapIs.same {w w' : World} {b n : Nat} {f : List Nat → Option Value} (h : MapIs w b n f) (hb : w'.heap[b]? = w.heap[b]?) : MapIs w' b n f := by
  obtain ⟨D, ⟨es, c, h1, h3⟩, h2⟩ := h
  exact ⟨D, ⟨es, c, hb.trans h1, h3⟩, h2⟩
theorem MapIs.mono {w : World} {b n n' : Nat} {f : List Nat → Option Value} (h : MapIs w b n f) (hn : n ≤ n') : MapIs w b n' f := by
  obtain ⟨D, h1, h2⟩ := h
  exact ⟨D, h1.mono hn, h2⟩
section
variable (w : World) {ops : Array Oper} {rest : List Oper} {o : Oper} {a : Act} {Q : Exit → Act → World → Prop}
theorem wpList_look (hg : o.guard = none) (m x : Operand) (T : TypeId) (hop : o.op = Op.lookup T m x true) (e : TypeId) (ht : Try.prog.underlying T = some (.map 9 e)) (z : Value) (hz : (zeroValue e).run Try.prog w = .ok z w)
    (b n : Nat) (f : List Nat → Option Value) (hm : a.eval m = .map (some b)) (h : MapIs w b n f) (t : List Nat) (ht1 : ∀ c ∈ t, c < 256) (ht2 : t.length ≤ 1099511627776) (hx : a.eval x = .string (str t))
    (hK : wpList Try.prog ops Q rest (a.put o.dst (.tuple #[(f t).getD z, .bool (f t).isSome])) w) : wpList Try.prog ops Q (o :: rest) a w := by
  obtain ⟨D, h1, h2⟩ := h
  refine wpList_lookup_own_ok w hg m x T hop 9 e keyed ht heldR hz (.held z) [] rfl b n D hm h1 _ _ hx (key_of t (by unfold maxLen; omega)) ?_
  intro v ps hv
  obtain ⟨e1, e2⟩ := h2 t ht1
  rw [e1]
  unfold heldR at hv
  injection hv with hv
  injection hv with hv _
  rcases hf : f t with _ | u
  · rw [hf] at e1 hK
    rw [Maps.atKey_of_not_has e1] at hv
    injection hv with hv
    subst hv
    exact hK
  · rw [hf] at hK
    rw [e2 u _ hf] at hv
    injection hv with hv
    subst hv
    exact hK
theorem wpList_store (hg : o.guard = none) (m x v : Operand) (T : TypeId) (hop : o.op = Op.mapUpdate T m x v) (e : TypeId) (ht : Try.prog.underlying T = some (.map 9 e))
    (b n : Nat) (f : List Nat → Option Value) (hm : a.eval m = .map (some b)) (h : MapIs w b n f) (hn : n ≤ 1099511627776) (t : List Nat) (ht1 : ∀ c ∈ t, c < 256) (ht2 : t.length ≤ 1099511627776) (hx : a.eval x = .string (str t)) (val : Value) (hv : a.eval v = val)
    (hK : ∀ w', MapIs w' b (n + 1) (fun u => if u = t then some val else f u) → w.grownBy w' (some b) → (∀ k, k ≠ b → w'.heap[k]? = w.heap[k]?) → w'.heap.size = w.heap.size → wpList Try.prog ops Q rest (a.put o.dst undef) w') : wpList Try.prog ops Q (o :: rest) a w := by
  obtain ⟨D, h1, h2⟩ := h
  refine wpList_mapUpdate_in w hg m x v T hop 9 e keyed ht heldR b n D hm h1 (by unfold maxLen; omega) _ val (keyL t) hx hv (key_of t (by unfold maxLen; omega)) (.held val) [] rfl ?_
  intro w' h3 h4
  have hD := h1.isMap
  refine hK w' ⟨_, h3, fun u hu => ?_⟩ h4.grown ?_ ?_
  · by_cases hut : u = t
    · subst hut
      simp only [if_true]
      exact ⟨Maps.has_put_same hD (keyL_key u) _, fun v z hv => by injection hv with hv; rw [← hv]; exact Maps.atKey_put_same hD (keyL_key u) _ _⟩
    · have hne : keyL u ≠ keyL t := fun e => hut (keyL_inj hu ht1 e)
      dsimp only
      rw [Maps.has_put_other hne, if_neg hut]
      exact ⟨(h2 u hu).1, fun v z hv => by rw [Maps.atKey_put_other hne]; exact (h2 u hu).2 v z hv⟩
  · obtain ⟨es, c, es', c', hb, rfl⟩ := h4
    intro k hk
    exact heap_setBlock_other hb _ hk
  · obtain ⟨es, c, es', c', hb, rfl⟩ := h4
    simp [setBlock]
end
end Go.Proofs.Ytemliglhippdcaa

/- The document's own answer for temps' texts. -/
namespace Go.Proofs.Ytemliglhippdcaa
set_option maxRecDepth 100000
open Go.ChangeShapes Go.WideShapes Go.ChangeAt Go.RowKit

def OfIs (l : List Nat) (w : World) (e : Ending) (w' : World) : Prop := e = .returned (.tuple #[.int .i64 (Nm.ofWho l : Nat), .int .i64 (Nm.ofInc l : Nat), .bool (Nm.isOf l)]) ∧ Below w.heap.size w w'
theorem ofIs_not {l : List Nat} {w w' : World} (h : Nm.isOf l = false) (hb : Below w.heap.size w w') : OfIs l w (.returned (.tuple #[.int .i64 0, .int .i64 0, .bool false])) w' := by
  refine ⟨?_, hb⟩
  rw [Nm.ofWho, Nm.ofInc, h]
  rfl
end Go.Proofs.Ytemliglhippdcaa

/- A map keyed by texts: what asking it, and storing into it, come to as they run. -/
namespace Go.Proofs.Ytemliglhippdcaa
set_option maxRecDepth 100000
open Go.ChangeShapes Go.WideShapes Go.ChangeAt Go.RowKit Go.ChangeMaps

theorem MapIs.run_look {w : World} {b n : Nat} {f : List Nat → Option Value} (h : MapIs w b n f) {T e : TypeId} (ht : Try.prog.underlying T = some (.map 9 e)) {z : Value} (hz : (zeroValue e).run Try.prog w = .ok z w) {t : List Nat} (ht1 : ∀ c ∈ t, c < 256) (ht2 : t.length ≤ 1099511627776) :
    (Instr.lookup T (.map (some b)) (.string (str t)) true).run Try.prog w = .ok (.tuple #[(f t).getD z, .bool (f t).isSome]) w := by
  obtain ⟨D, h1, h2⟩ := h
  obtain ⟨v, ps, hrun, hv⟩ := h1.look_ok keyed ht hz (zd := .held z) (zp := []) rfl (key_of t (by unfold maxLen; omega))
  rw [hrun]
  obtain ⟨e1, e2⟩ := h2 t ht1
  rw [e1]
  unfold heldR at hv
  injection hv with hv
  injection hv with hv _
  rcases hf : f t with _ | u
  · rw [hf] at e1
    rw [Maps.atKey_of_not_has e1] at hv
    injection hv with hv
    subst hv
    rfl
  · rw [e2 u _ hf] at hv
    injection hv with hv
    subst hv
    rfl
theorem MapIs.run_store {w : World} {b n : Nat} {f : List Nat → Option Value} (h : MapIs w b n f) {T e : TypeId} (ht : Try.prog.underlying T = some (.map 9 e)) (hn : n ≤ 1099511627776) {t : List Nat} (ht1 : ∀ c ∈ t, c < 256) (ht2 : t.length ≤ 1099511627776) (val : Value) :
    ∃ w', (Instr.mapUpdate T (.map (some b)) (.string (str t)) val).run Try.prog w = .ok () w' ∧ MapIs w' b (n + 1) (fun u => if u = t then some val else f u) ∧ w.grownBy w' (some b) ∧ (∀ k, k ≠ b → w'.heap[k]? = w.heap[k]?) ∧ w'.heap.size = w.heap.size := by
  obtain ⟨D, h1, h2⟩ := h
  obtain ⟨w', hrun, h3, h4⟩ := h1.store keyed ht (val := val) (d := .held val) (ps := []) (by unfold maxLen; omega) (key_of t (by unfold maxLen; omega)) rfl
  have hD := h1.isMap
  refine ⟨w', hrun, ⟨_, h3, fun u hu => ?_⟩, h4.grown, ?_, ?_⟩
  · by_cases hut : u = t
    · subst hut
      simp only [if_true]
      exact ⟨Maps.has_put_same hD (keyL_key u) _, fun v z hv => by injection hv with hv; rw [← hv]; exact Maps.atKey_put_same hD (keyL_key u) _ _⟩
    · have hne : keyL u ≠ keyL t := fun e => hut (keyL_inj hu ht1 e)
      dsimp only
      rw [Maps.has_put_other hne, if_neg hut]
      exact ⟨(h2 u hu).1, fun v z hv => by rw [Maps.atKey_put_other hne]; exact (h2 u hu).2 v z hv⟩
  · obtain ⟨es, c, es', c', hb, rfl⟩ := h4
    intro k hk
    exact heap_setBlock_other hb _ hk
  · obtain ⟨es, c, es', c', hb, rfl⟩ := h4
    simp [setBlock]
end Go.Proofs.Ytemliglhippdcaa
