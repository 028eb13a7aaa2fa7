/- Texts as lists of bytes: length, a byte, a part, one behind the other, whether two are the same. -/
import Derived.Test.YtgjehlegcmeeoaaGreatDoorZ02
import Derived.Deep.DeepCutAuto
import Derived.Deep.LoopGhost
import Derived.IntWalk
import Derived.Test.YtgjehlegcmeeoaaGreatDoorZ00
import Derived.Maps.AppendAt
import Derived.Maps.OwnSet
import Derived.Maps.Own
namespace Go.Proofs.YtgjehlegcmeeoaaGreatDoor
set_option maxRecDepth 100000
open Go.ChangeShapes Go.WideShapes Go.ChangeAt Go.RowKit

theorem str_size (l : List Nat) : (str l).size = l.length := by simp [str, ByteArray.size]
theorem str_data (l : List Nat) : (str l).data.toList = l.map UInt8.ofNat := by simp [str]
/-- Any text is that of its bytes. -/
theorem str_all (s : ByteArray) : s = str (s.data.toList.map (·.toNat)) := by
  apply ByteArray.ext
  apply Array.ext'
  rw [str_data, List.map_map]
  conv => lhs; rw [← List.map_id s.data.toList]
  exact List.map_congr_left fun c _ => by simp
theorem bytes_lt (s : ByteArray) : ∀ c ∈ s.data.toList.map (·.toNat), c < 256 := by
  intro c hc
  obtain ⟨b, _, rfl⟩ := List.mem_map.1 hc
  exact UInt8.toNat_lt b
theorem str_get {l : List Nat} (hl : ∀ c ∈ l, c < 256) (k : Nat) (h : k < (str l).size) : ((str l)[k]'h).toNat = l.getD k 0 := by
  have hk : k < l.length := by rwa [str_size] at h
  have e : (str l)[k]'h = UInt8.ofNat (l[k]'hk) := by
    show (str l).data[k] = _
    simp [str]
  rw [e, List.getD_eq_getElem?_getD, List.getElem?_eq_getElem hk]
  have := hl _ (List.getElem_mem hk)
  simp
  omega
theorem str_part (l : List Nat) (a b : Nat) : (str l).extract a b = str ((l.drop a).take (b - a)) := by
  unfold str
  rw [ByteArray.extract_mk]
  congr 2
  rw [List.map_take, List.map_drop]
theorem str_add (l m : List Nat) : str l ++ str m = str (l ++ m) := by
  apply ByteArray.ext
  apply Array.ext'
  simp [str]
theorem str_same {l m : List Nat} (hl : ∀ c ∈ l, c < 256) (hm : ∀ c ∈ m, c < 256) : ((str l).toList == (str m).toList) = decide (l = m) := str_eq hl hm
theorem str_const {s : ByteArray} {l : List Nat} (h : s.data.toList.map (·.toNat) = l) : s = str l := by rw [← h]; exact str_all s
/-- Two texts of no great length fit one behind the other. -/
theorem str_fits {l m : List Nat} (h : l.length + m.length ≤ 4611686018427387904) : ¬ 9223372036854775807 < (str l).size + (str m).size := by
  rw [str_size, str_size]
  omega
theorem str_empty : (str []).toList.isEmpty = true := by rw [str_toList]; rfl
theorem str_some (c : Nat) (l : List Nat) : (str (c :: l)).toList.isEmpty = false := by rw [str_toList]; rfl
theorem tenth {m n : Nat} (h : m ≤ n) (hn : n < 1000000000000000000) : wrap64 ((m : Int) / 10) = ((m / 10 : Nat) : Int) := by
  unfold wrap64
  omega
end Go.Proofs.YtgjehlegcmeeoaaGreatDoor

/- Rows of words, and rows of such rows, all of the call's own: read, kept, grown by one. -/
namespace Go.Proofs.YtgjehlegcmeeoaaGreatDoor
set_option maxRecDepth 100000
open Go.ChangeShapes Go.WideShapes Go.ChangeAt Go.RowKit

def cellsW (x : Ln.W) : List Value := [.string (str x.text), .int .i64 x.line, .int .i64 x.col, .bool x.q]
def rowW (L : List Ln.W) : List Value := L.flatMap cellsW
theorem cellsW_len (x : Ln.W) : (cellsW x).length = 4 := rfl
theorem cellsW_one (x : Ln.W) : ∀ u ∈ cellsW x, u.oneCell' = true := by
  intro u hu
  simp only [cellsW, List.mem_cons, List.not_mem_nil, or_false] at hu
  rcases hu with rfl | rfl | rfl | rfl <;> rfl
theorem rowW_len (L : List Ln.W) : (rowW L).length = L.length * 4 := by
  induction L with
  | nil => rfl
  | cons x L ih =>
    simp only [rowW, List.flatMap_cons, List.length_append, cellsW_len, List.length_cons] at ih ⊢
    omega
theorem rowW_snoc (L : List Ln.W) (x : Ln.W) : rowW (L ++ [x]) = rowW L ++ cellsW x := by simp [rowW]
theorem rowW_at : ∀ (L : List Ln.W) (k j : Nat) (h : k < L.length), j < 4 → (rowW L)[k * 4 + j]? = (cellsW (L[k]'h))[j]?
  | x :: L, 0, j, _, hj => by
    rw [rowW, List.flatMap_cons, List.getElem?_append_left (by rw [cellsW_len]; omega), Nat.zero_mul, Nat.zero_add]
    rfl
  | x :: L, k + 1, j, h, hj => by
    rw [rowW, List.flatMap_cons, List.getElem?_append_right (by rw [cellsW_len]; omega), cellsW_len, show (k + 1) * 4 + j - 4 = k * 4 + j from by omega]
    exact rowW_at L k j (by simpa using h) hj
/-- A row of words of the call's own. -/
def OwnW (w : World) (base : Nat) (v : Value) (L : List Ln.W) : Prop := w.ownsRow base 55 4 v L.length (rowW L)
theorem ownW_none (w : World) (base : Nat) : OwnW w base (.slice none 0 0) [] := World.ownsRow_nil w base _ 4
theorem OwnW.grown {w w' : World} {row : Option Nat} {base : Nat} {v : Value} {L : List Ln.W} (h : OwnW w base v L) (hg : w.grownBy w' row) (hne : v.ownBlock = none ∨ v.ownBlock ≠ row) : OwnW w' base v L := World.ownsRow.kept h hg hne
theorem OwnW.under {w w' : World} {base : Nat} {v : Value} {L : List Ln.W} (h : OwnW w base v L) (hb : Below w.heap.size w w') : OwnW w' base v L := h.grown (Below.toGrown hb none) (by cases v.ownBlock <;> simp)
theorem OwnW.lt {w : World} {base : Nat} {v : Value} {L : List Ln.W} (h : OwnW w base v L) : Between base w.heap.size v := fun k hk => World.ownsRow.lt h k hk
theorem OwnW.parts {w : World} {base : Nat} {v : Value} {L : List Ln.W} (h : OwnW w base v L) : ∃ A c, v = .slice A L.length c ∧ L.length ≤ c := by
  rcases h.2 with ⟨rfl, h0⟩ | ⟨g, cap, cur, rfl, _, _, hn, _⟩
  · exact ⟨none, 0, by rw [h0], by omega⟩
  · exact ⟨_, _, rfl, hn⟩
theorem OwnW.oneCell {w : World} {base : Nat} {v : Value} {L : List Ln.W} (h : OwnW w base v L) : v.oneCell' = true := by
  rcases h.2 with ⟨rfl, _⟩ | ⟨g, cap, cur, rfl, _⟩ <;> rfl
/-- Rows of words do not lie where rows of rows do. -/
theorem ownW_apart {w : World} {base base' n : Nat} {v u : Value} {L : List Ln.W} {us : List Value} (h : OwnW w base u L) (h' : w.ownsRow base' 53 1 v n us) : u.ownBlock = none ∨ u.ownBlock ≠ v.ownBlock := by
  rcases h.2 with ⟨rfl, _⟩ | ⟨g, cap, cur, rfl, _, hg, _⟩
  · exact .inl rfl
  · rcases h'.2 with ⟨rfl, _⟩ | ⟨g', cap', cur', rfl, _, hg', _⟩
    · exact .inr (by simp [Value.ownBlock])
    · refine .inr fun e => ?_
      simp [Value.ownBlock] at e
      subst e
      rw [hg] at hg'
      injection hg' with e
      injection e with _ e
      exact absurd e (by decide)
theorem apart_symm {u v : Value} (h : u.ownBlock = none ∨ u.ownBlock ≠ v.ownBlock) : v.ownBlock = none ∨ v.ownBlock ≠ u.ownBlock := by
  rcases h with h | h
  · rw [h]
    cases hv : v.ownBlock with
    | none => exact .inl rfl
    | some k => exact .inr (by simp)
  · exact .inr fun e => h e.symm
/-- Lines that are done, and the line that is being read. -/
def St (w : World) (base : Nat) (v : Value) (LL : List (List Ln.W)) (u : Value) (R : List Ln.W) : Prop :=
  ∃ us : List Value, us.length = LL.length ∧ w.ownsRow base 53 1 v LL.length us ∧ (∀ x ∈ us, x.oneCell' = true) ∧ (∀ i, i < LL.length → OwnW w base (us.getD i undef) (LL.getD i [])) ∧
    (∀ i j, i < j → j < LL.length → (us.getD i undef).ownBlock = none ∨ (us.getD i undef).ownBlock ≠ (us.getD j undef).ownBlock) ∧
    OwnW w base u R ∧ ∀ i, i < LL.length → (us.getD i undef).ownBlock = none ∨ (us.getD i undef).ownBlock ≠ u.ownBlock
theorem st_none (w : World) (base : Nat) : St w base (.slice none 0 0) [] (.slice none 0 0) [] :=
  ⟨[], rfl, World.ownsRow_nil w base _ 1, by simp, fun i hi => absurd hi (by simp), fun i j _ hj => absurd hj (by simp), ownW_none w base, fun i hi => absurd hi (by simp)⟩
theorem St.row {w : World} {base : Nat} {v u : Value} {LL : List (List Ln.W)} {R : List Ln.W} (h : St w base v LL u R) : ∃ A c, u = .slice A R.length c ∧ R.length ≤ c := by
  obtain ⟨us, _, _, _, _, _, h6, _⟩ := h
  exact h6.parts
theorem St.nil {w : World} {base : Nat} {v u : Value} {LL : List (List Ln.W)} {R : List Ln.W} (h0 : R.length = 0) (h : St w base v LL u R) : St w base v LL u [] := by
  rw [List.length_eq_zero_iff.1 h0] at h
  exact h
theorem St.under {w w' : World} {base : Nat} {v u : Value} {LL : List (List Ln.W)} {R : List Ln.W} (h : St w base v LL u R) (hb : Below w.heap.size w w') : St w' base v LL u R := by
  obtain ⟨us, h1, h2, h3, h4, h5, h6, h7⟩ := h
  exact ⟨us, h1, h2.kept (Below.toGrown hb none) (by cases v.ownBlock <;> simp), h3, fun i hi => (h4 i hi).under hb, h5, h6.under hb, h7⟩
theorem OwnW.more {w : World} {base base' : Nat} {v : Value} {L : List Ln.W} (h : OwnW w base v L) (hb : base' ≤ base) : OwnW w base' v L := by
  refine ⟨h.1, ?_⟩
  rcases h.2 with h2 | ⟨g, cap, cur, e, hg, rest⟩
  · exact .inl h2
  · exact .inr ⟨g, cap, cur, e, Nat.le_trans hb hg, rest⟩
theorem St.more {w : World} {base base' : Nat} {v u : Value} {LL : List (List Ln.W)} {R : List Ln.W} (h : St w base v LL u R) (hb : base' ≤ base) : St w base' v LL u R := by
  obtain ⟨us, h1, h2, h3, h4, h5, h6, h7⟩ := h
  refine ⟨us, h1, ⟨h2.1, ?_⟩, h3, fun i hi => (h4 i hi).more hb, h5, h6.more hb, h7⟩
  rcases h2.2 with h2 | ⟨g, cap, cur, e, hg, rest⟩
  · exact .inl h2
  · exact .inr ⟨g, cap, cur, e, Nat.le_trans hb hg, rest⟩
theorem St.alloc {w : World} {base : Nat} {v u : Value} {LL : List (List Ln.W)} {R : List Ln.W} (h : St w base v LL u R) (o : Obj) : St (w.alloc o) base v LL u R := h.under ((Below.refl _ _).alloc (Nat.le_refl _) _)
theorem St.heap {w W : World} {base : Nat} {v u : Value} {LL : List (List Ln.W)} {R : List Ln.W} (h : St w base v LL u R) (e : W.heap = w.heap) : St W base v LL u R := by
  unfold St OwnW World.ownsRow at *
  rw [e]
  exact h
theorem St.setLow {w : World} {base : Nat} {v u : Value} {LL : List (List Ln.W)} {R : List Ln.W} (h : St w base v LL u R) {p : Addr} (hp : p.block < base) (x : Value) : St (w.setCell p x) base v LL u R := by
  obtain ⟨us, h1, h2, h3, h4, h5, h6, h7⟩ := h
  have hg := grown_setCell w p x
  have hlow : ∀ {t : Value}, Between base w.heap.size t → t.ownBlock = none ∨ t.ownBlock ≠ some p.block := fun {t} hb => .inr fun e => by
    have := (hb _ e).1
    omega
  exact ⟨us, h1, h2.kept hg (hlow fun k hk => World.ownsRow.lt h2 k hk), h3, fun i hi => (h4 i hi).grown hg (hlow (h4 i hi).lt), h5, h6.grown hg (hlow h6.lt), h7⟩
theorem St.drop {w : World} {base : Nat} {v u : Value} {LL : List (List Ln.W)} {R : List Ln.W} (h : St w base v LL u R) : St w base v LL (.slice none 0 0) [] := by
  obtain ⟨us, h1, h2, h3, h4, h5, _, _⟩ := h
  exact ⟨us, h1, h2, h3, h4, h5, ownW_none w base, fun i _ => by
    cases (us.getD i undef).ownBlock with
    | none => exact .inl rfl
    | some k => exact .inr (by simp [Value.ownBlock])⟩
theorem infoWord : (Tryz.prog.info? 55).map (fun i => (i.zero, i.size, i.bytes)) = some (some (.agg #[.string ⟨#[]⟩, .int .i64 0, .int .i64 0, .bool false]), 4, 40) := by kernel_rfl
theorem infoRow : (Tryz.prog.info? 53).map (fun i => (i.zero, i.size, i.bytes)) = some (some (.slice none 0 0), 1, 24) := by kernel_rfl
theorem getD_snoc_lt {α : Type} {l : List α} {x d : α} {i : Nat} (h : i < l.length) : (l ++ [x]).getD i d = l.getD i d := by
  rw [List.getD_eq_getElem?_getD, List.getD_eq_getElem?_getD, List.getElem?_append_left h]
theorem getD_snoc_eq {α : Type} {l : List α} {x d : α} {i : Nat} (h : i = l.length) : (l ++ [x]).getD i d = x := by
  subst h
  simp
theorem wpList_append_word {w : World} {ops : Array Oper} {rest : List Oper} {o : Oper} {a : Act} {Q : Exit → Act → World → Prop} (hgd : o.guard = none) (s x : Operand)
    (ho : o.op = .call { callee := .builtin .append, args := #[s, x], argTypes := #[53, 53] }) (base B : Nat) (v u : Value) (LL : List (List Ln.W)) (R : List Ln.W) (z : Ln.W) (hs : a.eval s = u) (hst : St w base v LL u R)
    (hx : a.eval x = .slice (some ⟨B, 0, none⟩) 1 1) (hB : ∀ j y, (cellsW z)[j]? = some y → w.cell? ⟨B, j, none⟩ = some y)
    (hlen : R.length ≤ 1099511627776) (hbase : base ≤ w.heap.size) (R' : List Ln.W) (hR : R ++ [z] = R')
    (h : ∀ u' w', St w' base v LL u' R' → Below base w w' → wpList Tryz.prog ops Q rest (a.put o.dst u') w') : wpList Tryz.prog ops Q (o :: rest) a w := by
  subst hR
  obtain ⟨us, h1, h2, h3, h4, h5, h6, h7⟩ := hst
  obtain ⟨i, hi, hz0, hz1, hz2⟩ := info_parts infoWord
  refine wpList_append_own_at w hgd s x 53 ho base 55 i (.agg #[.string ⟨#[]⟩, .int .i64 0, .int .i64 0, .bool false]) 4 40 Tryz.underlying53 hi hz0 hz1 hz2 (by kernel_rfl) (by decide) u R.length (rowW R) hs h6 ⟨B, 0, none⟩ 1 1 (cellsW z) hx rfl ?_ (cellsW_one z) (by unfold maxLen; omega) (by omega) hbase ?_
  · intro j y hy
    rw [add_plain]
    simpa using hB j y hy
  · intro u' w' g1 g2 _ g4
    have hb : Below base w w' := (Below.refl _ _).grown g2 hbase fun k hk => (World.ownsRow.lt h6 k hk).1
    refine h u' w' ⟨us, h1, h2.kept g2 (apart_symm (ownW_apart h6 h2)), h3, fun i hi => (h4 i hi).grown g2 (h7 i hi), h5, ?_, fun i hi => ?_⟩ hb
    · unfold OwnW
      rw [List.length_append, List.length_singleton, rowW_snoc]
      exact g1
    · rcases g4 with e | e
      · rw [e]; exact h7 i hi
      · rw [e]
        refine .inr fun e2 => ?_
        have := ((h4 i hi).lt _ e2).2
        omega
theorem wpList_append_line {w : World} {ops : Array Oper} {rest : List Oper} {o : Oper} {a : Act} {Q : Exit → Act → World → Prop} (hgd : o.guard = none) (s x : Operand)
    (ho : o.op = .call { callee := .builtin .append, args := #[s, x], argTypes := #[48, 48] }) (base B : Nat) (v u : Value) (LL : List (List Ln.W)) (R : List Ln.W) (hs : a.eval s = v) (hst : St w base v LL u R)
    (hx : a.eval x = .slice (some ⟨B, 0, none⟩) 1 1) (hB : w.cell? ⟨B, 0, none⟩ = some u)
    (hlen : LL.length ≤ 1099511627776) (hbase : base ≤ w.heap.size) (LL' : List (List Ln.W)) (hR : LL ++ [R] = LL')
    (h : ∀ v' w', St w' base v' LL' (.slice none 0 0) [] → Below base w w' → wpList Tryz.prog ops Q rest (a.put o.dst v') w') : wpList Tryz.prog ops Q (o :: rest) a w := by
  subst hR
  obtain ⟨us, h1, h2, h3, h4, h5, h6, h7⟩ := hst
  obtain ⟨i, hi, hz0, hz1, hz2⟩ := info_parts infoRow
  refine wpList_append_own_at w hgd s x 48 ho base 53 i (.slice none 0 0) 1 24 Tryz.underlying48 hi hz0 hz1 hz2 rfl (by decide) v LL.length us hs h2 ⟨B, 0, none⟩ 1 1 [u] hx rfl ?_ (by simpa using h6.oneCell) (by unfold maxLen; omega) (by omega) hbase ?_
  · intro j y hy
    have hj : j = 0 := by
      rcases j with _ | j
      · rfl
      · simp at hy
    subst hj
    simp at hy
    subst hy
    rw [add_plain]
    exact hB
  · intro v' w' g1 g2 _ _
    have hb : Below base w w' := (Below.refl _ _).grown g2 hbase fun k hk => (World.ownsRow.lt h2 k hk).1
    have hap : ∀ i, i < LL.length → OwnW w' base (us.getD i undef) (LL.getD i []) := fun i hi => (h4 i hi).grown g2 (ownW_apart (h4 i hi) h2)
    have hu : OwnW w' base u R := h6.grown g2 (ownW_apart h6 h2)
    refine h v' w' ⟨us ++ [u], by simp [h1], by simpa using g1, fun y hy => (List.mem_append.1 hy).elim (h3 y) (fun e => by simp at e; subst e; exact h6.oneCell), fun i hi => ?_, fun i j hij hj => ?_, ownW_none w' base, fun i hi => ?_⟩ hb
    · rcases Nat.lt_or_ge i LL.length with hlt | hge
      · rw [getD_snoc_lt (by omega), getD_snoc_lt hlt]
        exact hap i hlt
      · have : i = LL.length := by simp at hi; omega
        rw [getD_snoc_eq (by omega), getD_snoc_eq this]
        exact hu
    · rw [List.length_append, List.length_singleton] at hj
      rw [getD_snoc_lt (by omega)]
      rcases Nat.lt_or_ge j LL.length with hlt | hge
      · rw [getD_snoc_lt (by omega)]
        exact h5 i j hij hlt
      · rw [getD_snoc_eq (by omega)]
        exact h7 i (by omega)
    · cases hv : ((us ++ [u]).getD i undef).ownBlock with
      | none => exact .inl rfl
      | some k => exact .inr (by simp [Value.ownBlock])
end Go.Proofs.YtgjehlegcmeeoaaGreatDoor

/- A row of texts of the call's own: read, kept, grown by one, set at one place. -/
namespace Go.Proofs.YtgjehlegcmeeoaaGreatDoor
set_option maxRecDepth 100000
open Go.ChangeShapes Go.WideShapes Go.ChangeAt Go.RowKit

def rowT (L : List (List Nat)) : List Value := L.map fun l => Value.string (str l)
def OwnT (w : World) (base : Nat) (v : Value) (L : List (List Nat)) : Prop := w.ownsRow base 9 1 v L.length (rowT L)
theorem ownT_none (w : World) (base : Nat) : OwnT w base (.slice none 0 0) [] := World.ownsRow_nil w base _ 1
theorem OwnT.under {w w' : World} {base : Nat} {v : Value} {L : List (List Nat)} (h : OwnT w base v L) (hb : Below w.heap.size w w') : OwnT w' base v L :=
  h.kept (row := none) ⟨hb.os, hb.tape, hb.output, hb.size, fun i hi _ => hb.block i hi⟩ (by cases hv : v.ownBlock <;> simp)
theorem OwnT.alloc {w : World} {base : Nat} {v : Value} {L : List (List Nat)} (h : OwnT w base v L) (o : Obj) : OwnT (w.alloc o) base v L := World.ownsRow.alloc h o
theorem OwnT.lt {w : World} {base : Nat} {v : Value} {L : List (List Nat)} (h : OwnT w base v L) : Between base w.heap.size v := fun k hk => World.ownsRow.lt h k hk
theorem OwnT.parts {w : World} {base : Nat} {v : Value} {L : List (List Nat)} (h : OwnT w base v L) (h0 : L ≠ []) : ∃ g c, v = .slice (some ⟨g, 0, none⟩) L.length c ∧ base ≤ g ∧ g < w.heap.size := by
  have hb := h.lt
  rcases h.2 with ⟨rfl, h1⟩ | ⟨g, cap, cur, rfl, _⟩
  · exact absurd (List.length_eq_zero_iff.1 h1) h0
  · exact ⟨g, cap, rfl, hb g rfl⟩
theorem OwnT.len {w : World} {base n c : Nat} {A : Option Addr} {L : List (List Nat)} (h : OwnT w base (.slice A n c) L) : n = L.length := by
  rcases h.2 with ⟨e, h0⟩ | ⟨g', cap, cur, e, _⟩
  · injection e with _ e _
    omega
  · injection e with _ e _
theorem OwnT.cell {w : World} {base g n c : Nat} {L : List (List Nat)} (h : OwnT w base (.slice (some ⟨g, 0, none⟩) n c) L) {k : Nat} (hk : k < L.length) : w.cell? ⟨g, k, none⟩ = some (.string (str (L.getD k []))) := by
  obtain rfl := h.len
  rcases h.2 with ⟨e, h0⟩ | ⟨g', cap, cur, e, _⟩
  · cases e
  · rw [World.ownsRow.cellAt h k (by omega)]
    unfold rowT
    rw [List.getElem?_map, List.getD_eq_getElem?_getD, List.getElem?_eq_getElem hk]
    rfl
theorem rowT_set (L : List (List Nat)) (k : Nat) (l : List Nat) : rowT (L.set k l) = (rowT L).set k (.string (str l)) := by
  unfold rowT
  exact List.map_set
/-- One text is put in another's place. -/
theorem OwnT.set {w : World} {base g n c : Nat} {L : List (List Nat)} (h : OwnT w base (.slice (some ⟨g, 0, none⟩) n c) L) (k : Nat) (l : List Nat) :
    OwnT (w.setCell ⟨g, k, none⟩ (.string (str l))) base (.slice (some ⟨g, 0, none⟩) n c) (L.set k l) := by
  obtain rfl := h.len
  unfold OwnT at *
  rw [List.length_set, rowT_set]
  exact (World.ownsRow.stored h k _).1
theorem OwnT.frozen {w : World} {base g n c : Nat} {L : List (List Nat)} (h : OwnT w base (.slice (some ⟨g, 0, none⟩) n c) L) (k : Nat) : w.frozen? ⟨g, k, none⟩ = false := by
  obtain rfl := h.len
  exact World.ownsRow.frozenAt h k
theorem infoText : (Tryz.prog.info? 9).map (fun i => (i.zero, i.size, i.bytes)) = some (some (.string ⟨#[]⟩), 1, 16) := by kernel_rfl
/-- A row of one text, newly made. -/
theorem ownT_one (w : World) (base : Nat) (l : List Nat) (hb : base ≤ w.heap.size) : OwnT (w.alloc (.cells #[.string (str l)] 9)) base (.slice (some ⟨w.heap.size, 0, none⟩) 1 1) [l] :=
  ⟨rfl, .inr ⟨w.heap.size, 1, #[.string (str l)], rfl, hb, heap_alloc_new w _, Nat.le_refl _, by unfold maxLen; omega, rfl, rfl⟩⟩
def GrewT (base : Nat) (v : Value) (L : List (List Nat)) (w : World) (v' : Value) (w' : World) : Prop := OwnT w' base v' L ∧ w.grownBy w' v.ownBlock ∧ Below base w w'
theorem wpList_append_text {w : World} {ops : Array Oper} {rest : List Oper} {o : Oper} {a : Act} {Q : Exit → Act → World → Prop} (hgd : o.guard = none) (s x : Operand)
    (ho : o.op = .call { callee := .builtin .append, args := #[s, x], argTypes := #[27, 27] }) (base : Nat) (v : Value) (L : List (List Nat)) (l : List Nat) (hs : a.eval s = v) (hown : OwnT w base v L)
    (hx : a.eval x = .slice (some ⟨w.heap.size, 0, none⟩) 1 1) (m : Nat × Nat)
    (hlen : L.length ≤ 1099511627776) (hbase : base ≤ w.heap.size) (r : List (List Nat)) (hr : L ++ [l] = r)
    (h : ∀ v' w', GrewT base v r (w.alloc (.cells #[.string (str l)] 9 m)) v' w' → wpList Tryz.prog ops Q rest (a.put o.dst v') w') : wpList Tryz.prog ops Q (o :: rest) a (w.alloc (.cells #[.string (str l)] 9 m)) := by
  subst hr
  obtain ⟨i, hi, hz0, hz1, hz2⟩ := info_parts infoText
  refine wpList_append_own _ hgd s x 27 ho base 9 i (.string ⟨#[]⟩) 1 16 Tryz.underlying27 hi hz0 hz1 hz2 rfl (by decide) v L.length (rowT L) hs (World.ownsRow.alloc hown _) ⟨w.heap.size, 0, none⟩ 1 1 [.string (str l)] hx rfl ?_ ?_ (by unfold maxLen; omega) (by omega) (by simp; omega) ?_
  · intro j u hu
    have hj : j = 0 := by
      rcases j with _ | j
      · rfl
      · simp at hu
    subst hj
    simp at hu
    subst hu
    rw [add_plain]
    have e1 : (w.alloc (.cells #[.string (str l)] 9 m)).heap[w.heap.size]? = some (.cells #[.string (str l)] 9 m) := heap_alloc_new w _
    unfold World.cell?
    rw [e1]
    rfl
  · intro u hu
    simp at hu
    subst hu
    rfl
  · intro v' w' h1 h2 _
    refine h v' w' ⟨?_, h2, (Below.refl _ _).grown h2 (by simp; omega) fun k hk => (World.ownsRow.lt hown k hk).1⟩
    unfold OwnT
    rw [List.length_append, show rowT (L ++ [l]) = rowT L ++ [.string (str l)] from List.map_append]
    exact h1
end Go.Proofs.YtgjehlegcmeeoaaGreatDoor

/- The document's own answer for names. -/
namespace Go.Proofs.YtgjehlegcmeeoaaGreatDoor
set_option maxRecDepth 100000
open Go.ChangeShapes Go.WideShapes Go.ChangeAt Go.RowKit

set_option maxHeartbeats 2000000 in
theorem refok_any (l : List Nat) (w : World) (hl : ∀ c ∈ l, c < 256) (hm : l.length ≤ 1099511627776) :
    Calls Tryz.prog 76 #[.string (str l)] w fun e w' => e = .returned (.bool (Nm.ok l)) ∧ w = w' := by
  have hsz := str_size l
  obtain ⟨n, hn⟩ : ∃ n, l.length = n := ⟨_, rfl⟩
  rw [hn] at hm hsz
  have HN := Lib.hid hn
  have HG := Lib.hid (fun k h => str_get hl k h)
  clear hn hl
  obtain ⟨s, hs⟩ : ∃ s, str l = s := ⟨_, rfl⟩
  rw [hs] at hsz HG ⊢
  clear hs
  go_enter Tryz.func76, Tryz.ntmps76
  go_wp2
  go_loop [3] (fun i => ∃ k : Nat, k ≤ n ∧ i = .int .i64 k ∧ Hid (∀ j, j < k → Nm.okc (l.getD j 0) = true)) (fun i => n - (intOf i).toNat)
  case atStart => exact ⟨0, by omega, rfl, Lib.hid (by omega)⟩
  case round =>
    obtain ⟨k, hk, rfl, hall⟩ := hrel
    by_cases hlt : k < n
    · have hlt' : (k : Int) < (n : Int) := by omega
      have hks : k < s.size := by rw [hsz]; exact hlt
      obtain ⟨x, hx, HX⟩ : ∃ x, (s[k]'hks).toNat = x ∧ Hid (l.getD k 0 = x) := ⟨_, rfl, Lib.hid (HG.out k hks).symm⟩
      have hnext : Nm.okc x = true → ∀ j, j < k + 1 → Nm.okc (l.getD j 0) = true := fun h j hj => by
        rcases Nat.lt_or_ge j k with h1 | h1
        · exact hall.out j h1
        · rw [show j = k from by omega, HX.out]; exact h
      have HNX := Lib.hid hnext
      clear hnext
      rcases Nm.okc_split x with ⟨ho, hc⟩ | ⟨ho, hc⟩
      · have HO := Lib.hid ho
        clear ho
        have hc' : ((97 : Int) ≤ (x : Int) ∧ (x : Int) ≤ 122) ∨ ((x : Int) < 97 ∧ (48 : Int) ≤ (x : Int) ∧ (x : Int) ≤ 57) ∨ x = 46 ∨ x = 45 ∨ x = 95 := by omega
        clear hc
        rcases hc' with ⟨c1, c2⟩ | ⟨c1, c2, c3⟩ | rfl | rfl | rfl
        all_goals
          go_wp2
          go_round
          case rel => exact ⟨k + 1, by omega, by go_num, Lib.hid (HNX.out HO.out)⟩
          case measure => simp [intOf]; omega
      · have hw := Nm.ok_not (l := l) (k := k) (by rw [HN.out]; exact hlt) (by rw [HX.out]; exact ho)
        have HW := Lib.hid hw
        clear ho hw
        have hc' : (x : Int) < 45 ∨ x = 47 ∨ ((57 : Int) < (x : Int) ∧ (x : Int) < 95) ∨ x = 96 ∨ (122 : Int) < (x : Int) := by omega
        clear hc
        rcases hc' with c1 | rfl | ⟨c1, c2⟩ | rfl | c1
        all_goals
          go_wp2
          all_goals first
          | (go_ret; exact ⟨by rw [HW.out]; rfl, rfl⟩)
          | (exfalso; rename_i h; simp at h; omega)
    · obtain rfl : k = n := by omega
      have HW := Lib.hid (Nm.ok_of (Nm.all_of fun j hj => hall.out j (by rw [HN.out] at hj; exact hj)))
      have hnc : (k : Int) < 1 ∨ ((1 : Int) ≤ (k : Int) ∧ (k : Int) ≤ 16) ∨ ((1 : Int) ≤ (k : Int) ∧ (16 : Int) < (k : Int)) := by omega
      rcases hnc with c1 | ⟨c1, c2⟩ | ⟨c1, c2⟩
      · go_wp2
        go_ret
        exact ⟨by rw [HW.out, HN.out, decide_eq_false (show ¬ 1 ≤ k by omega)]; rfl, rfl⟩
      · go_wp2
        go_ret
        exact ⟨by rw [HW.out, HN.out, decide_eq_true (show 1 ≤ k by omega), decide_eq_true (show k ≤ 16 by omega)]; rfl, rfl⟩
      · go_wp2
        go_ret
        refine ⟨?_, rfl⟩
        rw [HW.out, HN.out, decide_eq_true (show 1 ≤ k by omega), decide_eq_false (show ¬ k ≤ 16 by omega)]
        show Ending.returned (.bool (decide ((k : Int) ≤ 16))) = _
        rw [decide_eq_false (show ¬ (k : Int) ≤ 16 by omega)]
        rfl

def szOf : Value → Nat
  | .string b => b.size
  | _ => 0
theorem dec_less (m : Nat) (l : List Nat) (h : ¬ m = 0) : 2 * (m / 10) + (1 - szOf (.string (str ((48 + m % 10) :: l)))) < 2 * m + (1 - szOf (.string (str l))) := by
  simp only [szOf, str_size, List.length_cons]
  omega
set_option maxRecDepth 100000 in
set_option maxHeartbeats 2000000 in
theorem refdec_any (n : Nat) (w : World) (hn : n < 1000000000000000000) :
    Calls Tryz.prog 11 #[.int .i64 n] w fun e w' => e = .returned (.string (str (Nm.dec n))) ∧ Below w.heap.size w w' := by
  have HN := Lib.hid hn
  clear hn
  go_enter Tryz.func11, Tryz.ntmps11
  go_wp2
  go_loopw [0, 3] (fun i s wr => ∃ (m : Nat) (l : List Nat), m ≤ n ∧ i = .int .i64 m ∧ s = .string (str l) ∧ Hid (Nm.Dt n m l) ∧ Below w.heap.size w wr) (fun i s _ => 2 * (intOf i).toNat + (1 - szOf s))
  case atStart => exact ⟨n, [], Nat.le_refl _, rfl, rfl, Lib.hid (Nm.Dt.start n), Below.refl _ _⟩
  case round =>
    obtain ⟨m, l, hm, rfl, rfl, ht, hb⟩ := hrel
    have hadd := str_add
    have hlen := ht.out.len18 HN.out
    by_cases h0 : m = 0
    · rcases hl : l with _ | ⟨c, l'⟩
      · subst h0
        have hne : (str l).toList.isEmpty = true := by rw [hl]; exact str_empty
        obtain ⟨T, hT⟩ : ∃ T, T = [48] := ⟨_, rfl⟩
        have hb1 : Bytes _ _ T := hT ▸ bytes_one wr 48 48 5 (0, 0) rfl (by decide)
        have hsz := str_fits (l := T) (m := l) (by rw [hT, hl, List.length_singleton, List.length_nil]; omega)
        have hT2 : Hid (Nm.Dt n 0 (T ++ l)) := Lib.hid (by rw [hT]; exact ht.out.next (.inr hl))
        have hT3 : Hid (1 - szOf (.string (str (T ++ l))) < 1 - szOf (.string (str l))) := Lib.hid (by rw [hT, hl]; simp [szOf, str_size])
        clear hT
        rw [← hl]
        clear hl
        go_wp2_with fail
        rw [run_text hb1]
        go_wp2
        go_roundw
        case rel => exact ⟨0, T ++ l, by omega, by go_num, rfl, hT2, hb.alloc hb.size _⟩
        case measure => simpa [intOf] using hT3.out
      · subst h0
        subst hl
        have hne := str_some c l'
        go_wp2
        go_ret
        exact ⟨by rw [ht.out.done (by simp)]; rfl, hb⟩
    · have hm0 : (0 : Int) < (m : Int) := by omega
      have hd1 : m / 10 ≤ n := by omega
      have hd2 : 2 * (m / 10) < 2 * m := by omega
      have HQ := Lib.hid (tenth hm HN.out)
      have hb1 := bytes_one wr (48 + (m : Int) % 10) (48 + m % 10) 5 (0, 0) (by omega) (by omega)
      have hsz := str_fits (l := [48 + m % 10]) (m := l) (by rw [List.length_singleton]; omega)
      have HT := Lib.hid (ht.out.next (.inl h0))
      have HM : Hid (2 * (m / 10) + (1 - szOf (.string (str ((48 + m % 10) :: l)))) < 2 * m + (1 - szOf (.string (str l)))) := Lib.hid (dec_less m l h0)
      clear h0 hlen hd2
      go_wp2_with fail
      rw [run_text hb1]
      go_wp2
      go_roundw
      case rel => exact ⟨m / 10, (48 + m % 10) :: l, hd1, by rw [HQ.out], rfl, HT, hb.alloc hb.size _⟩
      case measure => rw [HQ.out]; exact HM.out

theorem run_low2 {P : Program} (w : World) (ts : Array TypeId) (t : TypeId) (x y n : Int) (h : min x y = n) : (Builtin.min_ ts t #[.int .i64 x, .int .i64 y]).run P w = .ok (.int .i64 n) w := by
  have e : (if y < x then y else x) = n := by
    subst h
    simp only [Int.min_def]
    split <;> split <;> omega
  simp [Builtin.min_, Builtin.min2, e]
theorem run_top2 {P : Program} (w : World) (ts : Array TypeId) (t : TypeId) (x y n : Int) (h : max x y = n) : (Builtin.max_ ts t #[.int .i64 x, .int .i64 y]).run P w = .ok (.int .i64 n) w := by
  have e : (if y > x then y else x) = n := by
    subst h
    simp only [Int.max_def]
    split <;> split <;> omega
  simp [Builtin.max_, Builtin.max2, e]
set_option maxHeartbeats 2000000 in
theorem refnumber_any (l : List Nat) (D : Nat) (w : World) (hl : ∀ c ∈ l, c < 256) (hm : l.length ≤ 1099511627776) (hD : D ≤ 9) :
    Calls Tryz.prog 135 #[.string (str l), .int .i64 D] w fun e w' => e = .returned (.tuple #[.int .i64 (Nm.num l D : Nat), .bool (Nm.isNum l D)]) ∧ w = w' := by
  have hsz := str_size l
  obtain ⟨n, hn⟩ : ∃ n, l.length = n := ⟨_, rfl⟩
  rw [hn] at hm hsz
  have HN := Lib.hid hn
  have HL := Lib.hid hl
  have HG := Lib.hid (fun k h => str_get hl k h)
  clear hn hl
  go_enter Tryz.func135, Tryz.ntmps135
  go_wp2
  go_loop [6, 7] (fun t i => ∃ k : Nat, k ≤ n ∧ k ≤ D ∧ i = .int .i64 k ∧ t = .int .i64 ((Nm.val (l.take k) : Nat) : Int) ∧ Hid (∀ j, j < k → Nm.dig (l.getD j 0) = true)) (fun _ i => n - (intOf i).toNat)
  case atStart => exact ⟨0, by omega, by omega, rfl, rfl, Lib.hid (by omega)⟩
  case round =>
    obtain ⟨k, hk, hkD, rfl, rfl, hall⟩ := hrel
    obtain ⟨V, hV⟩ : ∃ V, Nm.val (l.take k) = V := ⟨_, rfl⟩
    have HV := Lib.hid hV
    rw [hV]
    clear hV
    by_cases hlt : k < n
    · have hlt' : (k : Int) < (n : Int) := by omega
      have hks : k < (str l).size := by rw [hsz]; exact hlt
      obtain ⟨x, hx, HX⟩ : ∃ x, ((str l)[k]'hks).toNat = x ∧ Hid (l.getD k 0 = x) := ⟨_, rfl, Lib.hid (HG.out k hks).symm⟩
      have HB : Hid (Nm.dig x = false → Nm.isNum l D = false) := Lib.hid fun h => Nm.isNum_bad (k := k) D (by rw [HN.out]; exact hlt) (by rw [HX.out]; exact h)
      have hc : (x : Int) < 48 ∨ (57 : Int) < (x : Int) ∨ ((48 : Int) ≤ (x : Int) ∧ (x : Int) ≤ 57 ∧ (D : Int) ≤ (k : Int)) ∨ ((48 : Int) ≤ (x : Int) ∧ (x : Int) ≤ 57 ∧ (k : Int) < (D : Int)) := by omega
      rcases hc with c1 | c1 | ⟨c1, c2, c3⟩ | ⟨c1, c2, c3⟩
      · have HZ := Lib.hid (HB.out (by simp [Nm.dig]; omega))
        go_wp2
        go_ret2
        exact ⟨by rw [Nm.num, HZ.out]; rfl, rfl⟩
      · have HZ := Lib.hid (HB.out (by simp [Nm.dig]; omega))
        go_wp2
        go_ret2
        exact ⟨by rw [Nm.num, HZ.out]; rfl, rfl⟩
      · have HZ := Lib.hid (Nm.isNum_long (l := l) (d := D) (by rw [HN.out]; omega))
        go_wp2
        go_ret2
        exact ⟨by rw [Nm.num, HZ.out]; rfl, rfl⟩
      · have HX2 : Hid (∀ j, j < k + 1 → Nm.dig (l.getD j 0) = true) := Lib.hid fun j hj => by
          rcases Nat.lt_or_ge j k with h1 | h1
          · exact hall.out j h1
          · rw [show j = k from by omega, HX.out]
            simp [Nm.dig]
            omega
        have HV2 : Hid (Nm.val (l.take (k + 1)) = 10 * V + (x - 48)) := Lib.hid (by rw [Nm.val_take (by rw [HN.out]; exact hlt), HV.out, HX.out])
        have hV9 : V < 100000000 := by
          have h1 := Nm.val_lt (l := l) k (by rw [HN.out]; omega) fun j hj => Nm.dig_le (hall.out j hj)
          rw [HV.out] at h1
          exact Nat.lt_of_lt_of_le h1 (Nat.pow_le_pow_right (by omega) (show k ≤ 8 by omega))
        clear HB
        go_wp2
        go_round
        case rel => exact ⟨k + 1, by omega, by omega, by go_num, by rw [HV2.out]; go_num, HX2⟩
        case measure => simp [intOf]; omega
    · obtain rfl : k = n := by omega
      have hcs : k = 0 ∨ l = [48] ∨ (2 ≤ k ∧ l.getD 0 0 = 48) ∨ (1 ≤ k ∧ l.getD 0 0 ≠ 48) := by
        by_cases h0 : k = 0
        · exact .inl h0
        · by_cases h1 : l.getD 0 0 = 48
          · by_cases h2 : k = 1
            · refine .inr (.inl ?_)
              have := HN.out
              rw [h2] at this
              obtain ⟨a, rfl⟩ := List.length_eq_one_iff.1 this
              simpa using h1
            · exact .inr (.inr (.inl ⟨by omega, h1⟩))
          · exact .inr (.inr (.inr ⟨by omega, h1⟩))
      have HVF : Hid (Nm.val l = V) := Lib.hid (by rw [← HV.out, ← HN.out, List.take_length])
      rcases hcs with h | h | ⟨h1, h2⟩ | ⟨h1, h2⟩
      · have HZ := Lib.hid (Nm.isNum_nil D (HN.out.trans h))
        have he : (str l).toList = [] := by rw [List.length_eq_zero_iff.1 (HN.out.trans h), str_toList]; rfl
        clear h
        go_wp2
        go_ret2
        exact ⟨by rw [Nm.num, HZ.out]; rfl, rfl⟩
      · have hk1 : 1 ≤ k := by rw [← HN.out, h]; exact Nat.le_refl _
        have HZ := Lib.hid (Nm.isNum_yes HN.out hkD hk1 hall.out (.inl h))
        have he : (str l).toList = [48] := by rw [h, str_toList]; rfl
        clear h
        go_wp2
        go_ret2
        exact ⟨by rw [Nm.num, HZ.out, HVF.out]; rfl, rfl⟩
      all_goals
        have hks : 0 < (str l).size := by rw [hsz]; omega
        have hne : (str l).toList.isEmpty = false := by
          rw [str_toList]
          cases l with
          | nil => rw [HN.out.symm] at h1; simp at h1
          | cons c l => rfl
        obtain ⟨x, hx, HX⟩ : ∃ x, ((str l)[0]'hks).toNat = x ∧ Hid (l.getD 0 0 = x) := ⟨_, rfl, Lib.hid (HG.out 0 hks).symm⟩
      · have hn48 : ((str l).toList == [48]) = false := by
          rw [show ([48] : List UInt8) = (str [48]).toList from by rw [str_toList]; rfl, str_same HL.out (by simp)]
          exact decide_eq_false fun e => by rw [← HN.out, e] at h1; simp at h1
        have HZ := Lib.hid (Nm.isNum_lead D (by rw [HN.out]; exact h1) h2)
        obtain rfl : x = 48 := by rw [← HX.out]; exact h2
        clear h2
        go_wp2
        go_ret2
        exact ⟨by rw [Nm.num, HZ.out]; rfl, rfl⟩
      · have hn48 : ((str l).toList == [48]) = false := by
          rw [show ([48] : List UInt8) = (str [48]).toList from by rw [str_toList]; rfl, str_same HL.out (by simp)]
          exact decide_eq_false fun e => by rw [e] at h2; exact h2 rfl
        have HZ := Lib.hid (Nm.isNum_yes HN.out hkD h1 hall.out (.inr h2))
        have hx48 : ¬ (x : Int) = 48 := by have := HX.out; omega
        clear h2
        go_wp2
        go_ret2
        exact ⟨by rw [Nm.num, HZ.out, HVF.out]; rfl, rfl⟩
end Go.Proofs.YtgjehlegcmeeoaaGreatDoor

/- The document's own answer for temps' texts. -/
namespace Go.Proofs.YtgjehlegcmeeoaaGreatDoor
set_option maxRecDepth 100000
open Go.ChangeShapes Go.WideShapes Go.ChangeAt Go.RowKit

def OfIs (l : List Nat) (w : World) (e : Ending) (w' : World) : Prop := e = .returned (.tuple #[.int .i64 (Nm.ofWho l : Nat), .int .i64 (Nm.ofInc l : Nat), .bool (Nm.isOf l)]) ∧ Below w.heap.size w w'
theorem ofIs_not {l : List Nat} {w w' : World} (h : Nm.isOf l = false) (hb : Below w.heap.size w w') : OfIs l w (.returned (.tuple #[.int .i64 0, .int .i64 0, .bool false])) w' := by
  refine ⟨?_, hb⟩
  rw [Nm.ofWho, Nm.ofInc, h]
  rfl
end Go.Proofs.YtgjehlegcmeeoaaGreatDoor

/- A map keyed by texts, as a function from texts to values: asked, stored into. -/
namespace Go.Proofs.YtgjehlegcmeeoaaGreatDoor
set_option maxRecDepth 100000
open Go.ChangeShapes Go.WideShapes Go.ChangeAt Go.RowKit Go.ChangeMaps

def heldR (v : Value) : Option (DataW Value × List MemPlace) := some (.held v, [])
def keyL (t : List Nat) : Lit := .string (t.map UInt8.ofNat)
theorem keyed : Go.Maps.Keyed Tryz.prog 9 := Go.Maps.string_keyed Tryz.underlying9
theorem key_of (t : List Nat) (h : t.length ≤ maxLen) : keyOf Tryz.prog 9 (.string (str t)) = some (keyL t) := by
  have := WideMaps.keyOf_string_mk (P := Tryz.prog) Tryz.underlying9 (s := str t) (by rw [str_size]; exact h)
  rw [this]
  simp [keyL, str_data]
theorem keyL_inj {t u : List Nat} (ht : ∀ c ∈ t, c < 256) (hu : ∀ c ∈ u, c < 256) (h : keyL t = keyL u) : t = u := by
  unfold keyL at h
  injection h with h
  have : ((str t).toList == (str u).toList) = true := by rw [str_toList, str_toList, h]; simp
  rw [str_same ht hu] at this
  simpa using this
theorem keyL_key (t : List Nat) : WideAt.IsKeyLit (keyL t) := trivial
/-- Block b is a map of at most n entries that answers as f does. -/
def MapIs (w : World) (b n : Nat) (f : List Nat → Option Value) : Prop :=
  ∃ D, w.ownsMap Tryz.prog 9 heldR b n D ∧ ∀ t, (∀ c ∈ t, c < 256) → Maps.has D (keyL t) = (f t).isSome ∧ ∀ v z, f t = some v → D.atKey (keyL t) z = .held v
theorem mapIs_made (w : World) : MapIs (w.alloc (.map #[] 0)) w.heap.size 0 fun _ => none :=
  ⟨_, World.ownsMap_made _ _ _ _, fun t _ => ⟨rfl, fun v z h => by cases h⟩⟩
theorem MapIs.kept {w w' : World} {b n : Nat} {f : List Nat → Option Value} {row : Option Nat} (h : MapIs w b n f) (hg : w.grownBy w' row) (hne : some b ≠ row) : MapIs w' b n f := by
  obtain ⟨D, h1, h2⟩ := h
  exact ⟨D, h1.kept hg hne, h2⟩
theorem MapIs.lt {w : World} {b n : Nat} {f : List Nat → Option Value} (h : MapIs w b n f) : b < w.heap.size := by
  obtain ⟨D, h1, _⟩ := h
  exact h1.lt
theorem MapIs.map {w : World} {b n : Nat} {f : List Nat → Option Value} (h : MapIs w b n f) : ∃ es c, w.heap[b]? = some (.map es c) := by
  obtain ⟨D, ⟨es, c, hb, _⟩, _⟩ := h
  exact ⟨es, c, hb⟩
theorem MapIs.same {w w' : World} {b n : Nat} {f : List Nat → Option Value} (h : MapIs w b n f) (hb : w'.heap[b]? = w.heap[b]?) : MapIs w' b n f := by
  obtain ⟨D, ⟨es, c, h1, h3⟩, h2⟩ := h
  exact ⟨D, ⟨es, c, hb.trans h1, h3⟩, h2⟩
theorem MapIs.mono {w : World} {b n n' : Nat} {f : List Nat → Option Value} (h : MapIs w b n f) (hn : n ≤ n') : MapIs w b n' f := by
  obtain ⟨D, h1, h2⟩ := h
  exact ⟨D, h1.mono hn, h2⟩
section
variable (w : World) {ops : Array Oper} {rest : List Oper} {o : Oper} {a : Act} {Q : Exit → Act → World → Prop}
theorem wpList_look (hg : o.guard = none) (m x : Operand) (T : TypeId) (hop : o.op = Op.lookup T m x true) (e : TypeId) (ht : Tryz.prog.underlying T = some (.map 9 e)) (z : Value) (hz : (zeroValue e).run Tryz.prog w = .ok z w)
    (b n : Nat) (f : List Nat → Option Value) (hm : a.eval m = .map (some b)) (h : MapIs w b n f) (t : List Nat) (ht1 : ∀ c ∈ t, c < 256) (ht2 : t.length ≤ 1099511627776) (hx : a.eval x = .string (str t))
    (hK : wpList Tryz.prog ops Q rest (a.put o.dst (.tuple #[(f t).getD z, .bool (f t).isSome])) w) : wpList Tryz.prog ops Q (o :: rest) a w := by
  obtain ⟨D, h1, h2⟩ := h
  refine wpList_lookup_own_ok w hg m x T hop 9 e keyed ht heldR hz (.held z) [] rfl b n D hm h1 _ _ hx (key_of t (by unfold maxLen; omega)) ?_
  intro v ps hv
  obtain ⟨e1, e2⟩ := h2 t ht1
  rw [e1]
  unfold heldR at hv
  injection hv with hv
  injection hv with hv _
  rcases hf : f t with _ | u
  · rw [hf] at e1 hK
    rw [Maps.atKey_of_not_has e1] at hv
    injection hv with hv
    subst hv
    exact hK
  · rw [hf] at hK
    rw [e2 u _ hf] at hv
    injection hv with hv
    subst hv
    exact hK
theorem wpList_store (hg : o.guard = none) (m x v : Operand) (T : TypeId) (hop : o.op = Op.mapUpdate T m x v) (e : TypeId) (ht : Tryz.prog.underlying T = some (.map 9 e))
    (b n : Nat) (f : List Nat → Option Value) (hm : a.eval m = .map (some b)) (h : MapIs w b n f) (hn : n ≤ 1099511627776) (t : List Nat) (ht1 : ∀ c ∈ t, c < 256) (ht2 : t.length ≤ 1099511627776) (hx : a.eval x = .string (str t)) (val : Value) (hv : a.eval v = val)
    (hK : ∀ w', MapIs w' b (n + 1) (fun u => if u = t then some val else f u) → w.grownBy w' (some b) → (∀ k, k ≠ b → w'.heap[k]? = w.heap[k]?) → w'.heap.size = w.heap.size → wpList Tryz.prog ops Q rest (a.put o.dst undef) w') : wpList Tryz.prog ops Q (o :: rest) a w := by
  obtain ⟨D, h1, h2⟩ := h
  refine wpList_mapUpdate_in w hg m x v T hop 9 e keyed ht heldR b n D hm h1 (by unfold maxLen; omega) _ val (keyL t) hx hv (key_of t (by unfold maxLen; omega)) (.held val) [] rfl ?_
  intro w' h3 h4
  have hD := h1.isMap
  refine hK w' ⟨_, h3, fun u hu => ?_⟩ h4.grown ?_ ?_
  · by_cases hut : u = t
    · subst hut
      simp only [if_true]
      exact ⟨Maps.has_put_same hD (keyL_key u) _, fun v z hv => by injection hv with hv; rw [← hv]; exact Maps.atKey_put_same hD (keyL_key u) _ _⟩
    · have hne : keyL u ≠ keyL t := fun e => hut (keyL_inj hu ht1 e)
      dsimp only
      rw [Maps.has_put_other hne, if_neg hut]
      exact ⟨(h2 u hu).1, fun v z hv => by rw [Maps.atKey_put_other hne]; exact (h2 u hu).2 v z hv⟩
  · obtain ⟨es, c, es', c', hb, rfl⟩ := h4
    intro k hk
    exact heap_setBlock_other hb _ hk
  · obtain ⟨es, c, es', c', hb, rfl⟩ := h4
    simp [setBlock]
end
end Go.Proofs.YtgjehlegcmeeoaaGreatDoor

/- A map keyed by texts: what asking it, and storing into it, come to as they run. -/
namespace Go.Proofs.YtgjehlegcmeeoaaGreatDoor
set_option maxRecDepth 100000
open Go.ChangeShapes Go.WideShapes Go.ChangeAt Go.RowKit Go.ChangeMaps

theorem MapIs.run_look {w : World} {b n : Nat} {f : List Nat → Option Value} (h : MapIs w b n f) {T e : TypeId} (ht : Tryz.prog.underlying T = some (.map 9 e)) {z : Value} (hz : (zeroValue e).run Tryz.prog w = .ok z w) {t : List Nat} (ht1 : ∀ c ∈ t, c < 256) (ht2 : t.length ≤ 1099511627776) :
    (Instr.lookup T (.map (some b)) (.string (str t)) true).run Tryz.prog w = .ok (.tuple #[(f t).getD z, .bool (f t).isSome]) w := by
  obtain ⟨D, h1, h2⟩ := h
  obtain ⟨v, ps, hrun, hv⟩ := h1.look_ok keyed ht hz (zd := .held z) (zp := []) rfl (key_of t (by unfold maxLen; omega))
  rw [hrun]
  obtain ⟨e1, e2⟩ := h2 t ht1
  rw [e1]
  unfold heldR at hv
  injection hv with hv
  injection hv with hv _
  rcases hf : f t with _ | u
  · rw [hf] at e1
    rw [Maps.atKey_of_not_has e1] at hv
    injection hv with hv
    subst hv
    rfl
  · rw [e2 u _ hf] at hv
    injection hv with hv
    subst hv
    rfl
theorem MapIs.run_store {w : World} {b n : Nat} {f : List Nat → Option Value} (h : MapIs w b n f) {T e : TypeId} (ht : Tryz.prog.underlying T = some (.map 9 e)) (hn : n ≤ 1099511627776) {t : List Nat} (ht1 : ∀ c ∈ t, c < 256) (ht2 : t.length ≤ 1099511627776) (val : Value) :
    ∃ w', (Instr.mapUpdate T (.map (some b)) (.string (str t)) val).run Tryz.prog w = .ok () w' ∧ MapIs w' b (n + 1) (fun u => if u = t then some val else f u) ∧ w.grownBy w' (some b) ∧ (∀ k, k ≠ b → w'.heap[k]? = w.heap[k]?) ∧ w'.heap.size = w.heap.size := by
  obtain ⟨D, h1, h2⟩ := h
  obtain ⟨w', hrun, h3, h4⟩ := h1.store keyed ht (val := val) (d := .held val) (ps := []) (by unfold maxLen; omega) (key_of t (by unfold maxLen; omega)) rfl
  have hD := h1.isMap
  refine ⟨w', hrun, ⟨_, h3, fun u hu => ?_⟩, h4.grown, ?_, ?_⟩
  · by_cases hut : u = t
    · subst hut
      simp only [if_true]
      exact ⟨Maps.has_put_same hD (keyL_key u) _, fun v z hv => by injection hv with hv; rw [← hv]; exact Maps.atKey_put_same hD (keyL_key u) _ _⟩
    · have hne : keyL u ≠ keyL t := fun e => hut (keyL_inj hu ht1 e)
      dsimp only
      rw [Maps.has_put_other hne, if_neg hut]
      exact ⟨(h2 u hu).1, fun v z hv => by rw [Maps.atKey_put_other hne]; exact (h2 u hu).2 v z hv⟩
  · obtain ⟨es, c, es', c', hb, rfl⟩ := h4
    intro k hk
    exact heap_setBlock_other hb _ hk
  · obtain ⟨es, c, es', c', hb, rfl⟩ := h4
    simp [setBlock]
end Go.Proofs.YtgjehlegcmeeoaaGreatDoor
