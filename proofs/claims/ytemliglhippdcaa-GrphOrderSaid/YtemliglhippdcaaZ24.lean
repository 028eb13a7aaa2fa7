/- Package mani's own reader: signs, names of files, what goes through names. -/
import Derived.Test.YtemliglhippdcaaZ04
import Derived.Test.YtemliglhippdcaaShelf
import Derived.Test.YtemliglhippdcaaZ14
import Derived.Test.YtemliglhippdcaaZ15
import Derived.Test.YtemliglhippdcaaZ03
namespace Go.Proofs.Ytemliglhippdcaa
set_option maxRecDepth 100000
open Go.ChangeShapes Go.WideShapes Go.ChangeAt Go.RowKit Go.Shelf

theorem sign_is : ∀ c, c < 256 → decide (0 ≤ Lib.indexByte [58, 124, 61, 59, 44] (UInt8.ofNat c)) = Ln.sign c := by decide +kernel
end Go.Proofs.Ytemliglhippdcaa

/- Package mani's own reader: the words of an action, up to a comma. -/
namespace Go.Proofs.Ytemliglhippdcaa
set_option maxRecDepth 100000
open Go.ChangeShapes Go.WideShapes Go.ChangeAt Go.RowKit Go.Shelf

/-- Where the first comma stands, or the end. -/
def Mo.cp : List Ln.W → Nat
  | [] => 0
  | w :: r => if Mn.isW [44] w then 0 else Mo.cp r + 1
theorem Mo.cp_le : ∀ (R : List Ln.W), Mo.cp R ≤ R.length
  | [] => Nat.le_refl _
  | w :: r => by
    unfold Mo.cp
    split
    · exact Nat.zero_le _
    · have := Mo.cp_le r
      simp
      omega
theorem Mo.cut_is : ∀ (R : List Ln.W), Mo.cut R = (R.take (Mo.cp R), decide (Mo.cp R < R.length), R.drop (Mo.cp R + 1))
  | [] => rfl
  | w :: r => by
    unfold Mo.cut Mo.cp
    split
    · simp
    · rw [Mo.cut_is r]
      simp
theorem Mo.cp_at : ∀ (R : List Ln.W) (k : Nat), k ≤ Mo.cp R → k < R.length → (Mn.isW [44] (R.getD k Mo.word0) = true → Mo.cp R = k) ∧ (Mn.isW [44] (R.getD k Mo.word0) = false → k + 1 ≤ Mo.cp R)
  | [], k, _, h => absurd h (by simp)
  | w :: r, 0, _, _ => by
    unfold Mo.cp
    refine ⟨fun h => ?_, fun h => ?_⟩
    · rw [if_pos (by simpa using h)]
    · rw [if_neg (by intro e; rw [List.getD_cons_zero, e] at h; cases h)]
      omega
  | w :: r, k + 1, h1, h2 => by
    have hn : ¬ Mn.isW [44] w = true := fun e => by
      unfold Mo.cp at h1
      rw [if_pos e] at h1
      omega
    have hc : Mo.cp (w :: r) = Mo.cp r + 1 := by
      conv => lhs; unfold Mo.cp
      rw [if_neg hn]
    rw [hc] at h1 ⊢
    have := Mo.cp_at r k (by omega) (by simp at h2; omega)
    rw [List.getD_cons_succ]
    exact ⟨fun h => by rw [this.1 h], fun h => by have := this.2 h; omega⟩
end Go.Proofs.Ytemliglhippdcaa

/- Package mani's own reader: the function that goes through names. -/
namespace Go.Proofs.Ytemliglhippdcaa
set_option maxRecDepth 100000
open Go.ChangeShapes Go.WideShapes Go.ChangeAt Go.RowKit Go.Shelf

attribute [local go_sem] Oper.semAt_some

/-- The reader behind so many names. -/
def Mo.st (stp : Ln.W → Mo.S → Mo.S) (ws : List Ln.W) (s : Mo.S) : Nat → Mo.S
  | 0 => s
  | k + 1 => stp (ws.getD k Mo.word0) { Mo.st stp ws s k with rest := ws.drop (k + 1) }
/-- A step that leaves what is left of the line alone, and no fault behind. -/
def Mo.Step (stp : Ln.W → Mo.S → Mo.S) : Prop := ∀ x s, (stp x s).rest = s.rest
theorem Mo.st_rest {stp : Ln.W → Mo.S → Mo.S} (h : Mo.Step stp) (s : Mo.S) : ∀ k, (Mo.st stp s.rest s k).rest = s.rest.drop k
  | 0 => rfl
  | k + 1 => by rw [Mo.st, h]
theorem mdrop_cons {ws r : List Ln.W} {x : Ln.W} {k : Nat} (h : ws.drop k = x :: r) : ws.getD k Mo.word0 = x ∧ ws.drop (k + 1) = r := by
  have hk : k < ws.length := by
    rcases Nat.lt_or_ge k ws.length with hk | hk
    · exact hk
    · rw [List.drop_eq_nil_of_le hk] at h
      cases h
  rw [List.drop_eq_getElem_cons hk] at h
  injection h with h1 h2
  exact ⟨by rw [List.getD_eq_getElem?_getD, List.getElem?_eq_getElem hk]; exact h1, h2⟩
/-- Behind k names the rest is still to be gone through. -/
def Mo.On (stp : Ln.W → Mo.S → Mo.S) (most : Nat) (may : List Nat → Bool) (s : Mo.S) (k : Nat) : Prop := Mo.run stp most may s.rest 0 s = Mo.run stp most may (s.rest.drop k) k (Mo.st stp s.rest s k) ∧ k ≤ (Mo.run stp most may s.rest 0 s).1
theorem Mo.on_zero (stp : Ln.W → Mo.S → Mo.S) (most : Nat) (may : List Nat → Bool) (s : Mo.S) : Mo.On stp most may s 0 := ⟨rfl, Nat.zero_le _⟩
theorem Mo.run_ge (stp : Ln.W → Mo.S → Mo.S) (most : Nat) (may : List Nat → Bool) : ∀ (l : List Ln.W) (n : Nat) (s : Mo.S), n ≤ (Mo.run stp most may l n s).1
  | [], n, s => Nat.le_refl _
  | w :: r, n, s => by
    unfold Mo.run
    split
    · exact Nat.le_refl _
    · split
      · exact Nat.le_refl _
      · split
        · exact Nat.le_refl _
        · exact Nat.le_trans (Nat.le_succ _) (Mo.run_ge stp most may r (n + 1) _)
section
variable {stp : Ln.W → Mo.S → Mo.S} {most k : Nat} {may : List Nat → Bool} {s : Mo.S} {x : Ln.W} {r : List Ln.W}
theorem Mo.On.nil (h : Mo.On stp most may s k) (hd : s.rest.drop k = []) : Mo.run stp most may s.rest 0 s = (k, Mo.st stp s.rest s k) := by rw [h.1, hd]; rfl
theorem Mo.On.sign (h : Mo.On stp most may s k) (hd : s.rest.drop k = x :: r) (hx : Mn.aSign x = true) : Mo.run stp most may s.rest 0 s = (k, Mo.st stp s.rest s k) := by rw [h.1, hd, Mo.run, if_pos hx]
theorem Mo.On.name (h : Mo.On stp most may s k) (hd : s.rest.drop k = x :: r) (hx : Mn.aSign x = false) (hn : (x.q || !may x.text) = true) : Mo.run stp most may s.rest 0 s = (k, Mo.fail 5 x (Mo.st stp s.rest s k)) := by
  rw [h.1, hd, Mo.run, if_neg (by rw [hx]; decide), if_pos hn]
theorem Mo.On.many (h : Mo.On stp most may s k) (hd : s.rest.drop k = x :: r) (hx : Mn.aSign x = false) (hn : (x.q || !may x.text) = false) (hm : k = most) : Mo.run stp most may s.rest 0 s = (k, Mo.fail 7 x (Mo.st stp s.rest s k)) := by
  rw [h.1, hd, Mo.run, if_neg (by rw [hx]; decide), if_neg (by rw [hn]; decide), if_pos hm]
theorem Mo.On.next (h : Mo.On stp most may s k) (hd : s.rest.drop k = x :: r) (hx : Mn.aSign x = false) (hn : (x.q || !may x.text) = false) (hm : k ≠ most) : Mo.On stp most may s (k + 1) ∧ k < (Mo.run stp most may s.rest 0 s).1 := by
  have e : Mo.run stp most may s.rest 0 s = Mo.run stp most may (s.rest.drop (k + 1)) (k + 1) (Mo.st stp s.rest s (k + 1)) := by
    rw [h.1, hd, Mo.run, if_neg (by rw [hx]; decide), if_neg (by rw [hn]; decide), if_neg hm]
    rw [Mo.st, (mdrop_cons hd).1, (mdrop_cons hd).2]
  have := Mo.run_ge stp most may (s.rest.drop (k + 1)) (k + 1) (Mo.st stp s.rest s (k + 1))
  rw [← e] at this
  exact ⟨⟨e, this⟩, this⟩
end
/-- What is asked of a name: a function of the program's own. -/
def MayIs (F : Nat) (may : List Nat → Bool) : Prop := (∀ args w, (callFunc F args).run Try.prog w = .ok (.enter F args) w) ∧ ∀ (t : List Nat) (w : World), (∀ c ∈ t, c < 256) → t.length ≤ 1073741824 → Calls Try.prog F #[.string (str t)] w fun e w' => e = .returned (.bool (may t)) ∧ w = w'
def wordEnc (x : Ln.W) : Array Value := #[.agg (cellsW x).toArray]
end Go.Proofs.Ytemliglhippdcaa

/- Package mani's own reader: what a word stands for, and a line with what is let put in. -/
namespace Go.Proofs.Ytemliglhippdcaa
set_option maxRecDepth 100000
open Go.ChangeShapes Go.WideShapes Go.ChangeAt Go.RowKit Go.Shelf

theorem cut_no {t : List Nat} (h : ∀ c ∈ t, c < 256) (h2 : t.headD 0 ≠ 36) : Lib.hasPrefix (t.map UInt8.ofNat) [36] = false ∧ Lib.trimPrefix (t.map UInt8.ofNat) [36] = t.map UInt8.ofNat := by
  have hp : Lib.hasPrefix (t.map UInt8.ofNat) [36] = false := by
    unfold Lib.hasPrefix
    rcases t with _ | ⟨c, r⟩
    · rfl
    · have hc := h c (by simp)
      simp only [List.headD_cons] at h2
      simp only [List.map_cons, List.isPrefixOf, Bool.and_true]
      simp only [beq_eq_false_iff_ne, ne_eq]
      intro e
      have := congrArg UInt8.toNat e
      simp at this
      omega
  exact ⟨hp, by unfold Lib.trimPrefix; rw [hp]; rfl⟩
theorem cut_yes {r : List Nat} : Lib.hasPrefix ((36 :: r).map UInt8.ofNat) [36] = true ∧ Lib.trimPrefix ((36 :: r).map UInt8.ofNat) [36] = r.map UInt8.ofNat := by
  have hp : Lib.hasPrefix ((36 :: r).map UInt8.ofNat) [36] = true := by
    unfold Lib.hasPrefix
    simp [List.isPrefixOf]
  exact ⟨hp, by unfold Lib.trimPrefix; rw [hp]; rfl⟩
theorem stands_self {L : Mn.Lets} {x : Ln.W} (h : x.q = true ∨ x.text.headD 0 ≠ 36) : Mo.stands L x = some [x] := by
  unfold Mo.stands
  rw [if_pos]
  rcases h with h | h
  · rw [h]; rfl
  · rw [Bool.or_eq_true]
    exact .inr (decide_eq_true h)
theorem stands_let {L : Mn.Lets} {r : List Nat} {l c : Nat} : Mo.stands L ⟨36 :: r, l, c, false⟩ = Mn.find r L := by
  unfold Mo.stands
  rw [if_neg (by simp)]
  rfl
/-- What is told of what a word stands for. -/
def StandsIs (hi : Nat) (w : World) (e : Ending) (w' : World) : Option (List Ln.W) → Prop
  | none => e = .returned (.tuple #[.slice none 0 0, .bool false]) ∧ Below w.heap.size w w'
  | some l => (∃ v, e = .returned (.tuple #[v, .bool true]) ∧ SlW w' w'.heap.size v l ∧ (0 < l.length → ∀ k, v.ownBlock = some k → k < hi ∨ w.heap.size ≤ k)) ∧ Below w.heap.size w w'
theorem SlW.low {w : World} {hi : Nat} {v : Value} {l : List Ln.W} (h : SlW w hi v l) : 0 < l.length → ∀ k, v.ownBlock = some k → k < hi := by
  intro h0 k hk
  obtain ⟨A, c, rfl, _, _, h3⟩ := h
  obtain ⟨b, off, rfl, hb, _⟩ := h3 h0
  cases hk
  exact hb
theorem slW_one (w : World) (x : Ln.W) (hi : Nat) (h : w.heap.size < hi) : SlW (w.alloc (.cells (cellsW x).toArray 70)) hi (.slice (some ⟨w.heap.size, 0, none⟩) 1 1) [x] := by
  have hb : Blk (w.alloc (.cells (cellsW x).toArray 70)) w.heap.size 70 (cellsW x).toArray := heap_alloc_new w _
  refine ⟨_, 1, rfl, Nat.le_refl _, by unfold maxLen; simp, fun _ => ⟨w.heap.size, 0, rfl, h, hb.ty, fun k hk => ?_⟩⟩
  have hk0 : k = 0 := by simp at hk; omega
  subst hk0
  exact ⟨hb.at 0, hb.at 1, hb.at 2, hb.at 3⟩
end Go.Proofs.Ytemliglhippdcaa

/- Package mani's own reader: a line with what is let put in: the row that grows, and what lies beside it. -/
namespace Go.Proofs.Ytemliglhippdcaa
set_option maxRecDepth 100000
open Go.ChangeShapes Go.WideShapes Go.ChangeAt Go.RowKit Go.Shelf

theorem SlW.grown {w w' : World} {hi : Nat} {v : Value} {l : List Ln.W} {row : Option Nat} (h : SlW w hi v l) (hg : w.grownBy w' row) (hne : 0 < l.length → v.ownBlock = none ∨ v.ownBlock ≠ row) : SlW w' hi v l := by
  obtain ⟨A, c, rfl, h1, h2, h3⟩ := h
  refine ⟨A, c, rfl, h1, h2, fun h0 => ?_⟩
  obtain ⟨b, off, rfl, hb, ht, hc⟩ := h3 h0
  have hbl : w'.heap[b]? = w.heap[b]? := hg.block b ht.lt (by
    rcases hne h0 with e | e
    · cases e
    · exact e)
  refine ⟨b, off, rfl, hb, ?_, fun k hk => ?_⟩
  · obtain ⟨cs, fr, k⟩ := ht
    exact ⟨cs, fr, by rw [hbl]; exact k⟩
  · have := hc k hk
    exact ⟨(World.cell?_of_block hbl).trans this.1, (World.cell?_of_block hbl).trans this.2.1, (World.cell?_of_block hbl).trans this.2.2.1, (World.cell?_of_block hbl).trans this.2.2.2⟩
theorem SlW.under {w w' : World} {hi : Nat} {v : Value} {l : List Ln.W} (h : SlW w hi v l) (hb : Below w.heap.size w w') : SlW w' hi v l := h.grown (row := none) (Below.toGrown hb none) (fun _ => by cases v.ownBlock <;> simp)
theorem blk_new {w : World} {B : Nat} {t : TypeId} {cs : Array Value} (h : w.heap.size = B) : Blk (w.alloc (.cells cs t)) B t cs := h ▸ heap_alloc_new w _
theorem wpList_append_word1 {w : World} {ops : Array Oper} {rest : List Oper} {o : Oper} {a : Act} {Q : Exit → Act → World → Prop} (hgd : o.guard = none) (s x : Operand)
    (ho : o.op = .call { callee := .builtin .append, args := #[s, x], argTypes := #[64, 64] }) (base B : Nat) (v : Value) (L : List Ln.W) (z : Ln.W) (hs : a.eval s = v) (hown : OwnW w base v L)
    (hx : a.eval x = .slice (some ⟨B, 0, none⟩) 1 1) (hB : Blk w B 70 (cellsW z).toArray) (hlen : L.length ≤ 1099511627776) (hbase : base ≤ w.heap.size)
    (h : ∀ v' w', OwnW w' base v' (L ++ [z]) → w.grownBy w' v.ownBlock → (v'.ownBlock = v.ownBlock ∨ v'.ownBlock = some w.heap.size) → Below base w w' → wpList Try.prog ops Q rest (a.put o.dst v') w') : wpList Try.prog ops Q (o :: rest) a w := by
  obtain ⟨i, hi, hz0, hz1, hz2⟩ := info_parts infoWord
  refine wpList_append_own_at w hgd s x 64 ho base 70 i (.agg #[.string ⟨#[]⟩, .int .i64 0, .int .i64 0, .bool false]) 4 40 Try.underlying64 hi hz0 hz1 hz2 (by kernel_rfl) (by decide) v L.length (rowW L) hs hown ⟨B, 0, none⟩ 1 1 (cellsW z) hx rfl ?_ (cellsW_one z) (by unfold maxLen; omega) (by omega) hbase ?_
  · intro j u hu
    rw [add_plain, Nat.zero_add, hB.at j, List.getElem?_toArray]
    exact hu
  · intro v' w' h1 h2 _ h4
    refine h v' w' ?_ h2 h4 ((Below.refl _ _).grown h2 hbase fun k hk => (World.ownsRow.lt hown k hk).1)
    unfold OwnW
    rw [List.length_append, rowW_snoc]
    exact h1
/-- A row of words, cut at a place. -/
theorem OwnW.cut {w : World} {base n c : Nat} {A : Option Addr} {L : List Ln.W} (h : OwnW w base (.slice A n c) L) (k : Nat) (hk : k ≤ n) : OwnW w base (.slice A k c) (L.take k) := by
  have hn : n = L.length := by
    obtain ⟨A', c', e, _⟩ := h.parts
    injection e
  have hl : (L.take k).length = k := by rw [List.length_take]; omega
  refine ⟨by rw [rowW_len], ?_⟩
  rw [hl]
  rcases h.2 with ⟨e, h0⟩ | ⟨g, cap, cur, e, hb, hg, h1, h2, h3, h4⟩
  · injection e with e1 e2 e3
    subst e1 e3
    have : k = 0 := by omega
    subst this
    exact .inl ⟨rfl, rfl⟩
  · injection e with e1 e2 e3
    subst e1 e3
    refine .inr ⟨g, c, cur, rfl, hb, hg, by omega, h2, h3, ?_⟩
    have hr : rowW (L.take k) = (rowW L).take (k * 4) := by
      have e : rowW L = rowW (L.take k) ++ rowW (L.drop k) := by
        unfold rowW
        rw [← List.flatMap_append, List.take_append_drop]
      have hz : (rowW (L.take k)).length = k * 4 := by rw [rowW_len, hl]
      rw [e, ← hz]
      exact List.take_left.symm
    rw [hr, ← h4, List.take_take, Nat.min_eq_left (by omega)]
/-- What lies while a word's words are put in. -/
structure PutIn (w W : World) (H b7 : Nat) (x : Ln.W) (sv lv : Value) (l out : List Ln.W) : Prop where
  own : OwnW W w.heap.size lv out
  sl : SlW W H sv l
  box : Blk W b7 70 (cellsW x).toArray
  off : ∀ k, lv.ownBlock = some k → k ≠ b7 ∧ (0 < l.length → sv.ownBlock ≠ some k)
  low : b7 < H
  size : H ≤ W.heap.size
  below : Below w.heap.size w W
theorem PutIn.under {w W W2 : World} {H b7 : Nat} {x : Ln.W} {sv lv : Value} {l out : List Ln.W} (h : PutIn w W H b7 x sv lv l out) (hb : Below W.heap.size W W2) : PutIn w W2 H b7 x sv lv l out :=
  ⟨h.own.under hb, h.sl.under hb, h.box.under hb, h.off, h.low, Nat.le_trans h.size hb.size, h.below.trans (hb.mono h.below.size)⟩
theorem PutIn.append {w W W' : World} {H b7 : Nat} {x : Ln.W} {sv lv lv' : Value} {l out out' : List Ln.W} (h : PutIn w W H b7 x sv lv l out) (hg : W.grownBy W' lv.ownBlock) (ho : OwnW W' w.heap.size lv' out') {z : Nat} (hob : lv'.ownBlock = lv.ownBlock ∨ lv'.ownBlock = some z) (hz : W.heap.size ≤ z) (hb : Below w.heap.size W W') : PutIn w W' H b7 x sv lv' l out' := by
  refine ⟨ho, h.sl.grown hg fun h0 => ?_, h.box.grown hg fun e => ?_, fun k hk => ?_, h.low, Nat.le_trans h.size hg.size, h.below.trans hb⟩
  · rcases hs : sv.ownBlock with _ | k
    · exact .inl rfl
    · exact .inr fun e => (h.off k e.symm).2 h0 hs
  · exact (h.off b7 e.symm).1 rfl
  · rcases hob with e | e
    · exact h.off k (e ▸ hk)
    · rw [e] at hk
      cases hk
      have h1 := h.low
      have h2 := h.size
      refine ⟨by omega, fun h0 e2 => ?_⟩
      have := h.sl.low h0 _ e2
      omega
theorem put_nil (lets : Mn.Lets) (out : List Ln.W) : Mo.put lets [] out = .ok out := rfl
theorem put_none {lets : Mn.Lets} {x : Ln.W} {r out : List Ln.W} (h : Mo.stands lets x = none) : Mo.put lets (x :: r) out = .error x := by
  rw [Mo.put]
  rw [h]
theorem put_some {lets : Mn.Lets} {x : Ln.W} {r out l : List Ln.W} (h : Mo.stands lets x = some l) : Mo.put lets (x :: r) out = Mo.put lets r ((out ++ Mo.placed x l).take 200) := by
  rw [Mo.put]
  rw [h]
theorem placed_len (x : Ln.W) (l : List Ln.W) : (Mo.placed x l).length = l.length := by unfold Mo.placed; simp
theorem placed_succ (x : Ln.W) (l : List Ln.W) (j : Nat) (h : j < l.length) : Mo.placed x (l.take (j + 1)) = Mo.placed x (l.take j) ++ [{ l[j]'h with line := x.line, col := x.col }] := by
  unfold Mo.placed
  rw [List.take_succ_eq_append_getElem h, List.map_append]
  rfl
theorem putin_start {w wz w1 w2 : World} {hi : Nat} {x : Ln.W} {sv lv : Value} {l out : List Ln.W} (hO : OwnW wz w.heap.size lv out) (hb : Below wz.heap.size wz w2) (hsl : SlW w2 w2.heap.size sv l) (hbx : Blk w2 wz.heap.size 70 (cellsW x).toArray)
    (hlow : 0 < l.length → ∀ k, sv.ownBlock = some k → k < hi ∨ w1.heap.size ≤ k) (h1 : wz.heap.size ≤ w1.heap.size) (hhi : hi ≤ w.heap.size) (hbl : Below w.heap.size w wz) : PutIn w w2 w2.heap.size wz.heap.size x sv lv l out := by
  refine ⟨hO.under hb, hsl, hbx, fun q hq => ⟨?_, fun h0 e => ?_⟩, hbx.size, Nat.le_refl _, hbl.trans (hb.mono hbl.size)⟩
  · have := (hO.lt q hq).2; omega
  · have h3 := (hO.lt q hq).1
    have h4 := (hO.lt q hq).2
    have h5 := hlow h0 q e
    omega
theorem below_put (w : World) (o o' : Obj) : Below w.heap.size w ((w.alloc o).alloc o').drew := (((Below.refl _ _).alloc (Nat.le_refl _) o).alloc (by simp) o').drew
theorem blk_put (w : World) (o : Obj) {t : TypeId} {cs : Array Value} : Blk ((w.alloc o).alloc (.cells cs t)).drew (w.heap.size + 1) t cs := (blk_new (w := w.alloc o) (by simp)).heap rfl
end Go.Proofs.Ytemliglhippdcaa

/- Package mani's own reader: a line with what is let put in. -/
namespace Go.Proofs.Ytemliglhippdcaa
set_option maxRecDepth 100000
open Go.ChangeShapes Go.WideShapes Go.ChangeAt Go.RowKit Go.Shelf

end Go.Proofs.Ytemliglhippdcaa

/- Package mani's own reader: whether a Rule must still wait for one that makes a name. -/
namespace Go.Proofs.Ytemliglhippdcaa
set_option maxRecDepth 100000
open Go.ChangeShapes Go.WideShapes Go.ChangeAt Go.RowKit Go.Shelf

end Go.Proofs.Ytemliglhippdcaa

/- Whether a row of truths holds a false. -/
namespace Go.Proofs.Ytemliglhippdcaa
set_option maxRecDepth 100000
open Go.ChangeShapes Go.WideShapes Go.ChangeAt Go.RowKit Go.Shelf

end Go.Proofs.Ytemliglhippdcaa
