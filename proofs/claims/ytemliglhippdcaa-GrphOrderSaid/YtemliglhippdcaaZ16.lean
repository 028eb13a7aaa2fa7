/- The library's searches for one byte, in plain words. -/
import Derived.Test.YtemliglhippdcaaShelf
import Derived.Test.YtemliglhippdcaaZ10
import Derived.BigQuiet
import Derived.Deep.QuietTactic
import Derived.Test.YtemliglhippdcaaLineSplit
import Derived.Test.YtemliglhippdcaaSame
import Derived.Test.YtemliglhippdcaaManiMem0
import Derived.Test.YtemliglhippdcaaActRows
import Derived.Test.YtemliglhippdcaaZ15
import Derived.Test.YtemliglhippdcaaZ04
namespace Go.Proofs.Ytemliglhippdcaa
set_option maxRecDepth 100000
open Go.ChangeShapes Go.WideShapes Go.ChangeAt Go.RowKit

/-- Where a byte first stands, or that it doesn't. -/
def Idx (l : List Nat) (x : Nat) (i : Int) : Prop :=
  (∃ k, k < l.length ∧ l.getD k 0 = x ∧ (∀ y, y < k → l.getD y 0 ≠ x) ∧ i = (k : Int)) ∨ ((∀ y, y < l.length → l.getD y 0 ≠ x) ∧ i = -1)
theorem ofNat_eq {a b : Nat} (ha : a < 256) (hb : b < 256) : (UInt8.ofNat a == UInt8.ofNat b) = decide (a = b) := by
  rw [Bool.eq_iff_iff]
  simp only [beq_iff_eq, decide_eq_true_eq]
  refine ⟨fun h => ?_, fun h => by rw [h]⟩
  have := congrArg UInt8.toNat h
  simp at this
  omega
theorem idx_spec (x : Nat) (hx : x < 256) : ∀ (l : List Nat), (∀ c ∈ l, c < 256) → Idx l x (Lib.indexByte (l.map UInt8.ofNat) (UInt8.ofNat x))
  | [], _ => .inr ⟨fun y hy => absurd hy (by simp), rfl⟩
  | c :: r, h => by
    have hc := h c (by simp)
    rw [List.map_cons, Lib.indexByte, ofNat_eq hc hx]
    by_cases he : c = x
    · rw [decide_eq_true he, if_pos rfl]
      exact .inl ⟨0, by simp, he, fun y hy => absurd hy (by omega), rfl⟩
    · rw [decide_eq_false he, if_neg (by simp)]
      rcases idx_spec x hx r fun c hc => h c (by simp [hc]) with ⟨k, h1, h2, h3, h4⟩ | ⟨h1, h2⟩
      · rw [h4, if_neg (by simp)]
        refine .inl ⟨k + 1, by simpa using h1, by rw [List.getD_cons_succ]; exact h2, fun y hy => ?_, by omega⟩
        cases y with
        | zero => exact he
        | succ y => rw [List.getD_cons_succ]; exact h3 y (by omega)
      · rw [h2, if_pos (by rfl)]
        refine .inr ⟨fun y hy => ?_, rfl⟩
        cases y with
        | zero => exact he
        | succ y => rw [List.getD_cons_succ]; exact h1 y (by simpa using hy)
theorem bytesOf_nat {l : List Nat} : Lib.bytesOf (l.map fun n : Nat => (n : Int)) = l.map UInt8.ofNat := by
  unfold Lib.bytesOf
  rw [List.map_map]
  exact List.map_congr_left fun c _ => by simp
theorem getD_cast (l : List Nat) (i : Nat) : (l.map fun n : Nat => (n : Int)).getD i 0 = ((l.getD i 0 : Nat) : Int) := by
  rw [List.getD_eq_getElem?_getD, List.getD_eq_getElem?_getD, List.getElem?_map]
  cases l[i]? <;> rfl
theorem cast_byte (x : Nat) : (x : Int).toNat.toUInt8 = UInt8.ofNat x := by simp
/-- Cut behind its first line: the line, and the rest; or all of it, and nothing. -/
def LCutIs (v : Value) (l : List Nat) (w : World) (e : Ending) (w' : World) : Prop :=
  (∃ q, w' = w.drewN q) ∧ ((∃ (k : Nat) (v1 v2 : Value), k < l.length ∧ l.getD k 0 = 10 ∧ (∀ y, y < k → l.getD y 0 ≠ 10) ∧ e = .returned (.tuple #[v1, v2, .bool true]) ∧ ∀ W, Bytes W v l → Bytes W v1 (l.take k) ∧ Bytes W v2 (l.drop (k + 1))) ∨
    ((∀ y, y < l.length → l.getD y 0 ≠ 10) ∧ e = .returned (.tuple #[v, .slice none 0 0, .bool false])))
/-- Signs. -/
theorem sign_index (x : Nat) (hx : x < 256) : decide ((0 : Int) ≤ Lib.indexByte [58, 124, 61, 59, 44] (UInt8.ofNat x)) = Ln.sign x := by
  have h := idx_spec x hx [58, 124, 61, 59, 44] (by decide)
  rw [show List.map UInt8.ofNat [58, 124, 61, 59, 44] = [58, 124, 61, 59, 44] from rfl] at h
  rcases h with ⟨k, h1, h2, -, h4⟩ | ⟨h1, h4⟩
  · rw [h4, decide_eq_true (by omega)]
    simp only [List.length_cons, List.length_nil] at h1
    have : k = 0 ∨ k = 1 ∨ k = 2 ∨ k = 3 ∨ k = 4 := by omega
    rcases this with rfl | rfl | rfl | rfl | rfl <;> (subst h2; rfl)
  · rw [h4, decide_eq_false (by omega)]
    have e0 := h1 0 (by simp)
    have e1 := h1 1 (by simp)
    have e2 := h1 2 (by simp)
    have e3 := h1 3 (by simp)
    have e4 := h1 4 (by simp)
    simp at e0 e1 e2 e3 e4
    simp [Ln.sign]
    omega
end Go.Proofs.Ytemliglhippdcaa

/- The reader goes to where the next word begins; a word of plain bytes. -/
namespace Go.Proofs.Ytemliglhippdcaa
set_option maxRecDepth 100000
open Go.ChangeShapes Go.WideShapes Go.ChangeAt Go.RowKit

theorem results_cell_cell {P : Program} {fn : Func} {p1 p2 : Tmp} {ty1 ty2 : TypeId} (h : fn.results = #[.cell p1 ty1, .cell p2 ty2]) (tmps : Array Value) (w : World) (g1 g2 : Nat) (bt1 bt2 : TypeId) (cs1 cs2 : Array Value) (fr1 fr2 : Nat × Nat) (d1 d2 : TypeDesc)
    (hp1 : tmps.getD p1 undef = .pointer (some ⟨g1, 0, none⟩)) (hp2 : tmps.getD p2 undef = .pointer (some ⟨g2, 0, none⟩)) (hg1 : w.heap[g1]? = some (.cells cs1 bt1 fr1)) (hg2 : w.heap[g2]? = some (.cells cs2 bt2 fr2))
    (hu1 : P.underlying ty1 = some d1) (hd1 : (match d1 with | .struct _ | .array _ _ => true | _ => false) = true) (hi1 : (P.info? ty1).map (·.size) = some cs1.size)
    (hu2 : P.underlying ty2 = some d2) (hd2 : (match d2 with | .struct _ | .array _ _ => true | _ => false) = true) (hi2 : (P.info? ty2).map (·.size) = some cs2.size) :
    (results fn tmps).run P w = .ok (.tuple #[.agg cs1, .agg cs2]) w := by
  have hp1' : tmps[p1]?.getD undef = .pointer (some ⟨g1, 0, none⟩) := by simpa using hp1
  have hp2' : tmps[p2]?.getD undef = .pointer (some ⟨g2, 0, none⟩) := by simpa using hp2
  simp [results, h, hp1', hp2', asAddr, run_loadVar_row w g1 bt1 ty1 cs1 fr1 d1 hg1 hu1 hd1 hi1, run_loadVar_row w g2 bt2 ty2 cs2 fr2 d2 hg2 hu2 hd2 hi2]
/-- The two cells that a call's results lie in. -/
def Outs (W : World) (a : Nat) : Prop := Blk W a 70 #[.string ⟨#[]⟩, .int .i64 0, .int .i64 0, .bool false] ∧ Blk W (a + 1) 28 #[.int .i64 0, .int .i64 0, .int .i64 0]
theorem outs_new (w : World) : Outs ((w.alloc (.cells #[.string ⟨#[]⟩, .int .i64 0, .int .i64 0, .bool false] 70)).alloc (.cells #[.int .i64 0, .int .i64 0, .int .i64 0] 28)) w.heap.size :=
  ⟨Blk.alloc (heap_alloc_new w _) _, by
    rw [show w.heap.size + 1 = (w.alloc (.cells #[.string ⟨#[]⟩, .int .i64 0, .int .i64 0, .bool false] 70)).heap.size from by simp]
    exact heap_alloc_new _ _⟩
theorem Outs.size {W : World} {a : Nat} (h : Outs W a) : a + 1 < W.heap.size := h.2.size
theorem Outs.under {W W' : World} {a : Nat} (h : Outs W a) (hb : Below W.heap.size W W') : Outs W' a := ⟨h.1.under hb, h.2.under hb⟩
theorem Outs.alloc {W : World} {a : Nat} (h : Outs W a) (o : Obj) : Outs (W.alloc o) a := h.under ((Below.refl _ _).alloc (Nat.le_refl _) _)
theorem Outs.drew {W : World} {a : Nat} (h : Outs W a) (n : Nat) : Outs (W.drewN n) a := h
theorem Outs.grown {W W' : World} {a g : Nat} (h : Outs W a) (hb : W.grownBy W' (some g)) (hg : g < a) : Outs W' a := ⟨h.1.grown hb (by simp; omega), h.2.grown hb (by simp; omega)⟩
theorem Outs.facts {W : World} {a : Nat} (h : Outs W a) : W.cell? ⟨a, 0, none⟩ = some (.string ⟨#[]⟩) ∧ W.cell? ⟨a, 1, none⟩ = some (.int .i64 0) ∧ W.cell? ⟨a, 2, none⟩ = some (.int .i64 0) ∧ W.cell? ⟨a, 3, none⟩ = some (.bool false) ∧
    W.frozen? ⟨a, 0, none⟩ = false ∧ W.frozen? ⟨a, 1, none⟩ = false ∧ W.frozen? ⟨a, 2, none⟩ = false ∧ W.frozen? ⟨a, 3, none⟩ = false ∧
    W.cell? ⟨a + 1, 0, none⟩ = some (.int .i64 0) ∧ W.cell? ⟨a + 1, 1, none⟩ = some (.int .i64 0) ∧ W.cell? ⟨a + 1, 2, none⟩ = some (.int .i64 0) ∧ W.frozen? ⟨a + 1, 0, none⟩ = false ∧ W.frozen? ⟨a + 1, 1, none⟩ = false ∧ W.frozen? ⟨a + 1, 2, none⟩ = false :=
  ⟨h.1.at 0, h.1.at 1, h.1.at 2, h.1.at 3, h.1.free 0, h.1.free 1, h.1.free 2, h.1.free 3, h.2.at 0, h.2.at 1, h.2.at 2, h.2.free 0, h.2.free 1, h.2.free 2⟩
abbrev put7 (W : World) (a : Nat) (x0 x1 x2 x3 y0 y1 y2 : Value) : World :=
  ((((((W.setCell ⟨a, 0, none⟩ x0).setCell ⟨a, 1, none⟩ x1).setCell ⟨a, 2, none⟩ x2).setCell ⟨a, 3, none⟩ x3).setCell ⟨a + 1, 0, none⟩ y0).setCell ⟨a + 1, 1, none⟩ y1).setCell ⟨a + 1, 2, none⟩ y2
theorem Outs.full1 {W : World} {a : Nat} (h : Outs W a) (x0 x1 x2 x3 y0 y1 y2 : Value) : Blk (put7 W a x0 x1 x2 x3 y0 y1 y2) a 70 #[x0, x1, x2, x3] :=
  ((((((h.1.set 0 x0).set 1 x1).set 2 x2).set 3 x3).setOther (by simp) _).setOther (by simp) _).setOther (by simp) _
theorem Outs.full2 {W : World} {a : Nat} (h : Outs W a) (x0 x1 x2 x3 y0 y1 y2 : Value) : Blk (put7 W a x0 x1 x2 x3 y0 y1 y2) (a + 1) 28 #[y0, y1, y2] :=
  (((((((h.2.setOther (by simp) _).setOther (by simp) _).setOther (by simp) _).setOther (by simp) _).set 0 y0).set 1 y1).set 2 y2)
theorem grow_put7 {w W : World} {a g : Nat} (h : w.grownBy W (some g)) (ha : w.heap.size ≤ a) (x0 x1 x2 x3 y0 y1 y2 : Value) : w.grownBy (put7 W a x0 x1 x2 x3 y0 y1 y2) (some g) :=
  grow_set (grow_set (grow_set (grow_set (grow_set (grow_set (grow_set h (.inl ha) _) (.inl ha) _) (.inl ha) _) (.inl ha) _) (.inl (Nat.le_succ_of_le ha)) _) (.inl (Nat.le_succ_of_le ha)) _) (.inl (Nat.le_succ_of_le ha)) _
theorem grow_refl (w : World) (row : Option Nat) : w.grownBy w row := World.grownBy.refl w row
theorem grow_drew {w W : World} {row : Option Nat} (h : w.grownBy W row) (n : Nat) : w.grownBy (W.drewN n) row := ⟨h.os, h.tape, h.output, h.size, h.block⟩
end Go.Proofs.Ytemliglhippdcaa

/- The reader reads a text in quotes. -/
namespace Go.Proofs.Ytemliglhippdcaa
set_option maxRecDepth 100000
open Go.ChangeShapes Go.WideShapes Go.ChangeAt Go.RowKit

end Go.Proofs.Ytemliglhippdcaa

/- The reader reads the word that stands at its place. -/
namespace Go.Proofs.Ytemliglhippdcaa
set_option maxRecDepth 100000
open Go.ChangeShapes Go.WideShapes Go.ChangeAt Go.RowKit

theorem tok_cases (T : Ln.Tok) : (∃ m, T = .skip m) ∨ (∃ s m q, T = .word s m q) ∨ ∃ k o, T = .bad k o := by
  cases T with
  | skip m => exact .inl ⟨m, rfl⟩
  | word s m q => exact .inr (.inl ⟨s, m, q, rfl⟩)
  | bad k o => exact .inr (.inr ⟨k, o, rfl⟩)
end Go.Proofs.Ytemliglhippdcaa

/- The words of one line. -/
namespace Go.Proofs.Ytemliglhippdcaa
set_option maxRecDepth 100000
open Go.ChangeShapes Go.WideShapes Go.ChangeAt Go.RowKit

theorem St.grownLow {w w' : World} {base g : Nat} {v u : Value} {LL : List (List Ln.W)} {R : List Ln.W} (h : St w base v LL u R) (hg : w.grownBy w' (some g)) (hp : g < base) : St w' base v LL u R := by
  obtain ⟨us, h1, h2, h3, h4, h5, h6, h7⟩ := h
  have hlow : ∀ {t : Value}, Between base w.heap.size t → t.ownBlock = none ∨ t.ownBlock ≠ some g := fun {t} hb => .inr fun e => by
    have := (hb _ e).1
    omega
  exact ⟨us, h1, h2.kept hg (hlow fun k hk => World.ownsRow.lt h2 k hk), h3, fun i hi => (h4 i hi).grown hg (hlow (h4 i hi).lt), h5, h6.grown hg (hlow h6.lt), h7⟩
theorem below_grown {w0 w w' : World} {g : Nat} (h : Below w0.heap.size w0 w) (hg : w.grownBy w' (some g)) (h0 : w0.heap.size ≤ g) : Below w0.heap.size w0 w' :=
  ⟨hg.os.trans h.os, hg.tape.trans h.tape, hg.output.trans h.output, Nat.le_trans h.size hg.size, fun k hk => (hg.block k (Nat.lt_of_lt_of_le hk h.size) (by simp; omega)).trans (h.block k hk)⟩
theorem word_cells3 (w : World) (o o' : Obj) (z : Ln.W) : ∀ j y, (cellsW z)[j]? = some y → (((w.alloc o).alloc o').alloc (.cells (cellsW z).toArray 70)).cell? ⟨w.heap.size + 1 + 1, j, none⟩ = some y := fun j y hy => by
  have h : Blk (((w.alloc o).alloc o').alloc (.cells (cellsW z).toArray 70)) (w.heap.size + 1 + 1) 70 (cellsW z).toArray := heap_alloc_at _ _ (by simp)
  rw [h.at j, List.getElem?_toArray]
  exact hy
/-- What is told of one line. -/
def OneIs (t : List Nat) (w : World) (e : Ending) (w' : World) : Ln.Res → Prop
  | .ok LL => ∃ (R : List Ln.W) (u : Value), LL = Ln.close R ∧ R.length ≤ t.length ∧ e = .returned (.tuple #[u, .agg #[.int .i64 0, .int .i64 0, .int .i64 0]]) ∧ OwnW w' w.heap.size u R
  | .bad k ln col => e = .returned (.tuple #[.slice none 0 0, .agg #[.int .i64 (k : Int), .int .i64 (ln : Int), .int .i64 (col : Int)]]) ∧ 1 ≤ k
end Go.Proofs.Ytemliglhippdcaa

/- The program's own call on lines: what Split tells of any bytes. -/
namespace Go.Proofs.Ytemliglhippdcaa
set_option maxRecDepth 100000
open Go.ChangeShapes Go.WideShapes Go.ChangeAt Go.RowKit

/-- A row that was made behind all that is there. -/
theorem St.put {w w' : World} {base : Nat} {v u : Value} {LL : List (List Ln.W)} {R : List Ln.W} (h : St w base v LL (.slice none 0 0) []) (hb : Below w.heap.size w w') (hbase : base ≤ w.heap.size) (hu : OwnW w' w.heap.size u R) : St w' base v LL u R := by
  obtain ⟨us, h1, h2, h3, h4, h5, h6, h7⟩ := h.under hb
  obtain ⟨us', h1', h2', h3', h4', h5', h6', h7'⟩ := h
  refine ⟨us', h1', h2'.kept (Below.toGrown hb none) (by cases v.ownBlock <;> simp), h3', fun i hi => (h4' i hi).under hb, h5', hu.more hbase, fun i hi => ?_⟩
  have hlt := (h4' i hi).lt
  have hge := hu.lt
  cases hx : (us'.getD i undef).ownBlock with
  | none => exact .inl rfl
  | some k =>
    refine .inr fun e => ?_
    have h1 := (hlt k hx).2
    have h2 := (hge k e.symm).1
    omega
/-- How far a text is read, line by line. -/
def Q (b : List Nat) (i ln : Nat) (O : List (List Ln.W)) : Prop := i ≤ b.length ∧ Ln.split b = (Ln.sp (b.drop i) ln 1 []).pre O
theorem Q.start (b : List Nat) : Q b 0 1 [] := ⟨Nat.zero_le _, by rw [Ln.Res.pre_nil]; rfl⟩
theorem Q.done {b : List Nat} {i ln : Nat} {O : List (List Ln.W)} (h : Q b i ln O) (hi : i = b.length) : Ln.split b = .ok O := by
  rw [h.2, hi, List.drop_of_length_le (Nat.le_refl _), Ln.sp_nil]
  simp [Ln.Res.pre, Ln.close]
theorem Q.last {b : List Nat} {i ln : Nat} {O LL : List (List Ln.W)} (h : Q b i ln O) (hs : Ln.sp (b.drop i) ln 1 [] = .ok LL) : Q b b.length (ln + 1) (O ++ LL) := by
  refine ⟨Nat.le_refl _, ?_⟩
  rw [h.2, hs, List.drop_of_length_le (Nat.le_refl _), Ln.sp_nil]
  simp [Ln.Res.pre, Ln.close]
theorem cut_at {r : List Nat} {k : Nat} (hk : k < r.length) (h10 : r.getD k 0 = 10) : r = r.take k ++ 10 :: r.drop (k + 1) := by
  conv => lhs; rw [← List.take_append_drop k r]
  rw [Ln.drop_cons hk, h10]
theorem no_ten {r : List Nat} {k : Nat} (hn : ∀ y, y < k → r.getD y 0 ≠ 10) : ∀ x ∈ r.take k, x ≠ 10 := by
  intro x hx
  obtain ⟨y, hy, rfl⟩ := List.getElem_of_mem hx
  rw [List.length_take] at hy
  have := hn y (by omega)
  rw [List.getD_eq_getElem?_getD, List.getElem?_eq_getElem (by omega)] at this
  rw [List.getElem_take]
  exact this
theorem Q.line {b : List Nat} {i ln k : Nat} {O LL : List (List Ln.W)} (h : Q b i ln O) (hk : k < (b.drop i).length) (h10 : (b.drop i).getD k 0 = 10) (hn : ∀ y, y < k → (b.drop i).getD y 0 ≠ 10) (hs : Ln.sp ((b.drop i).take k) ln 1 [] = .ok LL) : Q b (i + k + 1) (ln + 1) (O ++ LL) := by
  have hl : i + k + 1 ≤ b.length := by rw [List.length_drop] at hk; omega
  refine ⟨hl, ?_⟩
  rw [h.2, cut_at hk h10, Ln.sp_first _ ln (no_ten hn), hs, List.drop_drop]
  show (Ln.Res.pre LL _).pre O = _
  rw [Ln.Res.pre_pre]
  rfl
theorem Q.badline {b : List Nat} {i ln k kd l c : Nat} {O : List (List Ln.W)} (h : Q b i ln O) (hk : k < (b.drop i).length) (h10 : (b.drop i).getD k 0 = 10) (hn : ∀ y, y < k → (b.drop i).getD y 0 ≠ 10) (hs : Ln.sp ((b.drop i).take k) ln 1 [] = .bad kd l c) : Ln.split b = .bad kd l c := by
  rw [h.2, cut_at hk h10, Ln.sp_first _ ln (no_ten hn), hs]
  rfl
theorem Q.badlast {b : List Nat} {i ln kd l c : Nat} {O : List (List Ln.W)} (h : Q b i ln O) (hs : Ln.sp (b.drop i) ln 1 [] = .bad kd l c) : Ln.split b = .bad kd l c := by
  rw [h.2, hs]
  rfl
/-- The line that is cut off: all its bytes, where the reading goes on, and what it means to have read it. -/
def Step (b : List Nat) (i ln : Nat) (O : List (List Ln.W)) (t : List Nat) (i' : Nat) : Prop :=
  i < i' ∧ i' ≤ b.length ∧ t.length ≤ i' - i ∧ (∀ x ∈ t, x ≠ 10) ∧ (∀ LL, Ln.sp t ln 1 [] = .ok LL → Q b i' (ln + 1) (O ++ LL)) ∧ ∀ kd l c, Ln.sp t ln 1 [] = .bad kd l c → Ln.split b = .bad kd l c
theorem step_cut {b : List Nat} {i ln k : Nat} {O : List (List Ln.W)} (h : Q b i ln O) (hk : k < (b.drop i).length) (h10 : (b.drop i).getD k 0 = 10) (hn : ∀ y, y < k → (b.drop i).getD y 0 ≠ 10) : Step b i ln O ((b.drop i).take k) (i + k + 1) :=
  ⟨by omega, by rw [List.length_drop] at hk; omega, by rw [List.length_take]; omega, no_ten hn, fun LL hs => h.line hk h10 hn hs, fun kd l c hs => h.badline hk h10 hn hs⟩
theorem step_last {b : List Nat} {i ln : Nat} {O : List (List Ln.W)} (h : Q b i ln O) (hi : i < b.length) (hn : ∀ y, y < (b.drop i).length → (b.drop i).getD y 0 ≠ 10) : Step b i ln O (b.drop i) b.length :=
  ⟨hi, Nat.le_refl _, by rw [List.length_drop]; omega, by have := no_ten hn; rwa [List.take_length] at this, fun LL hs => h.last hs, fun kd l c hs => h.badlast hs⟩
end Go.Proofs.Ytemliglhippdcaa

/- Two rows of texts, of actions, are the same: what package slices tells of them. -/
namespace Go.Proofs.Ytemliglhippdcaa
set_option maxRecDepth 100000
open Go.ChangeShapes Go.WideShapes Go.ChangeAt Go.RowKit Go.Shelf

/-- Actions whose texts are bytes. -/
def ActsB (l : List (List Ac.D)) : Prop := ∀ x ∈ l, ∀ d ∈ x, ∀ c ∈ d.text, c < 256
end Go.Proofs.Ytemliglhippdcaa

/- Two rules, two rows of rules, are the same: what package mani tells of them. -/
namespace Go.Proofs.Ytemliglhippdcaa
set_option maxRecDepth 100000
open Go.ChangeShapes Go.WideShapes Go.ChangeAt Go.RowKit Go.Shelf

/-- What four cells of a rule read as. -/
structure RdR (w : World) (q : Value × Value × Value × Value) (r : Mn.Rule) : Prop where
  outs : SlT w q.1 r.outs
  ins : SlT w q.2.1 r.ins
  order : SlT w q.2.2.1 r.order
  acts : SlA w q.2.2.2 r.acts
theorem Parts.rd {w : World} {hi : Nat} {q : Value × Value × Value × Value} {r : Mn.Rule} (h : Parts w hi q r) : RdR w q r := ⟨h.outs.sl, h.ins.sl, h.order.sl, h.acts.sl⟩
theorem SlT.later {w w' : World} {v : Value} {l : List (List Nat)} (h : SlT w v l) (hb : Below w.heap.size w w') : SlT w' v l := h.keep (Q := fun _ => True) (Keep.below hb) trivial
theorem SlA.later {w w' : World} {v : Value} {l : List (List Ac.D)} (h : SlA w v l) (hb : Below w.heap.size w w') : SlA w' v l := h.keep (Q := fun _ => True) (Keep.below hb) trivial trivial
theorem RdR.later {w w' : World} {q : Value × Value × Value × Value} {r : Mn.Rule} (h : RdR w q r) (hb : Below w.heap.size w w') : RdR w' q r := ⟨h.outs.later hb, h.ins.later hb, h.order.later hb, h.acts.later hb⟩
/-- A rule whose texts are bytes. -/
structure ByteR (r : Mn.Rule) : Prop where
  outs : ∀ t ∈ r.outs, ∀ c ∈ t, c < 256
  ins : ∀ t ∈ r.ins, ∀ c ∈ t, c < 256
  order : ∀ t ∈ r.order, ∀ c ∈ t, c < 256
  acts : ActsB r.acts
theorem SlT.shape {w : World} {v : Value} {l : List (List Nat)} (h : SlT w v l) : ∃ A n c, v = .slice A n c := by
  obtain ⟨A, c, e, _⟩ := h
  exact ⟨_, _, _, e⟩
theorem SlA.shape {w : World} {v : Value} {l : List (List Ac.D)} (h : SlA w v l) : ∃ A n c, v = .slice A n c := by
  obtain ⟨A, c, e, _⟩ := h
  exact ⟨_, _, _, e⟩

end Go.Proofs.Ytemliglhippdcaa

/- Two rows of rules, two manifests, are the same: what package mani tells of them. -/
namespace Go.Proofs.Ytemliglhippdcaa
set_option maxRecDepth 100000
open Go.ChangeShapes Go.WideShapes Go.ChangeAt Go.RowKit Go.Shelf

theorem SlR.at {w : World} {A : Option Addr} {n c : Nat} {l : List Mn.Rule} (h : SlR w (.slice A n c) l) (k : Nat) (hk : k < l.length) : ∃ b off q, A = some ⟨b, off, none⟩ ∧ RdR w q (l.getD k emptyRule) ∧ w.cell? ⟨b, off + k * 5, none⟩ = some q.1 ∧ w.cell? ⟨b, off + k * 5 + 1, none⟩ = some q.2.1 ∧ w.cell? ⟨b, off + k * 5 + 2, none⟩ = some q.2.2.1 ∧ w.cell? ⟨b, off + k * 5 + 3, none⟩ = some q.2.2.2 ∧ w.cell? ⟨b, off + k * 5 + 4, none⟩ = some (.bool (l.getD k emptyRule).phony) := by
  obtain ⟨A', c', e, _, _, hx⟩ := h
  injection e with e1 e2 e3
  subst e1 e2 e3
  obtain ⟨b, off, rfl, _, hc⟩ := hx (by omega)
  obtain ⟨u1, u2, u3, u4, c1, c2, c3, c4, c5, s1, s2, s3, s4⟩ := hc k hk
  exact ⟨b, off, (u1, u2, u3, u4), rfl, ⟨s1, s2, s3, s4⟩, c1, c2, c3, c4, c5⟩
theorem SlR.shape {w : World} {v : Value} {l : List Mn.Rule} (h : SlR w v l) : ∃ A c, v = .slice A l.length c := by
  obtain ⟨A, c, e, _⟩ := h
  exact ⟨_, _, e⟩
/-- Two boxes that are made one behind the other. -/
theorem two_boxes (w : World) (c1 c2 : Array Value) (t1 t2 : TypeId) : Blk ((w.alloc (.cells c1 t1)).alloc (.cells c2 t2)) w.heap.size t1 c1 ∧ Blk ((w.alloc (.cells c1 t1)).alloc (.cells c2 t2)) (w.heap.size + 1) t2 c2 := by
  refine ⟨(show Blk (w.alloc (.cells c1 t1)) w.heap.size t1 c1 from heap_alloc_new w _).alloc _, ?_⟩
  have := heap_alloc_new (w.alloc (.cells c1 t1)) (.cells c2 t2)
  rwa [World.size_alloc] at this
/-- A manifest, as it is handed over. -/
def RdM (w : World) (v : Value) (m : Mn.M) : Prop := ∃ rv dv, v = .agg #[rv, dv] ∧ SlR w rv m.rules ∧ SlT w dv m.dflt
structure ByteM (m : Mn.M) : Prop where
  rules : ∀ r ∈ m.rules, ByteR r
  dflt : ∀ t ∈ m.dflt, ∀ c ∈ t, c < 256
  len : m.rules.length ≤ 1000000
end Go.Proofs.Ytemliglhippdcaa
