/- The library's searches for one byte, in plain words. -/
import Derived.Test.YtgjehlegcmeeoaaGreatDoorShelf
import Derived.Test.YtgjehlegcmeeoaaGreatDoorZ10
import Derived.BigQuiet
import Derived.Deep.QuietTactic
import Derived.Test.YtgjehlegcmeeoaaGreatDoorZ05
namespace Go.Proofs.YtgjehlegcmeeoaaGreatDoor
set_option maxRecDepth 100000
open Go.ChangeShapes Go.WideShapes Go.ChangeAt Go.RowKit

/-- Where a byte first stands, or that it doesn't. -/
def Idx (l : List Nat) (x : Nat) (i : Int) : Prop :=
  (∃ k, k < l.length ∧ l.getD k 0 = x ∧ (∀ y, y < k → l.getD y 0 ≠ x) ∧ i = (k : Int)) ∨ ((∀ y, y < l.length → l.getD y 0 ≠ x) ∧ i = -1)
theorem ofNat_eq {a b : Nat} (ha : a < 256) (hb : b < 256) : (UInt8.ofNat a == UInt8.ofNat b) = decide (a = b) := by
  rw [Bool.eq_iff_iff]
  simp only [beq_iff_eq, decide_eq_true_eq]
  refine ⟨fun h => ?_, fun h => by rw [h]⟩
  have := congrArg UInt8.toNat h
  simp at this
  omega
theorem idx_spec (x : Nat) (hx : x < 256) : ∀ (l : List Nat), (∀ c ∈ l, c < 256) → Idx l x (Lib.indexByte (l.map UInt8.ofNat) (UInt8.ofNat x))
  | [], _ => .inr ⟨fun y hy => absurd hy (by simp), rfl⟩
  | c :: r, h => by
    have hc := h c (by simp)
    rw [List.map_cons, Lib.indexByte, ofNat_eq hc hx]
    by_cases he : c = x
    · rw [decide_eq_true he, if_pos rfl]
      exact .inl ⟨0, by simp, he, fun y hy => absurd hy (by omega), rfl⟩
    · rw [decide_eq_false he, if_neg (by simp)]
      rcases idx_spec x hx r fun c hc => h c (by simp [hc]) with ⟨k, h1, h2, h3, h4⟩ | ⟨h1, h2⟩
      · rw [h4, if_neg (by simp)]
        refine .inl ⟨k + 1, by simpa using h1, by rw [List.getD_cons_succ]; exact h2, fun y hy => ?_, by omega⟩
        cases y with
        | zero => exact he
        | succ y => rw [List.getD_cons_succ]; exact h3 y (by omega)
      · rw [h2, if_pos (by rfl)]
        refine .inr ⟨fun y hy => ?_, rfl⟩
        cases y with
        | zero => exact he
        | succ y => rw [List.getD_cons_succ]; exact h1 y (by simpa using hy)
theorem bytesOf_nat {l : List Nat} : Lib.bytesOf (l.map fun n : Nat => (n : Int)) = l.map UInt8.ofNat := by
  unfold Lib.bytesOf
  rw [List.map_map]
  exact List.map_congr_left fun c _ => by simp
theorem getD_cast (l : List Nat) (i : Nat) : (l.map fun n : Nat => (n : Int)).getD i 0 = ((l.getD i 0 : Nat) : Int) := by
  rw [List.getD_eq_getElem?_getD, List.getD_eq_getElem?_getD, List.getElem?_map]
  cases l[i]? <;> rfl
theorem cast_byte (x : Nat) : (x : Int).toNat.toUInt8 = UInt8.ofNat x := by simp
theorem lindex_any (a : Addr) (n c x : Nat) (l : List Nat) (w : World) (hv : Bytes w (.slice (some a) n c) l) (hx : x < 256) :
    Calls Tryz.prog 81 #[.slice (some a) n c, .int .u8 x] w fun e w' => (∃ i, e = .returned (.int .i64 i) ∧ Idx l x i) ∧ w = w' := by
  have hn := hv.len
  obtain ⟨hb, hm, A, c', e, hc, hcell⟩ := hv.parts
  injection e with e1 e2 e3
  refine (Tryz.bytes_IndexByte_at a n c (l.map fun n : Nat => (n : Int)) x w (by simpa using hn) fun i hi => ?_).mono fun e w' ⟨h1, h2⟩ => ⟨⟨_, h1, ?_⟩, h2.symm⟩
  · obtain ⟨b, off, e4, hcl⟩ := hcell (by omega)
    rw [← e1] at e4
    injection e4 with e4
    subst e4
    rw [add_plain, getD_cast]
    exact hcl i (by omega)
  · rw [bytesOf_nat, cast_byte]
    exact idx_spec x hx l hb
theorem findex_any (a : Addr) (n c x b o d : Nat) (l : List Nat) (w : World) (hv : Bytes w (.slice (some a) n c) l) (hs : w.cell? ⟨b, o, none⟩ = some (.int .u8 x)) :
    Calls Tryz.prog 59 #[.slice (some a) n c, .slice (some ⟨b, o, none⟩) 1 d] w fun e w' => e = .returned (.int .i64 (Lib.indexByte (l.map UInt8.ofNat) (UInt8.ofNat x))) ∧ ∃ q, w' = w.drewN q := by
  have hn := hv.len
  obtain ⟨hb, hm, A, c', e, hc, hcell⟩ := hv.parts
  injection e with e1 e2 e3
  refine (Tryz.bytes_Index_one_at a n c b o d (l.map fun n : Nat => (n : Int)) x w (by simpa using hn) (fun i hi => ?_) hs).mono fun e w' ⟨h1, h2⟩ => ⟨?_, 0, h2⟩
  · obtain ⟨b, off, e4, hcl⟩ := hcell (by omega)
    rw [← e1] at e4
    injection e4 with e4
    subst e4
    rw [add_plain, getD_cast]
    exact hcl i (by omega)
  · rw [h1, bytesOf_nat, cast_byte]
/-- Cut behind its first line: the line, and the rest; or all of it, and nothing. -/
def LCutIs (v : Value) (l : List Nat) (w : World) (e : Ending) (w' : World) : Prop :=
  (∃ q, w' = w.drewN q) ∧ ((∃ (k : Nat) (v1 v2 : Value), k < l.length ∧ l.getD k 0 = 10 ∧ (∀ y, y < k → l.getD y 0 ≠ 10) ∧ e = .returned (.tuple #[v1, v2, .bool true]) ∧ ∀ W, Bytes W v l → Bytes W v1 (l.take k) ∧ Bytes W v2 (l.drop (k + 1))) ∨
    ((∀ y, y < l.length → l.getD y 0 ≠ 10) ∧ e = .returned (.tuple #[v, .slice none 0 0, .bool false])))
theorem lcut_any (v : Value) (l : List Nat) (b o d : Nat) (w : World) (hv : Bytes w v l) (h0 : 0 < l.length) (hl : l.length ≤ 1000000) (hs : w.cell? ⟨b, o, none⟩ = some (.int .u8 10)) :
    Calls Tryz.prog 37 #[v, .slice (some ⟨b, o, none⟩) 1 d] w (LCutIs v l w) := by
  obtain ⟨hb, hm, A, c, rfl, hc, hcell⟩ := hv.parts
  obtain ⟨bb, off, rfl, _⟩ := hcell h0
  clear hcell
  have hcall := findex_any ⟨bb, off, none⟩ l.length c 10 b o d l w hv hs
  rcases idx_spec 10 (by omega) l hb with ⟨k, h1, h2, h3, h4⟩ | ⟨h1, h4⟩
  · rw [h4] at hcall
    refine (Tryz.bytes_Cut_of _ _ l.length c 1 d (k : Int) w hc (by omega) (by omega) (by omega) hcall).mono ?_
    rintro e w' ⟨he, hw⟩
    refine ⟨hw, .inl ⟨k, .slice (some ⟨bb, off, none⟩) k c, Lib.fromV (some ⟨bb, off, none⟩) l.length c (k + 1), h1, h2, h3, ?_, fun W hW => ⟨hW.head (by omega) (by omega), ?_⟩⟩⟩
    · rw [he]
      unfold Lib.cutV
      rw [if_pos (by omega), Int.toNat_natCast]
    · unfold Lib.fromV
      refine hW.tail (by omega) (by omega) fun hlt b0 o0 e => ?_
      injection e with e
      injection e with e1 e2
      subst e1 e2
      rw [if_neg (by omega), Option.map_some, add_plain]
  · rw [h4] at hcall
    refine (Tryz.bytes_Cut_of _ _ l.length c 1 d (-1) w hc (by omega) (by omega) (by omega) hcall).mono ?_
    rintro e w' ⟨he, hw⟩
    refine ⟨hw, .inr ⟨h1, ?_⟩⟩
    rw [he]
    rfl
/-- Signs. -/
theorem sign_index (x : Nat) (hx : x < 256) : decide ((0 : Int) ≤ Lib.indexByte [58, 124, 61, 59, 44] (UInt8.ofNat x)) = Ln.sign x := by
  have h := idx_spec x hx [58, 124, 61, 59, 44] (by decide)
  rw [show List.map UInt8.ofNat [58, 124, 61, 59, 44] = [58, 124, 61, 59, 44] from rfl] at h
  rcases h with ⟨k, h1, h2, -, h4⟩ | ⟨h1, h4⟩
  · rw [h4, decide_eq_true (by omega)]
    simp only [List.length_cons, List.length_nil] at h1
    have : k = 0 ∨ k = 1 ∨ k = 2 ∨ k = 3 ∨ k = 4 := by omega
    rcases this with rfl | rfl | rfl | rfl | rfl <;> (subst h2; rfl)
  · rw [h4, decide_eq_false (by omega)]
    have e0 := h1 0 (by simp)
    have e1 := h1 1 (by simp)
    have e2 := h1 2 (by simp)
    have e3 := h1 3 (by simp)
    have e4 := h1 4 (by simp)
    simp at e0 e1 e2 e3 e4
    simp [Ln.sign]
    omega
set_option maxRecDepth 100000 in
set_option maxHeartbeats 2000000 in
theorem sign_any (x : Nat) (hx : x < 256) (w : World) : Calls Tryz.prog 88 #[.int .u8 x] w fun e w' => e = .returned (.bool (Ln.sign x)) ∧ w = w' := by
  have HS := Lib.hid (sign_index x hx)
  clear hx
  go_enter Tryz.func88, Tryz.ntmps88
  go_wp2_with fail
  refine (Tryz.strings_IndexByte _ _ _).mono ?_
  rintro e w2 ⟨rfl, rfl⟩
  rw [cast_byte]
  go_wp2
  rw [HS.out]
  go_ret
  exact ⟨rfl, rfl⟩
set_option maxRecDepth 100000 in
set_option maxHeartbeats 2000000 in
theorem lmay_any (x : Nat) (hx : x < 256) (w : World) : Calls Tryz.prog 90 #[.int .u8 x] w fun e w' => e = .returned (.bool (Ln.plain x)) ∧ w = w' := by
  have HX := Lib.hid hx
  have HP : Hid (Ln.plain x = ((Ln.okq x && decide (x ≠ 34)) && decide (x ≠ 32) && !Ln.sign x)) := Lib.hid (by
    unfold Ln.plain Ln.okq
    rw [Bool.eq_iff_iff]
    simp only [Bool.and_eq_true, decide_eq_true_eq]
    constructor
    · rintro ⟨⟨⟨h1, h2⟩, h3⟩, h4⟩
      exact ⟨⟨⟨⟨by omega, by omega⟩, h3⟩, by omega⟩, h4⟩
    · rintro ⟨⟨⟨⟨h1, h2⟩, h3⟩, h5⟩, h4⟩
      exact ⟨⟨⟨by omega, by omega⟩, h3⟩, h4⟩)
  clear hx
  go_enter Tryz.func90, Tryz.ntmps90
  go_wp2_with fail
  refine (within_any x _).mono ?_
  rintro e w2 ⟨rfl, rfl⟩
  cases ha : (Ln.okq x && decide (x ≠ 34))
  · have HE : Hid (Ln.plain x = false) := Lib.hid (by rw [HP.out, ha]; rfl)
    clear ha HP
    go_wp2
    go_ret
    exact ⟨by rw [HE.out]; rfl, rfl⟩
  · by_cases hb : x = 32
    · subst hb
      have HE : Hid (Ln.plain 32 = false) := Lib.hid rfl
      clear ha HP
      go_wp2
      go_ret
      exact ⟨by rw [HE.out]; rfl, rfl⟩
    · have d2 : ((x : Int) != 32) = true := by simp; omega
      have HE : Hid (Ln.plain x = !Ln.sign x) := Lib.hid (by rw [HP.out, ha]; simp [hb])
      clear ha HP hb
      go_wp2_with fail
      refine (sign_any x HX.out _).mono ?_
      rintro e w3 ⟨rfl, rfl⟩
      go_wp2
      go_ret
      exact ⟨by rw [HE.out]; rfl, rfl⟩
end Go.Proofs.YtgjehlegcmeeoaaGreatDoor

/- The reader goes to where the next word begins; a word of plain bytes. -/
namespace Go.Proofs.YtgjehlegcmeeoaaGreatDoor
set_option maxRecDepth 100000
open Go.ChangeShapes Go.WideShapes Go.ChangeAt Go.RowKit

theorem blank_q (x : Nat) (q : Bool) (hq : decide (x = 32 ∨ x = 9) = q) (w : World) (n : Nat) : Calls Tryz.prog 86 #[.int .u8 x] (w.drewN n) fun e w' => e = .returned (.bool q) ∧ ∃ m, w' = w.drewN m := by
  subst hq
  exact (blank_any x _).mono fun e w' ⟨h1, h2⟩ => ⟨h1, n, h2.symm⟩
theorem may_q (x : Nat) (q : Bool) (hx : x < 256) (hq : Ln.plain x = q) (w : World) (n : Nat) : Calls Tryz.prog 90 #[.int .u8 x] (w.drewN n) fun e w' => e = .returned (.bool q) ∧ ∃ m, w' = w.drewN m := by
  subst hq
  exact (lmay_any x hx _).mono fun e w' ⟨h1, h2⟩ => ⟨h1, n, h2.symm⟩
/-- What is told of what stands at the reader's place: a word, behind which it then is; or a fault. -/
def NIs (w0 : World) (v : Value) (t : List Nat) (num g i : Nat) (w : World) : Ln.Tok → Ending → World → Prop
  | .skip _, _, _ => False
  | .word s m q, e, w' => e = .returned (.tuple #[.agg (cellsW ⟨s, num, i + 1, q⟩).toArray, .agg #[.int .i64 0, .int .i64 0, .int .i64 0]]) ∧ w.grownBy w' (some g) ∧ Rd w0 v t num g (i + m) w'
  | .bad k o, e, w' => (∃ y : Ln.W, e = .returned (.tuple #[.agg (cellsW y).toArray, .agg #[.int .i64 (k : Int), .int .i64 (num : Int), .int .i64 ((i + 1 + o : Nat) : Int)]])) ∧ w.grownBy w' (some g) ∧ Rd w0 v t num g i w'
theorem nis_bad {w0 : World} {v : Value} {t : List Nat} {num g i k o : Nat} {w w' : World} {T : Ln.Tok} {e : Ending} (h : T = .bad k o) (y : Ln.W) (he : e = .returned (.tuple #[.agg (cellsW y).toArray, .agg #[.int .i64 (k : Int), .int .i64 (num : Int), .int .i64 ((i + 1 + o : Nat) : Int)]])) (hg : w.grownBy w' (some g)) (hr : Rd w0 v t num g i w') : NIs w0 v t num g i w T e w' := by
  rw [h]
  exact ⟨⟨y, he⟩, hg, hr⟩
theorem nis_word {w0 : World} {v : Value} {t s : List Nat} {num g i m : Nat} {q : Bool} {w w' : World} {T : Ln.Tok} {e : Ending} (h : T = .word s m q) (he : e = .returned (.tuple #[.agg (cellsW ⟨s, num, i + 1, q⟩).toArray, .agg #[.int .i64 0, .int .i64 0, .int .i64 0]])) (hg : w.grownBy w' (some g)) (hr : Rd w0 v t num g (i + m) w') : NIs w0 v t num g i w T e w' := by
  rw [h]
  exact ⟨he, hg, hr⟩
theorem results_cell_cell {P : Program} {fn : Func} {p1 p2 : Tmp} {ty1 ty2 : TypeId} (h : fn.results = #[.cell p1 ty1, .cell p2 ty2]) (tmps : Array Value) (w : World) (g1 g2 : Nat) (bt1 bt2 : TypeId) (cs1 cs2 : Array Value) (fr1 fr2 : Nat × Nat) (d1 d2 : TypeDesc)
    (hp1 : tmps.getD p1 undef = .pointer (some ⟨g1, 0, none⟩)) (hp2 : tmps.getD p2 undef = .pointer (some ⟨g2, 0, none⟩)) (hg1 : w.heap[g1]? = some (.cells cs1 bt1 fr1)) (hg2 : w.heap[g2]? = some (.cells cs2 bt2 fr2))
    (hu1 : P.underlying ty1 = some d1) (hd1 : (match d1 with | .struct _ | .array _ _ => true | _ => false) = true) (hi1 : (P.info? ty1).map (·.size) = some cs1.size)
    (hu2 : P.underlying ty2 = some d2) (hd2 : (match d2 with | .struct _ | .array _ _ => true | _ => false) = true) (hi2 : (P.info? ty2).map (·.size) = some cs2.size) :
    (results fn tmps).run P w = .ok (.tuple #[.agg cs1, .agg cs2]) w := by
  have hp1' : tmps[p1]?.getD undef = .pointer (some ⟨g1, 0, none⟩) := by simpa using hp1
  have hp2' : tmps[p2]?.getD undef = .pointer (some ⟨g2, 0, none⟩) := by simpa using hp2
  simp [results, h, hp1', hp2', asAddr, run_loadVar_row w g1 bt1 ty1 cs1 fr1 d1 hg1 hu1 hd1 hi1, run_loadVar_row w g2 bt2 ty2 cs2 fr2 d2 hg2 hu2 hd2 hi2]
/-- The two cells that a call's results lie in. -/
def Outs (W : World) (a : Nat) : Prop := Blk W a 55 #[.string ⟨#[]⟩, .int .i64 0, .int .i64 0, .bool false] ∧ Blk W (a + 1) 23 #[.int .i64 0, .int .i64 0, .int .i64 0]
theorem outs_new (w : World) : Outs ((w.alloc (.cells #[.string ⟨#[]⟩, .int .i64 0, .int .i64 0, .bool false] 55)).alloc (.cells #[.int .i64 0, .int .i64 0, .int .i64 0] 23)) w.heap.size :=
  ⟨Blk.alloc (heap_alloc_new w _) _, by
    rw [show w.heap.size + 1 = (w.alloc (.cells #[.string ⟨#[]⟩, .int .i64 0, .int .i64 0, .bool false] 55)).heap.size from by simp]
    exact heap_alloc_new _ _⟩
theorem Outs.size {W : World} {a : Nat} (h : Outs W a) : a + 1 < W.heap.size := h.2.size
theorem Outs.under {W W' : World} {a : Nat} (h : Outs W a) (hb : Below W.heap.size W W') : Outs W' a := ⟨h.1.under hb, h.2.under hb⟩
theorem Outs.alloc {W : World} {a : Nat} (h : Outs W a) (o : Obj) : Outs (W.alloc o) a := h.under ((Below.refl _ _).alloc (Nat.le_refl _) _)
theorem Outs.drew {W : World} {a : Nat} (h : Outs W a) (n : Nat) : Outs (W.drewN n) a := h
theorem Outs.grown {W W' : World} {a g : Nat} (h : Outs W a) (hb : W.grownBy W' (some g)) (hg : g < a) : Outs W' a := ⟨h.1.grown hb (by simp; omega), h.2.grown hb (by simp; omega)⟩
theorem Outs.facts {W : World} {a : Nat} (h : Outs W a) : W.cell? ⟨a, 0, none⟩ = some (.string ⟨#[]⟩) ∧ W.cell? ⟨a, 1, none⟩ = some (.int .i64 0) ∧ W.cell? ⟨a, 2, none⟩ = some (.int .i64 0) ∧ W.cell? ⟨a, 3, none⟩ = some (.bool false) ∧
    W.frozen? ⟨a, 0, none⟩ = false ∧ W.frozen? ⟨a, 1, none⟩ = false ∧ W.frozen? ⟨a, 2, none⟩ = false ∧ W.frozen? ⟨a, 3, none⟩ = false ∧
    W.cell? ⟨a + 1, 0, none⟩ = some (.int .i64 0) ∧ W.cell? ⟨a + 1, 1, none⟩ = some (.int .i64 0) ∧ W.cell? ⟨a + 1, 2, none⟩ = some (.int .i64 0) ∧ W.frozen? ⟨a + 1, 0, none⟩ = false ∧ W.frozen? ⟨a + 1, 1, none⟩ = false ∧ W.frozen? ⟨a + 1, 2, none⟩ = false :=
  ⟨h.1.at 0, h.1.at 1, h.1.at 2, h.1.at 3, h.1.free 0, h.1.free 1, h.1.free 2, h.1.free 3, h.2.at 0, h.2.at 1, h.2.at 2, h.2.free 0, h.2.free 1, h.2.free 2⟩
abbrev put7 (W : World) (a : Nat) (x0 x1 x2 x3 y0 y1 y2 : Value) : World :=
  ((((((W.setCell ⟨a, 0, none⟩ x0).setCell ⟨a, 1, none⟩ x1).setCell ⟨a, 2, none⟩ x2).setCell ⟨a, 3, none⟩ x3).setCell ⟨a + 1, 0, none⟩ y0).setCell ⟨a + 1, 1, none⟩ y1).setCell ⟨a + 1, 2, none⟩ y2
theorem Outs.full1 {W : World} {a : Nat} (h : Outs W a) (x0 x1 x2 x3 y0 y1 y2 : Value) : Blk (put7 W a x0 x1 x2 x3 y0 y1 y2) a 55 #[x0, x1, x2, x3] :=
  ((((((h.1.set 0 x0).set 1 x1).set 2 x2).set 3 x3).setOther (by simp) _).setOther (by simp) _).setOther (by simp) _
theorem Outs.full2 {W : World} {a : Nat} (h : Outs W a) (x0 x1 x2 x3 y0 y1 y2 : Value) : Blk (put7 W a x0 x1 x2 x3 y0 y1 y2) (a + 1) 23 #[y0, y1, y2] :=
  (((((((h.2.setOther (by simp) _).setOther (by simp) _).setOther (by simp) _).setOther (by simp) _).set 0 y0).set 1 y1).set 2 y2)
theorem grow_put7 {w W : World} {a g : Nat} (h : w.grownBy W (some g)) (ha : w.heap.size ≤ a) (x0 x1 x2 x3 y0 y1 y2 : Value) : w.grownBy (put7 W a x0 x1 x2 x3 y0 y1 y2) (some g) :=
  grow_set (grow_set (grow_set (grow_set (grow_set (grow_set (grow_set h (.inl ha) _) (.inl ha) _) (.inl ha) _) (.inl ha) _) (.inl (Nat.le_succ_of_le ha)) _) (.inl (Nat.le_succ_of_le ha)) _) (.inl (Nat.le_succ_of_le ha)) _
theorem Rd.put7 {w0 W : World} {v : Value} {t : List Nat} {num g i a : Nat} (h : Rd w0 v t num g i W) (hg : g < a) (x0 x1 x2 x3 y0 y1 y2 : Value) : Rd w0 v t num g i (put7 W a x0 x1 x2 x3 y0 y1 y2) := by
  have h0 := h.2.2.1
  exact ((((((h.setOther (by simp; omega) (by simp; omega) _).setOther (by simp; omega) (by simp; omega) _).setOther (by simp; omega) (by simp; omega) _).setOther (by simp; omega) (by simp; omega) _).setOther (by simp; omega) (by simp; omega) _).setOther (by simp; omega) (by simp; omega) _).setOther (by simp; omega) (by simp; omega) _
/-- Where the reader goes on: behind all blanks; a word begins there, or none. -/
def MoreIs (w0 : World) (v : Value) (t : List Nat) (num g i : Nat) (w : World) (e : Ending) (w' : World) : Prop :=
  ∃ j, i ≤ j ∧ j ≤ t.length ∧ (∀ y, i ≤ y → y < j → t.getD y 0 = 32 ∨ t.getD y 0 = 9) ∧ Rd w0 v t num g j w' ∧ w.grownBy w' (some g) ∧
    ((e = .returned (.bool false) ∧ (j = t.length ∨ (j < t.length ∧ t.getD j 0 = 35))) ∨ (e = .returned (.bool true) ∧ j < t.length ∧ ¬ (t.getD j 0 = 32 ∨ t.getD j 0 = 9) ∧ t.getD j 0 ≠ 35))
theorem grow_refl (w : World) (row : Option Nat) : w.grownBy w row := World.grownBy.refl w row
theorem grow_drew {w W : World} {row : Option Nat} (h : w.grownBy W row) (n : Nat) : w.grownBy (W.drewN n) row := ⟨h.os, h.tape, h.output, h.size, h.block⟩
set_option maxRecDepth 100000 in
set_option maxHeartbeats 4000000 in
theorem more_any (v : Value) (t : List Nat) (num g i : Nat) (w0 w : World) (h : Rd w0 v t num g i w) (hi : i ≤ t.length) (ht : t.length ≤ 1000000) :
    Calls Tryz.prog 60 #[.pointer (some ⟨g, 0, none⟩)] w (MoreIs w0 v t num g i w) := by
  have HR := Lib.hid h
  obtain ⟨_, _, A, c, rfl, hc, _⟩ := h.bytes.parts
  clear h
  obtain ⟨n, hn⟩ : ∃ n, t.length = n := ⟨_, rfl⟩
  rw [hn] at hi ht hc HR ⊢
  have HN := Lib.hid hn
  clear hn
  go_enter Tryz.func60, Tryz.ntmps60
  go_wp2_with fail
  go_loopw [] (fun wr => ∃ j, i ≤ j ∧ j ≤ n ∧ Hid (∀ y, i ≤ y → y < j → t.getD y 0 = 32 ∨ t.getD y 0 = 9) ∧ Hid (Rd w0 (.slice A n c) t num g j wr) ∧ Hid (w.grownBy wr (some g))) (fun wr => n - (intOf ((wr.cell? ⟨g, 2, none⟩).getD undef)).toNat)
  case atStart => exact ⟨i, Nat.le_refl _, hi, Lib.hid (by omega), HR, Lib.hid (grow_refl w _)⟩
  case round =>
    obtain ⟨j, hij, hjn, hbl, hR, hG⟩ := hrel
    have g0 : wr.cell? ⟨g, 0, none⟩ = some (.slice A n c) := hR.out.blk.at 0
    have g2 : wr.cell? ⟨g, 2, none⟩ = some (.int .i64 (j : Int)) := hR.out.blk.at 2
    have gf := hR.out.blk.free 2
    by_cases hj : j < n
    · have hjI : (j : Int) < (n : Int) := by omega
      obtain ⟨h8, _, A', c', hAe, _, hcell⟩ := hR.out.bytes.parts
      injection hAe with e1 e2 e3
      subst e1
      obtain ⟨bb, off, rfl, hcl⟩ := hcell (by rw [HN.out]; omega)
      have hck := hcl j (by rw [HN.out]; exact hj)
      have h8j := u8_lt h8 j
      clear hcell hcl e2 e3 h8
      obtain ⟨z, hz⟩ : ∃ z, t.getD j 0 = z := ⟨_, rfl⟩
      rw [hz] at hck h8j
      have HZ := Lib.hid hz
      have HZ8 := Lib.hid h8j
      clear hz h8j
      by_cases hb : z = 32 ∨ z = 9
      · have HB := Lib.hid hb
        clear hb
        go_wp2
        go_quiet ((go_at_call 86; exact blank_q z true (decide_eq_true HB.out) _ _))
        go_wp2
        go_roundw
        case rel =>
          refine ⟨j + 1, by omega, by omega, Lib.hid fun y h1 h2 => ?_, Lib.hid ((hR.out.heap _ rfl).move (j + 1)), Lib.hid (grow_set (grow_drew hG.out _) (.inr rfl) _)⟩
          rcases Nat.lt_or_ge y j with h | h
          · exact hbl.out y h1 h
          · rw [show y = j from by omega, HZ.out]
            exact HB.out
        case measure =>
          have h2 : ((wr.drewN nq).setCell ⟨g, 2, none⟩ (.int .i64 ((j : Int) + 1))).cell? ⟨g, 2, none⟩ = some (.int .i64 ((j + 1 : Nat) : Int)) := ((hR.out.heap nq rfl).move (j + 1)).blk.at 2
          rw [h2, g2]
          simp [intOf]
          omega
      · have HB := Lib.hid hb
        by_cases h35 : z = 35
        · subst h35
          clear hb
          go_wp2
          go_quiet ((go_at_call 86; exact blank_q 35 false rfl _ _))
          go_wp2
          go_quiet (fail)
          go_wp2
          go_ret
          exact ⟨j, hij, by rw [HN.out]; exact hjn, hbl.out, (hR.out.heap _ rfl).heap _ rfl, grow_drew (grow_drew hG.out _) _, .inl ⟨rfl, .inr ⟨by rw [HN.out]; exact hj, HZ.out⟩⟩⟩
        · have d35 : ((z : Int) != 35) = true := by simp; omega
          have H35 := Lib.hid h35
          clear hb h35
          go_wp2
          go_quiet ((go_at_call 86; exact blank_q z false (decide_eq_false HB.out) _ _))
          go_wp2
          go_quiet (fail)
          go_wp2
          go_ret
          exact ⟨j, hij, by rw [HN.out]; exact hjn, hbl.out, (hR.out.heap _ rfl).heap _ rfl, grow_drew (grow_drew hG.out _) _, .inr ⟨rfl, by rw [HN.out]; exact hj, by rw [HZ.out]; exact HB.out, by rw [HZ.out]; exact H35.out⟩⟩
    · obtain rfl : j = n := by omega
      have d1 : decide ((j : Int) < (j : Int)) = false := by simp
      go_wp2
      go_quiet (fail)
      go_wp2
      go_quiet (fail)
      go_wp2
      go_ret
      exact ⟨j, hij, by rw [HN.out]; exact Nat.le_refl _, hbl.out, (hR.out.heap _ rfl).heap _ rfl, grow_drew (grow_drew hG.out _) _, .inl ⟨rfl, .inl HN.out.symm⟩⟩
set_option maxRecDepth 100000 in
set_option maxHeartbeats 4000000 in
theorem lplain_any (v : Value) (t : List Nat) (num g i : Nat) (w0 w : World) (h : Rd w0 v t num g i w) (hi : i < t.length) (ht : t.length ≤ 1000000)
    (T : Ln.Tok) (hT : T = if 64 < ((t.drop (i + 1)).takeWhile Ln.plain).length + 1 then .bad 3 0 else .word (t.getD i 0 :: (t.drop (i + 1)).takeWhile Ln.plain) (((t.drop (i + 1)).takeWhile Ln.plain).length + 1) false) :
    Calls Tryz.prog 91 #[.pointer (some ⟨g, 0, none⟩)] w (NIs w0 v t num g i w T) := by
  have HT := Lib.hid hT
  clear hT
  have HR := Lib.hid h
  have h8 := h.bytes.1
  obtain ⟨_, _, A, c, rfl, hc, _⟩ := h.bytes.parts
  clear h
  obtain ⟨n, hn⟩ : ∃ n, t.length = n := ⟨_, rfl⟩
  rw [hn] at hi ht hc HR ⊢
  have HN := Lib.hid hn
  have H8 := Lib.hid (u8_lt h8)
  clear hn h8
  have hg0 := HR.out.size
  go_enter Tryz.func91, Tryz.ntmps91
  go_wp2_with fail
  go_loopw [4] (fun kv wr => ∃ k : Nat, 1 ≤ k ∧ i + k ≤ n ∧ kv = .int .i64 (k : Int) ∧ Hid (∀ y, i + 1 ≤ y → y < i + k → Ln.plain (t.getD y 0) = true) ∧ Hid (Rd w0 (.slice A n c) t num g i wr) ∧ Hid (Outs wr w.heap.size) ∧ Hid (w.grownBy wr (some g))) (fun kv _ => n - (intOf kv).toNat)
  case atStart => exact ⟨1, Nat.le_refl _, hi, rfl, Lib.hid (by omega), Lib.hid ((HR.out.alloc _).alloc _), Lib.hid (outs_new w), Lib.hid (Below.toGrown (((Below.refl _ _).alloc (Nat.le_refl _) _).alloc (by simp) _) _)⟩
  case round =>
    obtain ⟨k, hk1, hkn, rfl, hpl, hR, hO, hG⟩ := hrel
    have g0 : wr.cell? ⟨g, 0, none⟩ = some (.slice A n c) := hR.out.blk.at 0
    have g2 : wr.cell? ⟨g, 2, none⟩ = some (.int .i64 (i : Int)) := hR.out.blk.at 2
    obtain ⟨e, he⟩ : ∃ e : Nat, (i : Int) + (k : Int) = (e : Int) := ⟨i + k, by omega⟩
    have HE : Hid (i + k = e) := Lib.hid (by omega)
    have fin : Hid (e = n ∨ Ln.plain (t.getD e 0) = false) → Hid (T = if 64 < k then .bad 3 0 else .word ((t.drop i).take k) k false) := fun hf => Lib.hid (by
      have hrun := Ln.takeWhile_from Ln.plain t (i + 1) (i + k) (by omega) (by rw [HN.out]; omega) hpl.out (fun hlt => by
        rcases hf.out with h | h
        · have := HE.out
          rw [HN.out] at hlt
          omega
        · rw [HE.out]; exact h)
      rw [HT.out, hrun.2, hrun.1, Ln.drop_cons (i := i) (by rw [HN.out]; exact hi), show i + k - (i + 1) + 1 = k from by omega]
      obtain ⟨k', rfl⟩ : ∃ k', k = k' + 1 := ⟨k - 1, by omega⟩
      rw [List.take_succ_cons, show i + (k' + 1) - (i + 1) = k' from by omega])
    have HF := Lib.hid fin
    clear fin
    by_cases hj : e < n
    · have hjI : (e : Int) < (n : Int) := by omega
      obtain ⟨h8, _, A', c', hAe, _, hcell⟩ := hR.out.bytes.parts
      injection hAe with e1 e2 e3
      subst e1
      obtain ⟨bb, off, rfl, hcl⟩ := hcell (by rw [HN.out]; omega)
      have hck := hcl e (by rw [HN.out]; exact hj)
      clear hcell hcl e2 e3 h8
      obtain ⟨z, hz⟩ : ∃ z, t.getD e 0 = z := ⟨_, rfl⟩
      have HZ8 : Hid (z < 256) := Lib.hid (by rw [← hz]; exact H8.out e)
      rw [hz] at hck
      have HZ := Lib.hid hz
      clear hz
      rcases hb : Ln.plain z with _ | _
      · have HB := Lib.hid hb
        have HT2 := HF.out (Lib.hid (.inr (by rw [HZ.out]; exact hb)))
        clear hb HF
        go_wp2
        go_quiet ((go_at_call 90; exact may_q z false HZ8.out HB.out _ _))
        rcases Nat.lt_or_ge 64 k with hL | hL
        · have hL' : (64 : Int) < (k : Int) := by omega
          have HT3 := Lib.hid (HT2.out.trans (if_pos hL))
          clear hL
          go_wp2_with fail
          refine (ownfault_any 3 (.slice (some ⟨bb, off, none⟩) n c) t num g i i w0 _ (hR.out.heap _ rfl) (by omega)).mono ?_
          rintro ex w2 ⟨rfl, hb2⟩
          have hO2 := (hO.out.drew _).under hb2
          have HG2 := Lib.hid (grow_below (grow_drew hG.out _) (hb2.mono (grow_drew hG.out _).size))
          have HR2 := Lib.hid ((hR.out.heap _ rfl).under hb2)
          have HO2 := Lib.hid hO2
          obtain ⟨b0, b1, b2, b3, bf0, bf1, bf2, bf3, f0, f1, f2, ff0, ff1, ff2⟩ := hO2.facts
          clear hO2 hb2 g0 g2
          go_wp2
          refine bodyPost_ret (results_cell_cell rfl _ _ w.heap.size (w.heap.size + 1) _ _ _ _ _ _ _ _ rfl rfl (HO2.out.full1 _ _ _ _ _ _ _) (HO2.out.full2 _ _ _ _ _ _ _) Tryz.underlying55 rfl (by kernel_rfl) Tryz.underlying23 rfl (by kernel_rfl)) rfl ?_
          exact nis_bad HT3.out ⟨[], 0, 0, false⟩ rfl (grow_put7 HG2.out (Nat.le_refl _) _ _ _ _ _ _ _) (HR2.out.put7 hg0 _ _ _ _ _ _ _)
        · have hL' : ¬ (64 : Int) < (k : Int) := by omega
          have HT3 := Lib.hid (HT2.out.trans (if_neg (by omega)))
          clear hL
          go_wp2_with fail
          refine (take_any (.slice (some ⟨bb, off, none⟩) n c) t num g i k w0 _ (hR.out.heap _ rfl) hk1 (by rw [HN.out]; exact hkn) (by rw [HN.out]; exact ht)).mono ?_
          rintro ex w2 ⟨rfl, hg2, hr2⟩
          have hO2 := (hO.out.drew _).grown hg2 hg0
          have HG2 := Lib.hid (grow_trans (grow_drew hG.out _) hg2)
          have HR2 := Lib.hid hr2
          have HO2 := Lib.hid hO2
          obtain ⟨b0, b1, b2, b3, bf0, bf1, bf2, bf3, f0, f1, f2, ff0, ff1, ff2⟩ := hO2.facts
          clear hO2 hg2 hr2 g0 g2
          rw [show (cellsW (⟨(t.drop i).take k, num, i + 1, false⟩ : Ln.W)).toArray = #[.string (str ((t.drop i).take k)), .int .i64 (num : Int), .int .i64 ((i + 1 : Nat) : Int), .bool false] from rfl]
          go_wp2
          refine bodyPost_ret (results_cell_cell rfl _ _ w.heap.size (w.heap.size + 1) _ _ _ _ _ _ _ _ rfl rfl (HO2.out.full1 _ _ _ _ _ _ _) (HO2.out.full2 _ _ _ _ _ _ _) Tryz.underlying55 rfl (by kernel_rfl) Tryz.underlying23 rfl (by kernel_rfl)) rfl ?_
          exact nis_word HT3.out rfl (grow_put7 HG2.out (Nat.le_refl _) _ _ _ _ _ _ _) (HR2.out.put7 hg0 _ _ _ _ _ _ _)
      · have HB := Lib.hid hb
        clear hb
        go_wp2
        go_quiet ((go_at_call 90; exact may_q z true HZ8.out HB.out _ _))
        go_wp2
        go_roundw
        case rel =>
          refine ⟨k + 1, by omega, by have := HE.out; omega, by go_num, Lib.hid fun y h1 h2 => ?_, Lib.hid (hR.out.heap _ rfl), Lib.hid (hO.out.drew _), Lib.hid (grow_drew hG.out _)⟩
          rcases Nat.lt_or_ge y (i + k) with h | h
          · exact hpl.out y h1 h
          · rw [show y = e from by have := HE.out; omega, HZ.out]
            exact HB.out
        case measure => have := HE.out; simp [intOf]; omega
    · obtain rfl : e = n := by have := HE.out; omega
      have HT2 := HF.out (Lib.hid (.inl rfl))
      clear HF
      have d1 : decide ((e : Int) < (e : Int)) = false := by simp
      go_wp2
      go_quiet (fail)
      rcases Nat.lt_or_ge 64 k with hL | hL
      · have hL' : (64 : Int) < (k : Int) := by omega
        have HT3 := Lib.hid (HT2.out.trans (if_pos hL))
        clear hL
        go_wp2_with fail
        refine (ownfault_any 3 (.slice A e c) t num g i i w0 _ (hR.out.heap _ rfl) (by omega)).mono ?_
        rintro ex w2 ⟨rfl, hb2⟩
        have hO2 := (hO.out.drew _).under hb2
        have HG2 := Lib.hid (grow_below (grow_drew hG.out _) (hb2.mono (grow_drew hG.out _).size))
        have HR2 := Lib.hid ((hR.out.heap _ rfl).under hb2)
        have HO2 := Lib.hid hO2
        obtain ⟨b0, b1, b2, b3, bf0, bf1, bf2, bf3, f0, f1, f2, ff0, ff1, ff2⟩ := hO2.facts
        clear hO2 hb2 g0 g2
        go_wp2
        refine bodyPost_ret (results_cell_cell rfl _ _ w.heap.size (w.heap.size + 1) _ _ _ _ _ _ _ _ rfl rfl (HO2.out.full1 _ _ _ _ _ _ _) (HO2.out.full2 _ _ _ _ _ _ _) Tryz.underlying55 rfl (by kernel_rfl) Tryz.underlying23 rfl (by kernel_rfl)) rfl ?_
        exact nis_bad HT3.out ⟨[], 0, 0, false⟩ rfl (grow_put7 HG2.out (Nat.le_refl _) _ _ _ _ _ _ _) (HR2.out.put7 hg0 _ _ _ _ _ _ _)
      · have hL' : ¬ (64 : Int) < (k : Int) := by omega
        have HT3 := Lib.hid (HT2.out.trans (if_neg (by omega)))
        clear hL
        go_wp2_with fail
        refine (take_any (.slice A e c) t num g i k w0 _ (hR.out.heap _ rfl) hk1 (by rw [HN.out]; exact hkn) (by rw [HN.out]; exact ht)).mono ?_
        rintro ex w2 ⟨rfl, hg2, hr2⟩
        have hO2 := (hO.out.drew _).grown hg2 hg0
        have HG2 := Lib.hid (grow_trans (grow_drew hG.out _) hg2)
        have HR2 := Lib.hid hr2
        have HO2 := Lib.hid hO2
        obtain ⟨b0, b1, b2, b3, bf0, bf1, bf2, bf3, f0, f1, f2, ff0, ff1, ff2⟩ := hO2.facts
        clear hO2 hg2 hr2 g0 g2
        rw [show (cellsW (⟨(t.drop i).take k, num, i + 1, false⟩ : Ln.W)).toArray = #[.string (str ((t.drop i).take k)), .int .i64 (num : Int), .int .i64 ((i + 1 : Nat) : Int), .bool false] from rfl]
        go_wp2
        refine bodyPost_ret (results_cell_cell rfl _ _ w.heap.size (w.heap.size + 1) _ _ _ _ _ _ _ _ rfl rfl (HO2.out.full1 _ _ _ _ _ _ _) (HO2.out.full2 _ _ _ _ _ _ _) Tryz.underlying55 rfl (by kernel_rfl) Tryz.underlying23 rfl (by kernel_rfl)) rfl ?_
        exact nis_word HT3.out rfl (grow_put7 HG2.out (Nat.le_refl _) _ _ _ _ _ _ _) (HR2.out.put7 hg0 _ _ _ _ _ _ _)
end Go.Proofs.YtgjehlegcmeeoaaGreatDoor

/- The reader reads a text in quotes. -/
namespace Go.Proofs.YtgjehlegcmeeoaaGreatDoor
set_option maxRecDepth 100000
open Go.ChangeShapes Go.WideShapes Go.ChangeAt Go.RowKit

set_option maxRecDepth 100000 in
set_option maxHeartbeats 4000000 in
theorem quoted_any (v : Value) (t : List Nat) (num g i : Nat) (w0 w : World) (h : Rd w0 v t num g i w) (hi : i < t.length) (ht : t.length ≤ 1000000) (h10 : ∀ x ∈ t, x ≠ 10)
    (T : Ln.Tok) (hT : T = Ln.tokq (t.drop (i + 1))) :
    Calls Tryz.prog 87 #[.pointer (some ⟨g, 0, none⟩)] w (NIs w0 v t num g i w T) := by
  have HT := Lib.hid hT
  clear hT
  have HR := Lib.hid h
  have h8 := h.bytes.1
  have hV := h.bytes
  obtain ⟨_, _, A, c, rfl, hc, hcell⟩ := h.bytes.parts
  obtain ⟨bb, off, rfl, _⟩ := hcell (by omega)
  clear h hcell
  obtain ⟨n, hn⟩ : ∃ n, t.length = n := ⟨_, rfl⟩
  rw [hn] at hi ht hc HR hV ⊢
  have HN := Lib.hid hn
  have H8 := Lib.hid (u8_lt h8)
  have H10 := Lib.hid h10
  clear hn h8 h10
  have hg0 := HR.out.size
  obtain ⟨q, hq⟩ : ∃ q : Nat, (i : Int) + 1 = (q : Int) := ⟨i + 1, by omega⟩
  have HQ : Hid (i + 1 = q) := Lib.hid (by omega)
  have hqn : (q : Int) ≤ (n : Int) := by omega
  have hq0 : (0 : Int) ≤ (q : Int) := by omega
  obtain ⟨r, hr⟩ : ∃ r, t.drop q = r := ⟨_, rfl⟩
  have HRL : Hid (r.length = n - q) := Lib.hid (by rw [← hr, List.length_drop, HN.out])
  have HRD : Hid (∀ y, r.getD y 0 = t.getD (q + y) 0) := Lib.hid (fun y => by rw [← hr, Ln.drop_getD])
  have HR10 : Hid (∀ x ∈ r, x ≠ 10) := Lib.hid (fun x hx => H10.out x (List.mem_of_mem_drop (by rw [← hr] at hx; exact hx)))
  have HTR : Hid (T = Ln.tokq r) := Lib.hid (by rw [HT.out, HQ.out, hr])
  have HRR := Lib.hid hr
  obtain ⟨ad, had⟩ : ∃ ad : Addr, (if c = q then some (⟨bb, off, none⟩ : Addr) else some ⟨bb, off + q, none⟩) = some ad := by split <;> exact ⟨_, rfl⟩
  have hVr := hV.tail (k := q) (d := c - q) (A' := some ad) (by omega) (by omega) (fun hlt b0 o0 e => by
    injection e with e
    injection e with e1 e2
    subst e1 e2
    rw [← had, if_neg (by omega)])
  rw [hr] at hVr
  have HVR := Lib.hid hVr
  have g0 : ∀ o o', ((w.alloc o).alloc o').cell? ⟨g, 0, none⟩ = some (.slice (some ⟨bb, off, none⟩) n c) := fun o o' => ((HR.out.alloc o).alloc o').blk.at 0
  have g2 : ∀ o o', ((w.alloc o).alloc o').cell? ⟨g, 2, none⟩ = some (.int .i64 (i : Int)) := fun o o' => ((HR.out.alloc o).alloc o').blk.at 2
  clear hV HT hr hVr
  go_enter Tryz.func87, Tryz.ntmps87
  go_wp2_with fail
  refine (lindex_any ad (n - q) (c - q) 34 r _ ((HVR.out.alloc _).alloc _) (by omega)).mono ?_
  rintro ex w2 ⟨⟨idx, rfl, hidx⟩, hw2⟩
  have hO : Hid (Outs w2 w.heap.size) := Lib.hid (by rw [← hw2]; exact outs_new w)
  have hR : Hid (Rd w0 (.slice (some ⟨bb, off, none⟩) n c) t num g i w2) := Lib.hid (by rw [← hw2]; exact (HR.out.alloc _).alloc _)
  have hG : Hid (w.grownBy w2 (some g)) := Lib.hid (by rw [← hw2]; exact Below.toGrown (((Below.refl _ _).alloc (Nat.le_refl _) _).alloc (by simp) _) _)
  clear g0 g2 hw2 HVR
  have g0 : w2.cell? ⟨g, 0, none⟩ = some (.slice (some ⟨bb, off, none⟩) n c) := hR.out.blk.at 0
  have g2 : w2.cell? ⟨g, 2, none⟩ = some (.int .i64 (i : Int)) := hR.out.blk.at 2
  rcases hidx with ⟨k, hk, hk34, hkn, rfl⟩ | ⟨hno, rfl⟩
  · have HK := Lib.hid hk
    have HK34 := Lib.hid hk34
    have HKN := Lib.hid hkn
    have hkn0 : k < n - q := by rw [← HRL.out]; exact hk
    clear hk hk34 hkn
    rcases Nat.lt_or_ge 64 k with hL | hL
    · have hL' : (64 : Int) < (k : Int) := by omega
      have HT3 : Hid (T = .bad 3 0) := Lib.hid (by
        rw [HTR.out, Ln.tokq_shut (m := ((r.take k).takeWhile Ln.okq).length) HR10.out HK.out HK34.out HKN.out ?_ ?_ ?_, if_pos hL]
        · have := Ln.takeWhile_le Ln.okq (r.take k)
          rw [List.length_take] at this
          omega
        · intro y hy
          have h1 := Ln.takeWhile_getD (r.take k) y hy
          have h2 := Ln.takeWhile_le Ln.okq (r.take k)
          rw [List.length_take] at h2
          rwa [List.getD_eq_getElem?_getD, List.getElem?_take, if_pos (by omega), ← List.getD_eq_getElem?_getD] at h1
        · exact Ln.takeWhile_where Ln.okq r k (by have := HK.out; omega))
      clear hL
      go_wp2_with fail
      refine (ownfault_any 3 (.slice (some ⟨bb, off, none⟩) n c) t num g i i w0 _ hR.out (by omega)).mono ?_
      rintro ex w3 ⟨rfl, hb2⟩
      have hO2 := hO.out.under hb2
      have HG2 := Lib.hid (grow_below hG.out (hb2.mono hG.out.size))
      have HR2 := Lib.hid (hR.out.under hb2)
      have HO2 := Lib.hid hO2
      obtain ⟨b0, b1, b2, b3, bf0, bf1, bf2, bf3, f0, f1, f2, ff0, ff1, ff2⟩ := hO2.facts
      clear hO2 hb2 g0 g2
      go_wp2
      refine bodyPost_ret (results_cell_cell rfl _ _ w.heap.size (w.heap.size + 1) _ _ _ _ _ _ _ _ rfl rfl (HO2.out.full1 _ _ _ _ _ _ _) (HO2.out.full2 _ _ _ _ _ _ _) Tryz.underlying55 rfl (by kernel_rfl) Tryz.underlying23 rfl (by kernel_rfl)) rfl ?_
      exact nis_bad HT3.out ⟨[], 0, 0, false⟩ (by rw [show i + 1 + 0 = q from HQ.out]; rfl) (grow_put7 HG2.out (Nat.le_refl _) _ _ _ _ _ _ _) (HR2.out.put7 hg0 _ _ _ _ _ _ _)
    · have hL' : ¬ (64 : Int) < (k : Int) := by omega
      have HL := Lib.hid hL
      obtain ⟨E, hE⟩ : ∃ E : Nat, (i : Int) + (k : Int) = (E : Int) := ⟨i + k, by omega⟩
      have HEE : Hid (i + k = E) := Lib.hid (by omega)
      clear hL
      go_wp2_with fail
      go_loop [6] (fun xv => ∃ p m : Nat, m ≤ k ∧ q + m = p ∧ xv = .int .i64 (p : Int) ∧ Hid (∀ y, y < m → Ln.okq (r.getD y 0) = true)) (fun xv => n - (intOf xv).toNat)
      case atStart => exact ⟨q, 0, by omega, rfl, rfl, Lib.hid (by omega)⟩
      case round =>
        obtain ⟨p, m, hmk, hqm, rfl, hok⟩ := hrel
        have HQM := Lib.hid hqm
        by_cases hlt : m < k
        · have hpE : (p : Int) ≤ (E : Int) := by have := HEE.out; have := HQ.out; omega
          have hpn : p < n := by omega
          have hpnI : (p : Int) < (n : Int) := by omega
          have hp0 : (0 : Int) ≤ (p : Int) := by omega
          obtain ⟨_, _, A', c', hAe, _, hcell⟩ := hR.out.bytes.parts
          injection hAe with e1 e2 e3
          obtain ⟨b', o', e4, hcl⟩ := hcell (by rw [HN.out]; omega)
          rw [← e1] at e4
          injection e4 with e4
          injection e4 with e5 e6
          have hck := hcl p (by rw [HN.out]; exact hpn)
          rw [← e5, ← e6] at hck
          clear hcell hcl e1 e2 e3 e5 e6
          obtain ⟨z, hz⟩ : ∃ z, t.getD p 0 = z := ⟨_, rfl⟩
          have HRM : Hid (r.getD m 0 = z) := Lib.hid (by rw [HRD.out, hqm, hz])
          rw [hz] at hck
          have HZ34 : Hid (z ≠ 34) := Lib.hid (by rw [← HRM.out]; exact HKN.out m hlt)
          clear hz hqm
          rcases ho : Ln.okq z with _ | _
          · have HT3 : Hid (T = .bad 1 (m + 1)) := Lib.hid (by
              rw [HTR.out, Ln.tokq_shut (m := m) HR10.out HK.out HK34.out HKN.out hmk hok.out (.inr (by rw [HRM.out]; exact ho)), if_neg (by have := HL.out; omega), if_neg (by omega)])
            have HO1 : Hid ((Ln.okq z && decide (z ≠ 34)) = false) := Lib.hid (by rw [ho]; rfl)
            clear ho
            go_wp2_with fail
            refine (within_any z _).mono ?_
            rintro ex w3 ⟨rfl, rfl⟩
            rw [HO1.out]
            go_wp2_with fail
            refine (ownfault_any 1 (.slice (some ⟨bb, off, none⟩) n c) t num g i p w0 _ hR.out (by omega)).mono ?_
            rintro ex w4 ⟨rfl, hb2⟩
            have hO2 := hO.out.under hb2
            have HG2 := Lib.hid (grow_below hG.out (hb2.mono hG.out.size))
            have HR2 := Lib.hid (hR.out.under hb2)
            have HO2 := Lib.hid hO2
            obtain ⟨b0, b1, b2, b3, bf0, bf1, bf2, bf3, f0, f1, f2, ff0, ff1, ff2⟩ := hO2.facts
            clear hO2 hb2 g0 g2
            go_wp2
            refine bodyPost_ret (results_cell_cell rfl _ _ w.heap.size (w.heap.size + 1) _ _ _ _ _ _ _ _ rfl rfl (HO2.out.full1 _ _ _ _ _ _ _) (HO2.out.full2 _ _ _ _ _ _ _) Tryz.underlying55 rfl (by kernel_rfl) Tryz.underlying23 rfl (by kernel_rfl)) rfl ?_
            exact nis_bad HT3.out ⟨[], 0, 0, false⟩ (by rw [show i + 1 + (m + 1) = p + 1 from by have := HQM.out; have := HQ.out; omega]; rfl) (grow_put7 HG2.out (Nat.le_refl _) _ _ _ _ _ _ _) (HR2.out.put7 hg0 _ _ _ _ _ _ _)
          · have HO1 : Hid ((Ln.okq z && decide (z ≠ 34)) = true) := Lib.hid (by rw [ho]; simp [HZ34.out])
            have HOK : Hid (∀ y, y < m + 1 → Ln.okq (r.getD y 0) = true) := Lib.hid (fun y hy => by
              rcases Nat.lt_or_ge y m with h | h
              · exact hok.out y h
              · rw [show y = m from by omega, HRM.out]
                exact ho)
            clear ho hok
            go_wp2_with fail
            refine (within_any z _).mono ?_
            rintro ex w3 ⟨rfl, rfl⟩
            rw [HO1.out]
            go_wp2
            go_round
            case rel => exact ⟨p + 1, m + 1, hlt, by have := HQM.out; omega, by go_num, HOK⟩
            case measure => simp [intOf]; omega
        · obtain rfl : m = k := by omega
          have HT3 : Hid (T = .word (r.take m) (m + 2) true) := Lib.hid (by
            rw [HTR.out, Ln.tokq_shut (m := m) HR10.out HK.out HK34.out HKN.out hmk hok.out (.inl rfl), if_neg (by have := HL.out; omega), if_pos rfl])
          have hpE : ¬ (p : Int) ≤ (E : Int) := by have := HEE.out; have := HQ.out; omega
          obtain ⟨k2, hk2⟩ : ∃ k2 : Nat, (m : Int) + 2 = (k2 : Int) := ⟨m + 2, by omega⟩
          have HK2 : Hid (m + 2 = k2) := Lib.hid (by omega)
          clear hok
          go_wp2_with fail
          refine (take_any (.slice (some ⟨bb, off, none⟩) n c) t num g i k2 w0 _ hR.out (by omega) (by rw [HN.out]; have := HQ.out; omega) (by rw [HN.out]; exact ht)).mono ?_
          rintro ex w3 ⟨rfl, hg2, hr2⟩
          have HO2 := Lib.hid (hO.out.grown hg2 hg0)
          have HG2 := Lib.hid (grow_trans hG.out hg2)
          have HR2 := Lib.hid hr2
          have HSZ : Hid (w2.heap.size ≤ w3.heap.size) := Lib.hid hg2.size
          obtain ⟨S, hS⟩ : ∃ S, (t.drop i).take k2 = S := ⟨_, rfl⟩
          rw [hS]
          have hSl : S.length = k2 := by rw [← hS, List.length_take, List.length_drop, HN.out]; have := HQ.out; omega
          have hsz : (str S).size = k2 := by rw [str_size, hSl]
          have hpart : (str S).extract 1 (m + 1) = str (r.take m) := by
            rw [str_part, ← hS, List.drop_take, List.take_take, List.drop_drop, show i + 1 = q from HQ.out, HRR.out, show min (m + 1 - 1) (k2 - 1) = m from by omega]
          clear hg2 hr2 g0 g2 hS hSl
          rw [show (cellsW (⟨S, num, i + 1, false⟩ : Ln.W)).toArray = #[.string (str S), .int .i64 (num : Int), .int .i64 ((i + 1 : Nat) : Int), .bool false] from rfl]
          have F := fun o => (HO2.out.alloc o).facts
          have b0 := fun o => (F o).1
          have b1 := fun o => (F o).2.1
          have b2 := fun o => (F o).2.2.1
          have b3 := fun o => (F o).2.2.2.1
          have bf0 := fun o => (F o).2.2.2.2.1
          have bf1 := fun o => (F o).2.2.2.2.2.1
          have bf2 := fun o => (F o).2.2.2.2.2.2.1
          have bf3 := fun o => (F o).2.2.2.2.2.2.2.1
          have f0 := fun o => (F o).2.2.2.2.2.2.2.2.1
          have f1 := fun o => (F o).2.2.2.2.2.2.2.2.2.1
          have f2 := fun o => (F o).2.2.2.2.2.2.2.2.2.2.1
          have ff0 := fun o => (F o).2.2.2.2.2.2.2.2.2.2.2.1
          have ff1 := fun o => (F o).2.2.2.2.2.2.2.2.2.2.2.2.1
          have ff2 := fun o => (F o).2.2.2.2.2.2.2.2.2.2.2.2.2
          clear F
          go_wp2
          refine bodyPost_ret (results_cell_cell rfl _ _ w.heap.size (w.heap.size + 1) _ _ _ _ _ _ _ _ rfl rfl ((HO2.out.alloc _).full1 _ _ _ _ _ _ _) ((HO2.out.alloc _).full2 _ _ _ _ _ _ _) Tryz.underlying55 rfl (by kernel_rfl) Tryz.underlying23 rfl (by kernel_rfl)) rfl ?_
          refine nis_word HT3.out (by rw [show i + 1 = q from HQ.out]; rfl) (grow_put7 (grow_below HG2.out ((Below.refl _ _).alloc HG2.out.size _)) (Nat.le_refl _) _ _ _ _ _ _ _) ?_
          rw [HK2.out]
          exact (HR2.out.alloc _).put7 hg0 _ _ _ _ _ _ _
  · have HT3 : Hid (T = .bad 2 0) := Lib.hid (by rw [HTR.out]; exact Ln.tokq_open HR10.out hno)
    clear hno
    go_wp2_with fail
    refine (ownfault_any 2 (.slice (some ⟨bb, off, none⟩) n c) t num g i i w0 _ hR.out (by omega)).mono ?_
    rintro ex w3 ⟨rfl, hb2⟩
    have hO2 := hO.out.under hb2
    have HG2 := Lib.hid (grow_below hG.out (hb2.mono hG.out.size))
    have HR2 := Lib.hid (hR.out.under hb2)
    have HO2 := Lib.hid hO2
    obtain ⟨b0, b1, b2, b3, bf0, bf1, bf2, bf3, f0, f1, f2, ff0, ff1, ff2⟩ := hO2.facts
    clear hO2 hb2 g0 g2
    go_wp2
    refine bodyPost_ret (results_cell_cell rfl _ _ w.heap.size (w.heap.size + 1) _ _ _ _ _ _ _ _ rfl rfl (HO2.out.full1 _ _ _ _ _ _ _) (HO2.out.full2 _ _ _ _ _ _ _) Tryz.underlying55 rfl (by kernel_rfl) Tryz.underlying23 rfl (by kernel_rfl)) rfl ?_
    exact nis_bad HT3.out ⟨[], 0, 0, false⟩ (by rw [show i + 1 + 0 = q from HQ.out]; rfl) (grow_put7 HG2.out (Nat.le_refl _) _ _ _ _ _ _ _) (HR2.out.put7 hg0 _ _ _ _ _ _ _)
end Go.Proofs.YtgjehlegcmeeoaaGreatDoor

/- The reader reads the word that stands at its place. -/
namespace Go.Proofs.YtgjehlegcmeeoaaGreatDoor
set_option maxRecDepth 100000
open Go.ChangeShapes Go.WideShapes Go.ChangeAt Go.RowKit

theorem tok_cases (T : Ln.Tok) : (∃ m, T = .skip m) ∨ (∃ s m q, T = .word s m q) ∨ ∃ k o, T = .bad k o := by
  cases T with
  | skip m => exact .inl ⟨m, rfl⟩
  | word s m q => exact .inr (.inl ⟨s, m, q, rfl⟩)
  | bad k o => exact .inr (.inr ⟨k, o, rfl⟩)
/-- Results that are handed on. -/
theorem NIs.skipped {w0 : World} {v : Value} {t : List Nat} {num g i m : Nat} {w w' : World} {e : Ending} (h : NIs w0 v t num g i w (.skip m) e w') : False := h
set_option maxRecDepth 100000 in
set_option maxHeartbeats 4000000 in
theorem next_any (v : Value) (t : List Nat) (num g i : Nat) (w0 w : World) (h : Rd w0 v t num g i w) (hi : i < t.length) (ht : t.length ≤ 1000000) (h10 : ∀ x ∈ t, x ≠ 10)
    (hb : ¬ (t.getD i 0 = 32 ∨ t.getD i 0 = 9)) (h35 : t.getD i 0 ≠ 35) (T : Ln.Tok) (hT : T = Ln.tok (t.getD i 0) (t.drop (i + 1))) :
    Calls Tryz.prog 61 #[.pointer (some ⟨g, 0, none⟩)] w (NIs w0 v t num g i w T) := by
  have HR := Lib.hid h
  obtain ⟨h8, _, A, c, rfl, hc, hcell⟩ := h.bytes.parts
  obtain ⟨bb, off, rfl, hcl⟩ := hcell (by omega)
  have hck := hcl i hi
  have h8i := u8_lt h8 i
  clear h hcell hcl h8
  obtain ⟨z, hz⟩ : ∃ z, t.getD i 0 = z := ⟨_, rfl⟩
  rw [hz] at hb h35 hck h8i hT
  have HZ := Lib.hid hz
  have HT := Lib.hid hT
  have HZ8 := Lib.hid h8i
  have H10 := Lib.hid h10
  have HI := Lib.hid hi
  have HTL := Lib.hid ht
  obtain ⟨n, hn⟩ : ∃ n, t.length = n := ⟨_, rfl⟩
  rw [hn] at hi ht hc HR ⊢
  have HN := Lib.hid hn
  have HB := Lib.hid hb
  have H35 := Lib.hid h35
  have hbb : bb < w.heap.size := World.block_lt_of_cell? _ _ hck
  have hck2 : ∀ o o', ((w.alloc o).alloc o').cell? ⟨bb, off + i, none⟩ = some (.int .u8 (z : Int)) := fun o o' => (World.cell?_alloc_lt _ o' ⟨bb, off + i, none⟩ (by simp; omega)).trans ((World.cell?_alloc_lt w o ⟨bb, off + i, none⟩ hbb).trans hck)
  clear hn hz hT h8i h10 hb h35 hck
  have hg0 := HR.out.size
  have hin : (i : Int) < (n : Int) := by omega
  have g0 : ∀ o o', ((w.alloc o).alloc o').cell? ⟨g, 0, none⟩ = some (.slice (some ⟨bb, off, none⟩) n c) := fun o o' => ((HR.out.alloc o).alloc o').blk.at 0
  have g2 : ∀ o o', ((w.alloc o).alloc o').cell? ⟨g, 2, none⟩ = some (.int .i64 (i : Int)) := fun o o' => ((HR.out.alloc o).alloc o').blk.at 2
  go_enter Tryz.func61, Tryz.ntmps61
  go_wp2_with fail
  go_quiet (fail)
  generalize hW : World.drewN _ _ = W
  have hO : Hid (Outs W w.heap.size) := Lib.hid (by rw [← hW]; exact (outs_new w).drew _)
  have hR : Hid (Rd w0 (.slice (some ⟨bb, off, none⟩) n c) t num g i W) := Lib.hid (by rw [← hW]; exact ((HR.out.alloc _).alloc _).heap _ rfl)
  have hG : Hid (w.grownBy W (some g)) := Lib.hid (by rw [← hW]; exact grow_drew (Below.toGrown (((Below.refl _ _).alloc (Nat.le_refl _) _).alloc (by simp) _) _) _)
  clear g0 g2 hck2 hW
  have g2 : W.cell? ⟨g, 2, none⟩ = some (.int .i64 (i : Int)) := hR.out.blk.at 2
  by_cases h34 : z = 34
  · subst h34
    have HTQ : Hid (T = Ln.tokq (t.drop (i + 1))) := Lib.hid (by rw [HT.out]; exact Ln.tok_quote)
    go_wp2_with fail
    refine (quoted_any (.slice (some ⟨bb, off, none⟩) n c) t num g i w0 _ hR.out HI.out HTL.out H10.out T HTQ.out).mono ?_
    intro ex w2 hni
    rcases tok_cases T with ⟨m, hTT⟩ | ⟨s, m, q, hTT⟩ | ⟨k, o, hTT⟩
    · rw [hTT] at hni
      exact hni.skipped.elim
    · have HTT := Lib.hid hTT
      rw [hTT] at hni
      obtain ⟨rfl, hg2, hr2⟩ := hni
      have hO2 := hO.out.grown hg2 hg0
      have HG2 := Lib.hid (grow_trans hG.out hg2)
      have HR2 := Lib.hid hr2
      have HO2 := Lib.hid hO2
      obtain ⟨b0, b1, b2, b3, bf0, bf1, bf2, bf3, f0, f1, f2, ff0, ff1, ff2⟩ := hO2.facts
      clear hO2 hg2 hr2 g2 hTT
      rw [show (cellsW (⟨s, num, i + 1, q⟩ : Ln.W)).toArray = #[.string (str s), .int .i64 (num : Int), .int .i64 ((i + 1 : Nat) : Int), .bool q] from rfl]
      go_wp2
      refine bodyPost_ret (results_cell_cell rfl _ _ w.heap.size (w.heap.size + 1) _ _ _ _ _ _ _ _ rfl rfl (HO2.out.full1 _ _ _ _ _ _ _) (HO2.out.full2 _ _ _ _ _ _ _) Tryz.underlying55 rfl (by kernel_rfl) Tryz.underlying23 rfl (by kernel_rfl)) rfl ?_
      exact nis_word HTT.out rfl (grow_put7 HG2.out (Nat.le_refl _) _ _ _ _ _ _ _) (HR2.out.put7 hg0 _ _ _ _ _ _ _)
    · have HTT := Lib.hid hTT
      rw [hTT] at hni
      obtain ⟨⟨⟨y1, y2, y3, y4⟩, rfl⟩, hg2, hr2⟩ := hni
      have hO2 := hO.out.grown hg2 hg0
      have HG2 := Lib.hid (grow_trans hG.out hg2)
      have HR2 := Lib.hid hr2
      have HO2 := Lib.hid hO2
      obtain ⟨b0, b1, b2, b3, bf0, bf1, bf2, bf3, f0, f1, f2, ff0, ff1, ff2⟩ := hO2.facts
      clear hO2 hg2 hr2 g2 hTT
      rw [show (cellsW (⟨y1, y2, y3, y4⟩ : Ln.W)).toArray = #[.string (str y1), .int .i64 (y2 : Int), .int .i64 (y3 : Int), .bool y4] from rfl]
      go_wp2
      refine bodyPost_ret (results_cell_cell rfl _ _ w.heap.size (w.heap.size + 1) _ _ _ _ _ _ _ _ rfl rfl (HO2.out.full1 _ _ _ _ _ _ _) (HO2.out.full2 _ _ _ _ _ _ _) Tryz.underlying55 rfl (by kernel_rfl) Tryz.underlying23 rfl (by kernel_rfl)) rfl ?_
      exact nis_bad HTT.out ⟨y1, y2, y3, y4⟩ rfl (grow_put7 HG2.out (Nat.le_refl _) _ _ _ _ _ _ _) (HR2.out.put7 hg0 _ _ _ _ _ _ _)
  · have b34 : ((z : Int) == 34) = false := by simp; omega
    have H34 := Lib.hid h34
    clear h34
    rcases hsg : Ln.sign z with _ | _
    · have HSG := Lib.hid hsg
      clear hsg
      rcases hpl : Ln.plain z with _ | _
      · have HPL := Lib.hid hpl
        have HT3 : Hid (T = .bad 1 0) := Lib.hid (by
          have hp := HPL.out
          rw [HT.out]
          refine Ln.tok_byte HB.out ?_ HSG.out
          unfold Ln.plain at hp
          rw [HSG.out] at hp
          have h34 := H34.out
          have hz8 := HZ8.out
          by_cases a : 32 < z
          · by_cases b : z < 127
            · simp [a, b, h34] at hp
            · omega
          · omega)
        clear hpl
        go_wp2_with fail
        refine (sign_any z HZ8.out _).mono ?_
        rintro ex w2 ⟨rfl, rfl⟩
        rw [HSG.out]
        go_wp2_with fail
        refine (lmay_any z HZ8.out _).mono ?_
        rintro ex w2 ⟨rfl, rfl⟩
        rw [HPL.out]
        go_wp2_with fail
        refine (ownfault_any 1 (.slice (some ⟨bb, off, none⟩) n c) t num g i i w0 _ hR.out (by omega)).mono ?_
        rintro ex w3 ⟨rfl, hb2⟩
        have hO2 := hO.out.under hb2
        have HG2 := Lib.hid (grow_below hG.out (hb2.mono hG.out.size))
        have HR2 := Lib.hid (hR.out.under hb2)
        have HO2 := Lib.hid hO2
        obtain ⟨b0, b1, b2, b3, bf0, bf1, bf2, bf3, f0, f1, f2, ff0, ff1, ff2⟩ := hO2.facts
        clear hO2 hb2 g2
        go_wp2
        refine bodyPost_ret (results_cell_cell rfl _ _ w.heap.size (w.heap.size + 1) _ _ _ _ _ _ _ _ rfl rfl (HO2.out.full1 _ _ _ _ _ _ _) (HO2.out.full2 _ _ _ _ _ _ _) Tryz.underlying55 rfl (by kernel_rfl) Tryz.underlying23 rfl (by kernel_rfl)) rfl ?_
        exact nis_bad HT3.out ⟨[], 0, 0, false⟩ rfl (grow_put7 HG2.out (Nat.le_refl _) _ _ _ _ _ _ _) (HR2.out.put7 hg0 _ _ _ _ _ _ _)
      · have HPL := Lib.hid hpl
        have HTP : Hid (T = if 64 < ((t.drop (i + 1)).takeWhile Ln.plain).length + 1 then .bad 3 0 else .word (t.getD i 0 :: (t.drop (i + 1)).takeWhile Ln.plain) (((t.drop (i + 1)).takeWhile Ln.plain).length + 1) false) := Lib.hid (by
          have hp := HPL.out
          rw [HT.out, HZ.out]
          refine Ln.tok_plain ?_ H35.out H34.out HSG.out
          unfold Ln.plain at hp
          simp at hp
          omega)
        clear hpl
        go_wp2_with fail
        refine (sign_any z HZ8.out _).mono ?_
        rintro ex w2 ⟨rfl, rfl⟩
        rw [HSG.out]
        go_wp2_with fail
        refine (lmay_any z HZ8.out _).mono ?_
        rintro ex w2 ⟨rfl, rfl⟩
        rw [HPL.out]
        go_wp2_with fail
        refine (lplain_any (.slice (some ⟨bb, off, none⟩) n c) t num g i w0 _ hR.out HI.out HTL.out T HTP.out).mono ?_
        intro ex w2 hni
        rcases tok_cases T with ⟨m, hTT⟩ | ⟨s, m, q, hTT⟩ | ⟨k, o, hTT⟩
        · rw [hTT] at hni
          exact hni.skipped.elim
        · have HTT := Lib.hid hTT
          rw [hTT] at hni
          obtain ⟨rfl, hg2, hr2⟩ := hni
          have hO2 := hO.out.grown hg2 hg0
          have HG2 := Lib.hid (grow_trans hG.out hg2)
          have HR2 := Lib.hid hr2
          have HO2 := Lib.hid hO2
          obtain ⟨b0, b1, b2, b3, bf0, bf1, bf2, bf3, f0, f1, f2, ff0, ff1, ff2⟩ := hO2.facts
          clear hO2 hg2 hr2 g2 hTT
          rw [show (cellsW (⟨s, num, i + 1, q⟩ : Ln.W)).toArray = #[.string (str s), .int .i64 (num : Int), .int .i64 ((i + 1 : Nat) : Int), .bool q] from rfl]
          go_wp2
          refine bodyPost_ret (results_cell_cell rfl _ _ w.heap.size (w.heap.size + 1) _ _ _ _ _ _ _ _ rfl rfl (HO2.out.full1 _ _ _ _ _ _ _) (HO2.out.full2 _ _ _ _ _ _ _) Tryz.underlying55 rfl (by kernel_rfl) Tryz.underlying23 rfl (by kernel_rfl)) rfl ?_
          exact nis_word HTT.out rfl (grow_put7 HG2.out (Nat.le_refl _) _ _ _ _ _ _ _) (HR2.out.put7 hg0 _ _ _ _ _ _ _)
        · have HTT := Lib.hid hTT
          rw [hTT] at hni
          obtain ⟨⟨⟨y1, y2, y3, y4⟩, rfl⟩, hg2, hr2⟩ := hni
          have hO2 := hO.out.grown hg2 hg0
          have HG2 := Lib.hid (grow_trans hG.out hg2)
          have HR2 := Lib.hid hr2
          have HO2 := Lib.hid hO2
          obtain ⟨b0, b1, b2, b3, bf0, bf1, bf2, bf3, f0, f1, f2, ff0, ff1, ff2⟩ := hO2.facts
          clear hO2 hg2 hr2 g2 hTT
          rw [show (cellsW (⟨y1, y2, y3, y4⟩ : Ln.W)).toArray = #[.string (str y1), .int .i64 (y2 : Int), .int .i64 (y3 : Int), .bool y4] from rfl]
          go_wp2
          refine bodyPost_ret (results_cell_cell rfl _ _ w.heap.size (w.heap.size + 1) _ _ _ _ _ _ _ _ rfl rfl (HO2.out.full1 _ _ _ _ _ _ _) (HO2.out.full2 _ _ _ _ _ _ _) Tryz.underlying55 rfl (by kernel_rfl) Tryz.underlying23 rfl (by kernel_rfl)) rfl ?_
          exact nis_bad HTT.out ⟨y1, y2, y3, y4⟩ rfl (grow_put7 HG2.out (Nat.le_refl _) _ _ _ _ _ _ _) (HR2.out.put7 hg0 _ _ _ _ _ _ _)
    · have HSG := Lib.hid hsg
      have HT3 : Hid (T = .word [z] 1 false) := Lib.hid (by rw [HT.out]; exact Ln.tok_sign hsg)
      clear hsg
      go_wp2_with fail
      refine (sign_any z HZ8.out _).mono ?_
      rintro ex w2 ⟨rfl, rfl⟩
      rw [HSG.out]
      go_wp2_with fail
      refine (take_any (.slice (some ⟨bb, off, none⟩) n c) t num g i 1 w0 _ hR.out (Nat.le_refl _) HI.out HTL.out).mono ?_
      rintro ex w3 ⟨rfl, hg2, hr2⟩
      have hO2 := hO.out.grown hg2 hg0
      have HG2 := Lib.hid (grow_trans hG.out hg2)
      have HR2 := Lib.hid hr2
      have HO2 := Lib.hid hO2
      obtain ⟨b0, b1, b2, b3, bf0, bf1, bf2, bf3, f0, f1, f2, ff0, ff1, ff2⟩ := hO2.facts
      clear hO2 hg2 hr2 g2
      rw [show (t.drop i).take 1 = [z] from by rw [Ln.drop_cons HI.out, HZ.out]; rfl]
      rw [show (cellsW (⟨[z], num, i + 1, false⟩ : Ln.W)).toArray = #[.string (str [z]), .int .i64 (num : Int), .int .i64 ((i + 1 : Nat) : Int), .bool false] from rfl]
      go_wp2
      refine bodyPost_ret (results_cell_cell rfl _ _ w.heap.size (w.heap.size + 1) _ _ _ _ _ _ _ _ rfl rfl (HO2.out.full1 _ _ _ _ _ _ _) (HO2.out.full2 _ _ _ _ _ _ _) Tryz.underlying55 rfl (by kernel_rfl) Tryz.underlying23 rfl (by kernel_rfl)) rfl ?_
      exact nis_word HT3.out rfl (grow_put7 HG2.out (Nat.le_refl _) _ _ _ _ _ _ _) (HR2.out.put7 hg0 _ _ _ _ _ _ _)
end Go.Proofs.YtgjehlegcmeeoaaGreatDoor

/- The words of one line. -/
namespace Go.Proofs.YtgjehlegcmeeoaaGreatDoor
set_option maxRecDepth 100000
open Go.ChangeShapes Go.WideShapes Go.ChangeAt Go.RowKit

theorem St.grownLow {w w' : World} {base g : Nat} {v u : Value} {LL : List (List Ln.W)} {R : List Ln.W} (h : St w base v LL u R) (hg : w.grownBy w' (some g)) (hp : g < base) : St w' base v LL u R := by
  obtain ⟨us, h1, h2, h3, h4, h5, h6, h7⟩ := h
  have hlow : ∀ {t : Value}, Between base w.heap.size t → t.ownBlock = none ∨ t.ownBlock ≠ some g := fun {t} hb => .inr fun e => by
    have := (hb _ e).1
    omega
  exact ⟨us, h1, h2.kept hg (hlow fun k hk => World.ownsRow.lt h2 k hk), h3, fun i hi => (h4 i hi).grown hg (hlow (h4 i hi).lt), h5, h6.grown hg (hlow h6.lt), h7⟩
theorem below_grown {w0 w w' : World} {g : Nat} (h : Below w0.heap.size w0 w) (hg : w.grownBy w' (some g)) (h0 : w0.heap.size ≤ g) : Below w0.heap.size w0 w' :=
  ⟨hg.os.trans h.os, hg.tape.trans h.tape, hg.output.trans h.output, Nat.le_trans h.size hg.size, fun k hk => (hg.block k (Nat.lt_of_lt_of_le hk h.size) (by simp; omega)).trans (h.block k hk)⟩
theorem word_cells3 (w : World) (o o' : Obj) (z : Ln.W) : ∀ j y, (cellsW z)[j]? = some y → (((w.alloc o).alloc o').alloc (.cells (cellsW z).toArray 55)).cell? ⟨w.heap.size + 1 + 1, j, none⟩ = some y := fun j y hy => by
  have h : Blk (((w.alloc o).alloc o').alloc (.cells (cellsW z).toArray 55)) (w.heap.size + 1 + 1) 55 (cellsW z).toArray := heap_alloc_at _ _ (by simp)
  rw [h.at j, List.getElem?_toArray]
  exact hy
theorem Rd.below4 {w0 w w' : World} {v : Value} {t : List Nat} {num g i B : Nat} (h : Rd w0 v t num g i w) (hb : Below B w w') (hg : g < B) : Rd w0 v t num g i w' := ⟨h.1, h.2.1.trans (hb.mono (Nat.le_of_lt (Nat.lt_of_le_of_lt h.2.2.1 hg))), h.2.2.1, h.2.2.2.below hb hg⟩
/-- What is told of one line. -/
def OneIs (t : List Nat) (w : World) (e : Ending) (w' : World) : Ln.Res → Prop
  | .ok LL => ∃ (R : List Ln.W) (u : Value), LL = Ln.close R ∧ R.length ≤ t.length ∧ e = .returned (.tuple #[u, .agg #[.int .i64 0, .int .i64 0, .int .i64 0]]) ∧ OwnW w' w.heap.size u R
  | .bad k ln col => e = .returned (.tuple #[.slice none 0 0, .agg #[.int .i64 (k : Int), .int .i64 (ln : Int), .int .i64 (col : Int)]]) ∧ 1 ≤ k
set_option maxRecDepth 100000 in
set_option maxHeartbeats 4000000 in
theorem one_any (v : Value) (t : List Nat) (num : Nat) (w : World) (hv : Bytes w v t) (ht : t.length ≤ 1000000) (h10 : ∀ x ∈ t, x ≠ 10) (T : Ln.Res) (hT : T = Ln.sp t num 1 []) :
    Calls Tryz.prog 38 #[v, .int .i64 (num : Int)] w fun e w' => OneIs t w e w' T ∧ Below w.heap.size w w' := by
  have HV := Lib.hid hv
  have HT := Lib.hid hT
  have H10 := Lib.hid h10
  have HTL := Lib.hid ht
  obtain ⟨_, _, A, c, rfl, _, _⟩ := hv.parts
  clear hv hT h10 ht
  obtain ⟨n, hn⟩ : ∃ n, t.length = n := ⟨_, rfl⟩
  have HN := Lib.hid hn
  rw [hn] at HV ⊢
  clear hn
  go_enter Tryz.func38, Tryz.ntmps38
  go_wp2_with fail
  obtain ⟨g, hg⟩ : ∃ g, g = w.heap.size + 1 := ⟨_, rfl⟩
  rw [← hg]
  go_loopw [6] (fun uv wr => ∃ (i : Nat) (R : List Ln.W), i ≤ n ∧ R.length ≤ i ∧ Hid (Ln.K t num i R) ∧ Hid (Rd w (.slice A n c) t num g i wr) ∧ Hid (St wr (w.heap.size + 2) (.slice none 0 0) [] uv R) ∧ Hid (Blk wr w.heap.size 23 #[.int .i64 0, .int .i64 0, .int .i64 0]) ∧ Hid (Below w.heap.size w wr)) (fun _ wr => n - (intOf ((wr.cell? ⟨g, 2, none⟩).getD undef)).toNat)
  case atStart =>
    refine ⟨0, [], by omega, by simp, Lib.hid (Ln.K.start t num), Lib.hid ⟨HV.out, ((Below.refl _ _).alloc (Nat.le_refl _) _).alloc (by simp) _, by omega, ?_⟩, Lib.hid (st_none _ _), Lib.hid (Blk.alloc (heap_alloc_new w _) _), Lib.hid (((Below.refl _ _).alloc (Nat.le_refl _) _).alloc (by simp) _)⟩
    rw [hg]
    exact heap_alloc_at _ _ (by simp)
  case round =>
    obtain ⟨i, R, hin, hRi, hK, hR, hS, hF, hbl⟩ := hrel
    have HG := Lib.hid hg
    clear hg
    obtain ⟨wz, rfl⟩ : ∃ wx : World, wx = wr := ⟨_, rfl⟩
    go_wp2_with fail
    refine (more_any (.slice A n c) t num g i w _ hR.out (by rw [HN.out]; exact hin) HTL.out).mono ?_
    rintro ex w2 ⟨j, hij, hjn, hbk, hR2, hG2, hcase⟩
    have hgw : g < wz.heap.size := hR.out.size
    have HZ2 : Hid (wz.cell? ⟨g, 2, none⟩ = some (.int .i64 (i : Int))) := Lib.hid (hR.out.blk.at 2)
    have HK := Lib.hid (by have := hK.out.blanks (j - i) (by omega) (fun y h1 h2 => hbk y h1 (by omega)); rwa [show i + (j - i) = j from by omega] at this)
    have HR2 := Lib.hid hR2
    have HS2 := Lib.hid (hS.out.grownLow hG2 (by have := HG.out; omega))
    have HF2 := Lib.hid (hF.out.grown hG2 (by have := HG.out; simp; omega))
    have HBL2 := Lib.hid (below_grown hbl.out hG2 (by have := HG.out; omega))
    have HJN := Lib.hid hjn
    clear hbk hR2 hG2 hK hR hS hF hbl hjn
    rcases hcase with ⟨rfl, hend⟩ | ⟨rfl, hjl, hnb, hn35⟩
    · have HT2 : Hid (T = .ok (Ln.close R)) := Lib.hid (by
        rw [HT.out]
        rcases hend with h | ⟨h, h35⟩
        · exact HK.out.done h
        · exact HK.out.rest h H10.out h35)
      clear hend
      have g0 : w2.cell? ⟨w.heap.size, 0, none⟩ = some (.int .i64 0) := HF2.out.at 0
      have g1 : w2.cell? ⟨w.heap.size, 1, none⟩ = some (.int .i64 0) := HF2.out.at 1
      have g2 : w2.cell? ⟨w.heap.size, 2, none⟩ = some (.int .i64 0) := HF2.out.at 2
      have f0 := HF2.out.free 0
      have f1 := HF2.out.free 1
      have f2 := HF2.out.free 2
      go_wp2
      refine bodyPost_ret (results_tmp_cell rfl _ _ w.heap.size _ _ _ _ rfl (((HF2.out.set 0 _).set 1 _).set 2 _) Tryz.underlying23 rfl (by kernel_rfl)) rfl ?_
      refine ⟨?_, ((HBL2.out.setCell (by simp) _).setCell (by simp) _).setCell (by simp) _⟩
      rw [HT2.out]
      refine ⟨R, _, rfl, by rw [HN.out]; omega, rfl, ?_⟩
      obtain ⟨us, h1, h2, h3, h4, h5, h6, h7⟩ := ((HS2.out.setLow (p := ⟨w.heap.size, 0, none⟩) (by simp) (.int .i64 0)).setLow (p := ⟨w.heap.size, 1, none⟩) (by simp) (.int .i64 0)).setLow (p := ⟨w.heap.size, 2, none⟩) (by simp) (.int .i64 0)
      exact h6.more (by omega)
    · have HJL := Lib.hid hjl
      have HNB := Lib.hid hnb
      have HN35 := Lib.hid hn35
      have HJ10 : Hid (t.getD j 0 ≠ 10) := Lib.hid (by
        rw [List.getD_eq_getElem?_getD, List.getElem?_eq_getElem hjl]
        exact H10.out _ (List.getElem_mem hjl))
      obtain ⟨K, hKK⟩ : ∃ K, K = Ln.tok (t.getD j 0) (t.drop (j + 1)) := ⟨_, rfl⟩
      have HKK := Lib.hid hKK
      clear hjl hnb hn35 hKK
      go_wp2_with fail
      refine (next_any (.slice A n c) t num g j w _ HR2.out HJL.out HTL.out H10.out HNB.out HN35.out K HKK.out).mono ?_
      intro ex w3 hni
      have hgw2 : g < w2.heap.size := HR2.out.size
      rcases tok_cases K with ⟨m, hTT⟩ | ⟨s, m, q, hTT⟩ | ⟨k, o, hTT⟩
      · rw [hTT] at hni
        exact hni.skipped.elim
      · have HTT := Lib.hid (HKK.out.symm.trans hTT)
        rw [hTT] at hni
        obtain ⟨rfl, hG3, hR3⟩ := hni
        clear hTT
        have hk3 := HK.out.word HJL.out HJ10.out HTT.out
        obtain ⟨cl, hcl⟩ : ∃ cl, j + 1 = cl := ⟨_, rfl⟩
        rw [hcl] at hk3 ⊢
        have HK3 := Lib.hid hk3
        have HM := Lib.hid (Ln.tok_word_le HTT.out).1
        clear hk3 hcl
        have HR3 := Lib.hid hR3
        have HS3 := Lib.hid (HS2.out.grownLow hG3 (by have := HG.out; omega))
        have HF3 := Lib.hid (HF2.out.grown hG3 (by have := HG.out; simp; omega))
        have HBL3 := Lib.hid (below_grown HBL2.out hG3 (by have := HG.out; omega))
        clear hG3 hR3
        rw [show (cellsW (⟨s, num, cl, q⟩ : Ln.W)).toArray = #[.string (str s), .int .i64 (num : Int), .int .i64 (cl : Int), .bool q] from rfl]
        obtain ⟨Ar, cr, hre, hcr⟩ := HS3.out.row
        subst hre
        obtain ⟨rn, hrn⟩ : ∃ k, R.length = k := ⟨_, rfl⟩
        rw [hrn] at hRi HS3 hcr HS2 ⊢
        have HRN := Lib.hid hrn
        clear hrn
        have hgw3 : g < w3.heap.size := HR3.out.size
        have HSZ : Hid (w.heap.size + 2 ≤ w3.heap.size) := Lib.hid (by have := HG.out; omega)
        go_wp2_with (at_builtin; refine wpList_append_word rfl _ _ rfl (w.heap.size + 2) (w3.heap.size + 1 + 1) (.slice none 0 0) (.slice Ar rn cr) [] R ⟨s, num, cl, q⟩ rfl (((HS3.out.alloc _).alloc _).alloc _) rfl (word_cells3 w3 _ _ ⟨s, num, cl, q⟩) (by rw [HRN.out]; have := HTL.out; have := HN.out; omega) (Nat.le_trans HSZ.out (by simp; omega)) _ rfl ?_)
        rintro u' w4 hst4 hb4
        have HS5 := Lib.hid hst4
        have HR5 := Lib.hid ((((HR3.out.alloc _).alloc _).alloc _).below4 hb4 (by have := HG.out; omega))
        have HF5 := Lib.hid ((((HF3.out.alloc _).alloc _).alloc _).below hb4 (by omega))
        have HBL5 := Lib.hid ((((HBL3.out.alloc HBL3.out.size _).alloc (HBL3.out.alloc HBL3.out.size _).size _).alloc ((HBL3.out.alloc HBL3.out.size _).alloc (HBL3.out.alloc HBL3.out.size _).size _).size _).trans (hb4.mono (by omega)))
        clear hst4 hb4
        go_wp2
        go_roundw
        case rel => exact ⟨j + m, R ++ [⟨s, num, cl, q⟩], by rw [← HN.out]; exact HK3.out.1, by rw [List.length_append, List.length_singleton, HRN.out]; have := HM.out; omega, HK3, HR5, HS5, HF5, HBL5⟩
        case measure =>
          rw [show w4.cell? ⟨g, 2, none⟩ = some (.int .i64 ((j + m : Nat) : Int)) from HR5.out.blk.at 2]
          rw [HZ2.out]
          have h1 := HK3.out.1
          have h2 := HN.out
          have h3 := HM.out
          simp [intOf]
          omega
      · have HTT := Lib.hid (HKK.out.symm.trans hTT)
        rw [hTT] at hni
        obtain ⟨⟨⟨y1, y2, y3, y4⟩, rfl⟩, hG3, hR3⟩ := hni
        clear hTT
        have HF3 := Lib.hid (HF2.out.grown hG3 (by have := HG.out; simp; omega))
        have HBL3 := Lib.hid (below_grown HBL2.out hG3 (by have := HG.out; omega))
        have HT3 : Hid (T = .bad k num (j + 1 + o)) := Lib.hid (by rw [HT.out]; exact HK.out.bad HJL.out HJ10.out HTT.out)
        have HK1 : Hid (1 ≤ k) := Lib.hid (Ln.tok_bad HTT.out).1
        have hk0 : ((k : Int) != 0) = true := by have := HK1.out; simp; omega
        clear hG3 hR3
        rw [show (cellsW (⟨y1, y2, y3, y4⟩ : Ln.W)).toArray = #[.string (str y1), .int .i64 (y2 : Int), .int .i64 (y3 : Int), .bool y4] from rfl]
        go_wp2_with fail
        generalize hW : World.alloc (World.alloc w3 _) _ = W
        have hX : Blk W (w3.heap.size + 1) 23 #[.int .i64 (k : Int), .int .i64 (num : Int), .int .i64 ((j : Int) + 1 + (o : Int))] := by rw [← hW]; exact heap_alloc_at _ _ (by simp)
        have hF4 : Blk W w.heap.size 23 #[.int .i64 0, .int .i64 0, .int .i64 0] := by rw [← hW]; exact (HF3.out.alloc _).alloc _
        have HBL4 : Hid (Below w.heap.size w W) := Lib.hid (by rw [← hW]; exact (HBL3.out.alloc HBL3.out.size _).alloc (HBL3.out.alloc HBL3.out.size _).size _)
        have x0 : W.cell? ⟨w3.heap.size + 1, 0, none⟩ = some (.int .i64 (k : Int)) := hX.at 0
        have x1 : W.cell? ⟨w3.heap.size + 1, 1, none⟩ = some (.int .i64 (num : Int)) := hX.at 1
        have x2 : W.cell? ⟨w3.heap.size + 1, 2, none⟩ = some (.int .i64 ((j : Int) + 1 + (o : Int))) := hX.at 2
        have g0 : W.cell? ⟨w.heap.size, 0, none⟩ = some (.int .i64 0) := hF4.at 0
        have g1 : W.cell? ⟨w.heap.size, 1, none⟩ = some (.int .i64 0) := hF4.at 1
        have g2 : W.cell? ⟨w.heap.size, 2, none⟩ = some (.int .i64 0) := hF4.at 2
        have f0 := hF4.free 0
        have f1 := hF4.free 1
        have f2 := hF4.free 2
        have HF4 := Lib.hid hF4
        clear hX hF4 hW
        go_region
        go_wp2
        refine bodyPost_ret (results_tmp_cell rfl _ _ w.heap.size _ _ _ _ rfl (((HF4.out.set 0 _).set 1 _).set 2 _) Tryz.underlying23 rfl (by kernel_rfl)) rfl ?_
        have hb5 := ((HBL4.out.setCell (p := ⟨w.heap.size, 0, none⟩) (by simp) (.int .i64 (k : Int))).setCell (p := ⟨w.heap.size, 1, none⟩) (by simp) (.int .i64 (num : Int))).setCell (p := ⟨w.heap.size, 2, none⟩) (by simp) (.int .i64 ((j : Int) + 1 + (o : Int)))
        refine ⟨?_, hb5.1, hb5.2, hb5.3, hb5.4, hb5.5⟩
        rw [HT3.out]
        exact ⟨rfl, HK1.out⟩
end Go.Proofs.YtgjehlegcmeeoaaGreatDoor

/- The program's own call on lines: what Split tells of any bytes. -/
namespace Go.Proofs.YtgjehlegcmeeoaaGreatDoor
set_option maxRecDepth 100000
open Go.ChangeShapes Go.WideShapes Go.ChangeAt Go.RowKit

/-- A row that was made behind all that is there. -/
theorem St.put {w w' : World} {base : Nat} {v u : Value} {LL : List (List Ln.W)} {R : List Ln.W} (h : St w base v LL (.slice none 0 0) []) (hb : Below w.heap.size w w') (hbase : base ≤ w.heap.size) (hu : OwnW w' w.heap.size u R) : St w' base v LL u R := by
  obtain ⟨us, h1, h2, h3, h4, h5, h6, h7⟩ := h.under hb
  obtain ⟨us', h1', h2', h3', h4', h5', h6', h7'⟩ := h
  refine ⟨us', h1', h2'.kept (Below.toGrown hb none) (by cases v.ownBlock <;> simp), h3', fun i hi => (h4' i hi).under hb, h5', hu.more hbase, fun i hi => ?_⟩
  have hlt := (h4' i hi).lt
  have hge := hu.lt
  cases hx : (us'.getD i undef).ownBlock with
  | none => exact .inl rfl
  | some k =>
    refine .inr fun e => ?_
    have h1 := (hlt k hx).2
    have h2 := (hge k e.symm).1
    omega
/-- How far a text is read, line by line. -/
def Q (b : List Nat) (i ln : Nat) (O : List (List Ln.W)) : Prop := i ≤ b.length ∧ Ln.split b = (Ln.sp (b.drop i) ln 1 []).pre O
theorem Q.start (b : List Nat) : Q b 0 1 [] := ⟨Nat.zero_le _, by rw [Ln.Res.pre_nil]; rfl⟩
theorem Q.done {b : List Nat} {i ln : Nat} {O : List (List Ln.W)} (h : Q b i ln O) (hi : i = b.length) : Ln.split b = .ok O := by
  rw [h.2, hi, List.drop_of_length_le (Nat.le_refl _), Ln.sp_nil]
  simp [Ln.Res.pre, Ln.close]
theorem Q.last {b : List Nat} {i ln : Nat} {O LL : List (List Ln.W)} (h : Q b i ln O) (hs : Ln.sp (b.drop i) ln 1 [] = .ok LL) : Q b b.length (ln + 1) (O ++ LL) := by
  refine ⟨Nat.le_refl _, ?_⟩
  rw [h.2, hs, List.drop_of_length_le (Nat.le_refl _), Ln.sp_nil]
  simp [Ln.Res.pre, Ln.close]
theorem cut_at {r : List Nat} {k : Nat} (hk : k < r.length) (h10 : r.getD k 0 = 10) : r = r.take k ++ 10 :: r.drop (k + 1) := by
  conv => lhs; rw [← List.take_append_drop k r]
  rw [Ln.drop_cons hk, h10]
theorem no_ten {r : List Nat} {k : Nat} (hn : ∀ y, y < k → r.getD y 0 ≠ 10) : ∀ x ∈ r.take k, x ≠ 10 := by
  intro x hx
  obtain ⟨y, hy, rfl⟩ := List.getElem_of_mem hx
  rw [List.length_take] at hy
  have := hn y (by omega)
  rw [List.getD_eq_getElem?_getD, List.getElem?_eq_getElem (by omega)] at this
  rw [List.getElem_take]
  exact this
theorem Q.line {b : List Nat} {i ln k : Nat} {O LL : List (List Ln.W)} (h : Q b i ln O) (hk : k < (b.drop i).length) (h10 : (b.drop i).getD k 0 = 10) (hn : ∀ y, y < k → (b.drop i).getD y 0 ≠ 10) (hs : Ln.sp ((b.drop i).take k) ln 1 [] = .ok LL) : Q b (i + k + 1) (ln + 1) (O ++ LL) := by
  have hl : i + k + 1 ≤ b.length := by rw [List.length_drop] at hk; omega
  refine ⟨hl, ?_⟩
  rw [h.2, cut_at hk h10, Ln.sp_first _ ln (no_ten hn), hs, List.drop_drop]
  show (Ln.Res.pre LL _).pre O = _
  rw [Ln.Res.pre_pre]
  rfl
theorem Q.badline {b : List Nat} {i ln k kd l c : Nat} {O : List (List Ln.W)} (h : Q b i ln O) (hk : k < (b.drop i).length) (h10 : (b.drop i).getD k 0 = 10) (hn : ∀ y, y < k → (b.drop i).getD y 0 ≠ 10) (hs : Ln.sp ((b.drop i).take k) ln 1 [] = .bad kd l c) : Ln.split b = .bad kd l c := by
  rw [h.2, cut_at hk h10, Ln.sp_first _ ln (no_ten hn), hs]
  rfl
theorem Q.badlast {b : List Nat} {i ln kd l c : Nat} {O : List (List Ln.W)} (h : Q b i ln O) (hs : Ln.sp (b.drop i) ln 1 [] = .bad kd l c) : Ln.split b = .bad kd l c := by
  rw [h.2, hs]
  rfl
/-- The line that is cut off: all its bytes, where the reading goes on, and what it means to have read it. -/
def Step (b : List Nat) (i ln : Nat) (O : List (List Ln.W)) (t : List Nat) (i' : Nat) : Prop :=
  i < i' ∧ i' ≤ b.length ∧ t.length ≤ i' - i ∧ (∀ x ∈ t, x ≠ 10) ∧ (∀ LL, Ln.sp t ln 1 [] = .ok LL → Q b i' (ln + 1) (O ++ LL)) ∧ ∀ kd l c, Ln.sp t ln 1 [] = .bad kd l c → Ln.split b = .bad kd l c
theorem step_cut {b : List Nat} {i ln k : Nat} {O : List (List Ln.W)} (h : Q b i ln O) (hk : k < (b.drop i).length) (h10 : (b.drop i).getD k 0 = 10) (hn : ∀ y, y < k → (b.drop i).getD y 0 ≠ 10) : Step b i ln O ((b.drop i).take k) (i + k + 1) :=
  ⟨by omega, by rw [List.length_drop] at hk; omega, by rw [List.length_take]; omega, no_ten hn, fun LL hs => h.line hk h10 hn hs, fun kd l c hs => h.badline hk h10 hn hs⟩
theorem step_last {b : List Nat} {i ln : Nat} {O : List (List Ln.W)} (h : Q b i ln O) (hi : i < b.length) (hn : ∀ y, y < (b.drop i).length → (b.drop i).getD y 0 ≠ 10) : Step b i ln O (b.drop i) b.length :=
  ⟨hi, Nat.le_refl _, by rw [List.length_drop]; omega, by have := no_ten hn; rwa [List.take_length] at this, fun LL hs => h.last hs, fun kd l c hs => h.badlast hs⟩
set_option maxRecDepth 100000 in
set_option maxHeartbeats 8000000 in
theorem split_any (v : Value) (b : List Nat) (w : World) (hv : Bytes w v b) (hb : b.length ≤ 1000000) :
    Calls Tryz.prog 19 #[v] w (SplitIs b w) := by
  have HV := Lib.hid hv
  have HB := Lib.hid hb
  clear hb
  obtain ⟨n, hn⟩ : ∃ n, b.length = n := ⟨_, rfl⟩
  have HN := Lib.hid hn
  have HN6 : Hid (n ≤ 1000000) := Lib.hid (by rw [← hn]; exact HB.out)
  clear hn hv
  go_enter Tryz.func19, Tryz.ntmps19
  go_wp2_with fail
  go_loopw [0, 4, 5] (fun bv ov lv wr => ∃ (i ln : Nat) (O : List (List Ln.W)), i ≤ n ∧ ln ≤ i + 1 ∧ O.length ≤ i ∧ lv = .int .i64 (ln : Int) ∧ Hid (Q b i ln O) ∧ Hid (Bytes w bv (b.drop i)) ∧ Hid (St wr (w.heap.size + 1) ov O (.slice none 0 0) []) ∧ Hid (Blk wr w.heap.size 23 #[.int .i64 0, .int .i64 0, .int .i64 0]) ∧ Hid (Below w.heap.size w wr)) (fun bv _ _ _ => match bv with | .slice _ k _ => k | _ => 0)
  case atStart => exact ⟨0, 1, [], by omega, by omega, by simp, by go_num, Lib.hid (Q.start b), Lib.hid HV.out, Lib.hid (st_none _ _), Lib.hid (heap_alloc_new w _), Lib.hid ((Below.refl _ _).alloc (Nat.le_refl _) _)⟩
  case round =>
    obtain ⟨i, ln, O, hin, hln, hOi, rfl, hQ, hV, hS, hF, hbl⟩ := hrel
    obtain ⟨wz, rfl⟩ : ∃ wx : World, wx = wr := ⟨_, rfl⟩
    obtain ⟨_, _, A, c, hve, hc, _⟩ := hV.out.parts
    subst hve
    obtain ⟨r, hr⟩ : ∃ r, r = n - i := ⟨_, rfl⟩
    have HRL : Hid ((b.drop i).length = r) := Lib.hid (by rw [List.length_drop, HN.out, hr])
    rw [HRL.out] at hV hc ⊢
    by_cases hend : i = n
    · subst hend
      have h0 : r = 0 := by omega
      clear hr
      subst h0
      have HO : Hid (Ln.split b = .ok O) := Lib.hid (hQ.out.done HN.out.symm)
      have g0 : wz.cell? ⟨w.heap.size, 0, none⟩ = some (.int .i64 0) := hF.out.at 0
      have g1 : wz.cell? ⟨w.heap.size, 1, none⟩ = some (.int .i64 0) := hF.out.at 1
      have g2 : wz.cell? ⟨w.heap.size, 2, none⟩ = some (.int .i64 0) := hF.out.at 2
      have f0 := hF.out.free 0
      have f1 := hF.out.free 1
      have f2 := hF.out.free 2
      go_wp2
      refine bodyPost_ret (results_tmp_cell rfl _ _ w.heap.size _ _ _ _ rfl (((hF.out.set 0 _).set 1 _).set 2 _) Tryz.underlying23 rfl (by kernel_rfl)) rfl ?_
      refine ⟨?_, ((hbl.out.setCell (by simp) _).setCell (by simp) _).setCell (by simp) _⟩
      rw [HO.out]
      exact ⟨u4, rfl, ((((hS.out.setLow (by simp) _).setLow (by simp) _).setLow (by simp) _).more (Nat.le_succ _)).drop⟩
    · have hr0 : (0 : Int) < (r : Int) := by omega
      have hr1 : 0 < r := by omega
      have HIN : Hid (i < b.length) := Lib.hid (by rw [HN.out]; omega)
      have HR := Lib.hid hr
      clear hr hend
      have hws : w.heap.size + 1 ≤ wz.heap.size := hF.out.size
      go_wp2_with fail
      refine (lcut_any (.slice A r c) (b.drop i) wz.heap.size 0 1 _ ((hV.out.under hbl.out).alloc _) (by rw [HRL.out]; exact hr1) (by rw [HRL.out]; have := HB.out; have := HN.out; have := HR.out; omega) (Blk.at (heap_alloc_new wz _) 0)).mono ?_
      rintro ex w2 ⟨⟨nq, hw2⟩, hcut⟩
      have key : ∃ v1 A2 c2 f t i', ex = .returned (.tuple #[v1, .slice A2 (n - i') c2, .bool f]) ∧ Bytes w v1 t ∧ Bytes w (.slice A2 (n - i') c2) (b.drop i') ∧ Step b i ln O t i' := by
        have hlen : ∀ i', (b.drop i').length = n - i' := fun i' => by rw [List.length_drop, HN.out]
        rcases hcut with ⟨k, v1, v2, h1, h2, h3, rfl, h56⟩ | ⟨h1, rfl⟩
        · obtain ⟨h5, h6⟩ := h56 w hV.out
          rw [List.drop_drop, show i + (k + 1) = i + k + 1 from by omega] at h6
          obtain ⟨_, _, A2, c2, rfl, _, _⟩ := h6.parts
          rw [hlen] at h6 ⊢
          exact ⟨v1, A2, c2, true, _, i + k + 1, rfl, h5, h6, step_cut hQ.out h1 h2 h3⟩
        · refine ⟨.slice A r c, none, 0, false, b.drop i, n, by rw [Nat.sub_self], hV.out, ?_, by have := step_last hQ.out HIN.out h1; rwa [HN.out] at this⟩
          rw [Nat.sub_self, List.drop_of_length_le (Nat.le_of_eq HN.out)]
          exact bytes_none _
      obtain ⟨v1, A2, c2, f, t, i', rfl, hB1, hB2, hst⟩ := key
      have HS2 := Lib.hid (by rw [hw2]; exact (hS.out.alloc _).heap rfl : St w2 (w.heap.size + 1) u4 O (.slice none 0 0) [])
      have HF2 := Lib.hid (by rw [hw2]; exact hF.out.alloc _ : Blk w2 w.heap.size 23 #[.int .i64 0, .int .i64 0, .int .i64 0])
      have HBL2 : Hid (Below w.heap.size w w2) := Lib.hid (by
        have := hbl.out.alloc hbl.out.size (.cells #[.int .u8 10] 5)
        rw [hw2]
        exact ⟨this.1, this.2, this.3, this.4, this.5⟩)
      have hws2 : w.heap.size + 1 ≤ w2.heap.size := HF2.out.size
      have HB1 := Lib.hid hB1
      have HB2 := Lib.hid hB2
      have HST := Lib.hid hst
      obtain ⟨T, hT⟩ : ∃ T, T = Ln.sp t ln 1 [] := ⟨_, rfl⟩
      have HT := Lib.hid hT
      clear hcut hw2 hB1 hB2 hst hT hV hS hF hbl hQ
      go_wp2_with fail
      refine (one_any v1 t ln _ (HB1.out.under HBL2.out) (by have := HST.out.2.2.1; have := HST.out.2.1; have := HB.out; omega) HST.out.2.2.2.1 T HT.out).mono ?_
      rintro ex w3 ⟨hone, hb3⟩
      have HF3 := Lib.hid (HF2.out.under hb3)
      have HBL3 := Lib.hid (HBL2.out.trans (hb3.mono HBL2.out.size))
      have hin2 : i' ≤ n := by have := HST.out.2.1; have := HN.out; omega
      have hii : i < i' := HST.out.1
      rcases T with LL | ⟨kd, l, cl⟩
      · obtain ⟨R, u, hLL, hRl, rfl, hu⟩ := hone
        have HS3 := Lib.hid (HS2.out.put hb3 hws2 hu)
        have HQ3 := Lib.hid (HST.out.2.2.2.2.1 LL HT.out.symm)
        obtain ⟨Ar, cr, rfl, hcr⟩ := hu.parts
        obtain ⟨rn, hrn⟩ : ∃ k, R.length = k := ⟨_, rfl⟩
        rw [hrn] at HS3 ⊢
        have HRN := Lib.hid hrn
        have HS4 := Lib.hid (HS2.out.under hb3)
        have HLL := Lib.hid hLL
        have hws3 : w.heap.size + 1 ≤ w3.heap.size := HF3.out.size
        obtain ⟨l2, hl2⟩ : ∃ l2 : Nat, (ln : Int) + 1 = (l2 : Int) := ⟨ln + 1, by omega⟩
        have HL2 : Hid (ln + 1 = l2) := Lib.hid (by omega)
        have hl3 : (l2 : Int) ≤ 9223372036854775807 := by have := HN6.out; omega
        clear hb3 hu hcr hrn hLL
        rcases Nat.eq_zero_or_pos rn with h0 | h0
        · subst h0
          have HQ4 : Hid (Q b i' l2 O) := Lib.hid (by rw [← HL2.out]; have := HQ3.out; rwa [HLL.out, close_none HRN.out, List.append_nil] at this)
          go_wp2
          go_roundw
          case rel => exact ⟨i', l2, O, hin2, by have := HL2.out; omega, by omega, rfl, HQ4, HB2, Lib.hid (HS4.out.alloc _), Lib.hid (HF3.out.alloc _), Lib.hid (HBL3.out.alloc HBL3.out.size _)⟩
          case measure => have := HR.out; show n - i' < r; omega
        · have h0' : (0 : Int) < (rn : Int) := by omega
          have HQ4 : Hid (Q b i' l2 (O ++ [R])) := Lib.hid (by rw [← HL2.out]; have := HQ3.out; rwa [HLL.out, close_some (by rw [HRN.out]; omega)] at this)
          go_wp2_with (at_builtin; refine wpList_append_line rfl _ _ rfl (w.heap.size + 1) (w3.heap.size + 1) u4 (.slice Ar rn cr) O R rfl ((HS3.out.alloc _).alloc _) rfl (Blk.at (heap_alloc_at _ _ (by simp)) 0) (by have := HB.out; have := HN.out; omega) (Nat.le_trans hws3 (by simp; omega)) _ rfl ?_)
          rintro v' w4 hst4 hb4
          have HF4 := Lib.hid (((HF3.out.alloc _).alloc _).below hb4 (Nat.lt_succ_self _))
          have HBL4 := Lib.hid (((HBL3.out.alloc HBL3.out.size _).alloc (HBL3.out.alloc HBL3.out.size _).size _).trans (hb4.mono (Nat.le_succ _)))
          have HS5 := Lib.hid hst4
          clear hst4 hb4
          go_wp2
          go_roundw
          case rel => exact ⟨i', l2, O ++ [R], hin2, by have := HL2.out; omega, by simp; omega, rfl, HQ4, HB2, HS5, HF4, HBL4⟩
          case measure => have := HR.out; show n - i' < r; omega
      · obtain ⟨rfl, hk1⟩ := hone
        have HK1 := Lib.hid hk1
        have HT3 : Hid (Ln.split b = .bad kd l cl) := Lib.hid (HST.out.2.2.2.2.2 kd l cl HT.out.symm)
        have hk0 : ((kd : Int) != 0) = true := by simp; omega
        clear hk1 hb3
        go_wp2_with fail
        generalize hW : World.alloc w3 _ = W
        have hX : Blk W w3.heap.size 23 #[.int .i64 (kd : Int), .int .i64 (l : Int), .int .i64 (cl : Int)] := by rw [← hW]; exact heap_alloc_new w3 _
        have hF4 : Blk W w.heap.size 23 #[.int .i64 0, .int .i64 0, .int .i64 0] := by rw [← hW]; exact HF3.out.alloc _
        have HBL4 : Hid (Below w.heap.size w W) := Lib.hid (by rw [← hW]; exact HBL3.out.alloc HBL3.out.size _)
        have x0 : W.cell? ⟨w3.heap.size, 0, none⟩ = some (.int .i64 (kd : Int)) := hX.at 0
        have x1 : W.cell? ⟨w3.heap.size, 1, none⟩ = some (.int .i64 (l : Int)) := hX.at 1
        have x2 : W.cell? ⟨w3.heap.size, 2, none⟩ = some (.int .i64 (cl : Int)) := hX.at 2
        have g0 : W.cell? ⟨w.heap.size, 0, none⟩ = some (.int .i64 0) := hF4.at 0
        have g1 : W.cell? ⟨w.heap.size, 1, none⟩ = some (.int .i64 0) := hF4.at 1
        have g2 : W.cell? ⟨w.heap.size, 2, none⟩ = some (.int .i64 0) := hF4.at 2
        have f0 := hF4.free 0
        have f1 := hF4.free 1
        have f2 := hF4.free 2
        have HF4 := Lib.hid hF4
        clear hX hF4 hW
        go_region
        go_wp2
        refine bodyPost_ret (results_tmp_cell rfl _ _ w.heap.size _ _ _ _ rfl (((HF4.out.set 0 _).set 1 _).set 2 _) Tryz.underlying23 rfl (by kernel_rfl)) rfl ?_
        have hb5 := ((HBL4.out.setCell (p := ⟨w.heap.size, 0, none⟩) (by simp) (.int .i64 (kd : Int))).setCell (p := ⟨w.heap.size, 1, none⟩) (by simp) (.int .i64 (l : Int))).setCell (p := ⟨w.heap.size, 2, none⟩) (by simp) (.int .i64 (cl : Int))
        refine ⟨?_, hb5.1, hb5.2, hb5.3, hb5.4, hb5.5⟩
        rw [HT3.out]
        exact ⟨none, 0, rfl⟩
end Go.Proofs.YtgjehlegcmeeoaaGreatDoor
