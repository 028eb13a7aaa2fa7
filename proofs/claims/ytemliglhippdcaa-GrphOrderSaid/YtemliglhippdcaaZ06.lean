/- A heap of places behind a pointer, as package container/heap turns it: what each of its calls does. -/
import Derived.Test.YtemliglhippdcaaZ02
import Derived.Test.YtemliglhippdcaaZ00
import Derived.BigQuiet
import Derived.Deep.QuietTactic
import Derived.Deep.RegionHeld
import Derived.Deep.RegionLaw
import Derived.Deep.CutBlock
import Derived.Deep.LoopGhost
namespace Go.Proofs.Ytemliglhippdcaa
set_option maxRecDepth 100000
open Go.ChangeShapes Go.WideShapes Go.ChangeAt Go.RowKit

/-- All blocks but those of S lie as they lay. -/
structure Moves (S : Nat → Prop) (w w' : World) : Prop where
  os : w'.os = w.os
  tape : w'.tape = w.tape
  output : w'.output = w.output
  size : w.heap.size ≤ w'.heap.size
  block : ∀ k, k < w.heap.size → ¬ S k → w'.heap[k]? = w.heap[k]?
theorem Moves.refl (S : Nat → Prop) (w : World) : Moves S w w := ⟨rfl, rfl, rfl, Nat.le_refl _, fun _ _ _ => rfl⟩
theorem Moves.trans {S : Nat → Prop} {a b c : World} (h : Moves S a b) (k : Moves S b c) : Moves S a c :=
  ⟨k.os.trans h.os, k.tape.trans h.tape, k.output.trans h.output, Nat.le_trans h.size k.size, fun i hi hs => (k.block i (Nat.lt_of_lt_of_le hi h.size) hs).trans (h.block i hi hs)⟩
theorem Moves.wide {S T : Nat → Prop} {a b : World} (h : Moves S a b) (hs : ∀ k, k < a.heap.size → S k → T k) : Moves T a b := ⟨h.os, h.tape, h.output, h.size, fun i hi ht => h.block i hi fun x => ht (hs i hi x)⟩
theorem Moves.then {S T : Nat → Prop} {a b c : World} (h : Moves S a b) (k : Moves T b c) (hs : ∀ i, i < a.heap.size → T i → S i) : Moves S a c :=
  ⟨k.os.trans h.os, k.tape.trans h.tape, k.output.trans h.output, Nat.le_trans h.size k.size, fun i hi ht => (k.block i (Nat.lt_of_lt_of_le hi h.size) fun x => ht (hs i hi x)).trans (h.block i hi ht)⟩
theorem Moves.grown {a b : World} {row : Option Nat} (h : a.grownBy b row) : Moves (fun k => row = some k) a b := ⟨h.os, h.tape, h.output, h.size, fun i hi ht => h.block i hi fun e => ht e.symm⟩
theorem Moves.under {S : Nat → Prop} {a b : World} (h : Below a.heap.size a b) : Moves S a b := ⟨h.os, h.tape, h.output, h.size, fun i hi _ => h.block i hi⟩
theorem Moves.below {S : Nat → Prop} {B : Nat} {a b : World} (h : Moves S a b) (hB : B ≤ a.heap.size) (hs : ∀ k, S k → B ≤ k) : Below B a b := ⟨h.os, h.tape, h.output, h.size, fun i hi => h.block i (by omega) fun x => by have := hs i x; omega⟩
theorem Moves.ofBelow {S : Nat → Prop} {B : Nat} {a b : World} (h : Below B a b) (hs : ∀ k, B ≤ k → k < a.heap.size → S k) : Moves S a b := ⟨h.os, h.tape, h.output, h.size, fun i hi ht => h.block i (by rcases Nat.lt_or_ge i B with h1 | h1; exact h1; exact absurd (hs i h1 hi) ht)⟩
theorem Moves.setCell (w : World) (p : Addr) (u : Value) : Moves (fun k => k = p.block) w (w.setCell p u) :=
  (Moves.grown (grown_setCell w p u)).wide fun k _ e => by injection e with e; exact e.symm
theorem Blk.moves {S : Nat → Prop} {w w' : World} {g : Nat} {t : TypeId} {cs : Array Value} (h : Blk w g t cs) (hm : Moves S w w') (hs : ¬ S g) : Blk w' g t cs := (hm.block g h.size hs).trans h
theorem ownsRow_moves {S : Nat → Prop} {w w' : World} {base : Nat} {e : TypeId} {size n : Nat} {v : Value} {xs : List Value} (h : w.ownsRow base e size v n xs) (hm : Moves S w w') (hs : ∀ k, v.ownBlock = some k → ¬ S k) : w'.ownsRow base e size v n xs := by
  obtain ⟨h1, h2⟩ := h
  refine ⟨h1, ?_⟩
  rcases h2 with h2 | ⟨g, cap, cur, rfl, hb, hh, h3⟩
  · exact .inl h2
  · refine .inr ⟨g, cap, cur, rfl, hb, ?_, h3⟩
    rw [hm.block g (Array.getElem?_eq_some_iff.1 hh).1 (hs g rfl)]
    exact hh
theorem OwnI.moves {S : Nat → Prop} {w w' : World} {base : Nat} {v : Value} {l : List Nat} (h : OwnI w base v l) (hm : Moves S w w') (hs : ∀ k, v.ownBlock = some k → ¬ S k) : OwnI w' base v l := ownsRow_moves h hm hs
theorem OwnI.heap {w w' : World} {base : Nat} {v : Value} {l : List Nat} (h : OwnI w base v l) (e : w'.heap = w.heap) : OwnI w' base v l :=
  ownsRow_moves (S := fun _ => False) (w' := { w with heap := w'.heap }) h ⟨rfl, rfl, rfl, by rw [e]; exact Nat.le_refl _, fun k _ _ => by rw [e]⟩ (fun _ _ h => h)

/-- A heap behind a pointer: its box g, the slice v in it, the places l that it reads. -/
structure NextAt (w : World) (base g : Nat) (v : Value) (l : List Nat) : Prop where
  box : Blk w g 117 #[v]
  row : OwnI w base v l
  lt : ∀ x ∈ l, x ≤ 1000000
  len : l.length ≤ 1000000
/-- What is turned by a call on it. -/
def Nx (g : Nat) (v : Value) : Nat → Prop := fun k => k = g ∨ v.ownBlock = some k
theorem NextAt.apart {w : World} {base g : Nat} {v : Value} {l : List Nat} (h : NextAt w base g v l) : v.ownBlock ≠ some g := fun e => by
  rcases h.row.2 with ⟨rfl, _⟩ | ⟨r, cap, cur, rfl, _, hh, _⟩
  · cases e
  · injection e with e
    change r = g at e
    subst e
    have := h.box
    unfold Blk at this
    rw [hh] at this
    injection this with this
    injection this with _ this
    exact absurd this (by decide)
theorem NextAt.moves {S : Nat → Prop} {w w' : World} {base g : Nat} {v : Value} {l : List Nat} (h : NextAt w base g v l) (hm : Moves S w w') (hs : ∀ k, Nx g v k → ¬ S k) : NextAt w' base g v l :=
  ⟨h.box.moves hm (hs g (.inl rfl)), h.row.moves hm fun k hk => hs k (.inr hk), h.lt, h.len⟩
theorem NextAt.under {w w' : World} {base g : Nat} {v : Value} {l : List Nat} (h : NextAt w base g v l) (hb : Below w.heap.size w w') : NextAt w' base g v l := h.moves (S := fun _ => False) (Moves.under hb) fun _ _ h => h

theorem run_methodLen {w : World} {g : Nat} {v : Value} (h : w.cell? ⟨g, 0, none⟩ = some v) (F : Nat) : (method (F + 1) 114 (.pointer (some ⟨g, 0, none⟩)) "Len").run Try.prog w = .ok (62, v) w := by
  unfold method
  simp [go_sem, Try.t114, follow, receiverAt, Place.get, h]
theorem run_methodLess {w : World} {g : Nat} {v : Value} (h : w.cell? ⟨g, 0, none⟩ = some v) (F : Nat) : (method (F + 1) 114 (.pointer (some ⟨g, 0, none⟩)) "Less").run Try.prog w = .ok (97, v) w := by
  unfold method
  simp [go_sem, Try.t114, follow, receiverAt, Place.get, h]
theorem run_methodSwap {w : World} {g : Nat} {v : Value} (h : w.cell? ⟨g, 0, none⟩ = some v) (F : Nat) : (method (F + 1) 114 (.pointer (some ⟨g, 0, none⟩)) "Swap").run Try.prog w = .ok (101, v) w := by
  unfold method
  simp [go_sem, Try.t114, follow, receiverAt, Place.get, h]
theorem run_methodPush {w : World} {g : Nat} (F : Nat) : (method (F + 1) 114 (.pointer (some ⟨g, 0, none⟩)) "Push").run Try.prog w = .ok (99, .pointer (some ⟨g, 0, none⟩)) w := by
  unfold method
  simp [go_sem, Try.t114, follow, receiverAt, Place.get]
theorem run_methodPop {w : World} {g : Nat} (F : Nat) : (method (F + 1) 114 (.pointer (some ⟨g, 0, none⟩)) "Pop").run Try.prog w = .ok (98, .pointer (some ⟨g, 0, none⟩)) w := by
  unfold method
  simp [go_sem, Try.t114, follow, receiverAt, Place.get]

theorem OwnI.open {w : World} {base : Nat} {v : Value} {l : List Nat} (h : OwnI w base v l) {i : Nat} (hi : i < l.length) : ∃ g c, v = .slice (some ⟨g, 0, none⟩) l.length c ∧ l.length ≤ c ∧ base ≤ g ∧ g < w.heap.size ∧ (∀ k, k < l.length → w.cell? ⟨g, k, none⟩ = some (.int .i64 ((l.getD k 0 : Nat) : Int)) ∧ w.frozen? ⟨g, k, none⟩ = false) := by
  obtain ⟨A, c, rfl, hc⟩ := h.parts
  obtain ⟨g, rfl, _⟩ := h.cell hi
  have hl := h.lt g rfl
  refine ⟨g, c, rfl, hc, hl.1, hl.2, fun k hk => ⟨?_, World.ownsRow.frozenAt h k⟩⟩
  obtain ⟨g', e, h2⟩ := h.cell hk
  injection e with e
  injection e with e
  subst e
  rwa [Nat.zero_add] at h2
theorem rowI_set (l : List Nat) (k x : Nat) : rowI (l.set k x) = (rowI l).set k (.int .i64 (x : Int)) := by
  unfold rowI
  exact List.map_set
theorem OwnI.set {w : World} {base g n c : Nat} {l : List Nat} (h : OwnI w base (.slice (some ⟨g, 0, none⟩) n c) l) (k x : Nat) : OwnI (w.setCell ⟨g, k, none⟩ (.int .i64 (x : Int))) base (.slice (some ⟨g, 0, none⟩) n c) (l.set k x) := by
  have e : n = l.length := by
    rcases h.2 with ⟨e, _⟩ | ⟨_, _, _, e, _⟩
    · cases e
    · injection e
  subst e
  unfold OwnI at *
  rw [List.length_set, rowI_set]
  exact (World.ownsRow.stored h k _).1
theorem ilen_any (A : Option Addr) (n c : Nat) (w : World) : Calls Try.prog 62 #[.slice A n c] w fun e w' => e = .returned (.int .i64 (n : Int)) ∧ w = w' := by
  go_enter Try.func62, Try.ntmps62
  go_wp2
  go_ret
  exact ⟨rfl, rfl⟩
theorem below_drewn (w : World) (n : Nat) : Below w.heap.size w (w.drewN n) := ⟨rfl, rfl, rfl, Nat.le_refl _, fun _ _ => rfl⟩
theorem iless_any {w : World} {base : Nat} {v : Value} {l : List Nat} (h : OwnI w base v l) (i j : Nat) (hi : i < l.length) (hj : j < l.length) : Calls Try.prog 97 #[v, .int .i64 (i : Int), .int .i64 (j : Int)] w fun e w' => e = .returned (.bool (decide (l.getD i 0 < l.getD j 0))) ∧ w'.heap = w.heap ∧ Below w.heap.size w w' := by
  obtain ⟨g, c, rfl, hc, _, _, hcell⟩ := h.open hi
  have p1 := (hcell i hi).1
  have p2 := (hcell j hj).1
  obtain ⟨n, hn⟩ : ∃ n, l.length = n := ⟨_, rfl⟩
  obtain ⟨x, hx⟩ : ∃ x, l.getD i 0 = x := ⟨_, rfl⟩
  obtain ⟨y, hy⟩ : ∃ y, l.getD j 0 = y := ⟨_, rfl⟩
  rw [hn] at hi hj
  rw [hx] at p1 ⊢
  rw [hy] at p2 ⊢
  rw [hn]
  clear hcell hx hy hn h hc
  have hiI : (i : Int) < (n : Int) := by omega
  have hjI : (j : Int) < (n : Int) := by omega
  go_enter Try.func97, Try.ntmps97
  go_wp2_with fail
  go_quiet (fail)
  go_wp2
  go_ret
  exact ⟨rfl, rfl, below_drewn _ _⟩
theorem iswap_one {w : World} {base : Nat} {v : Value} {l : List Nat} (h : OwnI w base v l) (i : Nat) (hi : i < l.length) : Calls Try.prog 101 #[v, .int .i64 (i : Int), .int .i64 (i : Int)] w fun e w' => e = .returned (.tuple #[]) ∧ OwnI w' base v l ∧ Moves (fun k => v.ownBlock = some k) w w' := by
  obtain ⟨g, c, rfl, hc, _, _, hcell⟩ := h.open hi
  have p1 := (hcell i hi).1
  have f1 := (hcell i hi).2
  have HO := Lib.hid h
  obtain ⟨n, hn⟩ : ∃ n, l.length = n := ⟨_, rfl⟩
  obtain ⟨x, hx⟩ : ∃ x, l.getD i 0 = x := ⟨_, rfl⟩
  have HX : Hid (l.set i x = l) := Lib.hid (by rw [← hx, List.getD_eq_getElem?_getD, List.getElem?_eq_getElem hi]; exact List.set_getElem_self hi)
  rw [hn] at hi
  rw [hx] at p1
  rw [hn] at HO
  rw [hn]
  clear hcell hx hn h hc
  have hiI : (i : Int) < (n : Int) := by omega
  go_enter Try.func101, Try.ntmps101
  go_wp2_with fail
  go_region
  go_end0
  have h1 := (HO.out.set i x).set i x
  rw [HX.out, HX.out] at h1
  exact ⟨rfl, h1.heap rfl, ((Moves.setCell _ _ _).wide (fun k _ e => by rw [e]; rfl)).trans (((Moves.setCell _ _ _).wide (fun k _ e => by rw [e]; rfl)).trans (Moves.under (below_drewn _ 1)))⟩
theorem iswap_two {w : World} {base : Nat} {v : Value} {l : List Nat} (h : OwnI w base v l) (i j : Nat) (hij : i ≠ j) (hi : i < l.length) (hj : j < l.length) : Calls Try.prog 101 #[v, .int .i64 (i : Int), .int .i64 (j : Int)] w fun e w' => e = .returned (.tuple #[]) ∧ OwnI w' base v (Hp.swap l i j) ∧ Moves (fun k => v.ownBlock = some k) w w' := by
  obtain ⟨g, c, rfl, hc, _, _, hcell⟩ := h.open hi
  have p1 := (hcell i hi).1
  have f1 := (hcell i hi).2
  have p2 := (hcell j hj).1
  have f2 := (hcell j hj).2
  have HO := Lib.hid h
  obtain ⟨n, hn⟩ : ∃ n, l.length = n := ⟨_, rfl⟩
  obtain ⟨x, hx⟩ : ∃ x, l.getD i 0 = x := ⟨_, rfl⟩
  obtain ⟨y, hy⟩ : ∃ y, l.getD j 0 = y := ⟨_, rfl⟩
  have HX : Hid (Hp.swap l i j = (l.set i y).set j x ∧ Hp.swap l i j = (l.set j x).set i y) := Lib.hid (by
    unfold Hp.swap
    rw [hx, hy]
    exact ⟨rfl, List.set_comm _ _ hij⟩)
  rw [hn] at hi hj
  rw [hx] at p1
  rw [hy] at p2
  rw [hn] at HO
  rw [hn]
  clear hcell hx hy hn h hc
  have hiI : (i : Int) < (n : Int) := by omega
  have hjI : (j : Int) < (n : Int) := by omega
  have hji : j ≠ i := fun e => hij e.symm
  go_enter Try.func101, Try.ntmps101
  go_wp2_with fail
  go_region
  go_end0
  have h1 := (HO.out.set i y).set j x
  rw [← HX.out.1] at h1
  exact ⟨rfl, h1.heap rfl, ((Moves.setCell _ _ _).wide (fun k _ e => by rw [e]; rfl)).trans (((Moves.setCell _ _ _).wide (fun k _ e => by rw [e]; rfl)).trans (Moves.under (below_drewn _ 1)))⟩
theorem swap_self (l : List Nat) (i : Nat) (hi : i < l.length) : Hp.swap l i i = l := by
  unfold Hp.swap
  rw [List.set_set, List.getD_eq_getElem?_getD, List.getElem?_eq_getElem hi]
  exact List.set_getElem_self hi
theorem iswap_any {w : World} {base : Nat} {v : Value} {l : List Nat} (h : OwnI w base v l) (i j : Nat) (hi : i < l.length) (hj : j < l.length) : Calls Try.prog 101 #[v, .int .i64 (i : Int), .int .i64 (j : Int)] w fun e w' => e = .returned (.tuple #[]) ∧ OwnI w' base v (Hp.swap l i j) ∧ Moves (fun k => v.ownBlock = some k) w w' := by
  by_cases e : i = j
  · subst e
    rw [swap_self l i hi]
    exact iswap_one h i hi
  · exact iswap_two h i j e hi hj
theorem nxpop_any {w : World} {base g : Nat} {v : Value} {l : List Nat} {x : Nat} (h : NextAt w base g v (l ++ [x])) : Calls Try.prog 98 #[.pointer (some ⟨g, 0, none⟩)] w fun e w' => e = .returned (.iface 3 (.int .i64 (x : Int))) ∧ (∃ v', v'.ownBlock = v.ownBlock ∧ NextAt w' base g v' l) ∧ Moves (Nx g v) w w' := by
  have hlen : (l ++ [x]).length = l.length + 1 := by simp
  obtain ⟨r, c, rfl, hc, hbr, hrs, hcell⟩ := h.row.open (i := l.length) (by rw [hlen]; omega)
  have p1 := (hcell l.length (by rw [hlen]; omega)).1
  rw [show (l ++ [x]).getD l.length 0 = x from by simp] at p1
  have q1 := h.box.at 0
  have f1 := h.box.free 0
  change w.cell? ⟨g, 0, none⟩ = some _ at q1
  have hrow := h.row
  unfold OwnI at hrow
  have hgr : r ≠ g := fun e => h.apart (by rw [e]; rfl)
  have hll := h.len
  have hbox := h.box
  rw [hlen] at hrow q1 hc hll hbox ⊢
  have HP := Lib.hid (ownsRow_pop (w := w) (base := base) (e := 3) (size := 1) (g := r) (cap := c) (n := l.length) (xs := rowI l) (last := [.int .i64 (x : Int)]) (by simp [rowI]) (by
    rw [show rowI l ++ [.int .i64 (x : Int)] = rowI (l ++ [x]) from by simp [rowI]]
    exact hrow))
  have HB := Lib.hid hbox
  have HL := Lib.hid h.lt
  obtain ⟨n, hn⟩ : ∃ n, l.length = n := ⟨_, rfl⟩
  rw [hn] at p1 q1 hc HP hll hlen HB
  rw [hn]
  have HN := Lib.hid hn
  have k1 : IntKind.i64.wrap (((n + 1 : Nat) : Int) - 1) = (n : Int) := by rw [show ((n + 1 : Nat) : Int) - 1 = (n : Int) by omega]; exact wrap_small _ (by omega) (by omega)
  have k2 : (n : Int) < ((n + 1 : Nat) : Int) := by omega
  clear hcell hrow h hn hlen hbox
  go_enter Try.func98, Try.ntmps98
  go_wp2_with fail
  go_ret
  refine ⟨rfl, ⟨.slice (some ⟨r, 0, none⟩) n c, rfl, HB.out.set 0 _, ?_, fun y hy => HL.out y (List.mem_append_left _ hy), by rw [HN.out]; omega⟩, (Moves.setCell _ _ _).wide fun k _ e => .inl e⟩
  unfold OwnI
  rw [HN.out]
  exact ownsRow_moves HP.out (Moves.setCell w ⟨g, 0, none⟩ (.slice (some ⟨r, 0, none⟩) n c)) fun k hk e => hgr (by injection hk with hk; change r = k at hk; change k = g at e; rw [hk, e])
/-- An append of one int whose run is told. -/
theorem run_append_int {w : World} {base : Nat} {T ty : TypeId} (hT : Try.prog.underlying T = some (.slice 3)) {v : Value} {l : List Nat} (B n : Nat) (c : Nat) (hown : OwnI w base v l) (hB : w.cell? ⟨B, 0, none⟩ = some (.int .i64 (n : Int)))
    (hlen : l.length ≤ 1099511627776) (hbase : base ≤ w.heap.size) : ∃ v' w', (Builtin.append_ #[T, T] ty #[v, .slice (some ⟨B, 0, none⟩) 1 c]).run Try.prog w = .ok v' w' ∧ OwnI w' base v' (l ++ [n]) ∧ w.grownBy w' v.ownBlock ∧ (v'.ownBlock = v.ownBlock ∨ v'.ownBlock = some w.heap.size) := by
  obtain ⟨i, hi, hz0, hz1, hz2⟩ := info_parts infoInt
  obtain ⟨v', w', hr, ho, hg, _, hat⟩ := run_append_own_at (P := Try.prog) w base T ty 3 i (.int .i64 0) 1 8 hT hi hz0 hz1 hz2 rfl (by decide) v l.length (rowI l) hown ⟨B, 0, none⟩ 1 c [.int .i64 (n : Int)] rfl
    (fun j u hu => by
      have hj : j = 0 := by
        rcases j with _ | j
        · rfl
        · simp at hu
      subst hj
      simp at hu
      subst hu
      rw [add_plain]
      exact hB) (fun u hu => by simp at hu; subst hu; rfl) (by unfold maxLen; omega) (by omega) hbase
  refine ⟨v', w', hr, ?_, hg, hat⟩
  unfold OwnI
  rw [List.length_append, show rowI (l ++ [n]) = rowI l ++ [.int .i64 (n : Int)] from List.map_append]
  exact ho
/-- An append whose run is known, in a region that draws. -/
theorem step_append_eqH {P : Program} {w : World} {ops : Array Oper} {o : Oper} {a : Act} {K : Act → World → Prop} {Q : Exit → Act → World → Prop} {E : Prop} (hgd : o.guard = none) (s x : Operand) (T : TypeId)
    (ho : o.op = .call { callee := .builtin .append, args := #[s, x], argTypes := #[T, T] }) (vs vx : Value) (hs : a.eval s = vs) (hx : a.eval x = vx) {v' : Value} {w' : World} (hr : (Builtin.append_ #[T, T] o.type #[vs, vx]).run P w = .ok v' w')
    (h : K (a.put o.dst v') w') : if Region.wanted o (yielded ops a.tmps) = true then Oper.wp P o a w K Q else E := by
  rw [if_pos (by simp [Region.wanted, hgd])]
  unfold Oper.wp execOp
  simp only [ho, resolve, invoke, builtin, Sem.run_bind, Sem.run_pure, Result.andThen_ok, List.map_toArray, List.map_cons, List.map_nil, hs, hx, hr]
  exact h
theorem nxpush_any {w : World} {base g : Nat} {v : Value} {l : List Nat} (x : Nat) (h : NextAt w base g v l) (hx : x ≤ 1000000) (hl : l.length + 1 ≤ 1000000) (hbase : base ≤ w.heap.size) :
    Calls Try.prog 99 #[.pointer (some ⟨g, 0, none⟩), .iface 3 (.int .i64 (x : Int))] w fun e w' => e = .returned (.tuple #[]) ∧ (∃ v', (∀ r, v'.ownBlock = some r → v.ownBlock = some r ∨ w.heap.size ≤ r) ∧ NextAt w' base g v' (l ++ [x])) ∧ Moves (Nx g v) w w' := by
  have q1 : w.cell? ⟨g, 0, none⟩ = some v := h.box.at 0
  have hgs := h.box.size
  have hap := h.apart
  obtain ⟨w1, hw1⟩ : ∃ w1, w1 = (w.drew.alloc (.cells #[.int .i64 (x : Int)] 3)) := ⟨_, rfl⟩
  have hb1 : Below w.heap.size w w1 := by rw [hw1]; exact ⟨rfl, rfl, rfl, by simp, fun k hk => Below.heap_alloc _ _ k hk⟩
  obtain ⟨v', w2, hr, ho, hg, hat⟩ := run_append_int (w := w1) (T := 115) (ty := 115) (by kernel_rfl) w.heap.size x 1 (h.row.under hb1) (by
    rw [hw1]
    have e1 : (w.drew.alloc (.cells #[.int .i64 (x : Int)] 3)).heap[w.heap.size]? = some (.cells #[.int .i64 (x : Int)] 3) := heap_alloc_new w.drew _
    unfold World.cell?
    rw [e1]
    rfl) (by omega) (Nat.le_trans hbase hb1.size)
  obtain ⟨Av, cv, hv', _⟩ := ho.parts
  obtain ⟨mv, hmv⟩ : ∃ mv, (l ++ [x]).length = mv := ⟨_, rfl⟩
  rw [hmv] at hv'
  have hbox2 := (h.box.under hb1).grown hg (fun e => hap e.symm)
  have hv1 : Hid (w1.heap.size = w.heap.size + 1) := Lib.hid (by rw [hw1]; simp)
  have HFIN : Hid ((∃ vn, (∀ r, vn.ownBlock = some r → v.ownBlock = some r ∨ w.heap.size ≤ r) ∧ NextAt (w2.setCell ⟨g, 0, none⟩ v') base g vn (l ++ [x])) ∧ Moves (Nx g v) w (w2.setCell ⟨g, 0, none⟩ v')) := Lib.hid (by
    have hgv : ∀ k, v'.ownBlock = some k → ¬ k = g := fun k hk e => by
      rcases hat with e1 | e1
      · exact hap (by rw [← e1, hk, e])
      · rw [e1] at hk; injection hk with hk; have := hv1.out; omega
    refine ⟨⟨v', fun r hr => ?_, hbox2.set 0 _, ho.moves (Moves.setCell w2 ⟨g, 0, none⟩ v') hgv, fun y hy => ?_, by simp; omega⟩, ?_⟩
    · rcases hat with e1 | e1
      · exact .inl (by rw [← e1, hr])
      · rw [e1] at hr; injection hr with hr; have := hv1.out; exact .inr (by omega)
    · rcases List.mem_append.1 hy with hy | hy
      · exact h.lt y hy
      · simp at hy; omega
    · exact ((Moves.under hb1).trans ((Moves.grown hg).wide fun k _ e => .inr e)).trans ((Moves.setCell _ _ _).wide fun k _ e => .inl e))
  have HR := Lib.hid hr
  have q2 : w1.cell? ⟨g, 0, none⟩ = some v := (h.box.under hb1).at 0
  have q3 : w2.cell? ⟨g, 0, none⟩ = some v := hbox2.at 0
  have f2 : w2.frozen? ⟨g, 0, none⟩ = false := hbox2.free 0
  clear h hr ho hg hat hbox2 hb1 hap hl hmv
  subst hw1
  subst hv'
  have hta : ∀ w : World, (Instr.typeAssert (.iface 3 (.int .i64 (x : Int))) 20 3 false).run Try.prog w = .ok (.int .i64 (x : Int)) w := fun _ => by kernel_rfl
  go_enter Try.func99, Try.ntmps99
  go_wp2_with fail
  go_region_law (refine step_append_eqH rfl (.tmp 8) (.tmp 11) 115 rfl _ _ rfl rfl HR.out ?_)
  all_goals (go_wp2; go_end0; exact ⟨rfl, HFIN.out⟩)
/-- What lets the place j rise. -/
theorem hup_any {w : World} {base g : Nat} {v : Value} {l : List Nat} (j : Nat) (h : NextAt w base g v l) (hu : Hp.UpOk l l.length j) (hj : j < l.length) :
    Calls Try.prog 73 #[.iface 114 (.pointer (some ⟨g, 0, none⟩)), .int .i64 (j : Int)] w fun e w' => e = .returned (.tuple #[]) ∧ (∃ l', NextAt w' base g v l' ∧ l'.Perm l ∧ Hp.Heap l' l'.length) ∧ Moves (Nx g v) w w' := by
  have hM := h.len
  have H := Lib.hid h
  have HU := Lib.hid hu
  obtain ⟨n, hn⟩ : ∃ n, l.length = n := ⟨_, rfl⟩
  have HN := Lib.hid hn
  rw [hn] at hM hj HU
  clear h hu hn
  go_enter Try.func73, Try.ntmps73
  go_wp2_with fail
  go_loopg [1] (j + 1) (fun f jv wx => ∃ (i : Nat) (m : List Nat), i < n ∧ i + 1 ≤ f ∧ jv = .int .i64 (i : Int) ∧ Hid (m.length = n) ∧ Hid (NextAt wx base g v m) ∧ Hid (m.Perm l) ∧ Hid (Hp.UpOk m n i) ∧ Hid (Moves (Nx g v) w wx))
  case atStart => exact ⟨j, l, hj, by omega, rfl, HN, H, Lib.hid (List.Perm.refl _), HU, Lib.hid (Moves.refl _ _)⟩
  case round =>
    obtain ⟨i, m, hi, hf, rfl, HML, HA, HP, HUP, HMV⟩ := hrel
    have hcs : wr.cell? ⟨g, 0, none⟩ = some v := HA.out.box.at 0
    have hml := fun F => run_methodLess (w := wr) hcs F
    by_cases h0 : i = 0
    · subst h0
      have HD := Lib.hid (Hp.up_done_zero HUP.out)
      go_wp2_with fail
      go_end0
      exact ⟨rfl, ⟨m, HA.out, HP.out, by rw [HML.out]; exact HD.out⟩, HMV.out⟩
    · obtain ⟨q, hq⟩ : ∃ q, (i - 1) / 2 = q := ⟨_, rfl⟩
      have hqI : ((i : Int) - 1).tdiv 2 = (q : Int) := by rw [Int.tdiv_eq_ediv_of_nonneg (by omega)]; omega
      have hqi : ¬ (q : Int) = (i : Int) := by omega
      have hqn : q < n := by omega
      by_cases hl : m.getD i 0 < m.getD q 0
      · have HS := Lib.hid (show Hp.UpOk (Hp.swap m q i) n q by
          have h1 := Hp.up_step HUP.out (by rw [HML.out]; exact Nat.le_refl _) hi (by omega) (by rw [hq]; exact hl)
          rwa [hq] at h1)
        have HLS := Lib.hid (iless_any HA.out.row i q (by rw [HML.out]; exact hi) (by rw [HML.out]; exact hqn))
        rw [decide_eq_true hl] at HLS
        have hqi2 : q < i := by omega
        clear hl hq h0
        go_wp2_with fail
        refine HLS.out.mono ?_
        rintro e w1 ⟨rfl, hh, hb1⟩
        have HA1 := Lib.hid (HA.out.under hb1)
        have HM1 := Lib.hid (HMV.out.trans (Moves.under hb1))
        have hcs1 : w1.cell? ⟨g, 0, none⟩ = some v := HA1.out.box.at 0
        have hms := fun F => run_methodSwap (w := w1) hcs1 F
        clear hh hb1
        go_wp2_with fail
        refine (iswap_any HA1.out.row q i (by rw [HML.out]; exact hqn) (by rw [HML.out]; exact hi)).mono ?_
        rintro e w2 ⟨rfl, ho2, hm2⟩
        have HA2 := Lib.hid (show NextAt w2 base g v (Hp.swap m q i) from ⟨HA1.out.box.moves hm2 (fun e => HA1.out.apart e), ho2, fun x hx => HA1.out.lt x (((Hp.swap_perm m q i (by rw [HML.out]; exact hqn) (by rw [HML.out]; exact hi)).mem_iff).1 hx), by rw [Hp.swap_length]; exact HA1.out.len⟩)
        have HM2 := Lib.hid (HM1.out.trans (hm2.wide (T := Nx g v) fun k _ e => .inr e))
        have HP2 := Lib.hid ((Hp.swap_perm m q i (by rw [HML.out]; exact hqn) (by rw [HML.out]; exact hi)).trans HP.out)
        clear ho2 hm2
        go_wp2_with fail
        go_roundg (q + 1)
        case measure => omega
        case rel => exact ⟨q, _, hqn, by omega, rfl, Lib.hid (by rw [Hp.swap_length]; exact HML.out), HA2, HP2, HS, HM2⟩
      · have HD := Lib.hid (Hp.up_done HUP.out (by rw [hq]; exact hl))
        have HLS := Lib.hid (iless_any HA.out.row i q (by rw [HML.out]; exact hi) (by rw [HML.out]; exact hqn))
        rw [decide_eq_false hl] at HLS
        clear hl hq h0
        go_wp2_with fail
        refine HLS.out.mono ?_
        rintro e w1 ⟨rfl, hh, hb1⟩
        have HA1 := Lib.hid (HA.out.under hb1)
        have HM1 := Lib.hid (HMV.out.trans (Moves.under hb1))
        clear hh hb1
        go_wp2_with fail
        go_end0
        exact ⟨rfl, ⟨m, HA1.out, HP.out, by rw [HML.out]; exact HD.out⟩, HM1.out⟩
end Go.Proofs.Ytemliglhippdcaa

/- A heap of places: what sinks; Push and Pop of package container/heap. -/
namespace Go.Proofs.Ytemliglhippdcaa
set_option maxRecDepth 100000
open Go.ChangeShapes Go.WideShapes Go.ChangeAt Go.RowKit

theorem NextAt.swapped {w w' : World} {base g : Nat} {v : Value} {m : List Nat} {a b : Nat} (h : NextAt w base g v m) (ha : a < m.length) (hb : b < m.length) (ho : OwnI w' base v (Hp.swap m a b)) (hm : Moves (fun k => v.ownBlock = some k) w w') : NextAt w' base g v (Hp.swap m a b) :=
  ⟨h.box.moves hm (fun e => h.apart e), ho, fun x hx => h.lt x (((Hp.swap_perm m a b ha hb).mem_iff).1 hx), by rw [Hp.swap_length]; exact h.len⟩
theorem swap_last (m : List Nat) (a b k : Nat) (ha : a < m.length) (hb : b < m.length) (h1 : k ≠ a) (h2 : k ≠ b) : (Hp.swap m a b).getD k 0 = m.getD k 0 := by
  rw [Hp.swap_get m a b ha hb, if_neg h2, if_neg h1]
set_option maxHeartbeats 4000000 in
theorem hdown_any {w : World} {base g : Nat} {v : Value} {l : List Nat} (n N : Nat) (h : NextAt w base g v l) (hN : l.length = N) (hn : n < N) (hu : Hp.DownOk l n 0) :
    Calls Try.prog 74 #[.iface 114 (.pointer (some ⟨g, 0, none⟩)), .int .i64 0, .int .i64 (n : Int)] w fun e w' => (∃ b, e = .returned (.bool b)) ∧ (∃ l', NextAt w' base g v l' ∧ l'.Perm l ∧ Hp.Heap l' n ∧ l'.getD n 0 = l.getD n 0) ∧ Moves (Nx g v) w w' := by
  have hM : N ≤ 1000000 := by rw [← hN]; exact h.len
  have H := Lib.hid h
  have HU := Lib.hid hu
  have HN := Lib.hid hN
  clear h hu hN
  go_enter Try.func74, Try.ntmps74
  go_wp2_with fail
  go_loopg [7] n (fun f jv wx => ∃ (i : Nat) (m : List Nat), i ≤ n ∧ n - i ≤ f ∧ jv = .int .i64 (i : Int) ∧ Hid (m.length = N) ∧ Hid (NextAt wx base g v m) ∧ Hid (m.Perm l) ∧ Hid (Hp.DownOk m n i) ∧ Hid (Moves (Nx g v) w wx) ∧ Hid (m.getD n 0 = l.getD n 0))
  case atStart => exact ⟨0, l, by omega, by omega, rfl, HN, H, Lib.hid (List.Perm.refl _), HU, Lib.hid (Moves.refl _ _), Lib.hid rfl⟩
  case round =>
    obtain ⟨i, m, hi, hf, rfl, HML, HA, HP, HUP, HMV, HLA⟩ := hrel
    have hcs : wr.cell? ⟨g, 0, none⟩ = some v := HA.out.box.at 0
    have hml := fun F => run_methodLess (w := wr) hcs F
    by_cases h0 : n ≤ 2 * i + 1
    · have HD := Lib.hid (Hp.down_done_end HUP.out h0)
      have h0I : (n : Int) ≤ 2 * (i : Int) + 1 := by omega
      clear h0
      go_wp2_with fail
      go_ret
      exact ⟨⟨_, rfl⟩, ⟨m, HA.out, HP.out, HD.out, HLA.out⟩, HMV.out⟩
    · obtain ⟨a, ha⟩ : ∃ a, 2 * i + 1 = a := ⟨_, rfl⟩
      have haI : 2 * (i : Int) + 1 = (a : Int) := by omega
      have k1 : ¬ (n : Int) ≤ (a : Int) := by omega
      have k2 : ¬ (a : Int) < 0 := by omega
      have hin : i < n := by omega
      have han : a < n := by omega
      have hia : i < a := by omega
      have HA1 : Hid (a = 2 * i + 1) := Lib.hid ha.symm
      clear ha h0
      by_cases hb : a + 1 < n
      · have hbI : (a : Int) + 1 < (n : Int) := by omega
        by_cases hl : m.getD (a + 1) 0 < m.getD a 0
        · have HLX := Lib.hid (iless_any HA.out.row (a + 1) a (by rw [HML.out]; omega) (by rw [HML.out]; omega))
          rw [decide_eq_true hl] at HLX
          obtain ⟨b, hbe⟩ : ∃ b, a + 1 = b := ⟨_, rfl⟩
          have hbe2 : (a : Int) + 1 = (b : Int) := by omega
          rw [hbe] at HLX hl
          have hbn : b < n := by omega
          have hib : i < b := by omega
          have HJ1 : Hid (m.getD b 0 ≤ m.getD (2 * i + 1) 0) := Lib.hid (by rw [← HA1.out]; omega)
          have HJ2 : Hid (2 * i + 2 < n → m.getD b 0 ≤ m.getD (2 * i + 2) 0) := Lib.hid (fun _ => by rw [show 2 * i + 2 = b by have := HA1.out; omega]; exact Nat.le_refl _)
          have HB : Hid (b = 2 * i + 1 ∨ b = 2 * i + 2) := Lib.hid (by have := HA1.out; omega)
          clear hl hbe hb hbI
          go_wp2_with fail
          refine HLX.out.mono ?_
          rintro e w2 ⟨rfl, hh, hb1⟩
          have HA2 := Lib.hid (HA.out.under hb1)
          have HM2 := Lib.hid (HMV.out.trans (Moves.under hb1))
          clear hh hb1
          have hcb : w2.cell? ⟨g, 0, none⟩ = some v := HA2.out.box.at 0
          have hmb := fun F => run_methodLess (w := w2) hcb F
          by_cases hl2 : m.getD b 0 < m.getD i 0
          · have HLY := Lib.hid (iless_any HA2.out.row b i (by rw [HML.out]; omega) (by rw [HML.out]; omega))
            rw [decide_eq_true hl2] at HLY
            have HS := Lib.hid (Hp.down_step HUP.out (j := b) (by rw [HML.out]; omega) hbn HB.out HJ1.out HJ2.out hl2)
            have HMI := Lib.hid (swap_last m i b n (by rw [HML.out]; omega) (by rw [HML.out]; omega) (by omega) (by omega))
            clear hl2
            go_wp2_with fail
            refine HLY.out.mono ?_
            rintro e w3 ⟨rfl, hh, hb1⟩
            have HA3 := Lib.hid (HA2.out.under hb1)
            have HM3 := Lib.hid (HM2.out.trans (Moves.under hb1))
            have hcs3 : w3.cell? ⟨g, 0, none⟩ = some v := HA3.out.box.at 0
            have hms := fun F => run_methodSwap (w := w3) hcs3 F
            clear hh hb1
            go_wp2_with fail
            refine (iswap_any HA3.out.row i b (by rw [HML.out]; omega) (by rw [HML.out]; omega)).mono ?_
            rintro e w4 ⟨rfl, ho2, hm2⟩
            have HA4 := Lib.hid (HA3.out.swapped (by rw [HML.out]; omega) (by rw [HML.out]; omega) ho2 hm2)
            have HM4 := Lib.hid (HM3.out.trans (hm2.wide (T := Nx g v) fun k _ e => .inr e))
            have HP4 := Lib.hid ((Hp.swap_perm m i b (by rw [HML.out]; omega) (by rw [HML.out]; omega)).trans HP.out)
            clear ho2 hm2
            go_wp2_with fail
            go_roundg (n - b)
            case measure => omega
            case rel => exact ⟨b, _, by omega, by omega, rfl, Lib.hid (by rw [Hp.swap_length]; exact HML.out), HA4, HP4, HS, HM4, Lib.hid (HMI.out.trans HLA.out)⟩
          · have HLY := Lib.hid (iless_any HA2.out.row b i (by rw [HML.out]; omega) (by rw [HML.out]; omega))
            rw [decide_eq_false hl2] at HLY
            have HD := Lib.hid (Hp.down_done (j := b) HUP.out HJ1.out HJ2.out hl2)
            clear hl2
            go_wp2_with fail
            refine HLY.out.mono ?_
            rintro e w3 ⟨rfl, hh, hb1⟩
            have HA3 := Lib.hid (HA2.out.under hb1)
            have HM3 := Lib.hid (HM2.out.trans (Moves.under hb1))
            clear hh hb1
            go_wp2_with fail
            go_ret
            exact ⟨⟨_, rfl⟩, ⟨m, HA3.out, HP.out, HD.out, HLA.out⟩, HM3.out⟩
        · have HLX := Lib.hid (iless_any HA.out.row (a + 1) a (by rw [HML.out]; omega) (by rw [HML.out]; omega))
          rw [decide_eq_false hl] at HLX
          obtain ⟨b, hbe⟩ : ∃ b, a + 1 = b := ⟨_, rfl⟩
          have hbe2 : (a : Int) + 1 = (b : Int) := by omega
          rw [hbe] at HLX hl
          have hbn : b < n := by omega
          have HJ1 : Hid (m.getD a 0 ≤ m.getD (2 * i + 1) 0) := Lib.hid (by rw [← HA1.out]; exact Nat.le_refl _)
          have HJ2 : Hid (2 * i + 2 < n → m.getD a 0 ≤ m.getD (2 * i + 2) 0) := Lib.hid (fun _ => by rw [show 2 * i + 2 = b by have := HA1.out; omega]; omega)
          have HB : Hid (a = 2 * i + 1 ∨ a = 2 * i + 2) := Lib.hid (.inl HA1.out)
          clear hl hbe hb hbI
          go_wp2_with fail
          refine HLX.out.mono ?_
          rintro e w2 ⟨rfl, hh, hb1⟩
          have HA2 := Lib.hid (HA.out.under hb1)
          have HM2 := Lib.hid (HMV.out.trans (Moves.under hb1))
          clear hh hb1
          have hcb : w2.cell? ⟨g, 0, none⟩ = some v := HA2.out.box.at 0
          have hmb := fun F => run_methodLess (w := w2) hcb F
          by_cases hl2 : m.getD a 0 < m.getD i 0
          · have HLY := Lib.hid (iless_any HA2.out.row a i (by rw [HML.out]; omega) (by rw [HML.out]; omega))
            rw [decide_eq_true hl2] at HLY
            have HS := Lib.hid (Hp.down_step HUP.out (j := a) (by rw [HML.out]; omega) han HB.out HJ1.out HJ2.out hl2)
            have HMI := Lib.hid (swap_last m i a n (by rw [HML.out]; omega) (by rw [HML.out]; omega) (by omega) (by omega))
            clear hl2
            go_wp2_with fail
            refine HLY.out.mono ?_
            rintro e w3 ⟨rfl, hh, hb1⟩
            have HA3 := Lib.hid (HA2.out.under hb1)
            have HM3 := Lib.hid (HM2.out.trans (Moves.under hb1))
            have hcs3 : w3.cell? ⟨g, 0, none⟩ = some v := HA3.out.box.at 0
            have hms := fun F => run_methodSwap (w := w3) hcs3 F
            clear hh hb1
            go_wp2_with fail
            refine (iswap_any HA3.out.row i a (by rw [HML.out]; omega) (by rw [HML.out]; omega)).mono ?_
            rintro e w4 ⟨rfl, ho2, hm2⟩
            have HA4 := Lib.hid (HA3.out.swapped (by rw [HML.out]; omega) (by rw [HML.out]; omega) ho2 hm2)
            have HM4 := Lib.hid (HM3.out.trans (hm2.wide (T := Nx g v) fun k _ e => .inr e))
            have HP4 := Lib.hid ((Hp.swap_perm m i a (by rw [HML.out]; omega) (by rw [HML.out]; omega)).trans HP.out)
            clear ho2 hm2
            go_wp2_with fail
            go_roundg (n - a)
            case measure => omega
            case rel => exact ⟨a, _, by omega, by omega, rfl, Lib.hid (by rw [Hp.swap_length]; exact HML.out), HA4, HP4, HS, HM4, Lib.hid (HMI.out.trans HLA.out)⟩
          · have HLY := Lib.hid (iless_any HA2.out.row a i (by rw [HML.out]; omega) (by rw [HML.out]; omega))
            rw [decide_eq_false hl2] at HLY
            have HD := Lib.hid (Hp.down_done (j := a) HUP.out HJ1.out HJ2.out hl2)
            clear hl2
            go_wp2_with fail
            refine HLY.out.mono ?_
            rintro e w3 ⟨rfl, hh, hb1⟩
            have HA3 := Lib.hid (HA2.out.under hb1)
            have HM3 := Lib.hid (HM2.out.trans (Moves.under hb1))
            clear hh hb1
            go_wp2_with fail
            go_ret
            exact ⟨⟨_, rfl⟩, ⟨m, HA3.out, HP.out, HD.out, HLA.out⟩, HM3.out⟩
      · have hbI : ¬ (a : Int) + 1 < (n : Int) := by omega
        have HJ1 : Hid (m.getD a 0 ≤ m.getD (2 * i + 1) 0) := Lib.hid (by rw [← HA1.out]; exact Nat.le_refl _)
        have HJ2 : Hid (2 * i + 2 < n → m.getD a 0 ≤ m.getD (2 * i + 2) 0) := Lib.hid (fun h => by have := HA1.out; omega)
        have HB : Hid (a = 2 * i + 1 ∨ a = 2 * i + 2) := Lib.hid (.inl HA1.out)
        have hcb : wr.cell? ⟨g, 0, none⟩ = some v := HA.out.box.at 0
        have hmb := fun F => run_methodLess (w := wr) hcb F
        by_cases hl2 : m.getD a 0 < m.getD i 0
        · have HLY := Lib.hid (iless_any HA.out.row a i (by rw [HML.out]; omega) (by rw [HML.out]; omega))
          rw [decide_eq_true hl2] at HLY
          have HS := Lib.hid (Hp.down_step HUP.out (j := a) (by rw [HML.out]; omega) han HB.out HJ1.out HJ2.out hl2)
          have HMI := Lib.hid (swap_last m i a n (by rw [HML.out]; omega) (by rw [HML.out]; omega) (by omega) (by omega))
          clear hl2
          go_wp2_with fail
          refine HLY.out.mono ?_
          rintro e w3 ⟨rfl, hh, hb1⟩
          have HA3 := Lib.hid (HA.out.under hb1)
          have HM3 := Lib.hid (HMV.out.trans (Moves.under hb1))
          have hcs3 : w3.cell? ⟨g, 0, none⟩ = some v := HA3.out.box.at 0
          have hms := fun F => run_methodSwap (w := w3) hcs3 F
          clear hh hb1
          go_wp2_with fail
          refine (iswap_any HA3.out.row i a (by rw [HML.out]; omega) (by rw [HML.out]; omega)).mono ?_
          rintro e w4 ⟨rfl, ho2, hm2⟩
          have HA4 := Lib.hid (HA3.out.swapped (by rw [HML.out]; omega) (by rw [HML.out]; omega) ho2 hm2)
          have HM4 := Lib.hid (HM3.out.trans (hm2.wide (T := Nx g v) fun k _ e => .inr e))
          have HP4 := Lib.hid ((Hp.swap_perm m i a (by rw [HML.out]; omega) (by rw [HML.out]; omega)).trans HP.out)
          clear ho2 hm2
          go_wp2_with fail
          go_roundg (n - a)
          case measure => omega
          case rel => exact ⟨a, _, by omega, by omega, rfl, Lib.hid (by rw [Hp.swap_length]; exact HML.out), HA4, HP4, HS, HM4, Lib.hid (HMI.out.trans HLA.out)⟩
        · have HLY := Lib.hid (iless_any HA.out.row a i (by rw [HML.out]; omega) (by rw [HML.out]; omega))
          rw [decide_eq_false hl2] at HLY
          have HD := Lib.hid (Hp.down_done (j := a) HUP.out HJ1.out HJ2.out hl2)
          clear hl2
          go_wp2_with fail
          refine HLY.out.mono ?_
          rintro e w3 ⟨rfl, hh, hb1⟩
          have HA3 := Lib.hid (HA.out.under hb1)
          have HM3 := Lib.hid (HMV.out.trans (Moves.under hb1))
          clear hh hb1
          go_wp2_with fail
          go_ret
          exact ⟨⟨_, rfl⟩, ⟨m, HA3.out, HP.out, HD.out, HLA.out⟩, HM3.out⟩
theorem hpush_any {w : World} {base g : Nat} {v : Value} {l : List Nat} (x : Nat) (h : NextAt w base g v l) (hh : Hp.Heap l l.length) (hx : x ≤ 1000000) (hl : l.length + 1 ≤ 1000000) (hbase : base ≤ w.heap.size) :
    Calls Try.prog 61 #[.iface 114 (.pointer (some ⟨g, 0, none⟩)), .iface 3 (.int .i64 (x : Int))] w fun e w' => e = .returned (.tuple #[]) ∧ (∃ v' l', (∀ r, v'.ownBlock = some r → v.ownBlock = some r ∨ w.heap.size ≤ r) ∧ NextAt w' base g v' l' ∧ l'.Perm (l ++ [x]) ∧ Hp.Heap l' l'.length) ∧ Moves (Nx g v) w w' := by
  have HP := Lib.hid (nxpush_any x h hx hl hbase)
  have HU := Lib.hid (Hp.push_up hh x)
  have hmp := fun F => run_methodPush (w := w) (g := g) F
  have HAP := Lib.hid h.apart
  obtain ⟨n, hn⟩ : ∃ n, l.length = n := ⟨_, rfl⟩
  have HN := Lib.hid hn
  rw [hn] at HU hl
  clear h hh hn
  go_enter Try.func61, Try.ntmps61
  go_wp2_with fail
  refine HP.out.mono ?_
  rintro e w1 ⟨rfl, ⟨v', hv', h1⟩, hm1⟩
  have hc1 : w1.cell? ⟨g, 0, none⟩ = some v' := h1.box.at 0
  have hml := fun F => run_methodLen (w := w1) hc1 F
  have H1 := Lib.hid h1
  have HV := Lib.hid hv'
  have HM1 := Lib.hid hm1
  obtain ⟨A, c, rfl, _⟩ := h1.row.parts
  have HL : Hid ((l ++ [x]).length = n + 1) := Lib.hid (by rw [List.length_append, HN.out]; rfl)
  rw [HL.out] at hc1 hml H1 HV
  clear h1 hv' hm1
  go_wp2_with fail
  refine (ilen_any A (n + 1) c w1).mono ?_
  rintro e w2 ⟨rfl, rfl⟩
  have k1 : IntKind.i64.wrap (((n + 1 : Nat) : Int) - 1) = (n : Int) := by rw [show ((n + 1 : Nat) : Int) - 1 = (n : Int) by omega]; exact wrap_small _ (by omega) (by omega)
  go_wp2_with fail
  refine (hup_any n H1.out (by rw [HL.out]; exact HU.out) (by rw [HL.out]; omega)).mono ?_
  rintro e w3 ⟨rfl, ⟨l', h3, hp, hh⟩, hm3⟩
  go_wp2
  go_end0
  refine ⟨rfl, ⟨_, l', HV.out, h3, hp, hh⟩, HM1.out.then hm3 fun k hk hs => ?_⟩
  rcases hs with hs | hs
  · exact .inl hs
  · rcases HV.out k hs with h1 | h1
    · exact .inr h1
    · omega
theorem hpop_any {w : World} {base g : Nat} {v : Value} {l : List Nat} (n : Nat) (h : NextAt w base g v l) (hh : Hp.Heap l l.length) (hl : l.length = n + 1) :
    Calls Try.prog 63 #[.iface 114 (.pointer (some ⟨g, 0, none⟩))] w fun e w' => ∃ (x : Nat) (l' : List Nat), e = .returned (.iface 3 (.int .i64 (x : Int))) ∧ (x :: l').Perm l ∧ Hp.Heap l' l'.length ∧ (∀ y ∈ l', x ≤ y) ∧ (∃ v', v'.ownBlock = v.ownBlock ∧ NextAt w' base g v' l') ∧ Moves (Nx g v) w w' := by
  have hc0 : w.cell? ⟨g, 0, none⟩ = some v := h.box.at 0
  have hml := fun F => run_methodLen (w := w) hc0 F
  have hms := fun F => run_methodSwap (w := w) hc0 F
  have HA := Lib.hid h
  have HHP := Lib.hid hh
  have HL := Lib.hid hl
  have hM := h.len
  rw [hl] at hM
  obtain ⟨A, c, rfl, _⟩ := h.row.parts
  rw [hl] at HA hc0 hml hms
  rw [hl] at HHP
  rw [hl]
  clear h hh hl
  have k1 : IntKind.i64.wrap (((n + 1 : Nat) : Int) - 1) = (n : Int) := by rw [show ((n + 1 : Nat) : Int) - 1 = (n : Int) by omega]; exact wrap_small _ (by omega) (by omega)
  go_enter Try.func63, Try.ntmps63
  go_wp2_with fail
  refine (ilen_any A (n + 1) c w).mono ?_
  rintro e w2 ⟨rfl, rfl⟩
  go_wp2_with fail
  have hsw := iswap_any HA.out.row 0 n (by rw [HL.out]; omega) (by rw [HL.out]; omega)
  refine hsw.mono ?_
  clear hsw
  rintro e w3 ⟨rfl, ho3, hm3⟩
  have HA3 := Lib.hid (HA.out.swapped (by rw [HL.out]; omega) (by rw [HL.out]; omega) ho3 hm3)
  have HM3 := Lib.hid (hm3.wide (T := Nx g (.slice A (n + 1) c)) fun k _ e => .inr e)
  have HP3 := Lib.hid (Hp.swap_perm l 0 n (by rw [HL.out]; omega) (by rw [HL.out]; omega))
  have HX3 : Hid ((Hp.swap l 0 n).getD n 0 = l.getD 0 0) := Lib.hid (by rw [Hp.swap_get l 0 n (by rw [HL.out]; omega) (by rw [HL.out]; omega), if_pos rfl])
  clear ho3 hm3
  go_wp2_with fail
  refine (hdown_any n (n + 1) HA3.out (by rw [Hp.swap_length]; exact HL.out) (by omega) (Hp.pop_down HHP.out HL.out)).mono ?_
  rintro e w4 ⟨⟨b, rfl⟩, ⟨l4, h4, hp4, hh4, hx4⟩, hm4⟩
  have HM4 := Lib.hid (HM3.out.trans hm4)
  have HP4 := Lib.hid (hp4.trans HP3.out)
  have hlen4 : l4.length = n + 1 := by rw [HP4.out.length_eq]; exact HL.out
  have HX4 := Lib.hid (hx4.trans HX3.out)
  obtain ⟨m, y, rfl⟩ : ∃ m y, l4 = m ++ [y] := ⟨l4.dropLast, l4.getLast (by intro e; rw [e] at hlen4; simp at hlen4), (List.dropLast_concat_getLast _).symm⟩
  have hmn : m.length = n := by simpa using hlen4
  have hyl : y = l.getD 0 0 := by rw [← HX4.out, ← hmn]; simp
  have HH4 : Hid (Hp.Heap m m.length) := Lib.hid (fun k h1 h2 => by
    have h3 := hh4 k h1 (by omega)
    rw [List.getD_eq_getElem?_getD, List.getD_eq_getElem?_getD, List.getElem?_append_left (by omega), List.getElem?_append_left h2] at h3
    rw [List.getD_eq_getElem?_getD, List.getD_eq_getElem?_getD]
    exact h3)
  have HLE : Hid (∀ z ∈ m, y ≤ z) := Lib.hid (fun z hz => by
    have h1 : z ∈ l := HP4.out.mem_iff.1 (List.mem_append_left _ hz)
    obtain ⟨k, hk, rfl⟩ := List.getElem_of_mem h1
    have h2 := Hp.heap_least HHP.out k (by rw [← HL.out]; exact hk)
    rw [List.getD_eq_getElem?_getD (l := l) (i := k), List.getElem?_eq_getElem hk] at h2
    rw [hyl]
    exact h2)
  have HPM : Hid ((y :: m).Perm l) := Lib.hid ((List.perm_append_comm (l₁ := [y]) (l₂ := m)).trans HP4.out)
  have HA4 := Lib.hid h4
  have hmp := fun F => run_methodPop (w := w4) (g := g) F
  clear h4 hp4 hh4 hx4 hm4 hyl hlen4 hmn
  go_wp2_with fail
  refine (nxpop_any HA4.out).mono ?_
  rintro e w5 ⟨rfl, ⟨v', hv', h5⟩, hm5⟩
  go_wp2
  go_ret
  exact ⟨y, m, rfl, HPM.out, HH4.out, HLE.out, ⟨v', hv', h5⟩, HM4.out.trans hm5⟩
end Go.Proofs.Ytemliglhippdcaa

/- Package grph: the places that come to wait for none, the least first. -/
namespace Go.Proofs.Ytemliglhippdcaa
set_option maxRecDepth 100000
open Go.ChangeShapes Go.WideShapes Go.ChangeAt Go.RowKit

def AptI (x y : Value) : Prop := ∀ k, x.ownBlock = some k → y.ownBlock ≠ some k
/-- Rows of places, and for how many each waits: a block b of slices, each a row of its own, apart from the others and from the numbers u. -/
structure Bins (w : World) (base b : Nat) (u : Value) (vs : List Value) (Ls : List (List Nat)) (W : List Nat) (N : Nat) : Prop where
  row : Blk w b 22 vs.toArray
  vl : vs.length = N
  ll : Ls.length = N
  own : ∀ i, i < N → OwnI w base (vs.getD i undef) (Ls.getD i [])
  apt : ∀ i j, i < N → j < N → i ≠ j → AptI (vs.getD i undef) (vs.getD j undef)
  wt : OwnI w base u W
  wl : W.length = N
  aptw : ∀ i, i < N → AptI (vs.getD i undef) u
theorem own_not_blk {w : World} {base b : Nat} {t : TypeId} {cs : Array Value} {v : Value} {l : List Nat} (ht : t ≠ 3) (h : Blk w b t cs) (ho : OwnI w base v l) : v.ownBlock ≠ some b := fun e => by
  rcases ho.2 with ⟨rfl, _⟩ | ⟨r, cap, cur, rfl, _, hh, _⟩
  · cases e
  · injection e with e
    change r = b at e
    subst e
    unfold Blk at h
    rw [hh] at h
    injection h with h
    injection h with _ h
    exact ht h.symm
theorem Bins.cell {w : World} {base b : Nat} {u : Value} {vs : List Value} {Ls : List (List Nat)} {W : List Nat} {N : Nat} (h : Bins w base b u vs Ls W N) {i : Nat} (hi : i < N) : w.cell? ⟨b, i, none⟩ = some (vs.getD i undef) := by
  rw [h.row.at i, List.getElem?_toArray, List.getElem?_eq_getElem (by rw [h.vl]; exact hi), List.getD_eq_getElem?_getD, List.getElem?_eq_getElem (by rw [h.vl]; exact hi)]
  rfl
theorem Bins.under {w w' : World} {base b : Nat} {u : Value} {vs : List Value} {Ls : List (List Nat)} {W : List Nat} {N : Nat} (h : Bins w base b u vs Ls W N) (hb : Below w.heap.size w w') : Bins w' base b u vs Ls W N :=
  ⟨h.row.under hb, h.vl, h.ll, fun i hi => (h.own i hi).under hb, h.apt, h.wt.under hb, h.wl, h.aptw⟩
/-- The numbers alone have turned. -/
theorem Bins.moves {w w' : World} {base b : Nat} {u : Value} {vs : List Value} {Ls : List (List Nat)} {W W' : List Nat} {N : Nat} (h : Bins w base b u vs Ls W N) (hm : Moves (fun k => u.ownBlock = some k) w w') (hw : OwnI w' base u W') (hl : W'.length = N) : Bins w' base b u vs Ls W' N :=
  ⟨h.row.moves hm fun e => own_not_blk (by decide) h.row h.wt e, h.vl, h.ll, fun i hi => (h.own i hi).moves hm fun k hk e => h.aptw i hi k hk e, h.apt, hw, hl, h.aptw⟩
theorem wp_append_int {w : World} {o : Oper} {a : Act} {K : Act → World → Prop} {Q : Exit → Act → World → Prop} (T : TypeId) (hT : Try.prog.underlying T = some (.slice 3)) (s x : Operand)
    (ho : o.op = .call { callee := .builtin .append, args := #[s, x], argTypes := #[T, T] }) (base : Nat) (v : Value) (l : List Nat) (B n : Nat) (hs : a.eval s = v) (hown : OwnI w base v l) (hx : a.eval x = .slice (some ⟨B, 0, none⟩) 1 1) (hB : w.cell? ⟨B, 0, none⟩ = some (.int .i64 (n : Int)))
    (hlen : l.length ≤ 1099511627776) (hbase : base ≤ w.heap.size)
    (h : ∀ v' w', OwnI w' base v' (l ++ [n]) → w.grownBy w' v.ownBlock → (v'.ownBlock = v.ownBlock ∨ v'.ownBlock = some w.heap.size) → K (a.put o.dst v') w') : o.wp Try.prog a w K Q := by
  obtain ⟨v', w', hr, h2, h3, h4⟩ := run_append_int (ty := o.type) hT B n 1 hown hB hlen hbase
  unfold Oper.wp execOp
  simp only [ho, resolve, invoke, builtin, Sem.run_bind, Sem.run_pure, Result.andThen_ok, List.map_toArray, List.map_cons, List.map_nil, hs, hx, hr]
  exact h v' w' h2 h3 h4
theorem wpList_append_intT {w : World} {ops : Array Oper} {rest : List Oper} {o : Oper} {a : Act} {Q : Exit → Act → World → Prop} (T : TypeId) (hT : Try.prog.underlying T = some (.slice 3)) (hgd : o.guard = none) (s x : Operand)
    (ho : o.op = .call { callee := .builtin .append, args := #[s, x], argTypes := #[T, T] }) (base : Nat) (v : Value) (l : List Nat) (B n : Nat) (hs : a.eval s = v) (hown : OwnI w base v l) (hx : a.eval x = .slice (some ⟨B, 0, none⟩) 1 1) (hB : w.cell? ⟨B, 0, none⟩ = some (.int .i64 (n : Int)))
    (hlen : l.length ≤ 1099511627776) (hbase : base ≤ w.heap.size)
    (h : ∀ v' w', OwnI w' base v' (l ++ [n]) → w.grownBy w' v.ownBlock → (v'.ownBlock = v.ownBlock ∨ v'.ownBlock = some w.heap.size) → wpList Try.prog ops Q rest (a.put o.dst v') w') : wpList Try.prog ops Q (o :: rest) a w :=
  wpList_plain hgd fun _ hK => wp_append_int T hT s x ho base v l B n hs hown hx hB hlen hbase fun v' w' h1 h2 h3 => hK _ _ (h v' w' h1 h2 h3)
theorem cell_new_int (w : World) (n : Int) (e : TypeId) : (w.alloc (.cells #[.int .i64 n] e)).cell? ⟨w.heap.size, 0, none⟩ = some (.int .i64 n) := by
  have e1 : (w.alloc (.cells #[.int .i64 n] e)).heap[w.heap.size]? = some (.cells #[.int .i64 n] e) := heap_alloc_new w _
  unfold World.cell?
  rw [e1]
  rfl
/-- A heap that is new. -/
theorem nextAt_new (w : World) (base : Nat) : NextAt (w.alloc (.cells #[.slice none 0 0] 117)) base w.heap.size (.slice none 0 0) [] :=
  ⟨heap_alloc_new w _, ownI_none _ _, by simp, by simp⟩
set_option maxHeartbeats 16000000 in
theorem first_any {w : World} {base b : Nat} {u : Value} {vs : List Value} {Ls : List (List Nat)} {W : List Nat} (N : Nat) (h : Bins w base b u vs Ls W N) (hN : N ≤ 1000000) (hL : ∀ l ∈ Ls, (∀ x ∈ l, x < N) ∧ l.length ≤ 1000000) (hW : ∀ i, i < N → W.getD i 0 = Gr.cnt Ls [] i N) (hWb : ∀ x ∈ W, x ≤ 1099511627776) (c : Nat) :
    Calls Try.prog 41 #[.slice (some ⟨b, 0, none⟩) N c, u] w fun e w' => ∃ v, e = .returned v ∧ OwnI w' w.heap.size v (Gr.run (Gr.free Ls N) N N []) ∧ Moves (fun k => u.ownBlock = some k) w w' := by
  have HB := Lib.hid h
  have HL := Lib.hid hL
  have HW := Lib.hid hW
  have HWB := Lib.hid hWb
  have HWL := Lib.hid h.wl
  obtain ⟨A, cu, hu, hcu⟩ := h.wt.parts
  rw [h.wl] at hu hcu
  have HU := Lib.hid hu
  have HUB : Hid (∀ k, u.ownBlock = some k → k < w.heap.size) := Lib.hid (fun k hk => (h.wt.lt k hk).2)
  have hlen : ∀ W0, (w.alloc W0).heap.size = w.heap.size + 1 := fun W0 => by simp
  clear h hL hW hWb
  subst hu
  go_enter Try.func41, Try.ntmps41
  go_wp2_with fail
  obtain ⟨w1, hw1⟩ : ∃ x, w.alloc (.cells #[.slice none 0 0] 117) = x := ⟨_, rfl⟩
  obtain ⟨g, hg⟩ : ∃ x, w.heap.size = x := ⟨_, rfl⟩
  have HX0 : Hid (NextAt w1 g g (.slice none 0 0) []) := Lib.hid (by rw [← hw1, ← hg]; exact nextAt_new w w.heap.size)
  have HBW : Hid (Below g w w1) := Lib.hid (by rw [← hw1, ← hg]; exact (Below.refl _ _).alloc (Nat.le_refl _) _)
  have HG : Hid (g = w.heap.size) := Lib.hid hg.symm
  rw [hg] at HUB ⊢
  rw [hw1]
  clear hw1 hg hlen
  go_loopg [16] N (fun f iv wx => ∃ (k : Nat) (v : Value) (H : List Nat), k ≤ N ∧ N - k ≤ f ∧ iv = .int .i64 (k : Int) ∧ Hid (NextAt wx g g v H) ∧ Hid (Hp.Heap H H.length) ∧ Hid (H.Nodup ∧ ∀ i, i ∈ H ↔ i < k ∧ W.getD i 0 = 0) ∧ Hid (Below g w wx) ∧ Hid (g ≤ wx.heap.size))
  case atStart => exact ⟨0, _, [], Nat.zero_le _, by omega, rfl, HX0, Lib.hid (fun k h1 h2 => by simp at h2), Lib.hid ⟨by simp, by simp⟩, HBW, Lib.hid (by have := HX0.out.box.size; omega)⟩
  case round =>
    obtain ⟨k, v, H, hk, hf, rfl, HNX, HHP, HHS, HBE, HGS⟩ := hrel
    as_aux_lemma =>
    have HBI : Hid (Bins wr base b (.slice A N cu) vs Ls W N) := Lib.hid (by have h1 := HBE.out; rw [HG.out] at h1; exact HB.out.under h1)
    by_cases hkN : k < N
    · have hkI : (k : Int) < (N : Int) := by omega
      have hop := HBI.out.wt.open (i := k) (by rw [HWL.out]; exact hkN)
      rw [HWL.out] at hop
      obtain ⟨r, cr, hr, _, _, _, hcell⟩ := hop
      injection hr with hr1 hr2 hr3
      subst hr1
      have p1 := (hcell k hkN).1
      clear hcell hr2 hr3
      by_cases h0 : W.getD k 0 = 0
      · have HS2 : Hid ((H ++ [k]).Nodup ∧ (∀ i, i ∈ H ++ [k] ↔ i < k + 1 ∧ W.getD i 0 = 0) ∧ H.length + 1 ≤ N) := Lib.hid (by
          obtain ⟨h1, h2⟩ := HHS.out
          have h3 : k ∉ H := fun e => by have := ((h2 k).1 e).1; omega
          have h4 : H.length ≤ k := Gr.nodup_len h1 fun t ht => ((h2 t).1 ht).1
          refine ⟨?_, fun i => ?_, by omega⟩
          · rw [List.nodup_append]
            refine ⟨h1, by simp, fun a ha b hb e => ?_⟩
            simp at hb
            subst hb
            subst e
            exact h3 ha
          · rw [List.mem_append, List.mem_singleton, h2]
            constructor
            · rintro (⟨a, b⟩ | rfl)
              · exact ⟨by omega, b⟩
              · exact ⟨by omega, h0⟩
            · rintro ⟨a, b⟩
              by_cases e : i = k
              · exact .inr e
              · exact .inl ⟨by omega, b⟩)
        rw [h0] at p1
        clear h0
        as_aux_lemma =>
        go_wp2_with fail
        refine (hpush_any k HNX.out HHP.out (by omega) (by have := HS2.out.2.2; omega) HGS.out).mono ?_
        rintro e w2 ⟨rfl, ⟨v', H', hv', h2, hp2, hh2⟩, hm2⟩
        have HN2 := Lib.hid h2
        have HH2 := Lib.hid hh2
        have HB2 : Hid (Below g w w2) := Lib.hid (HBE.out.trans (hm2.below HGS.out fun j hj => by
          rcases hj with rfl | hj
          · exact Nat.le_refl _
          · exact (HNX.out.row.lt j hj).1))
        have HS3 : Hid (H'.Nodup ∧ ∀ i, i ∈ H' ↔ i < k + 1 ∧ W.getD i 0 = 0) := Lib.hid ⟨hp2.nodup_iff.2 HS2.out.1, fun i => hp2.mem_iff.trans (HS2.out.2.1 i)⟩
        have HG2 := Lib.hid (Nat.le_trans HGS.out hm2.size)
        clear h2 hp2 hh2 hm2 hv'
        go_wp2_with fail
        go_roundg (N - (k + 1))
        case measure => omega
        case rel => exact ⟨k + 1, v', H', hkN, by omega, by go_num, HN2, HH2, HS3, HB2, HG2⟩
      · have HS3 : Hid (H.Nodup ∧ ∀ i, i ∈ H ↔ i < k + 1 ∧ W.getD i 0 = 0) := Lib.hid ⟨HHS.out.1, fun i => (HHS.out.2 i).trans ⟨fun ⟨a, c⟩ => ⟨by omega, c⟩, fun ⟨a, c⟩ => ⟨by
          rcases Nat.lt_or_ge i k with h1 | h1
          · exact h1
          · obtain rfl : i = k := by omega
            exact absurd c h0, c⟩⟩⟩
        obtain ⟨y, hy⟩ : ∃ y, W.getD k 0 = y := ⟨_, rfl⟩
        rw [hy] at p1 h0
        have h0I : ¬ (y : Int) = 0 := by omega
        clear hy h0
        as_aux_lemma =>
        go_wp2_with fail
        go_roundg (N - (k + 1))
        case measure => omega
        case rel => exact ⟨k + 1, v, H, hkN, by omega, by go_num, HNX, HHP, HS3, HBE, HGS⟩
    · obtain rfl : N = k := by omega
      have hkI : ¬ (N : Int) < (N : Int) := by omega
      have HFF := Lib.hid (Gr.FF.start HWL.out HW.out HHS.out.1 HHS.out.2)
      have HWB0 : Hid (∀ i, W.getD i 0 ≤ 1099511627776) := Lib.hid (fun i => by
        rw [List.getD_eq_getElem?_getD]
        rcases h : W[i]? with _ | x
        · exact Nat.zero_le _
        · exact HWB.out x (List.mem_of_getElem? h))
      have HBM : Hid (Moves (fun j => (Value.slice A N cu).ownBlock = some j) w wr) := Lib.hid (Moves.under (by have h1 := HBE.out; rw [HG.out] at h1; exact h1))
      have HOW : Hid (OwnI wr base (.slice A N cu) W) := Lib.hid HBI.out.wt
      clear hf hkN HBI HX0 HBW HWL HW HWB HHS
      go_wp2_with fail
      go_loopg [8] (N + 1) (fun f tv wx => ∃ (T H W' : List Nat) (v : Value), N - T.length + 1 ≤ f ∧ Hid (OwnI wx g tv T) ∧ Hid (∀ j, tv.ownBlock = some j → ¬ Nx g v j) ∧ Hid (Gr.FF Ls N T [] W' H) ∧ Hid (Gr.run (Gr.free Ls N) N (N - T.length) T = Gr.run (Gr.free Ls N) N N []) ∧ Hid (NextAt wx g g v H) ∧ Hid (Hp.Heap H H.length) ∧ Hid (Moves (fun j => (Value.slice A N cu).ownBlock = some j) w wx) ∧ Hid (OwnI wx base (.slice A N cu) W') ∧ Hid (∀ i, W'.getD i 0 ≤ 1099511627776) ∧ Hid (g ≤ wx.heap.size))
      case atStart => exact ⟨[], H, W, v, by simp, Lib.hid (ownI_none _ _), Lib.hid (fun j hj => by cases hj), HFF, Lib.hid rfl, HNX, HHP, HBM, HOW, HWB0, HGS⟩
      case round =>
        clear HNX HHP HBM HOW HWB0 HFF HGS HBE
        obtain ⟨T, H, W', v, hf, HT, HTA, HFF, HRUN, HNX, HHP, HMV, HOW, HWB, HGS⟩ := hrel
        as_aux_lemma =>
        have q1 : wr.cell? ⟨g, 0, none⟩ = some v := HNX.out.box.at 0
        obtain ⟨Av, cv, hve, _⟩ := HNX.out.row.parts
        obtain ⟨n, hn⟩ : ∃ n, H.length = n := ⟨_, rfl⟩
        rw [hn] at hve
        have HHL := Lib.hid hn
        clear hn
        subst hve
        by_cases hn0 : n = 0
        · have hH : H = [] := List.eq_nil_of_length_eq_zero (by rw [HHL.out]; exact hn0)
          subst hH hn0
          have HOV := Lib.hid HFF.out.over
          go_wp2_with fail
          refine (ilen_any Av 0 cv wr).mono ?_
          rintro e w2 ⟨rfl, rfl⟩
          go_wp2
          go_ret
          refine ⟨u8, rfl, ?_, HMV.out⟩
          rw [← HRUN.out, HOV.out, ← HG.out]
          exact HT.out
        · have hnI : (0 : Int) < (n : Int) := by omega
          go_wp2_with fail
          refine (ilen_any Av n cv wr).mono ?_
          rintro e w2 ⟨rfl, rfl⟩
          go_wp2_with fail
          refine (hpop_any (n - 1) HNX.out HHP.out (by rw [HHL.out]; omega)).mono ?_
          rintro e w2 ⟨x, H2, rfl, hp2, hh2, hle2, ⟨v2, hv2, h2⟩, hm2⟩
          have HNE := Lib.hid (HFF.out.next hp2 hle2)
          have hxH : x ∈ H := hp2.mem_iff.1 (by simp)
          have hxN : x < N := ((HFF.out.h x).1 hxH).1
          have HLx : Hid ((∀ i ∈ Ls.getD x [], i < N) ∧ (Ls.getD x []).length ≤ 1000000) := Lib.hid (HL.out _ (by
            rw [List.getD_eq_getElem?_getD, List.getElem?_eq_getElem (by rw [HB.out.ll]; exact hxN)]
            exact List.getElem_mem _))
          have HF2 := Lib.hid (HFF.out.pop hp2 HLx.out.1)
          have HT2 : Hid (OwnI w2 g u8 T) := Lib.hid (HT.out.moves hm2 HTA.out)
          have hgu : ∀ j, (Value.slice A N cu).ownBlock = some j → ¬ Nx g (.slice Av n cv) j := fun j hj e => by
            have h1 := HUB.out j hj
            rcases e with rfl | e
            · omega
            · have := (HNX.out.row.lt j e).1; omega
          have HM2 := Lib.hid (HMV.out.then hm2 fun j hj e => by
            have hj2 : j < g := by rw [HG.out]; exact hj
            rcases e with rfl | e
            · omega
            · have := (HNX.out.row.lt j e).1; omega)
          have HO2 := Lib.hid (HOW.out.moves hm2 hgu)
          have HN2 := Lib.hid h2
          have HH2 := Lib.hid hh2
          have HA2 : Hid (∀ j, u8.ownBlock = some j → ¬ Nx g v2 j) := Lib.hid (fun j hj e => HTA.out j hj (by
            rcases e with e | e
            · exact .inl e
            · exact .inr (by rw [← hv2]; exact e)))
          have HG2 := Lib.hid (Nat.le_trans HGS.out hm2.size)
          have HTL := Lib.hid HFF.out.len
          have hta : ∀ w : World, (Instr.typeAssert (.iface 3 (.int .i64 (x : Int))) 20 3 false).run Try.prog w = .ok (.int .i64 (x : Int)) w := fun _ => by kernel_rfl
          clear hp2 hh2 hle2 hv2 h2 hm2 hxH hgu HT HTA HFF HNX HHP HMV HOW HGS q1
          obtain ⟨Ar, cr, hvx, hmr⟩ := (HB.out.own x hxN).parts
          obtain ⟨m, hm⟩ : ∃ m, (Ls.getD x []).length = m := ⟨_, rfl⟩
          rw [hm] at hvx hmr
          have HVX := Lib.hid hvx
          have HML := Lib.hid hm
          have hmB : m ≤ 1000000 := by rw [← hm]; exact HLx.out.2
          have hxI : (x : Int) < (N : Int) := by omega
          clear hvx hm
          go_wp2_with (first
            | (at_builtin; refine wpList_append_intT 22 Try.underlying22 rfl _ _ rfl g u8 T w2.heap.size x rfl (HT2.out.under ((Below.refl _ _).alloc (Nat.le_refl _) _)) rfl (cell_new_int w2 _ _) (by have := HTL.out; omega) (by have := HG2.out; simp; omega) ?_; intro tv3 w3 ho3 hg3 hat3
               have hm3 : Moves (fun j => u8.ownBlock = some j) w2 w3 := (Moves.under ((Below.refl _ w2).alloc (Nat.le_refl _) _)).trans (Moves.grown hg3)
               have HT3 := Lib.hid ho3
               have HA3 : Hid (∀ j, tv3.ownBlock = some j → ¬ Nx g v2 j) := Lib.hid (by
                 intro j hj e
                 rcases hat3 with h1 | h1
                 · exact HA2.out j (by rw [← h1]; exact hj) e
                 · rw [h1] at hj
                   injection hj with hj
                   simp at hj
                   rcases e with e | e
                   · have := HN2.out.box.size; omega
                   · have := (HN2.out.row.lt j e).2; omega)
               have HG3 := Lib.hid (Nat.le_trans HG2.out hm3.size)
               have HN3 := Lib.hid (HN2.out.moves hm3 (fun j hj e => HA2.out j e hj))
               have hlt3 : ∀ j, (Value.slice A N cu).ownBlock = some j → ¬ u8.ownBlock = some j := fun j hj e => by
                 have h1 := HUB.out j hj
                 have h2 := (HT2.out.lt j e).1
                 omega
               have HO3 := Lib.hid (HO2.out.moves hm3 hlt3)
               have HM3 := Lib.hid (HM2.out.then hm3 (fun j hj e => by
                 have h2 := (HT2.out.lt j e).1
                 have h3 := HG.out
                 omega))
               have HB3 := Lib.hid (HB.out.moves HM3.out HO3.out HF2.out.wl)
               have p3 : w3.cell? ⟨b, x, none⟩ = some (.slice Ar m cr) := by rw [← HVX.out]; exact HB3.out.cell hxN
               clear ho3 hg3 hat3 hm3 hlt3)
            | fail)
          clear HT2 HM2 HO2 HN2 HA2 HG2 HB3 p3
          have HRL : Hid (N - (T ++ [x]).length + 1 < N - T.length + 1 ∧ Gr.run (Gr.free Ls N) N (N - (T ++ [x]).length) (T ++ [x]) = Gr.run (Gr.free Ls N) N N []) := Lib.hid ⟨by have := HNE.out.1; simp; omega, HNE.out.2.symm.trans HRUN.out⟩
          obtain ⟨T2, hT2⟩ : ∃ T2, T ++ [x] = T2 := ⟨_, rfl⟩
          obtain ⟨R, hR⟩ : ∃ R, Ls.getD x [] = R := ⟨_, rfl⟩
          have HOX : Hid (∀ wx, Moves (fun j => (Value.slice A N cu).ownBlock = some j) w wx → OwnI wx base (.slice Ar m cr) R) := Lib.hid (fun wx hmx => by
            rw [← HVX.out, ← hR]
            exact (HB.out.own x hxN).moves hmx fun k hk e => HB.out.aptw x hxN k hk e)
          rw [hT2] at HF2 HT3 HRL
          rw [hR] at HF2 HML
          clear HNE HRUN HLx HTL hT2 hR HVX hmr hn0 hnI hta
          go_loopg [48] m (fun f iv wx => ∃ (p : Nat) (W2 H3 : List Nat) (v3 : Value), p ≤ m ∧ m - p ≤ f ∧ iv = .int .i64 (p : Int) ∧ Hid (Gr.FF Ls N T2 (R.drop p) W2 H3) ∧ Hid (NextAt wx g g v3 H3) ∧ Hid (Hp.Heap H3 H3.length) ∧ Hid (OwnI wx base (.slice A N cu) W2) ∧ Hid (OwnI wx g tv3 T2) ∧ Hid (∀ j, tv3.ownBlock = some j → ¬ Nx g v3 j) ∧ Hid (Moves (fun j => (Value.slice A N cu).ownBlock = some j) w wx) ∧ Hid (∀ i, W2.getD i 0 ≤ 1099511627776) ∧ Hid (g ≤ wx.heap.size))
          case atStart => exact ⟨0, W', H2, v2, Nat.zero_le _, by omega, rfl, HF2, HN3, HH2, HO3, HT3, HA3, HM3, HWB, HG3⟩
          case round =>
            clear HF2 HN3 HH2 HO3 HT3 HA3 HM3 HWB HG3
            obtain ⟨p, W2, H3, v3, hp, hf2, rfl, HF, HN, HH, HO, HT, HTA, HM, HWB, HG3⟩ := hrel
            as_aux_lemma =>
            by_cases hpm : p < m
            · have hpI : (p : Int) < (m : Int) := by omega
              have hpR : p < R.length := by rw [HML.out]; exact hpm
              obtain ⟨ra, hra, hox⟩ := (HOX.out wr HM.out).cell hpR
              rw [Nat.zero_add] at hox
              subst hra
              have HFD : Hid (Gr.FF Ls N T2 (R.getD p 0 :: R.drop (p + 1)) W2 H3) := Lib.hid (by
                have h1 := HF.out
                rw [List.drop_eq_getElem_cons hpR] at h1
                rw [List.getD_eq_getElem?_getD, List.getElem?_eq_getElem hpR]
                exact h1)
              obtain ⟨i, hi⟩ : ∃ i, R.getD p 0 = i := ⟨_, rfl⟩
              rw [hi] at hox HFD
              obtain ⟨hiN, hpos⟩ := HFD.out.pos
              have hiI : (i : Int) < (N : Int) := by omega
              have hop := HO.out.open (i := i) (by rw [HF.out.wl]; exact hiN)
              rw [HF.out.wl] at hop
              obtain ⟨r, cr2, hr, _, _, hrs, hcell⟩ := hop
              injection hr with hr1 hr2 hr3
              subst hr1
              have p1 := (hcell i hiN).1
              have f1 := (hcell i hiN).2
              obtain ⟨y, hy⟩ : ∃ y, W2.getD i 0 = y + 1 := ⟨W2.getD i 0 - 1, by omega⟩
              have hyB : y + 1 ≤ 1099511627776 := by rw [← hy]; exact HWB.out i
              have p2 : (wr.setCell ⟨r, i, none⟩ (.int .i64 (y : Int))).cell? ⟨r, i, none⟩ = some (.int .i64 (y : Int)) := by simp [go_sem, p1]
              have hw1 : IntKind.i64.wrap (((y + 1 : Nat) : Int) - 1) = (y : Int) := by rw [show ((y + 1 : Nat) : Int) - 1 = (y : Int) by omega]; exact wrap_small _ (by omega) (by omega)
              have hMS : Moves (fun j => (Value.slice (some ⟨r, 0, none⟩) N cu).ownBlock = some j) wr (wr.setCell ⟨r, i, none⟩ (.int .i64 (y : Int))) := (Moves.setCell _ _ _).wide fun k _ e => by rw [e]; rfl
              have hrg : r < g := HUB.out r rfl
              have HM4 := Lib.hid (HM.out.trans hMS)
              have HO4 := Lib.hid (HO.out.set i y)
              have HN4 := Lib.hid (HN.out.moves hMS (fun j hj e => by
                injection e with e
                change r = j at e
                rcases hj with hj | hj
                · omega
                · have := (HN.out.row.lt j hj).1; omega))
              have HT4 := Lib.hid (HT.out.moves hMS (fun j hj e => by
                injection e with e
                change r = j at e
                have := (HT.out.lt j hj).1
                omega))
              have HG4 : Hid (g ≤ (wr.setCell ⟨r, i, none⟩ (.int .i64 (y : Int))).heap.size) := Lib.hid (by rw [World.size_setCell]; exact HG3.out)
              have HWB4 : Hid (∀ j, (W2.set i y).getD j 0 ≤ 1099511627776) := Lib.hid (fun j => by
                rw [Gr.set_get W2 i y j (by rw [HF.out.wl]; exact hiN)]
                split
                · omega
                · exact HWB.out j)
              rw [hy] at p1
              have hye : W2.getD i 0 - 1 = y := by omega
              by_cases hy0 : y = 0
              · subst hy0
                have HFP : Hid (∀ H', H'.Perm (H3 ++ [i]) → Gr.FF Ls N T2 (R.drop (p + 1)) (W2.set i 0) H') := Lib.hid (fun H' hp => by
                  have h1 := HFD.out.push hye hp
                  rwa [hye] at h1)
                have HHL3 : Hid (H3.length + 1 ≤ N) := Lib.hid (by
                  have := (HFP.out _ (List.Perm.refl _)).hlen
                  simpa using this)
                clear hcell hr2 hr3 hMS hi hy hye hpos hyB HM HO HN HT HG3 HF HFD HWB
                as_aux_lemma =>
                go_wp2_with fail
                refine (hpush_any i HN4.out HH.out (by omega) (by have := HHL3.out; omega) HG4.out).mono ?_
                rintro e w5 ⟨rfl, ⟨v5, H5, hv5, h5, hp5, hh5⟩, hm5⟩
                have HF5 := Lib.hid (HFP.out H5 hp5)
                have HN5 := Lib.hid h5
                have HH5 := Lib.hid hh5
                have HO5 := Lib.hid (HO4.out.moves hm5 (fun j hj e => by
                  injection hj with hj
                  change r = j at hj
                  rcases e with e | e
                  · omega
                  · have := (HN4.out.row.lt j e).1; omega))
                have HT5 := Lib.hid (HT4.out.moves hm5 HTA.out)
                have HTA5 : Hid (∀ j, tv3.ownBlock = some j → ¬ Nx g v5 j) := Lib.hid (fun j hj e => by
                  rcases e with e | e
                  · exact HTA.out j hj (.inl e)
                  · rcases hv5 j e with h1 | h1
                    · exact HTA.out j hj (.inr h1)
                    · have := (HT4.out.lt j hj).2; omega)
                have HM5 := Lib.hid (HM4.out.then hm5 (fun j hj e => by
                  have h3 := HG.out
                  rcases e with e | e
                  · omega
                  · have := (HN4.out.row.lt j e).1; omega))
                have HG5 := Lib.hid (Nat.le_trans HG4.out hm5.size)
                clear hv5 h5 hp5 hh5 hm5
                go_wp2_with fail
                clear hw1
                go_roundg (m - (p + 1))
                case measure => omega
                case rel => exact ⟨p + 1, _, H5, v5, hpm, by omega, by go_num, HF5, HN5, HH5, HO5, HT5, HTA5, HM5, HWB4, HG5⟩
              · have hy0I : ¬ (y : Int) = 0 := by omega
                have HF5 : Hid (Gr.FF Ls N T2 (R.drop (p + 1)) (W2.set i y) H3) := Lib.hid (by
                  have h1 := HFD.out.step (by rw [hye]; exact hy0)
                  rwa [hye] at h1)
                clear hcell hr2 hr3 hMS hi hy hye hpos HM HO HN HT HG3 HF HFD HWB hy0 hw1
                as_aux_lemma =>
                go_wp2_with fail
                go_roundg (m - (p + 1))
                case measure => omega
                case rel => exact ⟨p + 1, _, H3, v3, hpm, by omega, by go_num, HF5, HN4, HH, HO4, HT4, HTA, HM4, HWB4, HG4⟩
            · obtain rfl : m = p := by omega
              have hpI : ¬ (m : Int) < (m : Int) := by omega
              have HF5 : Hid (Gr.FF Ls N T2 [] W2 H3) := Lib.hid (by
                have h1 := HF.out
                rwa [List.drop_eq_nil_of_le (by rw [HML.out]; exact Nat.le_refl _)] at h1)
              have HR5 := Lib.hid HRL.out.2
              have hme : N - T2.length + 1 < N - T.length + 1 := HRL.out.1
              clear HF HRL
              as_aux_lemma =>
              go_wp2_with fail
              go_roundg (N - T2.length + 1)
              case measure => omega
              case rel => exact ⟨T2, H3, W2, v3, Nat.le_refl _, HT, HTA, HF5, HR5, HN, HH, HM, HO, HWB, HG3⟩
end Go.Proofs.Ytemliglhippdcaa
