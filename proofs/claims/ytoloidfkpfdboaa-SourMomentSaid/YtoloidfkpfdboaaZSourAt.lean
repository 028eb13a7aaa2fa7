/- Package sour: a Read as it lies beside the files. -/
import Derived.Test.YtoloidfkpfdboaaZSourRows
import Derived.Test.YtoloidfkpfdboaaZSourMath
import Derived.Test.YtoloidfkpfdboaaZ08
import Derived.Tactics
import Derived.Tactics2
import Derived.Defers
import Derived.Recover
import Derived.Laws.Pointers
import Derived.RegionTactic
namespace Go.Proofs.Ytoloidfkpfdboaa
set_option maxRecDepth 100000
open Go.ChangeShapes Go.WideShapes Go.ChangeAt Go.RowKit Go.ChangeMaps
open Sf

/-- The function value that tells which names are made, wherever nothing that was there in w has turned. -/
structure SrMade (w : World) (fv : Value) (md : List Nat → Bool) : Prop where
  fn : ∃ K cap, fv = .func (.func K) #[] cap ∧ (∀ args w, (callFunc K args).run Try.prog w = .ok (.enter K args) w) ∧
    ∀ t w', Nice t → Below w.heap.size w w' → Calls Try.prog K (#[.string (str t)] ++ cap) w' fun e w'' => e = .returned (.bool (md t)) ∧ Below w'.heap.size w' w''
theorem SrMade.under {w w1 : World} {fv : Value} {md : List Nat → Bool} (h : SrMade w fv md) (hb : Below w.heap.size w w1) : SrMade w1 fv md := by
  obtain ⟨K, cap, rfl, h1, h2⟩ := h.fn
  exact ⟨K, cap, rfl, h1, fun t w' ht hb' => h2 t w' ht (hb.trans (hb'.mono hb.size))⟩

def SrBlk (w : World) (g : Nat) (fv vn vv vs : Value) (x : Sr.R) : Prop := Blk w g 60 #[vn, fv, vv, vs, .int .i64 (x.asked : Int), .int .i64 (x.told : Int)]
/-- A Read at g beside the files at p; its rows lie in blocks of X, which are none of K. -/
structure SrIn (K X : Nat → Prop) (w0 w : World) (p g : Nat) (s : S) (fv vn vv vs : Value) (us : List Value) (x : Sr.R) : Prop where
  blk : SrBlk w g fv vn vv vs x
  names : OwnT w w0.heap.size vn x.names
  vals : OwnRx w w0.heap.size vv us x.vals
  stamps : OwnI w w0.heap.size vs x.stamps
  xn : ∀ k, vn.ownBlock = some k → X k
  xv : ∀ k, vv.ownBlock = some k → X k
  xu : ∀ u ∈ us, ∀ k, u.ownBlock = some k → X k
  xs : ∀ k, vs.ownBlock = some k → X k
  xk : ∀ k, X k → ¬ K k
  fk : Fk (fun k => K k ∨ X k) w0 w p s
def SrAt (K : Nat → Prop) (w0 w : World) (p g : Nat) (s : S) (fv : Value) (x : Sr.R) : Prop := (∃ X vn vv vs us, SrIn K X w0 w p g s fv vn vv vs us x) ∧ Sr.Ok x
variable {K K' X : Nat → Prop} {w0 w w' w1 : World} {p g : Nat} {s s' : S} {fv vn vv vs : Value} {us : List Value} {x : Sr.R}
theorem SrIn.at (h : SrIn K X w0 w p g s fv vn vv vs us x) (ho : Sr.Ok x) : SrAt K w0 w p g s fv x := ⟨⟨X, vn, vv, vs, us, h⟩, ho⟩
/-- More is made, some of which is held besides. -/
theorem SrIn.grow (h : SrIn K X w0 w p g s fv vn vv vs us x) (hb : Below w.heap.size w w1) (hK : ∀ k, K' k → K k ∨ (w.heap.size ≤ k ∧ k < w1.heap.size)) : SrIn K' X w0 w1 p g s fv vn vv vs us x where
  blk := h.blk.under hb
  names := h.names.under hb
  vals := h.vals.under hb
  stamps := h.stamps.under hb
  xn := h.xn
  xv := h.xv
  xu := h.xu
  xs := h.xs
  xk := fun k hx hk => by
    rcases hK k hk with e | e
    · exact h.xk k hx e
    · have := h.fk.lt (k := k) (.inr hx)
      omega
  fk := h.fk.grow hb _ fun k hk => by
    rcases hk with hk | hk
    · exact (hK k hk).imp .inl id
    · exact .inl (.inr hk)
theorem SrIn.under (h : SrIn K X w0 w p g s fv vn vv vs us x) (hb : Below w.heap.size w w1) : SrIn K X w0 w1 p g s fv vn vv vs us x := h.grow hb fun _ => .inl
theorem SrAt.grow (h : SrAt K w0 w p g s fv x) (hb : Below w.heap.size w w1) (hK : ∀ k, K' k → K k ∨ (w.heap.size ≤ k ∧ k < w1.heap.size)) : SrAt K' w0 w1 p g s fv x := by
  obtain ⟨⟨X, vn, vv, vs, us, h⟩, ho⟩ := h
  exact (h.grow hb hK).at ho
theorem SrAt.under (h : SrAt K w0 w p g s fv x) (hb : Below w.heap.size w w1) : SrAt K w0 w1 p g s fv x := h.grow hb fun _ => .inl
theorem SrAt.fk (h : SrAt K w0 w p g s fv x) : Fk K w0 w p s := by
  obtain ⟨⟨X, vn, vv, vs, us, h⟩, ho⟩ := h
  exact h.fk.less K fun _ => .inl
theorem SrAt.ok (h : SrAt K w0 w p g s fv x) : Sr.Ok x := h.2
/-- The files have turned, or blocks of K other than g. -/
theorem SrIn.kept (h : SrIn K X w0 w p g s fv vn vv vs us x) (hf : Fk (fun k => K k ∨ X k) w0 w' p s') (hk : ∀ k, (X k ∨ k = g) → w'.heap[k]? = w.heap[k]?) : SrIn K X w0 w' p g s' fv vn vv vs us x where
  blk := (hk g (.inr rfl)).trans h.blk
  names := ownsRow_block h.names fun k e => hk k (.inl (h.xn k e))
  vals := h.vals.blocks (fun k e => hk k (.inl (h.xv k e))) fun u hu k e => hk k (.inl (h.xu u hu k e))
  stamps := ownsRow_block h.stamps fun k e => hk k (.inl (h.xs k e))
  xn := h.xn
  xv := h.xv
  xu := h.xu
  xs := h.xs
  xk := h.xk
  fk := hf
/-- A row of K other than g has turned, or grown. -/
theorem SrAt.grown (h : SrAt K w0 w p g s fv x) (hg : K g) {row : Option Nat} (hr : ∀ b, row = some b → (K b ∧ b ≠ g) ∧ w0.heap.size ≤ b) (hgr : w.grownBy w1 row) : SrAt K w0 w1 p g s fv x := by
  obtain ⟨⟨X, vn, vv, vs, us, h⟩, ho⟩ := h
  refine (h.kept (h.fk.grown (fun b hb => ⟨.inl (hr b hb).1.1, (hr b hb).2⟩) hgr) fun k hk => ?_).at ho
  refine hgr.block k (h.fk.lt (hk.elim .inr fun e => .inl (e ▸ hg))) fun e => ?_
  have := (hr k e.symm).1
  rcases hk with hk | hk
  · exact h.xk k hk this.1
  · exact this.2 hk
theorem sr_put (t b : List Nat) (vb : Value) (h : SrAt K w0 w p g s fv x) (hg : K g) (ht : Nice t) (hb : Bytes w vb b) (hnx : s.next ≤ 1073741824) (hu : used s.l + b.length ≤ 274877906944) :
    Calls Try.prog 8 #[.pointer (some ⟨p, 0, none⟩), .string (str t), vb] w fun e w' => e = .returned (.tuple #[.int .i64 (((putS s t b).2.1 : Nat) : Int), .int .i64 (((putS s t b).2.2 : Nat) : Int)]) ∧ SrAt K w0 w' p g (putS s t b).1 fv x ∧ Kept K w w' := by
  obtain ⟨⟨X, vn, vv, vs, us, h⟩, ho⟩ := h
  refine (fk_put t b vb h.fk ht hb hnx hu).mono ?_
  rintro e w' ⟨he, hf, hk⟩
  exact ⟨he, (h.kept hf fun k hk' => hk.2 k (hk'.elim .inr fun e => .inl (e ▸ hg))).at ho, hk.less fun _ => .inl⟩

/-- What has been made since is held beside, and is none of K. -/
theorem SrIn.fresh (h : SrIn K X w0 w p g s fv vn vv vs us x) (hb : Below w.heap.size w w1) : SrIn K (fun k => X k ∨ (w.heap.size ≤ k ∧ k < w1.heap.size)) w0 w1 p g s fv vn vv vs us x where
  blk := h.blk.under hb
  names := h.names.under hb
  vals := h.vals.under hb
  stamps := h.stamps.under hb
  xn := fun k e => .inl (h.xn k e)
  xv := fun k e => .inl (h.xv k e)
  xu := fun u hu k e => .inl (h.xu u hu k e)
  xs := fun k e => .inl (h.xs k e)
  xk := fun k hx hk => by
    rcases hx with hx | hx
    · exact h.xk k hx hk
    · have := h.fk.lt (k := k) (.inl hk)
      omega
  fk := h.fk.grow hb _ fun k hk => by
    rcases hk with hk | hk | hk
    · exact .inl (.inl hk)
    · exact .inl (.inr hk)
    · exact .inr hk
/-- A row is put behind the values. -/
theorem SrIn.addRow {W2 : World} {u v' : Value} {v : List Nat} (o : Obj) (h : SrIn K X w0 w p g s fv vn vv vs us x) (hg : K g) (hg0 : w0.heap.size ≤ g) (hu : ∀ k, u.ownBlock = some k → X k)
    (ho : OwnRx W2 w0.heap.size v' (us ++ [u]) (x.vals ++ [v])) (hgr : (w.alloc o).grownBy W2 vv.ownBlock) (hat : v'.ownBlock = vv.ownBlock ∨ v'.ownBlock = some (w.alloc o).heap.size) :
    SrIn K (fun k => X k ∨ (w.heap.size ≤ k ∧ k < W2.heap.size)) w0 (W2.setCell ⟨g, 2, none⟩ v') p g s fv vn v' vs (us ++ [u]) { x with vals := x.vals ++ [v] } ∧ Kept (fun k => K k ∧ k ≠ g) w (W2.setCell ⟨g, 2, none⟩ v') ∧ SrBlk W2 g fv vn vv vs x := by
  have hb0 : Blk w g 60 #[vn, fv, vv, vs, .int .i64 (x.asked : Int), .int .i64 (x.told : Int)] := h.blk
  have hba : Below w.heap.size w (w.alloc o) := (Below.refl _ _).alloc (Nat.le_refl _) o
  have hvg : vv.ownBlock ≠ some g := row_not_blk h.vals.2.1 hb0 (by decide)
  have hb1 : Blk W2 g 60 #[vn, fv, vv, vs, .int .i64 (x.asked : Int), .int .i64 (x.told : Int)] := (hb0.under hba).grown hgr hvg.symm
  have hlt : ∀ k, (K k ∨ X k) → k < w.heap.size := fun k hk => h.fk.lt hk
  have hold : ∀ k, k < w.heap.size → vv.ownBlock ≠ some k → k ≠ g → (W2.setCell ⟨g, 2, none⟩ v').heap[k]? = w.heap[k]? := fun k h1 h2 h3 => by
    rw [Below.heap_setCell _ ⟨g, 2, none⟩ _ k (fun e => h3 e), hgr.block k (Nat.lt_of_lt_of_le h1 hba.size) (fun e => h2 e.symm), hba.block k h1]
  have hsz : w.heap.size ≤ W2.heap.size := Nat.le_trans hba.size hgr.size
  have hxg : ∀ k, X k → k ≠ g := fun k hk e => h.xk k hk (e ▸ hg)
  refine ⟨⟨hb1.set 2 v', ?_, ?_, ?_, fun k e => .inl (h.xn k e), ?_, ?_, fun k e => .inl (h.xs k e), ?_, ?_⟩, ⟨Nat.le_trans hsz (by simp), fun k hk => ?_⟩, hb1⟩
  · exact ownsRow_block h.names fun k e => hold k (hlt k (.inr (h.xn k e))) (rows_not_same h.names h.vals.2.1 (by decide) k e) (hxg k (h.xn k e))
  · refine ho.blocks (fun k e => Below.heap_setCell _ ⟨g, 2, none⟩ _ k fun e2 => ?_) fun u' hu' k e => Below.heap_setCell _ ⟨g, 2, none⟩ _ k fun e2 => ?_
    · exact row_not_blk ho.2.1 hb1 (by decide) (e.trans (by rw [e2]))
    · rcases List.mem_append.1 hu' with hu' | hu'
      · exact hxg k (h.xu u' hu' k e) e2
      · rw [List.mem_singleton.1 hu'] at e
        exact hxg k (hu k e) e2
  · exact ownsRow_block h.stamps fun k e => hold k (hlt k (.inr (h.xs k e))) (rows_not_same h.stamps h.vals.2.1 (by decide) k e) (hxg k (h.xs k e))
  · intro k e
    rcases hat with hat | hat
    · exact .inl (h.xv k (hat ▸ e))
    · have h2 := (World.ownsRow.lt ho.2.1 k e).2
      rw [hat] at e
      injection e with e
      have := hba.size
      exact .inr ⟨by omega, h2⟩
  · intro u' hu' k e
    rcases List.mem_append.1 hu' with hu' | hu'
    · exact .inl (h.xu u' hu' k e)
    · rw [List.mem_singleton.1 hu'] at e
      exact .inl (hu k e)
  · intro k hx hk
    rcases hx with hx | hx
    · exact h.xk k hx hk
    · have := hlt k (.inl hk)
      omega
  · have f1 := h.fk.grow hba (fun k => (K k ∨ X k) ∨ (w.heap.size ≤ k ∧ k < (w.alloc o).heap.size)) fun k hk => hk
    have f2 := f1.grownNew (fun b hb => ⟨.inl (.inr (h.xv b hb)), (World.ownsRow.lt h.vals.2.1 b hb).1⟩) hgr
    refine Fk.set (f2.less _ fun k hk => ?_) (.inl hg) hg0 2 v'
    have := hba.size
    rcases hk with hk | hk | hk
    · exact .inl (.inl (.inl hk))
    · exact .inl (.inl (.inr hk))
    · by_cases hlt2 : k < (w.alloc o).heap.size
      · exact .inl (.inr ⟨hk.1, hlt2⟩)
      · exact .inr ⟨by omega, hk.2⟩
  · exact hold k (hlt k (.inl hk.1)) (fun e => h.xk k (h.xv k e) hk.1) hk.2

/-- A number is put behind the stamps. -/
theorem SrIn.addInt {W2 : World} {v' : Value} {n : Nat} (o : Obj) (h : SrIn K X w0 w p g s fv vn vv vs us x) (hg : K g) (hg0 : w0.heap.size ≤ g)
    (ho : OwnI W2 w0.heap.size v' (x.stamps ++ [n])) (hgr : (w.alloc o).grownBy W2 vs.ownBlock) (hat : v'.ownBlock = vs.ownBlock ∨ v'.ownBlock = some (w.alloc o).heap.size) :
    SrIn K (fun k => X k ∨ (w.heap.size ≤ k ∧ k < W2.heap.size)) w0 (W2.setCell ⟨g, 3, none⟩ v') p g s fv vn vv v' us { x with stamps := x.stamps ++ [n] } ∧ Kept (fun k => K k ∧ k ≠ g) w (W2.setCell ⟨g, 3, none⟩ v') ∧ SrBlk W2 g fv vn vv vs x := by
  have hb0 : Blk w g 60 #[vn, fv, vv, vs, .int .i64 (x.asked : Int), .int .i64 (x.told : Int)] := h.blk
  have hba : Below w.heap.size w (w.alloc o) := (Below.refl _ _).alloc (Nat.le_refl _) o
  have hvg : vs.ownBlock ≠ some g := row_not_blk h.stamps hb0 (by decide)
  have hb1 : Blk W2 g 60 #[vn, fv, vv, vs, .int .i64 (x.asked : Int), .int .i64 (x.told : Int)] := (hb0.under hba).grown hgr hvg.symm
  have hlt : ∀ k, (K k ∨ X k) → k < w.heap.size := fun k hk => h.fk.lt hk
  have hold : ∀ k, k < w.heap.size → vs.ownBlock ≠ some k → k ≠ g → (W2.setCell ⟨g, 3, none⟩ v').heap[k]? = w.heap[k]? := fun k h1 h2 h3 => by
    rw [Below.heap_setCell _ ⟨g, 3, none⟩ _ k (fun e => h3 e), hgr.block k (Nat.lt_of_lt_of_le h1 hba.size) (fun e => h2 e.symm), hba.block k h1]
  have hsz : w.heap.size ≤ W2.heap.size := Nat.le_trans hba.size hgr.size
  have hxg : ∀ k, X k → k ≠ g := fun k hk e => h.xk k hk (e ▸ hg)
  have hur : ∀ u ∈ us, ∀ k, u.ownBlock = some k → vs.ownBlock ≠ some k := fun u hu k e => by
    obtain ⟨i, hi, rfl⟩ := List.getElem_of_mem hu
    have := h.vals.2.2.2 i (by rw [← h.vals.1]; exact hi)
    rw [List.getD_eq_getElem?_getD, List.getElem?_eq_getElem hi] at this
    exact rows_not_same this.1 h.stamps (by decide) k e
  refine ⟨⟨hb1.set 3 v', ?_, ?_, ?_, fun k e => .inl (h.xn k e), fun k e => .inl (h.xv k e), fun u hu k e => .inl (h.xu u hu k e), ?_, ?_, ?_⟩, ⟨Nat.le_trans hsz (by simp), fun k hk => ?_⟩, hb1⟩
  · exact ownsRow_block h.names fun k e => hold k (hlt k (.inr (h.xn k e))) (rows_not_same h.names h.stamps (by decide) k e) (hxg k (h.xn k e))
  · exact h.vals.blocks (fun k e => hold k (hlt k (.inr (h.xv k e))) (rows_not_same h.vals.2.1 h.stamps (by decide) k e) (hxg k (h.xv k e))) fun u hu k e => hold k (hlt k (.inr (h.xu u hu k e))) (hur u hu k e) (hxg k (h.xu u hu k e))
  · exact ownsRow_block ho fun k e => Below.heap_setCell _ ⟨g, 3, none⟩ _ k fun e2 => row_not_blk ho hb1 (by decide) (e.trans (by rw [e2]))
  · intro k e
    rcases hat with hat | hat
    · exact .inl (h.xs k (hat ▸ e))
    · have h2 := (World.ownsRow.lt ho k e).2
      rw [hat] at e
      injection e with e
      have := hba.size
      exact .inr ⟨by omega, h2⟩
  · intro k hx hk
    rcases hx with hx | hx
    · exact h.xk k hx hk
    · have := hlt k (.inl hk)
      omega
  · have f1 := h.fk.grow hba (fun k => (K k ∨ X k) ∨ (w.heap.size ≤ k ∧ k < (w.alloc o).heap.size)) fun k hk => hk
    have f2 := f1.grownNew (fun b hb => ⟨.inl (.inr (h.xs b hb)), (World.ownsRow.lt h.stamps b hb).1⟩) hgr
    refine Fk.set (f2.less _ fun k hk => ?_) (.inl hg) hg0 3 v'
    have := hba.size
    rcases hk with hk | hk | hk
    · exact .inl (.inl (.inl hk))
    · exact .inl (.inl (.inr hk))
    · by_cases hlt2 : k < (w.alloc o).heap.size
      · exact .inl (.inr ⟨hk.1, hlt2⟩)
      · exact .inr ⟨by omega, hk.2⟩
  · exact hold k (hlt k (.inl hk.1)) (fun e => h.xk k (h.xs k e) hk.1) hk.2
/-- A number of the Read's own is turned. -/
theorem SrIn.setAsked (h : SrIn K X w0 w p g s fv vn vv vs us x) (hg : K g) (hg0 : w0.heap.size ≤ g) (n : Nat) :
    SrIn K X w0 (w.setCell ⟨g, 4, none⟩ (.int .i64 (n : Int))) p g s fv vn vv vs us { x with asked := n } ∧ Kept (fun k => K k ∧ k ≠ g) w (w.setCell ⟨g, 4, none⟩ (.int .i64 (n : Int))) := by
  have hb0 : Blk w g 60 #[vn, fv, vv, vs, .int .i64 (x.asked : Int), .int .i64 (x.told : Int)] := h.blk
  have hxg : ∀ k, X k → (w.setCell ⟨g, 4, none⟩ (.int .i64 (n : Int))).heap[k]? = w.heap[k]? := fun k hk => Below.heap_setCell _ ⟨g, 4, none⟩ _ k fun e => h.xk k hk ((show k = g from e) ▸ hg)
  exact ⟨⟨hb0.set 4 _, ownsRow_block h.names fun k e => hxg k (h.xn k e), h.vals.blocks (fun k e => hxg k (h.xv k e)) fun u hu k e => hxg k (h.xu u hu k e), ownsRow_block h.stamps fun k e => hxg k (h.xs k e), h.xn, h.xv, h.xu, h.xs, h.xk, h.fk.set (.inl hg) hg0 4 _⟩, Kept.set K w g 4 _⟩
theorem SrIn.setTold (h : SrIn K X w0 w p g s fv vn vv vs us x) (hg : K g) (hg0 : w0.heap.size ≤ g) (n : Nat) :
    SrIn K X w0 (w.setCell ⟨g, 5, none⟩ (.int .i64 (n : Int))) p g s fv vn vv vs us { x with told := n } ∧ Kept (fun k => K k ∧ k ≠ g) w (w.setCell ⟨g, 5, none⟩ (.int .i64 (n : Int))) := by
  have hb0 : Blk w g 60 #[vn, fv, vv, vs, .int .i64 (x.asked : Int), .int .i64 (x.told : Int)] := h.blk
  have hxg : ∀ k, X k → (w.setCell ⟨g, 5, none⟩ (.int .i64 (n : Int))).heap[k]? = w.heap[k]? := fun k hk => Below.heap_setCell _ ⟨g, 5, none⟩ _ k fun e => h.xk k hk ((show k = g from e) ▸ hg)
  exact ⟨⟨hb0.set 5 _, ownsRow_block h.names fun k e => hxg k (h.xn k e), h.vals.blocks (fun k e => hxg k (h.xv k e)) fun u hu k e => hxg k (h.xu u hu k e), ownsRow_block h.stamps fun k e => hxg k (h.xs k e), h.xn, h.xv, h.xu, h.xs, h.xk, h.fk.set (.inl hg) hg0 5 _⟩, Kept.set K w g 5 _⟩

set_option maxRecDepth 100000 in
theorem srforget_any (h : SrIn K X w0 w p g s fv vn vv vs us x) (hg : K g) (hg0 : w0.heap.size ≤ g) :
    Calls Try.prog 41 #[.pointer (some ⟨g, 0, none⟩)] w fun e w' => e = .returned (.tuple #[]) ∧ SrIn K X w0 w' p g s fv vn (.slice none 0 0) (.slice none 0 0) [] (Sr.forget x) ∧ Kept (fun k => K k ∧ k ≠ g) w w' := by
  have hb : Blk w g 60 #[vn, fv, vv, vs, .int .i64 (x.asked : Int), .int .i64 (x.told : Int)] := h.blk
  have hxg : ∀ k, X k → k ≠ g := fun k hk e => h.xk k hk (e ▸ hg)
  have HF := Lib.hid (((h.fk.set (.inl hg) hg0 2 (.slice none 0 0)).set (.inl hg) hg0 3 (.slice none 0 0)).set (.inl hg) hg0 4 (.int .i64 0))
  have HB := Lib.hid (((hb.set 2 (.slice none 0 0)).set 3 (.slice none 0 0)).set 4 (.int .i64 0))
  have HK := Lib.hid (((Kept.set K w g 2 (.slice none 0 0)).trans (Kept.set K _ g 3 (.slice none 0 0))).trans (Kept.set K _ g 4 (.int .i64 0)))
  have HN : Hid (OwnT (((w.setCell ⟨g, 2, none⟩ (.slice none 0 0)).setCell ⟨g, 3, none⟩ (.slice none 0 0)).setCell ⟨g, 4, none⟩ (.int .i64 0)) w0.heap.size vn x.names) := Lib.hid (ownsRow_block h.names fun k e => by
    have := hxg k (h.xn k e)
    rw [Below.heap_setCell _ ⟨g, 4, none⟩ _ k this, Below.heap_setCell _ ⟨g, 3, none⟩ _ k this, Below.heap_setCell _ ⟨g, 2, none⟩ _ k this])
  have HH := Lib.hid h
  have c2 := hb.at 2
  have c3 := hb.at 3
  have c4 := hb.at 4
  have f2 := hb.free 2
  have f3 := hb.free 3
  have f4 := hb.free 4
  clear h hb hxg hg hg0
  go_enter Try.func41, Try.ntmps41
  go_wp2
  refine bodyPost_end (results_none rfl _ _ _) rfl ⟨rfl, ?_, HK.out⟩
  exact ⟨HB.out, HN.out, ownRx_none _ _, ownI_none _ _, HH.out.xn, fun k hk => absurd hk (by simp [Value.ownBlock]), by simp, fun k hk => absurd hk (by simp [Value.ownBlock]), HH.out.xk, HF.out⟩

theorem srval_idle (w : World) : CallsD Try.prog 49 #[] .returning w fun e u' w' => e = .returned (.tuple #[]) ∧ u' = .returning ∧ w' = w := by
  refine callsD_of_wpS Try.func49 rfl fun c₀ cs hu => ?_
  apply wpS_region
  simp [wpOpsS, go_sem, recoverD, hu, Try.ntmps49]
  cases c₀
  simp_all [bodyPostS, results, Try.results49]
end Go.Proofs.Ytoloidfkpfdboaa
