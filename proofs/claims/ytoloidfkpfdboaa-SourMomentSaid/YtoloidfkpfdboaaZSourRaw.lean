/- Package sour: several Reads beside each other. -/
import Derived.Test.YtoloidfkpfdboaaZSourLaw
namespace Go.Proofs.Ytoloidfkpfdboaa
set_option maxRecDepth 100000
open Go.ChangeShapes Go.WideShapes Go.ChangeAt Go.RowKit Go.ChangeMaps
open Sf
variable {K K' X : Nat → Prop} {w0 w w' w1 : World} {p g : Nat} {s s' : S} {fv vn vv vs : Value} {us : List Value} {x : Sr.R}

theorem Sr.here_at {x : Sr.R} (h : x.asked < x.names.length) : Sr.Here x := fun _ => .inr h
/-- A Read that is begun: its block, and the row of its names. -/
def SrRaw (w : World) (base g : Nat) (fv vn : Value) (L : List (List Nat)) : Prop :=
  Blk w g 60 #[vn, fv, .slice none 0 0, .slice none 0 0, .int .i64 0, .int .i64 0] ∧ OwnT w base vn L ∧ base ≤ g
theorem SrRaw.size {base : Nat} {L : List (List Nat)} (h : SrRaw w base g fv vn L) : g < w.heap.size := Blk.size h.1
theorem SrRaw.under {base : Nat} {L : List (List Nat)} (h : SrRaw w base g fv vn L) (hb : Below w.heap.size w w1) : SrRaw w1 base g fv vn L := ⟨h.1.under hb, h.2.1.under hb, h.2.2⟩
theorem SrRaw.more {base base' : Nat} {L : List (List Nat)} (h : SrRaw w base g fv vn L) (hb : base' ≤ base) : SrRaw w base' g fv vn L := by
  obtain ⟨h1, ⟨h2, h3⟩, h4⟩ := h
  refine ⟨h1, ⟨h2, h3.imp id ?_⟩, Nat.le_trans hb h4⟩
  rintro ⟨g, cap', cur, e, hg, rest⟩
  exact ⟨g, cap', cur, e, Nat.le_trans hb hg, rest⟩
theorem SrRaw.kept {base : Nat} {L : List (List Nat)} (h : SrRaw w base g fv vn L) (hk : Kept K w w') (h1 : K g) (h2 : ∀ k, vn.ownBlock = some k → K k) : SrRaw w' base g fv vn L :=
  ⟨(hk.2 g h1).trans h.1, ownsRow_block h.2.1 fun k e => hk.2 k (h2 k e), h.2.2⟩
theorem SrRaw.apart {base : Nat} {L : List (List Nat)} (h : SrRaw w base g fv vn L) : vn.ownBlock ≠ some g := row_not_blk h.2.1 h.1 (by decide)
/-- A Read that is begun, made ready to go on. -/
theorem SrRaw.at {L : List (List Nat)} (h : SrRaw w w0.heap.size g fv vn L) (hf : Fk (fun k => K k ∨ vn.ownBlock = some k) w0 w p s) (hx : ∀ k, vn.ownBlock = some k → ¬ K k) (hL : ∀ t ∈ L, (∀ c ∈ t, c < 256) ∧ t.length ≤ 1048576) (hl : L.length ≤ 1000000) : SrAt K w0 w p g s fv ⟨L, [], [], 0, 0⟩ :=
  SrIn.at (X := fun k => vn.ownBlock = some k) (vn := vn) (vv := .slice none 0 0) (vs := .slice none 0 0) (us := []) ⟨h.1, h.2.1, ownRx_none _ _, ownI_none _ _, fun _ e => e, fun k hk => absurd hk (by simp [Value.ownBlock]), by simp, fun k hk => absurd hk (by simp [Value.ownBlock]), hx, hf⟩ (Sr.Ok.begin hL hl)
/-- Another one has gone on beside. -/
theorem SrIn.beside (h : SrIn K X w0 w p g s fv vn vv vs us x) (hf : Fk (fun k => K' k ∨ X k) w0 w' p s') (hx : ∀ k, X k → ¬ K' k) (hk : ∀ k, (X k ∨ k = g) → w'.heap[k]? = w.heap[k]?) : SrIn K' X w0 w' p g s' fv vn vv vs us x where
  blk := (hk g (.inr rfl)).trans h.blk
  names := ownsRow_block h.names fun k e => hk k (.inl (h.xn k e))
  vals := h.vals.blocks (fun k e => hk k (.inl (h.xv k e))) fun u hu k e => hk k (.inl (h.xu u hu k e))
  stamps := ownsRow_block h.stamps fun k e => hk k (.inl (h.xs k e))
  xn := h.xn
  xv := h.xv
  xu := h.xu
  xs := h.xs
  xk := hx
  fk := hf
theorem srnew_raw {L : List (List Nat)} {v : Value} (w : World) (hv : SrT w v L) (hl : L.length ≤ 1000000) (fn : Fn) (first cap : Array Value) :
    Calls Try.prog 9 #[v, .func fn first cap] w fun e w' => ∃ g vn, e = .returned (.pointer (some ⟨g, 0, none⟩)) ∧ SrRaw w' w.heap.size g (.func fn first cap) vn L ∧ Below w.heap.size w w' := by
  have C := Lib.hid (srclone_texts hv hl)
  obtain ⟨A, c, rfl, _⟩ := hv
  clear hl
  go_enter Try.func9, Try.ntmps9
  go_wp2_with fail
  refine C.out.mono ?_
  rintro e w1 ⟨v1, rfl, ho1, hb1⟩
  have HO1 := Lib.hid ho1
  have HB1 := Lib.hid hb1
  obtain ⟨A1, c1, rfl⟩ := ownT_sl ho1
  obtain ⟨m, hm⟩ : ∃ m, L.length = m := ⟨_, rfl⟩
  rw [hm] at HO1 ⊢
  clear ho1 hb1 C hm
  go_wp2
  go_ret
  have hba : Below w1.heap.size w1 (w1.alloc (.cells #[.slice A1 m c1, .func fn first cap, .slice none 0 0, .slice none 0 0, .int .i64 0, .int .i64 0] 60)) := (Below.refl _ _).alloc (Nat.le_refl _) _
  exact ⟨_, _, rfl, ⟨heap_alloc_new w1 _, HO1.out.under hba, HB1.out.size⟩, HB1.out.trans (hba.mono HB1.out.size)⟩
/-- All that has been made since is held beside. -/
theorem Fk.since (h : Fk K w0 w p s) (hb : Below w.heap.size w w1) : Fk (fun k => K k ∨ (w.heap.size ≤ k ∧ k < w1.heap.size)) w0 w1 p s := h.grow hb _ fun _ hk => hk
theorem srT_two (w : World) (t u : List Nat) (e : TypeId) : SrT (w.alloc (.cells #[.string (str t), .string (str u)] e)) (.slice (some ⟨w.heap.size, 0, none⟩) 2 2) [t, u] :=
  srT_lit w w.heap.size rfl [t, u] 2 rfl e (0, 0)
end Go.Proofs.Ytoloidfkpfdboaa
