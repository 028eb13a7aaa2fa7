/- Commits that are kept beside the files; a trace behind some rounds. -/
import Derived.Test.YtfheaognfocofaaZLogsAwake
import Derived.Test.YtfheaognfocofaaZRecoTraceLaw
namespace Go.Proofs.Ytfheaognfocofaa
set_option maxRecDepth 100000
open Go.ChangeShapes Go.WideShapes Go.ChangeAt Go.RowKit Go.ChangeMaps
open Sf Lg

theorem lg_and (a : Int) (k : Nat) (hk : k < 4294967296) : ∃ m : Nat, bits .and .i64 a (k : Int) = (m : Int) ∧ m ≤ k := by
  have h : bits .and .i64 a (k : Int) = IntKind.i64.wrap ((BitVec.ofInt 64 a &&& BitVec.ofInt 64 (k : Int)).toNat : Int) := rfl
  have hx : (BitVec.ofInt 64 a &&& BitVec.ofInt 64 (k : Int)).toNat ≤ k := by
    rw [BitVec.toNat_and]
    refine Nat.le_trans Nat.and_le_right ?_
    rw [BitVec.ofInt_natCast, BitVec.toNat_ofNat]
    exact Nat.mod_le _ _
  refine ⟨(BitVec.ofInt 64 a &&& BitVec.ofInt 64 (k : Int)).toNat, ?_, hx⟩
  rw [h, IntKind.wrap_i64]
  omega
theorem ownsRow_block {w w' : World} {base n s : Nat} {e : TypeId} {v : Value} {us : List Value} (h : w.ownsRow base e s v n us) (hb : ∀ k, v.ownBlock = some k → w'.heap[k]? = w.heap[k]?) : w'.ownsRow base e s v n us := by
  refine ⟨h.1, ?_⟩
  rcases h.2 with h2 | ⟨g, cap, cur, e1, hg, hh, rest⟩
  · exact .inl h2
  · exact .inr ⟨g, cap, cur, e1, hg, (hb g (by rw [e1]; rfl)).trans hh, rest⟩
/-- Commits of the call's own, in blocks of K. -/
def WantIs (K : Nat → Prop) (w : World) (base : Nat) (v : Value) (R : List Rc.D) : Prop :=
  ∃ T : List Dv, T.map Prod.fst = R ∧ OwnN w base v T ∧ (∀ y ∈ T, Own w base y.2 y.1.2.1) ∧ (∀ k, v.ownBlock = some k → K k) ∧ ∀ y ∈ T, ∀ k, y.2.ownBlock = some k → K k
theorem WantIs.none (K : Nat → Prop) (w : World) (base : Nat) : WantIs K w base (.slice .none 0 0) [] := ⟨[], rfl, ownN_none _ _, by simp, fun k h => absurd h (nil_own k), by simp⟩
theorem WantIs.kept {K : Nat → Prop} {w w' : World} {base : Nat} {v : Value} {R : List Rc.D} (h : WantIs K w base v R) (hk : Kept K w w') : WantIs K w' base v R := by
  obtain ⟨T, e, h1, h2, h3, h4⟩ := h
  exact ⟨T, e, ownsRow_block h1 fun k hk' => hk.2 k (h3 k hk'), fun y hy => ⟨ownsRow_block (h2 y hy).1 fun k hk' => hk.2 k (h4 y hy k hk'), (h2 y hy).2⟩, h3, h4⟩
theorem WantIs.under {K : Nat → Prop} {w w' : World} {base : Nat} {v : Value} {R : List Rc.D} (h : WantIs K w base v R) (hb : Below w.heap.size w w') : WantIs K w' base v R := by
  obtain ⟨T, e, h1, h2, h3, h4⟩ := h
  exact ⟨T, e, h1.under hb, fun y hy => (h2 y hy).under hb, h3, h4⟩
theorem WantIs.more {K K' : Nat → Prop} {w : World} {base : Nat} {v : Value} {R : List Rc.D} (h : WantIs K w base v R) (hK : ∀ k, K k → K' k) : WantIs K' w base v R := by
  obtain ⟨T, e, h1, h2, h3, h4⟩ := h
  exact ⟨T, e, h1, h2, fun k hk => hK k (h3 k hk), fun y hy k hk => hK k (h4 y hy k hk)⟩
theorem WantIs.rd {K : Nat → Prop} {w : World} {base : Nat} {v : Value} {R : List Rc.D} (h : WantIs K w base v R) : RdDs w v R := by
  obtain ⟨T, e, h1, h2, _⟩ := h
  exact ⟨T, e, h1.rd, fun y hy => (h2 y hy).bytes⟩
theorem WantIs.lt {K : Nat → Prop} {w : World} {base : Nat} {v : Value} {R : List Rc.D} (h : WantIs K w base v R) : ∀ k, v.ownBlock = some k → k < w.heap.size := by
  obtain ⟨T, e, h1, _⟩ := h
  exact fun k hk => (World.ownsRow.lt h1 k hk).2
/-- Blocks that are made while a row of K grows are new. -/
theorem Fk.grownNew {K : Nat → Prop} {w0 w w1 : World} {p : Nat} {s : S} (h : Fk K w0 w p s) {row : Option Nat} (hr : ∀ b, row = some b → K b ∧ w0.heap.size ≤ b) (hg : w.grownBy w1 row) : Fk (fun k => K k ∨ (w.heap.size ≤ k ∧ k < w1.heap.size)) w0 w1 p s := by
  obtain ⟨mb, V, F, h1, h2, h3, h4⟩ := h
  refine ⟨mb, V, F, h1.same hg.size fun k hk => hg.block k (h1.lt k hk) fun e => (h4 k (hr k e.symm).1).2 hk, h2, h3.grown hg h3.size fun k hk => (hr k hk).2, fun k hk => ?_⟩
  rcases hk with hk | hk
  · exact ⟨Nat.lt_of_lt_of_le (h4 k hk).1 hg.size, (h4 k hk).2⟩
  · exact ⟨hk.2, fun e => by have := h1.lt k e; omega⟩
theorem Fk.own {K : Nat → Prop} {w0 w w1 : World} {p : Nat} {s : S} {v : Value} {l : List Nat} (h : Fk K w0 w p s) (hb : Below w.heap.size w w1) (ho : Own w1 w.heap.size v l) : ∃ K', Fk K' w0 w1 p s ∧ (∀ k, v.ownBlock = some k → K' k) ∧ ∀ k, K k → K' k :=
  ⟨_, h.grow hb (fun k => K k ∨ v.ownBlock = some k) (fun k hk => hk.elim .inl fun e => .inr (ho.lt k e)), fun _ h => .inr h, fun _ h => .inl h⟩
/-- A commit is put behind the others: what is left of all that lay there. -/
theorem WantIs.grew {K : Nat → Prop} {w0 w w' : World} {p : Nat} {s : S} {u u' x : Value} {R : List Rc.D} {d : Rc.D} {T : List Dv} (hf : Fk K w0 w p s) (e : T.map Prod.fst = R) (h1 : OwnN w w0.heap.size u T) (h2 : ∀ y ∈ T, Own w w0.heap.size y.2 y.1.2.1) (h3 : ∀ k, u.ownBlock = some k → K k) (h4 : ∀ y ∈ T, ∀ k, y.2.ownBlock = some k → K k) (hx : Own w w0.heap.size x d.2.1) (hxk : ∀ k, x.ownBlock = some k → K k)
    (hg : GrewN w0.heap.size u (T ++ [(d, x)]) w u' w') : ∃ K', Fk K' w0 w' p s ∧ WantIs K' w' w0.heap.size u' (R ++ [d]) ∧ (∀ k, K k → K' k) ∧ Own w' w0.heap.size x d.2.1 ∧ (∀ (g : Nat) (ty : TypeId) (cs : Array Value), Blk w g ty cs → ty ≠ 39 ∨ ¬ u.ownBlock = some g → Blk w' g ty cs) := by
  obtain ⟨g1, g2, g3, g4⟩ := hg
  have hx' : Own w' w0.heap.size x d.2.1 := hx.grown g2 (own_apartN hx h1)
  have hlt := World.ownsRow.lt g1
  refine ⟨_, hf.grownNew (fun b hb => ⟨h3 b hb, (World.ownsRow.lt h1 b hb).1⟩) g2, ⟨T ++ [(d, x)], by rw [List.map_append, e]; rfl, g1, fun y hy => ?_, fun k hk => ?_, fun y hy k hk => ?_⟩, fun _ => .inl, hx', fun g ty cs hb hty => ?_⟩
  · rcases List.mem_append.1 hy with hy | hy
    · exact (h2 y hy).grown g2 (own_apartN (h2 y hy) h1)
    · rw [List.mem_singleton.1 hy]
      exact hx'
  · rcases g4 with g4 | g4
    · rw [g4] at hk
      exact .inl (h3 k hk)
    · have := (hlt k hk).2
      rw [g4] at hk
      injection hk with hk
      exact .inr ⟨by omega, this⟩
  · rcases List.mem_append.1 hy with hy | hy
    · exact .inl (h4 y hy k hk)
    · rw [List.mem_singleton.1 hy] at hk
      exact .inl (hxk k hk)
  · refine hb.grown g2 fun e => ?_
    rcases hty with hty | hty
    · rcases h1.2 with ⟨h0, _⟩ | ⟨g', cap, cur, e1, _, hh, _⟩
      · rw [h0] at e
        cases e
      · rw [e1] at e
        injection e with e
        subst e
        rw [show w.heap[g]? = some (.cells cs ty (0, 0)) from hb] at hh
        injection hh with hh
        injection hh with _ h5
        exact hty h5
    · exact hty e.symm

namespace Lg
/-- The trace behind some rounds: what L tells, and a part of one more behind it, or nothing at all. -/
def TInv (o : Option (List Nat × Nat)) (L : List Rc.D) (n : Nat) : Prop :=
  (∀ d ∈ L, Rc.NumOk d) ∧ ((o = none ∧ L = []) ∨ ∃ (k m : Nat) (x : List Nat), o = some (Fr.frs (L.map Rc.body) ++ (Fr.frm x).take m, k) ∧ 0 < k ∧ k ≤ n ∧ x.length ≤ 50 ∧ m < (Fr.frm x).length)
theorem frs_le {L : List Rc.D} (hL : ∀ d ∈ L, Rc.NumOk d) : (Fr.frs (L.map Rc.body)).length ≤ 60 * L.length := by
  have := Rc.frs_len_le (L.map Rc.body) (fun x hx => by obtain ⟨d, hd, rfl⟩ := List.mem_map.1 hx; exact Rc.body_len (hL d hd))
  rwa [List.length_map] at this
theorem TInv.len {o : Option (List Nat × Nat)} {L : List Rc.D} {n : Nat} (h : TInv o L n) : (lw o).length ≤ 60 * L.length + 60 := by
  obtain ⟨hL, ⟨rfl, rfl⟩ | ⟨k, m, x, rfl, _, _, hx, hm⟩⟩ := h
  · simp [lw]
  · have := frs_le hL
    rw [Fr.frm_length] at hm
    show (Fr.frs (L.map Rc.body) ++ (Fr.frm x).take m).length ≤ _
    rw [List.length_append, List.length_take]
    omega
/-- Made whole it tells L. -/
theorem TInv.fix {o : Option (List Nat × Nat)} {L : List Rc.D} {n : Nat} (h : TInv o L n) (hl : L.length ≤ 20) (i : Nat) : ∃ k n' X, Lg.run (i + 3) (aa [120] 1 o 1048576 n (-1)) (Lg.begin lgL 1 lgT) = (aa [120] 1 (some (Fr.frs (L.map Rc.body), k)) 1048576 n' (-1), X, 1) ∧ X.told = 1 ∧ X.stamp = (k : Int) ∧ 0 < k ∧ k ≤ n' ∧ n ≤ n' ∧ n' ≤ n + 2 := by
  have hlen := h.len
  obtain ⟨hL, ⟨rfl, rfl⟩ | ⟨k, m, x, rfl, h0, hkn, hx, hm⟩⟩ := h
  · have hs : stands none = [] := by unfold stands lw; simp
    have := run_torn (b := [120]) (j := 1) (o := none) (r := 1048576) (n := n) (c := -1) (lk := 1) i (fun t k e => by cases e) rfl (fun t k e => by cases e) (by show ((1 + 0 + 0 : Nat) : Int) ≤ 1048576; decide)
    rw [hs] at this
    exact ⟨n + 2, n + 2, _, this, rfl, rfl, by omega, by omega, by omega, by omega⟩
  · have ht := ld_tell hL x (by omega) m hm
    by_cases hm0 : m = 0
    · subst hm0
      rw [List.take_zero, List.append_nil] at ht ⊢
      exact ⟨k, n, _, run_whole (i + 2) ht.2, rfl, rfl, h0, hkn, by omega, by omega⟩
    · have hs : stands (some (Fr.frs (L.map Rc.body) ++ (Fr.frm x).take m, k)) = Fr.frs (L.map Rc.body) := by
        show (Fr.frs (L.map Rc.body) ++ (Fr.frm x).take m).take (ed (Fr.frs (L.map Rc.body) ++ (Fr.frm x).take m)) = _
        rw [ht.2, List.take_left' rfl]
      have hto : Torn (some (Fr.frs (L.map Rc.body) ++ (Fr.frm x).take m, k)) := fun t k' e => by
        injection e with e
        injection e with e _
        subst e
        rw [ht.2, List.length_append, List.length_take]
        omega
      have := run_torn (b := [120]) (j := 1) (r := 1048576) (n := n) (c := -1) (lk := 1) i hto rfl (fun t k' e => by injection e with e; injection e with _ e; omega) (by
        show (([120].length + (lw (some (Fr.frs (L.map Rc.body) ++ (Fr.frm x).take m, k))).length + (lw (some (Fr.frs (L.map Rc.body) ++ (Fr.frm x).take m, k))).length : Nat) : Int) ≤ 1048576
        simp only [List.length_cons, List.length_nil]
        omega)
      rw [hs] at this
      exact ⟨n + 2, n + 2, _, this, rfl, rfl, by omega, by omega, by omega, by omega⟩
theorem frs_snoc (L : List Rc.D) (d : Rc.D) : Fr.frs (L.map Rc.body) ++ Fr.frm (Rc.body d) = Fr.frs ((L ++ [d]).map Rc.body) := by
  rw [List.map_append, Rc.frs_append]
  simp [Fr.frs]
theorem TInv.told {L : List Rc.D} {d : Rc.D} {k n : Nat} (hL : ∀ x ∈ L, Rc.NumOk x) (hd : Rc.NumOk d) (h0 : 0 < k) (hk : k ≤ n) : TInv (some (Fr.frs ((L ++ [d]).map Rc.body), k)) (L ++ [d]) n := by
  refine ⟨fun x hx => ?_, .inr ⟨k, 0, [], by rw [List.take_zero, List.append_nil], h0, hk, by simp, by rw [Fr.frm_length]; omega⟩⟩
  rcases List.mem_append.1 hx with hx | hx
  · exact hL x hx
  · rw [List.mem_singleton.1 hx]
    exact hd
theorem used_tt {t : List Nat} {k n : Nat} {c : Int} (h : t.length ≤ 2000) : used (aa [120] 1 (some (t, k)) 1048576 n c).l ≤ 1000000 := by
  rw [used_aa]
  show 1 + t.length ≤ _
  omega
theorem TInv.len1 {t : List Nat} {k n : Nat} {L : List Rc.D} (h : TInv (some (t, k)) L n) : t.length ≤ 60 * L.length + 60 := h.len
theorem frs_small {L : List Rc.D} (hL : ∀ d ∈ L, Rc.NumOk d) (hl : L.length ≤ 20) : (Fr.frs (L.map Rc.body)).length ≤ 2000 := by
  have := frs_le hL
  omega
theorem ok_snoc {L : List Rc.D} {d : Rc.D} (hL : ∀ x ∈ L, Rc.NumOk x) (hd : Rc.NumOk d) : ∀ x ∈ L ++ [d], Rc.NumOk x := fun x hx => by
  rcases List.mem_append.1 hx with hx | hx
  · exact hL x hx
  · rw [List.mem_singleton.1 hx]
    exact hd
theorem body_ne {d : Rc.D} (h : Rc.NumOk d) : Rc.body d ≠ [] := fun e => by
  have := Rc.body_open h
  rw [e, Rc.openD_nil] at this
  cases this
theorem tell_ok {L : List Rc.D} {d : Rc.D} {k n : Nat} (hL : ∀ x ∈ L, Rc.NumOk x) (hl : L.length ≤ 20) (hd : Rc.NumOk d) : tellF (aa [120] 1 (some (Fr.frs (L.map Rc.body), k)) 1048576 n (-1)) d.1 d.2.1 (d.2.2.1 : Int) (d.2.2.2 : Int) [(lgL, 1), (tr, (k : Int))] = (aa [120] 1 (some (Fr.frs ((L ++ [d]).map Rc.body), n + 1)) 1048576 (n + 1) (-1), n + 1, 0) := by
  unfold tellF
  rw [if_neg (show ¬ Rc.done d.1 d.2.1 (d.2.2.1 : Int) (d.2.2.2 : Int) = [] from body_ne hd)]
  have h1 := frs_le hL
  have h2 := Rc.body_len hd
  have := app_ok (b := [120]) (t := Fr.frs (L.map Rc.body)) (B := Fr.frm (Rc.body d)) (j := 1) (k := k) (n := n) (r := 1048576) (σ := 1) (τ := (k : Int)) rfl rfl (by rw [Fr.frm_length]; simp only [List.length_cons, List.length_nil]; omega)
  rw [frs_snoc] at this
  exact this
theorem tell_old {L : List Rc.D} {d : Rc.D} {k k' n : Nat} {c : Int} (hd : Rc.NumOk d) (hk : k ≠ k') : tellF (aa [120] 1 (some (Fr.frs (L.map Rc.body), k)) 1048576 n c) d.1 d.2.1 (d.2.2.1 : Int) (d.2.2.2 : Int) [(lgL, 1), (tr, (k' : Int))] = (aa [120] 1 (some (Fr.frs (L.map Rc.body), k)) 1048576 n c, 0, 5) := by
  unfold tellF
  rw [if_neg (show ¬ Rc.done d.1 d.2.1 (d.2.2.1 : Int) (d.2.2.2 : Int) = [] from body_ne hd)]
  exact app_not (by rw [decide_eq_false (show ¬ (k : Int) = (k' : Int) by omega)]; simp)
theorem app_cut' {b t B : List Nat} {j k n : Nat} {r σ τ : Int} (h1 : (j : Int) = σ) (h2 : (k : Int) = τ) (q : Nat) (hq : q ≤ B.length) : ∃ k' n', Sf.app (aa b j (some (t, k)) r n (q : Int)) tr B [(lgL, σ), (tr, τ)] = (aa b j (some (t ++ B.take q, k')) r n' (-1), 0, 7) ∧ ((k' = k ∧ n' = n) ∨ (k' = n + 1 ∧ n' = n + 1)) := by
  have hp : Sf.part (aa b j (some (t, k)) r n (q : Int)) B.length = (aa b j (some (t, k)) r n (-1), q, 7) := by
    unfold Sf.part
    rw [if_neg (by show ¬ (q : Int) = -1; omega)]
    have : (min (B.length : Int) (q : Int)).toNat = q := by omega
    rw [show (aa b j (some (t, k)) r n (q : Int)).cut = (q : Int) from rfl, this]
  unfold Sf.app
  rw [if_pos (refuse_aa (by simp [h1, h2])), hp, if_neg (by simp)]
  by_cases h0 : 0 < q
  · rw [if_pos h0, wr_aa, bytes_aa]
    exact ⟨n + 1, n + 1, rfl, .inr ⟨rfl, rfl⟩⟩
  · obtain rfl : q = 0 := by omega
    rw [if_neg (by simp)]
    refine ⟨k, n, ?_, .inl ⟨rfl, rfl⟩⟩
    rw [List.take_zero, List.append_nil]
theorem tell_cut {L : List Rc.D} {d : Rc.D} {k n q : Nat} (hL : ∀ x ∈ L, Rc.NumOk x) (hd : Rc.NumOk d) (hq : q < (Fr.frm (Rc.body d)).length) (h0 : 0 < k) (hk : k ≤ n) : ∃ o' n', tellF (aa [120] 1 (some (Fr.frs (L.map Rc.body), k)) 1048576 n (q : Int)) d.1 d.2.1 (d.2.2.1 : Int) (d.2.2.2 : Int) [(lgL, 1), (tr, (k : Int))] = (aa [120] 1 o' 1048576 n' (-1), 0, 7) ∧ TInv o' L n' ∧ n ≤ n' ∧ n' ≤ n + 1 ∧ ∃ t k', o' = some (t, k') ∧ t = Fr.frs (L.map Rc.body) ++ (Fr.frm (Rc.body d)).take q := by
  unfold tellF
  rw [if_neg (show ¬ Rc.done d.1 d.2.1 (d.2.2.1 : Int) (d.2.2.2 : Int) = [] from body_ne hd)]
  obtain ⟨k', n', e1, e2⟩ := app_cut' (b := [120]) (t := Fr.frs (L.map Rc.body)) (B := Fr.frm (Rc.body d)) (j := 1) (k := k) (n := n) (r := 1048576) (σ := 1) (τ := (k : Int)) rfl rfl q (by omega)
  exact ⟨_, n', e1, ⟨hL, .inr ⟨k', q, _, rfl, by omega, by omega, Rc.body_len hd, hq⟩⟩, by omega, by omega, _, k', rfl, rfl⟩
end Lg
end Go.Proofs.Ytfheaognfocofaa
