/- Package grph: what is ahead of a thing, asked of a function value. -/
import Derived.Test.YtemliglhippdcaaZ06
import Derived.Test.YtemliglhippdcaaZ03
import Derived.Tactics
import Derived.Tactics2
import Derived.Defers
import Derived.Recover
import Derived.Laws.Pointers
import Derived.Deep.RegionWith
import Derived.Deep.LoopGhost
import Derived.Deep.CutBlock
import Derived.Test.YtemliglhippdcaaTexts
import Derived.Test.YtemliglhippdcaaZ00
import Derived.Deep.OwnRows
import Derived.Deep.Onto
namespace Go.Proofs.Ytemliglhippdcaa
set_option maxRecDepth 100000
open Go.ChangeShapes Go.WideShapes Go.ChangeAt Go.RowKit

theorem asked_idle (w : World) : CallsD Try.prog 59 #[] .returning w fun e u' w' => e = .returned (.tuple #[]) ∧ u' = .returning ∧ w' = w := by
  refine callsD_of_wpS Try.func59 rfl fun c₀ cs hu => ?_
  apply wpS_region
  simp [wpOpsS, go_sem, recoverD, hu, Try.ntmps59]
  cases c₀
  simp_all [bodyPostS, results, Try.results59]
theorem ask_any (K : Nat) (cap : Array Value) (hK : ∀ args w, (callFunc K args).run Try.prog w = .ok (.enter K args) w) (x : Int) (w : World) (R : Value → World → Prop)
    (h : Calls Try.prog K (#[.int .i64 x] ++ cap) w fun e w' => ∃ v, e = .returned v ∧ R v w') :
    Calls Try.prog 39 #[.func (.func K) #[] cap, .int .i64 x] w fun e w' => ∃ v, e = .returned (.tuple #[v, .bool true]) ∧ R v w' := by
  have hmf : ∀ (fn : Fn) (first cap : Array Value) (w : World), (Instr.makeFunc fn first cap).run Try.prog w = .ok (.func fn first cap) w := fun _ _ _ _ => rfl
  go_enter_defers Try.func39, Try.ntmps39
  go_wp2
  refine h.mono ?_
  rintro e w1 ⟨v, rfl, hr⟩
  go_wp2
  refine leaves_cons (f := 59) (args := #[]) (by simp) (by simp [go_sem]) ?_
  refine (asked_idle _).mono ?_
  rintro e u' w'' ⟨rfl, rfl, rfl⟩
  simp [Leaves, settle, results, Try.results39, go_sem]
  exact hr
end Go.Proofs.Ytemliglhippdcaa

/- Package grph: a row of places, each once, with where each stands. -/
namespace Go.Proofs.Ytemliglhippdcaa
set_option maxRecDepth 100000
open Go.ChangeShapes Go.WideShapes Go.ChangeAt Go.RowKit

/-- A slice of places that reads as a list. -/
def RdN (w : World) (v : Value) (l : List Nat) : Prop :=
  ∃ A c, v = .slice A l.length c ∧ l.length ≤ c ∧ ∀ k, k < l.length → ∃ b off, A = some ⟨b, off, none⟩ ∧ w.cell? ⟨b, off + k, none⟩ = some (.int .i64 ((l.getD k 0 : Nat) : Int))
theorem rdN_none (w : World) : RdN w (.slice none 0 0) [] := ⟨none, 0, rfl, Nat.le_refl _, fun k h => by simp at h⟩
theorem RdN.under {w w' : World} {v : Value} {l : List Nat} (h : RdN w v l) (hb : Below w.heap.size w w') : RdN w' v l := by
  obtain ⟨A, c, h1, h2, h3⟩ := h
  refine ⟨A, c, h1, h2, fun k hk => ?_⟩
  obtain ⟨b, off, rfl, hc⟩ := h3 k hk
  exact ⟨b, off, rfl, cell_later hb hc⟩
theorem RdN.moves {S : Nat → Prop} {w w' : World} {v : Value} {l : List Nat} (h : RdN w v l) (hm : Moves S w w') (hs : ∀ k, v.ownBlock = some k → ¬ S k) : RdN w' v l := by
  obtain ⟨A, c, rfl, h2, h3⟩ := h
  refine ⟨A, c, rfl, h2, fun k hk => ?_⟩
  obtain ⟨b, off, rfl, hc⟩ := h3 k hk
  refine ⟨b, off, rfl, ?_⟩
  rw [World.cell?_of_block (hm.block b (World.block_lt_of_cell? w _ hc) (hs b rfl))]
  exact hc
theorem OwnI.rdN {w : World} {base : Nat} {v : Value} {l : List Nat} (h : OwnI w base v l) : RdN w v l := by
  obtain ⟨A, c, rfl, hc⟩ := h.parts
  refine ⟨A, c, rfl, hc, fun k hk => ?_⟩
  obtain ⟨g, rfl, h2⟩ := h.cell hk
  exact ⟨g, 0, rfl, h2⟩
theorem keyof_any (x : Int) (w : World) : Calls Try.prog 60 #[.int .i64 x] w fun e w' => e = .returned (.agg #[.int .i64 x, .bool false]) ∧ Below w.heap.size w w' := by
  go_enter Try.func60, Try.ntmps60
  go_wp2
  refine bodyPost_ret (results_cell_row rfl _ _ w.heap.size _ _ _ _ (by rfl) (heap_alloc_new w _) Try.underlying112 rfl (by kernel_rfl)) rfl ?_
  exact ⟨rfl, (Below.refl _ _).alloc (Nat.le_refl _) _⟩
noncomputable def kdN : Kd 112 Nat := ⟨fun n => kI (n : Int), fun _ => True, fun x y => decide (x = y), fun x y w _ _ => by rw [eqKI]; congr 1; exact decide_eq_decide.2 (by omega), kdI.fs, kdI.kind, fun x => ⟨_, rfl⟩, fun b x w => checkKI b x w⟩
/-- Where x stands in l. -/
def plc (l : List Nat) (x : Nat) : Option Nat := l.findIdx? fun y => decide (x = y)
/-- Those that are new, behind. -/
def addL (l xs : List Nat) : List Nat := xs.foldl (fun acc x => if x ∈ acc then acc else acc ++ [x]) l
/-- A row of places, each once, at g; its things are v, its map is mb. -/
structure RowAt (w : World) (base g mb : Nat) (v : Value) (l : List Nat) : Prop where
  box : Blk w g 87 #[v, .map (some mb)]
  row : OwnI w base v l
  map : KeyMap kdN w mb l
  nd : l.Nodup
  hg : base ≤ g
  hm : base ≤ mb
/-- What is turned by a call on it. -/
def Rx (g mb : Nat) (v : Value) : Nat → Prop := fun k => k = g ∨ k = mb ∨ v.ownBlock = some k
theorem RowAt.apart {w : World} {base g mb : Nat} {v : Value} {l : List Nat} (h : RowAt w base g mb v l) : g ≠ mb ∧ v.ownBlock ≠ some g ∧ v.ownBlock ≠ some mb := by
  obtain ⟨es, c, h1, _⟩ := h.map
  refine ⟨fun e => ?_, own_not_blk (by decide) h.box h.row, fun e => ?_⟩
  · subst e
    have := h.box
    unfold Blk at this
    rw [h1] at this
    injection this with this
    cases this
  · rcases h.row.2 with ⟨rfl, _⟩ | ⟨r, cap, cur, rfl, _, hh, _⟩
    · cases e
    · injection e with e
      change r = mb at e
      subst e
      rw [hh] at h1
      injection h1 with h1
      cases h1
theorem RowAt.moves {S : Nat → Prop} {w w' : World} {base g mb : Nat} {v : Value} {l : List Nat} (h : RowAt w base g mb v l) (hm : Moves S w w') (hs : ∀ k, Rx g mb v k → ¬ S k) : RowAt w' base g mb v l :=
  ⟨h.box.moves hm (hs g (.inl rfl)), h.row.moves hm fun k hk => hs k (.inr (.inr hk)), h.map.same (hm.block mb h.map.lt (hs mb (.inr (.inl rfl)))), h.nd, h.hg, h.hm⟩
theorem RowAt.under {w w' : World} {base g mb : Nat} {v : Value} {l : List Nat} (h : RowAt w base g mb v l) (hb : Below w.heap.size w w') : RowAt w' base g mb v l := h.moves (S := fun _ => False) (Moves.under hb) fun _ _ h => h
theorem plc_none {l : List Nat} {x : Nat} : plc l x = none ↔ x ∉ l := by
  unfold plc
  rw [List.findIdx?_eq_none_iff]
  constructor
  · intro h hx
    have := h x hx
    simp at this
  · intro h y hy
    exact decide_eq_false fun e => h (e ▸ hy)
theorem below_of_drew {w w2 : World} (h : Below w.drew.heap.size w.drew w2) : Below w.heap.size w w2 := ⟨h.os, h.tape, h.output, h.size, h.block⟩
theorem place_any {w : World} {base g mb : Nat} {v : Value} {l : List Nat} (x : Nat) (h : RowAt w base g mb v l) :
    Calls Try.prog 40 #[.pointer (some ⟨g, 0, none⟩), .int .i64 (x : Int)] w fun e w' => e = .returned (.tuple #[.int .i64 (((plc l x).getD 0 : Nat) : Int), .bool (plc l x).isSome]) ∧ Below w.heap.size w w' := by
  have H := Lib.hid h
  have q1 : w.cell? ⟨g, 1, none⟩ = some (.map (some mb)) := h.box.at 1
  have hl := h.map.run_look (M := 85) Try.underlying85 x trivial
  change (Instr.lookup 85 (.map (some mb)) (.agg #[.int .i64 (x : Int), .bool false]) true).run Try.prog w = .ok (.tuple #[.int .i64 (((plc l x).getD 0 : Nat) : Int), .bool (plc l x).isSome]) w at hl
  obtain ⟨i, hi⟩ : ∃ i, (plc l x).getD 0 = i := ⟨_, rfl⟩
  obtain ⟨t, ht⟩ : ∃ t, (plc l x).isSome = t := ⟨_, rfl⟩
  have HL : Hid (∀ w', Below w.heap.size w w' → (Instr.lookup 85 (.map (some mb)) (.agg #[.int .i64 (x : Int), .bool false]) true).run Try.prog w' = .ok (.tuple #[.int .i64 (i : Int), .bool t]) w') := Lib.hid (fun w' hb => by
    have hl := (h.under hb).map.run_look (M := 85) Try.underlying85 x trivial
    change (Instr.lookup 85 (.map (some mb)) (.agg #[.int .i64 (x : Int), .bool false]) true).run Try.prog w' = .ok (.tuple #[.int .i64 (((plc l x).getD 0 : Nat) : Int), .bool (plc l x).isSome]) w' at hl
    rw [hi, ht] at hl
    exact hl)
  rw [hi, ht]
  clear hl hi ht h
  go_enter Try.func40, Try.ntmps40
  go_wp2_with fail
  go_region_with (go_at_call 60; with_reducible refine (keyof_any _ _).mono ?_; rintro e w2 ⟨rfl, hb2⟩; have hbw : Below w.heap.size w w2 := below_of_drew hb2; have HB2 := Lib.hid hbw; have q2 : w2.cell? ⟨g, 1, none⟩ = some (.map (some mb)) := cell_later hbw q1; have hl2 := HL.out w2 hbw)
  all_goals (go_wp2; go_ret2; exact ⟨rfl, HB2.out⟩)
theorem addL_snoc (l xs : List Nat) (x : Nat) : addL l (xs ++ [x]) = if x ∈ addL l xs then addL l xs else addL l xs ++ [x] := by
  unfold addL
  rw [List.foldl_append]
  rfl
theorem addL_len : ∀ (xs l : List Nat), (addL l xs).length ≤ l.length + xs.length
  | [], l => by simp [addL]
  | x :: xs, l => by
    unfold addL
    rw [List.foldl_cons]
    split
    · have := addL_len xs l; unfold addL at this; simp; omega
    · have := addL_len xs (l ++ [x]); unfold addL at this; simp at this ⊢; omega
set_option maxHeartbeats 4000000 in
theorem rowadd_any {w : World} {base g mb : Nat} {v xv : Value} {l xs : List Nat} (h : RowAt w base g mb v l) (hx : RdN w xv xs) (hxa : ∀ k, xv.ownBlock = some k → ¬ Rx g mb v k) (hxb : ∀ k, xv.ownBlock = some k → k < w.heap.size) (hlen : l.length + xs.length ≤ 1000000) (hbase : base ≤ w.heap.size) :
    Calls Try.prog 47 #[.pointer (some ⟨g, 0, none⟩), xv] w fun e w' => e = .returned (.tuple #[]) ∧ (∃ v', RowAt w' base g mb v' (addL l xs) ∧ ∀ k, v'.ownBlock = some k → v.ownBlock = some k ∨ w.heap.size ≤ k) ∧ Moves (Rx g mb v) w w' := by
  have HR := Lib.hid h
  have HX := Lib.hid hx
  have HXA := Lib.hid hxa
  have HXB := Lib.hid hxb
  obtain ⟨A, c, hxv, _⟩ := hx
  obtain ⟨n, hn⟩ : ∃ n, xs.length = n := ⟨_, rfl⟩
  rw [hn] at hxv
  have HN := Lib.hid hn
  have hnB : n ≤ 1000000 := by omega
  have HLL : Hid (l.length + n ≤ 1000000) := Lib.hid (by rw [← hn]; exact hlen)
  clear h hxa hxb hn hlen
  subst hxv
  go_enter Try.func47, Try.ntmps47
  go_wp2_with fail
  go_loopg [11] n (fun f iv wx => ∃ (k : Nat) (u : Value), k ≤ n ∧ n - k ≤ f ∧ iv = .int .i64 (k : Int) ∧ Hid (RowAt wx base g mb u (addL l (xs.take k))) ∧ Hid (∀ j, u.ownBlock = some j → v.ownBlock = some j ∨ w.heap.size ≤ j) ∧ Hid (Moves (Rx g mb v) w wx))
  case atStart => exact ⟨0, v, Nat.zero_le _, by omega, rfl, HR, Lib.hid (fun j hj => .inl hj), Lib.hid (Moves.refl _ _)⟩
  case round =>
    obtain ⟨k, u, hk, hf, rfl, HA, HU, HM⟩ := hrel
    have HXW : Hid (RdN wr (.slice A n c) xs) := Lib.hid (HX.out.moves HM.out HXA.out)
    by_cases hkn : k < n
    · have hkI : (k : Int) < (n : Int) := by omega
      obtain ⟨A', c', e, _, hcell⟩ := HXW.out
      injection e with e1 e2 e3
      subst e1
      obtain ⟨b, off, rfl, p0⟩ := hcell k (by rw [HN.out]; exact hkn)
      obtain ⟨x, hx⟩ : ∃ x, xs.getD k 0 = x := ⟨_, rfl⟩
      have HXK : Hid (xs.take (k + 1) = xs.take k ++ [x]) := Lib.hid (by rw [← hx]; exact take_snoc xs k (by rw [HN.out]; exact hkn))
      rw [hx] at p0
      clear hcell e2 e3 hx
      obtain ⟨m, hm⟩ : ∃ m, addL l (xs.take k) = m := ⟨_, rfl⟩
      have HML : Hid (m.length ≤ 1000000) := Lib.hid (by
        have h1 := addL_len (xs.take k) l
        rw [hm, List.length_take] at h1
        have := HLL.out
        have := HN.out
        omega)
      have HK1 : Hid (addL l (xs.take (k + 1)) = if x ∈ m then m else m ++ [x]) := Lib.hid (by rw [HXK.out, addL_snoc, hm])
      rw [hm] at HA
      clear hm HXK
      go_wp2_with fail
      refine (keyof_any _ _).mono ?_
      rintro e w2 ⟨rfl, hb2⟩
      have HB2 := Lib.hid hb2
      clear hb2
      go_upto_region 4 with fail
      obtain ⟨w3, hw3⟩ : ∃ W, w2.alloc (.cells #[.int .i64 (x : Int), .bool false] 112) = W := ⟨_, rfl⟩
      have hk3 : Blk w3 w2.heap.size 112 #[.int .i64 (x : Int), .bool false] := by rw [← hw3]; exact heap_alloc_new w2 _
      have HB3 : Hid (Below wr.heap.size wr w3) := Lib.hid (by rw [← hw3]; exact HB2.out.alloc HB2.out.size _)
      rw [hw3]
      obtain ⟨kb, hkb⟩ : ∃ q, w2.heap.size = q := ⟨_, rfl⟩
      rw [hkb] at hk3 ⊢
      clear hw3 hkb HB2
      have HA3 := Lib.hid (HA.out.under HB3.out)
      have c0 : w3.cell? ⟨kb, 0, none⟩ = some (.int .i64 (x : Int)) := hk3.at 0
      have c1 : w3.cell? ⟨kb, 1, none⟩ = some (.bool false) := hk3.at 1
      have q1 : w3.cell? ⟨g, 1, none⟩ = some (.map (some mb)) := HA3.out.box.at 1
      have hl3 : ∀ q, (Instr.lookup 85 (.map (some mb)) (.agg #[.int .i64 (x : Int), .bool false]) true).run Try.prog (w3.drewN q) = .ok (.tuple #[.int .i64 (((plc m x).getD 0 : Nat) : Int), .bool (plc m x).isSome]) (w3.drewN q) := fun q =>
        (HA3.out.under (below_drewn w3 q)).map.run_look (M := 85) Try.underlying85 x trivial
      have HK3 := Lib.hid hk3
      clear hk3
      by_cases hxm : x ∈ m
      · have hps : (plc m x).isSome = true := by
          rcases h : plc m x with _ | j
          · exact absurd hxm (plc_none.1 h)
          · rfl
        rw [hps] at hl3
        generalize (plc m x).getD 0 = pi at hl3
        clear hps
        as_aux_lemma =>
        go_wp2_with fail
        go_quiet (fail)
        obtain ⟨w4, hw4⟩ : ∃ W, w3.drewN nq = W := ⟨_, rfl⟩
        have HB4 : Hid (Below wr.heap.size wr w4) := Lib.hid (by rw [← hw4]; exact HB3.out.trans (Below.mono (below_drewn w3 nq) HB3.out.size))
        have HA4 : Hid (RowAt w4 base g mb u (addL l (xs.take (k + 1)))) := Lib.hid (by rw [HK1.out, if_pos hxm]; exact HA.out.under HB4.out)
        rw [hw4]
        clear hw4 hl3 hxm
        go_wp2_with fail
        go_roundg (n - (k + 1))
        case measure => omega
        case rel => exact ⟨k + 1, u, hkn, by omega, by go_num, HA4, HU, Lib.hid (HM.out.trans (Moves.under HB4.out))⟩
      · have hps := plc_none.2 hxm
        rw [hps] at hl3
        as_aux_lemma =>
        go_wp2_with fail
        go_quiet (fail)
        obtain ⟨w4, hw4⟩ : ∃ W, w3.drewN nq = W := ⟨_, rfl⟩
        have HB4 : Hid (Below wr.heap.size wr w4) := Lib.hid (by rw [← hw4]; exact HB3.out.trans (Below.mono (below_drewn w3 nq) HB3.out.size))
        have HA4 := Lib.hid (HA.out.under HB4.out)
        have d0 : w4.cell? ⟨kb, 0, none⟩ = some (.int .i64 (x : Int)) := by rw [← hw4]; exact c0
        have d1 : w4.cell? ⟨kb, 1, none⟩ = some (.bool false) := by rw [← hw4]; exact c1
        rw [hw4]
        clear hw4 hl3 c0 c1 q1 HK3 HB3 HA3
        obtain ⟨Au, cu, hu, _⟩ := HA4.out.row.parts
        obtain ⟨ml, hml⟩ : ∃ q, m.length = q := ⟨_, rfl⟩
        obtain ⟨w5, hst, hkm, hgr, hsz⟩ := (HA4.out.under (below_drewn w4 1)).map.run_store (M := 85) Try.underlying85 x trivial hps ml hml
        change (Instr.mapUpdate 85 (.map (some mb)) (.agg #[.int .i64 (x : Int), .bool false]) (.int .i64 (ml : Int))).run Try.prog w4.drew = .ok () w5 at hst
        rw [hml] at hu
        have r0 : w4.cell? ⟨g, 0, none⟩ = some u := HA4.out.box.at 0
        have r1 : w4.cell? ⟨g, 1, none⟩ = some (.map (some mb)) := HA4.out.box.at 1
        have hmlB : ml ≤ 1000000 := by rw [← hml]; exact HML.out
        obtain ⟨a1, a2, a3⟩ := HA4.out.apart
        have hM5 : Moves (fun j => j = mb) w4 w5 := (Moves.under (below_drewn w4 1)).trans ((Moves.grown hgr).wide fun j _ e => by injection e with e; exact e.symm)
        have HBX5 := Lib.hid (HA4.out.box.moves hM5 a1)
        have HO5 := Lib.hid (HA4.out.row.moves hM5 (fun j hj e => a3 (by rw [hj, e])))
        have HKM := Lib.hid hkm
        have HM5 := Lib.hid hM5
        have s0 : w5.cell? ⟨g, 0, none⟩ = some u := HBX5.out.at 0
        have HAP : Hid (g ≠ mb ∧ u.ownBlock ≠ some g ∧ u.ownBlock ≠ some mb) := Lib.hid ⟨a1, a2, a3⟩
        have hb5 : base ≤ w5.heap.size := by have h1 := HM.out.size; have h2 := HB4.out.size; have h3 := hM5.size; omega
        have HHM := Lib.hid (show m.length = ml from hml)
        have hg5 : g < w5.heap.size := HBX5.out.size
        have HMB5 : Hid (mb < w5.heap.size) := Lib.hid hkm.lt
        subst hu
        clear hml hkm hgr hsz hM5 a1 a2 a3
        go_wp2_with fail
        go_region
        all_goals (go_wp2_with (first
          | (at_builtin; refine wpList_append_intT 22 Try.underlying22 rfl _ _ rfl base (.slice Au ml cu) m w5.heap.size x rfl (HO5.out.under ((Below.refl _ _).alloc (Nat.le_refl _) _)) rfl (cell_new_int w5 _ _) (by rw [HHM.out]; omega) (by simp; omega) ?_; intro u6 w6 ho6 hg6 hat6
             obtain ⟨A6, c6, hu6, _⟩ := ho6.parts
             obtain ⟨m6, hm6⟩ : ∃ q, (m ++ [x]).length = q := ⟨_, rfl⟩
             rw [hm6] at hu6
             subst hu6
             have hM6 : Moves (fun j => (Value.slice Au ml cu).ownBlock = some j) w5 w6 := (Moves.under ((Below.refl _ w5).alloc (Nat.le_refl _) _)).trans (Moves.grown hg6)
             have HBX6 := Lib.hid (HBX5.out.moves hM6 HAP.out.2.1)
             have HM6 := Lib.hid hM6
             have HO6 := Lib.hid ho6
             have HAT : Hid (∀ j, (Value.slice A6 m6 c6).ownBlock = some j → (Value.slice Au ml cu).ownBlock = some j ∨ w5.heap.size ≤ j) := Lib.hid (fun j hj => by
               rcases hat6 with h1 | h1
               · exact .inl (by rw [← h1]; exact hj)
               · rw [h1] at hj
                 injection hj with hj
                 simp at hj
                 exact .inr (by omega))
             have t0 : w6.cell? ⟨g, 0, none⟩ = some (.slice Au ml cu) := HBX6.out.at 0
             have tf : w6.frozen? ⟨g, 0, none⟩ = false := HBX6.out.free 0
             clear ho6 hg6 hat6 hM6 hm6)
          | fail))
        all_goals (
          have hMS : Moves (fun j => j = g) w6 (w6.setCell ⟨g, 0, none⟩ (.slice A6 m6 c6)) := Moves.setCell w6 ⟨g, 0, none⟩ _
          have hA6 : (Value.slice A6 m6 c6).ownBlock ≠ some g := fun e => by
            rcases HAT.out g e with h1 | h1
            · exact HAP.out.2.1 h1
            · omega
          have HRA : Hid (RowAt (w6.setCell ⟨g, 0, none⟩ (.slice A6 m6 c6)) base g mb (.slice A6 m6 c6) (addL l (xs.take (k + 1)))) := Lib.hid (by
            rw [HK1.out, if_neg hxm]
            have hmb : ¬ mb = g := fun e => HAP.out.1 e.symm
            refine ⟨HBX6.out.set 0 _, HO6.out.moves hMS (fun j hj e => hA6 (by rw [hj, e])), (HKM.out.same (HM6.out.block mb HMB5.out HAP.out.2.2)).same (hMS.block mb (Nat.lt_of_lt_of_le HMB5.out HM6.out.size) hmb), ?_, HA.out.hg, HA.out.hm⟩
            rw [List.nodup_append]
            refine ⟨HA.out.nd, by simp, fun a ha b hb e => ?_⟩
            simp at hb
            subst hb
            subst e
            exact hxm ha)
          have HMF : Hid (Moves (Rx g mb v) w (w6.setCell ⟨g, 0, none⟩ (.slice A6 m6 c6))) := Lib.hid (by
            have hsz := HM.out.size
            have hsz4 := HB4.out.size
            have hsz5 := HM5.out.size
            refine (((HM.out.trans (Moves.under HB4.out)).then HM5.out (fun i _ e => .inr (.inl e))).then HM6.out (fun i hi e => ?_)).then hMS (fun i _ e => .inl e)
            rcases HU.out i e with h1 | h1
            · exact .inr (.inr h1)
            · omega)
          have HUF : Hid (∀ j, (Value.slice A6 m6 c6).ownBlock = some j → v.ownBlock = some j ∨ w.heap.size ≤ j) := Lib.hid (fun j hj => by
            have hsz := HM.out.size
            have hsz4 := HB4.out.size
            have hsz5 := HM5.out.size
            rcases HAT.out j hj with h1 | h1
            · exact HU.out j h1
            · exact .inr (by omega))
          clear hMS hA6
          go_roundg (n - (k + 1))
          case measure => omega
          case rel => exact ⟨k + 1, _, hkn, by omega, by go_num, HRA, HUF, HMF⟩)
    · obtain rfl : n = k := by omega
      have hkI : ¬ (n : Int) < (n : Int) := by omega
      have HE : Hid (addL l (xs.take n) = addL l xs) := Lib.hid (by rw [List.take_of_length_le (by rw [HN.out]; exact Nat.le_refl _)])
      rw [HE.out] at HA
      go_wp2_with fail
      go_end0
      exact ⟨rfl, ⟨u, HA.out, HU.out⟩, HM.out⟩
end Go.Proofs.Ytemliglhippdcaa

/- Package grph: what is ahead of a thing, asked of a function value. -/
namespace Go.Proofs.Ytemliglhippdcaa
set_option maxRecDepth 100000
open Go.ChangeShapes Go.WideShapes Go.ChangeAt Go.RowKit

theorem asked_idleS (w : World) : CallsD Try.prog 65 #[] .returning w fun e u' w' => e = .returned (.tuple #[]) ∧ u' = .returning ∧ w' = w := by
  refine callsD_of_wpS Try.func65 rfl fun c₀ cs hu => ?_
  apply wpS_region
  simp [wpOpsS, go_sem, recoverD, hu, Try.ntmps65]
  cases c₀
  simp_all [bodyPostS, results, Try.results65]
theorem ask_anyS (K : Nat) (cap : Array Value) (hK : ∀ args w, (callFunc K args).run Try.prog w = .ok (.enter K args) w) (x : List Nat) (w : World) (R : Value → World → Prop)
    (h : Calls Try.prog K (#[.string (str x)] ++ cap) w fun e w' => ∃ v, e = .returned v ∧ R v w') :
    Calls Try.prog 43 #[.func (.func K) #[] cap, .string (str x)] w fun e w' => ∃ v, e = .returned (.tuple #[v, .bool true]) ∧ R v w' := by
  have hmf : ∀ (fn : Fn) (first cap : Array Value) (w : World), (Instr.makeFunc fn first cap).run Try.prog w = .ok (.func fn first cap) w := fun _ _ _ _ => rfl
  go_enter_defers Try.func43, Try.ntmps43
  go_wp2
  refine h.mono ?_
  rintro e w1 ⟨v, rfl, hr⟩
  go_wp2
  refine leaves_cons (f := 65) (args := #[]) (by simp) (by simp [go_sem]) ?_
  refine (asked_idleS _).mono ?_
  rintro e u' w'' ⟨rfl, rfl, rfl⟩
  simp [Leaves, settle, results, Try.results43, go_sem]
  exact hr
end Go.Proofs.Ytemliglhippdcaa

/- Package grph: a row of places, each once, with where each stands. -/
namespace Go.Proofs.Ytemliglhippdcaa
set_option maxRecDepth 100000
open Go.ChangeShapes Go.WideShapes Go.ChangeAt Go.RowKit

/-- A slice of texts that reads as a list. -/
def RdS (w : World) (v : Value) (l : List (List Nat)) : Prop :=
  ∃ A c, v = .slice A l.length c ∧ l.length ≤ c ∧ ∀ k, k < l.length → ∃ b off, A = some ⟨b, off, none⟩ ∧ w.cell? ⟨b, off + k, none⟩ = some (.string (str (l.getD k [])))
theorem rdS_none (w : World) : RdS w (.slice none 0 0) [] := ⟨none, 0, rfl, Nat.le_refl _, fun k h => by simp at h⟩
theorem RdS.under {w w' : World} {v : Value} {l : List (List Nat)} (h : RdS w v l) (hb : Below w.heap.size w w') : RdS w' v l := by
  obtain ⟨A, c, h1, h2, h3⟩ := h
  refine ⟨A, c, h1, h2, fun k hk => ?_⟩
  obtain ⟨b, off, rfl, hc⟩ := h3 k hk
  exact ⟨b, off, rfl, cell_later hb hc⟩
theorem RdS.moves {S : Nat → Prop} {w w' : World} {v : Value} {l : List (List Nat)} (h : RdS w v l) (hm : Moves S w w') (hs : ∀ k, v.ownBlock = some k → ¬ S k) : RdS w' v l := by
  obtain ⟨A, c, rfl, h2, h3⟩ := h
  refine ⟨A, c, rfl, h2, fun k hk => ?_⟩
  obtain ⟨b, off, rfl, hc⟩ := h3 k hk
  refine ⟨b, off, rfl, ?_⟩
  rw [World.cell?_of_block (hm.block b (World.block_lt_of_cell? w _ hc) (hs b rfl))]
  exact hc
theorem OwnT.shapeS {w : World} {base : Nat} {v : Value} {L : List (List Nat)} (h : OwnT w base v L) : ∃ A c, v = .slice A L.length c ∧ L.length ≤ c := by
  rcases h.2 with ⟨rfl, h0⟩ | ⟨g, cap, cur, rfl, _, _, hn, _⟩
  · exact ⟨none, 0, by rw [h0], by omega⟩
  · exact ⟨_, _, rfl, hn⟩
theorem OwnT.open {w : World} {base : Nat} {v : Value} {l : List (List Nat)} (h : OwnT w base v l) {i : Nat} (hi : i < l.length) : ∃ g c, v = .slice (some ⟨g, 0, none⟩) l.length c ∧ l.length ≤ c ∧ base ≤ g ∧ g < w.heap.size ∧ (∀ k, k < l.length → w.cell? ⟨g, k, none⟩ = some (.string (str (l.getD k []))) ∧ w.frozen? ⟨g, k, none⟩ = false) := by
  obtain ⟨g, c, rfl, hb, hg⟩ := h.parts (fun e => by rw [e] at hi; simp at hi)
  refine ⟨g, c, rfl, ?_, hb, hg, fun k hk => ⟨h.cell hk, h.frozen k⟩⟩
  obtain ⟨A, c', e, hc⟩ := h.shapeS
  injection e with _ _ e
  omega
theorem OwnT.rdS {w : World} {base : Nat} {v : Value} {l : List (List Nat)} (h : OwnT w base v l) : RdS w v l := by
  obtain ⟨A, c, e, hc⟩ := h.shapeS
  refine ⟨A, c, e, hc, fun k hk => ?_⟩
  obtain ⟨g, c', e2, _, _, _, h2⟩ := h.open hk
  rw [e] at e2
  injection e2 with e2
  refine ⟨g, 0, e2, ?_⟩
  rw [Nat.zero_add]
  exact (h2 k hk).1
theorem OwnT.moves {S : Nat → Prop} {w w' : World} {base : Nat} {v : Value} {l : List (List Nat)} (h : OwnT w base v l) (hm : Moves S w w') (hs : ∀ k, v.ownBlock = some k → ¬ S k) : OwnT w' base v l := ownsRow_moves h hm hs
theorem ownT_not_blk {w : World} {base b : Nat} {t : TypeId} {cs : Array Value} {v : Value} {l : List (List Nat)} (ht : t ≠ 9) (h : Blk w b t cs) (ho : OwnT w base v l) : v.ownBlock ≠ some b := fun e => by
  rcases ho.2 with ⟨rfl, _⟩ | ⟨r, cap, cur, rfl, _, hh, _⟩
  · cases e
  · injection e with e
    change r = b at e
    subst e
    unfold Blk at h
    rw [hh] at h
    injection h with h
    injection h with _ h
    exact ht h.symm
theorem take_snocT (l : List (List Nat)) (k : Nat) (h : k < l.length) : l.take (k + 1) = l.take k ++ [l.getD k []] := by
  rw [List.take_add_one, List.getD_eq_getElem?_getD, List.getElem?_eq_getElem h]
  rfl
theorem run_append_text {w : World} {base : Nat} {T ty : TypeId} (hT : Try.prog.underlying T = some (.slice 9)) {v : Value} {l : List (List Nat)} (B : Nat) (n : List Nat) (c : Nat) (hown : OwnT w base v l) (hB : w.cell? ⟨B, 0, none⟩ = some (.string (str n)))
    (hlen : l.length ≤ 1099511627776) (hbase : base ≤ w.heap.size) : ∃ v' w', (Builtin.append_ #[T, T] ty #[v, .slice (some ⟨B, 0, none⟩) 1 c]).run Try.prog w = .ok v' w' ∧ OwnT w' base v' (l ++ [n]) ∧ w.grownBy w' v.ownBlock ∧ (v'.ownBlock = v.ownBlock ∨ v'.ownBlock = some w.heap.size) := by
  obtain ⟨i, hi, hz0, hz1, hz2⟩ := info_parts infoText
  obtain ⟨v', w', hr, ho, hg, _, hat⟩ := run_append_own_at (P := Try.prog) w base T ty 9 i (.string ⟨#[]⟩) 1 16 hT hi hz0 hz1 hz2 rfl (by decide) v l.length (rowT l) hown ⟨B, 0, none⟩ 1 c [.string (str n)] rfl
    (fun j u hu => by
      have hj : j = 0 := by
        rcases j with _ | j
        · rfl
        · simp at hu
      subst hj
      simp at hu
      subst hu
      rw [add_plain]
      exact hB) (fun u hu => by simp at hu; subst hu; rfl) (by unfold maxLen; omega) (by omega) hbase
  refine ⟨v', w', hr, ?_, hg, hat⟩
  unfold OwnT
  rw [List.length_append, show rowT (l ++ [n]) = rowT l ++ [.string (str n)] from List.map_append]
  exact ho
theorem wp_append_text {w : World} {o : Oper} {a : Act} {K : Act → World → Prop} {Q : Exit → Act → World → Prop} (T : TypeId) (hT : Try.prog.underlying T = some (.slice 9)) (s x : Operand)
    (ho : o.op = .call { callee := .builtin .append, args := #[s, x], argTypes := #[T, T] }) (base : Nat) (v : Value) (l : List (List Nat)) (B : Nat) (n : List Nat) (hs : a.eval s = v) (hown : OwnT w base v l) (hx : a.eval x = .slice (some ⟨B, 0, none⟩) 1 1) (hB : w.cell? ⟨B, 0, none⟩ = some (.string (str n)))
    (hlen : l.length ≤ 1099511627776) (hbase : base ≤ w.heap.size)
    (h : ∀ v' w', OwnT w' base v' (l ++ [n]) → w.grownBy w' v.ownBlock → (v'.ownBlock = v.ownBlock ∨ v'.ownBlock = some w.heap.size) → K (a.put o.dst v') w') : o.wp Try.prog a w K Q := by
  obtain ⟨v', w', hr, h2, h3, h4⟩ := run_append_text (ty := o.type) hT B n 1 hown hB hlen hbase
  unfold Oper.wp execOp
  simp only [ho, resolve, invoke, builtin, Sem.run_bind, Sem.run_pure, Result.andThen_ok, List.map_toArray, List.map_cons, List.map_nil, hs, hx, hr]
  exact h v' w' h2 h3 h4
theorem wpList_append_textT {w : World} {ops : Array Oper} {rest : List Oper} {o : Oper} {a : Act} {Q : Exit → Act → World → Prop} (T : TypeId) (hT : Try.prog.underlying T = some (.slice 9)) (hgd : o.guard = none) (s x : Operand)
    (ho : o.op = .call { callee := .builtin .append, args := #[s, x], argTypes := #[T, T] }) (base : Nat) (v : Value) (l : List (List Nat)) (B : Nat) (n : List Nat) (hs : a.eval s = v) (hown : OwnT w base v l) (hx : a.eval x = .slice (some ⟨B, 0, none⟩) 1 1) (hB : w.cell? ⟨B, 0, none⟩ = some (.string (str n)))
    (hlen : l.length ≤ 1099511627776) (hbase : base ≤ w.heap.size)
    (h : ∀ v' w', OwnT w' base v' (l ++ [n]) → w.grownBy w' v.ownBlock → (v'.ownBlock = v.ownBlock ∨ v'.ownBlock = some w.heap.size) → wpList Try.prog ops Q rest (a.put o.dst v') w') : wpList Try.prog ops Q (o :: rest) a w :=
  wpList_plain hgd fun _ hK => wp_append_text T hT s x ho base v l B n hs hown hx hB hlen hbase fun v' w' h1 h2 h3 => hK _ _ (h v' w' h1 h2 h3)
theorem cell_new_text (w : World) (n : List Nat) (e : TypeId) : (w.alloc (.cells #[.string (str n)] e)).cell? ⟨w.heap.size, 0, none⟩ = some (.string (str n)) := by
  have e1 : (w.alloc (.cells #[.string (str n)] e)).heap[w.heap.size]? = some (.cells #[.string (str n)] e) := heap_alloc_new w _
  unfold World.cell?
  rw [e1]
  rfl
theorem keyof_anyS (x : List Nat) (w : World) : Calls Try.prog 66 #[.string (str x)] w fun e w' => e = .returned (.agg #[.string (str x), .bool false]) ∧ Below w.heap.size w w' := by
  go_enter Try.func66, Try.ntmps66
  go_wp2
  refine bodyPost_ret (results_cell_row rfl _ _ w.heap.size _ _ _ _ (by rfl) (heap_alloc_new w _) Try.underlying123 rfl (by kernel_rfl)) rfl ?_
  exact ⟨rfl, (Below.refl _ _).alloc (Nat.le_refl _) _⟩
/-- Where x stands in l. -/
def plcS (l : List (List Nat)) (x : List Nat) : Option Nat := l.findIdx? fun y => decide (x = y)
/-- Those that are new, behind. -/
def addLS (l xs : List (List Nat)) : List (List Nat) := xs.foldl (fun acc x => if x ∈ acc then acc else acc ++ [x]) l
/-- A row of places, each once, at g; its things are v, its map is mb. -/
structure RowAtS (w : World) (base g mb : Nat) (v : Value) (l : List (List Nat)) : Prop where
  box : Blk w g 95 #[v, .map (some mb)]
  row : OwnT w base v l
  map : KeyMap kdS w mb l
  nd : l.Nodup
  hg : base ≤ g
  hm : base ≤ mb
/-- What is turned by a call on it. -/
def RxS (g mb : Nat) (v : Value) : Nat → Prop := fun k => k = g ∨ k = mb ∨ v.ownBlock = some k
theorem RowAtS.apart {w : World} {base g mb : Nat} {v : Value} {l : List (List Nat)} (h : RowAtS w base g mb v l) : g ≠ mb ∧ v.ownBlock ≠ some g ∧ v.ownBlock ≠ some mb := by
  obtain ⟨es, c, h1, _⟩ := h.map
  refine ⟨fun e => ?_, ownT_not_blk (by decide) h.box h.row, fun e => ?_⟩
  · subst e
    have := h.box
    unfold Blk at this
    rw [h1] at this
    injection this with this
    cases this
  · rcases h.row.2 with ⟨rfl, _⟩ | ⟨r, cap, cur, rfl, _, hh, _⟩
    · cases e
    · injection e with e
      change r = mb at e
      subst e
      rw [hh] at h1
      injection h1 with h1
      cases h1
theorem RowAtS.moves {S : Nat → Prop} {w w' : World} {base g mb : Nat} {v : Value} {l : List (List Nat)} (h : RowAtS w base g mb v l) (hm : Moves S w w') (hs : ∀ k, RxS g mb v k → ¬ S k) : RowAtS w' base g mb v l :=
  ⟨h.box.moves hm (hs g (.inl rfl)), h.row.moves hm fun k hk => hs k (.inr (.inr hk)), h.map.same (hm.block mb h.map.lt (hs mb (.inr (.inl rfl)))), h.nd, h.hg, h.hm⟩
theorem RowAtS.under {w w' : World} {base g mb : Nat} {v : Value} {l : List (List Nat)} (h : RowAtS w base g mb v l) (hb : Below w.heap.size w w') : RowAtS w' base g mb v l := h.moves (S := fun _ => False) (Moves.under hb) fun _ _ h => h
theorem plc_noneS {l : List (List Nat)} {x : List Nat} : plcS l x = none ↔ x ∉ l := by
  unfold plcS
  rw [List.findIdx?_eq_none_iff]
  constructor
  · intro h hx
    have := h x hx
    simp at this
  · intro h y hy
    exact decide_eq_false fun e => h (e ▸ hy)
theorem place_anyS {w : World} {base g mb : Nat} {v : Value} {l : List (List Nat)} (x : List Nat) (hxo : ∀ c ∈ x, c < 256) (h : RowAtS w base g mb v l) :
    Calls Try.prog 44 #[.pointer (some ⟨g, 0, none⟩), .string (str x)] w fun e w' => e = .returned (.tuple #[.int .i64 (((plcS l x).getD 0 : Nat) : Int), .bool (plcS l x).isSome]) ∧ Below w.heap.size w w' := by
  have H := Lib.hid h
  have q1 : w.cell? ⟨g, 1, none⟩ = some (.map (some mb)) := h.box.at 1
  have hl := h.map.run_look (M := 93) Try.underlying93 x hxo
  change (Instr.lookup 93 (.map (some mb)) (.agg #[.string (str x), .bool false]) true).run Try.prog w = .ok (.tuple #[.int .i64 (((plcS l x).getD 0 : Nat) : Int), .bool (plcS l x).isSome]) w at hl
  obtain ⟨i, hi⟩ : ∃ i, (plcS l x).getD 0 = i := ⟨_, rfl⟩
  obtain ⟨t, ht⟩ : ∃ t, (plcS l x).isSome = t := ⟨_, rfl⟩
  have HL : Hid (∀ w', Below w.heap.size w w' → (Instr.lookup 93 (.map (some mb)) (.agg #[.string (str x), .bool false]) true).run Try.prog w' = .ok (.tuple #[.int .i64 (i : Int), .bool t]) w') := Lib.hid (fun w' hb => by
    have hl := (h.under hb).map.run_look (M := 93) Try.underlying93 x hxo
    change (Instr.lookup 93 (.map (some mb)) (.agg #[.string (str x), .bool false]) true).run Try.prog w' = .ok (.tuple #[.int .i64 (((plcS l x).getD 0 : Nat) : Int), .bool (plcS l x).isSome]) w' at hl
    rw [hi, ht] at hl
    exact hl)
  rw [hi, ht]
  clear hl hi ht h
  go_enter Try.func44, Try.ntmps44
  go_wp2_with fail
  go_region_with (go_at_call 66; with_reducible refine (keyof_anyS _ _).mono ?_; rintro e w2 ⟨rfl, hb2⟩; have hbw : Below w.heap.size w w2 := below_of_drew hb2; have HB2 := Lib.hid hbw; have q2 : w2.cell? ⟨g, 1, none⟩ = some (.map (some mb)) := cell_later hbw q1; have hl2 := HL.out w2 hbw)
  all_goals (go_wp2; go_ret2; exact ⟨rfl, HB2.out⟩)
theorem addL_snocS (l xs : List (List Nat)) (x : List Nat) : addLS l (xs ++ [x]) = if x ∈ addLS l xs then addLS l xs else addLS l xs ++ [x] := by
  unfold addLS
  rw [List.foldl_append]
  rfl
theorem addL_lenS : ∀ (xs l : List (List Nat)), (addLS l xs).length ≤ l.length + xs.length
  | [], l => by simp [addLS]
  | x :: xs, l => by
    unfold addLS
    rw [List.foldl_cons]
    split
    · have := addL_lenS xs l; unfold addLS at this; simp; omega
    · have := addL_lenS xs (l ++ [x]); unfold addLS at this; simp at this ⊢; omega
set_option maxHeartbeats 4000000 in
theorem rowadd_anyS {w : World} {base g mb : Nat} {v xv : Value} {l xs : List (List Nat)} (h : RowAtS w base g mb v l) (hx : RdS w xv xs) (hxo : ∀ t ∈ xs, ∀ c ∈ t, c < 256) (hxa : ∀ k, xv.ownBlock = some k → ¬ RxS g mb v k) (hxb : ∀ k, xv.ownBlock = some k → k < w.heap.size) (hlen : l.length + xs.length ≤ 1000000) (hbase : base ≤ w.heap.size) :
    Calls Try.prog 64 #[.pointer (some ⟨g, 0, none⟩), xv] w fun e w' => e = .returned (.tuple #[]) ∧ (∃ v', RowAtS w' base g mb v' (addLS l xs) ∧ ∀ k, v'.ownBlock = some k → v.ownBlock = some k ∨ w.heap.size ≤ k) ∧ Moves (RxS g mb v) w w' := by
  have HR := Lib.hid h
  have HXO := Lib.hid hxo
  have HX := Lib.hid hx
  have HXA := Lib.hid hxa
  have HXB := Lib.hid hxb
  obtain ⟨A, c, hxv, _⟩ := hx
  obtain ⟨n, hn⟩ : ∃ n, xs.length = n := ⟨_, rfl⟩
  rw [hn] at hxv
  have HN := Lib.hid hn
  have hnB : n ≤ 1000000 := by omega
  have HLL : Hid (l.length + n ≤ 1000000) := Lib.hid (by rw [← hn]; exact hlen)
  clear h hxo hxa hxb hn hlen
  subst hxv
  go_enter Try.func64, Try.ntmps64
  go_wp2_with fail
  go_loopg [11] n (fun f iv wx => ∃ (k : Nat) (u : Value), k ≤ n ∧ n - k ≤ f ∧ iv = .int .i64 (k : Int) ∧ Hid (RowAtS wx base g mb u (addLS l (xs.take k))) ∧ Hid (∀ j, u.ownBlock = some j → v.ownBlock = some j ∨ w.heap.size ≤ j) ∧ Hid (Moves (RxS g mb v) w wx))
  case atStart => exact ⟨0, v, Nat.zero_le _, by omega, rfl, HR, Lib.hid (fun j hj => .inl hj), Lib.hid (Moves.refl _ _)⟩
  case round =>
    obtain ⟨k, u, hk, hf, rfl, HA, HU, HM⟩ := hrel
    have HXW : Hid (RdS wr (.slice A n c) xs) := Lib.hid (HX.out.moves HM.out HXA.out)
    by_cases hkn : k < n
    · have hkI : (k : Int) < (n : Int) := by omega
      obtain ⟨A', c', e, _, hcell⟩ := HXW.out
      injection e with e1 e2 e3
      subst e1
      obtain ⟨b, off, rfl, p0⟩ := hcell k (by rw [HN.out]; exact hkn)
      obtain ⟨x, hx⟩ : ∃ x, xs.getD k [] = x := ⟨_, rfl⟩
      have HXK : Hid (xs.take (k + 1) = xs.take k ++ [x]) := Lib.hid (by rw [← hx]; exact take_snocT xs k (by rw [HN.out]; exact hkn))
      rw [hx] at p0
      have hxo : ∀ c ∈ x, c < 256 := HXO.out x (by
        rw [← hx, List.getD_eq_getElem?_getD, List.getElem?_eq_getElem (by rw [HN.out]; exact hkn)]
        exact List.getElem_mem _)
      have HXO2 := Lib.hid hxo
      clear hxo
      clear hcell e2 e3 hx
      obtain ⟨m, hm⟩ : ∃ m, addLS l (xs.take k) = m := ⟨_, rfl⟩
      have HML : Hid (m.length ≤ 1000000) := Lib.hid (by
        have h1 := addL_lenS (xs.take k) l
        rw [hm, List.length_take] at h1
        have := HLL.out
        have := HN.out
        omega)
      have HK1 : Hid (addLS l (xs.take (k + 1)) = if x ∈ m then m else m ++ [x]) := Lib.hid (by rw [HXK.out, addL_snocS, hm])
      rw [hm] at HA
      clear hm HXK
      go_wp2_with fail
      refine (keyof_anyS _ _).mono ?_
      rintro e w2 ⟨rfl, hb2⟩
      have HB2 := Lib.hid hb2
      clear hb2
      go_upto_region 4 with fail
      obtain ⟨w3, hw3⟩ : ∃ W, w2.alloc (.cells #[.string (str x), .bool false] 123) = W := ⟨_, rfl⟩
      have hk3 : Blk w3 w2.heap.size 123 #[.string (str x), .bool false] := by rw [← hw3]; exact heap_alloc_new w2 _
      have HB3 : Hid (Below wr.heap.size wr w3) := Lib.hid (by rw [← hw3]; exact HB2.out.alloc HB2.out.size _)
      rw [hw3]
      obtain ⟨kb, hkb⟩ : ∃ q, w2.heap.size = q := ⟨_, rfl⟩
      rw [hkb] at hk3 ⊢
      clear hw3 hkb HB2
      have HA3 := Lib.hid (HA.out.under HB3.out)
      have c0 : w3.cell? ⟨kb, 0, none⟩ = some (.string (str x)) := hk3.at 0
      have c1 : w3.cell? ⟨kb, 1, none⟩ = some (.bool false) := hk3.at 1
      have q1 : w3.cell? ⟨g, 1, none⟩ = some (.map (some mb)) := HA3.out.box.at 1
      have hl3 : ∀ q, (Instr.lookup 93 (.map (some mb)) (.agg #[.string (str x), .bool false]) true).run Try.prog (w3.drewN q) = .ok (.tuple #[.int .i64 (((plcS m x).getD 0 : Nat) : Int), .bool (plcS m x).isSome]) (w3.drewN q) := fun q =>
        (HA3.out.under (below_drewn w3 q)).map.run_look (M := 93) Try.underlying93 x HXO2.out
      have HK3 := Lib.hid hk3
      clear hk3
      by_cases hxm : x ∈ m
      · have hps : (plcS m x).isSome = true := by
          rcases h : plcS m x with _ | j
          · exact absurd hxm (plc_noneS.1 h)
          · rfl
        rw [hps] at hl3
        generalize (plcS m x).getD 0 = pi at hl3
        clear hps
        as_aux_lemma =>
        go_wp2_with fail
        go_quiet (fail)
        obtain ⟨w4, hw4⟩ : ∃ W, w3.drewN nq = W := ⟨_, rfl⟩
        have HB4 : Hid (Below wr.heap.size wr w4) := Lib.hid (by rw [← hw4]; exact HB3.out.trans (Below.mono (below_drewn w3 nq) HB3.out.size))
        have HA4 : Hid (RowAtS w4 base g mb u (addLS l (xs.take (k + 1)))) := Lib.hid (by rw [HK1.out, if_pos hxm]; exact HA.out.under HB4.out)
        rw [hw4]
        clear hw4 hl3 hxm
        go_wp2_with fail
        go_roundg (n - (k + 1))
        case measure => omega
        case rel => exact ⟨k + 1, u, hkn, by omega, by go_num, HA4, HU, Lib.hid (HM.out.trans (Moves.under HB4.out))⟩
      · have hps := plc_noneS.2 hxm
        rw [hps] at hl3
        as_aux_lemma =>
        go_wp2_with fail
        go_quiet (fail)
        obtain ⟨w4, hw4⟩ : ∃ W, w3.drewN nq = W := ⟨_, rfl⟩
        have HB4 : Hid (Below wr.heap.size wr w4) := Lib.hid (by rw [← hw4]; exact HB3.out.trans (Below.mono (below_drewn w3 nq) HB3.out.size))
        have HA4 := Lib.hid (HA.out.under HB4.out)
        have d0 : w4.cell? ⟨kb, 0, none⟩ = some (.string (str x)) := by rw [← hw4]; exact c0
        have d1 : w4.cell? ⟨kb, 1, none⟩ = some (.bool false) := by rw [← hw4]; exact c1
        rw [hw4]
        clear hw4 hl3 c0 c1 q1 HK3 HB3 HA3
        obtain ⟨Au, cu, hu, _⟩ := HA4.out.row.shapeS
        obtain ⟨ml, hml⟩ : ∃ q, m.length = q := ⟨_, rfl⟩
        obtain ⟨w5, hst, hkm, hgr, hsz⟩ := (HA4.out.under (below_drewn w4 1)).map.run_store (M := 93) Try.underlying93 x HXO2.out hps ml hml
        change (Instr.mapUpdate 93 (.map (some mb)) (.agg #[.string (str x), .bool false]) (.int .i64 (ml : Int))).run Try.prog w4.drew = .ok () w5 at hst
        rw [hml] at hu
        have r0 : w4.cell? ⟨g, 0, none⟩ = some u := HA4.out.box.at 0
        have r1 : w4.cell? ⟨g, 1, none⟩ = some (.map (some mb)) := HA4.out.box.at 1
        have hmlB : ml ≤ 1000000 := by rw [← hml]; exact HML.out
        obtain ⟨a1, a2, a3⟩ := HA4.out.apart
        have hM5 : Moves (fun j => j = mb) w4 w5 := (Moves.under (below_drewn w4 1)).trans ((Moves.grown hgr).wide fun j _ e => by injection e with e; exact e.symm)
        have HBX5 := Lib.hid (HA4.out.box.moves hM5 a1)
        have HO5 := Lib.hid (HA4.out.row.moves hM5 (fun j hj e => a3 (by rw [hj, e])))
        have HKM := Lib.hid hkm
        have HM5 := Lib.hid hM5
        have s0 : w5.cell? ⟨g, 0, none⟩ = some u := HBX5.out.at 0
        have HAP : Hid (g ≠ mb ∧ u.ownBlock ≠ some g ∧ u.ownBlock ≠ some mb) := Lib.hid ⟨a1, a2, a3⟩
        have hb5 : base ≤ w5.heap.size := by have h1 := HM.out.size; have h2 := HB4.out.size; have h3 := hM5.size; omega
        have HHM := Lib.hid (show m.length = ml from hml)
        have hg5 : g < w5.heap.size := HBX5.out.size
        have HMB5 : Hid (mb < w5.heap.size) := Lib.hid hkm.lt
        subst hu
        clear hml hkm hgr hsz hM5 a1 a2 a3
        go_wp2_with fail
        go_region
        all_goals (go_wp2_with (first
          | (at_builtin; refine wpList_append_textT 24 Try.underlying24 rfl _ _ rfl base (.slice Au ml cu) m w5.heap.size x rfl (HO5.out.under ((Below.refl _ _).alloc (Nat.le_refl _) _)) rfl (cell_new_text w5 _ _) (by rw [HHM.out]; omega) (by simp; omega) ?_; intro u6 w6 ho6 hg6 hat6
             obtain ⟨A6, c6, hu6, _⟩ := ho6.shapeS
             obtain ⟨m6, hm6⟩ : ∃ q, (m ++ [x]).length = q := ⟨_, rfl⟩
             rw [hm6] at hu6
             subst hu6
             have hM6 : Moves (fun j => (Value.slice Au ml cu).ownBlock = some j) w5 w6 := (Moves.under ((Below.refl _ w5).alloc (Nat.le_refl _) _)).trans (Moves.grown hg6)
             have HBX6 := Lib.hid (HBX5.out.moves hM6 HAP.out.2.1)
             have HM6 := Lib.hid hM6
             have HO6 := Lib.hid ho6
             have HAT : Hid (∀ j, (Value.slice A6 m6 c6).ownBlock = some j → (Value.slice Au ml cu).ownBlock = some j ∨ w5.heap.size ≤ j) := Lib.hid (fun j hj => by
               rcases hat6 with h1 | h1
               · exact .inl (by rw [← h1]; exact hj)
               · rw [h1] at hj
                 injection hj with hj
                 simp at hj
                 exact .inr (by omega))
             have t0 : w6.cell? ⟨g, 0, none⟩ = some (.slice Au ml cu) := HBX6.out.at 0
             have tf : w6.frozen? ⟨g, 0, none⟩ = false := HBX6.out.free 0
             clear ho6 hg6 hat6 hM6 hm6)
          | fail))
        all_goals (
          have hMS : Moves (fun j => j = g) w6 (w6.setCell ⟨g, 0, none⟩ (.slice A6 m6 c6)) := Moves.setCell w6 ⟨g, 0, none⟩ _
          have hA6 : (Value.slice A6 m6 c6).ownBlock ≠ some g := fun e => by
            rcases HAT.out g e with h1 | h1
            · exact HAP.out.2.1 h1
            · omega
          have HRA : Hid (RowAtS (w6.setCell ⟨g, 0, none⟩ (.slice A6 m6 c6)) base g mb (.slice A6 m6 c6) (addLS l (xs.take (k + 1)))) := Lib.hid (by
            rw [HK1.out, if_neg hxm]
            have hmb : ¬ mb = g := fun e => HAP.out.1 e.symm
            refine ⟨HBX6.out.set 0 _, HO6.out.moves hMS (fun j hj e => hA6 (by rw [hj, e])), (HKM.out.same (HM6.out.block mb HMB5.out HAP.out.2.2)).same (hMS.block mb (Nat.lt_of_lt_of_le HMB5.out HM6.out.size) hmb), ?_, HA.out.hg, HA.out.hm⟩
            rw [List.nodup_append]
            refine ⟨HA.out.nd, by simp, fun a ha b hb e => ?_⟩
            simp at hb
            subst hb
            subst e
            exact hxm ha)
          have HMF : Hid (Moves (RxS g mb v) w (w6.setCell ⟨g, 0, none⟩ (.slice A6 m6 c6))) := Lib.hid (by
            have hsz := HM.out.size
            have hsz4 := HB4.out.size
            have hsz5 := HM5.out.size
            refine (((HM.out.trans (Moves.under HB4.out)).then HM5.out (fun i _ e => .inr (.inl e))).then HM6.out (fun i hi e => ?_)).then hMS (fun i _ e => .inl e)
            rcases HU.out i e with h1 | h1
            · exact .inr (.inr h1)
            · omega)
          have HUF : Hid (∀ j, (Value.slice A6 m6 c6).ownBlock = some j → v.ownBlock = some j ∨ w.heap.size ≤ j) := Lib.hid (fun j hj => by
            have hsz := HM.out.size
            have hsz4 := HB4.out.size
            have hsz5 := HM5.out.size
            rcases HAT.out j hj with h1 | h1
            · exact HU.out j h1
            · exact .inr (by omega))
          clear hMS hA6
          go_roundg (n - (k + 1))
          case measure => omega
          case rel => exact ⟨k + 1, _, hkn, by omega, by go_num, HRA, HUF, HMF⟩)
    · obtain rfl : n = k := by omega
      have hkI : ¬ (n : Int) < (n : Int) := by omega
      have HE : Hid (addLS l (xs.take n) = addLS l xs) := Lib.hid (by rw [List.take_of_length_le (by rw [HN.out]; exact Nat.le_refl _)])
      rw [HE.out] at HA
      go_wp2_with fail
      go_end0
      exact ⟨rfl, ⟨u, HA.out, HU.out⟩, HM.out⟩
end Go.Proofs.Ytemliglhippdcaa

/- Package grph: things in an order in which each stands behind those that are ahead of it. -/
namespace Go.Proofs.Ytemliglhippdcaa
set_option maxRecDepth 100000
open Go.ChangeShapes Go.WideShapes Go.ChangeAt Go.RowKit

/-- A function value that tells what is ahead of a thing: f, for the things of D, at each world behind w0. -/
structure AheadN (w0 : World) (K : Nat) (cap : Array Value) (f : Nat → List Nat) (D : Nat → Prop) : Prop where
  enter : ∀ args w, (callFunc K args).run Try.prog w = .ok (.enter K args) w
  call : ∀ x w, D x → Below w0.heap.size w0 w → Calls Try.prog K (#[.int .i64 (x : Int)] ++ cap) w fun e w' => ∃ v, e = .returned v ∧ (RdN w' v (f x) ∧ (∀ k, v.ownBlock = some k → k < w0.heap.size ∨ (w.heap.size ≤ k ∧ k < w'.heap.size)) ∧ Below w.heap.size w w')
/-- The places in T that are ahead of place i. -/
def Pf (T : List Nat) (f : Nat → List Nat) (i : Nat) : List Nat := if i < T.length then (f (T.getD i 0)).filterMap (plc T) else []
theorem plc_lt {T : List Nat} {x a : Nat} (h : plc T x = some a) : a < T.length := by
  unfold plc at h
  rw [List.findIdx?_eq_some_iff_getElem] at h
  exact h.1
theorem pf_lt (T : List Nat) (f : Nat → List Nat) (i : Nat) : ∀ a ∈ Pf T f i, a < T.length := by
  intro a ha
  unfold Pf at ha
  split at ha
  · obtain ⟨x, _, h⟩ := List.mem_filterMap.1 ha
    exact plc_lt h
  · simp at ha
theorem pf_len (T : List Nat) (f : Nat → List Nat) (B : Nat) (hB : ∀ x ∈ T, (f x).length ≤ B) (i : Nat) : (Pf T f i).length ≤ B := by
  unfold Pf
  split
  · rename_i h
    refine Nat.le_trans (List.length_filterMap_le _ _) (hB _ ?_)
    rw [List.getD_eq_getElem?_getD, List.getElem?_eq_getElem h]
    exact List.getElem_mem _
  · simp

theorem rowof_any {w : World} {xv : Value} {xs : List Nat} (hx : RdN w xv xs) (hxb : ∀ k, xv.ownBlock = some k → k < w.heap.size) (hlen : xs.length ≤ 1000000) :
    Calls Try.prog 38 #[xv] w fun e w' => ∃ g mb v, e = .returned (.pointer (some ⟨g, 0, none⟩)) ∧ RowAt w' w.heap.size g mb v (addL [] xs) ∧ Below w.heap.size w w' := by
  have hmm := @run_makeMap Try.prog
  have HB2 : Hid (Below w.heap.size w ((w.alloc (.map #[] 0)).alloc (.cells #[.slice none 0 0, .map (some w.heap.size)] 87))) := Lib.hid (((Below.refl _ _).alloc (Nat.le_refl _) _).alloc (by simp) _)
  have HR2 : Hid (RowAt ((w.alloc (.map #[] 0)).alloc (.cells #[.slice none 0 0, .map (some w.heap.size)] 87)) w.heap.size (w.heap.size + 1) w.heap.size (.slice none 0 0) []) := Lib.hid (by
    refine ⟨?_, ownI_none _ _, ?_, by simp, by omega, Nat.le_refl _⟩
    · have h1 := heap_alloc_new (w.alloc (.map #[] 0)) (.cells #[.slice none 0 0, .map (some w.heap.size)] 87)
      rw [World.size_alloc] at h1
      exact h1
    · exact (keyMap_made kdN w).same (Below.heap_alloc _ _ _ (by simp)))
  have HX := Lib.hid hx
  have HXB := Lib.hid hxb
  clear hx hxb
  go_enter Try.func38, Try.ntmps38
  go_wp2_with fail
  refine (rowadd_any HR2.out (HX.out.under HB2.out) (fun k hk e => by
    have h1 := HXB.out k hk
    rcases e with e | e | e
    · omega
    · omega
    · cases e) (fun k hk => by have := HXB.out k hk; simp; omega) (by simpa using hlen) HB2.out.size).mono ?_
  rintro e w3 ⟨rfl, ⟨v, h3, _⟩, hm3⟩
  have HB3 : Hid (Below w.heap.size w w3) := Lib.hid (HB2.out.trans (hm3.below HB2.out.size (fun k e => by
    rcases e with e | e | e
    · omega
    · omega
    · cases e)))
  clear hm3
  go_wp2
  go_ret
  exact ⟨_, _, v, rfl, h3, HB3.out⟩

/-- The blocks of such rows. -/
def Bk (b : Nat) (u : Value) (vs : List Value) (N : Nat) : Nat → Prop := fun k => k = b ∨ u.ownBlock = some k ∨ ∃ i, i < N ∧ (vs.getD i undef).ownBlock = some k
theorem infoSlI : (Try.prog.info? 22).map (fun i => (i.zero, i.size, i.bytes)) = some (some (.slice none 0 0), 1, 24) := by kernel_rfl
theorem made_slices (N : Nat) : madeCells #[.slice none 0 0] N = (List.replicate N (Value.slice none 0 0)).toArray := by
  apply Array.toList_inj.1
  rw [toList_madeCells_one]
theorem made_ints (N : Nat) : madeCells #[.int .i64 0] N = ((List.replicate N 0).map fun n : Nat => Value.int .i64 (n : Int)).toArray := by
  apply Array.toList_inj.1
  rw [toList_madeCells_one, List.map_replicate]
  rfl
theorem getD_replicate {α : Type} (N i : Nat) (x d : α) (hi : i < N) : (List.replicate N x).getD i d = x := by
  rw [List.getD_eq_getElem?_getD, List.getElem?_replicate, if_pos hi]
  rfl
theorem bins_made (w : World) (N : Nat) (hN : N ≤ 1000000) : Bins ((w.alloc (.cells (madeCells #[.slice none 0 0] N) 22)).alloc (.cells (madeCells #[.int .i64 0] N) 3)) w.heap.size w.heap.size (.slice (some ⟨w.heap.size + 1, 0, none⟩) N N) (List.replicate N (.slice none 0 0)) (List.replicate N []) (List.replicate N 0) N := by
  rw [made_slices, made_ints]
  refine ⟨?_, by simp, by simp, fun i hi => ?_, fun i j hi hj _ k hk => ?_, ?_, by simp, fun i hi k hk => ?_⟩
  · exact Blk.alloc (heap_alloc_new w _) _
  · rw [getD_replicate _ _ _ _ hi, getD_replicate _ _ _ _ hi]
    exact ownI_none _ _
  · rw [getD_replicate _ _ _ _ hi] at hk
    cases hk
  · have h1 := heap_alloc_new (w.alloc (.cells (List.replicate N (Value.slice none 0 0)).toArray 22)) (.cells ((List.replicate N 0).map fun n : Nat => Value.int .i64 (n : Int)).toArray 3)
    rw [World.size_alloc] at h1
    refine ⟨by simp [rowI], .inr ⟨w.heap.size + 1, N, _, by simp, by omega, h1, by simp, by unfold maxLen; omega, by simp, by simp [rowI]⟩⟩
  · rw [getD_replicate _ _ _ _ hi] at hk
    cases hk
theorem getD_setV (vs : List Value) (a j : Nat) (v : Value) (ha : a < vs.length) : (vs.set a v).getD j undef = if j = a then v else vs.getD j undef := by
  simp only [List.getD_eq_getElem?_getD, List.getElem?_set]
  by_cases h : j = a
  · subst h; simp [ha]
  · have h' : ¬ a = j := fun e => h e.symm
    simp [h, h']
theorem Bins.app {w w' : World} {base b N a i : Nat} {u v' : Value} {vs : List Value} {Ls : List (List Nat)} {W : List Nat} (h : Bins w base b u vs Ls W N) (ha : a < N) (ho : OwnI w' base v' (Ls.getD a [] ++ [i]))
    (hm : Moves (fun k => (vs.getD a undef).ownBlock = some k) w w') (hat : ∀ k, v'.ownBlock = some k → (vs.getD a undef).ownBlock = some k ∨ w.heap.size ≤ k) :
    Bins (w'.setCell ⟨b, a, none⟩ v') base b u (vs.set a v') (Gr.add1 i Ls a) W N ∧ Moves (Bk b u vs N) w (w'.setCell ⟨b, a, none⟩ v') := by
  have hal : a < vs.length := by rw [h.vl]; exact ha
  have hMS := Moves.setCell w' ⟨b, a, none⟩ v'
  have hnb : (vs.getD a undef).ownBlock ≠ some b := own_not_blk (by decide) h.row (h.own a ha)
  have hM2 : Moves (Bk b u vs N) w (w'.setCell ⟨b, a, none⟩ v') := (hm.wide (T := Bk b u vs N) fun k _ e => .inr (.inr ⟨a, ha, e⟩)).then hMS fun k _ e => .inl e
  have hrow : Blk w' b 22 vs.toArray := h.row.moves hm hnb
  have hgv := fun j => getD_setV vs a j v' hal
  have hbs := h.row.size
  have hvb : ∀ k, v'.ownBlock = some k → ¬ k = b := fun k hk e => by
    subst e
    rcases hat k hk with h1 | h1
    · exact hnb h1
    · omega
  have hown : ∀ j, j < N → j ≠ a → OwnI (w'.setCell ⟨b, a, none⟩ v') base (vs.getD j undef) (Ls.getD j []) := fun j hj hja =>
    ((h.own j hj).moves hm (fun k hk e => h.apt j a hj ha hja k hk e)).moves hMS fun k hk e => own_not_blk (by decide) h.row (h.own j hj) (by rw [hk, e])
  have hlt : ∀ j, j < N → ∀ k, (vs.getD j undef).ownBlock = some k → k < w.heap.size := fun j hj k hk => ((h.own j hj).lt k hk).2
  refine ⟨⟨?_, by rw [List.length_set]; exact h.vl, by rw [Gr.add1_len]; exact h.ll, fun j hj => ?_, fun j k hj hk hjk q hq => ?_, ?_, h.wl, fun j hj q hq => ?_⟩, hM2⟩
  · have h1 := hrow.set a v'
    rwa [List.setIfInBounds_toArray] at h1
  · rw [hgv]
    unfold Gr.add1
    rw [Gr.setL_get Ls a j _ (by rw [h.ll]; exact ha)]
    by_cases e : j = a
    · rw [if_pos e, if_pos e]
      exact ho.moves hMS fun k hk e => hvb k hk e
    · rw [if_neg e, if_neg e]
      exact hown j hj e
  · rw [hgv] at hq
    rw [hgv]
    by_cases e : j = a
    · rw [if_pos e] at hq
      rw [if_neg (fun e2 => hjk (e.trans e2.symm))]
      rcases hat q hq with h1 | h1
      · exact h.apt a k ha hk (fun e2 => hjk (e.trans e2)) q h1
      · intro h2
        have := hlt k hk q h2
        omega
    · rw [if_neg e] at hq
      by_cases e2 : k = a
      · rw [if_pos e2]
        intro h2
        rcases hat q h2 with h1 | h1
        · exact h.apt j a hj ha e q hq h1
        · have := hlt j hj q hq
          omega
      · rw [if_neg e2]
        exact h.apt j k hj hk hjk q hq
  · exact (h.wt.moves hm (fun k hk e => h.aptw a ha k e hk)).moves hMS fun k hk e => own_not_blk (by decide) h.row h.wt (by rw [hk, e])
  · rw [hgv] at hq
    by_cases e : j = a
    · rw [if_pos e] at hq
      rcases hat q hq with h1 | h1
      · exact h.aptw a ha q h1
      · intro h2
        have := (h.wt.lt q h2).2
        omega
    · rw [if_neg e] at hq
      exact h.aptw j hj q hq
theorem Bins.inc {w : World} {base b N j r n c : Nat} {vs : List Value} {Ls : List (List Nat)} {W : List Nat} (h : Bins w base b (.slice (some ⟨r, 0, none⟩) n c) vs Ls W N) (x : Nat) :
    Bins (w.setCell ⟨r, j, none⟩ (.int .i64 (x : Int))) base b (.slice (some ⟨r, 0, none⟩) n c) vs Ls (W.set j x) N ∧ Moves (fun k => (Value.slice (some ⟨r, 0, none⟩) n c).ownBlock = some k) w (w.setCell ⟨r, j, none⟩ (.int .i64 (x : Int))) := by
  have hM : Moves (fun k => (Value.slice (some ⟨r, 0, none⟩) n c).ownBlock = some k) w (w.setCell ⟨r, j, none⟩ (.int .i64 (x : Int))) := (Moves.setCell _ _ _).wide fun k _ e => by rw [e]; rfl
  exact ⟨h.moves hM (h.wt.set j x) (by rw [List.length_set]; exact h.wl), hM⟩
end Go.Proofs.Ytemliglhippdcaa

/- Package grph: things in an order in which each stands behind those that are ahead of it. -/
namespace Go.Proofs.Ytemliglhippdcaa
set_option maxRecDepth 100000
open Go.ChangeShapes Go.WideShapes Go.ChangeAt Go.RowKit

/-- A function value that tells what is ahead of a thing: f, for the things of D, at each world behind w0. -/
structure AheadNS (w0 : World) (K : Nat) (cap : Array Value) (f : List Nat → List (List Nat)) (D : List Nat → Prop) : Prop where
  enter : ∀ args w, (callFunc K args).run Try.prog w = .ok (.enter K args) w
  call : ∀ x w, D x → Below w0.heap.size w0 w → Calls Try.prog K (#[.string (str x)] ++ cap) w fun e w' => ∃ v, e = .returned v ∧ (RdS w' v (f x) ∧ (∀ k, v.ownBlock = some k → k < w0.heap.size ∨ (w.heap.size ≤ k ∧ k < w'.heap.size)) ∧ Below w.heap.size w w')
/-- The places in T that are ahead of place i. -/
def PfS (T : List (List Nat)) (f : List Nat → List (List Nat)) (i : Nat) : List Nat := if i < T.length then (f (T.getD i [])).filterMap (plcS T) else []
theorem plc_ltS {T : List (List Nat)} {x : List Nat} {a : Nat} (h : plcS T x = some a) : a < T.length := by
  unfold plcS at h
  rw [List.findIdx?_eq_some_iff_getElem] at h
  exact h.1
theorem pf_ltS (T : List (List Nat)) (f : List Nat → List (List Nat)) (i : Nat) : ∀ a ∈ PfS T f i, a < T.length := by
  intro a ha
  unfold PfS at ha
  split at ha
  · obtain ⟨x, _, h⟩ := List.mem_filterMap.1 ha
    exact plc_ltS h
  · simp at ha
theorem pf_lenS (T : List (List Nat)) (f : List Nat → List (List Nat)) (B : Nat) (hB : ∀ x ∈ T, (f x).length ≤ B) (i : Nat) : (PfS T f i).length ≤ B := by
  unfold PfS
  split
  · rename_i h
    refine Nat.le_trans (List.length_filterMap_le _ _) (hB _ ?_)
    rw [List.getD_eq_getElem?_getD, List.getElem?_eq_getElem h]
    exact List.getElem_mem _
  · simp

theorem rowof_anyS {w : World} {xv : Value} {xs : List (List Nat)} (hx : RdS w xv xs) (hxo : ∀ t ∈ xs, ∀ c ∈ t, c < 256) (hxb : ∀ k, xv.ownBlock = some k → k < w.heap.size) (hlen : xs.length ≤ 1000000) :
    Calls Try.prog 42 #[xv] w fun e w' => ∃ g mb v, e = .returned (.pointer (some ⟨g, 0, none⟩)) ∧ RowAtS w' w.heap.size g mb v (addLS [] xs) ∧ Below w.heap.size w w' := by
  have hmm := @run_makeMap Try.prog
  have HB2 : Hid (Below w.heap.size w ((w.alloc (.map #[] 0)).alloc (.cells #[.slice none 0 0, .map (some w.heap.size)] 95))) := Lib.hid (((Below.refl _ _).alloc (Nat.le_refl _) _).alloc (by simp) _)
  have HR2 : Hid (RowAtS ((w.alloc (.map #[] 0)).alloc (.cells #[.slice none 0 0, .map (some w.heap.size)] 95)) w.heap.size (w.heap.size + 1) w.heap.size (.slice none 0 0) []) := Lib.hid (by
    refine ⟨?_, ownT_none _ _, ?_, by simp, by omega, Nat.le_refl _⟩
    · have h1 := heap_alloc_new (w.alloc (.map #[] 0)) (.cells #[.slice none 0 0, .map (some w.heap.size)] 95)
      rw [World.size_alloc] at h1
      exact h1
    · exact (keyMap_made kdS w).same (Below.heap_alloc _ _ _ (by simp)))
  have HX := Lib.hid hx
  have HXB := Lib.hid hxb
  clear hx hxb
  go_enter Try.func42, Try.ntmps42
  go_wp2_with fail
  refine (rowadd_anyS HR2.out (HX.out.under HB2.out) hxo (fun k hk e => by
    have h1 := HXB.out k hk
    rcases e with e | e | e
    · omega
    · omega
    · cases e) (fun k hk => by have := HXB.out k hk; simp; omega) (by simpa using hlen) HB2.out.size).mono ?_
  rintro e w3 ⟨rfl, ⟨v, h3, _⟩, hm3⟩
  have HB3 : Hid (Below w.heap.size w w3) := Lib.hid (HB2.out.trans (hm3.below HB2.out.size (fun k e => by
    rcases e with e | e | e
    · omega
    · omega
    · cases e)))
  clear hm3
  go_wp2
  go_ret
  exact ⟨_, _, v, rfl, h3, HB3.out⟩

end Go.Proofs.Ytemliglhippdcaa

/- Package grph: things in an order in which each stands behind those that are ahead of it. -/
namespace Go.Proofs.Ytemliglhippdcaa
set_option maxRecDepth 100000
open Go.ChangeShapes Go.WideShapes Go.ChangeAt Go.RowKit

/-- What Order tells of T, each once, and what is ahead of each. -/
def OrderIs (T : List Nat) (f : Nat → List Nat) (w : World) (e : Ending) (w' : World) : Prop :=
  if (Gr.ord (Pf T f) T.length).length < T.length then e = .returned (.tuple #[.slice none 0 0, .bool false])
  else ∃ v, e = .returned (.tuple #[v, .bool true]) ∧ OwnI w' w.heap.size v ((Gr.ord (Pf T f) T.length).map fun i => T.getD i 0)
set_option maxHeartbeats 16000000 in
theorem order_any {w : World} {xv : Value} {l : List Nat} {K : Nat} {cap : Array Value} {f : Nat → List Nat} (B : Nat) (hx : RdN w xv l) (hxb : ∀ k, xv.ownBlock = some k → k < w.heap.size) (hlen : l.length ≤ 1000) (hB : B ≤ 1000) (hA : AheadN w K cap f (fun x => x ∈ addL [] l)) (hf : ∀ x ∈ addL [] l, (f x).length ≤ B) :
    Calls Try.prog 13 #[xv, .func (.func K) #[] cap] w fun e w' => OrderIs (addL [] l) f w e w' ∧ Below w.heap.size w w' := by
  have HRO := Lib.hid (rowof_any hx hxb (by omega))
  have HA := Lib.hid hA
  obtain ⟨T, hT⟩ : ∃ T, addL [] l = T := ⟨_, rfl⟩
  have hTl : T.length ≤ 1000 := by rw [← hT]; have := addL_len l []; simp at this; omega
  rw [hT] at HRO HA hf ⊢
  obtain ⟨P, hP⟩ : ∃ P, Pf T f = P := ⟨_, rfl⟩
  have HPL : Hid (∀ i, ∀ a ∈ P i, a < T.length) := Lib.hid (by rw [← hP]; exact pf_lt T f)
  have HPB : Hid (∀ i, (P i).length ≤ B) := Lib.hid (by rw [← hP]; exact pf_len T f B hf)
  have HFB := Lib.hid hf
  have HPE : Hid (∀ i, i < T.length → P i = (f (T.getD i 0)).filterMap (plc T)) := Lib.hid (fun i hi => by rw [← hP]; unfold Pf; rw [if_pos hi])
  have HPP := Lib.hid hP
  obtain ⟨N, hN⟩ : ∃ N, T.length = N := ⟨_, rfl⟩
  have HTN := Lib.hid hN
  rw [hN] at HPL HPE hTl
  clear hx hxb hlen hA hf hT hP hN
  go_enter Try.func13, Try.ntmps13
  go_wp2_with fail
  refine HRO.out.mono ?_
  rintro e w1 ⟨g, mb, v, rfl, hr1, hb1⟩
  have HR1 := Lib.hid hr1
  have HB1 := Lib.hid hb1
  have q0 : w1.cell? ⟨g, 0, none⟩ = some v := hr1.box.at 0
  have hgs : g < w1.heap.size := hr1.box.size
  obtain ⟨Av, cv, hv, _⟩ := hr1.row.parts
  rw [HTN.out] at hv
  subst hv
  have hmk1 := fun W => run_make_row' (P := Try.prog) 84 22 (.slice none 0 0) 24 Try.underlying84 infoSlI rfl .i64 .i64 N (by omega) (by omega) W
  have hmk2 := fun W => run_make_row' (P := Try.prog) 22 3 (.int .i64 0) 8 Try.underlying22 infoInt rfl .i64 .i64 N (by omega) (by omega) W
  have HBI := Lib.hid (bins_made w1 N (by omega))
  have HBM : Hid (Below w1.heap.size w1 ((w1.alloc (.cells (madeCells #[.slice none 0 0] N) 22)).alloc (.cells (madeCells #[.int .i64 0] N) 3))) := Lib.hid (((Below.refl _ _).alloc (Nat.le_refl _) _).alloc (by simp) _)
  have q2 : (w1.alloc (.cells (madeCells #[.slice none 0 0] N) 22)).cell? ⟨g, 0, none⟩ = some (.slice Av N cv) := cell_later ((Below.refl _ _).alloc (Nat.le_refl _) _) q0
  have q3 : ((w1.alloc (.cells (madeCells #[.slice none 0 0] N) 22)).alloc (.cells (madeCells #[.int .i64 0] N) 3)).cell? ⟨g, 0, none⟩ = some (.slice Av N cv) := cell_later HBM.out q0
  clear hr1 hb1
  obtain ⟨b, hb⟩ : ∃ b, w1.heap.size = b := ⟨_, rfl⟩
  have HBS := Lib.hid hb
  rw [hb] at HBI HBM hgs
  obtain ⟨ub, hub⟩ : ∃ q, b + 1 = q := ⟨_, rfl⟩
  have HUB : Hid (b < ub) := Lib.hid (by omega)
  rw [hub] at HBI
  go_upto_block 0 with fail
  try rw [hb]
  try rw [hub]
  obtain ⟨w2, hw2⟩ : ∃ W, (w1.alloc (.cells (madeCells #[.slice none 0 0] N) 22)).alloc (.cells (madeCells #[.int .i64 0] N) 3) = W := ⟨_, rfl⟩
  rw [hw2] at HBI HBM ⊢
  clear hw2 q2 q3 hmk1 hmk2 hb hub q0
  go_wp2_with fail
  go_loopg [39] N (fun f' iv wx => ∃ (i : Nat) (vs : List Value) (W : List Nat), i ≤ N ∧ N - i ≤ f' ∧ iv = .int .i64 (i : Int) ∧ Hid (Bins wx b b (.slice (some ⟨ub, 0, none⟩) N N) vs (Gr.bins P N i) W N) ∧ Hid (∀ j, j < N → W.getD j 0 = if j < i then (P j).length else 0) ∧ Hid (Below b w1 wx))
  case atStart => exact ⟨0, _, _, Nat.zero_le _, by omega, rfl, HBI, Lib.hid (fun j hj => by rw [getD_replicate _ _ _ _ hj]; rfl), HBM⟩
  case round =>
    clear HBI HBM
    obtain ⟨i, vs, W, hi, hfu, rfl, HBN, HWT, HBW⟩ := hrel
    have HR : Hid (RowAt wr w.heap.size g mb (.slice Av N cv) T) := Lib.hid (by have h1 := HBW.out; rw [← HBS.out] at h1; exact HR1.out.under h1)
    have q0 : wr.cell? ⟨g, 0, none⟩ = some (.slice Av N cv) := HR.out.box.at 0
    have HW0 : Hid (Below w.heap.size w wr) := Lib.hid (by have h1 := HBW.out; rw [← HBS.out] at h1; exact HB1.out.trans (h1.mono HB1.out.size))
    by_cases hiN : i < N
    · have hiI : (i : Int) < (N : Int) := by omega
      have hop := HR.out.row.open (i := i) (by rw [HTN.out]; exact hiN)
      rw [HTN.out] at hop
      obtain ⟨ra, ca, hra, _, _, _, hcell⟩ := hop
      injection hra with hr1 hr2 hr3
      subst hr1
      have p0 := (hcell i hiN).1
      obtain ⟨x, hx⟩ : ∃ x, T.getD i 0 = x := ⟨_, rfl⟩
      have hxT : x ∈ T := by
        rw [← hx, List.getD_eq_getElem?_getD, List.getElem?_eq_getElem (by rw [HTN.out]; exact hiN)]
        exact List.getElem_mem _
      rw [hx] at p0
      have HPI : Hid (P i = (f x).filterMap (plc T)) := Lib.hid (by rw [HPE.out i hiN, hx])
      have HAX := Lib.hid (ask_any K cap HA.out.enter (x : Int) wr _ (HA.out.call x wr hxT HW0.out))
      have hyB : (f x).length ≤ 1000 := Nat.le_trans (HFB.out x hxT) hB
      obtain ⟨ys, hys⟩ : ∃ ys, f x = ys := ⟨_, rfl⟩
      rw [hys] at HPI HAX hyB
      clear hcell hx hxT hr2 hr3 hys
      go_wp2_with fail
      refine HAX.out.mono ?_
      rintro e w3 ⟨xv3, rfl, hrd, hbl, hb3⟩
      have hrd2 := hrd
      obtain ⟨A3, c3, hxv, _, _⟩ := hrd2
      obtain ⟨m, hm⟩ : ∃ m, ys.length = m := ⟨_, rfl⟩
      rw [hm] at hxv hyB
      subst hxv
      have HM := Lib.hid hm
      have HRD := Lib.hid hrd
      have HB3 := Lib.hid hb3
      have HBW3 : Hid (Below b w1 w3) := Lib.hid (HBW.out.trans (hb3.mono (by rw [← HBS.out]; exact HBW.out.size)))
      have HBN3 : Hid (Bins w3 b b (.slice (some ⟨ub, 0, none⟩) N N) vs (Gr.addRow i (((ys.take 0)).filterMap (plc T)) (Gr.bins P N i)) W N) := Lib.hid (HBN.out.under hb3)
      have HXK : Hid (∀ k, (Value.slice A3 m c3).ownBlock = some k → ¬ Bk b (.slice (some ⟨ub, 0, none⟩) N N) vs N k ∧ k < w3.heap.size) := Lib.hid (fun k hk => by
        have h0 := hbl k hk
        have h1 := hb3.size
        have h2 := HW0.out.size
        have hbb : w.heap.size ≤ b := by rw [← HBS.out]; exact HB1.out.size
        refine ⟨fun e => ?_, by omega⟩
        rcases e with e | e | ⟨j, hj, e⟩
        · have := HBN.out.row.size; omega
        · have := HBN.out.wt.lt k e
          have := HUB.out
          omega
        · have := (HBN.out.own j hj).lt k e
          omega)
      clear hrd hbl hb3 hm
      go_upto_block 2 with fail
      have HWT3 : Hid (∀ j, j < N → W.getD j 0 = if j < i then (P j).length else if j = i then ((ys.take 0).filterMap (plc T)).length else 0) := Lib.hid (fun j hj => by rw [HWT.out j hj]; simp)
      go_wp2_with fail
      go_loopg [54] m (fun f' iv wx => ∃ (p : Nat) (vs : List Value) (W : List Nat), p ≤ m ∧ m - p ≤ f' ∧ iv = .int .i64 (p : Int) ∧ Hid (Bins wx b b (.slice (some ⟨ub, 0, none⟩) N N) vs (Gr.addRow i ((ys.take p).filterMap (plc T)) (Gr.bins P N i)) W N) ∧ Hid (∀ j, j < N → W.getD j 0 = if j < i then (P j).length else if j = i then ((ys.take p).filterMap (plc T)).length else 0) ∧ Hid (Below b w1 wx) ∧ Hid (RdN wx (.slice A3 m c3) ys) ∧ Hid (∀ k, (Value.slice A3 m c3).ownBlock = some k → ¬ Bk b (.slice (some ⟨ub, 0, none⟩) N N) vs N k ∧ k < wx.heap.size))
      case atStart => exact ⟨0, vs, W, Nat.zero_le _, by omega, rfl, HBN3, HWT3, HBW3, HRD, HXK⟩
      case round =>
        clear HBN3 HWT3 HBW3 HRD HXK HBN HWT HBW HR HW0 q0 HAX HB3 p0
        obtain ⟨p, vs, W, hp, hfp, rfl, HBN, HWT, HBW, HRD, HXK⟩ := hrel
        by_cases hpm : p < m
        · have hpI : (p : Int) < (m : Int) := by omega
          obtain ⟨A4, c4, e4, _, hcell⟩ := HRD.out
          injection e4 with e5 e6 e7
          subst e5
          obtain ⟨b4, o4, rfl, p0⟩ := hcell p (by rw [HM.out]; exact hpm)
          obtain ⟨y, hy⟩ : ∃ y, ys.getD p 0 = y := ⟨_, rfl⟩
          rw [hy] at p0
          have HTK : Hid (ys.take (p + 1) = ys.take p ++ [y]) := Lib.hid (by rw [← hy]; exact take_snoc ys p (by rw [HM.out]; exact hpm))
          have HR : Hid (RowAt wr w.heap.size g mb (.slice (some ⟨ra, 0, none⟩) N cv) T) := Lib.hid (by have h1 := HBW.out; rw [← HBS.out] at h1; exact HR1.out.under h1)
          have HPLC := Lib.hid (place_any y HR.out)
          clear hcell e6 e7 hy
          rcases hpl : plc T y with _ | a
          · have HF : Hid ((ys.take (p + 1)).filterMap (plc T) = (ys.take p).filterMap (plc T)) := Lib.hid (by rw [HTK.out, List.filterMap_append]; simp [hpl])
            rw [hpl] at HPLC
            clear hpl
            go_wp2_with fail
            refine HPLC.out.mono ?_
            rintro e w5 ⟨rfl, hb5⟩
            have HBN5 := Lib.hid (HBN.out.under hb5)
            have HBW5 : Hid (Below b w1 w5) := Lib.hid (HBW.out.trans (hb5.mono (by rw [← HBS.out]; exact HBW.out.size)))
            have HRD5 := Lib.hid (HRD.out.under hb5)
            have HXK5 : Hid (∀ k, (Value.slice (some ⟨b4, o4, none⟩) m c3).ownBlock = some k → ¬ Bk b (.slice (some ⟨ub, 0, none⟩) N N) vs N k ∧ k < w5.heap.size) := Lib.hid (fun k hk => ⟨(HXK.out k hk).1, Nat.lt_of_lt_of_le (HXK.out k hk).2 hb5.size⟩)
            clear hb5
            go_wp2_with fail
            go_roundg (m - (p + 1))
            case measure => omega
            case rel => exact ⟨p + 1, vs, W, hpm, by omega, by go_num, by rw [HF.out]; exact HBN5, by rw [HF.out]; exact HWT, HBW5, HRD5, HXK5⟩
          · have HF : Hid ((ys.take (p + 1)).filterMap (plc T) = (ys.take p).filterMap (plc T) ++ [a]) := Lib.hid (by rw [HTK.out, List.filterMap_append]; simp [hpl])
            have haN : a < N := by have := plc_lt hpl; rw [HTN.out] at this; exact this
            have haI : (a : Int) < (N : Int) := by omega
            rw [hpl] at HPLC
            have hFL : ((ys.take p).filterMap (plc T)).length ≤ 1000 := by
              have h1 := List.length_filterMap_le (plc T) (ys.take p)
              rw [List.length_take] at h1
              omega
            obtain ⟨F, hF⟩ : ∃ F, (ys.take p).filterMap (plc T) = F := ⟨_, rfl⟩
            rw [hF] at HF HBN HWT hFL
            have hiI3 : (i : Int) < (N : Int) := by omega
            clear hpl hF HTK
            go_wp2_with fail
            refine HPLC.out.mono ?_
            rintro e w5 ⟨rfl, hb5⟩
            have HBN5 := Lib.hid (HBN.out.under hb5)
            have HBW5 : Hid (Below b w1 w5) := Lib.hid (HBW.out.trans (hb5.mono (by rw [← HBS.out]; exact HBW.out.size)))
            have HRD5 := Lib.hid (HRD.out.under hb5)
            have HXK5 : Hid (∀ k, (Value.slice (some ⟨b4, o4, none⟩) m c3).ownBlock = some k → ¬ Bk b (.slice (some ⟨ub, 0, none⟩) N N) vs N k ∧ k < w5.heap.size) := Lib.hid (fun k hk => ⟨(HXK.out k hk).1, Nat.lt_of_lt_of_le (HXK.out k hk).2 hb5.size⟩)
            clear hb5 HBN HBW HRD HXK HPLC HR
            obtain ⟨Aq, cq, hvq, _⟩ := (HBN5.out.own a haN).parts
            obtain ⟨R, hR⟩ : ∃ R, (Gr.addRow i F (Gr.bins P N i)).getD a [] = R := ⟨_, rfl⟩
            have hRL : R.length ≤ 1000000 := by
              have h1 := Gr.addRow_lenrow i a F (Gr.bins P N i)
              have h2 := Gr.bins_lenrow P N B HPB.out a i
              rw [hR] at h1
              have h3 : i * B ≤ 1000 * 1000 := Nat.mul_le_mul (by omega) hB
              have h4 : i * B ≤ 999 * 1000 := Nat.mul_le_mul (by omega) hB
              omega
            obtain ⟨nq, hnq⟩ : ∃ q, R.length = q := ⟨_, rfl⟩
            rw [hR, hnq] at hvq
            have HVQ := Lib.hid hvq
            have p1 : w5.cell? ⟨b, a, none⟩ = some (.slice Aq nq cq) := by rw [← HVQ.out]; exact HBN5.out.cell haN
            have HOQ : Hid (OwnI w5 b (.slice Aq nq cq) R) := Lib.hid (by have h1 := HBN5.out.own a haN; rw [hR, hvq] at h1; exact h1)
            have hbw5 : b ≤ w5.heap.size := by have h1 := HBW5.out.size; rw [← HBS.out]; exact h1
            have HRR := Lib.hid hR
            have HNQ : Hid (R.length ≤ 1000000) := Lib.hid hRL
            clear hvq hnq hRL hR
            go_wp2_with (first
              | (at_builtin; refine wpList_append_intT 22 Try.underlying22 rfl _ _ rfl b (.slice Aq nq cq) R w5.heap.size i rfl (HOQ.out.under ((Below.refl _ _).alloc (Nat.le_refl _) _)) rfl (cell_new_int w5 _ _) (by have := HNQ.out; omega) (by simp; omega) ?_; intro v6 w6 ho6 hg6 hat6
                 obtain ⟨A6, c6, hu6, _⟩ := ho6.parts
                 obtain ⟨m6, hm6⟩ : ∃ q, (R ++ [i]).length = q := ⟨_, rfl⟩
                 rw [hm6] at hu6
                 subst hu6
                 have hM6 : Moves (fun j => (vs.getD a undef).ownBlock = some j) w5 w6 := by
                   rw [HVQ.out]
                   exact (Moves.under ((Below.refl _ w5).alloc (Nat.le_refl _) _)).trans (Moves.grown hg6)
                 have hA6 : ∀ k, (Value.slice A6 m6 c6).ownBlock = some k → (vs.getD a undef).ownBlock = some k ∨ w5.heap.size ≤ k := fun k hk => by
                   rcases hat6 with h1 | h1
                   · exact .inl (by rw [HVQ.out, ← h1]; exact hk)
                   · rw [h1] at hk
                     injection hk with hk
                     simp at hk
                     exact .inr (by omega)
                 have hapq := HBN5.out.app haN (i := i) (by rw [HRR.out]; exact ho6) hM6 hA6
                 have HBA := Lib.hid hapq.1
                 have HMA := Lib.hid hapq.2
                 have HA6 := Lib.hid hA6
                 have hb6 : Blk w6 b 22 vs.toArray := HBN5.out.row.moves hM6 (own_not_blk (by decide) HBN5.out.row (HBN5.out.own a haN))
                 have p6 : w6.cell? ⟨b, a, none⟩ = some (.slice Aq nq cq) := by
                   have h1 := hb6.at a
                   rw [List.getElem?_toArray] at h1
                   have h2 := HBN5.out.row.at a
                   rw [List.getElem?_toArray] at h2
                   rw [h1, ← h2]
                   exact p1
                 have f6 : w6.frozen? ⟨b, a, none⟩ = false := hb6.free a
                 obtain ⟨w7, hw7⟩ : ∃ W, w6.setCell ⟨b, a, none⟩ (.slice A6 m6 c6) = W := ⟨_, rfl⟩
                 rw [hw7] at HBA HMA
                 obtain ⟨wi, hwi⟩ : ∃ q, W.getD i 0 = q := ⟨_, rfl⟩
                 have hwiB : wi ≤ 1000 := by
                   rw [← hwi, HWT.out i hiN, if_neg (by omega), if_pos rfl]
                   exact hFL
                 have hop7 := HBA.out.wt.open (i := i) (by rw [HBA.out.wl]; exact hiN)
                 rw [HBA.out.wl] at hop7
                 obtain ⟨ra7, ca7, hra7, _, _, _, hcell7⟩ := hop7
                 injection hra7 with hr71 hr72 hr73
                 injection hr71 with hr71
                 injection hr71 with hr71
                 subst hr71
                 have p7 := (hcell7 i hiN).1
                 have f7 := (hcell7 i hiN).2
                 rw [hwi] at p7
                 clear ho6 hg6 hat6 hM6 hA6 hapq hb6 hm6 hcell7 hr72 hr73)
              | fail)
            have hinc := HBA.out.inc (j := i) (wi + 1)
            rw [show ((wi + 1 : Nat) : Int) = (wi : Int) + 1 from rfl] at hinc
            have HBF := Lib.hid hinc.1
            have HM8 : Hid (Moves (Bk b (.slice (some ⟨ub, 0, none⟩) N N) vs N) w5 (w7.setCell ⟨ub, i, none⟩ (.int .i64 ((wi : Int) + 1)))) := Lib.hid (HMA.out.then hinc.2 fun k _ e => .inr (.inl e))
            have HWT8 : Hid (∀ j, j < N → (W.set i (wi + 1)).getD j 0 = if j < i then (P j).length else if j = i then (F ++ [a]).length else 0) := Lib.hid (fun j hj => by
              rw [Gr.set_get W i (wi + 1) j (by rw [HBN5.out.wl]; exact hiN)]
              have h0 := HWT.out j hj
              by_cases e : j = i
              · subst e
                rw [if_pos rfl, if_neg (by omega), if_pos rfl]
                rw [if_neg (by omega), if_pos rfl, hwi] at h0
                simp
                exact h0
              · rw [if_neg e, h0, if_neg e, if_neg e])
            have HRD8 := Lib.hid (HRD5.out.moves HM8.out fun k hk => (HXK5.out k hk).1)
            have HBW8 : Hid (Below b w1 (w7.setCell ⟨ub, i, none⟩ (.int .i64 ((wi : Int) + 1)))) := Lib.hid (HBW5.out.trans (HM8.out.below hbw5 fun k hk => by
              rcases hk with e | e | ⟨j, hj, e⟩
              · omega
              · injection e with e
                change ub = k at e
                have := HUB.out
                omega
              · exact ((HBN5.out.own j hj).lt k e).1))
            have HXK8 : Hid (∀ k, (Value.slice (some ⟨b4, o4, none⟩) m c3).ownBlock = some k → ¬ Bk b (.slice (some ⟨ub, 0, none⟩) N N) (vs.set a (.slice A6 m6 c6)) N k ∧ k < (w7.setCell ⟨ub, i, none⟩ (.int .i64 ((wi : Int) + 1))).heap.size) := Lib.hid (fun k hk => by
              obtain ⟨h1, h2⟩ := HXK5.out k hk
              refine ⟨fun e => ?_, Nat.lt_of_lt_of_le h2 HM8.out.size⟩
              rcases e with e | e | ⟨j, hj, e⟩
              · exact h1 (.inl e)
              · exact h1 (.inr (.inl e))
              · rw [getD_setV vs a j _ (by rw [HBN5.out.vl]; exact haN)] at e
                by_cases q : j = a
                · rw [if_pos q] at e
                  rcases HA6.out k e with h3 | h3
                  · exact h1 (.inr (.inr ⟨a, haN, h3⟩))
                  · omega
                · rw [if_neg q] at e
                  exact h1 (.inr (.inr ⟨j, hj, e⟩)))
            clear hinc hwi hw7 p7 f7 p6 f6 p1 p0 HBN5 HBW5 HRD5 HXK5 HMA HBA HA6 HOQ HVQ
            go_roundg (m - (p + 1))
            case measure => omega
            case rel => exact ⟨p + 1, _, _, hpm, by omega, by go_num, by rw [HF.out, Gr.addRow_snoc]; exact HBF, by rw [HF.out]; exact HWT8, HBW8, HRD8, HXK8⟩
        · obtain rfl : m = p := by omega
          have hpI : ¬ (m : Int) < (m : Int) := by omega
          have HPF : Hid ((ys.take m).filterMap (plc T) = P i) := Lib.hid (by rw [List.take_of_length_le (by rw [HM.out]; exact Nat.le_refl _), HPI.out])
          have HBF : Hid (Bins wr b b (.slice (some ⟨ub, 0, none⟩) N N) vs (Gr.bins P N (i + 1)) W N) := Lib.hid (by have h1 := HBN.out; rw [HPF.out] at h1; exact h1)
          have HWF : Hid (∀ j, j < N → W.getD j 0 = if j < i + 1 then (P j).length else 0) := Lib.hid (fun j hj => by
            have h0 := HWT.out j hj
            rw [HPF.out] at h0
            rw [h0]
            by_cases e : j = i
            · subst e
              rw [if_neg (by omega), if_pos rfl, if_pos (by omega)]
            · by_cases q : j < i
              · rw [if_pos q, if_pos (by omega)]
              · rw [if_neg q, if_neg e, if_neg (by omega)])
          clear HBN HWT HRD HXK HPF
          go_wp2_with fail
          go_roundg (N - (i + 1))
          case measure => omega
          case rel => exact ⟨i + 1, vs, W, hiN, by omega, by go_num, HBF, HWF, HBW⟩
    · obtain rfl : N = i := by omega
      have hiI : ¬ (N : Int) < (N : Int) := by omega
      have HSM : Hid (∀ i, i < N → (P i).length ≤ 1000) := Lib.hid (fun i _ => Nat.le_trans (HPB.out i) hB)
      have HFI := Lib.hid (first_any N HBN.out (by omega) (fun lr hlr => by
          obtain ⟨k, hk, rfl⟩ := List.getElem_of_mem hlr
          have e : (Gr.bins P N N)[k] = (Gr.bins P N N).getD k [] := by rw [List.getD_eq_getElem?_getD, List.getElem?_eq_getElem hk]; rfl
          rw [e]
          refine ⟨fun x hx => Gr.bins_small P N HPL.out N k x hx, ?_⟩
          have h1 := Gr.bins_lenrow P N B HPB.out k N
          have h2 : N * B ≤ 1000 * 1000 := Nat.mul_le_mul (by omega) hB
          omega) (fun j hj => by
          rw [HWT.out j hj, if_pos hj, Gr.cnt_bins P N j N HPL.out N, if_pos hj, Gr.sums_all _ _ (HPL.out j)]) (fun x hx => by
          obtain ⟨k, hk, rfl⟩ := List.getElem_of_mem hx
          have hkN : k < N := by rw [← HBN.out.wl]; exact hk
          have h1 := HWT.out k hkN
          rw [if_pos hkN, List.getD_eq_getElem?_getD, List.getElem?_eq_getElem hk] at h1
          have h2 := HSM.out k hkN
          simp at h1
          omega) N)
      rw [Gr.run_bins P N HPL.out] at HFI
      obtain ⟨O, hO⟩ : ∃ O, Gr.ord P N = O := ⟨_, rfl⟩
      have HOL : Hid (O.length ≤ N) := Lib.hid (by rw [← hO]; exact Gr.ord_len P N)
      have HOS : Hid (∀ t ∈ O, t < N) := Lib.hid (by rw [← hO]; exact Gr.ord_small P N)
      have HOE := Lib.hid hO
      rw [hO] at HFI
      have HLT : Hid (∀ k, Rx g mb (.slice Av N cv) k → k < b) := Lib.hid (fun k hk => by
        rcases hk with e | e | e
        · omega
        · have := HR1.out.map.lt; have := HBS.out; omega
        · have := (HR1.out.row.lt k e).2; have := HBS.out; omega)
      clear hO
      go_wp2_with fail
      refine HFI.out.mono ?_
      rintro e w4 ⟨v2, rfl, ho2, hm2⟩
      obtain ⟨A2, c2, hv2, _⟩ := ho2.parts
      obtain ⟨M, hM⟩ : ∃ M, O.length = M := ⟨_, rfl⟩
      rw [hM] at hv2
      subst hv2
      have HOM := Lib.hid hM
      have HO2 := Lib.hid ho2
      have HR4 : Hid (RowAt w4 w.heap.size g mb (.slice Av N cv) T) := Lib.hid (HR.out.moves hm2 (fun k hk e => by
        have h1 := HLT.out k hk
        injection e with e
        change ub = k at e
        have := HUB.out
        omega))
      have HW4 : Hid (Below w.heap.size w w4) := Lib.hid (HW0.out.trans (hm2.below HW0.out.size (fun k e => by
        injection e with e
        change ub = k at e
        have := HUB.out
        have := HB1.out.size
        have := HBS.out
        omega)))
      have hMB : M ≤ 1000 := by rw [← hM]; exact Nat.le_trans HOL.out hTl
      clear ho2 hm2 hM HFI HBN HWT q0 HBW HR HW0 hiI hfu hi hiN
      go_upto_block 6 with fail
      go_wp2_with fail
      go_loopg [87, 17] M (fun f' iv tv wx => ∃ (q : Nat), q ≤ M ∧ M - q ≤ f' ∧ iv = .int .i64 (q : Int) ∧ Hid (OwnI wx w4.heap.size tv ((O.take q).map fun i => T.getD i 0)) ∧ Hid (Below w4.heap.size w4 wx))
      case atStart => exact ⟨0, Nat.zero_le _, by omega, rfl, Lib.hid (ownI_none _ _), Lib.hid (Below.refl _ _)⟩
      case round =>
        obtain ⟨q, hq, hfq, hqv, HOT, HBW⟩ := hrel
        subst hqv
        have HR5 := Lib.hid (HR4.out.under HBW.out)
        have q0 : wr.cell? ⟨g, 0, none⟩ = some (.slice Av N cv) := HR5.out.box.at 0
        have hw4s := HBW.out.size
        by_cases hqM : q < M
        · have hqI : (q : Int) < (M : Int) := by omega
          have ho5 := HO2.out.under HBW.out
          have hop := ho5.open (i := q) (by rw [HOM.out]; exact hqM)
          rw [HOM.out] at hop
          obtain ⟨r2, ca2, hr2, _, _, _, hcell⟩ := hop
          injection hr2 with hr21 hr22 hr23
          subst hr21
          have p1 := (hcell q hqM).1
          obtain ⟨o, ho⟩ : ∃ o, O.getD q 0 = o := ⟨_, rfl⟩
          have hoN : o < N := by
            rw [← ho, List.getD_eq_getElem?_getD, List.getElem?_eq_getElem (by rw [HOM.out]; exact hqM)]
            exact HOS.out _ (List.getElem_mem _)
          have HTK : Hid ((O.take (q + 1)).map (fun i => T.getD i 0) = (O.take q).map (fun i => T.getD i 0) ++ [T.getD o 0]) := Lib.hid (by
            rw [take_snoc O q (by rw [HOM.out]; exact hqM), ho, List.map_append]
            rfl)
          rw [ho] at p1
          have hoI : (o : Int) < (N : Int) := by omega
          have hop2 := HR5.out.row.open (i := o) (by rw [HTN.out]; exact hoN)
          rw [HTN.out] at hop2
          obtain ⟨rv, cav, hrv, _, _, _, hcell2⟩ := hop2
          injection hrv with hrv1 hrv2 hrv3
          subst hrv1
          have p2 := (hcell2 o hoN).1
          obtain ⟨x, hx⟩ : ∃ x, T.getD o 0 = x := ⟨_, rfl⟩
          rw [hx] at p2 HTK
          have HLQ : Hid (((O.take q).map fun i => T.getD i 0).length ≤ 1000) := Lib.hid (by rw [List.length_map, List.length_take]; omega)
          clear hcell hcell2 hr22 hr23 hrv2 hrv3 ho hx ho5
          go_wp2_with (first
            | (at_builtin; refine wpList_append_intT 22 Try.underlying22 rfl _ _ rfl w4.heap.size u17 _ wr.heap.size x rfl (HOT.out.under ((Below.refl _ _).alloc (Nat.le_refl _) _)) rfl (cell_new_int wr _ _) (by have := HLQ.out; omega) (by simp; omega) ?_; intro tv6 w6 ho6 hg6 hat6
               have HO6 : Hid (OwnI w6 w4.heap.size tv6 ((O.take (q + 1)).map fun i => T.getD i 0)) := Lib.hid (by rw [HTK.out]; exact ho6)
               have HB6 : Hid (Below w4.heap.size w4 w6) := Lib.hid (HBW.out.trans (((Below.refl _ _).alloc hw4s _).trans ((Below.refl _ _).grown hg6 (by simp; omega) fun k hk => (HOT.out.lt k hk).1)))
               clear ho6 hg6 hat6)
            | fail)
          go_roundg (M - (q + 1))
          case measure => omega
          case rel => exact ⟨q + 1, hqM, by omega, by go_num, HO6, HB6⟩
        · obtain rfl : M = q := by omega
          have hqI : ¬ (M : Int) < (M : Int) := by omega
          have hall : O.take M = O := List.take_of_length_le (by rw [HOM.out]; exact Nat.le_refl _)
          have hot := HOT.out
          rw [hall] at hot
          obtain ⟨At, ct, hut, _⟩ := hot.parts
          rw [List.length_map, HOM.out] at hut
          have HOF : Hid (OwnI wr w.heap.size (.slice At M ct) (O.map fun i => T.getD i 0)) := Lib.hid (by
            rw [← hut]
            exact World.ownsRow.mono hot HW4.out.size)
          have HBF : Hid (Below w.heap.size w wr) := Lib.hid (HW4.out.trans (HBW.out.mono HW4.out.size))
          have HOI : Hid (∀ e w', OrderIs T f w e w' = if M < N then e = .returned (.tuple #[.slice none 0 0, .bool false]) else ∃ v, e = .returned (.tuple #[v, .bool true]) ∧ OwnI w' w.heap.size v (O.map fun i => T.getD i 0)) := Lib.hid (fun e w' => by
            unfold OrderIs
            rw [HPP.out, HTN.out, HOE.out, HOM.out])
          clear hot hall HOT
          subst hut
          by_cases hMN : M < N
          · have hMI : (M : Int) < (N : Int) := by omega
            go_wp2_with fail
            go_ret2
            rw [HOI.out, if_pos hMN]
            exact ⟨rfl, HBF.out⟩
          · have hMI : ¬ (M : Int) < (N : Int) := by omega
            go_wp2_with fail
            go_ret2
            rw [HOI.out, if_neg hMN]
            exact ⟨⟨_, rfl, HOF.out⟩, HBF.out⟩
end Go.Proofs.Ytemliglhippdcaa

/- Package grph: things in an order in which each stands behind those that are ahead of it. -/
namespace Go.Proofs.Ytemliglhippdcaa
set_option maxRecDepth 100000
open Go.ChangeShapes Go.WideShapes Go.ChangeAt Go.RowKit

/-- What Order tells of T, each once, and what is ahead of each. -/
def OrderIsS (T : List (List Nat)) (f : List Nat → List (List Nat)) (w : World) (e : Ending) (w' : World) : Prop :=
  if (Gr.ord (PfS T f) T.length).length < T.length then e = .returned (.tuple #[.slice none 0 0, .bool false])
  else ∃ v, e = .returned (.tuple #[v, .bool true]) ∧ OwnT w' w.heap.size v ((Gr.ord (PfS T f) T.length).map fun i => T.getD i [])
set_option maxHeartbeats 16000000 in
theorem order_anyS {w : World} {xv : Value} {l : List (List Nat)} {K : Nat} {cap : Array Value} {f : List Nat → List (List Nat)} (B : Nat) (hlo : ∀ t ∈ l, ∀ c ∈ t, c < 256) (hfo : ∀ x ∈ addLS [] l, ∀ t ∈ f x, ∀ c ∈ t, c < 256) (hx : RdS w xv l) (hxb : ∀ k, xv.ownBlock = some k → k < w.heap.size) (hlen : l.length ≤ 1000) (hB : B ≤ 1000) (hA : AheadNS w K cap f (fun x => x ∈ addLS [] l)) (hf : ∀ x ∈ addLS [] l, (f x).length ≤ B) :
    Calls Try.prog 16 #[xv, .func (.func K) #[] cap] w fun e w' => OrderIsS (addLS [] l) f w e w' ∧ Below w.heap.size w w' := by
  have HRO := Lib.hid (rowof_anyS hx hlo hxb (by omega))
  have HA := Lib.hid hA
  obtain ⟨T, hT⟩ : ∃ T, addLS [] l = T := ⟨_, rfl⟩
  have hTl : T.length ≤ 1000 := by rw [← hT]; have := addL_lenS l []; simp at this; omega
  rw [hT] at HRO HA hf hfo ⊢
  have HFO := Lib.hid hfo
  obtain ⟨P, hP⟩ : ∃ P, PfS T f = P := ⟨_, rfl⟩
  have HPL : Hid (∀ i, ∀ a ∈ P i, a < T.length) := Lib.hid (by rw [← hP]; exact pf_ltS T f)
  have HPB : Hid (∀ i, (P i).length ≤ B) := Lib.hid (by rw [← hP]; exact pf_lenS T f B hf)
  have HFB := Lib.hid hf
  have HPE : Hid (∀ i, i < T.length → P i = (f (T.getD i [])).filterMap (plcS T)) := Lib.hid (fun i hi => by rw [← hP]; unfold PfS; rw [if_pos hi])
  have HPP := Lib.hid hP
  obtain ⟨N, hN⟩ : ∃ N, T.length = N := ⟨_, rfl⟩
  have HTN := Lib.hid hN
  rw [hN] at HPL HPE hTl
  clear hx hlo hfo hxb hlen hA hf hT hP hN
  go_enter Try.func16, Try.ntmps16
  go_wp2_with fail
  refine HRO.out.mono ?_
  rintro e w1 ⟨g, mb, v, rfl, hr1, hb1⟩
  have HR1 := Lib.hid hr1
  have HB1 := Lib.hid hb1
  have q0 : w1.cell? ⟨g, 0, none⟩ = some v := hr1.box.at 0
  have hgs : g < w1.heap.size := hr1.box.size
  obtain ⟨Av, cv, hv, _⟩ := hr1.row.shapeS
  rw [HTN.out] at hv
  subst hv
  have hmk1 := fun W => run_make_row' (P := Try.prog) 84 22 (.slice none 0 0) 24 Try.underlying84 infoSlI rfl .i64 .i64 N (by omega) (by omega) W
  have hmk2 := fun W => run_make_row' (P := Try.prog) 22 3 (.int .i64 0) 8 Try.underlying22 infoInt rfl .i64 .i64 N (by omega) (by omega) W
  have HBI := Lib.hid (bins_made w1 N (by omega))
  have HBM : Hid (Below w1.heap.size w1 ((w1.alloc (.cells (madeCells #[.slice none 0 0] N) 22)).alloc (.cells (madeCells #[.int .i64 0] N) 3))) := Lib.hid (((Below.refl _ _).alloc (Nat.le_refl _) _).alloc (by simp) _)
  have q2 : (w1.alloc (.cells (madeCells #[.slice none 0 0] N) 22)).cell? ⟨g, 0, none⟩ = some (.slice Av N cv) := cell_later ((Below.refl _ _).alloc (Nat.le_refl _) _) q0
  have q3 : ((w1.alloc (.cells (madeCells #[.slice none 0 0] N) 22)).alloc (.cells (madeCells #[.int .i64 0] N) 3)).cell? ⟨g, 0, none⟩ = some (.slice Av N cv) := cell_later HBM.out q0
  clear hr1 hb1
  obtain ⟨b, hb⟩ : ∃ b, w1.heap.size = b := ⟨_, rfl⟩
  have HBS := Lib.hid hb
  rw [hb] at HBI HBM hgs
  obtain ⟨ub, hub⟩ : ∃ q, b + 1 = q := ⟨_, rfl⟩
  have HUB : Hid (b < ub) := Lib.hid (by omega)
  rw [hub] at HBI
  go_upto_block 0 with fail
  try rw [hb]
  try rw [hub]
  obtain ⟨w2, hw2⟩ : ∃ W, (w1.alloc (.cells (madeCells #[.slice none 0 0] N) 22)).alloc (.cells (madeCells #[.int .i64 0] N) 3) = W := ⟨_, rfl⟩
  rw [hw2] at HBI HBM ⊢
  clear hw2 q2 q3 hmk1 hmk2 hb hub q0
  go_wp2_with fail
  go_loopg [39] N (fun f' iv wx => ∃ (i : Nat) (vs : List Value) (W : List Nat), i ≤ N ∧ N - i ≤ f' ∧ iv = .int .i64 (i : Int) ∧ Hid (Bins wx b b (.slice (some ⟨ub, 0, none⟩) N N) vs (Gr.bins P N i) W N) ∧ Hid (∀ j, j < N → W.getD j 0 = if j < i then (P j).length else 0) ∧ Hid (Below b w1 wx))
  case atStart => exact ⟨0, _, _, Nat.zero_le _, by omega, rfl, HBI, Lib.hid (fun j hj => by rw [getD_replicate _ _ _ _ hj]; rfl), HBM⟩
  case round =>
    clear HBI HBM
    obtain ⟨i, vs, W, hi, hfu, rfl, HBN, HWT, HBW⟩ := hrel
    have HR : Hid (RowAtS wr w.heap.size g mb (.slice Av N cv) T) := Lib.hid (by have h1 := HBW.out; rw [← HBS.out] at h1; exact HR1.out.under h1)
    have q0 : wr.cell? ⟨g, 0, none⟩ = some (.slice Av N cv) := HR.out.box.at 0
    have HW0 : Hid (Below w.heap.size w wr) := Lib.hid (by have h1 := HBW.out; rw [← HBS.out] at h1; exact HB1.out.trans (h1.mono HB1.out.size))
    by_cases hiN : i < N
    · have hiI : (i : Int) < (N : Int) := by omega
      have hop := HR.out.row.open (i := i) (by rw [HTN.out]; exact hiN)
      rw [HTN.out] at hop
      obtain ⟨ra, ca, hra, _, _, _, hcell⟩ := hop
      injection hra with hr1 hr2 hr3
      subst hr1
      have p0 := (hcell i hiN).1
      obtain ⟨x, hx⟩ : ∃ x, T.getD i [] = x := ⟨_, rfl⟩
      have hxT : x ∈ T := by
        rw [← hx, List.getD_eq_getElem?_getD, List.getElem?_eq_getElem (by rw [HTN.out]; exact hiN)]
        exact List.getElem_mem _
      rw [hx] at p0
      have HPI : Hid (P i = (f x).filterMap (plcS T)) := Lib.hid (by rw [HPE.out i hiN, hx])
      have HAX := Lib.hid (ask_anyS K cap HA.out.enter x wr _ (HA.out.call x wr hxT HW0.out))
      have HYO : Hid (∀ t ∈ f x, ∀ c ∈ t, c < 256) := Lib.hid (HFO.out x hxT)
      have hyB : (f x).length ≤ 1000 := Nat.le_trans (HFB.out x hxT) hB
      obtain ⟨ys, hys⟩ : ∃ ys, f x = ys := ⟨_, rfl⟩
      rw [hys] at HPI HAX hyB HYO
      clear hcell hx hxT hr2 hr3 hys
      go_wp2_with fail
      refine HAX.out.mono ?_
      rintro e w3 ⟨xv3, rfl, hrd, hbl, hb3⟩
      have hrd2 := hrd
      obtain ⟨A3, c3, hxv, _, _⟩ := hrd2
      obtain ⟨m, hm⟩ : ∃ m, ys.length = m := ⟨_, rfl⟩
      rw [hm] at hxv hyB
      subst hxv
      have HM := Lib.hid hm
      have HRD := Lib.hid hrd
      have HB3 := Lib.hid hb3
      have HBW3 : Hid (Below b w1 w3) := Lib.hid (HBW.out.trans (hb3.mono (by rw [← HBS.out]; exact HBW.out.size)))
      have HBN3 : Hid (Bins w3 b b (.slice (some ⟨ub, 0, none⟩) N N) vs (Gr.addRow i (((ys.take 0)).filterMap (plcS T)) (Gr.bins P N i)) W N) := Lib.hid (HBN.out.under hb3)
      have HXK : Hid (∀ k, (Value.slice A3 m c3).ownBlock = some k → ¬ Bk b (.slice (some ⟨ub, 0, none⟩) N N) vs N k ∧ k < w3.heap.size) := Lib.hid (fun k hk => by
        have h0 := hbl k hk
        have h1 := hb3.size
        have h2 := HW0.out.size
        have hbb : w.heap.size ≤ b := by rw [← HBS.out]; exact HB1.out.size
        refine ⟨fun e => ?_, by omega⟩
        rcases e with e | e | ⟨j, hj, e⟩
        · have := HBN.out.row.size; omega
        · have := HBN.out.wt.lt k e
          have := HUB.out
          omega
        · have := (HBN.out.own j hj).lt k e
          omega)
      clear hrd hbl hb3 hm
      go_upto_block 2 with fail
      have HWT3 : Hid (∀ j, j < N → W.getD j 0 = if j < i then (P j).length else if j = i then ((ys.take 0).filterMap (plcS T)).length else 0) := Lib.hid (fun j hj => by rw [HWT.out j hj]; simp)
      go_wp2_with fail
      go_loopg [54] m (fun f' iv wx => ∃ (p : Nat) (vs : List Value) (W : List Nat), p ≤ m ∧ m - p ≤ f' ∧ iv = .int .i64 (p : Int) ∧ Hid (Bins wx b b (.slice (some ⟨ub, 0, none⟩) N N) vs (Gr.addRow i ((ys.take p).filterMap (plcS T)) (Gr.bins P N i)) W N) ∧ Hid (∀ j, j < N → W.getD j 0 = if j < i then (P j).length else if j = i then ((ys.take p).filterMap (plcS T)).length else 0) ∧ Hid (Below b w1 wx) ∧ Hid (RdS wx (.slice A3 m c3) ys) ∧ Hid (∀ k, (Value.slice A3 m c3).ownBlock = some k → ¬ Bk b (.slice (some ⟨ub, 0, none⟩) N N) vs N k ∧ k < wx.heap.size))
      case atStart => exact ⟨0, vs, W, Nat.zero_le _, by omega, rfl, HBN3, HWT3, HBW3, HRD, HXK⟩
      case round =>
        clear HBN3 HWT3 HBW3 HRD HXK HBN HWT HBW HR HW0 q0 HAX HB3 p0
        obtain ⟨p, vs, W, hp, hfp, rfl, HBN, HWT, HBW, HRD, HXK⟩ := hrel
        by_cases hpm : p < m
        · have hpI : (p : Int) < (m : Int) := by omega
          obtain ⟨A4, c4, e4, _, hcell⟩ := HRD.out
          injection e4 with e5 e6 e7
          subst e5
          obtain ⟨b4, o4, rfl, p0⟩ := hcell p (by rw [HM.out]; exact hpm)
          obtain ⟨y, hy⟩ : ∃ y, ys.getD p [] = y := ⟨_, rfl⟩
          rw [hy] at p0
          have HTK : Hid (ys.take (p + 1) = ys.take p ++ [y]) := Lib.hid (by rw [← hy]; exact take_snocT ys p (by rw [HM.out]; exact hpm))
          have HR : Hid (RowAtS wr w.heap.size g mb (.slice (some ⟨ra, 0, none⟩) N cv) T) := Lib.hid (by have h1 := HBW.out; rw [← HBS.out] at h1; exact HR1.out.under h1)
          have hyo : ∀ c ∈ y, c < 256 := HYO.out y (by
            rw [← hy, List.getD_eq_getElem?_getD, List.getElem?_eq_getElem (by rw [HM.out]; exact hpm)]
            exact List.getElem_mem _)
          have HPLC := Lib.hid (place_anyS y hyo HR.out)
          clear hyo
          clear hcell e6 e7 hy
          rcases hpl : plcS T y with _ | a
          · have HF : Hid ((ys.take (p + 1)).filterMap (plcS T) = (ys.take p).filterMap (plcS T)) := Lib.hid (by rw [HTK.out, List.filterMap_append]; simp [hpl])
            rw [hpl] at HPLC
            clear hpl
            go_wp2_with fail
            refine HPLC.out.mono ?_
            rintro e w5 ⟨rfl, hb5⟩
            have HBN5 := Lib.hid (HBN.out.under hb5)
            have HBW5 : Hid (Below b w1 w5) := Lib.hid (HBW.out.trans (hb5.mono (by rw [← HBS.out]; exact HBW.out.size)))
            have HRD5 := Lib.hid (HRD.out.under hb5)
            have HXK5 : Hid (∀ k, (Value.slice (some ⟨b4, o4, none⟩) m c3).ownBlock = some k → ¬ Bk b (.slice (some ⟨ub, 0, none⟩) N N) vs N k ∧ k < w5.heap.size) := Lib.hid (fun k hk => ⟨(HXK.out k hk).1, Nat.lt_of_lt_of_le (HXK.out k hk).2 hb5.size⟩)
            clear hb5
            go_wp2_with fail
            go_roundg (m - (p + 1))
            case measure => omega
            case rel => exact ⟨p + 1, vs, W, hpm, by omega, by go_num, by rw [HF.out]; exact HBN5, by rw [HF.out]; exact HWT, HBW5, HRD5, HXK5⟩
          · have HF : Hid ((ys.take (p + 1)).filterMap (plcS T) = (ys.take p).filterMap (plcS T) ++ [a]) := Lib.hid (by rw [HTK.out, List.filterMap_append]; simp [hpl])
            have haN : a < N := by have := plc_ltS hpl; rw [HTN.out] at this; exact this
            have haI : (a : Int) < (N : Int) := by omega
            rw [hpl] at HPLC
            have hFL : ((ys.take p).filterMap (plcS T)).length ≤ 1000 := by
              have h1 := List.length_filterMap_le (plcS T) (ys.take p)
              rw [List.length_take] at h1
              omega
            obtain ⟨F, hF⟩ : ∃ F, (ys.take p).filterMap (plcS T) = F := ⟨_, rfl⟩
            rw [hF] at HF HBN HWT hFL
            have hiI3 : (i : Int) < (N : Int) := by omega
            clear hpl hF HTK
            go_wp2_with fail
            refine HPLC.out.mono ?_
            rintro e w5 ⟨rfl, hb5⟩
            have HBN5 := Lib.hid (HBN.out.under hb5)
            have HBW5 : Hid (Below b w1 w5) := Lib.hid (HBW.out.trans (hb5.mono (by rw [← HBS.out]; exact HBW.out.size)))
            have HRD5 := Lib.hid (HRD.out.under hb5)
            have HXK5 : Hid (∀ k, (Value.slice (some ⟨b4, o4, none⟩) m c3).ownBlock = some k → ¬ Bk b (.slice (some ⟨ub, 0, none⟩) N N) vs N k ∧ k < w5.heap.size) := Lib.hid (fun k hk => ⟨(HXK.out k hk).1, Nat.lt_of_lt_of_le (HXK.out k hk).2 hb5.size⟩)
            clear hb5 HBN HBW HRD HXK HPLC HR
            obtain ⟨Aq, cq, hvq, _⟩ := (HBN5.out.own a haN).parts
            obtain ⟨R, hR⟩ : ∃ R, (Gr.addRow i F (Gr.bins P N i)).getD a [] = R := ⟨_, rfl⟩
            have hRL : R.length ≤ 1000000 := by
              have h1 := Gr.addRow_lenrow i a F (Gr.bins P N i)
              have h2 := Gr.bins_lenrow P N B HPB.out a i
              rw [hR] at h1
              have h3 : i * B ≤ 1000 * 1000 := Nat.mul_le_mul (by omega) hB
              have h4 : i * B ≤ 999 * 1000 := Nat.mul_le_mul (by omega) hB
              omega
            obtain ⟨nq, hnq⟩ : ∃ q, R.length = q := ⟨_, rfl⟩
            rw [hR, hnq] at hvq
            have HVQ := Lib.hid hvq
            have p1 : w5.cell? ⟨b, a, none⟩ = some (.slice Aq nq cq) := by rw [← HVQ.out]; exact HBN5.out.cell haN
            have HOQ : Hid (OwnI w5 b (.slice Aq nq cq) R) := Lib.hid (by have h1 := HBN5.out.own a haN; rw [hR, hvq] at h1; exact h1)
            have hbw5 : b ≤ w5.heap.size := by have h1 := HBW5.out.size; rw [← HBS.out]; exact h1
            have HRR := Lib.hid hR
            have HNQ : Hid (R.length ≤ 1000000) := Lib.hid hRL
            clear hvq hnq hRL hR
            go_wp2_with (first
              | (at_builtin; refine wpList_append_intT 22 Try.underlying22 rfl _ _ rfl b (.slice Aq nq cq) R w5.heap.size i rfl (HOQ.out.under ((Below.refl _ _).alloc (Nat.le_refl _) _)) rfl (cell_new_int w5 _ _) (by have := HNQ.out; omega) (by simp; omega) ?_; intro v6 w6 ho6 hg6 hat6
                 obtain ⟨A6, c6, hu6, _⟩ := ho6.parts
                 obtain ⟨m6, hm6⟩ : ∃ q, (R ++ [i]).length = q := ⟨_, rfl⟩
                 rw [hm6] at hu6
                 subst hu6
                 have hM6 : Moves (fun j => (vs.getD a undef).ownBlock = some j) w5 w6 := by
                   rw [HVQ.out]
                   exact (Moves.under ((Below.refl _ w5).alloc (Nat.le_refl _) _)).trans (Moves.grown hg6)
                 have hA6 : ∀ k, (Value.slice A6 m6 c6).ownBlock = some k → (vs.getD a undef).ownBlock = some k ∨ w5.heap.size ≤ k := fun k hk => by
                   rcases hat6 with h1 | h1
                   · exact .inl (by rw [HVQ.out, ← h1]; exact hk)
                   · rw [h1] at hk
                     injection hk with hk
                     simp at hk
                     exact .inr (by omega)
                 have hapq := HBN5.out.app haN (i := i) (by rw [HRR.out]; exact ho6) hM6 hA6
                 have HBA := Lib.hid hapq.1
                 have HMA := Lib.hid hapq.2
                 have HA6 := Lib.hid hA6
                 have hb6 : Blk w6 b 22 vs.toArray := HBN5.out.row.moves hM6 (own_not_blk (by decide) HBN5.out.row (HBN5.out.own a haN))
                 have p6 : w6.cell? ⟨b, a, none⟩ = some (.slice Aq nq cq) := by
                   have h1 := hb6.at a
                   rw [List.getElem?_toArray] at h1
                   have h2 := HBN5.out.row.at a
                   rw [List.getElem?_toArray] at h2
                   rw [h1, ← h2]
                   exact p1
                 have f6 : w6.frozen? ⟨b, a, none⟩ = false := hb6.free a
                 obtain ⟨w7, hw7⟩ : ∃ W, w6.setCell ⟨b, a, none⟩ (.slice A6 m6 c6) = W := ⟨_, rfl⟩
                 rw [hw7] at HBA HMA
                 obtain ⟨wi, hwi⟩ : ∃ q, W.getD i 0 = q := ⟨_, rfl⟩
                 have hwiB : wi ≤ 1000 := by
                   rw [← hwi, HWT.out i hiN, if_neg (by omega), if_pos rfl]
                   exact hFL
                 have hop7 := HBA.out.wt.open (i := i) (by rw [HBA.out.wl]; exact hiN)
                 rw [HBA.out.wl] at hop7
                 obtain ⟨ra7, ca7, hra7, _, _, _, hcell7⟩ := hop7
                 injection hra7 with hr71 hr72 hr73
                 injection hr71 with hr71
                 injection hr71 with hr71
                 subst hr71
                 have p7 := (hcell7 i hiN).1
                 have f7 := (hcell7 i hiN).2
                 rw [hwi] at p7
                 clear ho6 hg6 hat6 hM6 hA6 hapq hb6 hm6 hcell7 hr72 hr73)
              | fail)
            have hinc := HBA.out.inc (j := i) (wi + 1)
            rw [show ((wi + 1 : Nat) : Int) = (wi : Int) + 1 from rfl] at hinc
            have HBF := Lib.hid hinc.1
            have HM8 : Hid (Moves (Bk b (.slice (some ⟨ub, 0, none⟩) N N) vs N) w5 (w7.setCell ⟨ub, i, none⟩ (.int .i64 ((wi : Int) + 1)))) := Lib.hid (HMA.out.then hinc.2 fun k _ e => .inr (.inl e))
            have HWT8 : Hid (∀ j, j < N → (W.set i (wi + 1)).getD j 0 = if j < i then (P j).length else if j = i then (F ++ [a]).length else 0) := Lib.hid (fun j hj => by
              rw [Gr.set_get W i (wi + 1) j (by rw [HBN5.out.wl]; exact hiN)]
              have h0 := HWT.out j hj
              by_cases e : j = i
              · subst e
                rw [if_pos rfl, if_neg (by omega), if_pos rfl]
                rw [if_neg (by omega), if_pos rfl, hwi] at h0
                simp
                exact h0
              · rw [if_neg e, h0, if_neg e, if_neg e])
            have HRD8 := Lib.hid (HRD5.out.moves HM8.out fun k hk => (HXK5.out k hk).1)
            have HBW8 : Hid (Below b w1 (w7.setCell ⟨ub, i, none⟩ (.int .i64 ((wi : Int) + 1)))) := Lib.hid (HBW5.out.trans (HM8.out.below hbw5 fun k hk => by
              rcases hk with e | e | ⟨j, hj, e⟩
              · omega
              · injection e with e
                change ub = k at e
                have := HUB.out
                omega
              · exact ((HBN5.out.own j hj).lt k e).1))
            have HXK8 : Hid (∀ k, (Value.slice (some ⟨b4, o4, none⟩) m c3).ownBlock = some k → ¬ Bk b (.slice (some ⟨ub, 0, none⟩) N N) (vs.set a (.slice A6 m6 c6)) N k ∧ k < (w7.setCell ⟨ub, i, none⟩ (.int .i64 ((wi : Int) + 1))).heap.size) := Lib.hid (fun k hk => by
              obtain ⟨h1, h2⟩ := HXK5.out k hk
              refine ⟨fun e => ?_, Nat.lt_of_lt_of_le h2 HM8.out.size⟩
              rcases e with e | e | ⟨j, hj, e⟩
              · exact h1 (.inl e)
              · exact h1 (.inr (.inl e))
              · rw [getD_setV vs a j _ (by rw [HBN5.out.vl]; exact haN)] at e
                by_cases q : j = a
                · rw [if_pos q] at e
                  rcases HA6.out k e with h3 | h3
                  · exact h1 (.inr (.inr ⟨a, haN, h3⟩))
                  · omega
                · rw [if_neg q] at e
                  exact h1 (.inr (.inr ⟨j, hj, e⟩)))
            clear hinc hwi hw7 p7 f7 p6 f6 p1 p0 HBN5 HBW5 HRD5 HXK5 HMA HBA HA6 HOQ HVQ
            go_roundg (m - (p + 1))
            case measure => omega
            case rel => exact ⟨p + 1, _, _, hpm, by omega, by go_num, by rw [HF.out, Gr.addRow_snoc]; exact HBF, by rw [HF.out]; exact HWT8, HBW8, HRD8, HXK8⟩
        · obtain rfl : m = p := by omega
          have hpI : ¬ (m : Int) < (m : Int) := by omega
          have HPF : Hid ((ys.take m).filterMap (plcS T) = P i) := Lib.hid (by rw [List.take_of_length_le (by rw [HM.out]; exact Nat.le_refl _), HPI.out])
          have HBF : Hid (Bins wr b b (.slice (some ⟨ub, 0, none⟩) N N) vs (Gr.bins P N (i + 1)) W N) := Lib.hid (by have h1 := HBN.out; rw [HPF.out] at h1; exact h1)
          have HWF : Hid (∀ j, j < N → W.getD j 0 = if j < i + 1 then (P j).length else 0) := Lib.hid (fun j hj => by
            have h0 := HWT.out j hj
            rw [HPF.out] at h0
            rw [h0]
            by_cases e : j = i
            · subst e
              rw [if_neg (by omega), if_pos rfl, if_pos (by omega)]
            · by_cases q : j < i
              · rw [if_pos q, if_pos (by omega)]
              · rw [if_neg q, if_neg e, if_neg (by omega)])
          clear HBN HWT HRD HXK HPF
          go_wp2_with fail
          go_roundg (N - (i + 1))
          case measure => omega
          case rel => exact ⟨i + 1, vs, W, hiN, by omega, by go_num, HBF, HWF, HBW⟩
    · obtain rfl : N = i := by omega
      have hiI : ¬ (N : Int) < (N : Int) := by omega
      have HSM : Hid (∀ i, i < N → (P i).length ≤ 1000) := Lib.hid (fun i _ => Nat.le_trans (HPB.out i) hB)
      have HFI := Lib.hid (first_any N HBN.out (by omega) (fun lr hlr => by
          obtain ⟨k, hk, rfl⟩ := List.getElem_of_mem hlr
          have e : (Gr.bins P N N)[k] = (Gr.bins P N N).getD k [] := by rw [List.getD_eq_getElem?_getD, List.getElem?_eq_getElem hk]; rfl
          rw [e]
          refine ⟨fun x hx => Gr.bins_small P N HPL.out N k x hx, ?_⟩
          have h1 := Gr.bins_lenrow P N B HPB.out k N
          have h2 : N * B ≤ 1000 * 1000 := Nat.mul_le_mul (by omega) hB
          omega) (fun j hj => by
          rw [HWT.out j hj, if_pos hj, Gr.cnt_bins P N j N HPL.out N, if_pos hj, Gr.sums_all _ _ (HPL.out j)]) (fun x hx => by
          obtain ⟨k, hk, rfl⟩ := List.getElem_of_mem hx
          have hkN : k < N := by rw [← HBN.out.wl]; exact hk
          have h1 := HWT.out k hkN
          rw [if_pos hkN, List.getD_eq_getElem?_getD, List.getElem?_eq_getElem hk] at h1
          have h2 := HSM.out k hkN
          simp at h1
          omega) N)
      rw [Gr.run_bins P N HPL.out] at HFI
      obtain ⟨O, hO⟩ : ∃ O, Gr.ord P N = O := ⟨_, rfl⟩
      have HOL : Hid (O.length ≤ N) := Lib.hid (by rw [← hO]; exact Gr.ord_len P N)
      have HOS : Hid (∀ t ∈ O, t < N) := Lib.hid (by rw [← hO]; exact Gr.ord_small P N)
      have HOE := Lib.hid hO
      rw [hO] at HFI
      have HLT : Hid (∀ k, RxS g mb (.slice Av N cv) k → k < b) := Lib.hid (fun k hk => by
        rcases hk with e | e | e
        · omega
        · have := HR1.out.map.lt; have := HBS.out; omega
        · have := (HR1.out.row.lt k e).2; have := HBS.out; omega)
      clear hO
      go_wp2_with fail
      refine HFI.out.mono ?_
      rintro e w4 ⟨v2, rfl, ho2, hm2⟩
      obtain ⟨A2, c2, hv2, _⟩ := ho2.parts
      obtain ⟨M, hM⟩ : ∃ M, O.length = M := ⟨_, rfl⟩
      rw [hM] at hv2
      subst hv2
      have HOM := Lib.hid hM
      have HO2 := Lib.hid ho2
      have HR4 : Hid (RowAtS w4 w.heap.size g mb (.slice Av N cv) T) := Lib.hid (HR.out.moves hm2 (fun k hk e => by
        have h1 := HLT.out k hk
        injection e with e
        change ub = k at e
        have := HUB.out
        omega))
      have HW4 : Hid (Below w.heap.size w w4) := Lib.hid (HW0.out.trans (hm2.below HW0.out.size (fun k e => by
        injection e with e
        change ub = k at e
        have := HUB.out
        have := HB1.out.size
        have := HBS.out
        omega)))
      have hMB : M ≤ 1000 := by rw [← hM]; exact Nat.le_trans HOL.out hTl
      clear ho2 hm2 hM HFI HBN HWT q0 HBW HR HW0 hiI hfu hi hiN
      go_upto_block 6 with fail
      go_wp2_with fail
      go_loopg [87, 17] M (fun f' iv tv wx => ∃ (q : Nat), q ≤ M ∧ M - q ≤ f' ∧ iv = .int .i64 (q : Int) ∧ Hid (OwnT wx w4.heap.size tv ((O.take q).map fun i => T.getD i [])) ∧ Hid (Below w4.heap.size w4 wx))
      case atStart => exact ⟨0, Nat.zero_le _, by omega, rfl, Lib.hid (ownT_none _ _), Lib.hid (Below.refl _ _)⟩
      case round =>
        obtain ⟨q, hq, hfq, hqv, HOT, HBW⟩ := hrel
        subst hqv
        have HR5 := Lib.hid (HR4.out.under HBW.out)
        have q0 : wr.cell? ⟨g, 0, none⟩ = some (.slice Av N cv) := HR5.out.box.at 0
        have hw4s := HBW.out.size
        by_cases hqM : q < M
        · have hqI : (q : Int) < (M : Int) := by omega
          have ho5 := HO2.out.under HBW.out
          have hop := ho5.open (i := q) (by rw [HOM.out]; exact hqM)
          rw [HOM.out] at hop
          obtain ⟨r2, ca2, hr2, _, _, _, hcell⟩ := hop
          injection hr2 with hr21 hr22 hr23
          subst hr21
          have p1 := (hcell q hqM).1
          obtain ⟨o, ho⟩ : ∃ o, O.getD q 0 = o := ⟨_, rfl⟩
          have hoN : o < N := by
            rw [← ho, List.getD_eq_getElem?_getD, List.getElem?_eq_getElem (by rw [HOM.out]; exact hqM)]
            exact HOS.out _ (List.getElem_mem _)
          have HTK : Hid ((O.take (q + 1)).map (fun i => T.getD i []) = (O.take q).map (fun i => T.getD i []) ++ [T.getD o []]) := Lib.hid (by
            rw [take_snoc O q (by rw [HOM.out]; exact hqM), ho, List.map_append]
            rfl)
          rw [ho] at p1
          have hoI : (o : Int) < (N : Int) := by omega
          have hop2 := HR5.out.row.open (i := o) (by rw [HTN.out]; exact hoN)
          rw [HTN.out] at hop2
          obtain ⟨rv, cav, hrv, _, _, _, hcell2⟩ := hop2
          injection hrv with hrv1 hrv2 hrv3
          subst hrv1
          have p2 := (hcell2 o hoN).1
          obtain ⟨x, hx⟩ : ∃ x, T.getD o [] = x := ⟨_, rfl⟩
          rw [hx] at p2 HTK
          have HLQ : Hid (((O.take q).map fun i => T.getD i []).length ≤ 1000) := Lib.hid (by rw [List.length_map, List.length_take]; omega)
          clear hcell hcell2 hr22 hr23 hrv2 hrv3 ho hx ho5
          go_wp2_with (first
            | (at_builtin; refine wpList_append_textT 24 Try.underlying24 rfl _ _ rfl w4.heap.size u17 _ wr.heap.size x rfl (HOT.out.under ((Below.refl _ _).alloc (Nat.le_refl _) _)) rfl (cell_new_text wr _ _) (by have := HLQ.out; omega) (by simp; omega) ?_; intro tv6 w6 ho6 hg6 hat6
               have HO6 : Hid (OwnT w6 w4.heap.size tv6 ((O.take (q + 1)).map fun i => T.getD i [])) := Lib.hid (by rw [HTK.out]; exact ho6)
               have HB6 : Hid (Below w4.heap.size w4 w6) := Lib.hid (HBW.out.trans (((Below.refl _ _).alloc hw4s _).trans ((Below.refl _ _).grown hg6 (by simp; omega) fun k hk => (HOT.out.lt k hk).1)))
               clear ho6 hg6 hat6)
            | fail)
          go_roundg (M - (q + 1))
          case measure => omega
          case rel => exact ⟨q + 1, hqM, by omega, by go_num, HO6, HB6⟩
        · obtain rfl : M = q := by omega
          have hqI : ¬ (M : Int) < (M : Int) := by omega
          have hall : O.take M = O := List.take_of_length_le (by rw [HOM.out]; exact Nat.le_refl _)
          have hot := HOT.out
          rw [hall] at hot
          obtain ⟨At, ct, hut, _⟩ := hot.shapeS
          rw [List.length_map, HOM.out] at hut
          have HOF : Hid (OwnT wr w.heap.size (.slice At M ct) (O.map fun i => T.getD i [])) := Lib.hid (by
            rw [← hut]
            exact World.ownsRow.mono hot HW4.out.size)
          have HBF : Hid (Below w.heap.size w wr) := Lib.hid (HW4.out.trans (HBW.out.mono HW4.out.size))
          have HOI : Hid (∀ e w', OrderIsS T f w e w' = if M < N then e = .returned (.tuple #[.slice none 0 0, .bool false]) else ∃ v, e = .returned (.tuple #[v, .bool true]) ∧ OwnT w' w.heap.size v (O.map fun i => T.getD i [])) := Lib.hid (fun e w' => by
            unfold OrderIsS
            rw [HPP.out, HTN.out, HOE.out, HOM.out])
          clear hot hall HOT
          subst hut
          by_cases hMN : M < N
          · have hMI : (M : Int) < (N : Int) := by omega
            go_wp2_with fail
            go_ret2
            rw [HOI.out, if_pos hMN]
            exact ⟨rfl, HBF.out⟩
          · have hMI : ¬ (M : Int) < (N : Int) := by omega
            go_wp2_with fail
            go_ret2
            rw [HOI.out, if_neg hMN]
            exact ⟨⟨_, rfl, HOF.out⟩, HBF.out⟩
end Go.Proofs.Ytemliglhippdcaa

/- Package fettleref1: whether two rows of numbers, or of texts, are the same; any rows that are read. -/
namespace Go.Proofs.Ytemliglhippdcaa
set_option maxRecDepth 100000
open Go.ChangeShapes Go.WideShapes Go.ChangeAt Go.RowKit

theorem bel_drewN (w : World) (n : Nat) : Below w.heap.size w (w.drewN n) := ⟨rfl, rfl, rfl, Nat.le_refl _, fun _ _ => rfl⟩
theorem samei_next {A B : List Nat} {n k : Nat} (ha : A.length = n) (hb : B.length = n) (hk : k < n) (h : A.take k = B.take k) (he : A.getD k 0 = B.getD k 0) : A.take (k + 1) = B.take (k + 1) := by
  rw [List.take_succ_eq_append_getElem (by omega), List.take_succ_eq_append_getElem (by omega), h]
  rw [List.getD_eq_getElem?_getD, List.getD_eq_getElem?_getD, List.getElem?_eq_getElem (by omega), List.getElem?_eq_getElem (by omega)] at he
  rw [show A[k] = B[k] from he]
set_option maxHeartbeats 4000000 in
theorem sameints_any (A B : List Nat) (va vb : Value) (w : World) (ha : RdN w va A) (hb : RdN w vb B) (hm : A.length ≤ 1000000) (hm2 : B.length ≤ 1000000) :
    Calls Try.prog 18 #[va, vb] w fun e w' => e = .returned (.bool (decide (A = B))) ∧ Below w.heap.size w w' := by
  obtain ⟨P1, c1, rfl, hc1, hp1⟩ := ha
  obtain ⟨P2, c2, rfl, hc2, hp2⟩ := hb
  obtain ⟨n, hn⟩ : ∃ n, A.length = n := ⟨_, rfl⟩
  obtain ⟨m, hmm⟩ : ∃ m, B.length = m := ⟨_, rfl⟩
  have HP1 := Lib.hid hp1
  have HP2 := Lib.hid hp2
  have HN := Lib.hid hn
  have HM := Lib.hid hmm
  rw [hn] at hc1 hm ⊢
  rw [hmm] at hc2 hm2 ⊢
  clear hp1 hp2 hn hmm
  by_cases hnm : n = m
  · subst hnm
    go_enter Try.func18, Try.ntmps18
    go_wp2_with fail
    go_loopw [5] (fun iv wr => ∃ k : Nat, k ≤ n ∧ iv = .int .i64 (k : Int) ∧ Hid (A.take k = B.take k) ∧ ∃ nq, wr = w.drewN nq) (fun iv _ => n - (intOf iv).toNat)
    case atStart => exact ⟨0, by omega, rfl, Lib.hid (by simp), 0, rfl⟩
    case round =>
      obtain ⟨k, hk, rfl, HT, nq, rfl⟩ := hrel
      by_cases hlt : k < n
      · have hlt' : (k : Int) < (n : Int) := by omega
        obtain ⟨g1, o1, rfl, e1⟩ := HP1.out k (by rw [HN.out]; omega)
        obtain ⟨g2, o2, rfl, e2⟩ := HP2.out k (by rw [HM.out]; omega)
        obtain ⟨l1, hl1⟩ : ∃ l, A.getD k 0 = l := ⟨_, rfl⟩
        obtain ⟨l2, hl2⟩ : ∃ l, B.getD k 0 = l := ⟨_, rfl⟩
        rw [hl1] at e1
        rw [hl2] at e2
        have HL1 := Lib.hid hl1
        have HL2 := Lib.hid hl2
        clear hl1 hl2
        by_cases hd : l1 = l2
        · have HT2 : Hid (A.take (k + 1) = B.take (k + 1)) := Lib.hid (samei_next HN.out HM.out hlt HT.out (by rw [HL1.out, HL2.out]; exact hd))
          subst hd
          go_wp2_with fail
          go_quiet (fail)
          go_wp2
          go_roundw
          case rel => exact ⟨k + 1, by omega, by go_num, HT2, _, rfl⟩
          case measure => simp [intOf]; omega
        · have HV : Hid (decide (A = B) = false) := Lib.hid (decide_eq_false fun e => hd (by rw [← HL1.out, ← HL2.out, e]))
          have hdi : ¬ (l1 : Int) = (l2 : Int) := by omega
          clear hd
          go_wp2_with fail
          go_quiet (fail)
          go_wp2
          go_ret
          exact ⟨by rw [HV.out]; rfl, (bel_drewN w _).trans (bel_drewN (w.drewN _) _)⟩
      · obtain rfl : k = n := by omega
        have HV : Hid (decide (A = B) = true) := Lib.hid (decide_eq_true (by
          have := HT.out
          rwa [List.take_of_length_le (by rw [HN.out]; exact Nat.le_refl _), List.take_of_length_le (by rw [HM.out]; exact Nat.le_refl _)] at this))
        go_wp2
        go_ret
        exact ⟨by rw [HV.out]; rfl, bel_drewN w _⟩
  · have HV : Hid (decide (A = B) = false) := Lib.hid (decide_eq_false fun e => hnm (by rw [← HN.out, ← HM.out, e]))
    have hnz : ((n : Int) == (m : Int)) = false := by simp; omega
    clear hnm
    go_enter Try.func18, Try.ntmps18
    go_wp2
    go_ret
    exact ⟨by rw [HV.out]; rfl, Below.refl _ _⟩
/-- Whether two rows of texts are the same. -/
theorem sameS_next {A B : List (List Nat)} {n k : Nat} (ha : A.length = n) (hb : B.length = n) (hk : k < n) (h : A.take k = B.take k) (he : A.getD k [] = B.getD k []) : A.take (k + 1) = B.take (k + 1) := by
  rw [List.take_succ_eq_append_getElem (by omega), List.take_succ_eq_append_getElem (by omega), h]
  rw [List.getD_eq_getElem?_getD, List.getD_eq_getElem?_getD, List.getElem?_eq_getElem (by omega), List.getElem?_eq_getElem (by omega)] at he
  rw [show A[k] = B[k] from he]
set_option maxHeartbeats 4000000 in
theorem sametexts_any (A B : List (List Nat)) (va vb : Value) (w : World) (x y : Nat) (ha : OwnT w x va A) (hb : OwnT w y vb B) (hA : ∀ l ∈ A, ∀ c ∈ l, c < 256) (hB : ∀ l ∈ B, ∀ c ∈ l, c < 256) (hm : A.length ≤ 1099511627776) (hm2 : B.length ≤ 1099511627776) :
    Calls Try.prog 19 #[va, vb] w fun e w' => e = .returned (.bool (decide (A = B))) ∧ Below w.heap.size w w' := by
  have parts : ∀ {z : Nat} {v : Value} {L : List (List Nat)}, OwnT w z v L → ∃ P c, v = .slice P L.length c ∧ L.length ≤ c ∧ (0 < L.length → ∃ g, P = some ⟨g, 0, none⟩) := fun {z v L} h => by
    rcases h.2 with ⟨rfl, h0⟩ | ⟨g, cap, cur, rfl, _, _, hc, _⟩
    · exact ⟨none, 0, by rw [h0], by omega, fun h => by omega⟩
    · exact ⟨_, cap, rfl, hc, fun _ => ⟨g, rfl⟩⟩
  obtain ⟨P1, c1, rfl, hc1, hp1⟩ := parts ha
  obtain ⟨P2, c2, rfl, hc2, hp2⟩ := parts hb
  obtain ⟨n, hn⟩ : ∃ n, A.length = n := ⟨_, rfl⟩
  obtain ⟨m, hmm⟩ : ∃ m, B.length = m := ⟨_, rfl⟩
  have H1 := Lib.hid ha
  have H2 := Lib.hid hb
  have HP1 := Lib.hid hp1
  have HP2 := Lib.hid hp2
  have HN := Lib.hid hn
  have HM := Lib.hid hmm
  have HA := Lib.hid hA
  have HB := Lib.hid hB
  rw [hn] at hc1 hm ⊢
  rw [hmm] at hc2 hm2 ⊢
  clear ha hb hp1 hp2 hn hmm hA hB parts
  by_cases hnm : n = m
  · subst hnm
    go_enter Try.func19, Try.ntmps19
    go_wp2_with fail
    go_loopw [5] (fun iv wr => ∃ k : Nat, k ≤ n ∧ iv = .int .i64 (k : Int) ∧ Hid (A.take k = B.take k) ∧ ∃ nq, wr = w.drewN nq) (fun iv _ => n - (intOf iv).toNat)
    case atStart => exact ⟨0, by omega, rfl, Lib.hid (by simp), 0, rfl⟩
    case round =>
      obtain ⟨k, hk, rfl, HT, nq, rfl⟩ := hrel
      by_cases hlt : k < n
      · have hlt' : (k : Int) < (n : Int) := by omega
        obtain ⟨g1, rfl⟩ := HP1.out (by rw [HN.out]; omega)
        obtain ⟨g2, rfl⟩ := HP2.out (by rw [HM.out]; omega)
        obtain ⟨l1, hl1⟩ : ∃ l, A.getD k [] = l := ⟨_, rfl⟩
        obtain ⟨l2, hl2⟩ : ∃ l, B.getD k [] = l := ⟨_, rfl⟩
        have q1 : ∀ j, (w.drewN j).cell? ⟨g1, k, none⟩ = some (.string (str l1)) := fun j => by rw [← hl1]; exact OwnT.cell H1.out (by rw [HN.out]; exact hlt)
        have q2 : ∀ j, (w.drewN j).cell? ⟨g2, k, none⟩ = some (.string (str l2)) := fun j => by rw [← hl2]; exact OwnT.cell H2.out (by rw [HM.out]; exact hlt)
        have e1 : w.cell? ⟨g1, k, none⟩ = some (.string (str l1)) := q1 0
        have e2 : w.cell? ⟨g2, k, none⟩ = some (.string (str l2)) := q2 0
        have hb1 : ∀ c ∈ l1, c < 256 := by
          rw [← hl1, List.getD_eq_getElem?_getD, List.getElem?_eq_getElem (by rw [HN.out]; exact hlt)]
          exact HA.out _ (List.getElem_mem _)
        have hb2 : ∀ c ∈ l2, c < 256 := by
          rw [← hl2, List.getD_eq_getElem?_getD, List.getElem?_eq_getElem (by rw [HM.out]; exact hlt)]
          exact HB.out _ (List.getElem_mem _)
        have hse := str_same hb1 hb2
        have HL1 := Lib.hid hl1
        have HL2 := Lib.hid hl2
        clear hl1 hl2 hb1 hb2 q1 q2
        by_cases hd : l1 = l2
        · have HT2 : Hid (A.take (k + 1) = B.take (k + 1)) := Lib.hid (sameS_next HN.out HM.out hlt HT.out (by rw [HL1.out, HL2.out]; exact hd))
          rw [decide_eq_true hd] at hse
          clear hd
          go_wp2_with fail
          go_quiet (fail)
          go_wp2
          go_roundw
          case rel => exact ⟨k + 1, by omega, by go_num, HT2, _, rfl⟩
          case measure => simp [intOf]; omega
        · have HV : Hid (decide (A = B) = false) := Lib.hid (decide_eq_false fun e => hd (by rw [← HL1.out, ← HL2.out, e]))
          rw [decide_eq_false hd] at hse
          clear hd
          go_wp2_with fail
          go_quiet (fail)
          go_wp2
          go_ret
          exact ⟨by rw [HV.out]; rfl, (bel_drewN w _).trans (bel_drewN (w.drewN _) _)⟩
      · obtain rfl : k = n := by omega
        have HV : Hid (decide (A = B) = true) := Lib.hid (decide_eq_true (by
          have := HT.out
          rwa [List.take_of_length_le (by rw [HN.out]; exact Nat.le_refl _), List.take_of_length_le (by rw [HM.out]; exact Nat.le_refl _)] at this))
        go_wp2
        go_ret
        exact ⟨by rw [HV.out]; rfl, bel_drewN w _⟩
  · have HV : Hid (decide (A = B) = false) := Lib.hid (decide_eq_false fun e => hnm (by rw [← HN.out, ← HM.out, e]))
    have hnz : ((n : Int) == (m : Int)) = false := by simp; omega
    clear hnm
    go_enter Try.func19, Try.ntmps19
    go_wp2
    go_ret
    exact ⟨by rw [HV.out]; rfl, Below.refl _ _⟩
end Go.Proofs.Ytemliglhippdcaa
