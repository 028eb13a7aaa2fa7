/- fettlelaw8: edges: which things are ahead of which. -/
import Derived.Test.YtemliglhippdcaaZ32
import Derived.Test.YtemliglhippdcaaZ31
namespace Go.Proofs.Ytemliglhippdcaa
set_option maxRecDepth 100000
open Go.ChangeShapes Go.WideShapes Go.ChangeAt Go.RowKit

/-- A block of slices of places, each a row of its own, apart from the others. -/
structure Bn (w : World) (base b : Nat) (T : TypeId) (vs : List Value) (Ls : List (List Nat)) (N : Nat) : Prop where
  row : Blk w b T vs.toArray
  vl : vs.length = N
  ll : Ls.length = N
  own : ∀ i, i < N → OwnI w base (vs.getD i undef) (Ls.getD i [])
  apt : ∀ i j, i < N → j < N → i ≠ j → AptI (vs.getD i undef) (vs.getD j undef)
def Bkn (b : Nat) (vs : List Value) (N : Nat) : Nat → Prop := fun k => k = b ∨ ∃ i, i < N ∧ (vs.getD i undef).ownBlock = some k
theorem Bn.under {w w' : World} {base b : Nat} {T : TypeId} {vs : List Value} {Ls : List (List Nat)} {N : Nat} (h : Bn w base b T vs Ls N) (hb : Below w.heap.size w w') : Bn w' base b T vs Ls N :=
  ⟨h.row.under hb, h.vl, h.ll, fun i hi => (h.own i hi).under hb, h.apt⟩
theorem Bn.cell {w : World} {base b : Nat} {T : TypeId} {vs : List Value} {Ls : List (List Nat)} {N : Nat} (h : Bn w base b T vs Ls N) {i : Nat} (hi : i < N) : w.cell? ⟨b, i, none⟩ = some (vs.getD i undef) := by
  rw [h.row.at i, List.getElem?_toArray, List.getD_eq_getElem?_getD, List.getElem?_eq_getElem (by rw [h.vl]; exact hi)]
  rfl
theorem Bn.app {w w' : World} {base b N a i : Nat} {T : TypeId} {v' : Value} {vs : List Value} {Ls : List (List Nat)} (hT : T ≠ 3) (h : Bn w base b T vs Ls N) (ha : a < N) (ho : OwnI w' base v' (Ls.getD a [] ++ [i]))
    (hm : Moves (fun k => (vs.getD a undef).ownBlock = some k) w w') (hat : ∀ k, v'.ownBlock = some k → (vs.getD a undef).ownBlock = some k ∨ w.heap.size ≤ k) :
    Bn (w'.setCell ⟨b, a, none⟩ v') base b T (vs.set a v') (Gr.add1 i Ls a) N ∧ Moves (Bkn b vs N) w (w'.setCell ⟨b, a, none⟩ v') := by
  have hal : a < vs.length := by rw [h.vl]; exact ha
  have hMS := Moves.setCell w' ⟨b, a, none⟩ v'
  have hnb : (vs.getD a undef).ownBlock ≠ some b := own_not_blk hT h.row (h.own a ha)
  have hM2 : Moves (Bkn b vs N) w (w'.setCell ⟨b, a, none⟩ v') := (hm.wide (T := Bkn b vs N) fun k _ e => .inr ⟨a, ha, e⟩).then hMS fun k _ e => .inl e
  have hrow : Blk w' b T vs.toArray := h.row.moves hm hnb
  have hgv := fun j => getD_setV vs a j v' hal
  have hbs := h.row.size
  have hvb : ∀ k, v'.ownBlock = some k → ¬ k = b := fun k hk e => by
    subst e
    rcases hat k hk with h1 | h1
    · exact hnb h1
    · omega
  have hown : ∀ j, j < N → j ≠ a → OwnI (w'.setCell ⟨b, a, none⟩ v') base (vs.getD j undef) (Ls.getD j []) := fun j hj hja =>
    ((h.own j hj).moves hm (fun k hk e => h.apt j a hj ha hja k hk e)).moves hMS fun k hk e => own_not_blk hT h.row (h.own j hj) (by rw [hk, e])
  have hlt : ∀ j, j < N → ∀ k, (vs.getD j undef).ownBlock = some k → k < w.heap.size := fun j hj k hk => ((h.own j hj).lt k hk).2
  refine ⟨⟨?_, by rw [List.length_set]; exact h.vl, by rw [Gr.add1_len]; exact h.ll, fun j hj => ?_, fun j k hj hk hjk q hq => ?_⟩, hM2⟩
  · have h1 := hrow.set a v'
    rwa [List.setIfInBounds_toArray] at h1
  · rw [hgv]
    unfold Gr.add1
    rw [Gr.setL_get Ls a j _ (by rw [h.ll]; exact ha)]
    by_cases e : j = a
    · rw [if_pos e, if_pos e]
      exact ho.moves hMS fun k hk e => hvb k hk e
    · rw [if_neg e, if_neg e]
      exact hown j hj e
  · rw [hgv] at hq
    rw [hgv]
    by_cases e : j = a
    · rw [if_pos e] at hq
      rw [if_neg (fun e2 => hjk (e.trans e2.symm))]
      rcases hat q hq with h1 | h1
      · exact h.apt a k ha hk (fun e2 => hjk (e.trans e2)) q h1
      · intro h2
        have := hlt k hk q h2
        omega
    · rw [if_neg e] at hq
      by_cases e2 : k = a
      · rw [if_pos e2]
        intro h2
        rcases hat q h2 with h1 | h1
        · exact h.apt j a hj ha e q hq h1
        · have := hlt j hj q hq
          omega
      · rw [if_neg e2]
        exact h.apt j k hj hk hjk q hq
theorem and_maskK (a : Int) (m : Nat) (h : (BitVec.ofInt 64 (m : Int)).toNat = m) (hm : m ≤ 4294967295) : ∃ k : Nat, k ≤ m ∧ bits .and .i64 a (m : Int) = (k : Int) := by
  have hx : (BitVec.ofInt 64 a &&& BitVec.ofInt 64 (m : Int)).toNat ≤ m := by
    rw [BitVec.toNat_and, h]
    exact Nat.and_le_right
  refine ⟨(BitVec.ofInt 64 a &&& BitVec.ofInt 64 (m : Int)).toNat, hx, ?_⟩
  show IntKind.i64.wrap ((BitVec.ofInt 64 a &&& BitVec.ofInt 64 (m : Int)).toNat : Int) = _
  rw [IntKind.wrap_i64]
  omega
theorem and_15K (a : Int) : ∃ k : Nat, k ≤ 15 ∧ bits .and .i64 a 15 = (k : Int) := and_maskK a 15 (by decide) (by decide)
theorem infoArr : (Try.prog.info? 43).map (·.size) = some 16 := by kernel_rfl
/-- What edges tells: things of sixteen, none ahead of one that stands before it where they may not lead round. -/
def Edg (round : Bool) (i : Nat) (Ls : List (List Nat)) : Prop := ∀ j, j < 16 → (Ls.getD j []).length ≤ i ∧ ∀ b ∈ Ls.getD j [], b < 16 ∧ (round = false → b < j)
theorem Edg.add {round : Bool} {i a b : Nat} {Ls : List (List Nat)} (h : Edg round i Ls) (hl : Ls.length = 16) (ha : a < 16) (hb : b < 16) (hab : round = false → b < a) : Edg round (i + 1) (Gr.add1 b Ls a) := by
  intro j hj
  unfold Gr.add1
  rw [Gr.setL_get Ls a j _ (by rw [hl]; exact ha)]
  by_cases e : j = a
  · subst e
    rw [if_pos rfl]
    refine ⟨by have := (h j hj).1; simp only [List.length_append, List.length_cons, List.length_nil]; omega, fun x hx => ?_⟩
    rcases List.mem_append.1 hx with hx | hx
    · exact (h j hj).2 x hx
    · simp at hx
      subst hx
      exact ⟨hb, hab⟩
  · rw [if_neg e]
    exact ⟨by have := (h j hj).1; omega, (h j hj).2⟩
theorem Edg.more {round : Bool} {i : Nat} {Ls : List (List Nat)} (h : Edg round i Ls) : Edg round (i + 1) Ls := fun j hj => ⟨by have := (h j hj).1; omega, (h j hj).2⟩
def zeros : List Value := List.replicate 16 (.slice none 0 0)
theorem bn_made (w : World) (T : TypeId) : Bn ((w.alloc (.cells zeros.toArray T)).alloc (.cells zeros.toArray T)) (w.heap.size + 2) (w.heap.size + 1) T zeros (List.replicate 16 []) 16 := by
  have h1 := heap_alloc_new (w.alloc (.cells zeros.toArray T)) (.cells zeros.toArray T)
  rw [World.size_alloc] at h1
  refine ⟨h1, by simp [zeros], by simp, fun i hi => ?_, fun i j hi hj _ k hk => ?_⟩
  · rw [zeros, getD_replicate _ _ _ _ hi, getD_replicate _ _ _ _ hi]
    exact ownI_none _ _
  · rw [zeros, getD_replicate _ _ _ _ hi] at hk
    cases hk
def EdgesIs (w : World) (round : Bool) (e : Ending) (w' : World) : Prop := ∃ vs : List Value, ∃ Ls : List (List Nat), e = .returned (.agg vs.toArray) ∧ vs.length = 16 ∧ Ls.length = 16 ∧ (∀ i, i < 16 → OwnI w' w.heap.size (vs.getD i undef) (Ls.getD i [])) ∧ Edg round 40 Ls ∧ Below w.heap.size w w'
theorem EdgesIs.of {w w' : World} {round : Bool} {e : Ending} (h : ∃ vs : List Value, ∃ Ls : List (List Nat), e = .returned (.agg vs.toArray) ∧ vs.length = 16 ∧ Ls.length = 16 ∧ (∀ i, i < 16 → OwnI w' w.heap.size (vs.getD i undef) (Ls.getD i [])) ∧ Edg round 40 Ls ∧ Below w.heap.size w w') : EdgesIs w round e w' := h
set_option maxHeartbeats 16000000 in
theorem edges_any (w : World) (v : Value) (zs : List Int) (round : Bool) (hz : Ints w v zs) :
    Calls Try.prog 12 #[v, .bool round] w fun e w' => EdgesIs w round e w' := by
  obtain ⟨h1, h2, A, c, rfl, h3, _⟩ := id hz
  have HZ := Lib.hid hz
  obtain ⟨n, hn⟩ : ∃ n, zs.length = n := ⟨_, rfl⟩
  rw [hn] at HZ h3 h2 ⊢
  have HN := Lib.hid hn
  clear hz hn h1
  go_enter Try.func12, Try.ntmps12
  go_wp2_with fail
  obtain ⟨w1, hw1⟩ : ∃ W, (w.alloc (.cells zeros.toArray 43)).alloc (.cells zeros.toArray 43) = W := ⟨_, rfl⟩
  have HB1 : Hid (Below w.heap.size w w1) := Lib.hid (by rw [← hw1]; exact ((Below.refl _ _).alloc (Nat.le_refl _) _).alloc (by simp) _)
  have HBN1 : Hid (Bn w1 (w.heap.size + 2) (w.heap.size + 1) 43 zeros (List.replicate 16 []) 16) := Lib.hid (by rw [← hw1]; exact bn_made w _)
  have HZ1 : Hid (Blk w1 w.heap.size 43 zeros.toArray) := Lib.hid (by rw [← hw1]; exact Blk.alloc (heap_alloc_new w _) _)
  have HS1 : Hid (w1.heap.size = w.heap.size + 2) := Lib.hid (by rw [← hw1]; simp)
  obtain ⟨wl, hwl⟩ : ∃ W, W = w1 := ⟨_, rfl⟩
  rw [show (#[Value.slice none 0 0, Value.slice none 0 0, Value.slice none 0 0, Value.slice none 0 0, Value.slice none 0 0, Value.slice none 0 0, Value.slice none 0 0, Value.slice none 0 0, Value.slice none 0 0, Value.slice none 0 0, Value.slice none 0 0, Value.slice none 0 0, Value.slice none 0 0, Value.slice none 0 0, Value.slice none 0 0, Value.slice none 0 0] : Array Value) = zeros.toArray from rfl, hw1]
  clear hw1 hwl wl
  go_loopw [6] (fun iv wr => ∃ (i : Nat) (vs : List Value) (Ls : List (List Nat)), iv = .int .i64 (i : Int) ∧ i ≤ 40 ∧ i ≤ n ∧ Hid (Bn wr (w.heap.size + 2) (w.heap.size + 1) 43 vs Ls 16) ∧ Hid (Edg round i Ls) ∧ Hid (Blk wr w.heap.size 43 zeros.toArray) ∧ Hid (Below w.heap.size w wr) ∧ Hid (w.heap.size + 2 ≤ wr.heap.size)) (fun iv _ => 40 - (intOf iv).toNat)
  case atStart => exact ⟨0, _, _, rfl, by omega, by omega, HBN1, Lib.hid (fun j hj => by rw [getD_replicate _ _ _ _ hj]; simp), HZ1, HB1, Lib.hid (by rw [HS1.out]; exact Nat.le_refl _)⟩
  case round =>
    obtain ⟨i, vs, Ls, rfl, hi40, hin, HBN, HE, HZB, HBW, HSW⟩ := hrel
    by_cases hin2 : i < n
    · by_cases hi4 : i < 40
      · have hinI : (i : Int) < (n : Int) := by omega
        have hi4I : (i : Int) < 40 := by omega
        obtain ⟨b0, off, rfl, p1⟩ := (HZ.out.under HBW.out).at hin2
        obtain ⟨z, hz⟩ : ∃ z, zs.getD i 0 = z := ⟨_, rfl⟩
        rw [hz] at p1
        clear hz
        obtain ⟨a, ha15, hand1⟩ := and_15K z
        obtain ⟨b, hb15, hand2⟩ := and_15K (z / 16)
        have ha16 : a < 16 := by omega
        have hb16 : b < 16 := by omega
        go_upto_region 6 with (go_quiet (fail))
        obtain ⟨wq, hwq⟩ : ∃ W, wr.drewN nq = W := ⟨_, rfl⟩
        have HWQ : Hid (Below wr.heap.size wr wq) := Lib.hid (by rw [← hwq]; exact ⟨rfl, rfl, rfl, Nat.le_refl _, fun _ _ => rfl⟩)
        have HBNq := Lib.hid (HBN.out.under HWQ.out)
        rw [hwq]
        clear hwq hand1 hand2
        rcases round with _ | _
        · by_cases hab : a ≤ b
          · have habI : (a : Int) ≤ (b : Int) := by omega
            have HZBq := Lib.hid (HZB.out.under HWQ.out)
            have HBWq : Hid (Below w.heap.size w wq) := Lib.hid (HBW.out.trans (HWQ.out.mono HBW.out.size))
            have HEq : Hid (Edg false (i + 1) Ls) := Lib.hid HE.out.more
            have HSWq : Hid (w.heap.size + 2 ≤ wq.heap.size) := Lib.hid (Nat.le_trans HSW.out HWQ.out.size)
            go_wp2_with fail
            go_roundw
            case rel => exact ⟨i + 1, _, _, by go_num, by omega, by omega, HBNq, HEq, HZBq, HBWq, HSWq⟩
            case measure => simp [intOf]; omega
          · have habI : ¬ (a : Int) ≤ (b : Int) := by omega
            have HE1 := Lib.hid HE.out
            obtain ⟨Aq, cq, hvq, _⟩ := (HBNq.out.own a ha16).parts
            obtain ⟨R, hR⟩ : ∃ R, Ls.getD a [] = R := ⟨_, rfl⟩
            have hRL : R.length ≤ 40 := by rw [← hR]; have := (HE.out a ha16).1; omega
            obtain ⟨nl, hnl⟩ : ∃ q, R.length = q := ⟨_, rfl⟩
            rw [hR, hnl] at hvq
            have HVQ := Lib.hid hvq
            have p2 : wq.cell? ⟨w.heap.size + 1, a, none⟩ = some (.slice Aq nl cq) := by rw [← HVQ.out]; exact HBNq.out.cell ha16
            have HOQ : Hid (OwnI wq (w.heap.size + 2) (.slice Aq nl cq) R) := Lib.hid (by have h1 := HBNq.out.own a ha16; rw [hR, hvq] at h1; exact h1)
            have HRR := Lib.hid hR
            have HNQ : Hid (R.length ≤ 1000000) := Lib.hid (by omega)
            have HSWq : Hid (w.heap.size + 2 ≤ wq.heap.size) := Lib.hid (Nat.le_trans HSW.out HWQ.out.size)
            have haI : (a : Int) < 16 := by omega
            clear hvq hnl hRL hR p1
            go_wp2_with (first
              | (at_builtin; refine wpList_append_intT 22 Try.underlying22 rfl _ _ rfl (w.heap.size + 2) (.slice Aq nl cq) R wq.heap.size b rfl (HOQ.out.under ((Below.refl _ _).alloc (Nat.le_refl _) _)) rfl (cell_new_int wq _ _) (by have := HNQ.out; omega) (by have := HSWq.out; simp; omega) ?_; intro v6 w6 ho6 hg6 hat6
                 obtain ⟨A6, c6, hu6, _⟩ := ho6.parts
                 obtain ⟨m6, hm6⟩ : ∃ q, (R ++ [b]).length = q := ⟨_, rfl⟩
                 rw [hm6] at hu6
                 subst hu6
                 have hM6 : Moves (fun j => (vs.getD a undef).ownBlock = some j) wq w6 := by
                   rw [HVQ.out]
                   exact (Moves.under ((Below.refl _ wq).alloc (Nat.le_refl _) _)).trans (Moves.grown hg6)
                 have hA6 : ∀ k, (Value.slice A6 m6 c6).ownBlock = some k → (vs.getD a undef).ownBlock = some k ∨ wq.heap.size ≤ k := fun k hk => by
                   rcases hat6 with h1 | h1
                   · exact .inl (by rw [HVQ.out, ← h1]; exact hk)
                   · rw [h1] at hk
                     injection hk with hk
                     simp at hk
                     exact .inr (by omega)
                 have hapq := HBNq.out.app (i := b) (by decide) ha16 (by rw [HRR.out]; exact ho6) hM6 hA6
                 have HBA := Lib.hid hapq.1
                 have HMA := Lib.hid hapq.2
                 have hb6 : Blk w6 (w.heap.size + 1) 43 vs.toArray := HBNq.out.row.moves hM6 (own_not_blk (by decide) HBNq.out.row (HBNq.out.own a ha16))
                 have p6 : w6.cell? ⟨w.heap.size + 1, a, none⟩ = some (.slice Aq nl cq) := by
                   have h1 := hb6.at a
                   rw [List.getElem?_toArray] at h1
                   have h2 := HBNq.out.row.at a
                   rw [List.getElem?_toArray] at h2
                   rw [h1, ← h2]
                   exact p2
                 have f6 : w6.frozen? ⟨w.heap.size + 1, a, none⟩ = false := hb6.free a
                 clear ho6 hg6 hat6 hM6 hA6 hapq hb6 hm6)
              | fail)
            have HEA : Hid (Edg false (i + 1) (Gr.add1 b Ls a)) := Lib.hid (HE.out.add HBN.out.ll ha16 hb16 (fun _ => by omega))
            have hlowq : ∀ k, Bkn (w.heap.size + 1) vs 16 k → w.heap.size + 1 ≤ k := fun k hk => by
              rcases hk with rfl | ⟨j, hj, hk⟩
              · exact Nat.le_refl _
              · have := ((HBNq.out.own j hj).lt k hk).1
                omega
            have HBWA : Hid (Below w.heap.size w (w6.setCell ⟨w.heap.size + 1, a, none⟩ (.slice A6 m6 c6))) := Lib.hid ((HBW.out.trans (HWQ.out.mono HBW.out.size)).trans (HMA.out.below (Nat.le_trans HBW.out.size HWQ.out.size) (fun k hk => by have := hlowq k hk; omega)))
            have HZBA : Hid (Blk (w6.setCell ⟨w.heap.size + 1, a, none⟩ (.slice A6 m6 c6)) w.heap.size 43 zeros.toArray) := Lib.hid ((HZB.out.under HWQ.out).moves HMA.out (fun hk => by have := hlowq _ hk; omega))
            have HSWA : Hid (w.heap.size + 2 ≤ (w6.setCell ⟨w.heap.size + 1, a, none⟩ (.slice A6 m6 c6)).heap.size) := Lib.hid (Nat.le_trans HSWq.out HMA.out.size)
            go_wp2_with fail
            go_roundw
            case rel => exact ⟨i + 1, _, _, by go_num, by omega, by omega, HBA, HEA, HZBA, HBWA, HSWA⟩
            case measure => simp [intOf]; omega
        · skip
          have HE1 := Lib.hid HE.out
          obtain ⟨Aq, cq, hvq, _⟩ := (HBNq.out.own a ha16).parts
          obtain ⟨R, hR⟩ : ∃ R, Ls.getD a [] = R := ⟨_, rfl⟩
          have hRL : R.length ≤ 40 := by rw [← hR]; have := (HE.out a ha16).1; omega
          obtain ⟨nl, hnl⟩ : ∃ q, R.length = q := ⟨_, rfl⟩
          rw [hR, hnl] at hvq
          have HVQ := Lib.hid hvq
          have p2 : wq.cell? ⟨w.heap.size + 1, a, none⟩ = some (.slice Aq nl cq) := by rw [← HVQ.out]; exact HBNq.out.cell ha16
          have HOQ : Hid (OwnI wq (w.heap.size + 2) (.slice Aq nl cq) R) := Lib.hid (by have h1 := HBNq.out.own a ha16; rw [hR, hvq] at h1; exact h1)
          have HRR := Lib.hid hR
          have HNQ : Hid (R.length ≤ 1000000) := Lib.hid (by omega)
          have HSWq : Hid (w.heap.size + 2 ≤ wq.heap.size) := Lib.hid (Nat.le_trans HSW.out HWQ.out.size)
          have haI : (a : Int) < 16 := by omega
          clear hvq hnl hRL hR p1
          go_wp2_with (first
            | (at_builtin; refine wpList_append_intT 22 Try.underlying22 rfl _ _ rfl (w.heap.size + 2) (.slice Aq nl cq) R wq.heap.size b rfl (HOQ.out.under ((Below.refl _ _).alloc (Nat.le_refl _) _)) rfl (cell_new_int wq _ _) (by have := HNQ.out; omega) (by have := HSWq.out; simp; omega) ?_; intro v6 w6 ho6 hg6 hat6
               obtain ⟨A6, c6, hu6, _⟩ := ho6.parts
               obtain ⟨m6, hm6⟩ : ∃ q, (R ++ [b]).length = q := ⟨_, rfl⟩
               rw [hm6] at hu6
               subst hu6
               have hM6 : Moves (fun j => (vs.getD a undef).ownBlock = some j) wq w6 := by
                 rw [HVQ.out]
                 exact (Moves.under ((Below.refl _ wq).alloc (Nat.le_refl _) _)).trans (Moves.grown hg6)
               have hA6 : ∀ k, (Value.slice A6 m6 c6).ownBlock = some k → (vs.getD a undef).ownBlock = some k ∨ wq.heap.size ≤ k := fun k hk => by
                 rcases hat6 with h1 | h1
                 · exact .inl (by rw [HVQ.out, ← h1]; exact hk)
                 · rw [h1] at hk
                   injection hk with hk
                   simp at hk
                   exact .inr (by omega)
               have hapq := HBNq.out.app (i := b) (by decide) ha16 (by rw [HRR.out]; exact ho6) hM6 hA6
               have HBA := Lib.hid hapq.1
               have HMA := Lib.hid hapq.2
               have hb6 : Blk w6 (w.heap.size + 1) 43 vs.toArray := HBNq.out.row.moves hM6 (own_not_blk (by decide) HBNq.out.row (HBNq.out.own a ha16))
               have p6 : w6.cell? ⟨w.heap.size + 1, a, none⟩ = some (.slice Aq nl cq) := by
                 have h1 := hb6.at a
                 rw [List.getElem?_toArray] at h1
                 have h2 := HBNq.out.row.at a
                 rw [List.getElem?_toArray] at h2
                 rw [h1, ← h2]
                 exact p2
               have f6 : w6.frozen? ⟨w.heap.size + 1, a, none⟩ = false := hb6.free a
               clear ho6 hg6 hat6 hM6 hA6 hapq hb6 hm6)
            | fail)
          have HEA : Hid (Edg true (i + 1) (Gr.add1 b Ls a)) := Lib.hid (HE.out.add HBN.out.ll ha16 hb16 (fun h => by cases h))
          have hlowq : ∀ k, Bkn (w.heap.size + 1) vs 16 k → w.heap.size + 1 ≤ k := fun k hk => by
            rcases hk with rfl | ⟨j, hj, hk⟩
            · exact Nat.le_refl _
            · have := ((HBNq.out.own j hj).lt k hk).1
              omega
          have HBWA : Hid (Below w.heap.size w (w6.setCell ⟨w.heap.size + 1, a, none⟩ (.slice A6 m6 c6))) := Lib.hid ((HBW.out.trans (HWQ.out.mono HBW.out.size)).trans (HMA.out.below (Nat.le_trans HBW.out.size HWQ.out.size) (fun k hk => by have := hlowq k hk; omega)))
          have HZBA : Hid (Blk (w6.setCell ⟨w.heap.size + 1, a, none⟩ (.slice A6 m6 c6)) w.heap.size 43 zeros.toArray) := Lib.hid ((HZB.out.under HWQ.out).moves HMA.out (fun hk => by have := hlowq _ hk; omega))
          have HSWA : Hid (w.heap.size + 2 ≤ (w6.setCell ⟨w.heap.size + 1, a, none⟩ (.slice A6 m6 c6)).heap.size) := Lib.hid (Nat.le_trans HSWq.out HMA.out.size)
          go_wp2_with fail
          go_roundw
          case rel => exact ⟨i + 1, _, _, by go_num, by omega, by omega, HBA, HEA, HZBA, HBWA, HSWA⟩
          case measure => simp [intOf]; omega
      · obtain rfl : i = 40 := by omega
        have hinI : (40 : Int) < (n : Int) := by omega
        go_upto_region 8 with fail
        have HINF : Hid ((Try.prog.info? 43).map (·.size) = some vs.toArray.size) := Lib.hid (by rw [infoArr, List.size_toArray, HBN.out.vl])
        have HONE : Hid (vs.toArray.all (·.oneCell') = true) := Lib.hid (by
          rw [Array.all_eq_true_iff_forall_mem]
          intro x hx
          obtain ⟨j, hj⟩ := List.getElem?_of_mem (by simpa using hx : x ∈ vs)
          have hj16 : j < 16 := by rw [← HBN.out.vl]; exact (List.getElem?_eq_some_iff.1 hj).1
          have h1 := HBN.out.own j hj16
          rw [List.getD_eq_getElem?_getD, hj] at h1
          obtain ⟨A', c', e, _⟩ := h1.parts
          simp only [Option.getD_some] at e
          subst e
          rfl)
        have HSZ : Hid (zeros.toArray.size = vs.toArray.size) := Lib.hid (by rw [List.size_toArray, List.size_toArray, HBN.out.vl]; simp [zeros])
        go_wp2_with (first
          | (refine wpList_load_row rfl 43 _ rfl (w.heap.size + 1) rfl 43 vs.toArray (0, 0) _ HBN.out.row Try.underlying43 rfl HINF.out ?_)
          | (refine wpList_store_row rfl 43 _ _ rfl w.heap.size vs.toArray rfl rfl 43 zeros.toArray HZB.out HINF.out HSZ.out HONE.out ?_)
          | fail)
        refine bodyPost_ret (results_cell_row rfl _ _ w.heap.size _ _ _ _ (by rfl) (setRow_heap _ _ _ _ _ _ HZB.out) Try.underlying43 rfl HINF.out) rfl ?_
        have hmv : Moves (fun k => k = w.heap.size) wr (wr.setRow w.heap.size vs.toArray) := ⟨rfl, rfl, rfl, by simp, fun k _ hk => setRow_other _ _ _ _ hk⟩
        refine EdgesIs.of ⟨vs, Ls, rfl, HBN.out.vl, HBN.out.ll, fun j hj => ?_, fun j hj => ⟨by have := (HE.out j hj).1; omega, (HE.out j hj).2⟩, HBW.out.trans (hmv.below HBW.out.size (fun k e => by omega))⟩
        exact World.ownsRow.mono ((HBN.out.own j hj).moves hmv (fun k hk e => by have := ((HBN.out.own j hj).lt k hk).1; omega)) (by omega)
    · obtain rfl : i = n := by omega
      have hinI : ¬ (i : Int) < (i : Int) := by omega
      go_upto_region 8 with fail
      have HINF : Hid ((Try.prog.info? 43).map (·.size) = some vs.toArray.size) := Lib.hid (by rw [infoArr, List.size_toArray, HBN.out.vl])
      have HONE : Hid (vs.toArray.all (·.oneCell') = true) := Lib.hid (by
        rw [Array.all_eq_true_iff_forall_mem]
        intro x hx
        obtain ⟨j, hj⟩ := List.getElem?_of_mem (by simpa using hx : x ∈ vs)
        have hj16 : j < 16 := by rw [← HBN.out.vl]; exact (List.getElem?_eq_some_iff.1 hj).1
        have h1 := HBN.out.own j hj16
        rw [List.getD_eq_getElem?_getD, hj] at h1
        obtain ⟨A', c', e, _⟩ := h1.parts
        simp only [Option.getD_some] at e
        subst e
        rfl)
      have HSZ : Hid (zeros.toArray.size = vs.toArray.size) := Lib.hid (by rw [List.size_toArray, List.size_toArray, HBN.out.vl]; simp [zeros])
      go_wp2_with (first
        | (refine wpList_load_row rfl 43 _ rfl (w.heap.size + 1) rfl 43 vs.toArray (0, 0) _ HBN.out.row Try.underlying43 rfl HINF.out ?_)
        | (refine wpList_store_row rfl 43 _ _ rfl w.heap.size vs.toArray rfl rfl 43 zeros.toArray HZB.out HINF.out HSZ.out HONE.out ?_)
        | fail)
      refine bodyPost_ret (results_cell_row rfl _ _ w.heap.size _ _ _ _ (by rfl) (setRow_heap _ _ _ _ _ _ HZB.out) Try.underlying43 rfl HINF.out) rfl ?_
      have hmv : Moves (fun k => k = w.heap.size) wr (wr.setRow w.heap.size vs.toArray) := ⟨rfl, rfl, rfl, by simp, fun k _ hk => setRow_other _ _ _ _ hk⟩
      refine EdgesIs.of ⟨vs, Ls, rfl, HBN.out.vl, HBN.out.ll, fun j hj => ?_, fun j hj => ⟨by have := (HE.out j hj).1; omega, (HE.out j hj).2⟩, HBW.out.trans (hmv.below HBW.out.size (fun k e => by omega))⟩
      exact World.ownsRow.mono ((HBN.out.own j hj).moves hmv (fun k hk e => by have := ((HBN.out.own j hj).lt k hk).1; omega)) (by omega)
end Go.Proofs.Ytemliglhippdcaa
