/- Files in memory: make, drop, move, read. -/
import Derived.Test.YtoloidfkpfdboaaZSimPut
import Derived.StillTailTactics
import Derived.Deep.RegionLaw
import Derived.Deep.AppendLies
namespace Go.Proofs.Ytoloidfkpfdboaa
set_option maxRecDepth 100000
open Go.ChangeShapes Go.WideShapes Go.ChangeAt Go.RowKit Go.ChangeMaps
open Sf

theorem val_mine {X : Option (List Nat)} {w : World} {p mb : Nat} {V : List Nat → Value} {F : Nat → Prop} {s : S} (h : At X w p mb V F s) (t : List Nat) (k : Nat) (hk : (val V s.l t).ownBlock = some k) : F k ∧ k ≠ p ∧ k ≠ mb := by
  unfold val at hk
  rcases hf : Sf.get s.l t with _ | x
  · rw [hf] at hk
    cases hk
  · rw [hf] at hk
    exact h.mine t x k hf hk
theorem val_apart {X : Option (List Nat)} {w : World} {p mb : Nat} {V : List Nat → Value} {F : Nat → Prop} {s : S} (h : At X w p mb V F s) (t u : List Nat) (x : Fi) (hx : Sf.get s.l u = some x) (hne : u ≠ t) : (V u).ownBlock = none ∨ (V u).ownBlock ≠ (val V s.l t).ownBlock := by
  unfold val
  rcases hf : Sf.get s.l t with _ | y
  · rcases hv : (V u).ownBlock with _ | k
    · exact .inl rfl
    · exact .inr (by simp [Value.ownBlock])
  · exact h.apart u t x y hx hf hne

end Go.Proofs.Ytoloidfkpfdboaa

/- Files in memory: move, read. -/
namespace Go.Proofs.Ytoloidfkpfdboaa
set_option maxRecDepth 100000
open Go.ChangeShapes Go.WideShapes Go.ChangeAt Go.RowKit Go.ChangeMaps
open Sf

theorem sbelow_dr {B : Nat} {a W : World} (h : Below B a W) : Below B a W.drew := ⟨h.os, h.tape, h.output, h.size, h.block⟩
theorem ownT_two (w : World) (base : Nat) (a b : List Nat) (hb : base ≤ w.heap.size) : OwnT (w.alloc (.cells #[.string (str a), .string (str b)] 9)) base (.slice (some ⟨w.heap.size, 0, none⟩) 2 2) [a, b] :=
  ⟨rfl, .inr ⟨w.heap.size, 2, #[.string (str a), .string (str b)], rfl, hb, heap_alloc_new w _, Nat.le_refl _, by unfold maxLen; omega, rfl, rfl⟩⟩
theorem get_bytes {l : List Fi} {t : List Nat} {x : Fi} (h : Sf.get l t = some x) : Sf.bytes l t = x.b := by unfold Sf.bytes; rw [h]; rfl

/-- What is read. -/
def Sf.read (s : S) (t : List Nat) : List Nat × Nat × Nat := if Nm.file t then match Sf.get s.l t with | some x => (x.b, x.stamp, 0) | none => ([], 0, 4) else ([], 0, 1)
set_option maxHeartbeats 4000000 in
theorem fread_any (t : List Nat) (w : World) (p mb : Nat) (V : List Nat → Value) (F : Nat → Prop) (s : S) (h : At none w p mb V F s) (ht : Nice t) (hu : used s.l ≤ 1099511627776) :
    Calls Try.prog 28 #[.pointer (some ⟨p, 0, none⟩), .string (str t)] w fun e w' => ∃ v, e = .returned (.tuple #[v, .int .i64 (((Sf.read s t).2.1 : Nat) : Int), .int .i64 (((Sf.read s t).2.2 : Nat) : Int)]) ∧ Own w' w.heap.size v (Sf.read s t).1 ∧ Below w.heap.size w w' := by
  have hn1 := ownT_one w 0 t (Nat.zero_le _)
  obtain ⟨w1, hww⟩ : ∃ w1, w1 = w.alloc (.cells #[.string (str t)] 9) := ⟨_, rfl⟩
  rw [← hww] at hn1
  have hb1 : Below w.heap.size w w1 := by rw [hww]; exact (Below.refl _ _).alloc (Nat.le_refl _) _
  have HR := Lib.hid (refuse_any [] [t] (.slice none 0 0) _ w1 p mb V F s (h.under hb1) (rdG_none w1 0 none) hn1 (by simp) (by simpa using ht) (by simp))
  have HB1 := Lib.hid hb1
  have H := Lib.hid h
  have HT := Lib.hid ht
  have HU := Lib.hid hu
  clear hb1 h ht hn1 hu
  rcases hf : Nm.file t with _ | _
  · have HV : Hid (refuse s.l [] [t] = 1) := Lib.hid (by simp [Sf.refuse, hf])
    have HP : Hid (Sf.read s t = ([], 0, 1)) := Lib.hid (by simp [Sf.read, hf])
    clear hf
    go_enter Try.func28, Try.ntmps28
    go_wp2_with fail
    rw [← hww]
    refine HR.out.mono ?_
    rintro e w2 ⟨rfl, hb2⟩
    rw [HV.out]
    have HB2 := Lib.hid (HB1.out.trans (hb2.mono HB1.out.size))
    clear hb2
    go_wp2
    go_ret3
    rw [HP.out]
    exact ⟨_, rfl, own_none _ _, HB2.out⟩
  · have HV : Hid (refuse s.l [] [t] = 0) := Lib.hid (by simp [Sf.refuse, Sf.guards, hf])
    rcases hq : Sf.get s.l t with _ | x
    · have HP : Hid (Sf.read s t = ([], 0, 4)) := Lib.hid (by unfold Sf.read; rw [if_pos hf, hq])
      have HQ : Hid ((Sf.get s.l t).isSome = false) := Lib.hid (by rw [hq]; rfl)
      clear hf hq
      go_enter Try.func28, Try.ntmps28
      go_wp2_with fail
      rw [← hww]
      refine HR.out.mono ?_
      rintro e w2 ⟨rfl, hb2⟩
      rw [HV.out]
      have HB2 := Lib.hid (HB1.out.trans (hb2.mono HB1.out.size))
      clear hb2
      go_wp2_with fail
      refine (there_any t w2 p mb V F s (H.out.under HB2.out) HT.out.1 HT.out.2).mono ?_
      rintro e w3 ⟨rfl, hb3⟩
      rw [HQ.out]
      have HB3 := Lib.hid (HB2.out.trans (hb3.mono HB2.out.size))
      clear hb3
      go_wp2
      go_ret3
      rw [HP.out]
      exact ⟨_, rfl, own_none _ _, HB3.out⟩
    · have HP : Hid (Sf.read s t = (x.b, x.stamp, 0)) := Lib.hid (by unfold Sf.read; rw [if_pos hf, hq])
      have HX := Lib.hid hq
      have HQ : Hid ((Sf.get s.l t).isSome = true) := Lib.hid (by rw [hq]; rfl)
      have HVV : Hid (val V s.l t = V t) := Lib.hid (by unfold val; rw [hq])
      have HUU : Hid (x.b.length ≤ 1099511627776) := Lib.hid (by have := bytes_le H.out.good.1 t; rw [get_bytes hq] at this; have := HU.out; omega)
      obtain ⟨Aa, ca, hva⟩ := H.out.sl t x hq
      obtain ⟨n, hn⟩ : ∃ n, x.b.length = n := ⟨_, rfl⟩
      obtain ⟨st, hst⟩ : ∃ st, stamp s.l t = st := ⟨_, rfl⟩
      have HSX : Hid (x.stamp = st) := Lib.hid (by rw [← hst]; unfold stamp; rw [hq]; rfl)
      rw [hn] at hva
      have HVA := Lib.hid hva
      have HST := Lib.hid hst
      clear hf hq hn hva hst
      go_enter Try.func28, Try.ntmps28
      go_wp2_with fail
      rw [← hww]
      refine HR.out.mono ?_
      rintro e w2 ⟨rfl, hb2⟩
      rw [HV.out]
      have HB2 := Lib.hid (HB1.out.trans (hb2.mono HB1.out.size))
      clear hb2
      go_wp2_with fail
      refine (there_any t w2 p mb V F s (H.out.under HB2.out) HT.out.1 HT.out.2).mono ?_
      rintro e w3 ⟨rfl, hb3⟩
      rw [HQ.out]
      have HB3 := Lib.hid (HB2.out.trans (hb3.mono HB2.out.size))
      have HA3 := Lib.hid (H.out.under HB3.out)
      have k0 : w3.cell? ⟨p, 0, none⟩ = some (.map (some mb)) := HA3.out.blk.at 0
      have hask := HA3.out.ask HT.out.1 HT.out.2 Try.underlying49
      rw [HVV.out, HVA.out, HST.out] at hask
      unfold elem at hask
      clear hb3
      go_wp2_with fail
      obtain ⟨W4, hW4⟩ : ∃ W4, W4 = w3.alloc (.cells #[.slice Aa n ca, .int .i64 (st : Int)] 55) := ⟨_, rfl⟩
      have hb4 : Below w3.heap.size w3 W4 := by rw [hW4]; exact (Below.refl _ _).alloc (Nat.le_refl _) _
      have HB4 : Hid (Below w.heap.size w W4) := Lib.hid (HB3.out.trans (hb4.mono HB3.out.size))
      have c0 : W4.cell? ⟨w3.heap.size, 0, none⟩ = some (.slice Aa n ca) := by rw [hW4]; exact cell_of_row _ _ 0 _ _ _ (heap_alloc_new w3 _)
      have c1 : W4.cell? ⟨w3.heap.size, 1, none⟩ = some (.int .i64 (st : Int)) := by rw [hW4]; exact cell_of_row _ _ 1 _ _ _ (heap_alloc_new w3 _)
      have HC := Lib.hid (fun (b : List Nat) (hb : Bytes W4.drew (.slice Aa n ca) b) hm => sclone_any (.slice Aa n ca) b W4.drew hb hm)
      have HBY : Hid (Bytes W4.drew (.slice Aa n ca) x.b) := Lib.hid (by have := (HA3.out.own t x HX.out (by simp)).bytes; rw [HVA.out] at this; exact (this.under hb4).drew)
      rw [← hW4]
      clear hW4 hb4 k0 hask
      go_region_with (go_at_call 23; refine (HC.out x.b HBY.out HUU.out).mono ?_; rintro e w5 ⟨v5, rfl, ho5, hb5⟩; have HO5 := Lib.hid ho5; have HB5 := Lib.hid hb5; have d1 : w5.cell? ⟨w3.heap.size, 1, none⟩ = some (.int .i64 (st : Int)) := scell_later (w := W4.drew) hb5 c1; clear ho5 hb5)
      all_goals
        go_wp2
        go_ret3
        rw [HP.out]
        refine ⟨_, by rw [HSX.out]; rfl, HO5.out.more ?_, (sbelow_dr HB4.out).trans (HB5.out.mono HB4.out.size)⟩
        exact HB4.out.size
end Go.Proofs.Ytoloidfkpfdboaa

/- Files in memory: appending. -/
namespace Go.Proofs.Ytoloidfkpfdboaa
set_option maxRecDepth 100000
open Go.ChangeShapes Go.WideShapes Go.ChangeAt Go.RowKit Go.ChangeMaps
open Sf

/-- Behind an append onto a file's bytes. -/
theorem Bytes.grownIf {w w' : World} {row : Option Nat} {v : Value} {l : List Nat} (h : Bytes w v l) (hg : w.grownBy w' row) (hne : l ≠ [] → v.ownBlock = none ∨ v.ownBlock ≠ row) : Bytes w' v l := by
  by_cases e : l = []
  · subst e
    obtain ⟨h1, h2, A, c, rfl, _, _⟩ := h.parts
    exact ⟨h1, h2, .inl ⟨rfl, A, c, rfl⟩⟩
  · exact h.grown hg (hne e)
theorem Bytes.sameIf {w w' : World} {v : Value} {l : List Nat} (h : Bytes w v l) (hk : l ≠ [] → ∀ k, k < w.heap.size → v.ownBlock = some k → w'.heap[k]? = w.heap[k]?) : Bytes w' v l := by
  by_cases e : l = []
  · subst e
    obtain ⟨h1, h2, A, c, rfl, _, _⟩ := h.parts
    exact ⟨h1, h2, .inl ⟨rfl, A, c, rfl⟩⟩
  · exact h.same (hk e)
theorem at_grown {w w' : World} {p mb : Nat} {V : List Nat → Value} {F : Nat → Prop} {s : S} (h : At none w p mb V F s) (t : List Nat) (hg : w.grownBy w' (val V s.l t).ownBlock) : At (some t) w' p mb V F s := by
  have hk : ∀ k, k < w.heap.size → (val V s.l t).ownBlock ≠ some k → w'.heap[k]? = w.heap[k]? := fun k hk hne => hg.block k hk fun e => hne e.symm
  have hp : w'.heap[p]? = w.heap[p]? := hk p (h.lt p h.fp) fun e => (val_mine h t p e).2.1 rfl
  have hm : w'.heap[mb]? = w.heap[mb]? := hk mb (h.lt mb h.fm) fun e => (val_mine h t mb e).2.2 rfl
  refine ⟨hp.trans h.blk, h.map.same hm, h.fp, h.fm, h.ne, fun k hk => Nat.lt_of_lt_of_le (h.lt k hk) hg.size, fun u x hx hX => ?_, h.sl, h.mine, h.apart, h.good⟩
  have hne : u ≠ t := fun e => hX (by rw [e])
  have ho := h.own u x hx (by simp)
  refine own_under ho fun k hk' => hk k (ho.lt k hk').2 fun e => ?_
  rcases val_apart h t u x hx hne with h1 | h1
  · rw [h1] at hk'
    cases hk'
  · exact h1 (hk'.trans e.symm)
theorem frm_grown {w w' : World} {F : Nat → Prop} {row : Option Nat} (hg : w.grownBy w' row) (hr : ∀ k, row = some k → F k) : Frm F F w w' :=
  ⟨hg.os, hg.tape, hg.output, hg.size, fun k hk hF => hg.block k hk fun e => hF (hr k e.symm), fun _ h => .inl h⟩

end Go.Proofs.Ytoloidfkpfdboaa
