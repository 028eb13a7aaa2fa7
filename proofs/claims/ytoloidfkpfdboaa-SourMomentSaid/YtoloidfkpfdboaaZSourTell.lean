/- Package sour: what a Read tells of its values and stamps. -/
import Derived.Test.YtoloidfkpfdboaaZSourDo
import Derived.Laws.MakeOwn
import Derived.Deep.LoopGhost
import Derived.IntWalk
namespace Go.Proofs.Ytoloidfkpfdboaa
set_option maxRecDepth 100000
open Go.ChangeShapes Go.WideShapes Go.ChangeAt Go.RowKit Go.ChangeMaps
open Sf
variable {K K' X : Nat → Prop} {w0 w w' w1 : World} {p g : Nat} {s s' : S} {fv vn vv vs : Value} {us : List Value} {x : Sr.R}

theorem run_make_rows (n : Nat) (h : n ≤ 1000000) (w : World) : (Instr.makeSlice 33 (.int .i64 (n : Int)) (.int .i64 (n : Int))).run Try.prog w =
    .ok (.slice (some ⟨w.heap.size, 0, none⟩) n n) (w.alloc (.cells (madeCells #[.slice none 0 0] n) 25)) := by
  obtain ⟨i, hi, hz0, hz1, hz2⟩ := info_parts infoBytes
  have := run_make (P := Try.prog) w 33 25 i (.slice none 0 0) Try.underlying33 hi hz0 .i64 .i64 (n : Int) (n : Int) (by omega) (by omega) (by rw [hz2]; omega) (by omega)
  rw [this, hz1, show ((n : Int)).toNat = n from by omega, Nat.mul_one]
  rfl
theorem made_rows (n : Nat) : madeCells #[.slice none 0 0] n = (List.replicate n (Value.slice none 0 0)).toArray := by
  apply Array.toList_inj.1
  rw [toList_madeCells_one]
/-- The row of values as it is filled. -/
structure SrFill (w0 w : World) (q n k : Nat) (L : List (List Nat)) (us : List Value) : Prop where
  len : us.length = k
  blk : Blk w q 25 (us ++ List.replicate (n - k) (Value.slice none 0 0)).toArray
  own : ∀ i, i < k → Own w w0.heap.size (us.getD i undef) (L.getD i [])
theorem SrFill.next {u : Value} {W : World} {q n k : Nat} {L : List (List Nat)} (h : SrFill w0 w q n k L us) (hk : k < n) (hb : Below w.heap.size w W) (hu : Own W w0.heap.size u (L.getD k [])) :
    SrFill w0 (W.setCell ⟨q, k, none⟩ u) q n (k + 1) L (us ++ [u]) := by
  have hbl := h.blk.under hb
  refine ⟨by simp [h.len], ?_, fun i hi => ?_⟩
  · have h1 := hbl.set k u
    have e1 : (us ++ List.replicate (n - k) (Value.slice none 0 0)).toArray.setIfInBounds k u = (us ++ [u] ++ List.replicate (n - (k + 1)) (Value.slice none 0 0)).toArray := by
      rw [List.setIfInBounds_toArray, show n - k = (n - (k + 1)) + 1 by omega, List.replicate_succ, List.set_append, if_neg (by rw [h.len]; omega), h.len, Nat.sub_self, List.set_cons_zero, List.append_assoc]
      rfl
    rw [e1] at h1
    exact h1
  · have key : ∀ {v : Value} {l : List Nat}, Own W w0.heap.size v l → Own (W.setCell ⟨q, k, none⟩ u) w0.heap.size v l := fun {v l} ho =>
      ⟨ownsRow_block ho.1 fun j e => Below.heap_setCell _ ⟨q, k, none⟩ _ j fun e2 => row_not_blk ho.1 hbl (by decide) (e.trans (by rw [e2])), ho.2⟩
    by_cases hik : i < k
    · rw [List.getD_eq_getElem?_getD, List.getElem?_append_left (by rw [h.len]; exact hik), ← List.getD_eq_getElem?_getD]
      exact key ((h.own i hik).under hb)
    · obtain rfl : i = k := by omega
      rw [show (us ++ [u]).getD i undef = u by rw [← h.len]; simp]
      exact key hu
theorem SrFill.done {q n : Nat} {L : List (List Nat)} (h : SrFill w0 w q n n L us) (hL : L.length = n) (hq : w0.heap.size ≤ q) (hn : n ≤ 1000000) : OwnRx w w0.heap.size (.slice (some ⟨q, 0, none⟩) n n) us L := by
  have hb := h.blk
  rw [Nat.sub_self, List.replicate_zero, List.append_nil] at hb
  refine ⟨by rw [h.len, hL], ?_, fun u hu => ?_, fun i hi => h.own i (by omega)⟩
  · rw [hL]
    exact ⟨by rw [h.len, Nat.mul_one], .inr ⟨q, n, us.toArray, rfl, hq, hb, Nat.le_refl _, by unfold maxLen; omega, by simp [h.len], by rw [Nat.mul_one, ← h.len]; simp⟩⟩
  · obtain ⟨i, hi, rfl⟩ := List.getElem_of_mem hu
    have := h.own i (by rw [← h.len]; exact hi)
    rw [List.getD_eq_getElem?_getD, List.getElem?_eq_getElem hi] at this
    exact this.oneCell

set_option maxRecDepth 100000 in
set_option maxHeartbeats 4000000 in
theorem srvalues_any (h : SrAt K w0 w p g s fv x) (h1 : x.told = 1) :
    Calls Try.prog 12 #[.pointer (some ⟨g, 0, none⟩)] w fun e w' => ∃ v us, e = .returned (.tuple #[v, .bool true]) ∧ OwnRx w' w.heap.size v us x.vals ∧ Below w.heap.size w w' := by
  obtain ⟨⟨X, vn, vv, vs, us, h⟩, hok⟩ := h
  have hb0 : Blk w g 60 #[vn, fv, vv, vs, .int .i64 (x.asked : Int), .int .i64 (x.told : Int)] := h.blk
  rw [h1] at hb0
  obtain ⟨L, hL⟩ : ∃ L, x.vals = L := ⟨_, rfl⟩
  have hrows := h.vals.ownR.rows
  have hlen : x.vals.length ≤ 1000000 := Nat.le_trans hok.most hok.few
  have hshort := hok.short
  obtain ⟨Av, cv, rfl⟩ := ownRx_sl h.vals
  rw [hL] at hrows hlen hb0 hshort ⊢
  obtain ⟨n, hn⟩ : ∃ n, L.length = n := ⟨_, rfl⟩
  rw [hn] at hrows hlen hb0
  have HROW := Lib.hid hrows
  have HN := Lib.hid hn
  have HSH := Lib.hid hshort
  have c5 : ∀ o, (w.alloc o).cell? ⟨g, 5, none⟩ = some (.int .i64 ((1 : Nat) : Int)) := fun o => (hb0.alloc o).at 5
  have c2' : ∀ o, (w.alloc o).cell? ⟨g, 2, none⟩ = some (.slice Av n cv) := fun o => (hb0.alloc o).at 2
  have c5' : w.cell? ⟨g, 5, none⟩ = some (.int .i64 ((1 : Nat) : Int)) := hb0.at 5
  have c2 : w.cell? ⟨g, 2, none⟩ = some (.slice Av n cv) := hb0.at 2
  have hmk := fun W => run_make_rows n hlen W
  have HLE := Lib.hid hlen
  have HF0 : Hid (SrFill w (w.alloc (.cells (madeCells #[.slice none 0 0] n) 25)) w.heap.size n 0 L []) := Lib.hid ⟨rfl, by rw [made_rows]; exact heap_alloc_new w _, fun i hi => by omega⟩
  have HB0 : Hid (Below w.heap.size w (w.alloc (.cells (madeCells #[.slice none 0 0] n) 25))) := Lib.hid ((Below.refl _ _).alloc (Nat.le_refl _) _)
  clear h hok hb0 hrows hL hn hlen hshort h1
  go_enter Try.func12, Try.ntmps12
  go_upto_region 4 with fail
  obtain ⟨q, hq⟩ : ∃ q, w.heap.size = q := ⟨_, rfl⟩
  obtain ⟨wa, hwa⟩ : ∃ W, w.alloc (.cells (madeCells #[.slice none 0 0] n) 25) = W := ⟨_, rfl⟩
  have d2 := c2' (.cells (madeCells #[.slice none 0 0] n) 25)
  rw [hwa] at HF0 HB0 d2 ⊢
  have HQ := Lib.hid hq
  rw [hq]
  rw [hq] at HF0
  clear hwa hq c5 c5' c2 c2' hmk
  go_wp2_with fail
  go_loopw [23] (fun i wr => ∃ (k : Nat) (us : List Value), k ≤ n ∧ i = .int .i64 k ∧ Hid (SrFill w wr q n k L us) ∧ Hid (Below w.heap.size w wr)) (fun i _ => n - (intOf i).toNat)
  case atStart => exact ⟨0, [], Nat.zero_le _, rfl, HF0, HB0⟩
  case round =>
    obtain ⟨k, us2, hk, rfl, HF, HB⟩ := hrel
    obtain ⟨wz, rfl⟩ : ∃ W : World, W = wr := ⟨_, rfl⟩
    clear HF0 HB0 d2
    by_cases hlt : k < n
    · have hltI : (k : Int) < (n : Int) := by omega
      obtain ⟨bv, ov, u, rfl, hcu, hbu⟩ := (HROW.out.under HB.out).at hlt
      obtain ⟨l, hl⟩ : ∃ l, L.getD k [] = l := ⟨_, rfl⟩
      rw [hl] at hbu
      have hll : l.length ≤ 1099511627776 := by
        rw [← hl, List.getD_eq_getElem?_getD, List.getElem?_eq_getElem (by rw [HN.out]; exact hlt)]
        have := HSH.out _ (List.getElem_mem (l := L) (n := k) (by rw [HN.out]; exact hlt))
        simp
        omega
      obtain ⟨_, _, Au, cu, rfl, _, _⟩ := hbu.parts
      have C := Lib.hid (sclone_any _ l wz hbu hll)
      have HL := Lib.hid hl
      clear hbu hll hl
      go_wp2_with fail
      refine C.out.mono ?_
      rintro e w5 ⟨v5, rfl, ho5, hb5⟩
      obtain ⟨A5, c5, rfl⟩ := own_sl ho5
      have hfn := HF.out.next (u := .slice A5 l.length c5) hlt hb5 (by rw [HL.out]; exact ho5.more HB.out.size)
      have hbq := HF.out.blk.under hb5
      have cq : ∃ z, w5.cell? ⟨q, k, none⟩ = some z := by
        refine ⟨_, (hbq.at k).trans (Array.getElem?_eq_getElem ?_)⟩
        have := HF.out.len
        simp
        omega
      obtain ⟨z, cq⟩ := cq
      have fq := Blk.free hbq k
      have HFN := Lib.hid hfn
      have HBN : Hid (Below w.heap.size w (w5.setCell ⟨q, k, none⟩ (.slice A5 l.length c5))) := Lib.hid (bput (HB.out.trans (hb5.mono HB.out.size)) (Nat.le_trans HB.out.size hb5.size) (by rw [HQ.out]; exact Nat.le_refl _) k _)
      clear ho5 hb5 hfn hbq C HF HB hcu HL
      have hle := HLE.out
      go_wp2
      go_roundw
      case rel => exact ⟨k + 1, _, by omega, by go_num, HFN, HBN⟩
      case measure => simp [intOf]; omega
    · obtain rfl : k = n := by omega
      have HD := Lib.hid (HF.out.done HN.out (by rw [HQ.out]; exact Nat.le_refl _) HLE.out)
      clear HF hlt
      go_wp2
      go_ret2
      exact ⟨_, _, rfl, HD.out, HB.out⟩
theorem srvalues_not (h : SrAt K w0 w p g s fv x) (h1 : x.told ≠ 1) :
    Calls Try.prog 12 #[.pointer (some ⟨g, 0, none⟩)] w fun e w' => e = .returned (.tuple #[.slice none 0 0, .bool false]) ∧ w = w' := by
  obtain ⟨⟨X, vn, vv, vs, us, h⟩, hok⟩ := h
  have hb0 : Blk w g 60 #[vn, fv, vv, vs, .int .i64 (x.asked : Int), .int .i64 (x.told : Int)] := h.blk
  obtain ⟨n, hn⟩ : ∃ n, x.told = n := ⟨_, rfl⟩
  rw [hn] at hb0 h1
  have c5 : w.cell? ⟨g, 5, none⟩ = some (.int .i64 (n : Int)) := hb0.at 5
  have hI : ((n : Int) != 1) = true := by simp; omega
  clear h hok hn hb0 h1
  go_enter Try.func12, Try.ntmps12
  go_wp2
  go_ret2
  exact ⟨rfl, rfl⟩
theorem srstamps_any (h : SrAt K w0 w p g s fv x) (h1 : x.told = 1) :
    Calls Try.prog 14 #[.pointer (some ⟨g, 0, none⟩)] w fun e w' => ∃ v, e = .returned v ∧ OwnI w' w.heap.size v x.stamps ∧ Below w.heap.size w w' := by
  obtain ⟨⟨X, vn, vv, vs, us, h⟩, hok⟩ := h
  have hb0 : Blk w g 60 #[vn, fv, vv, vs, .int .i64 (x.asked : Int), .int .i64 (x.told : Int)] := h.blk
  rw [h1] at hb0
  have c5 : w.cell? ⟨g, 5, none⟩ = some (.int .i64 ((1 : Nat) : Int)) := hb0.at 5
  have c3 : w.cell? ⟨g, 3, none⟩ = some vs := hb0.at 3
  have C := Lib.hid (srclone_ints h.stamps.srI (by have := hok.same; have := hok.most; have := hok.few; omega))
  clear h hok hb0 h1
  go_enter Try.func14, Try.ntmps14
  go_wp2_with fail
  refine C.out.mono ?_
  rintro e w1 ⟨v1, rfl, ho1, hb1⟩
  have HO1 := Lib.hid ho1
  have HB1 := Lib.hid hb1
  clear ho1 hb1 C
  go_wp2
  go_ret
  exact ⟨_, rfl, HO1.out, HB1.out⟩
end Go.Proofs.Ytoloidfkpfdboaa
