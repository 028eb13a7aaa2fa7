/- Package mani's own reader: its leaves: what is wrong, whether a sign comes next, taking it. -/
import Derived.Test.YtgjehlegcmeeoaaGreatDoorZ05
import Derived.BigRegion
import Derived.Deep.RegionHeld3
import Derived.Deep.RegionWith
namespace Go.Proofs.YtgjehlegcmeeoaaGreatDoor
set_option maxRecDepth 100000
open Go.ChangeShapes Go.WideShapes Go.ChangeAt Go.RowKit

theorem mgrown_on {w w' w'' : World} {row : Option Nat} (h : w.grownBy w' row) (k : w'.grownBy w'' row) : w.grownBy w'' row := ⟨k.os.trans h.os, k.tape.trans h.tape, k.output.trans h.output, Nat.le_trans h.size k.size, fun j hj hr => (k.block j (Nat.lt_of_lt_of_le hj h.size) hr).trans (h.block j hj hr)⟩
theorem mgrown_same (w : World) (row : Option Nat) : w.grownBy w row := ⟨rfl, rfl, rfl, Nat.le_refl _, fun _ _ _ => rfl⟩
theorem GoodS.fail {s : Mo.S} (h : GoodS s) (k : Nat) (x : Ln.W) : GoodS (Mo.fail k x s) := by
  unfold Mo.fail
  split
  · exact ⟨h.first, h.rest, h.chosen, h.lets, h.rules⟩
  · exact h
theorem GoodS.cut {s : Mo.S} (h : GoodS s) (n : Nat) : GoodS { s with rest := s.rest.drop n } := ⟨h.first, fun x hx => h.rest x (List.mem_of_mem_drop hx), h.chosen, h.lets, h.rules⟩
/-- What a method that turns nothing but the reader leaves. -/
def Left (w : World) (base hi g lb mb : Nat) (s : Mo.S) (w' : World) : Prop := MRd w' base hi g lb mb s ∧ w.grownBy w' (some g)
theorem Left.on {w w' w'' : World} {base hi g lb mb : Nat} {s s' : Mo.S} (h : Left w base hi g lb mb s w') (k : Left w' base hi g lb mb s' w'') : Left w base hi g lb mb s' w'' := ⟨k.1, mgrown_on h.2 k.2⟩
theorem Left.same {w w' : World} {base hi g lb mb : Nat} {s : Mo.S} (h : MRd w base hi g lb mb s) (hb : Below w.heap.size w w') : Left w base hi g lb mb s w' := ⟨h.under hb, Below.toGrown hb _⟩
theorem Left.under {w w' w'' : World} {base hi g lb mb : Nat} {s : Mo.S} (h : Left w base hi g lb mb s w') (hb : Below w'.heap.size w' w'') : Left w base hi g lb mb s w'' := ⟨h.1.under hb, mgrown_on h.2 (Below.toGrown hb _)⟩

set_option maxHeartbeats 4000000 in
theorem mis_any (x : Ln.W) (t : List Nat) (w : World) (hx : ∀ c ∈ x.text, c < 256) (ht : ∀ c ∈ t, c < 256) :
    Calls Tryz.prog 63 #[.agg (cellsW x).toArray, .string (str t)] w fun e w' => e = .returned (.bool (Mn.isW t x)) ∧ Below w.heap.size w w' := by
  obtain ⟨xt, xl, xc, xq⟩ := x
  change ∀ c ∈ xt, c < 256 at hx
  have hse := str_same hx ht
  rw [show (cellsW ⟨xt, xl, xc, xq⟩).toArray = #[.string (str xt), .int .i64 xl, .int .i64 xc, .bool xq] from rfl]
  show Calls _ _ _ _ fun e w' => e = .returned (.bool (decide (xt = t) && !xq)) ∧ Below w.heap.size w w'
  clear hx ht
  rcases xq with _ | _ <;> rcases hd : decide (xt = t) with _ | _
  all_goals
    rw [hd] at hse
    clear hd
    go_enter Tryz.func63, Tryz.ntmps63
    go_wp2
    go_ret
    exact ⟨rfl, (Below.refl _ _).alloc (Nat.le_refl _) _⟩
set_option maxHeartbeats 4000000 in
theorem mfail_any (K : Nat) (x : Ln.W) (base hi g lb mb : Nat) (s : Mo.S) (w : World) (h : MRd w base hi g lb mb s) :
    Calls Tryz.prog 40 #[.pointer (some ⟨g, 0, none⟩), .int .i64 (K : Int), .agg (cellsW x).toArray] w fun e w' => e = .returned (.tuple #[]) ∧ Left w base hi g lb mb (Mo.fail K x s) w' := by
  obtain ⟨cv, rv, sv, h⟩ := h
  obtain ⟨xt, xl, xc, xq⟩ := x
  rw [show (cellsW ⟨xt, xl, xc, xq⟩).toArray = #[.string (str xt), .int .i64 xl, .int .i64 xc, .bool xq] from rfl]
  have H := Lib.hid h
  have k4o : ∀ o, (w.alloc o).cell? ⟨g, 10, none⟩ = some (.int .i64 (s.e.k : Int)) := fun o => (H.out.blk.alloc o).at 10
  have k5o : ∀ o, (w.alloc o).cell? ⟨g, 11, none⟩ = some (.int .i64 (s.e.line : Int)) := fun o => (H.out.blk.alloc o).at 11
  have k6o : ∀ o, (w.alloc o).cell? ⟨g, 12, none⟩ = some (.int .i64 (s.e.col : Int)) := fun o => (H.out.blk.alloc o).at 12
  have f4 : ∀ o, (w.alloc o).frozen? ⟨g, 10, none⟩ = false := fun o => (H.out.blk.alloc o).free 10
  have f5 : ∀ o, (w.alloc o).frozen? ⟨g, 11, none⟩ = false := fun o => (H.out.blk.alloc o).free 11
  have f6 : ∀ o, (w.alloc o).frozen? ⟨g, 12, none⟩ = false := fun o => (H.out.blk.alloc o).free 12
  clear h
  by_cases h0 : s.e.k = 0
  · have HE : Hid (Mo.fail K ⟨xt, xl, xc, xq⟩ s = { s with e := ⟨K, xl, xc⟩ }) := Lib.hid (by unfold Mo.fail; rw [if_pos h0]; rfl)
    have hk : ((s.e.k : Int) == 0) = true := by simp [h0]
    clear h0
    go_enter Tryz.func40, Tryz.ntmps40
    have hb : Below w.heap.size w (w.alloc (.cells #[.string (str xt), .int .i64 xl, .int .i64 xc, .bool xq] 55)) := (Below.refl _ _).alloc (Nat.le_refl _) _
    have HG : Hid (w.alloc (.cells #[.string (str xt), .int .i64 xl, .int .i64 xc, .bool xq] 55) |>.grownBy ((((w.alloc (.cells #[.string (str xt), .int .i64 xl, .int .i64 xc, .bool xq] 55)).setCell ⟨g, 10, none⟩ (.int .i64 (K : Int))).setCell ⟨g, 11, none⟩ (.int .i64 (xl : Int))).setCell ⟨g, 12, none⟩ (.int .i64 (xc : Int))) (some g)) :=
      Lib.hid (mgrown_on (mgrown_on (grown_setCell _ ⟨g, 10, none⟩ _) (grown_setCell _ ⟨g, 11, none⟩ _)) (grown_setCell _ ⟨g, 12, none⟩ _))
    have HR := Lib.hid ((H.out.under hb).turn (s' := { s with e := ⟨K, xl, xc⟩ }) (sv' := sv) HG.out ((((H.out.blk.alloc _).set 10 _).set 11 _).set 12 _) (H.out.under hb).rest rfl rfl rfl rfl ⟨H.out.good.first, H.out.good.rest, H.out.good.chosen, H.out.good.lets, H.out.good.rules⟩)
    have HB := Lib.hid hb
    clear hb
    go_wp2
    go_end0
    exact ⟨rfl, by rw [HE.out]; exact ⟨⟨cv, rv, sv, HR.out⟩, mgrown_on (Below.toGrown HB.out _) HG.out⟩⟩
  · have HE : Hid (Mo.fail K ⟨xt, xl, xc, xq⟩ s = s) := Lib.hid (by unfold Mo.fail; rw [if_neg h0])
    have hk : ((s.e.k : Int) == 0) = false := by simp; omega
    clear h0
    go_enter Tryz.func40, Tryz.ntmps40
    go_wp2
    go_end0
    exact ⟨rfl, by rw [HE.out]; exact Left.same ⟨cv, rv, sv, H.out⟩ ((Below.refl _ _).alloc (Nat.le_refl _) _)⟩
/-- What the reader's block says of a line's first word. -/
theorem MRdIn.fst {w : World} {base hi g lb mb : Nat} {cv rv sv : Value} {s : Mo.S} (h : MRdIn w base hi g lb mb cv rv sv s) : w.cell? ⟨g, 5, none⟩ = some (.string (str s.first.text)) ∧ w.cell? ⟨g, 6, none⟩ = some (.int .i64 (s.first.line : Int)) ∧ w.cell? ⟨g, 7, none⟩ = some (.int .i64 (s.first.col : Int)) ∧ w.cell? ⟨g, 8, none⟩ = some (.bool s.first.q) :=
  ⟨h.blk.at 5, h.blk.at 6, h.blk.at 7, h.blk.at 8⟩
/-- The four cells of a word at a place. -/
structure WordAt (w : World) (b o : Nat) (x : Ln.W) : Prop where
  text : w.cell? ⟨b, o, none⟩ = some (.string (str x.text))
  line : w.cell? ⟨b, o + 1, none⟩ = some (.int .i64 (x.line : Int))
  col : w.cell? ⟨b, o + 2, none⟩ = some (.int .i64 (x.col : Int))
  q : w.cell? ⟨b, o + 3, none⟩ = some (.bool x.q)
theorem WordAt.under {w w' : World} {b o : Nat} {x : Ln.W} (h : WordAt w b o x) (hb : Below w.heap.size w w') : WordAt w' b o x := ⟨cell_later hb h.text, cell_later hb h.line, cell_later hb h.col, cell_later hb h.q⟩
theorem WordAt.same {w w' : World} {b o : Nat} {x : Ln.W} (h : WordAt w b o x) (hb : w'.heap[b]? = w.heap[b]?) : WordAt w' b o x :=
  ⟨(World.cell?_of_block hb).trans h.text, (World.cell?_of_block hb).trans h.line, (World.cell?_of_block hb).trans h.col, (World.cell?_of_block hb).trans h.q⟩
theorem SlW.first {w : World} {hi n c : Nat} {A : Option Addr} {x : Ln.W} {r : List Ln.W} (h : SlW w hi (.slice A n c) (x :: r)) : ∃ b off, A = some ⟨b, off, none⟩ ∧ b < hi ∧ Ty w b 55 ∧ WordAt w b off x := by
  obtain ⟨b, off, rfl, h1, h2, e0, e1, e2, e3⟩ := h.at 0 (by simp) x rfl
  exact ⟨b, off, rfl, h1, h2, by simpa using e0, by simpa using e1, by simpa using e2, by simpa using e3⟩
theorem wrong_nil {s : Mo.S} (h : s.rest = []) : Mo.wrong s = Mo.fail 4 s.first s := by unfold Mo.wrong; rw [h]; rfl
theorem wrong_cons {s : Mo.S} {x : Ln.W} {r : List Ln.W} (h : s.rest = x :: r) : Mo.wrong s = Mo.fail 4 x s := by unfold Mo.wrong; rw [h]; rfl
set_option maxHeartbeats 4000000 in
theorem mwrong_any (base hi g lb mb : Nat) (s : Mo.S) (w : World) (h : MRd w base hi g lb mb s) :
    Calls Tryz.prog 96 #[.pointer (some ⟨g, 0, none⟩)] w fun e w' => e = .returned (.tuple #[]) ∧ Left w base hi g lb mb (Mo.wrong s) w' := by
  have HR := Lib.hid h
  obtain ⟨cv, rv, sv, h⟩ := h
  obtain ⟨c5, c6, c7, c8⟩ := h.fst
  have c9 : w.cell? ⟨g, 9, none⟩ = some sv := h.blk.at 9
  have hg : g < w.heap.size := h.blk.size
  have HB : Hid (∀ o, Below w.heap.size w (w.alloc o)) := Lib.hid (fun o => (Below.refl _ _).alloc (Nat.le_refl _) o)
  have H := Lib.hid h
  rcases hr : s.rest with _ | ⟨x, r⟩
  · have HW := Lib.hid (wrong_nil hr)
    have hs := h.rest
    rw [hr] at hs
    obtain ⟨A, c, rfl, _⟩ := hs.parts
    have c9o : ∀ o, (w.alloc o).cell? ⟨g, 9, none⟩ = some (.slice A 0 c) := fun o => (H.out.blk.alloc o).at 9
    clear hs h hr c9
    go_enter Tryz.func96, Tryz.ntmps96
    go_wp2_with fail
    refine (mfail_any 4 s.first base hi g lb mb s _ (HR.out.under (HB.out _))).mono ?_
    rintro e w2 ⟨rfl, hl⟩
    go_wp2
    go_end0
    exact ⟨rfl, by rw [HW.out]; exact (Left.same HR.out (HB.out _)).on hl⟩
  · have HW := Lib.hid (wrong_cons hr)
    have hs := h.rest
    rw [hr] at hs
    obtain ⟨A, c, rfl, hlc⟩ := hs.parts
    obtain ⟨b, off, rfl, hbh, hty, hx⟩ := hs.first
    have hbz := hty.lt
    have ex := fun o => hx.under (HB.out o)
    have e0 := fun o => (ex o).text
    have e1 := fun o => (ex o).line
    have e2 := fun o => (ex o).col
    have e3 := fun o => (ex o).q
    obtain ⟨n, hn⟩ : ∃ n, (x :: r).length = n := ⟨_, rfl⟩
    have hlen : 0 < n := by rw [← hn]; simp
    rw [hn] at c9 H
    have c9o : ∀ o, (w.alloc o).cell? ⟨g, 9, none⟩ = some (.slice (some ⟨b, off, none⟩) n c) := fun o => (H.out.blk.alloc o).at 9
    have hn0 : (0 : Int) < (n : Int) := by omega
    clear hs h hr c9 hn hlc hty ex hx
    go_enter Tryz.func96, Tryz.ntmps96
    go_wp2_with fail
    refine (mfail_any 4 x base hi g lb mb s _ (HR.out.under (HB.out _))).mono ?_
    rintro e w2 ⟨rfl, hl⟩
    go_wp2
    go_end0
    exact ⟨rfl, by rw [HW.out]; exact (Left.same HR.out (HB.out _)).on hl⟩
theorem at_nil {s : Mo.S} (h : s.rest = []) (sg : Nat) : Mo.at_ sg s = false := by unfold Mo.at_; rw [h]
theorem at_cons {s : Mo.S} {x : Ln.W} {r : List Ln.W} (h : s.rest = x :: r) (sg : Nat) : Mo.at_ sg s = Mn.isW [sg] x := by unfold Mo.at_; rw [h]
set_option maxHeartbeats 4000000 in
theorem mat_any (sg : Nat) (hsg : sg < 256) (base hi g lb mb : Nat) (s : Mo.S) (w : World) (h : MRd w base hi g lb mb s) :
    Calls Tryz.prog 100 #[.pointer (some ⟨g, 0, none⟩), .string (str [sg])] w fun e w' => e = .returned (.bool (Mo.at_ sg s)) ∧ Below w.heap.size w w' := by
  obtain ⟨cv, rv, sv, h⟩ := h
  have c9 : w.cell? ⟨g, 9, none⟩ = some sv := h.blk.at 9
  rcases hr : s.rest with _ | ⟨x, r⟩
  · have HW := Lib.hid (at_nil hr sg)
    have hs := h.rest
    rw [hr] at hs
    obtain ⟨A, c, rfl, _⟩ := hs.parts
    have c9o : w.cell? ⟨g, 9, none⟩ = some (.slice A 0 c) := c9
    clear hs h hr c9
    go_enter Tryz.func100, Tryz.ntmps100
    go_wp2
    go_ret
    exact ⟨by rw [HW.out] <;> rfl, Below.refl _ _⟩
  · have HW := Lib.hid (at_cons hr sg)
    have hgx : GoodW x := h.good.rest x (by rw [hr]; simp)
    have hs := h.rest
    rw [hr] at hs
    obtain ⟨A, c, rfl, hlc⟩ := hs.parts
    obtain ⟨b, off, rfl, hbh, hty, hx⟩ := hs.first
    have e0 := hx.text
    have e1 := hx.line
    have e2 := hx.col
    have e3 := hx.q
    obtain ⟨n, hn⟩ : ∃ n, (x :: r).length = n := ⟨_, rfl⟩
    have hlen : 0 < n := by rw [← hn]; simp
    rw [hn] at c9
    have hn0 : (0 : Int) < (n : Int) := by omega
    clear hs h hr hn hlc hty hx
    go_enter Tryz.func100, Tryz.ntmps100
    go_wp2_with fail
    refine (mis_any x [sg] _ hgx.bytes (by simpa using hsg)).mono ?_
    rintro e w2 ⟨rfl, hb⟩
    obtain ⟨q, hq⟩ : ∃ q, Mn.isW [sg] x = q := ⟨_, rfl⟩
    rw [hq] at HW ⊢
    clear hq
    go_wp2
    go_ret
    exact ⟨by rw [HW.out] <;> rfl, hb⟩
/-- What is left of the line is stored. -/
theorem MRdIn.setRest {w : World} {base hi g lb mb : Nat} {cv rv sv sv' : Value} {s : Mo.S} {R : List Ln.W} (h : MRdIn w base hi g lb mb cv rv sv s) (hs : SlW w hi sv' R) (hR : ∀ x ∈ R, GoodW x) : MRdIn (w.setCell ⟨g, 9, none⟩ sv') base hi g lb mb cv rv sv' { s with rest := R } :=
  h.turn (grown_setCell w ⟨g, 9, none⟩ sv') (h.blk.set 9 sv') hs rfl rfl rfl rfl ⟨h.good.first, hR, h.good.chosen, h.good.lets, h.good.rules⟩
theorem take_no {s : Mo.S} {sg : Nat} (h : Mo.at_ sg s = false) : Mo.take sg s = Mo.wrong s := by unfold Mo.take; rw [if_neg (by rw [h]; decide)]
theorem take_yes {s : Mo.S} {sg : Nat} (h : Mo.at_ sg s = true) : Mo.take sg s = { s with rest := s.rest.drop 1 } := by unfold Mo.take; rw [if_pos h]; simp
set_option maxHeartbeats 4000000 in
theorem mtake_any (sg : Nat) (hsg : sg < 256) (base hi g lb mb : Nat) (s : Mo.S) (w : World) (h : MRd w base hi g lb mb s) :
    Calls Tryz.prog 97 #[.pointer (some ⟨g, 0, none⟩), .string (str [sg])] w fun e w' => e = .returned (.tuple #[]) ∧ Left w base hi g lb mb (Mo.take sg s) w' := by
  have HR := Lib.hid h
  go_enter Tryz.func97, Tryz.ntmps97
  go_wp2_with fail
  refine (mat_any sg hsg base hi g lb mb s _ h).mono ?_
  rintro e w1 ⟨rfl, hb⟩
  have HR1 := Lib.hid (HR.out.under hb)
  have HB := Lib.hid hb
  clear h hb
  rcases hq : Mo.at_ sg s with _ | _
  · have HW := Lib.hid (take_no hq)
    clear hq
    go_wp2_with fail
    refine (mwrong_any base hi g lb mb s _ HR1.out).mono ?_
    rintro e w2 ⟨rfl, hl⟩
    go_wp2
    refine bodyPost_ret (results_none rfl _ _ _) rfl ?_
    exact ⟨rfl, by rw [HW.out]; exact (Left.same HR.out HB.out).on hl⟩
  · have HW := Lib.hid (take_yes hq)
    have h1 := HR1.out
    obtain ⟨cv, rv, sv, h1⟩ := h1
    rcases hr : s.rest with _ | ⟨x, r⟩
    · rw [at_nil hr] at hq
      cases hq
    have hs := h1.rest
    obtain ⟨A, c, rfl, hlc⟩ := hs.parts
    obtain ⟨n, hn⟩ : ∃ n, s.rest.length = n := ⟨_, rfl⟩
    have hlen : 0 < n := by rw [← hn, hr]; simp
    have HS := Lib.hid hs
    have c9 : w1.cell? ⟨g, 9, none⟩ = some (.slice A s.rest.length c) := h1.blk.at 9
    have f9 : w1.frozen? ⟨g, 9, none⟩ = false := h1.blk.free 9
    have H1 := Lib.hid h1
    rw [hn] at c9 hlc HS H1
    have hn1 : (1 : Int) ≤ (n : Int) := by omega
    have hc1 : (n : Int) ≤ (c : Int) := by omega
    have hnm : n ≤ maxLen := by
      obtain ⟨_, _, e, _, h3, _⟩ := hs
      rw [hn] at h3
      exact h3
    unfold maxLen at hnm
    clear hs h1 hr hq hn
    by_cases hcn : c = 1
    · have HT := Lib.hid (HS.out.tail (A' := A) (d := 0) (k := 1) hlen (by omega) (fun hlt => by omega))
      have HT1 := Lib.hid (H1.out.setRest HT.out (fun x hx => H1.out.good.rest x (List.mem_of_mem_drop hx)))
      go_wp2
      go_end0
      exact ⟨rfl, by rw [HW.out]; exact (Left.same HR.out HB.out).on ⟨⟨_, _, _, HT1.out⟩, grown_setCell _ ⟨g, 9, none⟩ _⟩⟩
    · have HT := Lib.hid (HS.out.tail (A' := A.map fun x => ⟨x.block, x.off + 4, none⟩) (d := c - 1) (k := 1) hlen (by omega) (fun _ b off e => by rw [e]; rfl))
      have HT1 := Lib.hid (H1.out.setRest HT.out (fun x hx => H1.out.good.rest x (List.mem_of_mem_drop hx)))
      go_wp2
      go_end0
      exact ⟨rfl, by rw [HW.out]; exact (Left.same HR.out HB.out).on ⟨⟨_, _, _, HT1.out⟩, grown_setCell _ ⟨g, 9, none⟩ _⟩⟩
theorem ends_nil {s : Mo.S} (h : s.rest = []) : Mo.ends s = s := by unfold Mo.ends; rw [if_pos h]
theorem ends_cons {s : Mo.S} {x : Ln.W} {r : List Ln.W} (h : s.rest = x :: r) : Mo.ends s = Mo.wrong s := by unfold Mo.ends; rw [if_neg (by rw [h]; simp)]
set_option maxHeartbeats 4000000 in
theorem mend_any (base hi g lb mb : Nat) (s : Mo.S) (w : World) (h : MRd w base hi g lb mb s) :
    Calls Tryz.prog 102 #[.pointer (some ⟨g, 0, none⟩)] w fun e w' => e = .returned (.tuple #[]) ∧ Left w base hi g lb mb (Mo.ends s) w' := by
  have HR := Lib.hid h
  obtain ⟨cv, rv, sv, h⟩ := h
  have c9 : w.cell? ⟨g, 9, none⟩ = some sv := h.blk.at 9
  have hs := h.rest
  obtain ⟨A, c, rfl, _⟩ := hs.parts
  rcases hr : s.rest with _ | ⟨x, r⟩
  · have HW := Lib.hid (ends_nil hr)
    have c9o : w.cell? ⟨g, 9, none⟩ = some (.slice A 0 c) := by rw [c9, hr]; rfl
    clear hs h hr c9
    go_enter Tryz.func102, Tryz.ntmps102
    go_wp2
    go_end0
    exact ⟨rfl, by rw [HW.out]; exact Left.same HR.out (Below.refl _ _)⟩
  · have HW := Lib.hid (ends_cons hr)
    obtain ⟨n, hn⟩ : ∃ n, s.rest.length = n := ⟨_, rfl⟩
    have hn0 : (0 : Int) < (n : Int) := by rw [← hn, hr]; simp
    rw [hn] at c9
    clear hs h hr hn
    go_enter Tryz.func102, Tryz.ntmps102
    go_wp2_with fail
    refine (mwrong_any base hi g lb mb s _ HR.out).mono ?_
    rintro e w2 ⟨rfl, hl⟩
    go_wp2
    go_end0
    exact ⟨rfl, by rw [HW.out]; exact hl⟩
end Go.Proofs.YtgjehlegcmeeoaaGreatDoor
