/- What package code answers: numbers and bytes behind bytes; a reader. -/
import Derived.Test.YtoloidfkpfdboaaZ02
import Derived.Test.YtoloidfkpfdboaaZ00
import Derived.Deep.DeepCutAuto
import Derived.Deep.LoopGhost
import Derived.IntWalk
import Derived.BigQuiet
import Derived.Deep.QuietTactic
import Derived.Deep.RegionWith
namespace Go.Proofs.Ytoloidfkpfdboaa
set_option maxRecDepth 100000
open Go.ChangeShapes Go.WideShapes Go.ChangeAt Go.RowKit

theorem ret_bool {a b : Bool} (h : a = b) : Ending.returned (.bool a) = .returned (.bool b) := by rw [h]
theorem byte_at (m j : Nat) : (m : Int) / 2 ^ (8 * j) % 256 = ((m / 2 ^ (8 * j) % 256 : Nat) : Int) := by
  rw [Int.natCast_emod, Int.natCast_ediv, Int.natCast_pow]
  rfl

theorem run_make_room (n k : Nat) (h : n + k ≤ 70368744177664) (w : World) : (Instr.makeSlice 25 (.int .i64 0) (.int .i64 ((n : Int) + (k : Int)))).run Try.prog w =
    .ok (.slice (some ⟨w.heap.size, 0, none⟩) 0 (n + k)) (w.alloc (.cells (madeCells #[.int .u8 0] (n + k)) 5)) := by
  obtain ⟨i, hi, hz0, hz1, hz2⟩ := info_parts infoU8
  have := run_make (P := Try.prog) w 25 5 i (.int .u8 0) Try.underlying25 hi hz0 .i64 .i64 0 ((n : Int) + (k : Int)) (by omega) (by omega) (by rw [hz2]; omega) (by omega)
  rw [this, hz1, show ((n : Int) + (k : Int)).toNat = n + k from by omega, Nat.mul_one]
  rfl

set_option maxHeartbeats 1000000 in
theorem clone_any (v : Value) (l : List Nat) (w : World) (h : Bytes w v l) (hl : l.length ≤ 1099511627776) :
    Calls Try.prog 23 #[v] w (Made w.heap.size l w) := by
  have H := Lib.hid h
  obtain ⟨_, _, A, c, rfl, _, hx⟩ := h.parts
  clear h
  obtain ⟨n, hn⟩ : ∃ n, l.length = n := ⟨_, rfl⟩
  rw [hn] at H hl hx ⊢
  have HN := Lib.hid hn
  clear hn
  have hnil := fun (W : World) (a : Option Addr) (n c : Nat) => Lib.run_eql_slice_nil (P := Try.prog) W 25 5 a n c 0 0 Try.underlying25
  rcases A with _ | a
  · have h0 : n = 0 := by
      rcases Nat.eq_zero_or_pos n with h0 | h0
      · exact h0
      · obtain ⟨b, off, e, _⟩ := hx h0
        cases e
    subst h0
    have hl0 : l = [] := List.eq_nil_of_length_eq_zero HN.out
    subst hl0
    clear hx
    go_enter Try.func23, Try.ntmps23
    go_wp2
    go_ret
    exact ⟨_, rfl, own_none _ _, Below.refl _ _⟩
  · clear hx
    go_enter Try.func23, Try.ntmps23
    go_wp2_with (at_builtin; refine wpList_append_bytes rfl _ _ rfl w.heap.size _ _ [] l rfl (own_empty w _ 0 #[] (Nat.le_refl _) (by unfold maxLen; omega) rfl) rfl (H.out.alloc _) ?_ ?_ l rfl ?_)
    case refine_1 => simp [HN.out]; omega
    case refine_2 => simp
    case refine_3 =>
      intro v' w' hg
      obtain ⟨ho', _, _, hb'⟩ := hg
      go_wp2
      go_ret
      exact ⟨_, rfl, ho', ((Below.refl _ _).alloc (Nat.le_refl _) _).trans hb'⟩

/-- A reader's block, and where its bytes lie. -/
def Rdr (w : World) (lo hi g : Nat) (s : Cd.St) : Prop := hi ≤ g ∧ match s with
  | none => Blk w g 98 #[.slice none 0 0, .bool true]
  | some l => ∃ v, Blk w g 98 #[v, .bool false] ∧ Bytes w v l ∧ Between lo hi v ∧ l.length ≤ 1099511627776
theorem Rdr.size {w : World} {lo hi g : Nat} {s : Cd.St} (h : Rdr w lo hi g s) : g < w.heap.size := by
  rcases s with _ | l
  · exact Blk.size h.2
  · obtain ⟨_, v, h, _⟩ := h
    exact h.size
theorem Rdr.none_of {w : World} {lo hi g : Nat} {s : Cd.St} (h : Rdr w lo hi g s) (hs : s = none) : Blk w g 98 #[.slice none 0 0, .bool true] := by
  subst hs
  exact h.2
theorem Rdr.some_of {w : World} {lo hi g : Nat} {s : Cd.St} {l : List Nat} (h : Rdr w lo hi g s) (hs : s = some l) : ∃ A c, Blk w g 98 #[.slice A l.length c, .bool false] ∧ Bytes w (.slice A l.length c) l ∧
    Between lo hi (.slice A l.length c) ∧ l.length ≤ 1099511627776 ∧ l.length ≤ c := by
  subst hs
  obtain ⟨_, v, h1, h2, h3, h4⟩ := h
  obtain ⟨_, _, A, c, rfl, h5, _⟩ := h2.parts
  exact ⟨A, c, h1, h2, h3, h4, h5⟩
theorem Rdr.grown {w w' : World} {row : Option Nat} {lo hi g : Nat} {s : Cd.St} (h : Rdr w lo hi g s) (hg : w.grownBy w' row) (hne : ∀ k, row = some k → k ≠ g ∧ ¬ (lo ≤ k ∧ k < hi)) : Rdr w' lo hi g s := by
  have h1 : some g ≠ row := fun e => (hne g e.symm).1 rfl
  refine ⟨h.1, ?_⟩
  rcases s with _ | l
  · exact Blk.grown h.2 hg h1
  · obtain ⟨_, v, h2, h3, h4, h5⟩ := h
    refine ⟨v, h2.grown hg h1, h3.grown hg ?_, h4, h5⟩
    rcases hv : v.ownBlock with _ | k
    · exact .inl rfl
    · exact .inr fun e => (hne k e.symm).2 (h4 k hv)
theorem Rdr.under {w w' : World} {lo hi g : Nat} {s : Cd.St} (h : Rdr w lo hi g s) (hb : Below w.heap.size w w') : Rdr w' lo hi g s :=
  h.grown (Below.toGrown hb none) (by simp)
theorem Rdr.heap {w W : World} {lo hi g : Nat} {s : Cd.St} (h : Rdr w lo hi g s) (e : W.heap = w.heap) : Rdr W lo hi g s := by
  refine ⟨h.1, ?_⟩
  rcases s with _ | l
  · exact Blk.heap h.2 e
  · obtain ⟨_, v, h2, h3, h4, h5⟩ := h
    exact ⟨v, h2.heap e, h3.heap e, h4, h5⟩
theorem Rdr.alloc {w : World} {lo hi g : Nat} {s : Cd.St} (h : Rdr w lo hi g s) (o : Obj) : Rdr (w.alloc o) lo hi g s := h.under ((Below.refl _ _).alloc (Nat.le_refl _) o)
theorem Rdr.drew {w : World} {lo hi g : Nat} {s : Cd.St} (h : Rdr w lo hi g s) : Rdr w.drew lo hi g s := h.under ((Below.refl _ _).drew)

/-- A call that answers a new reader. -/
def Opened (base : Nat) (s : Cd.St) (w : World) (e : Ending) (w' : World) : Prop := ∃ g, e = .returned (.pointer (some ⟨g, 0, none⟩)) ∧ base ≤ g ∧ g < w'.heap.size ∧ Rdr w' base g g s ∧ Below base w w'

set_option maxHeartbeats 1000000 in
theorem read_any (v : Value) (l : List Nat) (w : World) (h : Bytes w v l) (hl : l.length ≤ 1099511627776) :
    Calls Try.prog 54 #[v] w (Opened w.heap.size (some l) w) := by
  have H := Lib.hid h
  clear h
  go_enter Try.func54, Try.ntmps54
  go_wp2_with fail
  refine (clone_any v l w H.out hl).mono ?_
  rintro e w' ⟨v', rfl, ho, hb⟩
  have HO := Lib.hid ho
  obtain ⟨_, _, A, c, rfl, _, _⟩ := ho.bytes.parts
  clear ho
  go_wp2
  go_ret
  exact ⟨_, rfl, hb.size, by simp, ⟨Nat.le_refl _, _, heap_alloc_new w' _, HO.out.bytes.alloc _, HO.out.between, hl⟩, hb.alloc hb.size _⟩

/-- A call of a reader's. -/
def Said (lo hi g : Nat) (s : Cd.St) (v : Value) (w : World) (e : Ending) (w' : World) : Prop := e = .returned v ∧ Rdr w' lo hi g s ∧ w.grownBy w' (some g)

set_option maxHeartbeats 1000000 in
theorem fail_any (lo hi g : Nat) (x y : Value) (w : World) (hh : hi ≤ g) (h : Blk w g 98 #[x, y]) :
    Calls Try.prog 63 #[.pointer (some ⟨g, 0, none⟩)] w (Said lo hi g none (.tuple #[]) w) := by
  have hx : w.cell? ⟨g, 0, none⟩ = some x := h.at 0
  have hy : w.cell? ⟨g, 1, none⟩ = some y := h.at 1
  have fx := h.free 0
  have fy := h.free 1
  have H := Lib.hid h
  clear h
  go_enter Try.func63, Try.ntmps63
  go_wp2
  go_end0
  exact ⟨rfl, ⟨hh, (H.out.set 0 _).set 1 _⟩, (grown_setCell _ ⟨g, 0, none⟩ _).trans (grown_setCell _ ⟨g, 1, none⟩ _)⟩

set_option maxHeartbeats 1000000 in
theorem ok_any (lo hi g : Nat) (s : Cd.St) (w : World) (h : Rdr w lo hi g s) :
    Calls Try.prog 68 #[.pointer (some ⟨g, 0, none⟩)] w fun e w' => e = .returned (.bool s.isSome) ∧ w = w' := by
  rcases s with _ | l
  · have hy : w.cell? ⟨g, 1, none⟩ = some (.bool true) := Blk.at h.2 1
    clear h
    go_enter Try.func68, Try.ntmps68
    go_wp2
    go_ret
    exact ⟨rfl, rfl⟩
  · obtain ⟨_, v, h, _⟩ := h
    have hy : w.cell? ⟨g, 1, none⟩ = some (.bool false) := h.at 1
    clear h
    go_enter Try.func68, Try.ntmps68
    go_wp2
    go_ret
    exact ⟨rfl, rfl⟩

set_option maxHeartbeats 1000000 in
theorem end_any (lo hi g : Nat) (s : Cd.St) (w : World) (h : Rdr w lo hi g s) :
    Calls Try.prog 56 #[.pointer (some ⟨g, 0, none⟩)] w fun e w' => e = .returned (.bool (Cd.endB s)) ∧ w = w' := by
  rcases s with _ | l
  · have hy : w.cell? ⟨g, 1, none⟩ = some (.bool true) := Blk.at h.2 1
    clear h
    go_enter Try.func56, Try.ntmps56
    go_wp2
    go_ret
    exact ⟨rfl, rfl⟩
  · obtain ⟨_, v, h, hv, _, _⟩ := h
    obtain ⟨_, _, A, c, rfl, _, _⟩ := hv.parts
    clear hv
    have hx := h.at 0
    have hy : w.cell? ⟨g, 1, none⟩ = some (.bool false) := h.at 1
    have hx' : w.cell? ⟨g, 0, none⟩ = some (.slice A l.length c) := hx
    clear h hx
    have hend : Cd.endB (some l) = ((l.length : Int) == 0) := by
      unfold Cd.endB
      cases l <;> simp
      omega
    have HE := Lib.hid hend
    clear hend
    go_enter Try.func56, Try.ntmps56
    go_wp2
    go_ret
    exact ⟨ret_bool HE.out.symm, rfl⟩

set_option maxHeartbeats 1000000 in
theorem rnum_any (lo hi g : Nat) (s : Cd.St) (most : Int) (w : World) (h : Rdr w lo hi g s) :
    Calls Try.prog 62 #[.pointer (some ⟨g, 0, none⟩), .int .i64 most] w (Said lo hi g (Cd.numS s most) (.int .i64 (Cd.numN s most : Int)) w) := by
  have hh := h.1
  rcases s with _ | l
  · have hy : w.cell? ⟨g, 0, none⟩ = some (.slice none 0 0) := Blk.at h.2 0
    have H := Lib.hid h.2
    clear h
    go_enter Try.func62, Try.ntmps62
    go_wp2_with (go_at_call 63; refine (fail_any lo hi g _ _ _ hh H.out).mono ?_; rintro e w' ⟨rfl, hr, hg⟩)
    go_ret
    exact ⟨rfl, hr, hg⟩
  · obtain ⟨_, v, h, hv, hne, hl⟩ := h
    obtain ⟨_, _, A, c, rfl, hc, hcell⟩ := hv.parts
    have hx : w.cell? ⟨g, 0, none⟩ = some (.slice A l.length c) := h.at 0
    have H := Lib.hid h
    have HV := Lib.hid hv
    obtain ⟨n, hn⟩ : ∃ n, l.length = n := ⟨_, rfl⟩
    rw [hn] at hx H HV hl hne hc hcell
    have HN := Lib.hid hn
    have HNE := Lib.hid hne
    clear hn h hv hne
    by_cases h6 : n < 6
    · clear hcell
      go_enter Try.func62, Try.ntmps62
      go_wp2_with (go_at_call 63; refine (fail_any lo hi g _ _ _ hh H.out).mono ?_; rintro e w' ⟨rfl, hr, hg⟩)
      go_ret
      have hf := Cd.fits_short (most := most) (by rw [HN.out]; exact h6 : l.length < 6)
      exact ⟨by simp [Cd.numN, hf], by simpa [Cd.numS, hf] using hr, hg⟩
    · obtain ⟨b, off, rfl, hcl⟩ := hcell (by omega)
      have hb := HV.out.1
      have hl6 : 6 ≤ l.length := by rw [HN.out]; omega
      have z6 : ¬ ((n : Int) < 6) := by omega
      have hc6 : 6 ≤ c := by omega
      have fx := H.out.free 0
      have HB := Lib.hid hb
      have HC := Lib.hid hcl
      clear hb hcell hcl
      go_enter Try.func62, Try.ntmps62
      go_wp2
      go_loop [5, 22] (fun t i => ∃ k : Nat, k ≤ 6 ∧ i = .int .i64 k ∧ t = .int .i64 ((Cd.dec (l.take k) : Nat) : Int)) (fun _ i => 6 - (intOf i).toNat)
      case atStart => exact ⟨0, by omega, rfl, rfl⟩
      case round =>
        obtain ⟨k, hk, rfl, rfl⟩ := hrel
        have ht := Cd.dec_take_lt l k hk HB.out
        obtain ⟨S, hS⟩ : ∃ S, Cd.dec (l.take k) = S := ⟨_, rfl⟩
        rw [hS] at ht ⊢
        have HS := Lib.hid hS
        clear hS
        by_cases hlt : k < 6
        · obtain ⟨x, hx8, HX, hcx⟩ := getD_hid HB.out HC.out (show k < n by omega)
          go_wp2
          go_round
          case rel =>
            refine ⟨k + 1, by omega, by go_num, ?_⟩
            rw [or8 S x ht hx8, take_snoc l k (by rw [HN.out]; omega), Cd.dec_snoc, HS.out, HX.out]
          case measure => simp [intOf]; omega
        · obtain rfl : k = 6 := by omega
          have hlt' : ¬ ((6 : Nat) : Int) < 6 := by omega
          by_cases hm : most < (S : Int)
          · go_wp2_with (go_at_call 63; refine (fail_any lo hi g _ _ _ hh H.out).mono ?_; rintro e w' ⟨rfl, hr, hg⟩)
            go_ret
            have hf := Cd.fits_great (l := l) (most := most) (by rw [HS.out]; exact hm)
            exact ⟨by simp [Cd.numN, hf], by simpa [Cd.numS, hf] using hr, hg⟩
          · have hf : Cd.fits (some l) most = true := Cd.fits_some.2 ⟨hl6, by rw [HS.out]; omega⟩
            by_cases hcap : c = 6
            · go_wp2
              go_ret
              refine ⟨by simp [Cd.numN, hf, Cd.rest, HS.out], ?_, grown_setCell w ⟨g, 0, none⟩ _⟩
              simp only [Cd.numS, hf, if_true, Cd.rest, Option.getD_some]
              exact ⟨hh, _, H.out.set 0 _, (Bytes.tail (n := n) (k := 6) HV.out (by omega) (by omega) (fun h => by omega)).setCell (HNE.out.ne (g := g) (by omega)) _, HNE.out, by rw [List.length_drop, HN.out]; omega⟩
            · go_wp2
              go_ret
              refine ⟨by simp [Cd.numN, hf, Cd.rest, HS.out], ?_, grown_setCell w ⟨g, 0, none⟩ _⟩
              simp only [Cd.numS, hf, if_true, Cd.rest, Option.getD_some]
              exact ⟨hh, _, H.out.set 0 _, (Bytes.tail (n := n) (k := 6) HV.out (by omega) (by omega) (fun _ b' off' e => by injection e with e; injection e with e1 e2; subst e1 e2; rfl)).setCell (HNE.out.ne (g := g) (by omega)) _, HNE.out, by rw [List.length_drop, HN.out]; omega⟩

/-- A call that answers bytes of its own, and turns a reader. -/
def SaidBytes (lo hi g : Nat) (s : Cd.St) (l : List Nat) (w : World) (e : Ending) (w' : World) : Prop := ∃ v, e = .returned v ∧ Own w' w.heap.size v l ∧ Rdr w' lo hi g s ∧ w.grownBy w' (some g)

set_option maxHeartbeats 1000000 in
theorem rbytes_any (lo hi g : Nat) (s : Cd.St) (most : Int) (w : World) (h : Rdr w lo hi g s) :
    Calls Try.prog 55 #[.pointer (some ⟨g, 0, none⟩), .int .i64 most] w (SaidBytes lo hi g (Cd.bytesS s most) (Cd.bytesL s most) w) := by
  have hn := Lib.hid (rnum_any lo hi g s most w h)
  have hg := h.size
  have hh := h.1
  clear h
  rcases hf : Cd.fits s most with _ | _
  · have h1 : Cd.numS s most = none := by simp [Cd.numS, hf]
    have h2 : Cd.numN s most = 0 := by simp [Cd.numN, hf]
    have h3 : Cd.bytesS s most = none := by simp [Cd.bytesS, Cd.fitsB, hf]
    have h4 : Cd.bytesL s most = [] := by simp [Cd.bytesL, Cd.fitsB, hf]
    rw [h1, h2] at hn
    rw [h3, h4]
    clear hf h1 h2 h3 h4
    go_enter Try.func55, Try.ntmps55
    go_wp2_with fail
    refine hn.out.mono ?_
    rintro e w1 ⟨rfl, hr, hg1⟩
    have HR := Lib.hid (Rdr.none_of hr rfl)
    have hy : w1.cell? ⟨g, 1, none⟩ = some (.bool true) := HR.out.at 1
    clear hr
    go_wp2_with (go_at_call 63; refine (fail_any lo hi g _ _ _ hh HR.out).mono ?_; rintro e w' ⟨rfl, hr, hg⟩)
    go_ret
    exact ⟨_, rfl, own_none _ _, hr, hg1.trans hg⟩
  · obtain ⟨R, hR⟩ : ∃ R, (Cd.rest s).drop 6 = R := ⟨_, rfl⟩
    obtain ⟨n, hN⟩ : ∃ n, Cd.dec ((Cd.rest s).take 6) = n := ⟨_, rfl⟩
    have hRl : R.length = (Cd.rest s).length - 6 := by rw [← hR, List.length_drop]
    have h1 : Cd.numS s most = some R := by simp [Cd.numS, hf, hR]
    have h2 : Cd.numN s most = n := by simp [Cd.numN, hf, hN]
    rw [h1, h2] at hn
    by_cases hle : n ≤ R.length
    · have hb : Cd.fitsB s most = true := by simp [Cd.fitsB, hf, hN, ← hRl, hle]
      have h3 : Cd.bytesS s most = some (R.drop n) := by simp [Cd.bytesS, hb, hN, ← hR, List.drop_drop]
      have h4 : Cd.bytesL s most = R.take n := by simp [Cd.bytesL, hb, hN, hR]
      rw [h3, h4]
      clear hf h1 h2 h3 h4 hN hRl hb hR
      go_enter Try.func55, Try.ntmps55
      go_wp2_with fail
      refine hn.out.mono ?_
      rintro e w1 ⟨rfl, hr, hg1⟩
      obtain ⟨A, c, hB, hv, hne, hl, hc⟩ := Rdr.some_of hr rfl
      have hx : w1.cell? ⟨g, 0, none⟩ = some (.slice A R.length c) := hB.at 0
      have hy : w1.cell? ⟨g, 1, none⟩ = some (.bool false) := hB.at 1
      have fx := hB.free 0
      have hle' : (n : Int) ≤ (R.length : Int) := by omega
      have hnc : n ≤ c := by omega
      have HB := Lib.hid hB
      have HV := Lib.hid hv
      have HNE := Lib.hid hne
      clear hr hB hv hne
      go_wp2_with fail
      refine (clone_any _ (R.take n) _ (HV.out.head (by omega) (by omega)) (by rw [List.length_take]; omega)).mono ?_
      rintro e w2 ⟨v2, rfl, ho2, hb2⟩
      have HO2 := Lib.hid ho2
      have HB2 := Lib.hid (HB.out.under hb2)
      have HV2 := Lib.hid (HV.out.under hb2)
      have hx2 : w2.cell? ⟨g, 0, none⟩ = some (.slice A R.length c) := HB2.out.at 0
      have fx2 := HB2.out.free 0
      have hgw1 : g < w1.heap.size := HB.out.size
      have hsz : w.heap.size ≤ w1.heap.size := hg1.size
      clear ho2 hx hy fx
      by_cases hcn : c = n
      · go_wp2
        go_ret
        have hgv : v2.ownBlock ≠ some g := fun e => by have := (HO2.out.lt g e).1; omega
        have hgn := HNE.out.ne (g := g) (by omega)
        refine ⟨v2, rfl, (HO2.out.more hsz).grown (grown_setCell w2 ⟨g, 0, none⟩ _) (.inr hgv), ⟨hh, _, HB2.out.set 0 _, (Bytes.tail (n := R.length) (k := n) HV2.out hle (by omega) ?_).setCell ?_ _, ?_, by rw [List.length_drop]; omega⟩, (hg1.trans (Below.toGrown hb2 _)).trans (grown_setCell w2 ⟨g, 0, none⟩ _)⟩
        · intro; omega
        · rw [own_block_eq A _ _ R.length c]; exact hgn
        · exact HNE.out.eq
      · go_wp2
        go_ret
        have hgv : v2.ownBlock ≠ some g := fun e => by have := (HO2.out.lt g e).1; omega
        have hgn := HNE.out.ne (g := g) (by omega)
        refine ⟨v2, rfl, (HO2.out.more hsz).grown (grown_setCell w2 ⟨g, 0, none⟩ _) (.inr hgv), ⟨hh, _, HB2.out.set 0 _, (Bytes.tail (n := R.length) (k := n) HV2.out hle (by omega) ?_).setCell ?_ _, ?_, by rw [List.length_drop]; omega⟩, (hg1.trans (Below.toGrown hb2 _)).trans (grown_setCell w2 ⟨g, 0, none⟩ _)⟩
        · rintro _ b off rfl
          rw [Option.map_some, add_plain]
        · rw [own_block_add A _ _ _ R.length c]; exact hgn
        · exact HNE.out.add
    · have hb : Cd.fitsB s most = false := by simp [Cd.fitsB, hN, ← hRl]; omega
      have h3 : Cd.bytesS s most = none := by simp [Cd.bytesS, hb]
      have h4 : Cd.bytesL s most = [] := by simp [Cd.bytesL, hb]
      rw [h3, h4]
      clear hf h1 h2 h3 h4 hN hRl hb hR
      go_enter Try.func55, Try.ntmps55
      go_wp2_with fail
      refine hn.out.mono ?_
      rintro e w1 ⟨rfl, hr, hg1⟩
      obtain ⟨A, c, hB, hv, hne, hl, hc⟩ := Rdr.some_of hr rfl
      have hx : w1.cell? ⟨g, 0, none⟩ = some (.slice A R.length c) := hB.at 0
      have hy : w1.cell? ⟨g, 1, none⟩ = some (.bool false) := hB.at 1
      have HB := Lib.hid hB
      have hgt : (R.length : Int) < (n : Int) := by omega
      clear hr hB hv hne
      go_wp2_with (go_at_call 63; refine (fail_any lo hi g _ _ _ hh HB.out).mono ?_; rintro e w' ⟨rfl, hr, hg⟩)
      go_ret
      exact ⟨_, rfl, own_none _ _, hr, hg1.trans hg⟩

theorem rnum_is (lo hi g : Nat) (s s' : Cd.St) (most n : Int) (w : World) (h : Rdr w lo hi g s) (hs : Cd.numS s most = s') (hn : ((Cd.numN s most : Nat) : Int) = n) :
    Calls Try.prog 62 #[.pointer (some ⟨g, 0, none⟩), .int .i64 most] w (Said lo hi g s' (.int .i64 n) w) := by
  subst hs hn
  exact rnum_any lo hi g s most w h
theorem rbytes_is (lo hi g : Nat) (s s' : Cd.St) (most : Int) (l : List Nat) (w : World) (h : Rdr w lo hi g s) (hs : Cd.bytesS s most = s') (hl : Cd.bytesL s most = l) :
    Calls Try.prog 55 #[.pointer (some ⟨g, 0, none⟩), .int .i64 most] w (SaidBytes lo hi g s' l w) := by
  subst hs hl
  exact rbytes_any lo hi g s most w h
theorem end_is (lo hi g : Nat) (s : Cd.St) (b : Bool) (w : World) (h : Rdr w lo hi g s) (hb : Cd.endB s = b) :
    Calls Try.prog 56 #[.pointer (some ⟨g, 0, none⟩)] w fun e w' => e = .returned (.bool b) ∧ w = w' := by
  subst hb
  exact end_any lo hi g s w h
theorem ok_is (lo hi g : Nat) (s : Cd.St) (b : Bool) (w : World) (h : Rdr w lo hi g s) (hb : s.isSome = b) :
    Calls Try.prog 68 #[.pointer (some ⟨g, 0, none⟩)] w fun e w' => e = .returned (.bool b) ∧ w = w' := by
  subst hb
  exact ok_any lo hi g s w h
end Go.Proofs.Ytoloidfkpfdboaa

/- The document's own answer for numbers, bytes, and a reader of them, is the same plain function. -/
namespace Go.Proofs.Ytoloidfkpfdboaa
set_option maxRecDepth 100000
open Go.ChangeShapes Go.WideShapes Go.ChangeAt Go.RowKit

set_option maxHeartbeats 1000000 in
theorem refnum_any (v : Value) (l : List Nat) (n : Int) (w : World) (h : Bytes w v l) (hl : l.length ≤ 1099511627776) :
    Calls Try.prog 44 #[v, .int .i64 n] w (Made w.heap.size (l ++ Cd.enc (Cd.held n)) w) := by
  have HE := Cd.held_eq n
  have hd := Cd.held_le n
  obtain ⟨m, hm⟩ : ∃ m, Cd.held n = m := ⟨_, rfl⟩
  rw [hm] at HE hd ⊢
  clear hm
  have H := Lib.hid h
  have hn : (n < 0 → (m : Int) = 0) ∧ (1099511627776 < n → (m : Int) = 1099511627776) ∧ (0 ≤ n → n ≤ 1099511627776 → (m : Int) = n) := by omega
  have HM := Lib.hid hn
  clear HE h hn
  go_enter Try.func44, Try.ntmps44
  go_upto_region 1 with fail
  go_cut [5] (fun q wx => ∃ v', q = v' ∧ Own wx w.heap.size v' l ∧ Below w.heap.size w wx)
  case first =>
    go_wp2_with (at_builtin; refine wpList_append_bytes rfl _ _ rfl w.heap.size _ _ [] l rfl (own_empty w _ 0 #[] (Nat.le_refl _) (by unfold maxLen; omega) rfl) rfl (H.out.alloc _) ?_ ?_ l rfl ?_)
    case refine_1 => simp; omega
    case refine_2 => simp
    case refine_3 =>
      intro v' w' hg
      obtain ⟨ho', _, _, hb'⟩ := hg
      go_wp2_with fail
      go_meet
      exact ⟨v', rfl, ho', ((Below.refl _ _).alloc (Nat.le_refl _) _).trans hb'⟩
  case rest =>
    obtain ⟨v', rfl, ho, hb⟩ := hcut
    obtain ⟨wx, rfl⟩ : ∃ wx : World, wx = wc := ⟨_, rfl⟩
    have HO := Lib.hid ho
    have hbw := hb
    have hsz := hb.size
    clear ho hb H
    go_upto_region 2 with fail
    go_cut [1] (fun q wz => q = .int .i64 (m : Int) ∧ wx = wz)
    case first =>
      go_wp2_with fail
      all_goals go_meet
      · exact ⟨by rw [HM.out.2.1 (by omega)], rfl⟩
      · exact ⟨by rw [HM.out.1 (by omega)], rfl⟩
      · exact ⟨by rw [HM.out.2.2 (by omega) (by omega)], rfl⟩
    case rest =>
      obtain ⟨rfl, rfl⟩ := hcut
      clear HM
      go_wp2
      go_loopw [5, 6] (fun v i wr => ∃ k : Nat, k ≤ 6 ∧ i = .int .i64 ((k : Int) - 1) ∧ Own wr w.heap.size v (l ++ (Cd.enc m).take (6 - k)) ∧ Below w.heap.size wx wr) (fun _ i _ => (intOf i + 1).toNat)
      case atStart => exact ⟨6, by omega, rfl, by simpa using HO.out, Below.refl _ _⟩
      case round =>
        obtain ⟨k, hk, rfl, ho, hb⟩ := hrel
        rcases k with _ | j
        · go_wp2
          go_ret
          exact ⟨_, rfl, by simpa [Cd.enc] using ho, hbw.trans hb⟩
        · have HO := Lib.hid (ho.alloc (.cells #[.int .u8 ((m : Int) / 2 ^ (8 * j) % 256)] 5))
          clear ho
          go_wp2_with (at_builtin; refine wpList_append_bytes rfl _ _ rfl w.heap.size _ _ (l ++ (Cd.enc m).take (6 - (j + 1))) [m / 2 ^ (8 * j) % 256] rfl HO.out rfl (bytes_one _ _ _ _ _ (byte_at m j) (Nat.mod_lt _ (by decide))) ?_ ?_ (l ++ (Cd.enc m).take (6 - j)) (by rw [List.append_assoc, Cd.enc_next m j (by omega)]) ?_)
          case refine_1 => simp [Cd.enc]; omega
          case refine_2 => have := hb.size; simp; omega
          case refine_3 =>
            intro v' w' hg
            obtain ⟨ho', _, _, hb'⟩ := hg
            have HO' := Lib.hid ho'
            have hb2 := (hb.alloc (by have := hb.size; omega) (.cells #[.int .u8 ((m : Int) / 2 ^ (8 * j) % 256)] 5)).trans hb'
            clear ho' hb hb'
            go_wp2
            go_roundw
            case rel => exact ⟨j, by omega, rfl, HO'.out, hb2⟩
            case measure => simp [intOf]

set_option maxHeartbeats 1000000 in
theorem refbytes_any (v x : Value) (l m : List Nat) (w : World) (h : Bytes w v l) (hx : Bytes w x m) (hl : l.length ≤ 549755813888) (hm : m.length ≤ 549755813888) :
    Calls Try.prog 35 #[v, x] w (Made w.heap.size (l ++ Cd.enc m.length ++ m) w) := by
  have H := Lib.hid h
  have HX := Lib.hid hx
  obtain ⟨_, _, A, c, rfl, _, _⟩ := hx.parts
  clear h hx
  obtain ⟨n, hn⟩ : ∃ n, m.length = n := ⟨_, rfl⟩
  rw [hn] at HX hm ⊢
  have hheld : Cd.held (n : Int) = n := by unfold Cd.held; omega
  have HH := Lib.hid hheld
  have HN := Lib.hid hn
  clear hn hheld
  obtain ⟨r, hr⟩ : ∃ r, l ++ Cd.enc n ++ m = r := ⟨_, rfl⟩
  rw [hr]
  have HR := Lib.hid hr
  clear hr
  go_enter Try.func35, Try.ntmps35
  go_wp2_with fail
  refine (refnum_any v l _ w H.out (by omega)).mono ?_
  rintro e w'' ⟨v'', rfl, ho'', hb''⟩
  rw [HH.out] at ho''
  have HO2 := Lib.hid ho''
  have hz'' := hb''.size
  have HX2 := Lib.hid (HX.out.under hb'')
  clear ho''
  go_wp2_with (at_builtin; refine wpList_append_bytes rfl _ _ rfl w.heap.size _ _ _ m rfl HO2.out rfl HX2.out ?_ ?_ r HR.out ?_)
  case refine_1 => simp [HN.out, Cd.enc]; omega
  case refine_2 => omega
  case refine_3 =>
    intro v' w' hg
    obtain ⟨ho', _, _, hb'⟩ := hg
    have HO3 := Lib.hid ho'
    clear ho'
    go_wp2
    go_ret
    exact ⟨_, rfl, HO3.out, hb''.trans hb'⟩

theorem Bytes.empty {w w' : World} {v : Value} (h : Bytes w v []) : Bytes w' v [] := by
  obtain ⟨h1, h2, ⟨_, A, c, rfl⟩ | ⟨b, off, c, rfl, _, _⟩⟩ := h
  · exact ⟨h1, h2, .inl ⟨rfl, A, c, rfl⟩⟩
  · exact ⟨h1, h2, .inl ⟨rfl, some ⟨b, off, none⟩, c, rfl⟩⟩
theorem Bytes.grown_ {w w' : World} {row : Option Nat} {v : Value} {l : List Nat} (h : Bytes w v l) (hg : w.grownBy w' row) (hne : l ≠ [] → v.ownBlock = none ∨ v.ownBlock ≠ row) : Bytes w' v l := by
  rcases l with _ | ⟨x, l⟩
  · exact h.empty
  · exact h.grown hg (hne (by simp))
theorem Bytes.setCell_ {w : World} {v : Value} {l : List Nat} (h : Bytes w v l) {p : Addr} (hp : l ≠ [] → v.ownBlock ≠ some p.block) (u : Value) : Bytes (w.setCell p u) v l := by
  rcases l with _ | ⟨x, l⟩
  · exact h.empty
  · exact h.setCell (hp (by simp)) u
/-- The document's reader: its block, and below which block its bytes lie. -/
def Ref (w : World) (hi g : Nat) (s : Cd.St) : Prop := hi ≤ g ∧ match s with
  | none => ∃ A n c, Blk w g 75 #[.slice A n c, .bool true]
  | some l => ∃ v, Blk w g 75 #[v, .bool false] ∧ Bytes w v l ∧ (l ≠ [] → Between 0 hi v) ∧ l.length ≤ 1099511627776
theorem Ref.size {w : World} {hi g : Nat} {s : Cd.St} (h : Ref w hi g s) : g < w.heap.size := by
  rcases s with _ | l
  · obtain ⟨_, A, n, c, h⟩ := h
    exact h.size
  · obtain ⟨_, v, h, _⟩ := h
    exact h.size
theorem Ref.none_of {w : World} {hi g : Nat} {s : Cd.St} (h : Ref w hi g s) (hs : s = none) : ∃ A n c, Blk w g 75 #[.slice A n c, .bool true] := by
  subst hs
  exact h.2
theorem Ref.some_of {w : World} {hi g : Nat} {s : Cd.St} {l : List Nat} (h : Ref w hi g s) (hs : s = some l) : ∃ A c, Blk w g 75 #[.slice A l.length c, .bool false] ∧ Bytes w (.slice A l.length c) l ∧
    (l ≠ [] → Between 0 hi (.slice A l.length c)) ∧ l.length ≤ 1099511627776 ∧ l.length ≤ c := by
  subst hs
  obtain ⟨_, v, h1, h2, h3, h4⟩ := h
  obtain ⟨_, _, A, c, rfl, h5, _⟩ := h2.parts
  exact ⟨A, c, h1, h2, h3, h4, h5⟩
theorem Ref.grown {w w' : World} {row : Option Nat} {hi g : Nat} {s : Cd.St} (h : Ref w hi g s) (hg : w.grownBy w' row) (hne : ∀ k, row = some k → k ≠ g ∧ ¬ k < hi) : Ref w' hi g s := by
  have h1 : some g ≠ row := fun e => (hne g e.symm).1 rfl
  refine ⟨h.1, ?_⟩
  rcases s with _ | l
  · obtain ⟨_, A, n, c, h2⟩ := h
    exact ⟨A, n, c, h2.grown hg h1⟩
  · obtain ⟨_, v, h2, h3, h4, h5⟩ := h
    refine ⟨v, h2.grown hg h1, h3.grown_ hg fun h0 => ?_, h4, h5⟩
    rcases hv : v.ownBlock with _ | k
    · exact .inl rfl
    · exact .inr fun e => (hne k e.symm).2 (h4 h0 k hv).2
theorem Ref.under {w w' : World} {hi g : Nat} {s : Cd.St} (h : Ref w hi g s) (hb : Below w.heap.size w w') : Ref w' hi g s :=
  h.grown (Below.toGrown hb none) (by simp)

/-- A call of the document's reader's. -/
def Told (hi g : Nat) (s : Cd.St) (v : Value) (w : World) (e : Ending) (w' : World) : Prop := e = .returned v ∧ Ref w' hi g s ∧ w.grownBy w' (some g)

set_option maxHeartbeats 1000000 in
theorem refend_any (hi g : Nat) (s : Cd.St) (w : World) (h : Ref w hi g s) :
    Calls Try.prog 38 #[.pointer (some ⟨g, 0, none⟩)] w fun e w' => e = .returned (.bool (Cd.endB s)) ∧ w = w' := by
  rcases s with _ | l
  · obtain ⟨A, n, c, h⟩ := Ref.none_of h rfl
    have hy : w.cell? ⟨g, 1, none⟩ = some (.bool true) := h.at 1
    clear h
    go_enter Try.func38, Try.ntmps38
    go_wp2
    go_ret
    exact ⟨rfl, rfl⟩
  · obtain ⟨A, c, h, _, _, _, _⟩ := Ref.some_of h rfl
    have hx : w.cell? ⟨g, 0, none⟩ = some (.slice A l.length c) := h.at 0
    have hy : w.cell? ⟨g, 1, none⟩ = some (.bool false) := h.at 1
    clear h
    have hend : Cd.endB (some l) = ((l.length : Int) == 0) := by
      unfold Cd.endB
      cases l <;> simp
      omega
    have HE := Lib.hid hend
    clear hend
    go_enter Try.func38, Try.ntmps38
    go_wp2
    go_ret
    exact ⟨ret_bool HE.out.symm, rfl⟩

set_option maxHeartbeats 1000000 in
theorem refrnum_any (hi g : Nat) (s : Cd.St) (most : Int) (w : World) (h : Ref w hi g s) :
    Calls Try.prog 46 #[.pointer (some ⟨g, 0, none⟩), .int .i64 most] w (Told hi g (Cd.numS s most) (.int .i64 (Cd.numN s most : Int)) w) := by
  have hh := h.1
  rcases s with _ | l
  · obtain ⟨A, n, c, h⟩ := Ref.none_of h rfl
    have hy : w.cell? ⟨g, 1, none⟩ = some (.bool true) := h.at 1
    have fy := h.free 1
    have H := Lib.hid h
    clear h
    go_enter Try.func46, Try.ntmps46
    go_wp2
    go_ret
    exact ⟨rfl, ⟨hh, A, n, c, H.out.set 1 _⟩, grown_setCell w ⟨g, 1, none⟩ _⟩
  · obtain ⟨A, c, h, hv, hne, hl, hc⟩ := Ref.some_of h rfl
    have hx : w.cell? ⟨g, 0, none⟩ = some (.slice A l.length c) := h.at 0
    have hy : w.cell? ⟨g, 1, none⟩ = some (.bool false) := h.at 1
    have fy := h.free 1
    have fx := h.free 0
    have H := Lib.hid h
    have HV := Lib.hid hv
    obtain ⟨n, hn⟩ : ∃ n, l.length = n := ⟨_, rfl⟩
    rw [hn] at hx H HV hl hne hc
    have HN := Lib.hid hn
    have HNE := Lib.hid hne
    clear hn h hv hne
    by_cases h6 : n < 6
    · go_enter Try.func46, Try.ntmps46
      go_wp2
      go_ret
      have hf := Cd.fits_short (most := most) (by rw [HN.out]; exact h6 : l.length < 6)
      exact ⟨by simp [Cd.numN, hf], by simp only [Cd.numS, hf]; exact ⟨hh, _, _, _, H.out.set 1 _⟩, grown_setCell w ⟨g, 1, none⟩ _⟩
    · have hb := HV.out.1
      obtain ⟨_, _, A', c', e, _, hcell⟩ := HV.out.parts
      injection e with e1 e2 e3
      subst e1
      obtain ⟨b, off, rfl, hcl⟩ := hcell (by rw [HN.out]; omega)
      rw [HN.out] at hcl
      have hl6 : 6 ≤ l.length := by rw [HN.out]; omega
      have z6 : ¬ ((n : Int) < 6) := by omega
      have hl0 : l ≠ [] := by intro e; rw [e] at hl6; simp at hl6
      have HNE2 := Lib.hid (HNE.out hl0)
      clear hl0
      have hc6 : 6 ≤ c := by omega
      have HB := Lib.hid hb
      have HC := Lib.hid hcl
      clear hb hcell hcl e2 e3
      go_enter Try.func46, Try.ntmps46
      go_wp2
      go_loop [5, 6] (fun t i => ∃ k : Nat, k ≤ 6 ∧ i = .int .i64 k ∧ t = .int .i64 ((Cd.dec (l.take k) : Nat) : Int)) (fun _ i => 6 - (intOf i).toNat)
      case atStart => exact ⟨0, by omega, rfl, rfl⟩
      case round =>
        obtain ⟨k, hk, rfl, rfl⟩ := hrel
        have ht := Cd.dec_take_lt l k hk HB.out
        obtain ⟨S, hS⟩ : ∃ S, Cd.dec (l.take k) = S := ⟨_, rfl⟩
        rw [hS] at ht ⊢
        have HS := Lib.hid hS
        clear hS
        by_cases hlt : k < 6
        · obtain ⟨x, hx8, HX, hcx⟩ := getD_hid HB.out HC.out (show k < n by omega)
          have hkn : (k : Int) < (n : Int) := by omega
          go_wp2
          go_round
          case rel =>
            refine ⟨k + 1, by omega, by go_num, ?_⟩
            rw [or8 S x ht hx8, take_snoc l k (by rw [HN.out]; omega), Cd.dec_snoc, HS.out, HX.out]
          case measure => simp [intOf]; omega
        · obtain rfl : k = 6 := by omega
          have hlt' : ¬ ((6 : Nat) : Int) < 6 := by omega
          by_cases hm : most < (S : Int)
          · go_wp2
            go_ret
            have hf := Cd.fits_great (l := l) (most := most) (by rw [HS.out]; exact hm)
            exact ⟨by simp [Cd.numN, hf], by simp only [Cd.numS, hf]; exact ⟨hh, _, _, _, H.out.set 1 _⟩, grown_setCell w ⟨g, 1, none⟩ _⟩
          · have hf : Cd.fits (some l) most = true := Cd.fits_some.2 ⟨hl6, by rw [HS.out]; omega⟩
            by_cases hcap : c = 6
            · go_wp2
              go_ret
              refine ⟨by simp [Cd.numN, hf, Cd.rest, HS.out], ?_, grown_setCell w ⟨g, 0, none⟩ _⟩
              simp only [Cd.numS, hf, if_true, Cd.rest, Option.getD_some]
              exact ⟨hh, _, H.out.set 0 _, (Bytes.tail (n := n) (k := 6) HV.out (by omega) (by omega) (fun h => by omega)).setCell (HNE2.out.ne (g := g) (by omega)) _, fun _ => HNE2.out, by rw [List.length_drop, HN.out]; omega⟩
            · go_wp2
              go_ret
              refine ⟨by simp [Cd.numN, hf, Cd.rest, HS.out], ?_, grown_setCell w ⟨g, 0, none⟩ _⟩
              simp only [Cd.numS, hf, if_true, Cd.rest, Option.getD_some]
              exact ⟨hh, _, H.out.set 0 _, (Bytes.tail (n := n) (k := 6) HV.out (by omega) (by omega) (fun _ b' off' e => by injection e with e; injection e with e1 e2; subst e1 e2; rfl)).setCell (HNE2.out.ne (g := g) (by omega)) _, fun _ => HNE2.out, by rw [List.length_drop, HN.out]; omega⟩

def ToldBytes (hi g : Nat) (s : Cd.St) (l : List Nat) (w : World) (e : Ending) (w' : World) : Prop := ∃ v, e = .returned v ∧ Own w' w.heap.size v l ∧ Ref w' hi g s ∧ w.grownBy w' (some g)

set_option maxHeartbeats 1000000 in
theorem refrbytes_any (hi g : Nat) (s : Cd.St) (most : Int) (w : World) (h : Ref w hi g s) :
    Calls Try.prog 37 #[.pointer (some ⟨g, 0, none⟩), .int .i64 most] w (ToldBytes hi g (Cd.bytesS s most) (Cd.bytesL s most) w) := by
  have hn := Lib.hid (refrnum_any hi g s most w h)
  have hg := h.size
  have hh := h.1
  clear h
  rcases hf : Cd.fits s most with _ | _
  · have h1 : Cd.numS s most = none := by simp [Cd.numS, hf]
    have h2 : Cd.numN s most = 0 := by simp [Cd.numN, hf]
    have h3 : Cd.bytesS s most = none := by simp [Cd.bytesS, Cd.fitsB, hf]
    have h4 : Cd.bytesL s most = [] := by simp [Cd.bytesL, Cd.fitsB, hf]
    rw [h1, h2] at hn
    rw [h3, h4]
    clear hf h1 h2 h3 h4
    go_enter Try.func37, Try.ntmps37
    go_wp2_with fail
    refine hn.out.mono ?_
    rintro e w1 ⟨rfl, hr, hg1⟩
    obtain ⟨A, n, c, hB⟩ := Ref.none_of hr rfl
    have HR := Lib.hid hB
    have hy : w1.cell? ⟨g, 1, none⟩ = some (.bool true) := HR.out.at 1
    have fy := HR.out.free 1
    clear hr hB
    go_wp2
    go_ret
    exact ⟨_, rfl, own_none _ _, ⟨hh, _, _, _, HR.out.set 1 _⟩, hg1.trans (grown_setCell w1 ⟨g, 1, none⟩ _)⟩
  · obtain ⟨R, hR⟩ : ∃ R, (Cd.rest s).drop 6 = R := ⟨_, rfl⟩
    obtain ⟨n, hN⟩ : ∃ n, Cd.dec ((Cd.rest s).take 6) = n := ⟨_, rfl⟩
    have hRl : R.length = (Cd.rest s).length - 6 := by rw [← hR, List.length_drop]
    have h1 : Cd.numS s most = some R := by simp [Cd.numS, hf, hR]
    have h2 : Cd.numN s most = n := by simp [Cd.numN, hf, hN]
    rw [h1, h2] at hn
    by_cases hle : n ≤ R.length
    · have hb : Cd.fitsB s most = true := by simp [Cd.fitsB, hf, hN, ← hRl, hle]
      have h3 : Cd.bytesS s most = some (R.drop n) := by simp [Cd.bytesS, hb, hN, ← hR, List.drop_drop]
      have h4 : Cd.bytesL s most = R.take n := by simp [Cd.bytesL, hb, hN, hR]
      rw [h3, h4]
      clear hf h1 h2 h3 h4 hN hRl hb hR
      go_enter Try.func37, Try.ntmps37
      go_wp2_with fail
      refine hn.out.mono ?_
      rintro e w1 ⟨rfl, hr, hg1⟩
      obtain ⟨A, c, hB, hv, hne, hl, hc⟩ := Ref.some_of hr rfl
      have HB := Lib.hid hB
      have HV := Lib.hid hv
      have HNE := Lib.hid hne
      have hx : ∀ o, (w1.alloc o).cell? ⟨g, 0, none⟩ = some (Value.slice A R.length c) := fun o => (HB.out.alloc o).at 0
      have hy : w1.cell? ⟨g, 1, none⟩ = some (.bool false) := HB.out.at 1
      have hx0 : w1.cell? ⟨g, 0, none⟩ = some (.slice A R.length c) := HB.out.at 0
      have hle' : (n : Int) ≤ (R.length : Int) := by omega
      have hnc : n ≤ c := by omega
      have hgw1 : g < w1.heap.size := HB.out.size
      have hsz : w.heap.size ≤ w1.heap.size := hg1.size
      clear hr hB hv hne
      go_wp2_with (at_builtin; refine wpList_append_bytes rfl _ _ rfl w1.heap.size _ _ [] (R.take n) rfl (own_empty w1 _ 0 #[] (Nat.le_refl _) (by unfold maxLen; omega) rfl) rfl ((HV.out.alloc _).head (k := n) (by omega) (by omega)) ?_ ?_ (R.take n) rfl ?_)
      case refine_1 => rw [List.length_take]; simp; omega
      case refine_2 => simp
      case refine_3 =>
        intro v2 w2 hg2
        obtain ⟨ho2, _, _, hb2'⟩ := hg2
        have hb2 : Below w1.heap.size w1 w2 := ((Below.refl _ _).alloc (Nat.le_refl _) _).trans hb2'
        have HO2 := Lib.hid ho2
        have HB2 := Lib.hid (HB.out.under hb2)
        have HV2 := Lib.hid (HV.out.under hb2)
        have hx2 : w2.cell? ⟨g, 0, none⟩ = some (.slice A R.length c) := HB2.out.at 0
        have fx2 := HB2.out.free 0
        clear ho2 hx hx0 hy hb2'
        by_cases hcn : c = n
        · go_wp2
          go_ret
          have hgv : v2.ownBlock ≠ some g := fun e => by have := (HO2.out.lt g e).1; omega
          refine ⟨v2, rfl, (HO2.out.more hsz).grown (grown_setCell w2 ⟨g, 0, none⟩ _) (.inr hgv), ⟨hh, _, HB2.out.set 0 _, (Bytes.tail (n := R.length) (k := n) HV2.out hle (by omega) ?_).setCell_ ?_ _, ?_, by rw [List.length_drop]; omega⟩, (hg1.trans (Below.toGrown hb2 _)).trans (grown_setCell w2 ⟨g, 0, none⟩ _)⟩
          · intro; omega
          · intro h0; rw [own_block_eq A _ _ R.length c]; exact (HNE.out (fun e => h0 (by rw [e]; simp))).ne (g := g) (by omega)
          · intro h0; exact (HNE.out (fun e => h0 (by rw [e]; simp))).eq
        · go_wp2
          go_ret
          have hgv : v2.ownBlock ≠ some g := fun e => by have := (HO2.out.lt g e).1; omega
          refine ⟨v2, rfl, (HO2.out.more hsz).grown (grown_setCell w2 ⟨g, 0, none⟩ _) (.inr hgv), ⟨hh, _, HB2.out.set 0 _, (Bytes.tail (n := R.length) (k := n) HV2.out hle (by omega) ?_).setCell_ ?_ _, ?_, by rw [List.length_drop]; omega⟩, (hg1.trans (Below.toGrown hb2 _)).trans (grown_setCell w2 ⟨g, 0, none⟩ _)⟩
          · rintro _ b off rfl
            rw [Option.map_some, add_plain]
          · intro h0; rw [own_block_add A _ _ _ R.length c]; exact (HNE.out (fun e => h0 (by rw [e]; simp))).ne (g := g) (by omega)
          · intro h0; exact (HNE.out (fun e => h0 (by rw [e]; simp))).add
    · have hb : Cd.fitsB s most = false := by simp [Cd.fitsB, hN, ← hRl]; omega
      have h3 : Cd.bytesS s most = none := by simp [Cd.bytesS, hb]
      have h4 : Cd.bytesL s most = [] := by simp [Cd.bytesL, hb]
      rw [h3, h4]
      clear hf h1 h2 h3 h4 hN hRl hb hR
      go_enter Try.func37, Try.ntmps37
      go_wp2_with fail
      refine hn.out.mono ?_
      rintro e w1 ⟨rfl, hr, hg1⟩
      obtain ⟨A, c, hB, hv, hne, hl, hc⟩ := Ref.some_of hr rfl
      have hx : w1.cell? ⟨g, 0, none⟩ = some (.slice A R.length c) := hB.at 0
      have hy : w1.cell? ⟨g, 1, none⟩ = some (.bool false) := hB.at 1
      have fy := hB.free 1
      have HB := Lib.hid hB
      have hgt : (R.length : Int) < (n : Int) := by omega
      clear hr hB hv hne
      go_wp2
      go_ret
      exact ⟨_, rfl, own_none _ _, ⟨hh, _, _, _, HB.out.set 1 _⟩, hg1.trans (grown_setCell w1 ⟨g, 1, none⟩ _)⟩
end Go.Proofs.Ytoloidfkpfdboaa
