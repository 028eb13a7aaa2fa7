/- The document's own files: writing one. -/
import Derived.Test.YtlfgadcfjjjbfaaRfGone
import Derived.Test.YtlfgadcfjjjbfaaSimSort
import Derived.Deep.DeepCutAuto
import Derived.Deep.RegionWith
import Derived.Deep.CutBlock
import Derived.Deep.RegionHeld3
import Derived.Test.YtlfgadcfjjjbfaaRegionL
namespace Go.Proofs.Ytlfgadcfjjjbfaa
set_option maxRecDepth 100000
open Go.ChangeShapes Go.WideShapes Go.ChangeAt Go.RowKit Go.ChangeMaps
open Sf
set_option linter.unusedSimpArgs false

theorem split_at {α : Type} {p : α → Bool} : ∀ {L : List α} {k : Nat}, k ≤ L.length → (∀ j, ∀ h : j < L.length, j < k → p (L[j]'h) = true) → (∀ h : k < L.length, p (L[k]'h) = false) → L.takeWhile p = L.take k ∧ L.dropWhile p = L.drop k
  | [], k, hk, _, _ => by simp
  | x :: r, 0, _, _, h0 => by
    have := h0 (by simp)
    simp only [List.getElem_cons_zero] at this
    simp [List.takeWhile_cons, List.dropWhile_cons, this]
  | x :: r, k + 1, hk, ha, h0 => by
    have h1 := ha 0 (by simp) (by omega)
    simp only [List.getElem_cons_zero] at h1
    obtain ⟨e1, e2⟩ := split_at (p := p) (L := r) (k := k) (by simpa using hk) (fun j h hj => by
      have := ha (j + 1) (by simpa using h) (by omega)
      simpa using this) (fun h => by
      have := h0 (by simpa using h)
      simpa using this)
    simp [List.takeWhile_cons, List.dropWhile_cons, h1, e1, e2]
theorem str_less {u t : List Nat} (hu : ∀ c ∈ u, c < 256) (ht : ∀ c ∈ t, c < 256) : Op.bytesLess (str u).toList (str t).toList = decide (u < t) := by
  rw [bytesLess_eq, str_toList, str_toList, decide_eq_decide, lt_nat]
  rw [there_nat hu, there_nat ht]
theorem own_empty8 (w : World) (base : Nat) (h : base ≤ w.heap.size) : Own (w.alloc (.cells #[] 5)) base (.slice (some ⟨w.heap.size, 0, none⟩) 0 0) [] :=
  ⟨⟨rfl, .inr ⟨w.heap.size, 0, #[], rfl, h, heap_alloc_new w _, Nat.le_refl _, Nat.zero_le _, rfl, rfl⟩⟩, by simp⟩
theorem ownF_empty (w : World) (base : Nat) (h : base ≤ w.heap.size) : OwnF (w.alloc (.cells #[] 58)) base (.slice (some ⟨w.heap.size, 0, none⟩) 0 0) [] :=
  ⟨rfl, .inr ⟨w.heap.size, 0, #[], rfl, h, heap_alloc_new w _, Nat.le_refl _, Nat.zero_le _, rfl, rfl⟩⟩
theorem Own.heap {w W : World} {base : Nat} {v : Value} {l : List Nat} (h : Own w base v l) (e : W.heap = w.heap) : Own W base v l := by
  refine ⟨?_, h.2⟩
  rcases h.1.2 with ⟨rfl, h0⟩ | ⟨g, cap, cur, rfl, hb, hg, hn, hm, hs, ht⟩
  · exact ⟨h.1.1, .inl ⟨rfl, h0⟩⟩
  · exact ⟨h.1.1, .inr ⟨g, cap, cur, rfl, hb, by rw [e]; exact hg, hn, hm, hs, ht⟩⟩
theorem OwnF.heap {w W : World} {base : Nat} {v : Value} {L : List Fv} (h : OwnF w base v L) (e : W.heap = w.heap) : OwnF W base v L := by
  rcases h.2 with ⟨rfl, h0⟩ | ⟨g, cap, cur, rfl, hb, hg, hn, hm, hs, ht⟩
  · exact ⟨h.1, .inl ⟨rfl, h0⟩⟩
  · exact ⟨h.1, .inr ⟨g, cap, cur, rfl, hb, by rw [e]; exact hg, hn, hm, hs, ht⟩⟩
theorem RdV.heap {w W : World} {v : Value} {R : List Fv} (h : RdV w v R) (e : W.heap = w.heap) : RdV W v R := h.same fun k _ => by rw [e]
theorem bytes_heap {w W : World} {v : Value} {l : List Nat} (h : Bytes w v l) (e : W.heap = w.heap) : Bytes W v l := h.same fun k _ _ => by rw [e]
theorem below_heap {B : Nat} {w w1 W wf : World} (hb : Below B W wf) (h : Below B w w1) (e : W.heap = w1.heap) (e2 : W.os = w1.os ∧ W.tape = w1.tape ∧ W.output = w1.output) : Below B w wf :=
  h.trans ⟨hb.os.trans e2.1, hb.tape.trans e2.2.1, hb.output.trans e2.2.2, by have := hb.size; rwa [e] at this, fun k hk => by rw [← e]; exact hb.block k hk⟩
theorem blk_grew {w w' w1 : World} {g : Nat} {t : TypeId} {cs : Array Value} {row : Option Nat} (hg : w.grownBy w' row) (hne : some g ≠ row) (h : Blk w1 g t cs) (e : w.heap = w1.heap) : Blk w' g t cs :=
  Blk.grown (show Blk w g t cs by unfold Blk at *; rw [e]; exact h) hg hne
abbrev zeroF : Obj := .cells #[.string ⟨#[]⟩, .slice none 0 0, .int .i64 0] 58
abbrev no8 : Obj := .cells #[] 5
/-- A box that is filled behind the bytes. -/
theorem box_filled {wx w3 : World} {gF : Nat} {vb : Value} {bb : List Nat} {x0 x1 x2 : Value} {t : TypeId} (hK : Blk w3 gF t #[x0, x1, x2]) (ho : Own w3 wx.heap.size vb bb) (hne : vb.ownBlock ≠ some gF) (hB : Below wx.heap.size wx w3) (hg : wx.heap.size ≤ gF) (a b c : Value) :
    Blk (((w3.setCell ⟨gF, 0, none⟩ a).setCell ⟨gF, 1, none⟩ b).setCell ⟨gF, 2, none⟩ c) gF t #[a, b, c] ∧ Own (((w3.setCell ⟨gF, 0, none⟩ a).setCell ⟨gF, 1, none⟩ b).setCell ⟨gF, 2, none⟩ c) wx.heap.size vb bb ∧ Below wx.heap.size wx (((w3.setCell ⟨gF, 0, none⟩ a).setCell ⟨gF, 1, none⟩ b).setCell ⟨gF, 2, none⟩ c) := by
  have g1 := grown_setCell w3 ⟨gF, 0, none⟩ a
  have g2 := grown_setCell (w3.setCell ⟨gF, 0, none⟩ a) ⟨gF, 1, none⟩ b
  have g3 := grown_setCell ((w3.setCell ⟨gF, 0, none⟩ a).setCell ⟨gF, 1, none⟩ b) ⟨gF, 2, none⟩ c
  have hs := hB.size
  refine ⟨((hK.set 0 a).set 1 b).set 2 c, ((ho.grown g1 (.inr hne)).grown g2 (.inr hne)).grown g3 (.inr hne), ?_⟩
  exact ((hB.trans (Below.ofGrown g1 hg hs)).trans (Below.ofGrown g2 hg (by rw [World.size_setCell]; exact hs))).trans (Below.ofGrown g3 hg (by rw [World.size_setCell, World.size_setCell]; exact hs))
theorem OwnF.sl {w : World} {base : Nat} {v : Value} {L : List Fv} (h : OwnF w base v L) : ∃ A c, v = .slice A L.length c := by
  rcases h.2 with ⟨rfl, h0⟩ | ⟨g, cap, cur, rfl, _⟩
  · exact ⟨none, 0, by rw [h0]⟩
  · exact ⟨_, _, rfl⟩
theorem grownq {w w1 w2 : World} {r : Option Nat} (h1 : w.grownBy w1 r) (h2 : w1.grownBy w2 r) : w.grownBy w2 r :=
  ⟨h2.os.trans h1.os, h2.tape.trans h1.tape, h2.output.trans h1.output, Nat.le_trans h1.size h2.size, fun j hj hr => (h2.block j (Nat.lt_of_lt_of_le hj h1.size) hr).trans (h1.block j hj hr)⟩
theorem RdV.head {w : World} {A : Option Addr} {n c k : Nat} {T : List Fv} (h : RdV w (.slice A n c) T) (hk : k ≤ n) : RdV w (.slice A k c) (T.take k) := by
  obtain ⟨A', c', e, h1, h2⟩ := h
  injection e with e1 e2 e3
  subst e1 e3
  have hl : (T.take k).length = k := by rw [List.length_take]; omega
  refine ⟨A, c, by rw [hl], by rw [hl]; omega, fun h0 => ?_⟩
  rw [hl] at h0
  obtain ⟨b, off, rfl, hc⟩ := h2 (by omega)
  refine ⟨b, off, rfl, fun j hj => ?_⟩
  rw [hl] at hj
  rw [List.getElem_take]
  exact hc j (by omega)
theorem RdV.tail {w : World} {A A' : Option Addr} {n c k d : Nat} {T : List Fv} (h : RdV w (.slice A n c) T) (hk : k ≤ n) (hd : n - k ≤ d) (hA : k < n → ∀ b off, A = some ⟨b, off, none⟩ → A' = some ⟨b, off + k * 3, none⟩) : RdV w (.slice A' (n - k) d) (T.drop k) := by
  obtain ⟨A'', c', e, h1, h2⟩ := h
  injection e with e1 e2 e3
  subst e1 e3
  have hl : (T.drop k).length = n - k := by rw [List.length_drop]; omega
  refine ⟨A', d, by rw [hl], by rw [hl]; exact hd, fun h0 => ?_⟩
  rw [hl] at h0
  obtain ⟨b, off, rfl, hc⟩ := h2 (by omega)
  refine ⟨b, off + k * 3, hA (by omega) b off rfl, fun j hj => ?_⟩
  rw [hl] at hj
  rw [List.getElem_drop]
  obtain ⟨x0, x1, x2⟩ := hc (k + j) (by omega)
  rw [show off + k * 3 + j * 3 = off + (k + j) * 3 from by omega]
  exact ⟨x0, x1, x2⟩
theorem RdV.under {w w' : World} {v : Value} {T : List Fv} (h : RdV w v T) (hb : Below w.heap.size w w') (hl : ∀ j, v.ownBlock = some j → j < w.heap.size) : RdV w' v T := h.same fun k hk => hb.block k (hl k hk)
theorem rdV_blk {w : World} {g : Nat} {x : Fv} (h : Blk w g 58 #[.string (str x.1.name), x.2, .int .i64 (x.1.stamp : Int)]) : RdV w (.slice (some ⟨g, 0, none⟩) 1 1) [x] := by
  refine ⟨_, 1, rfl, Nat.le_refl _, fun _ => ⟨g, 0, rfl, fun j hj => ?_⟩⟩
  have : j = 0 := by simpa using hj
  subst this
  exact ⟨h.at 0, h.at 1, h.at 2⟩
abbrev noF : Obj := .cells #[] 58
abbrev oneF (t : List Nat) (v : Value) (z : Int) : Obj := .cells #[.string (str t), v, .int .i64 z] 58
theorem Rf.bump {w : World} {q : Nat} {lv : Value} {G : Nat → Prop} {s : S} (h : Rf w q lv G s) : Rf (w.setCell ⟨q, 2, none⟩ (.int .i64 ((s.next + 1 : Nat) : Int))) q lv G { s with next := s.next + 1 } := by
  have hb : ∀ k, k ≠ q → (w.setCell ⟨q, 2, none⟩ (.int .i64 ((s.next + 1 : Nat) : Int))).heap[k]? = w.heap[k]? := fun k hk => Below.heap_setCell _ _ _ _ (by exact hk)
  refine ⟨h.blk.set 2 _, h.row.same (fun k _ hk => hb k hk) fun _ h => h, h.gq, fun k hk => by rw [World.size_setCell]; exact h.lt k hk, ?_⟩
  obtain ⟨h1, h2, h3⟩ := h.good
  exact ⟨h1, fun x hx => ⟨(h2 x hx).1, (h2 x hx).2.1, (h2 x hx).2.2.1, Nat.le_succ_of_le (h2 x hx).2.2.2⟩, h3⟩
theorem gone_len (l : List Fi) (t : List Nat) : (gone l t).length ≤ l.length := List.length_filter_le _ _

set_option maxHeartbeats 40000000 in
theorem rset_any (t bb : List Nat) (bv : Value) (w : World) (q : Nat) (lv : Value) (G : Nat → Prop) (s : S) (h : Rf w q lv G s) (ht : ∀ c ∈ t, c < 256) (hl : t.length ≤ 1048576) (hb : Bytes w bv bb) (hbq : bb ≠ [] → ∀ j, bv.ownBlock = some j → j ≠ q)
    (hnx : s.next ≤ 1073741824) (hcn : s.l.length ≤ 1048575) (hbl : bb.length ≤ 1099511627776) :
    Calls Try.prog 37 #[.pointer (some ⟨q, 0, none⟩), .string (str t), bv] w fun e w' => e = .returned (.int .i64 ((s.next + 1 : Nat) : Int)) ∧ RDone G q (wr s t bb) w w' := by
  have HG := Lib.hid (rgone_any t w q lv G s h ht)
  have HT := Lib.hid (And.intro ht hl)
  have HB := Lib.hid (And.intro hb (And.intro hbq hbl))
  have HN := Lib.hid (And.intro hnx hcn)
  have HGS := Lib.hid h.good
  clear h ht hl hb hbq hnx hcn hbl
  go_enter Try.func37, Try.ntmps37
  go_wp2_with fail
  refine HG.out.mono ?_
  rintro e w1 ⟨rfl, lv1, G1, hR1, hg1, hG1, hs1⟩
  obtain ⟨N, hN⟩ : ∃ N, s.next = N := ⟨_, rfl⟩
  have hN6 : N ≤ 1073741824 := by rw [← hN]; exact HN.out.1
  have k2 : w1.cell? ⟨q, 2, none⟩ = some (.int .i64 (N : Int)) := by rw [← hN]; exact hR1.blk.at 2
  have f2 : w1.frozen? ⟨q, 2, none⟩ = false := hR1.blk.free 2
  have HNX := Lib.hid hN
  have HR2 : Hid (Rf (w1.setCell ⟨q, 2, none⟩ (.int .i64 ((N : Int) + 1))) q lv1 G1 { rm s t with next := N + 1 }) := Lib.hid (by
    have := hR1.bump
    rw [show (rm s t).next = N from hN] at this
    exact this)
  have HG1 := Lib.hid (And.intro hg1 hG1)
  have HS := Lib.hid hs1
  clear hN hR1 hg1 hG1 hs1 HG
  obtain ⟨n, hn⟩ : ∃ n, (gone s.l t).length = n := ⟨_, rfl⟩
  obtain ⟨w2, hw2⟩ : ∃ w2, w2 = w1.setCell ⟨q, 2, none⟩ (.int .i64 ((N : Int) + 1)) := ⟨_, rfl⟩
  obtain ⟨A1, c1, rfl, hc1, hm1⟩ := HR2.out.shape
  change (gone s.l t).length ≤ _ at hc1 hm1
  change Hid (Rf _ q (.slice A1 (gone s.l t).length c1) _ _) at HR2
  change Hid (Shp (.slice A1 (gone s.l t).length c1)) at HS
  go_upto_block 0 with fail
  rw [← hw2]
  rw [← hw2] at HR2
  have HW2 := Lib.hid hw2
  clear hw2 k2 f2
  have HNL := Lib.hid hn
  rw [hn] at hc1 hm1 HR2 HS
  have k0 : w2.cell? ⟨q, 0, none⟩ = some (.slice A1 n c1) := HR2.out.blk.at 0
  clear hn
  go_cut [7] (fun s7 wx => ∃ k : Nat, k ≤ n ∧ s7 = .int .i64 (k : Int) ∧ Hid (((gone s.l t).takeWhile fun y => decide (y.name < t)) = (gone s.l t).take k ∧ ((gone s.l t).dropWhile fun y => decide (y.name < t)) = (gone s.l t).drop k) ∧ wx = w2)
  case first =>
    go_wp2_with fail
    go_loopg [7] n (fun g iv wr => ∃ k : Nat, k ≤ n ∧ n - k ≤ g ∧ iv = .int .i64 (k : Int) ∧ Hid (∀ j, ∀ h' : j < (gone s.l t).length, j < k → ((gone s.l t)[j]'h').name < t) ∧ wr = w2)
    case atStart => exact ⟨0, by omega, by omega, rfl, Lib.hid (by intro j _ hj; omega), rfl⟩
    case round =>
      obtain ⟨k, hk, hg, rfl, HA, rfl⟩ := hrel
      by_cases hlt : k < n
      · have hlt' : (k : Int) < (n : Int) := by omega
        have hkl : k < (gone s.l t).length := by rw [HNL.out]; exact hlt
        obtain ⟨-, -, b, off, rfl, r1, -, -⟩ := HR2.out.at hkl
        change wr.cell? ⟨b, off + k * 3, none⟩ = some (.string (str ((gone s.l t)[k]'hkl).name)) at r1
        obtain ⟨u, hu⟩ : ∃ u, ((gone s.l t)[k]'hkl).name = u := ⟨_, rfl⟩
        rw [hu] at r1
        have HU : Hid (((gone s.l t)[k]'hkl).name = u) := Lib.hid hu
        have hsl := str_less (u := u) (t := t) (by rw [← hu]; exact (HR2.out.good.2.1 _ (List.getElem_mem hkl)).1) HT.out.1
        clear hu
        by_cases hd : u < t
        · have HA2 : Hid (∀ j, ∀ h' : j < (gone s.l t).length, j < k + 1 → ((gone s.l t)[j]'h').name < t) := Lib.hid fun j h' hj => by
            by_cases e : j = k
            · subst e
              rw [HU.out]
              exact hd
            · exact HA.out j h' (by omega)
          rw [decide_eq_true hd] at hsl
          clear hd HU
          go_wp2
          go_roundg (n - (k + 1))
          case measure => omega
          case rel => exact ⟨k + 1, by omega, by omega, by go_num, HA2, rfl⟩
        · have HE : Hid (((gone s.l t).takeWhile fun y => decide (y.name < t)) = (gone s.l t).take k ∧ ((gone s.l t).dropWhile fun y => decide (y.name < t)) = (gone s.l t).drop k) := Lib.hid (split_at (by omega) (fun j h' hj => by simpa using HA.out j h' hj) fun h' => by simpa [HU.out] using hd)
          rw [decide_eq_false hd] at hsl
          clear hd HU
          go_wp2
          go_meet
          exact ⟨k, hk, rfl, HE, rfl⟩
      · obtain rfl : n = k := by omega
        have HE : Hid (((gone s.l t).takeWhile fun y => decide (y.name < t)) = (gone s.l t).take n ∧ ((gone s.l t).dropWhile fun y => decide (y.name < t)) = (gone s.l t).drop n) := Lib.hid (split_at (by rw [HNL.out]; omega) (fun j h' hj => by simpa using HA.out j h' hj) fun h' => absurd h' (by rw [HNL.out]; omega))
        go_wp2
        go_meet
        exact ⟨n, hk, rfl, HE, rfl⟩
  case rest =>
    obtain ⟨k, hk, rfl, HE, hwc⟩ := hcut
    subst hwc
    obtain ⟨wx, rfl⟩ : ∃ wx : World, wx = wc := ⟨_, rfl⟩
    have HBW : Hid (Bytes wx bv bb) := Lib.hid (by
      have h1 : Bytes w1 bv bb := HB.out.1.grownIf HG1.out.1 fun h0 => .inr fun e => HB.out.2.1 h0 q e rfl
      rw [HW2.out]
      exact h1.sameIf fun h0 j _ hj => Below.heap_setCell _ _ _ _ (by exact HB.out.2.1 h0 j hj))
    have b2 : wx.cell? ⟨q, 2, none⟩ = some (.int .i64 ((N : Int) + 1)) := HR2.out.blk.at 2
    have b20 : ∀ o, (wx.alloc o).cell? ⟨q, 2, none⟩ = some (.int .i64 ((N : Int) + 1)) := fun o => (HR2.out.blk.alloc o).at 2
    have b200 : ∀ o o', ((wx.alloc o).alloc o').cell? ⟨q, 2, none⟩ = some (.int .i64 ((N : Int) + 1)) := fun o o' => ((HR2.out.blk.alloc o).alloc o').at 2
    clear k0
    go_upto_region 6 with fail
    go_cut [8] (fun s8 wy => ∃ (gx : Nat) (vb : Value), s8 = .pointer (some ⟨gx, 0, none⟩) ∧ Hid (Blk wy gx 58 #[.string (str t), vb, .int .i64 ((N : Int) + 1)]) ∧ Hid (Own wy wx.heap.size vb bb) ∧ Hid (Below wx.heap.size wx wy))
    case first =>
      have B1 : Hid (Below wx.heap.size wx (wx.alloc no8)) := Lib.hid ((Below.refl _ _).alloc (Nat.le_refl _) _)
      have B2 : Hid (Below wx.heap.size wx ((wx.alloc no8).alloc zeroF)) := Lib.hid (B1.out.alloc B1.out.size _)
      have B0 : Below wx.heap.size wx (wx.alloc zeroF) := (Below.refl _ _).alloc (Nat.le_refl _) _
      have B3 : Hid (Below wx.heap.size wx ((wx.alloc zeroF).alloc no8)) := Lib.hid (B0.alloc B0.size _)
      have E1 : Hid (Own (wx.alloc no8) wx.heap.size (.slice (some ⟨wx.heap.size, 0, none⟩) 0 0) []) := Lib.hid (own_empty8 _ _ (Nat.le_refl _))
      have E2 : Hid (Own ((wx.alloc no8).alloc zeroF) wx.heap.size (.slice (some ⟨wx.heap.size, 0, none⟩) 0 0) []) := Lib.hid (E1.out.alloc _)
      have E3 : Hid (Own ((wx.alloc zeroF).alloc no8) wx.heap.size (.slice (some ⟨wx.heap.size + 1, 0, none⟩) 0 0) []) := Lib.hid (by
        have := own_empty8 (wx.alloc zeroF) wx.heap.size B0.size
        rwa [show (wx.alloc zeroF).heap.size = wx.heap.size + 1 from by simp] at this)
      have K2 : Hid (Blk ((wx.alloc no8).alloc zeroF) (wx.heap.size + 1) 58 #[.string ⟨#[]⟩, .slice none 0 0, .int .i64 0]) := Lib.hid (by
        have := heap_alloc_new (wx.alloc no8) zeroF
        rwa [show (wx.alloc no8).heap.size = wx.heap.size + 1 from by simp] at this)
      have K3 : Hid (Blk ((wx.alloc zeroF).alloc no8) wx.heap.size 58 #[.string ⟨#[]⟩, .slice none 0 0, .int .i64 0]) := Lib.hid (Blk.alloc (heap_alloc_new wx zeroF) _)
      have HBL : Hid (([] : List Nat).length + bb.length ≤ 70368744177664) := Lib.hid (by have := HB.out.2.2; simp; omega)
      have HQ : Hid (q < wx.heap.size) := Lib.hid (HR2.out.lt q HR2.out.gq)
      have Q2 : ∀ w3, Below wx.heap.size wx w3 → w3.cell? ⟨q, 2, none⟩ = some (.int .i64 ((N : Int) + 1)) ∧ ∀ o, (w3.alloc o).cell? ⟨q, 2, none⟩ = some (.int .i64 ((N : Int) + 1)) := fun w3 hb => ⟨(HR2.out.blk.below hb HQ.out).at 2, fun o => ((HR2.out.blk.below hb HQ.out).alloc o).at 2⟩
      have HQ2 := Lib.hid Q2
      have hz1 : (wx.alloc no8).heap.size = wx.heap.size + 1 := by simp
      have hz2 : (wx.alloc zeroF).heap.size = wx.heap.size + 1 := by simp
      clear Q2 B0
      go_region_law (first
        | (refine step_append_bytes rfl (.tmp 41) (.tmp 42) rfl wx.heap.size (.slice (some ⟨wx.heap.size, 0, none⟩) 0 0) bv [] bb rfl (Own.heap E1.out rfl) rfl (bytes_heap (HBW.out.under B1.out) rfl) HBL.out B1.out.size bb rfl ?_; rintro v3 w3 ⟨ho3, hg3, hat3, hb3⟩; obtain ⟨-, -, A3, d3, rfl, -⟩ := ho3.bytes.parts; have hbb3 : Below wx.heap.size wx w3 := below_heap hb3 B1.out rfl ⟨rfl, rfl, rfl⟩; obtain ⟨q3, q30⟩ := HQ2.out w3 hbb3; have HO3 := Lib.hid ho3; have HB3 := Lib.hid hbb3; clear ho3 hg3 hat3 hb3 hbb3)
        | (refine step_append_bytes rfl (.tmp 41) (.tmp 42) rfl wx.heap.size (.slice (some ⟨wx.heap.size, 0, none⟩) 0 0) bv [] bb rfl (Own.heap E2.out rfl) rfl (bytes_heap (HBW.out.under B2.out) rfl) HBL.out B2.out.size bb rfl ?_; rintro v3 w3 ⟨ho3, hg3, hat3, hb3⟩; obtain ⟨-, -, A3, d3, rfl, -⟩ := ho3.bytes.parts; have hbb3 : Below wx.heap.size wx w3 := below_heap hb3 B2.out rfl ⟨rfl, rfl, rfl⟩; have hbk3 := blk_grew hg3 (by simp [Value.ownBlock]) K2.out rfl; have hne3 : (Value.slice A3 bb.length d3).ownBlock ≠ some (wx.heap.size + 1) := (by rcases hat3 with e | e <;> rw [e] <;> simp [Value.ownBlock] <;> omega); obtain ⟨q3, q30⟩ := HQ2.out w3 hbb3; have c30 := hbk3.at 0; have c31 := hbk3.at 1; have c32 := hbk3.at 2; have f30 := hbk3.free 0; have f31 := hbk3.free 1; have f32 := hbk3.free 2; have HFILL := Lib.hid (box_filled hbk3 ho3 hne3 hbb3 (Nat.le_succ _)); clear ho3 hg3 hat3 hb3 hbb3 hbk3 hne3)
        | (refine step_append_bytes rfl (.tmp 41) (.tmp 42) rfl wx.heap.size (.slice (some ⟨wx.heap.size + 1, 0, none⟩) 0 0) bv [] bb rfl (Own.heap E3.out rfl) rfl (bytes_heap (HBW.out.under B3.out) rfl) HBL.out B3.out.size bb rfl ?_; rintro v3 w3 ⟨ho3, hg3, hat3, hb3⟩; obtain ⟨-, -, A3, d3, rfl, -⟩ := ho3.bytes.parts; have hbb3 : Below wx.heap.size wx w3 := below_heap hb3 B3.out rfl ⟨rfl, rfl, rfl⟩; have hbk3 := blk_grew hg3 (by simp [Value.ownBlock]) K3.out rfl; have hne3 : (Value.slice A3 bb.length d3).ownBlock ≠ some wx.heap.size := (by rcases hat3 with e | e <;> rw [e] <;> simp [Value.ownBlock] <;> omega); obtain ⟨q3, q30⟩ := HQ2.out w3 hbb3; have c30 := hbk3.at 0; have c31 := hbk3.at 1; have c32 := hbk3.at 2; have f30 := hbk3.free 0; have f31 := hbk3.free 1; have f32 := hbk3.free 2; have HFILL := Lib.hid (box_filled hbk3 ho3 hne3 hbb3 (Nat.le_refl _)); clear ho3 hg3 hat3 hb3 hbb3 hbk3 hne3))
      all_goals
        go_wp2_with fail
        go_meet
        first
          | exact ⟨_, _, rfl, Lib.hid (heap_alloc_new _ _), Lib.hid (HO3.out.alloc _), Lib.hid (HB3.out.alloc HB3.out.size _)⟩
          | exact ⟨_, _, rfl, Lib.hid (HFILL.out _ _ _).1, Lib.hid (HFILL.out _ _ _).2.1, Lib.hid (HFILL.out _ _ _).2.2⟩
    case rest =>
      obtain ⟨gx, vb, rfl, HBX, HOX, HBB⟩ := hcut
      obtain ⟨wy, rfl⟩ : ∃ wy : World, wy = wc := ⟨_, rfl⟩
      have HR3 : Hid (Rf wy q (.slice A1 n c1) G1 { rm s t with next := N + 1 }) := Lib.hid (HR2.out.under HBB.out)
      obtain ⟨T, hT, hv, hby⟩ := HR3.out.row.pairs
      have hT1 : T.map Prod.fst = gone s.l t := hT
      have HT1 := Lib.hid hT1
      have HTN : Hid (T.length = n) := Lib.hid (by rw [← HNL.out, ← hT1]; simp)
      have HTY := Lib.hid hby
      have HQ : Hid (q < wy.heap.size) := Lib.hid (HR3.out.lt q HR3.out.gq)
      have hlt1 : ∀ j, (Value.slice A1 n c1).ownBlock = some j → 0 < n → j < wy.heap.size := fun j hj h0 => by
        obtain ⟨_, _, e, -, -, hh⟩ := HR3.out.row
        injection e with e1 e2 e3
        have hz : 0 < (rm s t).l.length := by
          show 0 < (gone s.l t).length
          rw [HNL.out]
          exact h0
        obtain ⟨b, off, e4, hGb, -⟩ := hh hz
        subst e1
        subst e4
        have : b = j := by simpa [Value.ownBlock] using hj
        rw [← this]
        exact HR3.out.lt b hGb
      have HLT := Lib.hid hlt1
      have HV := Lib.hid hv
      obtain ⟨-, -, A3, d3, hvb, -⟩ := HOX.out.bytes.parts
      obtain ⟨lb, hlb⟩ : ∃ lb, bb.length = lb := ⟨_, rfl⟩
      rw [hlb] at hvb
      subst hvb
      have HO1 : Hid (OneC (T.take k)) := Lib.hid fun y hy => bytes_one_cell (HTY.out y (List.mem_of_mem_take hy)).1
      have HO2 : Hid (OneC [((⟨t, bb, N + 1⟩ : Fi), Value.slice A3 lb d3)]) := Lib.hid (by intro y hy; simp at hy; subst hy; rfl)
      have HO3 : Hid (OneC (T.drop k)) := Lib.hid fun y hy => bytes_one_cell (HTY.out y (List.mem_of_mem_drop hy)).1
      have HLN : Hid (([] : List Fv).length + (T.take k).length ≤ 2097152 ∧ (T.take k).length + [((⟨t, bb, N + 1⟩ : Fi), Value.slice A3 lb d3)].length ≤ 2097152 ∧ (T.take k ++ [((⟨t, bb, N + 1⟩ : Fi), Value.slice A3 lb d3)]).length + (T.drop k).length ≤ 2097152) := Lib.hid (by
        rw [List.length_append, List.length_take, List.length_drop, HTN.out]
        simp
        omega)
      have HLL : Hid ((T.take k ++ [((⟨t, bb, N + 1⟩ : Fi), Value.slice A3 lb d3)] ++ T.drop k).length = n + 1) := Lib.hid (by rw [List.length_append, List.length_append, List.length_take, List.length_drop, HTN.out, List.length_singleton]; omega)
      clear hT hT1 hv hby hlt1 hlb b2 b20 b200
      have HQ2 : Hid (∀ w3, Below wy.heap.size wy w3 → w3.cell? ⟨q, 0, none⟩ = some (.slice A1 n c1) ∧ (∀ o, (w3.alloc o).cell? ⟨q, 0, none⟩ = some (.slice A1 n c1)) ∧ w3.cell? ⟨gx, 0, none⟩ = some (.string (str t)) ∧ w3.cell? ⟨gx, 1, none⟩ = some (.slice A3 lb d3) ∧ w3.cell? ⟨gx, 2, none⟩ = some (.int .i64 ((N : Int) + 1)) ∧
          (∀ o, (w3.alloc o).cell? ⟨gx, 0, none⟩ = some (.string (str t))) ∧ (∀ o, (w3.alloc o).cell? ⟨gx, 1, none⟩ = some (.slice A3 lb d3)) ∧ (∀ o, (w3.alloc o).cell? ⟨gx, 2, none⟩ = some (.int .i64 ((N : Int) + 1))) ∧ w3.frozen? ⟨q, 0, none⟩ = false) := Lib.hid fun w3 hb => by
        have b1 := HR3.out.blk.below hb HQ.out
        have b2 := HBX.out.below hb HBX.out.size
        exact ⟨b1.at 0, fun o => (b1.alloc o).at 0, b2.at 0, b2.at 1, b2.at 2, fun o => (b2.alloc o).at 0, fun o => (b2.alloc o).at 1, fun o => (b2.alloc o).at 2, b1.free 0⟩
      have HQS : Hid (∀ w', Below wy.heap.size wy w' → w'.cell? ⟨q, 0, none⟩ = some (.slice A1 n c1) ∧ w'.cell? ⟨gx, 0, none⟩ = some (Value.string (str t)) ∧ w'.cell? ⟨gx, 1, none⟩ = some (Value.slice A3 lb d3) ∧ w'.cell? ⟨gx, 2, none⟩ = some (Value.int .i64 ((N : Int) + 1))) := Lib.hid fun w3 hb => by
        have h := HQ2.out w3 hb
        exact ⟨h.1, h.2.2.1, h.2.2.2.1, h.2.2.2.2.1⟩
      have HQF : Hid (∀ w3, Below wy.heap.size wy w3 → w3.frozen? ⟨q, 0, none⟩ = false) := Lib.hid fun w3 hb => (HQ2.out w3 hb).2.2.2.2.2.2.2.2
      clear HQ2
      go_upto_region 7 with fail
      go_cut [] (fun wz => ∃ (x3 : Value) (wh : World), wz = wh.setCell ⟨q, 0, none⟩ x3 ∧ Hid (OwnF wh wy.heap.size x3 (T.take k ++ [((⟨t, bb, N + 1⟩ : Fi), Value.slice A3 lb d3)] ++ T.drop k)) ∧ Hid (Below wy.heap.size wy wh))
      case first =>
        have hkI1 : (k : Int) ≤ (n : Int) := by omega
        have hkI2 : (n : Int) ≤ (c1 : Int) := by omega
        have hkI3 : (0 : Int) ≤ (k : Int) := by omega
        have hkI4 : (k : Int) ≤ (c1 : Int) := by omega
        have HM1 : Hid (∀ w3, Below wy.heap.size wy w3 → RdV w3 (.slice A1 k c1) (T.take k)) := Lib.hid fun w3 hb => by
          rcases Nat.eq_zero_or_pos n with h0 | h0
          · have h1 : T.take k = [] := by rw [List.eq_nil_of_length_eq_zero (HTN.out.trans h0)]; simp
            rw [h1]
            exact ⟨_, c1, by rw [show k = 0 from by omega]; rfl, Nat.zero_le _, fun h => by simp at h⟩
          · exact (HV.out.head hk).same fun j hj => hb.block j (HLT.out j (by rw [← hj]; exact own_block_eq _ _ _ _ _) h0)
        have HM3 : Hid (∀ w3, Below wy.heap.size wy w3 → RdV w3 (.slice (if c1 = k then A1 else Option.map (fun x => x.add (k * 3)) A1) (n - k) (c1 - k)) (T.drop k)) := Lib.hid fun w3 hb => by
          rcases Nat.eq_zero_or_pos n with h0 | h0
          · have h1 : T.drop k = [] := by rw [List.eq_nil_of_length_eq_zero (HTN.out.trans h0)]; simp
            rw [h1]
            exact ⟨_, c1 - k, by rw [show n - k = 0 from by omega]; rfl, Nat.zero_le _, fun h => by simp at h⟩
          · refine (HV.out.tail hk (by omega) (fun hkn b off e => ?_)).same fun j hj => hb.block j (HLT.out j ?_ h0)
            · rw [if_neg (by omega), e]
              show some (Addr.add ⟨b, off, none⟩ (k * 3)) = _
              rw [add_plain]
            · rw [← hj]
              split
              · exact own_block_eq _ _ _ _ _
              · exact (own_block_add _ _ _ _ _ _).symm
        clear HS HR2 HW2 HBW HOX HBB HT HB HN HG1 HNL HE HT1 HTY HV HLT HR3 HBX HTN
        refine wp_region_noPanic ?_
        refine startL 21 (fun w' => w'.cell? ⟨q, 0, none⟩ = some (.slice A1 n c1) ∧ w'.cell? ⟨gx, 0, none⟩ = some (Value.string (str t)) ∧ w'.cell? ⟨gx, 1, none⟩ = some (Value.slice A3 lb d3) ∧ w'.cell? ⟨gx, 2, none⟩ = some (Value.int .i64 ((N : Int) + 1))) (by kernel_rfl) (HQS.out _ (Below.refl _ _).drew) (fun hHeld => ?_)
        obtain ⟨wn0, hwn⟩ : ∃ wn, wy.drew = wn := ⟨_, rfl⟩
        have hB0 : Below wy.heap.size wy wn0 := by rw [← hwn]; exact (Below.refl _ _).drew
        rw [hwn] at hHeld ⊢
        clear hwn
        refine takeLW 0 (some 49) (oi := ?oT1) (v := ?vT1) ?hiT1 ?hdT1 (by kernel_rfl) (by decide) (by kernel_rfl) (by kernel_rfl) (by kernel_rfl) (by kernel_rfl) (fun _ _ _ h => h) ?hwT1 ?hyT1 hHeld ?_
        case hiT1 => (simp only [List.getElem?_toArray, List.getElem?_cons_zero]; with_reducible rfl)
        case hdT1 => rfl
        case hwT1 => rfl
        case hyT1 => (intro w hSw; (try dsimp only at hSw); go_simp; first | done | with_reducible rfl)
        try simp only [Act.put]
        try simp only [List.setIfInBounds_toArray, List.set_cons_zero, List.set_cons_succ]
        refine takeLW 2 (some 51) (oi := ?oT2) (v := ?vT2) ?hiT2 ?hdT2 (by kernel_rfl) (by decide) (by kernel_rfl) (by kernel_rfl) (by kernel_rfl) (by kernel_rfl) (fun _ _ _ h => h) ?hwT2 ?hyT2 hHeld ?_
        case hiT2 => (simp only [List.getElem?_toArray, List.getElem?_cons_succ, List.getElem?_cons_zero]; with_reducible rfl)
        case hdT2 => rfl
        case hwT2 => rfl
        case hyT2 => (intro w hSw; (try dsimp only at hSw); go_simp; first | done | with_reducible rfl)
        try simp only [Act.put]
        try simp only [List.setIfInBounds_toArray, List.set_cons_zero, List.set_cons_succ]
        refine takeLW 3 (some 52) (oi := ?oT3) (v := ?vT3) ?hiT3 ?hdT3 (by kernel_rfl) (by decide) (by kernel_rfl) (by kernel_rfl) (by kernel_rfl) (by kernel_rfl) (fun _ _ _ h => h) ?hwT3 ?hyT3 hHeld ?_
        case hiT3 => (simp only [List.getElem?_toArray, List.getElem?_cons_succ, List.getElem?_cons_zero]; with_reducible rfl)
        case hdT3 => rfl
        case hwT3 => rfl
        case hyT3 => (intro w hSw; (try dsimp only at hSw); go_simp; first | done | with_reducible rfl)
        try simp only [Act.put]
        try simp only [List.setIfInBounds_toArray, List.set_cons_zero, List.set_cons_succ]
        refine takeLW 4 (some 53) (oi := ?oT4) (v := ?vT4) ?hiT4 ?hdT4 (by kernel_rfl) (by decide) (by kernel_rfl) (by kernel_rfl) (by kernel_rfl) (by kernel_rfl) (fun _ _ _ h => h) ?hwT4 ?hyT4 hHeld ?_
        case hiT4 => (simp only [List.getElem?_toArray, List.getElem?_cons_succ, List.getElem?_cons_zero]; with_reducible rfl)
        case hdT4 => rfl
        case hwT4 => rfl
        case hyT4 => (intro w hSw; (try dsimp only at hSw); go_simp; first | done | with_reducible rfl)
        try simp only [Act.put]
        try simp only [List.setIfInBounds_toArray, List.set_cons_zero, List.set_cons_succ]
        refine takeLW 5 (some 54) (oi := ?oT5) (v := ?vT5) ?hiT5 ?hdT5 (by kernel_rfl) (by decide) (by kernel_rfl) (by kernel_rfl) (by kernel_rfl) (by kernel_rfl) (fun _ _ _ h => h) ?hwT5 ?hyT5 hHeld ?_
        case hiT5 => (simp only [List.getElem?_toArray, List.getElem?_cons_succ, List.getElem?_cons_zero]; with_reducible rfl)
        case hdT5 => rfl
        case hwT5 => rfl
        case hyT5 => (intro w hSw; (try dsimp only at hSw); go_simp; first | done | with_reducible rfl)
        try simp only [Act.put]
        try simp only [List.setIfInBounds_toArray, List.set_cons_zero, List.set_cons_succ]
        refine takeLW 6 (some 55) (oi := ?oT6) (v := ?vT6) ?hiT6 ?hdT6 (by kernel_rfl) (by decide) (by kernel_rfl) (by kernel_rfl) (by kernel_rfl) (by kernel_rfl) (fun _ _ _ h => h) ?hwT6 ?hyT6 hHeld ?_
        case hiT6 => (simp only [List.getElem?_toArray, List.getElem?_cons_succ, List.getElem?_cons_zero]; with_reducible rfl)
        case hdT6 => rfl
        case hwT6 => rfl
        case hyT6 => (intro w hSw; (try dsimp only at hSw); go_simp; first | done | with_reducible rfl)
        try simp only [Act.put]
        try simp only [List.setIfInBounds_toArray, List.set_cons_zero, List.set_cons_succ]
        refine takeLW 7 (some 56) (oi := ?oT7) (v := ?vT7) ?hiT7 ?hdT7 (by kernel_rfl) (by decide) (by kernel_rfl) (by kernel_rfl) (by kernel_rfl) (by kernel_rfl) (fun _ _ _ h => h) ?hwT7 ?hyT7 hHeld ?_
        case hiT7 => (simp only [List.getElem?_toArray, List.getElem?_cons_succ, List.getElem?_cons_zero]; with_reducible rfl)
        case hdT7 => rfl
        case hwT7 => rfl
        case hyT7 => (intro w hSw; (try dsimp only at hSw); go_simp; first | done | with_reducible rfl)
        try simp only [Act.put]
        try simp only [List.setIfInBounds_toArray, List.set_cons_zero, List.set_cons_succ]
        refine takeLW 9 (some 58) (oi := ?oT8) (v := ?vT8) ?hiT8 ?hdT8 (by kernel_rfl) (by decide) (by kernel_rfl) (by kernel_rfl) (by kernel_rfl) (by kernel_rfl) (fun _ _ _ h => h) ?hwT8 ?hyT8 hHeld ?_
        case hiT8 => (simp only [List.getElem?_toArray, List.getElem?_cons_succ, List.getElem?_cons_zero]; with_reducible rfl)
        case hdT8 => rfl
        case hwT8 => rfl
        case hyT8 => (intro w hSw; (try dsimp only at hSw); go_simp; first | done | with_reducible rfl)
        try simp only [Act.put]
        try simp only [List.setIfInBounds_toArray, List.set_cons_zero, List.set_cons_succ]
        refine takeLW 12 (some 61) (oi := ?oT9) (v := ?vT9) ?hiT9 ?hdT9 (by kernel_rfl) (by decide) (by kernel_rfl) (by kernel_rfl) (by kernel_rfl) (by kernel_rfl) (fun _ _ _ h => h) ?hwT9 ?hyT9 hHeld ?_
        case hiT9 => (simp only [List.getElem?_toArray, List.getElem?_cons_succ, List.getElem?_cons_zero]; with_reducible rfl)
        case hdT9 => rfl
        case hwT9 => rfl
        case hyT9 => (intro w hSw; (try dsimp only at hSw); go_simp; first | done | with_reducible rfl)
        try simp only [Act.put]
        try simp only [List.setIfInBounds_toArray, List.set_cons_zero, List.set_cons_succ]
        refine takeLW 13 (some 62) (oi := ?oT10) (v := ?vT10) ?hiT10 ?hdT10 (by kernel_rfl) (by decide) (by kernel_rfl) (by kernel_rfl) (by kernel_rfl) (by kernel_rfl) (fun _ _ _ h => h) ?hwT10 ?hyT10 hHeld ?_
        case hiT10 => (simp only [List.getElem?_toArray, List.getElem?_cons_succ, List.getElem?_cons_zero]; with_reducible rfl)
        case hdT10 => rfl
        case hwT10 => rfl
        case hyT10 => (intro w hSw; (try dsimp only at hSw); go_simp; first | done | with_reducible rfl)
        try simp only [Act.put]
        try simp only [List.setIfInBounds_toArray, List.set_cons_zero, List.set_cons_succ]
        refine takeLW 14 (some 63) (oi := ?oT11) (v := ?vT11) ?hiT11 ?hdT11 (by kernel_rfl) (by decide) (by kernel_rfl) (by kernel_rfl) (by kernel_rfl) (by kernel_rfl) (fun _ _ _ h => h) ?hwT11 ?hyT11 hHeld ?_
        case hiT11 => (simp only [List.getElem?_toArray, List.getElem?_cons_succ, List.getElem?_cons_zero]; with_reducible rfl)
        case hdT11 => rfl
        case hwT11 => rfl
        case hyT11 => (intro w hSw; (try dsimp only at hSw); go_simp; first | done | with_reducible rfl)
        try simp only [Act.put]
        try simp only [List.setIfInBounds_toArray, List.set_cons_zero, List.set_cons_succ]
        refine takeLW 15 (some 64) (oi := ?oT12) (v := ?vT12) ?hiT12 ?hdT12 (by kernel_rfl) (by decide) (by kernel_rfl) (by kernel_rfl) (by kernel_rfl) (by kernel_rfl) (fun _ _ _ h => h) ?hwT12 ?hyT12 hHeld ?_
        case hiT12 => (simp only [List.getElem?_toArray, List.getElem?_cons_succ, List.getElem?_cons_zero]; with_reducible rfl)
        case hdT12 => rfl
        case hwT12 => rfl
        case hyT12 => (intro w hSw; (try dsimp only at hSw); go_simp; first | done | with_reducible rfl)
        try simp only [Act.put]
        try simp only [List.setIfInBounds_toArray, List.set_cons_zero, List.set_cons_succ]
        refine takeLW 16 (some 65) (oi := ?oT13) (v := ?vT13) ?hiT13 ?hdT13 (by kernel_rfl) (by decide) (by kernel_rfl) (by kernel_rfl) (by kernel_rfl) (by kernel_rfl) (fun _ _ _ h => h) ?hwT13 ?hyT13 hHeld ?_
        case hiT13 => (simp only [List.getElem?_toArray, List.getElem?_cons_succ, List.getElem?_cons_zero]; with_reducible rfl)
        case hdT13 => rfl
        case hwT13 => rfl
        case hyT13 => (intro w hSw; (try dsimp only at hSw); go_simp; first | done | with_reducible rfl)
        try simp only [Act.put]
        try simp only [List.setIfInBounds_toArray, List.set_cons_zero, List.set_cons_succ]
        refine takeLW 17 (some 66) (oi := ?oT14) (v := ?vT14) ?hiT14 ?hdT14 (by kernel_rfl) (by decide) (by kernel_rfl) (by kernel_rfl) (by kernel_rfl) (by kernel_rfl) (fun _ _ _ h => h) ?hwT14 ?hyT14 hHeld ?_
        case hiT14 => (simp only [List.getElem?_toArray, List.getElem?_cons_succ, List.getElem?_cons_zero]; with_reducible rfl)
        case hdT14 => rfl
        case hwT14 => rfl
        case hyT14 => (intro w hSw; (try dsimp only at hSw); go_simp; first | done | with_reducible rfl)
        try simp only [Act.put]
        try simp only [List.setIfInBounds_toArray, List.set_cons_zero, List.set_cons_succ]
        refine branchL (rs := [1, 10]) (by kernel_rfl) (by simp) ?_
        refine List.forall_mem_cons.2 ⟨?_, ?_⟩
        · skip
          refine stepL 1 (o := ?oT15) ?hiT15 ?hwT15 (fun K hK => ?_)
          case hiT15 => (simp only [List.getElem?_toArray, List.getElem?_cons_succ, List.getElem?_cons_zero]; with_reducible rfl)
          case hwT15 => rfl
          go_simp
          obtain ⟨gE, hg⟩ : ∃ g, wn0.heap.size = g := ⟨_, rfl⟩
          obtain ⟨wn1, hwm⟩ : ∃ wm, wn0.alloc noF = wm := ⟨_, rfl⟩
          have hO : OwnF wn1 wy.heap.size (.slice (some ⟨gE, 0, none⟩) 0 0) [] := by rw [← hwm, ← hg]; exact ownF_empty wn0 _ hB0.size
          have hB1 : Below wy.heap.size wy wn1 := by rw [← hwm]; exact hB0.alloc hB0.size _
          rw [hwm]
          rw [hg]
          clear hwm hg hB0
          refine hK.out _ _ ?_ (fun hHeld => ?_)
          · exact HQS.out _ hB1
          clear hK K
          try simp only [Act.put]
          try simp only [List.setIfInBounds_toArray, List.set_cons_zero, List.set_cons_succ]
          refine branchL (rs := [8, 10]) (by kernel_rfl) (by simp) ?_
          refine List.forall_mem_cons.2 ⟨?_, ?_⟩
          · skip
            refine stepL 8 (o := ?oT16) ?hiT16 ?hwT16 (fun K hK => ?_)
            case hiT16 => (simp only [List.getElem?_toArray, List.getElem?_cons_succ, List.getElem?_cons_zero]; with_reducible rfl)
            case hwT16 => rfl
            refine wp_append_files (.tmp 50) (.tmp 56) rfl wy.heap.size (.slice (some ⟨gE, 0, none⟩) 0 0) (.slice A1 k c1) [] (T.take k) rfl hO rfl (HM1.out _ hB1) HO1.out HLN.out.1 hB1.size (T.take k) rfl ?_
            rintro x1 wn2 ⟨ho, hg, hb, -⟩
            replace hO := ho
            have hB2 := hB1.trans hb
            clear ho hg hb hB1
            refine hK.out _ _ ?_ (fun hHeld => ?_)
            · exact HQS.out _ hB2
            clear hK K
            try simp only [Act.put]
            try simp only [List.setIfInBounds_toArray, List.set_cons_zero, List.set_cons_succ]
            refine branchL (rs := [10]) (by kernel_rfl) (by simp) ?_
            refine List.forall_mem_cons.2 ⟨?_, fun _ h => absurd h (by simp)⟩
            refine stepL 10 (o := ?oT17) ?hiT17 ?hwT17 (fun K hK => ?_)
            case hiT17 => (simp only [List.getElem?_toArray, List.getElem?_cons_succ, List.getElem?_cons_zero]; with_reducible rfl)
            case hwT17 => rfl
            go_simp
            obtain ⟨gX, hg⟩ : ∃ g, wn2.heap.size = g := ⟨_, rfl⟩
            obtain ⟨wn3, hwm⟩ : ∃ wm, wn2.alloc (oneF t (.slice A3 lb d3) ((N : Int) + 1)) = wm := ⟨_, rfl⟩
            have hKX : Blk wn3 gX 58 #[.string (str t), .slice A3 lb d3, .int .i64 ((N : Int) + 1)] := by rw [← hwm, ← hg]; exact heap_alloc_new _ _
            have hB3 : Below wy.heap.size wy wn3 := by rw [← hwm]; exact hB2.alloc hB2.size _
            replace hO : OwnF wn3 wy.heap.size x1 (T.take k) := by rw [← hwm]; exact hO.alloc _
            rw [hwm]
            rw [hg]
            clear hwm hg hB2
            refine hK.out _ _ ?_ (fun hHeld => ?_)
            · exact HQS.out _ hB3
            clear hK K
            try simp only [Act.put]
            try simp only [List.setIfInBounds_toArray, List.set_cons_zero, List.set_cons_succ]
            refine branchL (rs := [11]) (by kernel_rfl) (by simp) ?_
            refine List.forall_mem_cons.2 ⟨?_, fun _ h => absurd h (by simp)⟩
            refine stepL 11 (o := ?oT18) ?hiT18 ?hwT18 (fun K hK => ?_)
            case hiT18 => (simp only [List.getElem?_toArray, List.getElem?_cons_succ, List.getElem?_cons_zero]; with_reducible rfl)
            case hwT18 => rfl
            refine wp_append_files (.tmp 57) (.tmp 59) rfl wy.heap.size x1 (.slice (some ⟨gX, 0, none⟩) 1 1) (T.take k) [((⟨t, bb, N + 1⟩ : Fi), Value.slice A3 lb d3)] rfl hO rfl (rdV_blk hKX) HO2.out HLN.out.2.1 hB3.size (T.take k ++ [((⟨t, bb, N + 1⟩ : Fi), Value.slice A3 lb d3)]) rfl ?_
            rintro x2 wn4 ⟨ho, hg, hb, -⟩
            replace hO := ho
            have hB4 := hB3.trans hb
            clear ho hg hb hKX hB3
            refine hK.out _ _ ?_ (fun hHeld => ?_)
            · exact HQS.out _ hB4
            clear hK K
            try simp only [Act.put]
            try simp only [List.setIfInBounds_toArray, List.set_cons_zero, List.set_cons_succ]
            refine branchL (rs := [18]) (by kernel_rfl) (by simp) ?_
            refine List.forall_mem_cons.2 ⟨?_, fun _ h => absurd h (by simp)⟩
            refine stepL 18 (o := ?oT19) ?hiT19 ?hwT19 (fun K hK => ?_)
            case hiT19 => (simp only [List.getElem?_toArray, List.getElem?_cons_succ, List.getElem?_cons_zero]; with_reducible rfl)
            case hwT19 => rfl
            refine wp_append_files (.tmp 60) (.tmp 66) rfl wy.heap.size x2 (.slice (if c1 = k then A1 else Option.map (fun x => x.add (k * 3)) A1) (n - k) (c1 - k)) (T.take k ++ [((⟨t, bb, N + 1⟩ : Fi), Value.slice A3 lb d3)]) (T.drop k) rfl hO rfl (HM3.out _ hB4) HO3.out HLN.out.2.2 hB4.size (T.take k ++ [((⟨t, bb, N + 1⟩ : Fi), Value.slice A3 lb d3)] ++ T.drop k) rfl ?_
            rintro x3 wh ⟨ho3, hg3, hb3, -⟩
            obtain ⟨X3, e3, hX3⟩ := ho3.sl
            rw [HLL.out] at hX3
            subst hX3
            have hB5 := hB4.trans hb3
            have HA3 := Lib.hid ho3
            have HB3 := Lib.hid hB5
            clear ho3 hg3 hb3 hB4 hO
            refine hK.out _ _ ?_ (fun hHeld => ?_)
            · exact HQS.out _ hB5
            clear hK K
            try simp only [Act.put]
            try simp only [List.setIfInBounds_toArray, List.set_cons_zero, List.set_cons_succ]
            refine branchL (rs := [19]) (by kernel_rfl) (by simp) ?_
            refine List.forall_mem_cons.2 ⟨?_, fun _ h => absurd h (by simp)⟩
            refine stepL 19 (o := ?oT20) ?hiT20 ?hwT20 (fun K hK => ?_)
            case hiT20 => (simp only [List.getElem?_toArray, List.getElem?_cons_succ, List.getElem?_cons_zero]; with_reducible rfl)
            case hwT20 => rfl
            go_simp
            refine hK.out _ _ ?_ (fun hHeld => ?_)
            · exact HQS.out _ hB5
            clear hK K
            try simp only [Act.put]
            try simp only [List.setIfInBounds_toArray, List.set_cons_zero, List.set_cons_succ]
            refine takeLW 20 (some 69) (oi := ?oT21) (v := ?vT21) ?hiT21 ?hdT21 (by kernel_rfl) (by decide) (by kernel_rfl) (by kernel_rfl) (by kernel_rfl) (by kernel_rfl) (fun _ _ _ h => h) ?hwT21 ?hyT21 hHeld ?_
            case hiT21 => (simp only [List.getElem?_toArray, List.getElem?_cons_succ, List.getElem?_cons_zero]; with_reducible rfl)
            case hdT21 => rfl
            case hwT21 => rfl
            case hyT21 => (intro w hSw; (try dsimp only at hSw); go_simp; first | done | with_reducible rfl)
            try simp only [Act.put]
            try simp only [List.setIfInBounds_toArray, List.set_cons_zero, List.set_cons_succ]
            refine branchL (rs := [21]) (by kernel_rfl) (by simp) ?_
            refine List.forall_mem_cons.2 ⟨?_, fun _ h => absurd h (by simp)⟩
            refine lastL (o := ?oT22) ?hiT22 (by simp) ?hwT22 (fun K hK => ?_)
            case hiT22 => (simp only [List.getElem?_toArray, List.getElem?_cons_succ, List.getElem?_cons_zero]; with_reducible rfl)
            case hwT22 => rfl
            have hqc := (HQS.out _ hB5).1
            have hqf := HQF.out _ hB5
            go_simp
            refine hK.out _ _ ?_
            clear hK K
            try simp only [Act.put]
            try simp only [List.setIfInBounds_toArray, List.set_cons_zero, List.set_cons_succ]
            refine doneL (by kernel_rfl) ?_ _
            refine NoPanic.normal ?_
            go_wp2
            all_goals
              go_meet
              exact ⟨_, _, rfl, HA3, HB3⟩
          refine List.forall_mem_cons.2 ⟨?_, fun _ h => absurd h (by simp)⟩
          refine stepL 10 (o := ?oT23) ?hiT23 ?hwT23 (fun K hK => ?_)
          case hiT23 => (simp only [List.getElem?_toArray, List.getElem?_cons_succ, List.getElem?_cons_zero]; with_reducible rfl)
          case hwT23 => rfl
          go_simp
          obtain ⟨gX, hg⟩ : ∃ g, wn1.heap.size = g := ⟨_, rfl⟩
          obtain ⟨wn2, hwm⟩ : ∃ wm, wn1.alloc (oneF t (.slice A3 lb d3) ((N : Int) + 1)) = wm := ⟨_, rfl⟩
          have hKX : Blk wn2 gX 58 #[.string (str t), .slice A3 lb d3, .int .i64 ((N : Int) + 1)] := by rw [← hwm, ← hg]; exact heap_alloc_new _ _
          have hB2 : Below wy.heap.size wy wn2 := by rw [← hwm]; exact hB1.alloc hB1.size _
          have hgne : gX ≠ gE := by rw [← hg]; exact (Nat.ne_of_lt (hO.lt gE rfl).2).symm
          replace hO : OwnF wn2 wy.heap.size (.slice (some ⟨gE, 0, none⟩) 0 0) [] := by rw [← hwm]; exact hO.alloc _
          rw [hwm]
          rw [hg]
          clear hwm hg hB1
          refine hK.out _ _ ?_ (fun hHeld => ?_)
          · exact HQS.out _ hB2
          clear hK K
          try simp only [Act.put]
          try simp only [List.setIfInBounds_toArray, List.set_cons_zero, List.set_cons_succ]
          refine branchL (rs := [8]) (by kernel_rfl) (by simp) ?_
          refine List.forall_mem_cons.2 ⟨?_, fun _ h => absurd h (by simp)⟩
          refine stepL 8 (o := ?oT24) ?hiT24 ?hwT24 (fun K hK => ?_)
          case hiT24 => (simp only [List.getElem?_toArray, List.getElem?_cons_succ, List.getElem?_cons_zero]; with_reducible rfl)
          case hwT24 => rfl
          refine wp_append_files (.tmp 50) (.tmp 56) rfl wy.heap.size (.slice (some ⟨gE, 0, none⟩) 0 0) (.slice A1 k c1) [] (T.take k) rfl hO rfl (HM1.out _ hB2) HO1.out HLN.out.1 hB2.size (T.take k) rfl ?_
          rintro x1 wn3 ⟨ho, hg, hb, -⟩
          replace hO := ho
          have hB3 := hB2.trans hb
          replace hKX := hKX.grown hg (by simpa [Value.ownBlock] using hgne)
          clear ho hg hb hB2
          refine hK.out _ _ ?_ (fun hHeld => ?_)
          · exact HQS.out _ hB3
          clear hK K
          try simp only [Act.put]
          try simp only [List.setIfInBounds_toArray, List.set_cons_zero, List.set_cons_succ]
          refine branchL (rs := [11]) (by kernel_rfl) (by simp) ?_
          refine List.forall_mem_cons.2 ⟨?_, fun _ h => absurd h (by simp)⟩
          refine stepL 11 (o := ?oT25) ?hiT25 ?hwT25 (fun K hK => ?_)
          case hiT25 => (simp only [List.getElem?_toArray, List.getElem?_cons_succ, List.getElem?_cons_zero]; with_reducible rfl)
          case hwT25 => rfl
          refine wp_append_files (.tmp 57) (.tmp 59) rfl wy.heap.size x1 (.slice (some ⟨gX, 0, none⟩) 1 1) (T.take k) [((⟨t, bb, N + 1⟩ : Fi), Value.slice A3 lb d3)] rfl hO rfl (rdV_blk hKX) HO2.out HLN.out.2.1 hB3.size (T.take k ++ [((⟨t, bb, N + 1⟩ : Fi), Value.slice A3 lb d3)]) rfl ?_
          rintro x2 wn4 ⟨ho, hg, hb, -⟩
          replace hO := ho
          have hB4 := hB3.trans hb
          clear ho hg hb hKX hB3
          refine hK.out _ _ ?_ (fun hHeld => ?_)
          · exact HQS.out _ hB4
          clear hK K
          try simp only [Act.put]
          try simp only [List.setIfInBounds_toArray, List.set_cons_zero, List.set_cons_succ]
          refine branchL (rs := [18]) (by kernel_rfl) (by simp) ?_
          refine List.forall_mem_cons.2 ⟨?_, fun _ h => absurd h (by simp)⟩
          refine stepL 18 (o := ?oT26) ?hiT26 ?hwT26 (fun K hK => ?_)
          case hiT26 => (simp only [List.getElem?_toArray, List.getElem?_cons_succ, List.getElem?_cons_zero]; with_reducible rfl)
          case hwT26 => rfl
          refine wp_append_files (.tmp 60) (.tmp 66) rfl wy.heap.size x2 (.slice (if c1 = k then A1 else Option.map (fun x => x.add (k * 3)) A1) (n - k) (c1 - k)) (T.take k ++ [((⟨t, bb, N + 1⟩ : Fi), Value.slice A3 lb d3)]) (T.drop k) rfl hO rfl (HM3.out _ hB4) HO3.out HLN.out.2.2 hB4.size (T.take k ++ [((⟨t, bb, N + 1⟩ : Fi), Value.slice A3 lb d3)] ++ T.drop k) rfl ?_
          rintro x3 wh ⟨ho3, hg3, hb3, -⟩
          obtain ⟨X3, e3, hX3⟩ := ho3.sl
          rw [HLL.out] at hX3
          subst hX3
          have hB5 := hB4.trans hb3
          have HA3 := Lib.hid ho3
          have HB3 := Lib.hid hB5
          clear ho3 hg3 hb3 hB4 hO
          refine hK.out _ _ ?_ (fun hHeld => ?_)
          · exact HQS.out _ hB5
          clear hK K
          try simp only [Act.put]
          try simp only [List.setIfInBounds_toArray, List.set_cons_zero, List.set_cons_succ]
          refine branchL (rs := [19]) (by kernel_rfl) (by simp) ?_
          refine List.forall_mem_cons.2 ⟨?_, fun _ h => absurd h (by simp)⟩
          refine stepL 19 (o := ?oT27) ?hiT27 ?hwT27 (fun K hK => ?_)
          case hiT27 => (simp only [List.getElem?_toArray, List.getElem?_cons_succ, List.getElem?_cons_zero]; with_reducible rfl)
          case hwT27 => rfl
          go_simp
          refine hK.out _ _ ?_ (fun hHeld => ?_)
          · exact HQS.out _ hB5
          clear hK K
          try simp only [Act.put]
          try simp only [List.setIfInBounds_toArray, List.set_cons_zero, List.set_cons_succ]
          refine takeLW 20 (some 69) (oi := ?oT28) (v := ?vT28) ?hiT28 ?hdT28 (by kernel_rfl) (by decide) (by kernel_rfl) (by kernel_rfl) (by kernel_rfl) (by kernel_rfl) (fun _ _ _ h => h) ?hwT28 ?hyT28 hHeld ?_
          case hiT28 => (simp only [List.getElem?_toArray, List.getElem?_cons_succ, List.getElem?_cons_zero]; with_reducible rfl)
          case hdT28 => rfl
          case hwT28 => rfl
          case hyT28 => (intro w hSw; (try dsimp only at hSw); go_simp; first | done | with_reducible rfl)
          try simp only [Act.put]
          try simp only [List.setIfInBounds_toArray, List.set_cons_zero, List.set_cons_succ]
          refine branchL (rs := [21]) (by kernel_rfl) (by simp) ?_
          refine List.forall_mem_cons.2 ⟨?_, fun _ h => absurd h (by simp)⟩
          refine lastL (o := ?oT29) ?hiT29 (by simp) ?hwT29 (fun K hK => ?_)
          case hiT29 => (simp only [List.getElem?_toArray, List.getElem?_cons_succ, List.getElem?_cons_zero]; with_reducible rfl)
          case hwT29 => rfl
          have hqc := (HQS.out _ hB5).1
          have hqf := HQF.out _ hB5
          go_simp
          refine hK.out _ _ ?_
          clear hK K
          try simp only [Act.put]
          try simp only [List.setIfInBounds_toArray, List.set_cons_zero, List.set_cons_succ]
          refine doneL (by kernel_rfl) ?_ _
          refine NoPanic.normal ?_
          go_wp2
          all_goals
            go_meet
            exact ⟨_, _, rfl, HA3, HB3⟩
        refine List.forall_mem_cons.2 ⟨?_, fun _ h => absurd h (by simp)⟩
        refine stepL 10 (o := ?oT30) ?hiT30 ?hwT30 (fun K hK => ?_)
        case hiT30 => (simp only [List.getElem?_toArray, List.getElem?_cons_succ, List.getElem?_cons_zero]; with_reducible rfl)
        case hwT30 => rfl
        go_simp
        obtain ⟨gX, hg⟩ : ∃ g, wn0.heap.size = g := ⟨_, rfl⟩
        obtain ⟨wn1, hwm⟩ : ∃ wm, wn0.alloc (oneF t (.slice A3 lb d3) ((N : Int) + 1)) = wm := ⟨_, rfl⟩
        have hKX : Blk wn1 gX 58 #[.string (str t), .slice A3 lb d3, .int .i64 ((N : Int) + 1)] := by rw [← hwm, ← hg]; exact heap_alloc_new _ _
        have hB1 : Below wy.heap.size wy wn1 := by rw [← hwm]; exact hB0.alloc hB0.size _
        rw [hwm]
        rw [hg]
        clear hwm hg hB0
        refine hK.out _ _ ?_ (fun hHeld => ?_)
        · exact HQS.out _ hB1
        clear hK K
        try simp only [Act.put]
        try simp only [List.setIfInBounds_toArray, List.set_cons_zero, List.set_cons_succ]
        refine branchL (rs := [1]) (by kernel_rfl) (by simp) ?_
        refine List.forall_mem_cons.2 ⟨?_, fun _ h => absurd h (by simp)⟩
        refine stepL 1 (o := ?oT31) ?hiT31 ?hwT31 (fun K hK => ?_)
        case hiT31 => (simp only [List.getElem?_toArray, List.getElem?_cons_succ, List.getElem?_cons_zero]; with_reducible rfl)
        case hwT31 => rfl
        go_simp
        obtain ⟨gE, hg⟩ : ∃ g, wn1.heap.size = g := ⟨_, rfl⟩
        obtain ⟨wn2, hwm⟩ : ∃ wm, wn1.alloc noF = wm := ⟨_, rfl⟩
        have hO : OwnF wn2 wy.heap.size (.slice (some ⟨gE, 0, none⟩) 0 0) [] := by rw [← hwm, ← hg]; exact ownF_empty wn1 _ hB1.size
        have hB2 : Below wy.heap.size wy wn2 := by rw [← hwm]; exact hB1.alloc hB1.size _
        have hgne : gX ≠ gE := by rw [← hg]; exact Nat.ne_of_lt hKX.size
        replace hKX : Blk wn2 gX 58 #[.string (str t), .slice A3 lb d3, .int .i64 ((N : Int) + 1)] := by rw [← hwm]; exact hKX.alloc _
        rw [hwm]
        rw [hg]
        clear hwm hg hB1
        refine hK.out _ _ ?_ (fun hHeld => ?_)
        · exact HQS.out _ hB2
        clear hK K
        try simp only [Act.put]
        try simp only [List.setIfInBounds_toArray, List.set_cons_zero, List.set_cons_succ]
        refine branchL (rs := [8]) (by kernel_rfl) (by simp) ?_
        refine List.forall_mem_cons.2 ⟨?_, fun _ h => absurd h (by simp)⟩
        refine stepL 8 (o := ?oT32) ?hiT32 ?hwT32 (fun K hK => ?_)
        case hiT32 => (simp only [List.getElem?_toArray, List.getElem?_cons_succ, List.getElem?_cons_zero]; with_reducible rfl)
        case hwT32 => rfl
        refine wp_append_files (.tmp 50) (.tmp 56) rfl wy.heap.size (.slice (some ⟨gE, 0, none⟩) 0 0) (.slice A1 k c1) [] (T.take k) rfl hO rfl (HM1.out _ hB2) HO1.out HLN.out.1 hB2.size (T.take k) rfl ?_
        rintro x1 wn3 ⟨ho, hg, hb, -⟩
        replace hO := ho
        have hB3 := hB2.trans hb
        replace hKX := hKX.grown hg (by simpa [Value.ownBlock] using hgne)
        clear ho hg hb hB2
        refine hK.out _ _ ?_ (fun hHeld => ?_)
        · exact HQS.out _ hB3
        clear hK K
        try simp only [Act.put]
        try simp only [List.setIfInBounds_toArray, List.set_cons_zero, List.set_cons_succ]
        refine branchL (rs := [11]) (by kernel_rfl) (by simp) ?_
        refine List.forall_mem_cons.2 ⟨?_, fun _ h => absurd h (by simp)⟩
        refine stepL 11 (o := ?oT33) ?hiT33 ?hwT33 (fun K hK => ?_)
        case hiT33 => (simp only [List.getElem?_toArray, List.getElem?_cons_succ, List.getElem?_cons_zero]; with_reducible rfl)
        case hwT33 => rfl
        refine wp_append_files (.tmp 57) (.tmp 59) rfl wy.heap.size x1 (.slice (some ⟨gX, 0, none⟩) 1 1) (T.take k) [((⟨t, bb, N + 1⟩ : Fi), Value.slice A3 lb d3)] rfl hO rfl (rdV_blk hKX) HO2.out HLN.out.2.1 hB3.size (T.take k ++ [((⟨t, bb, N + 1⟩ : Fi), Value.slice A3 lb d3)]) rfl ?_
        rintro x2 wn4 ⟨ho, hg, hb, -⟩
        replace hO := ho
        have hB4 := hB3.trans hb
        clear ho hg hb hKX hB3
        refine hK.out _ _ ?_ (fun hHeld => ?_)
        · exact HQS.out _ hB4
        clear hK K
        try simp only [Act.put]
        try simp only [List.setIfInBounds_toArray, List.set_cons_zero, List.set_cons_succ]
        refine branchL (rs := [18]) (by kernel_rfl) (by simp) ?_
        refine List.forall_mem_cons.2 ⟨?_, fun _ h => absurd h (by simp)⟩
        refine stepL 18 (o := ?oT34) ?hiT34 ?hwT34 (fun K hK => ?_)
        case hiT34 => (simp only [List.getElem?_toArray, List.getElem?_cons_succ, List.getElem?_cons_zero]; with_reducible rfl)
        case hwT34 => rfl
        refine wp_append_files (.tmp 60) (.tmp 66) rfl wy.heap.size x2 (.slice (if c1 = k then A1 else Option.map (fun x => x.add (k * 3)) A1) (n - k) (c1 - k)) (T.take k ++ [((⟨t, bb, N + 1⟩ : Fi), Value.slice A3 lb d3)]) (T.drop k) rfl hO rfl (HM3.out _ hB4) HO3.out HLN.out.2.2 hB4.size (T.take k ++ [((⟨t, bb, N + 1⟩ : Fi), Value.slice A3 lb d3)] ++ T.drop k) rfl ?_
        rintro x3 wh ⟨ho3, hg3, hb3, -⟩
        obtain ⟨X3, e3, hX3⟩ := ho3.sl
        rw [HLL.out] at hX3
        subst hX3
        have hB5 := hB4.trans hb3
        have HA3 := Lib.hid ho3
        have HB3 := Lib.hid hB5
        clear ho3 hg3 hb3 hB4 hO
        refine hK.out _ _ ?_ (fun hHeld => ?_)
        · exact HQS.out _ hB5
        clear hK K
        try simp only [Act.put]
        try simp only [List.setIfInBounds_toArray, List.set_cons_zero, List.set_cons_succ]
        refine branchL (rs := [19]) (by kernel_rfl) (by simp) ?_
        refine List.forall_mem_cons.2 ⟨?_, fun _ h => absurd h (by simp)⟩
        refine stepL 19 (o := ?oT35) ?hiT35 ?hwT35 (fun K hK => ?_)
        case hiT35 => (simp only [List.getElem?_toArray, List.getElem?_cons_succ, List.getElem?_cons_zero]; with_reducible rfl)
        case hwT35 => rfl
        go_simp
        refine hK.out _ _ ?_ (fun hHeld => ?_)
        · exact HQS.out _ hB5
        clear hK K
        try simp only [Act.put]
        try simp only [List.setIfInBounds_toArray, List.set_cons_zero, List.set_cons_succ]
        refine takeLW 20 (some 69) (oi := ?oT36) (v := ?vT36) ?hiT36 ?hdT36 (by kernel_rfl) (by decide) (by kernel_rfl) (by kernel_rfl) (by kernel_rfl) (by kernel_rfl) (fun _ _ _ h => h) ?hwT36 ?hyT36 hHeld ?_
        case hiT36 => (simp only [List.getElem?_toArray, List.getElem?_cons_succ, List.getElem?_cons_zero]; with_reducible rfl)
        case hdT36 => rfl
        case hwT36 => rfl
        case hyT36 => (intro w hSw; (try dsimp only at hSw); go_simp; first | done | with_reducible rfl)
        try simp only [Act.put]
        try simp only [List.setIfInBounds_toArray, List.set_cons_zero, List.set_cons_succ]
        refine branchL (rs := [21]) (by kernel_rfl) (by simp) ?_
        refine List.forall_mem_cons.2 ⟨?_, fun _ h => absurd h (by simp)⟩
        refine lastL (o := ?oT37) ?hiT37 (by simp) ?hwT37 (fun K hK => ?_)
        case hiT37 => (simp only [List.getElem?_toArray, List.getElem?_cons_succ, List.getElem?_cons_zero]; with_reducible rfl)
        case hwT37 => rfl
        have hqc := (HQS.out _ hB5).1
        have hqf := HQF.out _ hB5
        go_simp
        refine hK.out _ _ ?_
        clear hK K
        try simp only [Act.put]
        try simp only [List.setIfInBounds_toArray, List.set_cons_zero, List.set_cons_succ]
        refine doneL (by kernel_rfl) ?_ _
        refine NoPanic.normal ?_
        go_wp2
        all_goals
          go_meet
          exact ⟨_, _, rfl, HA3, HB3⟩
      case rest =>
        obtain ⟨x3, wh, hz, HA3, HB3⟩ := hcut
        obtain ⟨wz, rfl⟩ : ∃ wz : World, wz = wc := ⟨_, rfl⟩
        have hkq : ∀ j, j ≠ q → wz.heap[j]? = wh.heap[j]? := fun j hj => by
          rw [hz]
          exact Below.heap_setCell _ _ _ _ (by exact hj)
        have hzs : wz.heap.size = wh.heap.size := by rw [hz, World.size_setCell]
        have HBK : Hid (Blk wz q 56 (cellsR x3 (wr s t bb))) := Lib.hid (by
          have h1 := (HR3.out.blk.below HB3.out HQ.out).set 0 x3
          rw [← hz] at h1
          have h2 : (wr s t bb).next = N + 1 := by show s.next + 1 = N + 1; rw [HNX.out]
          unfold cellsR
          rw [h2]
          exact h1)
        have r2 : wz.cell? ⟨q, 2, none⟩ = some (.int .i64 ((N : Int) + 1)) := by
          have h1 := HBK.out.at 2
          have h2 : (wr s t bb).next = N + 1 := by show s.next + 1 = N + 1; rw [HNX.out]
          unfold cellsR at h1
          rw [h2] at h1
          exact h1
        have HD : Hid (RDone G q (wr s t bb) w wz) := Lib.hid (by
          have hxs : w.heap.size ≤ wx.heap.size := by rw [HW2.out, World.size_setCell]; exact HG1.out.1.size
          have hys := HBB.out.size
          have hhs := HB3.out.size
          have hqx : q < wx.heap.size := HR2.out.lt q HR2.out.gq
          refine ⟨x3, fun j => G1 j ∨ (wx.heap.size ≤ j ∧ j < wz.heap.size), ⟨HBK.out, ?_, .inl HR2.out.gq, fun j hj => ?_, ?_⟩, ?_, fun j hj => ?_⟩
          · have hrd : RdV wz x3 (T.take k ++ [((⟨t, bb, N + 1⟩ : Fi), Value.slice A3 lb d3)] ++ T.drop k) := HA3.out.rd.same fun j hj => hkq j (by have := (HA3.out.lt j hj).1; have := HQ.out; omega)
            have hmap : (T.take k ++ [((⟨t, bb, N + 1⟩ : Fi), Value.slice A3 lb d3)] ++ T.drop k).map Prod.fst = (wr s t bb).l := by
              show _ = put s.l ⟨t, bb, s.next + 1⟩
              unfold put
              rw [show (⟨t, bb, s.next + 1⟩ : Fi).name = t from rfl, HE.out.1, HE.out.2, List.map_append, List.map_append, List.map_take, List.map_drop, HT1.out, HNX.out]
              simp
            rw [← hmap]
            refine RdF.of hrd ?_ (fun j hj => ?_) fun y hy => ?_
            · have h1 := HNL.out
              have h2 := gone_len s.l t
              have h3 := HN.out.2
              rw [List.length_append, List.length_append, List.length_take, List.length_drop, HTN.out, List.length_singleton]
              omega
            · have h1 := HA3.out.lt j hj
              have h2 := HQ.out
              exact ⟨.inr ⟨by omega, by omega⟩, by omega⟩
            · have hcase : y ∈ T ∨ y = ((⟨t, bb, N + 1⟩ : Fi), Value.slice A3 lb d3) := by
                rcases List.mem_append.1 hy with hy | hy
                · rcases List.mem_append.1 hy with hy | hy
                  · exact .inl (List.mem_of_mem_take hy)
                  · exact .inr (List.mem_singleton.1 hy)
                · exact .inl (List.mem_of_mem_drop hy)
              rcases hcase with hy | rfl
              · have h1 := HTY.out y hy
                exact ⟨(h1.1.under HB3.out).same fun j _ hj => hkq j (h1.2 j hj).2, fun j hj => ⟨.inl (h1.2 j hj).1, (h1.2 j hj).2⟩⟩
              · have h1 := HOX.out.under HB3.out
                have h2 := HOX.out.lt
                refine ⟨h1.bytes.same fun j _ hj => hkq j (by have := (h2 j hj).1; omega), fun j hj => ?_⟩
                have := h2 j hj
                exact ⟨.inr ⟨this.1, by omega⟩, by omega⟩
          · rcases hj with hj | hj
            · have := HR2.out.lt j hj
              omega
            · exact hj.2
          · exact good_wr (by
              have h1 := HR2.out.good
              have h2 := HR3.out.good
              exact HGS.out) HT.out.1 HT.out.2
          · have e1 := HG1.out.1
            have e2 : w1.grownBy wx (some q) := by rw [HW2.out]; exact grown_setCell w1 ⟨q, 2, none⟩ _
            have e3 : wx.grownBy wy (some q) := Below.toGrown HBB.out _
            have e4 : wy.grownBy wh (some q) := Below.toGrown HB3.out _
            have e5 : wh.grownBy wz (some q) := by rw [hz]; exact grown_setCell wh ⟨q, 0, none⟩ _
            exact grownq e1 (grownq e2 (grownq e3 (grownq e4 e5)))
          · rcases hj with hj | hj
            · exact HG1.out.2 j hj
            · exact .inr (by omega))
        clear hkq hzs hz
        go_wp2_with fail
        go_ret
        exact ⟨by rw [HNX.out]; rfl, HD.out⟩
end Go.Proofs.Ytlfgadcfjjjbfaa
