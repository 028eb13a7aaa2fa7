/- What the statements of layer 6 take as actions: things of numbers. -/
import Derived.Test.YtdcefnjdbdnhfaaActRows
import Derived.Test.YtdcefnjdbdnhfaaInts
namespace Go.Proofs.Ytdcefnjdbdnhfaa
set_option maxRecDepth 100000
open Go.ChangeShapes Go.WideShapes Go.ChangeAt Go.RowKit

theorem and_low (a : Int) (k : Nat) (hk : k < 4294967296) : ∃ m : Nat, bits .and .i64 a (k : Int) = (m : Int) ∧ m ≤ k := by
  have h : bits .and .i64 a (k : Int) = IntKind.i64.wrap ((BitVec.ofInt 64 a &&& BitVec.ofInt 64 (k : Int)).toNat : Int) := rfl
  have hx : (BitVec.ofInt 64 a &&& BitVec.ofInt 64 (k : Int)).toNat ≤ k := by
    rw [BitVec.toNat_and]
    refine Nat.le_trans Nat.and_le_right ?_
    rw [BitVec.ofInt_natCast, BitVec.toNat_ofNat]
    exact Nat.mod_le _ _
  refine ⟨(BitVec.ofInt 64 a &&& BitVec.ofInt 64 (k : Int)).toNat, ?_, hx⟩
  rw [h, IntKind.wrap_i64]
  omega
def GoodL (L : List Ac.D) : Prop := ∀ i (h : i < L.length), Ac.okD (decide (i = 0)) (L[i]'h) = true ∧ (L[i]'h).n ≤ 31
theorem GoodL.snoc {L : List Ac.D} (h : GoodL L) {d : Ac.D} (h1 : Ac.okD (decide (L.length = 0)) d = true) (h2 : d.n ≤ 31) : GoodL (L ++ [d]) := by
  intro i hi
  rw [List.length_append, List.length_singleton] at hi
  rcases Nat.lt_or_ge i L.length with hlt | hge
  · rw [List.getElem_append_left hlt]
    exact h i hlt
  · obtain rfl : i = L.length := by omega
    rw [List.getElem_append_right (Nat.le_refl _)]
    simp only [Nat.sub_self, List.getElem_cons_zero]
    exact ⟨h1, h2⟩
theorem GoodL.ok {L : List Ac.D} (h : GoodL L) (h0 : L ≠ []) (h8 : L.length ≤ 8) : Ac.ok L = true ∧ ∀ d ∈ L, d.n ≤ 31 := by
  refine ⟨?_, fun d hd => ?_⟩
  · cases L with
    | nil => exact absurd rfl h0
    | cons d r =>
      unfold Ac.ok
      simp only [Bool.and_eq_true, decide_eq_true_eq, List.all_eq_true]
      refine ⟨⟨(h 0 (by simp)).1, fun x hx => ?_⟩, by simpa using h8⟩
      obtain ⟨i, hi, rfl⟩ := List.getElem_of_mem hx
      have := (h (i + 1) (by simpa using hi)).1
      rw [List.getElem_cons_succ] at this
      exact this
  · obtain ⟨i, hi, rfl⟩ := List.getElem_of_mem hd
    exact (h i hi).2
def texts6 : List (List Nat) := [[], [97], [104, 105, 32, 116, 104, 101, 114, 101], [45], [120, 121, 122], [48, 49, 50, 51, 52, 53, 54, 55, 56, 57, 48, 49, 50, 51, 52, 53, 54, 55, 56, 57, 48, 49, 50, 51, 52, 53, 54, 55, 56, 57, 48, 49, 50, 51, 52, 53, 54, 55, 56, 57, 48, 49, 50, 51, 52, 53, 54, 55, 56, 57, 48, 49, 50, 51, 52, 53, 54, 55, 56, 57, 48, 49, 50, 51]]
theorem texts6_good : ∀ i, i < 6 → Ac.plainT (texts6.getD i []) = true := by
  intro i hi
  have : i = 0 ∨ i = 1 ∨ i = 2 ∨ i = 3 ∨ i = 4 ∨ i = 5 := by omega
  rcases this with rfl | rfl | rfl | rfl | rfl | rfl <;> rfl
theorem do_cells (w : World) (o : Obj) (z : Ac.D) : ∀ j y, (cellsD z)[j]? = some y → ((w.alloc o).alloc (.cells (cellsD z).toArray 26)).cell? ⟨w.heap.size + 1, j, none⟩ = some y := fun j y hy => by
  have hs : w.heap.size + 1 = (w.alloc o).heap.size := by simp
  have h : Blk ((w.alloc o).alloc (.cells (cellsD z).toArray 26)) (w.heap.size + 1) 26 (cellsD z).toArray := by
    rw [hs]
    exact heap_alloc_new _ _
  rw [h.at j, List.getElem?_toArray]
  exact hy
set_option maxRecDepth 100000 in
set_option maxHeartbeats 8000000 in
theorem act_any (v : Value) (zs : List Int) (w : World) (hz : Ints w v zs) :
    Calls Try.prog 12 #[v] w fun e w' => ∃ (L : List Ac.D) (u : Value), e = .returned u ∧ OwnD w' w.heap.size u L ∧ Ac.ok L = true ∧ L.length ≤ 6 ∧ (∀ d ∈ L, d.n ≤ 31) ∧ Below w.heap.size w w' := by
  have HZ := Lib.hid hz
  obtain ⟨_, hzm, A1, c1, rfl, hc1, _⟩ := hz
  obtain ⟨n1, hn1⟩ : ∃ n, zs.length = n := ⟨_, rfl⟩
  rw [hn1] at HZ hzm hc1 ⊢
  clear hn1
  go_enter Try.func12, Try.ntmps12
  go_wp2_with fail
  generalize hW1 : World.alloc w _ = W1
  have HTX : Hid (Blk W1 w.heap.size 9 (texts6.map fun l => Value.string (str l)).toArray) := Lib.hid (by rw [← hW1]; exact heap_alloc_new w _)
  have HB1 : Hid (Below w.heap.size w W1) := Lib.hid (by rw [← hW1]; exact (Below.refl _ _).alloc (Nat.le_refl _) _)
  have HS1 : Hid (W1.heap.size = w.heap.size + 1) := Lib.hid (by rw [← hW1]; simp)
  clear hW1
  go_loopw [3, 5] (fun ov iv wr => ∃ (k : Nat) (L : List Ac.D), k ≤ n1 ∧ k ≤ 6 ∧ iv = .int .i64 (k : Int) ∧ Hid (L.length = k) ∧ Hid (GoodL L) ∧ Hid (OwnD wr W1.heap.size ov L) ∧ Hid (Below W1.heap.size W1 wr)) (fun _ iv _ => n1 - (intOf iv).toNat)
  case atStart => exact ⟨0, [], by omega, by omega, rfl, Lib.hid rfl, Lib.hid (fun i h => absurd h (by simp)), Lib.hid (ownD_none _ _), Lib.hid (Below.refl _ _)⟩
  case round =>
    obtain ⟨k, L, hk, hk6, rfl, hL, hgood, hO, hbl⟩ := hrel
    obtain ⟨Ao, co, hoe, hco⟩ := hO.out.parts
    subst hoe
    rw [hL.out] at hO hco ⊢
    by_cases hlt : k < n1
    · have hkI : (k : Int) < (n1 : Int) := by omega
      by_cases h6 : k < 6
      · have h6I : (k : Int) < 6 := by omega
        obtain ⟨b, off, hA1, hck⟩ := (HZ.out.under (HB1.out.trans (hbl.out.mono HB1.out.size))).at hlt
        subst hA1
        obtain ⟨z, hzz⟩ : ∃ z, zs.getD k 0 = z := ⟨_, rfl⟩
        rw [hzz] at hck
        clear hzz
        have hbz : b < wr.heap.size := World.block_lt_of_cell? _ _ hck
        have HSZ : Hid (W1.heap.size ≤ wr.heap.size) := Lib.hid hbl.out.size
        obtain ⟨m7, hm7, hm7b⟩ := and_low z 7 (by decide)
        obtain ⟨p8, hp8, hp8b⟩ := and_low (z / 256) 3 (by decide)
        obtain ⟨r3, hr3, hr3b⟩ := and_low z 255 (by decide)
        obtain ⟨n3, hn3, hn3b⟩ := and_low (z / 1024) 3 (by decide)
        obtain ⟨n31, hn31, hn31b⟩ := and_low (z / 1024) 31 (by decide)
        obtain ⟨t255, ht255, ht255b⟩ := and_low (z / 1024) 255 (by decide)
        change bits .and .i64 z 7 = (m7 : Int) at hm7
        change bits .and .i64 (z / 256) 3 = (p8 : Int) at hp8
        change bits .and .i64 z 255 = (r3 : Int) at hr3
        change bits .and .i64 (z / 1024) 3 = (n3 : Int) at hn3
        change bits .and .i64 (z / 1024) 31 = (n31 : Int) at hn31
        change bits .and .i64 (z / 1024) 255 = (t255 : Int) at ht255
        obtain ⟨s3, hs3, hs3b⟩ : ∃ s : Nat, (r3 : Int).tmod 3 = (s : Int) ∧ s < 3 := ⟨r3 % 3, by rw [Int.tmod_eq_emod_of_nonneg (by omega)]; omega, Nat.mod_lt _ (by decide)⟩
        obtain ⟨i6, hi6, hi6b⟩ : ∃ s : Nat, (t255 : Int).tmod 6 = (s : Int) ∧ s < 6 := ⟨t255 % 6, by rw [Int.tmod_eq_emod_of_nonneg (by omega)]; omega, Nat.mod_lt _ (by decide)⟩
        obtain ⟨T, hT⟩ : ∃ T, texts6.getD i6 [] = T := ⟨_, rfl⟩
        have HTG : Hid (Ac.plainT T = true) := Lib.hid (by rw [← hT]; exact texts6_good i6 hi6b)
        have hTX : ∀ o, (wr.alloc o).cell? ⟨w.heap.size, i6, none⟩ = some (.string (str T)) := fun o => by
          have h1 := ((HTX.out.below hbl.out (by rw [HS1.out]; omega)).alloc o).at i6
          rw [List.getElem?_toArray, List.getElem?_map, List.getElem?_eq_getElem (by exact hi6b)] at h1
          rw [List.getD_eq_getElem?_getD, List.getElem?_eq_getElem (by exact hi6b)] at hT
          rw [h1, ← hT]
          rfl
        have hi6I : (i6 : Int) < 6 := by omega
        clear hT
        by_cases h0 : k = 0
        · subst h0
          rw [Nat.add_zero] at hck
          have : s3 = 0 ∨ s3 = 1 ∨ s3 = 2 := by omega
          rcases this with rfl | rfl | rfl
          · skip
            have HD : Hid (Ac.okD (decide (L.length = 0)) ⟨1, 0, T⟩ = true) := Lib.hid (by rw [hL.out]; rw [show decide (0 = 0) = true from rfl]; simp [Ac.okD, Ac.isFirst, Ac.isText, Ac.most, HTG.out])
            go_wp2_with (at_builtin; refine wpList_append_do rfl _ _ rfl W1.heap.size (wr.heap.size + 1) (.slice Ao 0 co) L ⟨1, 0, T⟩ rfl ((hO.out.alloc _).alloc _) rfl (do_cells wr _ ⟨1, 0, T⟩) (by rw [hL.out]; omega) (Nat.le_trans HSZ.out (by simp; omega)) _ rfl ?_)
            rintro u' w' hO' - hb'
            have HO' := Lib.hid hO'
            have HB' := Lib.hid (((hbl.out.alloc hbl.out.size (.cells (cellsD ⟨1, 0, T⟩).toArray 26)).alloc (hbl.out.alloc hbl.out.size _).size (.cells (cellsD ⟨1, 0, T⟩).toArray 26)).trans hb')
            have HG' := Lib.hid (hgood.out.snoc HD.out (by show 0 ≤ 31; omega))
            clear hO' hb' hck
            go_wp2
            go_roundw
            case rel => exact ⟨1, L ++ [⟨1, 0, T⟩], hlt, by omega, rfl, Lib.hid (by rw [List.length_append, hL.out]; rfl), HG', HO', HB'⟩
            case measure => simp [intOf]; omega
          · skip
            have HD : Hid (Ac.okD (decide (L.length = 0)) ⟨2, n3, []⟩ = true) := Lib.hid (by rw [hL.out]; rw [show decide (0 = 0) = true from rfl]; simp [Ac.okD, Ac.isFirst, Ac.isText, Ac.most, Ac.plainT]; omega)
            go_wp2_with (at_builtin; refine wpList_append_do rfl _ _ rfl W1.heap.size (wr.heap.size + 1) (.slice Ao 0 co) L ⟨2, n3, []⟩ rfl ((hO.out.alloc _).alloc _) rfl (do_cells wr _ ⟨2, n3, []⟩) (by rw [hL.out]; omega) (Nat.le_trans HSZ.out (by simp; omega)) _ rfl ?_)
            rintro u' w' hO' - hb'
            have HO' := Lib.hid hO'
            have HB' := Lib.hid (((hbl.out.alloc hbl.out.size (.cells (cellsD ⟨2, n3, []⟩).toArray 26)).alloc (hbl.out.alloc hbl.out.size _).size (.cells (cellsD ⟨2, n3, []⟩).toArray 26)).trans hb')
            have HG' := Lib.hid (hgood.out.snoc HD.out (by show n3 ≤ 31; omega))
            clear hO' hb' hck
            go_wp2
            go_roundw
            case rel => exact ⟨1, L ++ [⟨2, n3, []⟩], hlt, by omega, rfl, Lib.hid (by rw [List.length_append, hL.out]; rfl), HG', HO', HB'⟩
            case measure => simp [intOf]; omega
          · skip
            have HD : Hid (Ac.okD (decide (L.length = 0)) ⟨3, 0, []⟩ = true) := Lib.hid (by rw [hL.out]; rw [show decide (0 = 0) = true from rfl]; rfl)
            go_wp2_with (at_builtin; refine wpList_append_do rfl _ _ rfl W1.heap.size (wr.heap.size + 1) (.slice Ao 0 co) L ⟨3, 0, []⟩ rfl ((hO.out.alloc _).alloc _) rfl (do_cells wr _ ⟨3, 0, []⟩) (by rw [hL.out]; omega) (Nat.le_trans HSZ.out (by simp; omega)) _ rfl ?_)
            rintro u' w' hO' - hb'
            have HO' := Lib.hid hO'
            have HB' := Lib.hid (((hbl.out.alloc hbl.out.size (.cells (cellsD ⟨3, 0, []⟩).toArray 26)).alloc (hbl.out.alloc hbl.out.size _).size (.cells (cellsD ⟨3, 0, []⟩).toArray 26)).trans hb')
            have HG' := Lib.hid (hgood.out.snoc HD.out (by show 0 ≤ 31; omega))
            clear hO' hb' hck
            go_wp2
            go_roundw
            case rel => exact ⟨1, L ++ [⟨3, 0, []⟩], hlt, by omega, rfl, Lib.hid (by rw [List.length_append, hL.out]; rfl), HG', HO', HB'⟩
            case measure => simp [intOf]; omega
        · have h0I : ((k : Int) == 0) = false := by simp; omega
          have : m7 = 0 ∨ m7 = 1 ∨ m7 = 2 ∨ m7 = 3 ∨ m7 = 4 ∨ m7 = 5 ∨ m7 = 6 ∨ (m7 = 7 ∧ 0 < p8) ∨ (m7 = 7 ∧ p8 = 0) := by omega
          rcases this with rfl | rfl | rfl | rfl | rfl | rfl | rfl | ⟨rfl, h8⟩ | ⟨rfl, rfl⟩
          · skip
            have HD : Hid (Ac.okD (decide (L.length = 0)) ⟨4, 0, []⟩ = true) := Lib.hid (by rw [hL.out]; rw [show decide (k = 0) = false from by simp; omega]; rfl)
            go_wp2_with (at_builtin; refine wpList_append_do rfl _ _ rfl W1.heap.size (wr.heap.size + 1) (.slice Ao k co) L ⟨4, 0, []⟩ rfl ((hO.out.alloc _).alloc _) rfl (do_cells wr _ ⟨4, 0, []⟩) (by rw [hL.out]; omega) (Nat.le_trans HSZ.out (by simp; omega)) _ rfl ?_)
            rintro u' w' hO' - hb'
            have HO' := Lib.hid hO'
            have HB' := Lib.hid (((hbl.out.alloc hbl.out.size (.cells (cellsD ⟨4, 0, []⟩).toArray 26)).alloc (hbl.out.alloc hbl.out.size _).size (.cells (cellsD ⟨4, 0, []⟩).toArray 26)).trans hb')
            have HG' := Lib.hid (hgood.out.snoc HD.out (by show 0 ≤ 31; omega))
            clear hO' hb' hck
            go_wp2
            go_roundw
            case rel => exact ⟨k + 1, L ++ [⟨4, 0, []⟩], hlt, h6, by go_num, Lib.hid (by rw [List.length_append, hL.out]; rfl), HG', HO', HB'⟩
            case measure => simp [intOf]; omega
          · skip
            have HD : Hid (Ac.okD (decide (L.length = 0)) ⟨5, 0, []⟩ = true) := Lib.hid (by rw [hL.out]; rw [show decide (k = 0) = false from by simp; omega]; rfl)
            go_wp2_with (at_builtin; refine wpList_append_do rfl _ _ rfl W1.heap.size (wr.heap.size + 1) (.slice Ao k co) L ⟨5, 0, []⟩ rfl ((hO.out.alloc _).alloc _) rfl (do_cells wr _ ⟨5, 0, []⟩) (by rw [hL.out]; omega) (Nat.le_trans HSZ.out (by simp; omega)) _ rfl ?_)
            rintro u' w' hO' - hb'
            have HO' := Lib.hid hO'
            have HB' := Lib.hid (((hbl.out.alloc hbl.out.size (.cells (cellsD ⟨5, 0, []⟩).toArray 26)).alloc (hbl.out.alloc hbl.out.size _).size (.cells (cellsD ⟨5, 0, []⟩).toArray 26)).trans hb')
            have HG' := Lib.hid (hgood.out.snoc HD.out (by show 0 ≤ 31; omega))
            clear hO' hb' hck
            go_wp2
            go_roundw
            case rel => exact ⟨k + 1, L ++ [⟨5, 0, []⟩], hlt, h6, by go_num, Lib.hid (by rw [List.length_append, hL.out]; rfl), HG', HO', HB'⟩
            case measure => simp [intOf]; omega
          · skip
            have HD : Hid (Ac.okD (decide (L.length = 0)) ⟨6, 0, []⟩ = true) := Lib.hid (by rw [hL.out]; rw [show decide (k = 0) = false from by simp; omega]; rfl)
            go_wp2_with (at_builtin; refine wpList_append_do rfl _ _ rfl W1.heap.size (wr.heap.size + 1) (.slice Ao k co) L ⟨6, 0, []⟩ rfl ((hO.out.alloc _).alloc _) rfl (do_cells wr _ ⟨6, 0, []⟩) (by rw [hL.out]; omega) (Nat.le_trans HSZ.out (by simp; omega)) _ rfl ?_)
            rintro u' w' hO' - hb'
            have HO' := Lib.hid hO'
            have HB' := Lib.hid (((hbl.out.alloc hbl.out.size (.cells (cellsD ⟨6, 0, []⟩).toArray 26)).alloc (hbl.out.alloc hbl.out.size _).size (.cells (cellsD ⟨6, 0, []⟩).toArray 26)).trans hb')
            have HG' := Lib.hid (hgood.out.snoc HD.out (by show 0 ≤ 31; omega))
            clear hO' hb' hck
            go_wp2
            go_roundw
            case rel => exact ⟨k + 1, L ++ [⟨6, 0, []⟩], hlt, h6, by go_num, Lib.hid (by rw [List.length_append, hL.out]; rfl), HG', HO', HB'⟩
            case measure => simp [intOf]; omega
          · skip
            have HD : Hid (Ac.okD (decide (L.length = 0)) ⟨7, n31, []⟩ = true) := Lib.hid (by rw [hL.out]; rw [show decide (k = 0) = false from by simp; omega]; simp [Ac.okD, Ac.isFirst, Ac.isText, Ac.most, Ac.plainT]; omega)
            go_wp2_with (at_builtin; refine wpList_append_do rfl _ _ rfl W1.heap.size (wr.heap.size + 1) (.slice Ao k co) L ⟨7, n31, []⟩ rfl ((hO.out.alloc _).alloc _) rfl (do_cells wr _ ⟨7, n31, []⟩) (by rw [hL.out]; omega) (Nat.le_trans HSZ.out (by simp; omega)) _ rfl ?_)
            rintro u' w' hO' - hb'
            have HO' := Lib.hid hO'
            have HB' := Lib.hid (((hbl.out.alloc hbl.out.size (.cells (cellsD ⟨7, n31, []⟩).toArray 26)).alloc (hbl.out.alloc hbl.out.size _).size (.cells (cellsD ⟨7, n31, []⟩).toArray 26)).trans hb')
            have HG' := Lib.hid (hgood.out.snoc HD.out (by show n31 ≤ 31; omega))
            clear hO' hb' hck
            go_wp2
            go_roundw
            case rel => exact ⟨k + 1, L ++ [⟨7, n31, []⟩], hlt, h6, by go_num, Lib.hid (by rw [List.length_append, hL.out]; rfl), HG', HO', HB'⟩
            case measure => simp [intOf]; omega
          · skip
            have HD : Hid (Ac.okD (decide (L.length = 0)) ⟨8, n31, []⟩ = true) := Lib.hid (by rw [hL.out]; rw [show decide (k = 0) = false from by simp; omega]; simp [Ac.okD, Ac.isFirst, Ac.isText, Ac.most, Ac.plainT]; omega)
            go_wp2_with (at_builtin; refine wpList_append_do rfl _ _ rfl W1.heap.size (wr.heap.size + 1) (.slice Ao k co) L ⟨8, n31, []⟩ rfl ((hO.out.alloc _).alloc _) rfl (do_cells wr _ ⟨8, n31, []⟩) (by rw [hL.out]; omega) (Nat.le_trans HSZ.out (by simp; omega)) _ rfl ?_)
            rintro u' w' hO' - hb'
            have HO' := Lib.hid hO'
            have HB' := Lib.hid (((hbl.out.alloc hbl.out.size (.cells (cellsD ⟨8, n31, []⟩).toArray 26)).alloc (hbl.out.alloc hbl.out.size _).size (.cells (cellsD ⟨8, n31, []⟩).toArray 26)).trans hb')
            have HG' := Lib.hid (hgood.out.snoc HD.out (by show n31 ≤ 31; omega))
            clear hO' hb' hck
            go_wp2
            go_roundw
            case rel => exact ⟨k + 1, L ++ [⟨8, n31, []⟩], hlt, h6, by go_num, Lib.hid (by rw [List.length_append, hL.out]; rfl), HG', HO', HB'⟩
            case measure => simp [intOf]; omega
          · skip
            have HD : Hid (Ac.okD (decide (L.length = 0)) ⟨9, 0, []⟩ = true) := Lib.hid (by rw [hL.out]; rw [show decide (k = 0) = false from by simp; omega]; rfl)
            go_wp2_with (at_builtin; refine wpList_append_do rfl _ _ rfl W1.heap.size (wr.heap.size + 1) (.slice Ao k co) L ⟨9, 0, []⟩ rfl ((hO.out.alloc _).alloc _) rfl (do_cells wr _ ⟨9, 0, []⟩) (by rw [hL.out]; omega) (Nat.le_trans HSZ.out (by simp; omega)) _ rfl ?_)
            rintro u' w' hO' - hb'
            have HO' := Lib.hid hO'
            have HB' := Lib.hid (((hbl.out.alloc hbl.out.size (.cells (cellsD ⟨9, 0, []⟩).toArray 26)).alloc (hbl.out.alloc hbl.out.size _).size (.cells (cellsD ⟨9, 0, []⟩).toArray 26)).trans hb')
            have HG' := Lib.hid (hgood.out.snoc HD.out (by show 0 ≤ 31; omega))
            clear hO' hb' hck
            go_wp2
            go_roundw
            case rel => exact ⟨k + 1, L ++ [⟨9, 0, []⟩], hlt, h6, by go_num, Lib.hid (by rw [List.length_append, hL.out]; rfl), HG', HO', HB'⟩
            case measure => simp [intOf]; omega
          · skip
            have HD : Hid (Ac.okD (decide (L.length = 0)) ⟨10, 0, T⟩ = true) := Lib.hid (by rw [hL.out]; rw [show decide (k = 0) = false from by simp; omega]; simp [Ac.okD, Ac.isFirst, Ac.isText, Ac.most, HTG.out])
            go_wp2_with (at_builtin; refine wpList_append_do rfl _ _ rfl W1.heap.size (wr.heap.size + 1) (.slice Ao k co) L ⟨10, 0, T⟩ rfl ((hO.out.alloc _).alloc _) rfl (do_cells wr _ ⟨10, 0, T⟩) (by rw [hL.out]; omega) (Nat.le_trans HSZ.out (by simp; omega)) _ rfl ?_)
            rintro u' w' hO' - hb'
            have HO' := Lib.hid hO'
            have HB' := Lib.hid (((hbl.out.alloc hbl.out.size (.cells (cellsD ⟨10, 0, T⟩).toArray 26)).alloc (hbl.out.alloc hbl.out.size _).size (.cells (cellsD ⟨10, 0, T⟩).toArray 26)).trans hb')
            have HG' := Lib.hid (hgood.out.snoc HD.out (by show 0 ≤ 31; omega))
            clear hO' hb' hck
            go_wp2
            go_roundw
            case rel => exact ⟨k + 1, L ++ [⟨10, 0, T⟩], hlt, h6, by go_num, Lib.hid (by rw [List.length_append, hL.out]; rfl), HG', HO', HB'⟩
            case measure => simp [intOf]; omega
          · have h8I : (0 : Int) < (p8 : Int) := by omega
            have HD : Hid (Ac.okD (decide (L.length = 0)) ⟨6, 0, []⟩ = true) := Lib.hid (by rw [hL.out]; rw [show decide (k = 0) = false from by simp; omega]; rfl)
            go_wp2_with (at_builtin; refine wpList_append_do rfl _ _ rfl W1.heap.size (wr.heap.size + 1) (.slice Ao k co) L ⟨6, 0, []⟩ rfl ((hO.out.alloc _).alloc _) rfl (do_cells wr _ ⟨6, 0, []⟩) (by rw [hL.out]; omega) (Nat.le_trans HSZ.out (by simp; omega)) _ rfl ?_)
            rintro u' w' hO' - hb'
            have HO' := Lib.hid hO'
            have HB' := Lib.hid (((hbl.out.alloc hbl.out.size (.cells (cellsD ⟨6, 0, []⟩).toArray 26)).alloc (hbl.out.alloc hbl.out.size _).size (.cells (cellsD ⟨6, 0, []⟩).toArray 26)).trans hb')
            have HG' := Lib.hid (hgood.out.snoc HD.out (by show 0 ≤ 31; omega))
            clear hO' hb' hck
            go_wp2
            go_roundw
            case rel => exact ⟨k + 1, L ++ [⟨6, 0, []⟩], hlt, h6, by go_num, Lib.hid (by rw [List.length_append, hL.out]; rfl), HG', HO', HB'⟩
            case measure => simp [intOf]; omega
          · skip
            have HD : Hid (Ac.okD (decide (L.length = 0)) ⟨11, 0, []⟩ = true) := Lib.hid (by rw [hL.out]; rw [show decide (k = 0) = false from by simp; omega]; rfl)
            go_wp2_with (at_builtin; refine wpList_append_do rfl _ _ rfl W1.heap.size (wr.heap.size + 1) (.slice Ao k co) L ⟨11, 0, []⟩ rfl ((hO.out.alloc _).alloc _) rfl (do_cells wr _ ⟨11, 0, []⟩) (by rw [hL.out]; omega) (Nat.le_trans HSZ.out (by simp; omega)) _ rfl ?_)
            rintro u' w' hO' - hb'
            have HO' := Lib.hid hO'
            have HB' := Lib.hid (((hbl.out.alloc hbl.out.size (.cells (cellsD ⟨11, 0, []⟩).toArray 26)).alloc (hbl.out.alloc hbl.out.size _).size (.cells (cellsD ⟨11, 0, []⟩).toArray 26)).trans hb')
            have HG' := Lib.hid (hgood.out.snoc HD.out (by show 0 ≤ 31; omega))
            clear hO' hb' hck
            go_wp2
            go_roundw
            case rel => exact ⟨k + 1, L ++ [⟨11, 0, []⟩], hlt, h6, by go_num, Lib.hid (by rw [List.length_append, hL.out]; rfl), HG', HO', HB'⟩
            case measure => simp [intOf]; omega
      · have h6I : ¬ (k : Int) < 6 := by omega
        have hk1 : ((k : Int) == 0) = false := by simp; omega
        have hres := hgood.out.ok (fun e => by have := hL.out; rw [e] at this; simp at this; omega) (by rw [hL.out]; omega)
        have HRES := Lib.hid hres
        clear hres
        go_wp2
        go_ret
        exact ⟨L, _, rfl, by have := hO.out.more HB1.out.size; exact this, HRES.out.1, by rw [hL.out]; exact hk6, HRES.out.2, HB1.out.trans (hbl.out.mono HB1.out.size)⟩
    · obtain rfl : k = n1 := by omega
      rcases Nat.eq_zero_or_pos k with h0 | h0
      · subst h0
        go_wp2
        go_ret
        refine ⟨[⟨3, 0, []⟩], _, rfl, ?_, rfl, by decide, by decide, HB1.out.trans ((hbl.out.alloc hbl.out.size _).mono HB1.out.size)⟩
        exact ownD_lit wr w.heap.size [⟨3, 0, []⟩] _ 1 rfl rfl (Nat.le_trans HB1.out.size hbl.out.size) (by decide)
      · have hk1 : ((k : Int) == 0) = false := by simp; omega
        have hres := hgood.out.ok (fun e => by have := hL.out; rw [e] at this; simp at this; omega) (by rw [hL.out]; omega)
        have HRES := Lib.hid hres
        clear hres
        go_wp2
        go_ret
        exact ⟨L, _, rfl, by have := hO.out.more HB1.out.size; exact this, HRES.out.1, by rw [hL.out]; exact hk6, HRES.out.2, HB1.out.trans (hbl.out.mono HB1.out.size)⟩
end Go.Proofs.Ytdcefnjdbdnhfaa
