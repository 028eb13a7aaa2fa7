/- An action of numbers, as a plain function of its numbers. -/
import Derived.Test.YtdcefnjdbdnhfaaAct
namespace Go.Proofs.Ytdcefnjdbdnhfaa
set_option maxRecDepth 100000
open Go.ChangeShapes Go.WideShapes Go.ChangeAt Go.RowKit

def actD (first : Bool) (z : Int) : Ac.D :=
  if first then
    (if ((bits .and .i64 z 255).tmod 3).toNat = 0 then ⟨1, 0, texts6.getD ((bits .and .i64 (z / 1024) 255).tmod 6).toNat []⟩
    else if ((bits .and .i64 z 255).tmod 3).toNat = 1 then ⟨2, (bits .and .i64 (z / 1024) 3).toNat, []⟩ else ⟨3, 0, []⟩)
  else if (bits .and .i64 z 7).toNat = 0 then ⟨4, 0, []⟩
  else if (bits .and .i64 z 7).toNat = 1 then ⟨5, 0, []⟩
  else if (bits .and .i64 z 7).toNat = 2 then ⟨6, 0, []⟩
  else if (bits .and .i64 z 7).toNat = 3 then ⟨7, (bits .and .i64 (z / 1024) 31).toNat, []⟩
  else if (bits .and .i64 z 7).toNat = 4 then ⟨8, (bits .and .i64 (z / 1024) 31).toNat, []⟩
  else if (bits .and .i64 z 7).toNat = 5 then ⟨9, 0, []⟩
  else if (bits .and .i64 z 7).toNat = 6 then ⟨10, 0, texts6.getD ((bits .and .i64 (z / 1024) 255).tmod 6).toNat []⟩
  else if 0 < (bits .and .i64 (z / 256) 3).toNat then ⟨6, 0, []⟩ else ⟨11, 0, []⟩
def actL (zs : List Int) : Nat → List Ac.D
  | 0 => []
  | k + 1 => actL zs k ++ [actD (decide (k = 0)) (zs.getD k 0)]
/-- The action of numbers. -/
def actF (zs : List Int) : List Ac.D := if zs.length = 0 then [⟨3, 0, []⟩] else actL zs (min zs.length 6)
theorem actL_next {zs : List Int} {k : Nat} {L : List Ac.D} {z : Int} {d : Ac.D} (h : L = actL zs k) (hz : zs.getD k 0 = z) (hd : actD (decide (k = 0)) z = d) : L ++ [d] = actL zs (k + 1) := by
  rw [actL, hz, hd, h]
theorem actD_is {f : Bool} {z : Int} {m7 p8 s3 n3 n31 i6 : Nat} {T : List Nat} (h1 : bits .and .i64 z 7 = (m7 : Int)) (h2 : bits .and .i64 (z / 256) 3 = (p8 : Int)) (h3 : (bits .and .i64 z 255).tmod 3 = (s3 : Int)) (h4 : bits .and .i64 (z / 1024) 3 = (n3 : Int)) (h5 : bits .and .i64 (z / 1024) 31 = (n31 : Int)) (h6 : (bits .and .i64 (z / 1024) 255).tmod 6 = (i6 : Int)) (h7 : texts6.getD i6 [] = T) :
    actD f z = if f then (if s3 = 0 then ⟨1, 0, T⟩ else if s3 = 1 then ⟨2, n3, []⟩ else ⟨3, 0, []⟩) else if m7 = 0 then ⟨4, 0, []⟩ else if m7 = 1 then ⟨5, 0, []⟩ else if m7 = 2 then ⟨6, 0, []⟩ else if m7 = 3 then ⟨7, n31, []⟩ else if m7 = 4 then ⟨8, n31, []⟩ else if m7 = 5 then ⟨9, 0, []⟩ else if m7 = 6 then ⟨10, 0, T⟩ else if 0 < p8 then ⟨6, 0, []⟩ else ⟨11, 0, []⟩ := by
  unfold actD
  rw [h1, h2, h3, h4, h5, h6]
  simp only [Int.toNat_natCast, h7]
set_option maxRecDepth 100000 in
set_option maxHeartbeats 8000000 in
theorem actf_any (v : Value) (zs : List Int) (w : World) (hz : Ints w v zs) :
    Calls Try.prog 12 #[v] w fun e w' => ∃ (u : Value), e = .returned u ∧ OwnD w' w.heap.size u (actF zs) ∧ Ac.ok (actF zs) = true ∧ (actF zs).length ≤ 6 ∧ Below w.heap.size w w' := by
  have HZ := Lib.hid hz
  obtain ⟨_, hzm, A1, c1, rfl, hc1, _⟩ := hz
  obtain ⟨n1, hn1⟩ : ∃ n, zs.length = n := ⟨_, rfl⟩
  rw [hn1] at HZ hzm hc1 ⊢
  have HN1 := Lib.hid hn1
  clear hn1
  go_enter Try.func12, Try.ntmps12
  go_wp2_with fail
  generalize hW1 : World.alloc w _ = W1
  have HTX : Hid (Blk W1 w.heap.size 9 (texts6.map fun l => Value.string (str l)).toArray) := Lib.hid (by rw [← hW1]; exact heap_alloc_new w _)
  have HB1 : Hid (Below w.heap.size w W1) := Lib.hid (by rw [← hW1]; exact (Below.refl _ _).alloc (Nat.le_refl _) _)
  have HS1 : Hid (W1.heap.size = w.heap.size + 1) := Lib.hid (by rw [← hW1]; simp)
  clear hW1
  go_loopw [3, 5] (fun ov iv wr => ∃ (k : Nat) (L : List Ac.D), k ≤ n1 ∧ k ≤ 6 ∧ iv = .int .i64 (k : Int) ∧ Hid (L.length = k) ∧ Hid (L = actL zs k) ∧ Hid (GoodL L) ∧ Hid (OwnD wr W1.heap.size ov L) ∧ Hid (Below W1.heap.size W1 wr)) (fun _ iv _ => n1 - (intOf iv).toNat)
  case atStart => exact ⟨0, [], by omega, by omega, rfl, Lib.hid rfl, Lib.hid rfl, Lib.hid (fun i h => absurd h (by simp)), Lib.hid (ownD_none _ _), Lib.hid (Below.refl _ _)⟩
  case round =>
    obtain ⟨k, L, hk, hk6, rfl, hL, hLE, hgood, hO, hbl⟩ := hrel
    obtain ⟨Ao, co, hoe, hco⟩ := hO.out.parts
    subst hoe
    rw [hL.out] at hO hco ⊢
    by_cases hlt : k < n1
    · have hkI : (k : Int) < (n1 : Int) := by omega
      by_cases h6 : k < 6
      · have h6I : (k : Int) < 6 := by omega
        obtain ⟨b, off, hA1, hck⟩ := (HZ.out.under (HB1.out.trans (hbl.out.mono HB1.out.size))).at hlt
        subst hA1
        obtain ⟨z, hzz⟩ : ∃ z, zs.getD k 0 = z := ⟨_, rfl⟩
        rw [hzz] at hck
        have HZZ := Lib.hid hzz
        clear hzz
        have hbz : b < wr.heap.size := World.block_lt_of_cell? _ _ hck
        have HSZ : Hid (W1.heap.size ≤ wr.heap.size) := Lib.hid hbl.out.size
        obtain ⟨m7, hm7, hm7b⟩ := and_low z 7 (by decide)
        obtain ⟨p8, hp8, hp8b⟩ := and_low (z / 256) 3 (by decide)
        obtain ⟨r3, hr3, hr3b⟩ := and_low z 255 (by decide)
        obtain ⟨n3, hn3, hn3b⟩ := and_low (z / 1024) 3 (by decide)
        obtain ⟨n31, hn31, hn31b⟩ := and_low (z / 1024) 31 (by decide)
        obtain ⟨t255, ht255, ht255b⟩ := and_low (z / 1024) 255 (by decide)
        change bits .and .i64 z 7 = (m7 : Int) at hm7
        change bits .and .i64 (z / 256) 3 = (p8 : Int) at hp8
        change bits .and .i64 z 255 = (r3 : Int) at hr3
        change bits .and .i64 (z / 1024) 3 = (n3 : Int) at hn3
        change bits .and .i64 (z / 1024) 31 = (n31 : Int) at hn31
        change bits .and .i64 (z / 1024) 255 = (t255 : Int) at ht255
        obtain ⟨s3, hs3, hs3b⟩ : ∃ s : Nat, (r3 : Int).tmod 3 = (s : Int) ∧ s < 3 := ⟨r3 % 3, by rw [Int.tmod_eq_emod_of_nonneg (by omega)]; omega, Nat.mod_lt _ (by decide)⟩
        obtain ⟨i6, hi6, hi6b⟩ : ∃ s : Nat, (t255 : Int).tmod 6 = (s : Int) ∧ s < 6 := ⟨t255 % 6, by rw [Int.tmod_eq_emod_of_nonneg (by omega)]; omega, Nat.mod_lt _ (by decide)⟩
        obtain ⟨T, hT⟩ : ∃ T, texts6.getD i6 [] = T := ⟨_, rfl⟩
        have HTG : Hid (Ac.plainT T = true) := Lib.hid (by rw [← hT]; exact texts6_good i6 hi6b)
        have HAD := Lib.hid (fun f : Bool => actD_is (f := f) hm7 hp8 (by rw [hr3]; exact hs3) hn3 hn31 (by rw [ht255]; exact hi6) hT)
        have hTX : ∀ o, (wr.alloc o).cell? ⟨w.heap.size, i6, none⟩ = some (.string (str T)) := fun o => by
          have h1 := ((HTX.out.below hbl.out (by rw [HS1.out]; omega)).alloc o).at i6
          rw [List.getElem?_toArray, List.getElem?_map, List.getElem?_eq_getElem (by exact hi6b)] at h1
          rw [List.getD_eq_getElem?_getD, List.getElem?_eq_getElem (by exact hi6b)] at hT
          rw [h1, ← hT]
          rfl
        have hi6I : (i6 : Int) < 6 := by omega
        clear hT
        by_cases h0 : k = 0
        · subst h0
          rw [Nat.add_zero] at hck
          have : s3 = 0 ∨ s3 = 1 ∨ s3 = 2 := by omega
          rcases this with rfl | rfl | rfl
          · skip
            have HD : Hid (Ac.okD (decide (L.length = 0)) ⟨1, 0, T⟩ = true) := Lib.hid (by rw [hL.out]; rw [show decide (0 = 0) = true from rfl]; simp [Ac.okD, Ac.isFirst, Ac.isText, Ac.most, HTG.out])
            go_wp2_with (at_builtin; refine wpList_append_do rfl _ _ rfl W1.heap.size (wr.heap.size + 1) (.slice Ao 0 co) L ⟨1, 0, T⟩ rfl ((hO.out.alloc _).alloc _) rfl (do_cells wr _ ⟨1, 0, T⟩) (by rw [hL.out]; omega) (Nat.le_trans HSZ.out (by simp; omega)) _ rfl ?_)
            rintro u' w' hO' - hb'
            have HO' := Lib.hid hO'
            have HB' := Lib.hid (((hbl.out.alloc hbl.out.size (.cells (cellsD ⟨1, 0, T⟩).toArray 26)).alloc (hbl.out.alloc hbl.out.size _).size (.cells (cellsD ⟨1, 0, T⟩).toArray 26)).trans hb')
            have HG' := Lib.hid (hgood.out.snoc HD.out (by show 0 ≤ 31; omega))
            clear hO' hb' hck
            go_wp2
            go_roundw
            case rel => exact ⟨1, L ++ [⟨1, 0, T⟩], hlt, by omega, rfl, Lib.hid (by rw [List.length_append, hL.out]; rfl), Lib.hid (actL_next hLE.out HZZ.out (by rw [show decide (0 = 0) = true from rfl, HAD.out]; first | rfl | (simp; done) | (simp; omega))), HG', HO', HB'⟩
            case measure => simp [intOf]; omega
          · skip
            have HD : Hid (Ac.okD (decide (L.length = 0)) ⟨2, n3, []⟩ = true) := Lib.hid (by rw [hL.out]; rw [show decide (0 = 0) = true from rfl]; simp [Ac.okD, Ac.isFirst, Ac.isText, Ac.most, Ac.plainT]; omega)
            go_wp2_with (at_builtin; refine wpList_append_do rfl _ _ rfl W1.heap.size (wr.heap.size + 1) (.slice Ao 0 co) L ⟨2, n3, []⟩ rfl ((hO.out.alloc _).alloc _) rfl (do_cells wr _ ⟨2, n3, []⟩) (by rw [hL.out]; omega) (Nat.le_trans HSZ.out (by simp; omega)) _ rfl ?_)
            rintro u' w' hO' - hb'
            have HO' := Lib.hid hO'
            have HB' := Lib.hid (((hbl.out.alloc hbl.out.size (.cells (cellsD ⟨2, n3, []⟩).toArray 26)).alloc (hbl.out.alloc hbl.out.size _).size (.cells (cellsD ⟨2, n3, []⟩).toArray 26)).trans hb')
            have HG' := Lib.hid (hgood.out.snoc HD.out (by show n3 ≤ 31; omega))
            clear hO' hb' hck
            go_wp2
            go_roundw
            case rel => exact ⟨1, L ++ [⟨2, n3, []⟩], hlt, by omega, rfl, Lib.hid (by rw [List.length_append, hL.out]; rfl), Lib.hid (actL_next hLE.out HZZ.out (by rw [show decide (0 = 0) = true from rfl, HAD.out]; first | rfl | (simp; done) | (simp; omega))), HG', HO', HB'⟩
            case measure => simp [intOf]; omega
          · skip
            have HD : Hid (Ac.okD (decide (L.length = 0)) ⟨3, 0, []⟩ = true) := Lib.hid (by rw [hL.out]; rw [show decide (0 = 0) = true from rfl]; rfl)
            go_wp2_with (at_builtin; refine wpList_append_do rfl _ _ rfl W1.heap.size (wr.heap.size + 1) (.slice Ao 0 co) L ⟨3, 0, []⟩ rfl ((hO.out.alloc _).alloc _) rfl (do_cells wr _ ⟨3, 0, []⟩) (by rw [hL.out]; omega) (Nat.le_trans HSZ.out (by simp; omega)) _ rfl ?_)
            rintro u' w' hO' - hb'
            have HO' := Lib.hid hO'
            have HB' := Lib.hid (((hbl.out.alloc hbl.out.size (.cells (cellsD ⟨3, 0, []⟩).toArray 26)).alloc (hbl.out.alloc hbl.out.size _).size (.cells (cellsD ⟨3, 0, []⟩).toArray 26)).trans hb')
            have HG' := Lib.hid (hgood.out.snoc HD.out (by show 0 ≤ 31; omega))
            clear hO' hb' hck
            go_wp2
            go_roundw
            case rel => exact ⟨1, L ++ [⟨3, 0, []⟩], hlt, by omega, rfl, Lib.hid (by rw [List.length_append, hL.out]; rfl), Lib.hid (actL_next hLE.out HZZ.out (by rw [show decide (0 = 0) = true from rfl, HAD.out]; first | rfl | (simp; done) | (simp; omega))), HG', HO', HB'⟩
            case measure => simp [intOf]; omega
        · have h0I : ((k : Int) == 0) = false := by simp; omega
          have : m7 = 0 ∨ m7 = 1 ∨ m7 = 2 ∨ m7 = 3 ∨ m7 = 4 ∨ m7 = 5 ∨ m7 = 6 ∨ (m7 = 7 ∧ 0 < p8) ∨ (m7 = 7 ∧ p8 = 0) := by omega
          rcases this with rfl | rfl | rfl | rfl | rfl | rfl | rfl | ⟨rfl, h8⟩ | ⟨rfl, rfl⟩
          · skip
            have HD : Hid (Ac.okD (decide (L.length = 0)) ⟨4, 0, []⟩ = true) := Lib.hid (by rw [hL.out]; rw [show decide (k = 0) = false from by simp; omega]; rfl)
            go_wp2_with (at_builtin; refine wpList_append_do rfl _ _ rfl W1.heap.size (wr.heap.size + 1) (.slice Ao k co) L ⟨4, 0, []⟩ rfl ((hO.out.alloc _).alloc _) rfl (do_cells wr _ ⟨4, 0, []⟩) (by rw [hL.out]; omega) (Nat.le_trans HSZ.out (by simp; omega)) _ rfl ?_)
            rintro u' w' hO' - hb'
            have HO' := Lib.hid hO'
            have HB' := Lib.hid (((hbl.out.alloc hbl.out.size (.cells (cellsD ⟨4, 0, []⟩).toArray 26)).alloc (hbl.out.alloc hbl.out.size _).size (.cells (cellsD ⟨4, 0, []⟩).toArray 26)).trans hb')
            have HG' := Lib.hid (hgood.out.snoc HD.out (by show 0 ≤ 31; omega))
            clear hO' hb' hck
            go_wp2
            go_roundw
            case rel => exact ⟨k + 1, L ++ [⟨4, 0, []⟩], hlt, h6, by go_num, Lib.hid (by rw [List.length_append, hL.out]; rfl), Lib.hid (actL_next hLE.out HZZ.out (by rw [show decide (k = 0) = false from by simp; omega, HAD.out]; first | rfl | (simp; done) | (simp; omega))), HG', HO', HB'⟩
            case measure => simp [intOf]; omega
          · skip
            have HD : Hid (Ac.okD (decide (L.length = 0)) ⟨5, 0, []⟩ = true) := Lib.hid (by rw [hL.out]; rw [show decide (k = 0) = false from by simp; omega]; rfl)
            go_wp2_with (at_builtin; refine wpList_append_do rfl _ _ rfl W1.heap.size (wr.heap.size + 1) (.slice Ao k co) L ⟨5, 0, []⟩ rfl ((hO.out.alloc _).alloc _) rfl (do_cells wr _ ⟨5, 0, []⟩) (by rw [hL.out]; omega) (Nat.le_trans HSZ.out (by simp; omega)) _ rfl ?_)
            rintro u' w' hO' - hb'
            have HO' := Lib.hid hO'
            have HB' := Lib.hid (((hbl.out.alloc hbl.out.size (.cells (cellsD ⟨5, 0, []⟩).toArray 26)).alloc (hbl.out.alloc hbl.out.size _).size (.cells (cellsD ⟨5, 0, []⟩).toArray 26)).trans hb')
            have HG' := Lib.hid (hgood.out.snoc HD.out (by show 0 ≤ 31; omega))
            clear hO' hb' hck
            go_wp2
            go_roundw
            case rel => exact ⟨k + 1, L ++ [⟨5, 0, []⟩], hlt, h6, by go_num, Lib.hid (by rw [List.length_append, hL.out]; rfl), Lib.hid (actL_next hLE.out HZZ.out (by rw [show decide (k = 0) = false from by simp; omega, HAD.out]; first | rfl | (simp; done) | (simp; omega))), HG', HO', HB'⟩
            case measure => simp [intOf]; omega
          · skip
            have HD : Hid (Ac.okD (decide (L.length = 0)) ⟨6, 0, []⟩ = true) := Lib.hid (by rw [hL.out]; rw [show decide (k = 0) = false from by simp; omega]; rfl)
            go_wp2_with (at_builtin; refine wpList_append_do rfl _ _ rfl W1.heap.size (wr.heap.size + 1) (.slice Ao k co) L ⟨6, 0, []⟩ rfl ((hO.out.alloc _).alloc _) rfl (do_cells wr _ ⟨6, 0, []⟩) (by rw [hL.out]; omega) (Nat.le_trans HSZ.out (by simp; omega)) _ rfl ?_)
            rintro u' w' hO' - hb'
            have HO' := Lib.hid hO'
            have HB' := Lib.hid (((hbl.out.alloc hbl.out.size (.cells (cellsD ⟨6, 0, []⟩).toArray 26)).alloc (hbl.out.alloc hbl.out.size _).size (.cells (cellsD ⟨6, 0, []⟩).toArray 26)).trans hb')
            have HG' := Lib.hid (hgood.out.snoc HD.out (by show 0 ≤ 31; omega))
            clear hO' hb' hck
            go_wp2
            go_roundw
            case rel => exact ⟨k + 1, L ++ [⟨6, 0, []⟩], hlt, h6, by go_num, Lib.hid (by rw [List.length_append, hL.out]; rfl), Lib.hid (actL_next hLE.out HZZ.out (by rw [show decide (k = 0) = false from by simp; omega, HAD.out]; first | rfl | (simp; done) | (simp; omega))), HG', HO', HB'⟩
            case measure => simp [intOf]; omega
          · skip
            have HD : Hid (Ac.okD (decide (L.length = 0)) ⟨7, n31, []⟩ = true) := Lib.hid (by rw [hL.out]; rw [show decide (k = 0) = false from by simp; omega]; simp [Ac.okD, Ac.isFirst, Ac.isText, Ac.most, Ac.plainT]; omega)
            go_wp2_with (at_builtin; refine wpList_append_do rfl _ _ rfl W1.heap.size (wr.heap.size + 1) (.slice Ao k co) L ⟨7, n31, []⟩ rfl ((hO.out.alloc _).alloc _) rfl (do_cells wr _ ⟨7, n31, []⟩) (by rw [hL.out]; omega) (Nat.le_trans HSZ.out (by simp; omega)) _ rfl ?_)
            rintro u' w' hO' - hb'
            have HO' := Lib.hid hO'
            have HB' := Lib.hid (((hbl.out.alloc hbl.out.size (.cells (cellsD ⟨7, n31, []⟩).toArray 26)).alloc (hbl.out.alloc hbl.out.size _).size (.cells (cellsD ⟨7, n31, []⟩).toArray 26)).trans hb')
            have HG' := Lib.hid (hgood.out.snoc HD.out (by show n31 ≤ 31; omega))
            clear hO' hb' hck
            go_wp2
            go_roundw
            case rel => exact ⟨k + 1, L ++ [⟨7, n31, []⟩], hlt, h6, by go_num, Lib.hid (by rw [List.length_append, hL.out]; rfl), Lib.hid (actL_next hLE.out HZZ.out (by rw [show decide (k = 0) = false from by simp; omega, HAD.out]; first | rfl | (simp; done) | (simp; omega))), HG', HO', HB'⟩
            case measure => simp [intOf]; omega
          · skip
            have HD : Hid (Ac.okD (decide (L.length = 0)) ⟨8, n31, []⟩ = true) := Lib.hid (by rw [hL.out]; rw [show decide (k = 0) = false from by simp; omega]; simp [Ac.okD, Ac.isFirst, Ac.isText, Ac.most, Ac.plainT]; omega)
            go_wp2_with (at_builtin; refine wpList_append_do rfl _ _ rfl W1.heap.size (wr.heap.size + 1) (.slice Ao k co) L ⟨8, n31, []⟩ rfl ((hO.out.alloc _).alloc _) rfl (do_cells wr _ ⟨8, n31, []⟩) (by rw [hL.out]; omega) (Nat.le_trans HSZ.out (by simp; omega)) _ rfl ?_)
            rintro u' w' hO' - hb'
            have HO' := Lib.hid hO'
            have HB' := Lib.hid (((hbl.out.alloc hbl.out.size (.cells (cellsD ⟨8, n31, []⟩).toArray 26)).alloc (hbl.out.alloc hbl.out.size _).size (.cells (cellsD ⟨8, n31, []⟩).toArray 26)).trans hb')
            have HG' := Lib.hid (hgood.out.snoc HD.out (by show n31 ≤ 31; omega))
            clear hO' hb' hck
            go_wp2
            go_roundw
            case rel => exact ⟨k + 1, L ++ [⟨8, n31, []⟩], hlt, h6, by go_num, Lib.hid (by rw [List.length_append, hL.out]; rfl), Lib.hid (actL_next hLE.out HZZ.out (by rw [show decide (k = 0) = false from by simp; omega, HAD.out]; first | rfl | (simp; done) | (simp; omega))), HG', HO', HB'⟩
            case measure => simp [intOf]; omega
          · skip
            have HD : Hid (Ac.okD (decide (L.length = 0)) ⟨9, 0, []⟩ = true) := Lib.hid (by rw [hL.out]; rw [show decide (k = 0) = false from by simp; omega]; rfl)
            go_wp2_with (at_builtin; refine wpList_append_do rfl _ _ rfl W1.heap.size (wr.heap.size + 1) (.slice Ao k co) L ⟨9, 0, []⟩ rfl ((hO.out.alloc _).alloc _) rfl (do_cells wr _ ⟨9, 0, []⟩) (by rw [hL.out]; omega) (Nat.le_trans HSZ.out (by simp; omega)) _ rfl ?_)
            rintro u' w' hO' - hb'
            have HO' := Lib.hid hO'
            have HB' := Lib.hid (((hbl.out.alloc hbl.out.size (.cells (cellsD ⟨9, 0, []⟩).toArray 26)).alloc (hbl.out.alloc hbl.out.size _).size (.cells (cellsD ⟨9, 0, []⟩).toArray 26)).trans hb')
            have HG' := Lib.hid (hgood.out.snoc HD.out (by show 0 ≤ 31; omega))
            clear hO' hb' hck
            go_wp2
            go_roundw
            case rel => exact ⟨k + 1, L ++ [⟨9, 0, []⟩], hlt, h6, by go_num, Lib.hid (by rw [List.length_append, hL.out]; rfl), Lib.hid (actL_next hLE.out HZZ.out (by rw [show decide (k = 0) = false from by simp; omega, HAD.out]; first | rfl | (simp; done) | (simp; omega))), HG', HO', HB'⟩
            case measure => simp [intOf]; omega
          · skip
            have HD : Hid (Ac.okD (decide (L.length = 0)) ⟨10, 0, T⟩ = true) := Lib.hid (by rw [hL.out]; rw [show decide (k = 0) = false from by simp; omega]; simp [Ac.okD, Ac.isFirst, Ac.isText, Ac.most, HTG.out])
            go_wp2_with (at_builtin; refine wpList_append_do rfl _ _ rfl W1.heap.size (wr.heap.size + 1) (.slice Ao k co) L ⟨10, 0, T⟩ rfl ((hO.out.alloc _).alloc _) rfl (do_cells wr _ ⟨10, 0, T⟩) (by rw [hL.out]; omega) (Nat.le_trans HSZ.out (by simp; omega)) _ rfl ?_)
            rintro u' w' hO' - hb'
            have HO' := Lib.hid hO'
            have HB' := Lib.hid (((hbl.out.alloc hbl.out.size (.cells (cellsD ⟨10, 0, T⟩).toArray 26)).alloc (hbl.out.alloc hbl.out.size _).size (.cells (cellsD ⟨10, 0, T⟩).toArray 26)).trans hb')
            have HG' := Lib.hid (hgood.out.snoc HD.out (by show 0 ≤ 31; omega))
            clear hO' hb' hck
            go_wp2
            go_roundw
            case rel => exact ⟨k + 1, L ++ [⟨10, 0, T⟩], hlt, h6, by go_num, Lib.hid (by rw [List.length_append, hL.out]; rfl), Lib.hid (actL_next hLE.out HZZ.out (by rw [show decide (k = 0) = false from by simp; omega, HAD.out]; first | rfl | (simp; done) | (simp; omega))), HG', HO', HB'⟩
            case measure => simp [intOf]; omega
          · have h8I : (0 : Int) < (p8 : Int) := by omega
            have HD : Hid (Ac.okD (decide (L.length = 0)) ⟨6, 0, []⟩ = true) := Lib.hid (by rw [hL.out]; rw [show decide (k = 0) = false from by simp; omega]; rfl)
            go_wp2_with (at_builtin; refine wpList_append_do rfl _ _ rfl W1.heap.size (wr.heap.size + 1) (.slice Ao k co) L ⟨6, 0, []⟩ rfl ((hO.out.alloc _).alloc _) rfl (do_cells wr _ ⟨6, 0, []⟩) (by rw [hL.out]; omega) (Nat.le_trans HSZ.out (by simp; omega)) _ rfl ?_)
            rintro u' w' hO' - hb'
            have HO' := Lib.hid hO'
            have HB' := Lib.hid (((hbl.out.alloc hbl.out.size (.cells (cellsD ⟨6, 0, []⟩).toArray 26)).alloc (hbl.out.alloc hbl.out.size _).size (.cells (cellsD ⟨6, 0, []⟩).toArray 26)).trans hb')
            have HG' := Lib.hid (hgood.out.snoc HD.out (by show 0 ≤ 31; omega))
            clear hO' hb' hck
            go_wp2
            go_roundw
            case rel => exact ⟨k + 1, L ++ [⟨6, 0, []⟩], hlt, h6, by go_num, Lib.hid (by rw [List.length_append, hL.out]; rfl), Lib.hid (actL_next hLE.out HZZ.out (by rw [show decide (k = 0) = false from by simp; omega, HAD.out]; first | rfl | (simp; done) | (simp; omega))), HG', HO', HB'⟩
            case measure => simp [intOf]; omega
          · skip
            have HD : Hid (Ac.okD (decide (L.length = 0)) ⟨11, 0, []⟩ = true) := Lib.hid (by rw [hL.out]; rw [show decide (k = 0) = false from by simp; omega]; rfl)
            go_wp2_with (at_builtin; refine wpList_append_do rfl _ _ rfl W1.heap.size (wr.heap.size + 1) (.slice Ao k co) L ⟨11, 0, []⟩ rfl ((hO.out.alloc _).alloc _) rfl (do_cells wr _ ⟨11, 0, []⟩) (by rw [hL.out]; omega) (Nat.le_trans HSZ.out (by simp; omega)) _ rfl ?_)
            rintro u' w' hO' - hb'
            have HO' := Lib.hid hO'
            have HB' := Lib.hid (((hbl.out.alloc hbl.out.size (.cells (cellsD ⟨11, 0, []⟩).toArray 26)).alloc (hbl.out.alloc hbl.out.size _).size (.cells (cellsD ⟨11, 0, []⟩).toArray 26)).trans hb')
            have HG' := Lib.hid (hgood.out.snoc HD.out (by show 0 ≤ 31; omega))
            clear hO' hb' hck
            go_wp2
            go_roundw
            case rel => exact ⟨k + 1, L ++ [⟨11, 0, []⟩], hlt, h6, by go_num, Lib.hid (by rw [List.length_append, hL.out]; rfl), Lib.hid (actL_next hLE.out HZZ.out (by rw [show decide (k = 0) = false from by simp; omega, HAD.out]; first | rfl | (simp; done) | (simp; omega))), HG', HO', HB'⟩
            case measure => simp [intOf]; omega
      · have h6I : ¬ (k : Int) < 6 := by omega
        have hk1 : ((k : Int) == 0) = false := by simp; omega
        have HFE : Hid (actF zs = L) := Lib.hid (by unfold actF; rw [HN1.out, if_neg (by omega), hLE.out]; congr 1; omega)
        have hres := hgood.out.ok (fun e => by have := hL.out; rw [e] at this; simp at this; omega) (by rw [hL.out]; omega)
        have HRES := Lib.hid hres
        clear hres
        go_wp2
        go_ret
        exact ⟨_, rfl, by have := hO.out.more HB1.out.size; rw [HFE.out]; exact this, by rw [HFE.out]; exact HRES.out.1, by rw [HFE.out, hL.out]; exact hk6, HB1.out.trans (hbl.out.mono HB1.out.size)⟩
    · obtain rfl : k = n1 := by omega
      rcases Nat.eq_zero_or_pos k with h0 | h0
      · subst h0
        go_wp2
        go_ret
        have HFE : Hid (actF zs = [⟨3, 0, []⟩]) := Lib.hid (by unfold actF; rw [HN1.out, if_pos rfl])
        rw [HFE.out]
        refine ⟨_, rfl, ?_, rfl, by decide, HB1.out.trans ((hbl.out.alloc hbl.out.size _).mono HB1.out.size)⟩
        exact ownD_lit wr w.heap.size [⟨3, 0, []⟩] _ 1 rfl rfl (Nat.le_trans HB1.out.size hbl.out.size) (by decide)
      · have hk1 : ((k : Int) == 0) = false := by simp; omega
        have HFE : Hid (actF zs = L) := Lib.hid (by unfold actF; rw [HN1.out, if_neg (by omega), hLE.out]; congr 1; omega)
        have hres := hgood.out.ok (fun e => by have := hL.out; rw [e] at this; simp at this; omega) (by rw [hL.out]; omega)
        have HRES := Lib.hid hres
        clear hres
        go_wp2
        go_ret
        exact ⟨_, rfl, by have := hO.out.more HB1.out.size; rw [HFE.out]; exact this, by rw [HFE.out]; exact HRES.out.1, by rw [HFE.out, hL.out]; exact hk6, HB1.out.trans (hbl.out.mono HB1.out.size)⟩
end Go.Proofs.Ytdcefnjdbdnhfaa
