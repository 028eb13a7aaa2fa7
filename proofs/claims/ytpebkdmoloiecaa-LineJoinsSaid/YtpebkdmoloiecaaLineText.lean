/- The pieces of which the statements of layer 5 make texts: whatever the numbers, a row of bytes of the call's own, of no great length. -/
import Derived.Test.YtpebkdmoloiecaaTexts
import Derived.Test.YtpebkdmoloiecaaInts
import Derived.Lib.AppendStr
namespace Go.Proofs.Ytpebkdmoloiecaa
open Go.ChangeShapes Go.WideShapes Go.ChangeAt Go.RowKit

theorem strCells_str {l : List Nat} (hl : ∀ c ∈ l, c < 256) : Lib.strCells (str l) = row8 l := by
  unfold Lib.strCells row8
  rw [str_data, List.map_map]
  refine List.map_congr_left fun c hc => ?_
  have := hl c hc
  simp
  omega
theorem wpList_append_text8 {w : World} {ops : Array Oper} {rest : List Oper} {o : Oper} {a : Act} {Q : Exit → Act → World → Prop} (hgd : o.guard = none) (s x : Operand)
    (ho : o.op = .call { callee := .builtin .append, args := #[s, x], argTypes := #[22, 9] }) (base : Nat) (v : Value) (l m : List Nat) (hs : a.eval s = v) (hown : Own w base v l) (hx : a.eval x = .string (str m)) (hm : ∀ c ∈ m, c < 256)
    (hlen : l.length + m.length ≤ 70368744177664) (hbase : base ≤ w.heap.size) (r : List Nat) (hr : l ++ m = r)
    (h : ∀ v' w', Own w' base v' r → w.grownBy w' v.ownBlock → Below base w w' → wpList Try.prog ops Q rest (a.put o.dst v') w') : wpList Try.prog ops Q (o :: rest) a w := by
  subst hr
  obtain ⟨i, hi, hz0, hz1, hz2⟩ := info_parts infoU8
  refine Lib.wpList_append_own_string w hgd s x 22 9 ho base 5 i Try.underlying22 Try.underlying9 hi hz0 hz1 hz2 v l.length (row8 l) hs hown.1 (str m) hx (by rw [str_size]; unfold maxLen; omega) (by rw [str_size]; omega) hbase ?_
  intro v' w' h1 h2 _
  rw [str_size, strCells_str hm] at h1
  refine h v' w' ⟨?_, fun c hc => ?_⟩ h2 ((Below.refl _ _).grown h2 hbase fun k hk => (hown.lt k hk).1)
  · rw [List.length_append]
    unfold row8 at *
    rw [List.map_append]
    exact h1
  · rcases List.mem_append.1 hc with hc | hc
    · exact hown.2 c hc
    · exact hm c hc
/-- The pieces. -/
def lpieces : List (List Nat) := [[114, 117, 108, 101], [112, 104, 111, 110, 121], [100, 101, 102, 97, 117, 108, 116], [108, 101, 116], [58], [61], [124], [44], [59], [97], [98], [99], [100], [120, 46, 111], [115, 114, 99], [36, 118], [36, 119], [116, 101, 120, 116], [105, 110], [97, 108, 108], [117, 112, 112, 101, 114], [114, 101, 118], [116, 97, 107, 101], [48], [51], [48, 48, 55], [106, 111, 105, 110], [102, 97, 105, 108], [34, 104, 105, 34], [34, 34], [34], [35], [10], [10], [10], [65], [195, 169], [9], [108, 101, 116, 32, 118, 32, 61, 32, 97, 108, 108, 32, 59, 32, 117, 112, 112, 101, 114, 10], [114, 117, 108, 101, 32, 97, 32, 58, 32, 98, 32, 61, 32, 97, 108, 108, 10], [114, 117, 108, 101, 32, 99, 32, 100, 32, 58, 32, 115, 114, 99, 32, 124, 32, 97, 32, 61, 32, 105, 110, 32, 48, 32, 44, 32, 116, 101, 120, 116, 32, 34, 113, 34, 10], [112, 104, 111, 110, 121, 32, 97, 108, 108, 32, 58, 32, 97, 10], [100, 101, 102, 97, 117, 108, 116, 32, 97, 10]]
theorem lpiece_fits (m : Nat) (h : m < 43) : (∀ c ∈ lpieces.getD m [], c < 256) ∧ (lpieces.getD m []).length ≤ 40 := by
  have hd : ∀ m, m < 43 → (∀ c ∈ lpieces.getD m [], c < 256) ∧ (lpieces.getD m []).length ≤ 40 := by decide
  exact hd m h
theorem rowT_at (L : List (List Nat)) (k : Nat) (h : k < L.length) : (rowT L).toArray[k]? = some (.string (str (L.getD k []))) := by
  unfold rowT
  rw [List.getElem?_toArray, List.getElem?_map, List.getD_eq_getElem?_getD, List.getElem?_eq_getElem h]
  rfl
theorem and_word (a : Int) : ∃ m : Nat, m < 43 ∧ (bits .and .i64 a 65535).tmod 43 = (m : Int) := by
  have h : bits .and .i64 a 65535 = IntKind.i64.wrap ((BitVec.ofInt 64 a &&& BitVec.ofInt 64 65535).toNat : Int) := rfl
  have hx : (BitVec.ofInt 64 a &&& BitVec.ofInt 64 65535).toNat ≤ 65535 := by
    rw [BitVec.toNat_and]
    exact Nat.le_trans Nat.and_le_right (by decide)
  obtain ⟨y, hy⟩ : ∃ y : Nat, (BitVec.ofInt 64 a &&& BitVec.ofInt 64 65535).toNat = y := ⟨_, rfl⟩
  rw [hy] at h hx
  rw [IntKind.wrap_i64] at h
  have hz : bits .and .i64 a 65535 = (y : Int) := by rw [h]; omega
  refine ⟨y % 43, Nat.mod_lt _ (by decide), ?_⟩
  rw [hz, Int.tmod_eq_emod_of_nonneg (by omega)]
  omega
set_option maxRecDepth 100000 in
set_option maxHeartbeats 4000000 in
theorem text_any (v : Value) (zs : List Int) (w : World) (hz : Ints w v zs) :
    Calls Try.prog 9 #[v] w fun e w' => ∃ (T : List Nat) (u : Value), e = .returned u ∧ T.length ≤ 3000 ∧ Own w' w.heap.size u T ∧ Below w.heap.size w w' := by
  have HZ := Lib.hid hz
  obtain ⟨_, hzm, A1, c1, rfl, hc1, _⟩ := hz
  obtain ⟨n1, hn1⟩ : ∃ n, zs.length = n := ⟨_, rfl⟩
  rw [hn1] at HZ hzm hc1 ⊢
  clear hn1
  have hblk : Blk (w.alloc (.cells (rowT lpieces).toArray 9)) w.heap.size 9 (rowT lpieces).toArray := heap_alloc_new w _
  have HBLK := Lib.hid hblk
  clear hblk
  go_enter Try.func9, Try.ntmps9
  go_wp2_with fail
  go_loopw [4, 5] (fun ov i wr => ∃ (k : Nat) (T : List Nat), k ≤ 50 ∧ k ≤ n1 ∧ i = .int .i64 k ∧ T.length ≤ 41 * k ∧ Own wr (w.heap.size + 1) ov T ∧ Blk wr w.heap.size 9 (rowT lpieces).toArray ∧ Below w.heap.size w wr) (fun _ i _ => 50 - (intOf i).toNat)
  case atStart => exact ⟨0, [], by omega, by omega, rfl, by simp, own_none _ _, HBLK.out, (Below.refl _ _).alloc (Nat.le_refl _) _⟩
  case round =>
    obtain ⟨k, T, hk, hkn, rfl, hTl, hO, hB, hb⟩ := hrel
    obtain ⟨wz, rfl⟩ : ∃ wx : World, wx = wr := ⟨_, rfl⟩
    have hwz : w.heap.size + 1 ≤ wz.heap.size := hB.size
    by_cases hgo : k < n1 ∧ k < 50
    · obtain ⟨g1, g2⟩ := hgo
      have q1 : (k : Int) < (n1 : Int) := by omega
      have q2 : (k : Int) < 50 := by omega
      obtain ⟨b, off, rfl, hcz⟩ := (HZ.out.under hb).at g1
      obtain ⟨z, hze⟩ : ∃ z, zs.getD k 0 = z := ⟨_, rfl⟩
      rw [hze] at hcz
      obtain ⟨m, hm, hand⟩ := and_word z
      have hm43 : (m : Int) < 43 := by omega
      have hct : wz.cell? ⟨w.heap.size, m, none⟩ = some (.string (str (lpieces.getD m []))) := (hB.at m).trans (rowT_at lpieces m (by simpa [lpieces] using hm))
      obtain ⟨X, hX⟩ : ∃ X, lpieces.getD m [] = X := ⟨_, rfl⟩
      have hfit := lpiece_fits m hm
      rw [hX] at hct hfit
      have HX := Lib.hid hfit
      have HO := Lib.hid hO
      have HZE := Lib.hid hze
      clear hX hfit hze hO
      go_wp2_with (at_builtin; refine wpList_append_text8 rfl _ _ rfl (w.heap.size + 1) u4 T X rfl HO.out rfl HX.out.1 (by have := HX.out.2; omega) hwz _ rfl ?_)
      rintro v2 w2 hO2 hg2 hb2
      have hB2 := hB.below hb2 (Nat.lt_succ_self _)
      have hbW := hb.trans (hb2.mono (Nat.le_succ _))
      have hw2 : w.heap.size + 1 ≤ w2.heap.size := hB2.size
      obtain ⟨b', off', hbe, hcz2⟩ := (HZ.out.under hbW).at g1
      cases hbe
      rw [HZE.out] at hcz2
      have HO2 := Lib.hid hO2
      have HL : Hid ((T ++ X).length ≤ 41 * k + 40) := Lib.hid (by rw [List.length_append]; have := HX.out.2; omega)
      clear hg2 hb2 hO2 hcz hct hb hB
      by_cases hsh : 0 < bits .and .i64 (z / 65536) 3
      · go_wp2_with (at_builtin; refine wpList_append_bytes rfl _ _ rfl (w.heap.size + 1) v2 _ (T ++ X) [32] rfl (HO2.out.alloc _) rfl (bytes_one w2 32 32 _ _ rfl (by decide)) (by have := HL.out; rw [List.length_singleton]; omega) (Nat.le_trans hw2 (by simp)) _ rfl ?_)
        rintro v3 w3 ⟨hO3, -, -, hb3⟩
        have hB3 := (hB2.alloc (.cells #[.int .u8 32] 5)).below hb3 (Nat.lt_succ_self _)
        have hb4 := (hbW.alloc hbW.size (.cells #[.int .u8 32] 5)).trans (hb3.mono (Nat.le_succ _))
        have HO3 := Lib.hid hO3
        clear hO3 hb3 hcz2 hB2 hbW
        go_wp2
        go_roundw
        case rel => exact ⟨k + 1, _, by omega, by omega, by go_num, by have := HL.out; simp only [List.length_append, List.length_singleton] at this ⊢; omega, HO3.out, hB3, hb4⟩
        case measure => simp [intOf]; omega
      · go_wp2
        go_roundw
        case rel => exact ⟨k + 1, T ++ X, by omega, by omega, by go_num, by have := HL.out; omega, HO2.out, hB2, hbW⟩
        case measure => simp [intOf]; omega
    · have hstop : ((n1 : Int) ≤ (k : Int)) ∨ ((k : Int) < (n1 : Int) ∧ (50 : Int) ≤ (k : Int)) := by omega
      have HO := Lib.hid (hO.more (Nat.le_succ w.heap.size))
      have HL : Hid (T.length ≤ 3000) := Lib.hid (by omega)
      clear hgo hO
      rcases hstop with hs | ⟨hs1, hs2⟩
      all_goals
        go_wp2
        go_ret
        exact ⟨T, u4, rfl, HL.out, HO.out, hb⟩
end Go.Proofs.Ytpebkdmoloiecaa
