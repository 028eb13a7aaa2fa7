/- Whether a text is a file's name, and the folder that it lies in: the program's own, and the library's cut at a slash. -/
import Derived.Test.YtlfgadcfjjjbfaaShelf
import Derived.Test.YtlfgadcfjjjbfaaSimMath
import Derived.Test.YtlfgadcfjjjbfaaText
import Derived.Lib.IndexLaws
import Derived.Lib.CutLaws
import Derived.BigRegion
import Derived.Deep.RegionHeld3
import Derived.Deep.RegionWith
namespace Go.Proofs.Ytlfgadcfjjjbfaa
set_option maxRecDepth 100000
open Go.ChangeShapes Go.WideShapes Go.ChangeAt Go.RowKit

theorem sbelow_drewN (w : World) (n : Nat) : Below w.heap.size w (w.drewN n) := ⟨rfl, rfl, rfl, Nat.le_refl _, fun _ _ => rfl⟩
theorem idx_is (l : List Nat) (hl : ∀ c ∈ l, c < 256) :
    (47 ∉ l ∧ Lib.indexByte (str l).data.toList 47 = -1) ∨ ∃ k : Nat, k < l.length ∧ l.getD k 0 = 47 ∧ (∀ j, j < k → l.getD j 0 ≠ 47) ∧ Lib.indexByte (str l).data.toList 47 = (k : Int) := by
  have hb : ∀ k, (str l).data.toList[k]? = (l[k]?).map UInt8.ofNat := fun k => by rw [str_data, List.getElem?_map]
  have back : ∀ j, j < l.length → (l.getD j 0 = 47 ↔ (str l).data.toList[j]? = some 47) := fun j hj => by
    rw [hb, List.getD_eq_getElem?_getD, List.getElem?_eq_getElem hj]
    have := hl _ (List.getElem_mem hj)
    constructor
    · intro e
      rw [show l[j] = 47 from e]
      rfl
    · intro e
      have := congrArg UInt8.toNat (Option.some.inj e)
      simp at this
      show l[j] = 47
      omega
  rcases Lib.indexB_cases (str l) ⟨#[47]⟩ with h | ⟨k, h, hr⟩
  · have h1 : Lib.index (str l).data.toList [47] = -1 := h
    rw [Lib.index_one] at h1
    refine .inl ⟨fun hm => ?_, h1⟩
    obtain ⟨j, hj, e⟩ := List.getElem_of_mem hm
    refine Lib.indexByte_none h1 j ?_
    rw [hb, List.getElem?_eq_getElem hj, e]
    rfl
  · have h1 : Lib.index (str l).data.toList [47] = (k : Nat) := h
    rw [Lib.index_one] at h1
    obtain ⟨h2, h3⟩ := Lib.indexByte_some h1
    have hk : k < l.length := by
      rw [str_size] at hr
      have : (⟨#[47]⟩ : ByteArray).size = 1 := rfl
      omega
    exact .inr ⟨k, hk, (back k hk).2 h2, fun j hj e => h3 j hj ((back j (by omega)).1 e), h1⟩
theorem folder_at {l : List Nat} {k : Nat} (hk : k < l.length) (hx : l.getD k 0 = 47) (hall : ∀ j, j < k → l.getD j 0 ≠ 47) : Sf.folder l = l.take k := by
  have e : l = l.take k ++ 47 :: l.drop (k + 1) := by
    conv => lhs; rw [← List.take_append_drop k l, List.drop_eq_getElem_cons hk]
    rw [List.getD_eq_getElem?_getD, List.getElem?_eq_getElem hk] at hx
    rw [show l[k] = 47 from hx]
  have ha : ∀ c ∈ l.take k, (decide (c ≠ 47)) = true := fun c hc => by
    obtain ⟨j, hj, rfl⟩ := List.getElem_of_mem hc
    rw [List.length_take] at hj
    have := hall j (by omega)
    rw [List.getD_eq_getElem?_getD, List.getElem?_eq_getElem (by omega)] at this
    rw [List.getElem_take]
    simpa using this
  have hm : 47 ∈ l := by rw [e]; simp
  unfold Sf.folder
  rw [if_pos hm]
  conv => lhs; rw [e]
  rw [List.takeWhile_append_of_pos ha]
  simp
theorem folder_no {l : List Nat} (h : 47 ∉ l) : Sf.folder l = [] := by unfold Sf.folder; rw [if_neg h]
/-- Where a text is cut at a slash. -/
def CutIs (l A B : List Nat) (q : Bool) : Prop := (47 ∉ l ∧ l = A ∧ B = [] ∧ q = false) ∨ ∃ k, k < l.length ∧ l.getD k 0 = 47 ∧ (∀ j, j < k → l.getD j 0 ≠ 47) ∧ A = l.take k ∧ B = l.drop (k + 1) ∧ q = true
set_option maxHeartbeats 2000000 in
theorem slcut_any (l : List Nat) (w : World) (hl : ∀ c ∈ l, c < 256) (hm : l.length ≤ 1073741824) :
    Calls Try.prog 53 #[.string (str l), .string ⟨#[47]⟩] w fun e w' => (∃ A B q, CutIs l A B q ∧ e = .returned (.tuple #[.string (str A), .string (str B), .bool q])) ∧ Below w.heap.size w w' := by
  have hi := Try.stringslite_Index_one (str l) 47
  have hsz := str_size l
  rcases idx_is l hl with ⟨hno, e⟩ | ⟨k, hk, hx, hall, e⟩
  · rw [e] at hi
    have HI := Lib.hid hi
    have HC := Lib.hid (show CutIs l l [] false from .inl ⟨hno, rfl, rfl, rfl⟩)
    clear hi hno e hl hm hsz
    go_enter Try.func53, Try.ntmps53
    go_wp2_with fail
    refine (HI.out w).mono ?_
    rintro e w' ⟨rfl, rfl⟩
    go_wp2
    go_ret3
    exact ⟨⟨l, [], false, HC.out, rfl⟩, Below.refl _ _⟩
  · rw [e] at hi
    have HI := Lib.hid hi
    have HC := Lib.hid (show CutIs l (l.take k) (l.drop (k + 1)) true from .inr ⟨k, hk, hx, hall, rfl, rfl, rfl⟩)
    have hp1 := str_part l 0 k
    have hp2 := str_part l (k + 1) l.length
    rw [show (l.drop 0).take (k - 0) = l.take k from by simp] at hp1
    rw [show (l.drop (k + 1)).take (l.length - (k + 1)) = l.drop (k + 1) from List.take_of_length_le (by rw [List.length_drop]; omega)] at hp2
    have h1 : k + 1 ≤ l.length := hk
    obtain ⟨n, hn⟩ : ∃ n, l.length = n := ⟨_, rfl⟩
    rw [hn] at hsz hp2 hm h1
    clear hi hx hall e hl hn hk
    go_enter Try.func53, Try.ntmps53
    go_wp2_with fail
    refine (HI.out w).mono ?_
    rintro e w' ⟨rfl, rfl⟩
    go_wp2_with fail
    go_region
    go_wp2
    go_ret3
    exact ⟨⟨_, _, _, HC.out, rfl⟩, ⟨rfl, rfl, rfl, Nat.le_refl _, fun _ _ => rfl⟩⟩

set_option maxHeartbeats 2000000 in
theorem scut_any (l : List Nat) (w : World) (hl : ∀ c ∈ l, c < 256) (hm : l.length ≤ 1073741824) :
    Calls Try.prog 49 #[.string (str l), .string ⟨#[47]⟩] w fun e w' => (∃ A B q, CutIs l A B q ∧ e = .returned (.tuple #[.string (str A), .string (str B), .bool q])) ∧ Below w.heap.size w w' := by
  have HI := Lib.hid (slcut_any l · hl hm)
  clear hl hm
  go_enter Try.func49, Try.ntmps49
  go_wp2_with fail
  refine (HI.out w).mono ?_
  rintro e w' ⟨⟨A, B, q, HC, rfl⟩, hb⟩
  have HC := Lib.hid HC
  go_wp2
  go_ret3
  exact ⟨⟨A, B, q, HC.out, rfl⟩, hb⟩

set_option maxRecDepth 100000 in
set_option maxHeartbeats 2000000 in
theorem smay_any (x : Nat) (w : World) :
    Calls Try.prog 65 #[.int .u8 x] w fun e w' => e = .returned (.bool (Nm.okc x)) ∧ w = w' := by
  go_enter Try.func65, Try.ntmps65
  rcases Nm.okc_split x with ⟨ho, hc⟩ | ⟨ho, hc⟩
  · have HO := Lib.hid ho
    clear ho
    have hc' : ((97 : Int) ≤ (x : Int) ∧ (x : Int) ≤ 122) ∨ ((x : Int) < 97 ∧ (48 : Int) ≤ (x : Int) ∧ (x : Int) ≤ 57) ∨ x = 46 ∨ x = 45 ∨ x = 95 := by omega
    clear hc
    rcases hc' with ⟨c1, c2⟩ | ⟨c1, c2, c3⟩ | rfl | rfl | rfl
    all_goals
      go_wp2
      go_ret
      exact ⟨by rw [HO.out]; rfl, rfl⟩
  · have HO := Lib.hid ho
    clear ho
    have hc' : ((x : Int) < 45) ∨ x = 47 ∨ ((57 : Int) < (x : Int) ∧ (x : Int) < 95) ∨ x = 96 ∨ (122 : Int) < (x : Int) := by omega
    clear hc
    rcases hc' with c1 | rfl | ⟨c1, c2⟩ | rfl | c1
    all_goals
      go_wp2
      go_ret
      exact ⟨by rw [HO.out]; first | rfl | (simp; omega), rfl⟩

set_option maxRecDepth 100000 in
set_option maxHeartbeats 2000000 in
theorem sok_any (l : List Nat) (w : World) (hl : ∀ c ∈ l, c < 256) (hm : l.length ≤ 1073741824) :
    Calls Try.prog 52 #[.string (str l)] w fun e w' => e = .returned (.bool (Nm.ok l)) ∧ w = w' := by
  have hsz := str_size l
  obtain ⟨n, hn⟩ : ∃ n, l.length = n := ⟨_, rfl⟩
  rw [hn] at hm hsz
  have HN := Lib.hid hn
  have HG := Lib.hid (fun k h => str_get hl k h)
  clear hn hl
  obtain ⟨s, hs⟩ : ∃ s, str l = s := ⟨_, rfl⟩
  rw [hs] at hsz HG ⊢
  clear hs
  go_enter Try.func52, Try.ntmps52
  have hnc : (n : Int) < 1 ∨ ((1 : Int) ≤ (n : Int) ∧ (16 : Int) < (n : Int)) ∨ ((1 : Int) ≤ (n : Int) ∧ (n : Int) ≤ 16) := by omega
  have HW : Hid ((∀ j, j < n → Nm.okc (l.getD j 0) = true) → Nm.ok l = (decide (1 ≤ n) && decide (n ≤ 16))) := Lib.hid fun h => by
    rw [Nm.ok_of (Nm.all_of fun j hj => h j (by rw [HN.out] at hj; exact hj)), HN.out]
  have HZ : Hid (n < 1 ∨ 16 < n → Nm.ok l = false) := Lib.hid fun h => by
    unfold Nm.ok
    rw [HN.out]
    rcases h with h | h
    · rw [decide_eq_false (show ¬ 1 ≤ n by omega)]; simp
    · rw [decide_eq_false (show ¬ n ≤ 16 by omega)]; simp
  rcases hnc with c1 | ⟨c1, c2⟩ | ⟨c1, c2⟩
  · have HY := Lib.hid (HZ.out (.inl (by omega)))
    go_wp2
    go_ret
    exact ⟨by rw [HY.out]; rfl, rfl⟩
  · have HY := Lib.hid (HZ.out (.inr (by omega)))
    go_wp2
    go_ret
    exact ⟨by rw [HY.out]; rfl, rfl⟩
  · go_wp2_with fail
    go_loop [3, 14] (fun c i => ∃ k : Nat, k ≤ n ∧ i = .int .i64 k ∧ Hid (∀ j, j < k → Nm.okc (l.getD j 0) = true)) (fun _ i => n - (intOf i).toNat)
    case atStart => exact ⟨0, by omega, rfl, Lib.hid (by omega)⟩
    case round =>
      obtain ⟨k, hk, rfl, hall⟩ := hrel
      by_cases hlt : k < n
      · have hlt' : (k : Int) < (n : Int) := by omega
        have hks : k < s.size := by rw [hsz]; exact hlt
        obtain ⟨x, hx, HX⟩ : ∃ x, (s[k]'hks).toNat = x ∧ Hid (l.getD k 0 = x) := ⟨_, rfl, Lib.hid (HG.out k hks).symm⟩
        have hnext : Nm.okc x = true → ∀ j, j < k + 1 → Nm.okc (l.getD j 0) = true := fun h j hj => by
          rcases Nat.lt_or_ge j k with h1 | h1
          · exact hall.out j h1
          · rw [show j = k from by omega, HX.out]; exact h
        have HNX := Lib.hid hnext
        clear hnext
        go_wp2_with fail
        refine (smay_any x w).mono ?_
        rintro e w' ⟨rfl, rfl⟩
        rcases ho : Nm.okc x with _ | _
        · have HV := Lib.hid (Nm.ok_not (l := l) (k := k) (by rw [HN.out]; exact hlt) (by rw [HX.out]; exact ho))
          clear ho
          go_wp2
          go_ret
          exact ⟨by rw [HV.out]; rfl, rfl⟩
        · have HO := Lib.hid (HNX.out ho)
          clear ho
          go_wp2
          go_round
          case rel => exact ⟨k + 1, by omega, by go_num, HO⟩
          case measure => simp [intOf]; omega
      · obtain rfl : k = n := by omega
        have HY : Hid (Nm.ok l = true) := Lib.hid (by rw [HW.out hall.out, decide_eq_true (show 1 ≤ k by omega), decide_eq_true (show k ≤ 16 by omega)]; rfl)
        go_wp2
        go_ret
        exact ⟨by rw [HY.out]; rfl, rfl⟩


set_option maxHeartbeats 2000000 in
theorem sfile_any (l : List Nat) (w : World) (hl : ∀ c ∈ l, c < 256) (hm : l.length ≤ 1073741824) :
    Calls Try.prog 47 #[.string (str l)] w fun e w' => e = .returned (.bool (Nm.file l)) ∧ Below w.heap.size w w' := by
  have HI := Lib.hid (scut_any l · hl hm)
  have HL := Lib.hid (And.intro hl hm)
  clear hl hm
  go_enter Try.func47, Try.ntmps47
  go_wp2_with fail
  refine (HI.out w).mono ?_
  rintro e w' ⟨⟨A, B, q, ⟨hno, rfl, rfl, rfl⟩ | ⟨k, hk, hx, hall, rfl, rfl, rfl⟩, rfl⟩, hb⟩
  · have HW := Lib.hid (show Nm.file l = Nm.ok l by simp [Nm.file, hno])
    have HB := Lib.hid hb
    clear hno hb HI
    go_wp2_with fail
    refine (sok_any l _ HL.out.1 HL.out.2).mono ?_
    rintro e w2 ⟨rfl, rfl⟩
    go_wp2
    go_ret
    exact ⟨by rw [HW.out]; rfl, HB.out⟩
  · have HW := Lib.hid (Nm.file_at hk hx hall)
    have HL1 := Lib.hid (show (∀ c ∈ l.take k, c < 256) ∧ (l.take k).length ≤ 1073741824 from ⟨fun c hc => HL.out.1 c (List.mem_of_mem_take hc), by have := HL.out.2; rw [List.length_take]; omega⟩)
    have HL2 := Lib.hid (show (∀ c ∈ l.drop (k + 1), c < 256) ∧ (l.drop (k + 1)).length ≤ 1073741824 from ⟨fun c hc => HL.out.1 c (List.mem_of_mem_drop hc), by have := HL.out.2; rw [List.length_drop]; omega⟩)
    have HB := Lib.hid hb
    clear hk hx hall hb HI
    obtain ⟨A, hA⟩ : ∃ A, l.take k = A := ⟨_, rfl⟩
    obtain ⟨B, hB⟩ : ∃ B, l.drop (k + 1) = B := ⟨_, rfl⟩
    rw [hA] at HW HL1 ⊢
    rw [hB] at HW HL2 ⊢
    clear hA hB
    go_wp2_with fail
    refine (sok_any A _ HL1.out.1 HL1.out.2).mono ?_
    rintro e w2 ⟨rfl, rfl⟩
    rcases ha : Nm.ok A with _ | _
    · have HV : Hid (Nm.file l = false) := Lib.hid (by rw [HW.out, ha]; rfl)
      clear ha
      go_wp2
      go_ret
      exact ⟨by rw [HV.out]; rfl, HB.out⟩
    · have HV : Hid (Nm.file l = Nm.ok B) := Lib.hid (by rw [HW.out, ha]; rfl)
      clear ha
      go_wp2_with fail
      refine (sok_any B _ HL2.out.1 HL2.out.2).mono ?_
      rintro e w3 ⟨rfl, rfl⟩
      go_wp2
      go_ret
      exact ⟨by rw [HV.out]; rfl, HB.out⟩
set_option maxHeartbeats 2000000 in
theorem sfolder_any (l : List Nat) (w : World) (hl : ∀ c ∈ l, c < 256) (hm : l.length ≤ 1073741824) :
    Calls Try.prog 45 #[.string (str l)] w fun e w' => e = .returned (.string (str (Sf.folder l))) ∧ Below w.heap.size w w' := by
  have HI := Lib.hid (scut_any l · hl hm)
  clear hl hm
  go_enter Try.func45, Try.ntmps45
  go_wp2_with fail
  refine (HI.out w).mono ?_
  rintro e w' ⟨⟨A, B, q, ⟨hno, rfl, rfl, rfl⟩ | ⟨k, hk, hx, hall, rfl, rfl, rfl⟩, rfl⟩, hb⟩
  · have HW := Lib.hid (folder_no hno)
    have HB := Lib.hid hb
    clear hno hb HI
    go_wp2
    go_ret
    exact ⟨by rw [HW.out]; rfl, HB.out⟩
  · have HW := Lib.hid (folder_at hk hx hall)
    have HB := Lib.hid hb
    clear hk hx hall hb HI
    go_wp2
    go_ret
    exact ⟨by rw [HW.out]; rfl, HB.out⟩
end Go.Proofs.Ytlfgadcfjjjbfaa
