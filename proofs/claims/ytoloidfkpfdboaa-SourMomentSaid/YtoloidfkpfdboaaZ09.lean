/- Whether a text is a file's name, and the folder that it lies in: the program's own, and the library's cut at a slash. -/
import Derived.Test.YtoloidfkpfdboaaShelf
import Derived.Test.YtoloidfkpfdboaaZ00
import Derived.Test.YtoloidfkpfdboaaZ03
import Derived.Lib.IndexLaws
import Derived.Lib.CutLaws
import Derived.BigRegion
import Derived.Deep.RegionHeld3
import Derived.Deep.RegionWith
import Derived.Test.YtoloidfkpfdboaaZSimWrite
namespace Go.Proofs.Ytoloidfkpfdboaa
set_option maxRecDepth 100000
open Go.ChangeShapes Go.WideShapes Go.ChangeAt Go.RowKit

theorem sbelow_drewN (w : World) (n : Nat) : Below w.heap.size w (w.drewN n) := ⟨rfl, rfl, rfl, Nat.le_refl _, fun _ _ => rfl⟩
theorem idx_is (l : List Nat) (hl : ∀ c ∈ l, c < 256) :
    (47 ∉ l ∧ Lib.indexByte (str l).data.toList 47 = -1) ∨ ∃ k : Nat, k < l.length ∧ l.getD k 0 = 47 ∧ (∀ j, j < k → l.getD j 0 ≠ 47) ∧ Lib.indexByte (str l).data.toList 47 = (k : Int) := by
  have hb : ∀ k, (str l).data.toList[k]? = (l[k]?).map UInt8.ofNat := fun k => by rw [str_data, List.getElem?_map]
  have back : ∀ j, j < l.length → (l.getD j 0 = 47 ↔ (str l).data.toList[j]? = some 47) := fun j hj => by
    rw [hb, List.getD_eq_getElem?_getD, List.getElem?_eq_getElem hj]
    have := hl _ (List.getElem_mem hj)
    constructor
    · intro e
      rw [show l[j] = 47 from e]
      rfl
    · intro e
      have := congrArg UInt8.toNat (Option.some.inj e)
      simp at this
      show l[j] = 47
      omega
  rcases Lib.indexB_cases (str l) ⟨#[47]⟩ with h | ⟨k, h, hr⟩
  · have h1 : Lib.index (str l).data.toList [47] = -1 := h
    rw [Lib.index_one] at h1
    refine .inl ⟨fun hm => ?_, h1⟩
    obtain ⟨j, hj, e⟩ := List.getElem_of_mem hm
    refine Lib.indexByte_none h1 j ?_
    rw [hb, List.getElem?_eq_getElem hj, e]
    rfl
  · have h1 : Lib.index (str l).data.toList [47] = (k : Nat) := h
    rw [Lib.index_one] at h1
    obtain ⟨h2, h3⟩ := Lib.indexByte_some h1
    have hk : k < l.length := by
      rw [str_size] at hr
      have : (⟨#[47]⟩ : ByteArray).size = 1 := rfl
      omega
    exact .inr ⟨k, hk, (back k hk).2 h2, fun j hj e => h3 j hj ((back j (by omega)).1 e), h1⟩
theorem folder_at {l : List Nat} {k : Nat} (hk : k < l.length) (hx : l.getD k 0 = 47) (hall : ∀ j, j < k → l.getD j 0 ≠ 47) : Sf.folder l = l.take k := by
  have e : l = l.take k ++ 47 :: l.drop (k + 1) := by
    conv => lhs; rw [← List.take_append_drop k l, List.drop_eq_getElem_cons hk]
    rw [List.getD_eq_getElem?_getD, List.getElem?_eq_getElem hk] at hx
    rw [show l[k] = 47 from hx]
  have ha : ∀ c ∈ l.take k, (decide (c ≠ 47)) = true := fun c hc => by
    obtain ⟨j, hj, rfl⟩ := List.getElem_of_mem hc
    rw [List.length_take] at hj
    have := hall j (by omega)
    rw [List.getD_eq_getElem?_getD, List.getElem?_eq_getElem (by omega)] at this
    rw [List.getElem_take]
    simpa using this
  have hm : 47 ∈ l := by rw [e]; simp
  unfold Sf.folder
  rw [if_pos hm]
  conv => lhs; rw [e]
  rw [List.takeWhile_append_of_pos ha]
  simp
theorem folder_no {l : List Nat} (h : 47 ∉ l) : Sf.folder l = [] := by unfold Sf.folder; rw [if_neg h]
/-- Where a text is cut at a slash. -/
def CutIs (l A B : List Nat) (q : Bool) : Prop := (47 ∉ l ∧ l = A ∧ B = [] ∧ q = false) ∨ ∃ k, k < l.length ∧ l.getD k 0 = 47 ∧ (∀ j, j < k → l.getD j 0 ≠ 47) ∧ A = l.take k ∧ B = l.drop (k + 1) ∧ q = true
set_option maxHeartbeats 2000000 in
theorem slcut_any (l : List Nat) (w : World) (hl : ∀ c ∈ l, c < 256) (hm : l.length ≤ 1073741824) :
    Calls Try.prog 47 #[.string (str l), .string ⟨#[47]⟩] w fun e w' => (∃ A B q, CutIs l A B q ∧ e = .returned (.tuple #[.string (str A), .string (str B), .bool q])) ∧ Below w.heap.size w w' := by
  have hi := Try.stringslite_Index_one (str l) 47
  have hsz := str_size l
  rcases idx_is l hl with ⟨hno, e⟩ | ⟨k, hk, hx, hall, e⟩
  · rw [e] at hi
    have HI := Lib.hid hi
    have HC := Lib.hid (show CutIs l l [] false from .inl ⟨hno, rfl, rfl, rfl⟩)
    clear hi hno e hl hm hsz
    go_enter Try.func47, Try.ntmps47
    go_wp2_with fail
    refine (HI.out w).mono ?_
    rintro e w' ⟨rfl, rfl⟩
    go_wp2
    go_ret3
    exact ⟨⟨l, [], false, HC.out, rfl⟩, Below.refl _ _⟩
  · rw [e] at hi
    have HI := Lib.hid hi
    have HC := Lib.hid (show CutIs l (l.take k) (l.drop (k + 1)) true from .inr ⟨k, hk, hx, hall, rfl, rfl, rfl⟩)
    have hp1 := str_part l 0 k
    have hp2 := str_part l (k + 1) l.length
    rw [show (l.drop 0).take (k - 0) = l.take k from by simp] at hp1
    rw [show (l.drop (k + 1)).take (l.length - (k + 1)) = l.drop (k + 1) from List.take_of_length_le (by rw [List.length_drop]; omega)] at hp2
    have h1 : k + 1 ≤ l.length := hk
    obtain ⟨n, hn⟩ : ∃ n, l.length = n := ⟨_, rfl⟩
    rw [hn] at hsz hp2 hm h1
    clear hi hx hall e hl hn hk
    go_enter Try.func47, Try.ntmps47
    go_wp2_with fail
    refine (HI.out w).mono ?_
    rintro e w' ⟨rfl, rfl⟩
    go_wp2_with fail
    go_region
    go_wp2
    go_ret3
    exact ⟨⟨_, _, _, HC.out, rfl⟩, ⟨rfl, rfl, rfl, Nat.le_refl _, fun _ _ => rfl⟩⟩

set_option maxHeartbeats 2000000 in
theorem scut_any (l : List Nat) (w : World) (hl : ∀ c ∈ l, c < 256) (hm : l.length ≤ 1073741824) :
    Calls Try.prog 39 #[.string (str l), .string ⟨#[47]⟩] w fun e w' => (∃ A B q, CutIs l A B q ∧ e = .returned (.tuple #[.string (str A), .string (str B), .bool q])) ∧ Below w.heap.size w w' := by
  have HI := Lib.hid (slcut_any l · hl hm)
  clear hl hm
  go_enter Try.func39, Try.ntmps39
  go_wp2_with fail
  refine (HI.out w).mono ?_
  rintro e w' ⟨⟨A, B, q, HC, rfl⟩, hb⟩
  have HC := Lib.hid HC
  go_wp2
  go_ret3
  exact ⟨⟨A, B, q, HC.out, rfl⟩, hb⟩

set_option maxRecDepth 100000 in
set_option maxHeartbeats 2000000 in
theorem smay_any (x : Nat) (w : World) :
    Calls Try.prog 48 #[.int .u8 x] w fun e w' => e = .returned (.bool (Nm.okc x)) ∧ w = w' := by
  go_enter Try.func48, Try.ntmps48
  rcases Nm.okc_split x with ⟨ho, hc⟩ | ⟨ho, hc⟩
  · have HO := Lib.hid ho
    clear ho
    have hc' : ((97 : Int) ≤ (x : Int) ∧ (x : Int) ≤ 122) ∨ ((x : Int) < 97 ∧ (48 : Int) ≤ (x : Int) ∧ (x : Int) ≤ 57) ∨ x = 46 ∨ x = 45 ∨ x = 95 := by omega
    clear hc
    rcases hc' with ⟨c1, c2⟩ | ⟨c1, c2, c3⟩ | rfl | rfl | rfl
    all_goals
      go_wp2
      go_ret
      exact ⟨by rw [HO.out]; rfl, rfl⟩
  · have HO := Lib.hid ho
    clear ho
    have hc' : ((x : Int) < 45) ∨ x = 47 ∨ ((57 : Int) < (x : Int) ∧ (x : Int) < 95) ∨ x = 96 ∨ (122 : Int) < (x : Int) := by omega
    clear hc
    rcases hc' with c1 | rfl | ⟨c1, c2⟩ | rfl | c1
    all_goals
      go_wp2
      go_ret
      exact ⟨by rw [HO.out]; first | rfl | (simp; omega), rfl⟩

set_option maxRecDepth 100000 in
set_option maxHeartbeats 2000000 in
theorem sok_any (l : List Nat) (w : World) (hl : ∀ c ∈ l, c < 256) (hm : l.length ≤ 1073741824) :
    Calls Try.prog 40 #[.string (str l)] w fun e w' => e = .returned (.bool (Nm.ok l)) ∧ w = w' := by
  have hsz := str_size l
  obtain ⟨n, hn⟩ : ∃ n, l.length = n := ⟨_, rfl⟩
  rw [hn] at hm hsz
  have HN := Lib.hid hn
  have HG := Lib.hid (fun k h => str_get hl k h)
  clear hn hl
  obtain ⟨s, hs⟩ : ∃ s, str l = s := ⟨_, rfl⟩
  rw [hs] at hsz HG ⊢
  clear hs
  go_enter Try.func40, Try.ntmps40
  have hnc : (n : Int) < 1 ∨ ((1 : Int) ≤ (n : Int) ∧ (16 : Int) < (n : Int)) ∨ ((1 : Int) ≤ (n : Int) ∧ (n : Int) ≤ 16) := by omega
  have HW : Hid ((∀ j, j < n → Nm.okc (l.getD j 0) = true) → Nm.ok l = (decide (1 ≤ n) && decide (n ≤ 16))) := Lib.hid fun h => by
    rw [Nm.ok_of (Nm.all_of fun j hj => h j (by rw [HN.out] at hj; exact hj)), HN.out]
  have HZ : Hid (n < 1 ∨ 16 < n → Nm.ok l = false) := Lib.hid fun h => by
    unfold Nm.ok
    rw [HN.out]
    rcases h with h | h
    · rw [decide_eq_false (show ¬ 1 ≤ n by omega)]; simp
    · rw [decide_eq_false (show ¬ n ≤ 16 by omega)]; simp
  rcases hnc with c1 | ⟨c1, c2⟩ | ⟨c1, c2⟩
  · have HY := Lib.hid (HZ.out (.inl (by omega)))
    go_wp2
    go_ret
    exact ⟨by rw [HY.out]; rfl, rfl⟩
  · have HY := Lib.hid (HZ.out (.inr (by omega)))
    go_wp2
    go_ret
    exact ⟨by rw [HY.out]; rfl, rfl⟩
  · go_wp2_with fail
    go_loop [3, 14] (fun c i => ∃ k : Nat, k ≤ n ∧ i = .int .i64 k ∧ Hid (∀ j, j < k → Nm.okc (l.getD j 0) = true)) (fun _ i => n - (intOf i).toNat)
    case atStart => exact ⟨0, by omega, rfl, Lib.hid (by omega)⟩
    case round =>
      obtain ⟨k, hk, rfl, hall⟩ := hrel
      by_cases hlt : k < n
      · have hlt' : (k : Int) < (n : Int) := by omega
        have hks : k < s.size := by rw [hsz]; exact hlt
        obtain ⟨x, hx, HX⟩ : ∃ x, (s[k]'hks).toNat = x ∧ Hid (l.getD k 0 = x) := ⟨_, rfl, Lib.hid (HG.out k hks).symm⟩
        have hnext : Nm.okc x = true → ∀ j, j < k + 1 → Nm.okc (l.getD j 0) = true := fun h j hj => by
          rcases Nat.lt_or_ge j k with h1 | h1
          · exact hall.out j h1
          · rw [show j = k from by omega, HX.out]; exact h
        have HNX := Lib.hid hnext
        clear hnext
        go_wp2_with fail
        refine (smay_any x w).mono ?_
        rintro e w' ⟨rfl, rfl⟩
        rcases ho : Nm.okc x with _ | _
        · have HV := Lib.hid (Nm.ok_not (l := l) (k := k) (by rw [HN.out]; exact hlt) (by rw [HX.out]; exact ho))
          clear ho
          go_wp2
          go_ret
          exact ⟨by rw [HV.out]; rfl, rfl⟩
        · have HO := Lib.hid (HNX.out ho)
          clear ho
          go_wp2
          go_round
          case rel => exact ⟨k + 1, by omega, by go_num, HO⟩
          case measure => simp [intOf]; omega
      · obtain rfl : k = n := by omega
        have HY : Hid (Nm.ok l = true) := Lib.hid (by rw [HW.out hall.out, decide_eq_true (show 1 ≤ k by omega), decide_eq_true (show k ≤ 16 by omega)]; rfl)
        go_wp2
        go_ret
        exact ⟨by rw [HY.out]; rfl, rfl⟩


set_option maxHeartbeats 2000000 in
theorem sfile_any (l : List Nat) (w : World) (hl : ∀ c ∈ l, c < 256) (hm : l.length ≤ 1073741824) :
    Calls Try.prog 30 #[.string (str l)] w fun e w' => e = .returned (.bool (Nm.file l)) ∧ Below w.heap.size w w' := by
  have HI := Lib.hid (scut_any l · hl hm)
  have HL := Lib.hid (And.intro hl hm)
  clear hl hm
  go_enter Try.func30, Try.ntmps30
  go_wp2_with fail
  refine (HI.out w).mono ?_
  rintro e w' ⟨⟨A, B, q, ⟨hno, rfl, rfl, rfl⟩ | ⟨k, hk, hx, hall, rfl, rfl, rfl⟩, rfl⟩, hb⟩
  · have HW := Lib.hid (show Nm.file l = Nm.ok l by simp [Nm.file, hno])
    have HB := Lib.hid hb
    clear hno hb HI
    go_wp2_with fail
    refine (sok_any l _ HL.out.1 HL.out.2).mono ?_
    rintro e w2 ⟨rfl, rfl⟩
    go_wp2
    go_ret
    exact ⟨by rw [HW.out]; rfl, HB.out⟩
  · have HW := Lib.hid (Nm.file_at hk hx hall)
    have HL1 := Lib.hid (show (∀ c ∈ l.take k, c < 256) ∧ (l.take k).length ≤ 1073741824 from ⟨fun c hc => HL.out.1 c (List.mem_of_mem_take hc), by have := HL.out.2; rw [List.length_take]; omega⟩)
    have HL2 := Lib.hid (show (∀ c ∈ l.drop (k + 1), c < 256) ∧ (l.drop (k + 1)).length ≤ 1073741824 from ⟨fun c hc => HL.out.1 c (List.mem_of_mem_drop hc), by have := HL.out.2; rw [List.length_drop]; omega⟩)
    have HB := Lib.hid hb
    clear hk hx hall hb HI
    obtain ⟨A, hA⟩ : ∃ A, l.take k = A := ⟨_, rfl⟩
    obtain ⟨B, hB⟩ : ∃ B, l.drop (k + 1) = B := ⟨_, rfl⟩
    rw [hA] at HW HL1 ⊢
    rw [hB] at HW HL2 ⊢
    clear hA hB
    go_wp2_with fail
    refine (sok_any A _ HL1.out.1 HL1.out.2).mono ?_
    rintro e w2 ⟨rfl, rfl⟩
    rcases ha : Nm.ok A with _ | _
    · have HV : Hid (Nm.file l = false) := Lib.hid (by rw [HW.out, ha]; rfl)
      clear ha
      go_wp2
      go_ret
      exact ⟨by rw [HV.out]; rfl, HB.out⟩
    · have HV : Hid (Nm.file l = Nm.ok B) := Lib.hid (by rw [HW.out, ha]; rfl)
      clear ha
      go_wp2_with fail
      refine (sok_any B _ HL2.out.1 HL2.out.2).mono ?_
      rintro e w3 ⟨rfl, rfl⟩
      go_wp2
      go_ret
      exact ⟨by rw [HV.out]; rfl, HB.out⟩
end Go.Proofs.Ytoloidfkpfdboaa

/- Files in memory: the small calls. -/
namespace Go.Proofs.Ytoloidfkpfdboaa
set_option maxRecDepth 100000
open Go.ChangeShapes Go.WideShapes Go.ChangeAt Go.RowKit Go.ChangeMaps
open Sf

set_option maxHeartbeats 2000000 in
theorem there_any {X : Option (List Nat)} (t : List Nat) (w : World) (p mb : Nat) (V : List Nat → Value) (F : Nat → Prop) (s : S) (h : At X w p mb V F s) (ht : ∀ c ∈ t, c < 256) (hl : t.length ≤ 1048576) :
    Calls Try.prog 31 #[.pointer (some ⟨p, 0, none⟩), .string (str t)] w fun e w' => e = .returned (.bool (get s.l t).isSome) ∧ Below w.heap.size w w' := by
  have hask := h.askOk ht hl Try.underlying49
  obtain ⟨A1, c1, hv1⟩ := h.valSl t
  rw [hv1] at hask
  unfold elem at hask
  have k0 : w.cell? ⟨p, 0, none⟩ = some (.map (some mb)) := h.blk.at 0
  obtain ⟨q, hq⟩ : ∃ q, (get s.l t).isSome = q := ⟨_, rfl⟩
  rw [hq] at hask ⊢
  clear h ht hl hv1 hq
  go_enter Try.func31, Try.ntmps31
  go_wp2
  go_ret
  exact ⟨rfl, (Below.refl _ _).alloc (Nat.le_refl _) _⟩
set_option maxHeartbeats 2000000 in
theorem fstamp_any {X : Option (List Nat)} (t : List Nat) (w : World) (p mb : Nat) (V : List Nat → Value) (F : Nat → Prop) (s : S) (h : At X w p mb V F s) (ht : ∀ c ∈ t, c < 256) (hl : t.length ≤ 1048576) :
    Calls Try.prog 19 #[.pointer (some ⟨p, 0, none⟩), .string (str t)] w fun e w' => e = .returned (.int .i64 ((stamp s.l t : Nat) : Int)) ∧ w = w' := by
  have hask := h.ask ht hl Try.underlying49
  obtain ⟨A1, c1, hv1⟩ := h.valSl t
  rw [hv1] at hask
  unfold elem at hask
  have k0 : w.cell? ⟨p, 0, none⟩ = some (.map (some mb)) := h.blk.at 0
  obtain ⟨q, hq⟩ : ∃ q, stamp s.l t = q := ⟨_, rfl⟩
  obtain ⟨m, hm⟩ : ∃ m, (Sf.bytes s.l t).length = m := ⟨_, rfl⟩
  rw [hq, hm] at hask
  rw [hq]
  clear h ht hl hv1 hq hm
  have hfd := field1 A1 m c1 q w
  go_enter Try.func19, Try.ntmps19
  go_wp2
  go_ret
  exact ⟨rfl, rfl⟩
theorem at_cell {X : Option (List Nat)} {w : World} {p mb : Nat} {V : List Nat → Value} {F : Nat → Prop} {s s' : S} (h : At X w p mb V F s) (i : Nat) (u : Value) (hl : s'.l = s.l) (hn : s'.next = s.next) (hc : cells mb s' = (cells mb s).setIfInBounds i u) (hg : Sf.Good s') :
    At X (w.setCell ⟨p, i, none⟩ u) p mb V F s' := by
  have ho : ∀ k, k ≠ p → (w.setCell ⟨p, i, none⟩ u).heap[k]? = w.heap[k]? := fun k hk => Below.heap_setCell _ _ _ _ (by exact hk)
  refine ⟨by rw [hc]; exact h.blk.set i u, by rw [hl, hn]; exact h.map.same (ho mb fun e => h.ne e.symm), h.fp, h.fm, h.ne, fun k hk => by rw [World.size_setCell]; exact h.lt k hk, fun t x hx hX => ?_, fun t x hx => h.sl t x (hl ▸ hx), fun t x k hx => h.mine t x k (hl ▸ hx), fun t u x y hx hy => h.apart t u x y (hl ▸ hx) (hl ▸ hy), hg⟩
  rw [hl] at hx
  exact own_under (h.own t x hx hX) fun k hk => ho k (h.mine t x k hx hk).2.1
/-- What a call leaves that turns nothing but the files' own block. -/
def Left1 (w w' : World) (p : Nat) : Prop := w.grownBy w' (some p)
set_option maxHeartbeats 2000000 in
theorem froom_any {X : Option (List Nat)} (n : Int) (w : World) (p mb : Nat) (V : List Nat → Value) (F : Nat → Prop) (s : S) (h : At X w p mb V F s) :
    Calls Try.prog 20 #[.pointer (some ⟨p, 0, none⟩), .int .i64 n] w fun e w' => e = .returned (.tuple #[]) ∧ At X w' p mb V F { s with room := held n } ∧ w.grownBy w' (some p) := by
  obtain ⟨M1, hM1⟩ : ∃ M, max n 0 = M := ⟨_, rfl⟩
  have x1 := fun (W : World) ts t => run_top2 (P := Try.prog) W ts t n 0 M1 hM1
  have y1 := fun (W : World) ts t => run_low2 (P := Try.prog) W ts t M1 1073741824 (held n) (by unfold held; rw [hM1])
  have k1 : w.cell? ⟨p, 1, none⟩ = some (.int .i64 s.room) := h.blk.at 1
  have f1 : w.frozen? ⟨p, 1, none⟩ = false := h.blk.free 1
  have HA := Lib.hid (at_cell (s' := { s with room := held n }) h 1 (.int .i64 (held n)) rfl rfl rfl ⟨h.good.1, h.good.2.1, by simp only [held]; omega, by simp only [held]; omega, h.good.2.2.2.2⟩)
  have HG := Lib.hid (grown_setCell w ⟨p, 1, none⟩ (.int .i64 (held n)))
  obtain ⟨r, hr⟩ : ∃ r, held n = r := ⟨_, rfl⟩
  rw [hr] at HA HG y1 ⊢
  clear h hM1 hr
  go_enter Try.func20, Try.ntmps20
  go_wp2
  exact bodyPost_end (results_none rfl _ _ _) rfl ⟨rfl, HA.out, HG.out⟩
end Go.Proofs.Ytoloidfkpfdboaa

/- Files in memory: how much of an append goes in; new files; a copy of bytes. -/
namespace Go.Proofs.Ytoloidfkpfdboaa
set_option maxRecDepth 100000
open Go.ChangeShapes Go.WideShapes Go.ChangeAt Go.RowKit Go.ChangeMaps
open Sf

set_option maxHeartbeats 2000000 in
theorem sclone_any (vb : Value) (b : List Nat) (w : World) (h : Bytes w vb b) (hm : b.length ≤ 1099511627776) :
    Calls Try.prog 23 #[vb] w fun e w' => Made w.heap.size b w e w' := by
  obtain ⟨h1, h2, A, c, rfl, hc, hx⟩ := h.parts
  rcases A with _ | a
  · have h0 : b = [] := by
      rcases Nat.eq_zero_or_pos b.length with h0 | h0
      · exact List.eq_nil_of_length_eq_zero h0
      · obtain ⟨b, off, e, _⟩ := hx h0
        cases e
    subst h0
    clear h hc hx h1 h2 hm
    have he : ∀ W, (binOp .eql 25 (.slice none 0 c) (.slice none 0 0)).run Try.prog W = .ok (.bool true) W := fun W => by kernel_rfl
    go_enter Try.func23, Try.ntmps23
    go_wp2
    go_ret
    exact ⟨_, rfl, own_none _ _, Below.refl _ _⟩
  · have H := Lib.hid h
    obtain ⟨n, hn⟩ : ∃ n, b.length = n := ⟨_, rfl⟩
    rw [hn] at H hm
    rw [hn]
    have HN := Lib.hid hn
    clear h hc hx h1 h2 hn
    have he : ∀ W, (binOp .eql 25 (.slice (some a) n c) (.slice none 0 0)).run Try.prog W = .ok (.bool false) W := fun W => by kernel_rfl
    go_enter Try.func23, Try.ntmps23
    go_wp2_with (first
      | (at_builtin; refine wpList_append_bytes rfl _ _ rfl w.heap.size _ _ [] b rfl (own_empty w w.heap.size 0 #[] (Nat.le_refl _) (by unfold maxLen; omega) rfl) rfl (H.out.alloc _) (by rw [HN.out]; simp; omega) (by simp) b rfl ?_; intro v' w' hg)
      | fail)
    go_ret
    exact ⟨_, rfl, hg.1, ((Below.refl _ _).alloc (Nat.le_refl _) _).trans hg.2.2.2⟩
set_option maxHeartbeats 2000000 in
theorem fnew_any (n : Int) (w : World) :
    Calls Try.prog 7 #[.int .i64 n] w fun e w' => ∃ p mb V F, e = .returned (.pointer (some ⟨p, 0, none⟩)) ∧ At none w' p mb V F (new n) ∧ (∀ k, F k → w.heap.size ≤ k) ∧ Below w.heap.size w w' := by
  have hmm := @run_makeMap Try.prog
  go_enter Try.func7, Try.ntmps7
  go_wp2_with fail
  obtain ⟨mb, hmb⟩ : ∃ mb, w.heap.size = mb := ⟨_, rfl⟩
  rw [hmb]
  obtain ⟨w2, hw2⟩ : ∃ w2, w2 = (w.alloc (Obj.map #[] 0)).alloc (.cells #[.map (some mb), .int .i64 0, .int .i64 0, .int .i64 0, .int .i64 (-1)] 51) := ⟨_, rfl⟩
  rw [← hw2]
  have hs2 : w2.heap.size = mb + 2 := by rw [hw2]; simp [hmb]
  have hb2 : Below mb w w2 := by rw [hw2, ← hmb]; exact ((Below.refl _ _).alloc (Nat.le_refl _) _).alloc (by simp) _
  have HA : Hid (At none w2 (mb + 1) mb (fun _ => .slice none 0 0) (fun k => k = mb ∨ k = mb + 1) ⟨[], 0, 0, -1⟩) := Lib.hid (by
    refine ⟨?_, ?_, .inr rfl, .inl rfl, by omega, fun k hk => by rw [hs2]; omega, fun t x hx => by simp [Sf.get] at hx, fun t x hx => by simp [Sf.get] at hx, fun t x k hx => by simp [Sf.get] at hx, fun t u x y hx => by simp [Sf.get] at hx, ⟨List.Pairwise.nil, by simp, by simp, by simp, by simp, by simp⟩⟩
    · rw [hw2]
      have e : (w.alloc (Obj.map #[] 0)).heap.size = mb + 1 := by simp [hmb]
      have := heap_alloc_new (w.alloc (Obj.map #[] 0)) (.cells #[.map (some mb), .int .i64 0, .int .i64 0, .int .i64 0, .int .i64 (-1)] 51)
      rw [e] at this
      exact this
    · have h1 := mapIs_made w
      rw [hmb] at h1
      refine MapIs.same (w := w.alloc (Obj.map #[] 0)) h1 ?_
      rw [hw2]
      exact Below.heap_alloc _ _ mb (by simp [hmb]))
  have HB := Lib.hid hb2
  clear hw2 hs2 hb2 hmm
  refine (froom_any n w2 (mb + 1) mb _ _ _ HA.out).mono ?_
  rintro e w3 ⟨rfl, ha, hg⟩
  have HA3 := Lib.hid ha
  have HG3 := Lib.hid hg
  clear ha hg
  go_wp2
  go_ret
  refine ⟨mb + 1, mb, _, _, rfl, HA3.out, fun k hk => by omega, ?_⟩
  rw [hmb]
  exact HB.out.grown HG3.out (by have := HB.out.size; omega) (fun k hk => by injection hk with hk; omega)
end Go.Proofs.Ytoloidfkpfdboaa
