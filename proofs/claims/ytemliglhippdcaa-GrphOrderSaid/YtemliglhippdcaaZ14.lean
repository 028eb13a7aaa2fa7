/- Plain facts on names in the library's words: decimals, the parts of a temp, the first stroke of a path. -/
import Derived.Test.YtemliglhippdcaaText
import Derived.Test.YtemliglhippdcaaNameBackMath
import Derived.Lib.ItoaNum
import Derived.Lib.AtoiAll
import Derived.Lib.Split
import Derived.Lib.SplitLaws
import Derived.Lib.IndexLaws
import Derived.Lib.CutLaws
import Derived.Test.YtemliglhippdcaaShelf
import Derived.Test.YtemliglhippdcaaZ03
import Derived.Lib.LaidTab
import Derived.Test.YtemliglhippdcaaZ00
namespace Go.Proofs.Ytemliglhippdcaa
set_option maxRecDepth 100000
open Go.ChangeShapes Go.WideShapes Go.ChangeAt Go.RowKit

namespace Nm
/-- A row of digits that begins with no nought is the decimal of its number. -/
theorem digs_val : ∀ (k : Nat) (A : List Nat), A.length = k → A ≠ [] → A.all dig = true → A.getD 0 0 ≠ 48 → digs (val A) = A ∧ val A ≠ 0 := by
  intro k
  induction k with
  | zero => intro A hA h; exact absurd (List.length_eq_zero_iff.1 hA) h
  | succ k ih =>
    intro A hk hA hall h0
    obtain ⟨B, c, rfl⟩ : ∃ B c, A = B ++ [c] := ⟨A.dropLast, A.getLast hA, (List.dropLast_concat_getLast hA).symm⟩
    have hc : 48 ≤ c ∧ c ≤ 57 := by
      have := List.all_eq_true.1 hall c (by simp)
      simpa [dig] using this
    have hB : B.all dig = true := by
      rw [List.all_append] at hall
      exact (Bool.and_eq_true_iff.1 hall).1
    rw [val_snoc]
    by_cases hn : B = []
    · subst hn
      have hc0 : c ≠ 48 := by simpa using h0
      have hv : 10 * val [] + (c - 48) = c - 48 := by simp [val]
      rw [hv, digs_pos (by omega), show (c - 48) / 10 = 0 from by omega, digs_zero]
      refine ⟨?_, by omega⟩
      rw [show 48 + (c - 48) % 10 = c from by omega]
    · have hl : 0 < B.length := List.length_pos_iff.2 hn
      have h1 := ih B (by simpa using hk) hn hB (by
        rw [List.getD_eq_getElem?_getD] at h0 ⊢
        rwa [List.getElem?_append_left hl] at h0)
      rw [digs_pos (by omega), show (10 * val B + (c - 48)) / 10 = val B from by omega, h1.1]
      refine ⟨?_, by omega⟩
      rw [show 48 + (10 * val B + (c - 48)) % 10 = c from by omega]
theorem isNum_back {A : List Nat} {d : Nat} (h : isNum A d = true) : A = dec (val A) ∧ val A < 10 ^ d := by
  simp only [isNum, Bool.and_eq_true_iff, Bool.or_eq_true_iff, decide_eq_true_eq] at h
  obtain ⟨⟨⟨hall, hlen⟩, hne⟩, h0⟩ := h
  have hlt : val A < 10 ^ d := by
    have h1 := val_lt (l := A) A.length (Nat.le_refl _) (fun j hj => by
      have := List.all_eq_true.1 hall _ (List.getElem_mem hj)
      rw [List.getD_eq_getElem?_getD, List.getElem?_eq_getElem hj]
      exact dig_le this)
    rw [List.take_length] at h1
    exact Nat.lt_of_lt_of_le h1 (Nat.pow_le_pow_right (by omega) hlen)
  refine ⟨?_, hlt⟩
  rcases h0 with h0 | h0
  · subst h0; rfl
  · have := digs_val A.length A rfl hne hall h0
    rw [dec, if_neg this.2, this.1]
/-- Parts, with dots between. -/
def glue : List (List Nat) → List Nat
  | [] => []
  | [a] => a
  | a :: b :: r => a ++ 46 :: glue (b :: r)
theorem glue_dot : ∀ (L : List (List Nat)), L ≠ [] → glue (L ++ [[]]) = glue L ++ [46]
  | [], h => absurd rfl h
  | [a], _ => by simp [glue]
  | a :: b :: r, _ => by
    have ih := glue_dot (b :: r) (by simp)
    simp only [List.cons_append, glue] at ih ⊢
    rw [ih]
    simp
theorem glue_more (c : Nat) : ∀ (L : List (List Nat)), L ≠ [] → glue (L.set (L.length - 1) (L.getD (L.length - 1) [] ++ [c])) = glue L ++ [c]
  | [], h => absurd rfl h
  | [a], _ => by simp [glue]
  | a :: b :: r, _ => by
    have ih := glue_more c (b :: r) (by simp)
    have e : (a :: b :: r).length - 1 = (b :: r).length - 1 + 1 := by simp
    rw [e, List.set_cons_succ, List.getD_cons_succ]
    obtain ⟨x, y, hxy⟩ : ∃ x y, (b :: r).set ((b :: r).length - 1) ((b :: r).getD ((b :: r).length - 1) [] ++ [c]) = x :: y := by
      cases h : (b :: r).set ((b :: r).length - 1) ((b :: r).getD ((b :: r).length - 1) [] ++ [c]) with
      | nil =>
        have := congrArg List.length h
        simp at this
      | cons x y => exact ⟨x, y, rfl⟩
    rw [hxy] at ih ⊢
    simp only [glue]
    rw [ih]
    simp
theorem glue_add (L : List (List Nat)) (hL : L ≠ []) (c : Nat) : glue (addTo L c) = glue L ++ [c] := by
  unfold addTo
  split
  · subst c; exact glue_dot L hL
  · exact glue_more c L hL
theorem addTo_ne (L : List (List Nat)) (hL : L ≠ []) (c : Nat) : addTo L c ≠ [] := by
  have h1 := (addTo_len L c).1
  have h2 := List.length_pos_iff.2 hL
  exact List.length_pos_iff.1 (by omega)
theorem glue_foldl : ∀ (l : List Nat) (L : List (List Nat)), L ≠ [] → glue (l.foldl addTo L) = glue L ++ l
  | [], L, _ => by simp
  | c :: l, L, h => by
    rw [List.foldl_cons, glue_foldl l (addTo L c) (addTo_ne L h c), glue_add L h c]
    simp
theorem glue_parts (l : List Nat) : glue (parts l) = l := by
  unfold parts
  rw [glue_foldl l [[]] (by simp)]
  rfl
theorem isOf_temp {l : List Nat} (h : isOf l = true) : ∃ x y z, x ≤ 999 ∧ y ≤ 99999 ∧ z ≤ 99999 ∧ l = temp x y z := by
  simp only [isOf, Bool.and_eq_true_iff, decide_eq_true_eq] at h
  obtain ⟨⟨⟨⟨h1, h2⟩, h3⟩, h4⟩, h5⟩ := h
  obtain ⟨A, B, C, hP⟩ : ∃ A B C, parts (l.drop 4) = [A, B, C] := by
    match hh : parts (l.drop 4), h2 with
    | [A, B, C], _ => exact ⟨A, B, C, rfl⟩
  rw [hP] at h3 h4 h5
  have b3 := isNum_back h3
  have b4 := isNum_back h4
  have b5 := isNum_back h5
  simp only [List.getD_cons_zero, List.getD_cons_succ] at b3 b4 b5
  refine ⟨val A, val B, val C, by have := b3.2; omega, by have := b4.2; omega, by have := b5.2; omega, ?_⟩
  have hg := glue_parts (l.drop 4)
  rw [hP] at hg
  simp only [glue] at hg
  conv => lhs; rw [← List.take_append_drop 4 l, h1, ← hg]
  rw [temp_tail, ← b3.1, ← b4.1, ← b5.1]
  simp
theorem foldl_pos (A : List Nat) : ∀ acc : Nat, acc ≤ A.foldl (fun n c => 10 * n + (c - 48)) acc := by
  induction A with
  | nil => intro acc; exact Nat.le_refl _
  | cons c A ih =>
    intro acc
    have := ih (10 * acc + (c - 48))
    simp only [List.foldl_cons]
    omega
theorem parse_of : ∀ (A : List Nat) (acc : Nat), A.all dig = true → A.foldl (fun n c => 10 * n + (c - 48)) acc < 1000000000 → Lib.parseUint10 acc (A.map UInt8.ofNat) = .ok (A.foldl (fun n c => 10 * n + (c - 48)) acc)
  | [], acc, _, _ => rfl
  | c :: A, acc, hall, hlt => by
    have hc : 48 ≤ c ∧ c ≤ 57 := by
      have := List.all_eq_true.1 hall c (by simp)
      simpa [dig] using this
    have hA : A.all dig = true := by
      rw [List.all_cons] at hall
      exact (Bool.and_eq_true_iff.1 hall).2
    have hn : (UInt8.ofNat c).toNat = c := by simp; omega
    have h1 := foldl_pos A (10 * acc + (c - 48))
    simp only [List.foldl_cons] at hlt ⊢
    have ih := parse_of A (10 * acc + (c - 48)) hA hlt
    rw [List.map_cons, Lib.parseUint10, hn, if_pos hc, if_neg (by omega), if_neg (by omega), show acc * 10 + (c - 48) = 10 * acc + (c - 48) from by omega]
    exact ih
theorem atoi_dec {n : Nat} (h : n ≤ 99999) : Lib.atoiAll ((dec n).map UInt8.ofNat) = .ok (n : Int) := by
  have hall : (dec n).all dig = true := by
    rw [List.all_eq_true]
    intro c hc
    have := dec_byte n c hc
    simp [dig]
    omega
  have hv : (dec n).foldl (fun n c => 10 * n + (c - 48)) 0 = n := val_dec n
  have hp := parse_of (dec n) 0 hall (by rw [hv]; omega)
  rw [hv] at hp
  obtain ⟨c, r, hcr⟩ : ∃ c r, dec n = c :: r := by
    cases hd : dec n with
    | nil => exact absurd hd (dec_ne n)
    | cons c r => exact ⟨c, r, rfl⟩
  have hc := dec_byte n c (by rw [hcr]; simp)
  have hn : (UInt8.ofNat c).toNat = c := by simp; omega
  rw [hcr] at hp ⊢
  rw [List.map_cons] at hp ⊢
  rw [Lib.atoiAll]
  simp only [hn]
  rw [if_neg (by omega)]
  rw [Lib.parseMag, if_neg (by simp), hp]
  simp only
  rw [if_neg (by omega), if_neg (by omega), if_neg (by omega)]
theorem dec_digits : ∀ n : Nat, Lib.decDigits n = (dec n).map UInt8.ofNat := by
  intro n
  induction n using Nat.strongRecOn with
  | _ n ih =>
    rw [Lib.decDigits]
    split
    · rename_i h
      by_cases h0 : n = 0
      · subst h0; rfl
      · rw [dec, if_neg h0, digs_pos h0, show n / 10 = 0 from by omega, digs_zero, show n % 10 = n from by omega]
        rfl
    · rename_i h
      rw [ih (n / 10) (by omega), dec, if_neg (by omega), dec, if_neg (by omega), digs_pos (n := n) (by omega), List.map_append]
      rfl
end Nm
theorem itoa_dec (n : Nat) : (⟨(Lib.itoa (n : Int)).toArray⟩ : ByteArray) = str (Nm.dec n) := by
  unfold Lib.itoa
  rw [if_neg (by omega), show ((n : Int)).toNat = n from by omega, Nm.dec_digits]
  rfl
theorem ofNat_ne {l : List Nat} {x : Nat} (hl : ∀ c ∈ l, c < 256) (hx : x < 256) (h : x ∉ l) : UInt8.ofNat x ∉ l.map UInt8.ofNat := by
  intro hm
  obtain ⟨c, hc, e⟩ := List.mem_map.1 hm
  have h1 := congrArg UInt8.toNat e
  have h2 := hl c hc
  simp at h1
  rw [show c = x from by omega] at hc
  exact h hc
/-- The first of a byte behind bytes that aren't it. -/
theorem index_at (c : UInt8) : ∀ (A R : List UInt8), c ∉ A → Lib.index (A ++ c :: R) [c] = (A.length : Nat) := by
  intro A
  induction A with
  | nil => intro R _; rw [Lib.index_one]; simp [Lib.indexByte]
  | cons b A ih =>
    intro R h
    have hb : (b == c) = false := beq_eq_false_iff_ne.2 fun e => h (by simp [e])
    have h1 := ih R fun hm => h (List.mem_cons_of_mem _ hm)
    rw [Lib.index_one] at h1 ⊢
    rw [List.cons_append, Lib.indexByte, hb, h1]
    rw [if_neg (by simp), if_neg (by simp)]
    simp
theorem split_three (A B C : List UInt8) (hA : (46 : UInt8) ∉ A) (hB : (46 : UInt8) ∉ B) : Lib.splitK [46] 0 2 (A ++ 46 :: (B ++ 46 :: C)) = [A, B, C] := by
  have h1 := index_at 46 A (B ++ 46 :: C) hA
  have h2 := index_at 46 B C hB
  have d1 : List.drop (A.length + 1) (A ++ 46 :: (B ++ 46 :: C)) = B ++ 46 :: C := by
    rw [List.drop_append]
    simp
  have d2 : List.drop (B.length + 1) (B ++ 46 :: C) = C := by
    rw [List.drop_append]
    simp
  unfold Lib.splitK
  rw [h1, if_neg (by simp)]
  simp only [Int.toNat_natCast, Nat.add_zero, List.length_singleton, d1, List.take_left]
  unfold Lib.splitK
  rw [h2, if_neg (by simp)]
  simp only [Int.toNat_natCast, Nat.add_zero, List.length_singleton, d2, List.take_left]
  rfl
/-- What stands behind a temp's beginning; its parts. -/
def trim (l : List Nat) : ByteArray := ⟨(Lib.trimPrefix (str l).data.toList [116, 109, 112, 47]).toArray⟩
def pcs (l : List Nat) : List ByteArray := Lib.splitB ⟨#[46]⟩ 0 (min 3 ((trim l).size + 1) - 1) (trim l)
theorem trim_size (l : List Nat) : (trim l).size ≤ l.length := by
  unfold trim Lib.trimPrefix
  rw [str_data]
  split
  · simp only [ByteArray.size, List.size_toArray, List.length_drop, List.length_map]; omega
  · simp [ByteArray.size]
theorem pcs_len (l : List Nat) : (pcs l).length ≤ min 3 ((trim l).size + 1) := by
  have := Lib.splitB_length_le ⟨#[46]⟩ 0 (min 3 ((trim l).size + 1) - 1) (trim l)
  unfold pcs
  omega
theorem split_size (sep : ByteArray) : ∀ (k : Nat) (s : ByteArray), ∀ b ∈ Lib.splitB sep 0 k s, b.size ≤ s.size
  | 0, s, b, h => by
    rw [Lib.splitB_zero] at h
    simp at h
    subst h
    exact Nat.le_refl _
  | k + 1, s, b, h => by
    unfold Lib.splitB at h
    split at h
    · simp at h; subst h; exact Nat.le_refl _
    · rcases List.mem_cons.1 h with rfl | h
      · rw [ByteArray.size_extract]; omega
      · have := split_size sep k _ b h
        rw [ByteArray.size_extract] at this
        omega
theorem pcs_size (l : List Nat) : ∀ b ∈ pcs l, b.size ≤ l.length := fun b hb => Nat.le_trans (split_size _ _ _ b hb) (trim_size l)
theorem pcs_temp (a b c : Nat) : pcs (Nm.temp a b c) = [str (Nm.dec a), str (Nm.dec b), str (Nm.dec c)] := by
  have ht : trim (Nm.temp a b c) = str (Nm.dec a ++ 46 :: (Nm.dec b ++ 46 :: Nm.dec c)) := by
    unfold trim Lib.trimPrefix
    rw [str_data, Nm.temp_tail, List.map_append]
    rw [if_pos (by simp [Lib.hasPrefix, List.isPrefixOf])]
    unfold str
    simp
  have hs : 2 ≤ (trim (Nm.temp a b c)).size := by
    rw [ht, str_size]
    simp only [List.length_append, List.length_cons]
    omega
  have h0 : min 3 ((trim (Nm.temp a b c)).size + 1) - 1 = 2 := by omega
  have hK := Lib.splitB_data ⟨#[46]⟩ 0 2 (trim (Nm.temp a b c))
  have hdot : ∀ n, (46 : UInt8) ∉ (Nm.dec n).map UInt8.ofNat := fun n => ofNat_ne (x := 46) (fun c hc => by have := Nm.dec_byte n c hc; omega) (by omega) (Nm.dec_dot n)
  have e : (trim (Nm.temp a b c)).data.toList = (Nm.dec a).map UInt8.ofNat ++ 46 :: ((Nm.dec b).map UInt8.ofNat ++ 46 :: (Nm.dec c).map UInt8.ofNat) := by
    rw [ht, str_data]
    simp
  rw [e, show (⟨#[46]⟩ : ByteArray).data.toList = [46] from rfl, split_three _ _ _ (hdot a) (hdot b)] at hK
  unfold pcs
  rw [h0]
  have back : ∀ (x : ByteArray) (m : List Nat), x.data.toList = m.map UInt8.ofNat → x = str m := fun x m h => by
    apply ByteArray.ext
    apply Array.ext'
    rw [h, str_data]
  generalize Lib.splitB ⟨#[46]⟩ 0 2 (trim (Nm.temp a b c)) = L at hK
  rcases L with _ | ⟨x, _ | ⟨y, _ | ⟨z, _ | ⟨u, L⟩⟩⟩⟩
  · simp at hK
  · simp at hK
  · simp at hK
  · simp only [List.map_cons, List.map_nil, List.cons.injEq, and_true] at hK
    rw [back x _ hK.1, back y _ hK.2.1, back z _ hK.2.2]
  · simp at hK
/-- Where a path is cut. -/
theorem cut_is (l : List Nat) (hl : ∀ c ∈ l, c < 256) :
    (47 ∉ l ∧ (⟨(Lib.cut (str l).data.toList [47]).1.toArray⟩ : ByteArray) = str l ∧ (⟨(Lib.cut (str l).data.toList [47]).2.1.toArray⟩ : ByteArray) = str [] ∧ (Lib.cut (str l).data.toList [47]).2.2 = false) ∨
    ∃ k, k < l.length ∧ l.getD k 0 = 47 ∧ (∀ j, j < k → l.getD j 0 ≠ 47) ∧ (⟨(Lib.cut (str l).data.toList [47]).1.toArray⟩ : ByteArray) = str (l.take k) ∧ (⟨(Lib.cut (str l).data.toList [47]).2.1.toArray⟩ : ByteArray) = str (l.drop (k + 1)) ∧ (Lib.cut (str l).data.toList [47]).2.2 = true := by
  have hb : ∀ k, (str l).data.toList[k]? = (l[k]?).map UInt8.ofNat := fun k => by rw [str_data, List.getElem?_map]
  rcases Lib.indexB_cases (str l) ⟨#[47]⟩ with h | ⟨k, h, hr⟩
  · refine .inl ⟨fun hm => ?_, Lib.cutB_miss _ _ h⟩
    obtain ⟨j, hj, e⟩ := List.getElem_of_mem hm
    have h1 : Lib.index (str l).data.toList [47] = -1 := h
    rw [Lib.index_one] at h1
    refine Lib.indexByte_none h1 j ?_
    rw [hb, List.getElem?_eq_getElem hj, e]
    rfl
  · have h1 : Lib.index (str l).data.toList [47] = (k : Nat) := h
    rw [Lib.index_one] at h1
    obtain ⟨h2, h3⟩ := Lib.indexByte_some h1
    have hk : k < l.length := by
      rw [str_size] at hr
      have : (⟨#[47]⟩ : ByteArray).size = 1 := rfl
      omega
    have back : ∀ j, j < l.length → (l.getD j 0 = 47 ↔ (str l).data.toList[j]? = some 47) := fun j hj => by
      rw [hb, List.getD_eq_getElem?_getD, List.getElem?_eq_getElem hj]
      have := hl _ (List.getElem_mem hj)
      constructor
      · intro e
        rw [show l[j] = 47 from e]
        rfl
      · intro e
        have := congrArg UInt8.toNat (Option.some.inj e)
        simp at this
        show l[j] = 47
        omega
    obtain ⟨c1, c2, c3⟩ := Lib.cutB_hit (str l) ⟨#[47]⟩ k h
    refine .inr ⟨k, hk, (back k hk).2 h2, fun j hj e => h3 j hj ((back j (by omega)).1 e), ?_, ?_, c3⟩
    · refine c1.trans ?_
      rw [str_part]
      simp
    · refine c2.trans ?_
      rw [str_part, str_size, show (⟨#[47]⟩ : ByteArray).size = 1 from rfl, List.take_of_length_le (by rw [List.length_drop]; omega)]
end Go.Proofs.Ytemliglhippdcaa

/- What the library's variables hold, behind whatever the calls make. -/
namespace Go.Proofs.Ytemliglhippdcaa
set_option maxRecDepth 100000
open Go.ChangeShapes Go.WideShapes Go.ChangeAt Go.RowKit

theorem cell_kept {w w' : World} {a : Addr} {v : Value} (hb : Below w.heap.size w w') (h : w.cell? a = some v) : w'.cell? a = some v := (hb.cell (World.block_lt_of_cell? _ _ h)).trans h
theorem tab_kept {P : Program} {w w' : World} {n : String} {k : IntKind} {zs : List Int} (hb : Below w.heap.size w w') (h : Lib.TabIs P w n k zs) : Lib.TabIs P w' n k zs := by
  unfold Lib.TabIs World.var? at h ⊢
  cases hg : P.globalNamed n with
  | none => simp [hg] at h
  | some g =>
    simp only [hg, Option.bind_some] at h ⊢
    have hlt : g < w.heap.size := by
      rcases Nat.lt_or_ge g w.heap.size with h' | h'
      · exact h'
      · simp [Array.getElem?_eq_none h'] at h
    rw [hb.block g hlt]
    exact h
theorem below_grow (w : World) (k : Nat) (os : Array Obj) : Below w.heap.size w (Sort.grow (w.drewN k) os) := by
  refine ⟨rfl, rfl, rfl, ?_, fun i hi => ?_⟩
  · show w.heap.size ≤ (w.heap ++ os).size
    simp
  · show (w.heap ++ os)[i]? = w.heap[i]?
    exact Array.getElem?_append_left hi
theorem below_drewN (w : World) (n : Nat) : Below w.heap.size w (w.drewN n) := ⟨rfl, rfl, rfl, Nat.le_refl _, fun _ _ => rfl⟩
/-- Atoi: a number, or an error. -/
def AtoiIs (b : ByteArray) (w : World) (e : Ending) (w' : World) : Prop :=
  Below w.heap.size w w' ∧ ((∃ v : Int, Lib.atoiAll b.data.toList = .ok v ∧ e = .returned (.tuple #[.int .i64 v, .nilIface])) ∨ ((∀ v, Lib.atoiAll b.data.toList ≠ .ok v) ∧ ∃ (v : Int) (t : TypeId) (p : Value), e = .returned (.tuple #[.int .i64 v, .iface t p])))
end Go.Proofs.Ytemliglhippdcaa

/- Contracts of the program's own calls on names. -/
namespace Go.Proofs.Ytemliglhippdcaa
set_option maxRecDepth 100000
open Go.ChangeShapes Go.WideShapes Go.ChangeAt Go.RowKit

end Go.Proofs.Ytemliglhippdcaa

/- Plain facts on how the program reads an action: with numbers of any size, held to what may be behind. -/
namespace Go.Proofs.Ytemliglhippdcaa.Ac
set_option maxRecDepth 100000

/-- The number that a text is, in its one form; no more than a word of the machine holds. -/
def numE (t : List Nat) : Option Int := match Lib.atoiAll (t.map UInt8.ofNat) with
  | .ok v => if Lib.itoa v = t.map UInt8.ofNat then some v else none
  | _ => none
def oneE : List Ln.W → Option E
  | [] => none
  | x :: r => if x.q then none
    else if isText (kindOf x.text) then match r with
      | [y] => if y.q then some ⟨kindOf x.text, 0, y.text⟩ else none
      | _ => none
    else if most (kindOf x.text) ≠ 0 then match r with
      | [y] => if y.q then none else match numE y.text with
        | some v => some ⟨kindOf x.text, v, []⟩
        | none => none
      | _ => none
    else match r with
      | [] => some ⟨kindOf x.text, 0, []⟩
      | _ => none
def partsE (cur : List Ln.W) (out : List E) : List Ln.W → Option (List E)
  | [] => match oneE cur with
    | none => none
    | some d => some (out ++ [d])
  | x :: r => if sep x then match oneE cur with
      | none => none
      | some d => partsE [] (out ++ [d]) r
    else partsE (cur ++ [x]) out r
def parseE (l : List Ln.W) : Option (List E) := match partsE [] [] l with
  | none => none
  | some L => if okL L then some L else none
theorem atoi_dec9 {n : Nat} (h : n < 1000000000) : Lib.atoiAll ((Nm.dec n).map UInt8.ofNat) = .ok (n : Int) := by
  have hall : (Nm.dec n).all Nm.dig = true := by
    rw [List.all_eq_true]
    intro c hc
    have := Nm.dec_byte n c hc
    simp [Nm.dig]
    omega
  have hv : (Nm.dec n).foldl (fun n c => 10 * n + (c - 48)) 0 = n := Nm.val_dec n
  have hp := Nm.parse_of (Nm.dec n) 0 hall (by rw [hv]; omega)
  rw [hv] at hp
  obtain ⟨c, r, hcr⟩ : ∃ c r, Nm.dec n = c :: r := by
    cases hd : Nm.dec n with
    | nil => exact absurd hd (Nm.dec_ne n)
    | cons c r => exact ⟨c, r, rfl⟩
  have hc := Nm.dec_byte n c (by rw [hcr]; simp)
  have hn : (UInt8.ofNat c).toNat = c := by simp; omega
  rw [hcr] at hp ⊢
  rw [List.map_cons] at hp ⊢
  rw [Lib.atoiAll]
  simp only [hn]
  rw [if_neg (by omega)]
  rw [Lib.parseMag, if_neg (by simp), hp]
  simp only
  rw [if_neg (by omega), if_neg (by omega), if_neg (by omega)]
theorem num_good {t : List Nat} (h : Nm.isNum t 9 = true) : numE t = some (Nm.num t 9 : Int) := by
  obtain ⟨e, hlt⟩ := Nm.isNum_back h
  obtain ⟨m, hm⟩ : ∃ m, Nm.val t = m := ⟨_, rfl⟩
  rw [hm] at e hlt
  have hn : Nm.num t 9 = m := by unfold Nm.num; rw [if_pos h, hm]
  rw [hn, e]
  unfold numE
  rw [atoi_dec9 (by omega)]
  have hi : Lib.itoa (m : Int) = (Nm.dec m).map UInt8.ofNat := by
    rw [← Nm.dec_digits]
    rfl
  show (if Lib.itoa (m : Int) = _ then some (m : Int) else none) = _
  rw [if_pos hi]
theorem map_inj {a b : List Nat} (ha : ∀ c ∈ a, c < 256) (hb : ∀ c ∈ b, c < 256) (h : a.map UInt8.ofNat = b.map UInt8.ofNat) : a = b := by
  have := congrArg (List.map UInt8.toNat) h
  rw [List.map_map, List.map_map] at this
  have e : ∀ l : List Nat, (∀ c ∈ l, c < 256) → l.map (UInt8.toNat ∘ UInt8.ofNat) = l := fun l hl => by
    rw [List.map_congr_left (g := id) fun c hc => by
      show (UInt8.ofNat c).toNat = c
      exact UInt8.toNat_ofNat_of_lt' (hl c hc)]
    exact List.map_id l
  rwa [e a ha, e b hb] at this
theorem num_bad {t : List Nat} (ht : ∀ c ∈ t, c < 256) (h : Nm.isNum t 9 = false) {v : Int} (hv : numE t = some v) : v < 0 ∨ 1000000000 ≤ v := by
  by_cases h0 : v < 0
  · exact .inl h0
  · refine .inr ?_
    obtain ⟨m, rfl⟩ : ∃ m : Nat, v = m := ⟨v.toNat, by omega⟩
    by_cases hm : 1000000000 ≤ (m : Int)
    · exact hm
    · exfalso
      unfold numE at hv
      split at hv
      · split at hv
        · injection hv with hv
          subst hv
          rename_i hi
          have hi2 : Lib.itoa (m : Int) = (Nm.dec m).map UInt8.ofNat := by
            rw [← Nm.dec_digits]
            rfl
          rw [hi2] at hi
          have := map_inj (fun c hc => by have := Nm.dec_byte m c hc; omega) ht hi
          rw [← this, Nm.isNum_dec (by omega) (by omega)] at h
          cases h
        · cases hv
      · cases hv
theorem most_le (k : Nat) : most k ≤ 999 := by
  unfold most
  split
  · omega
  · split <;> omega
theorem right_num {k : Nat} {v : Int} {t : List Nat} (h : v < 0 ∨ 1000000000 ≤ v) : right ⟨k, v, t⟩ = false := by
  unfold right
  have := most_le k
  rcases h with h | h
  · rw [show decide (0 ≤ (⟨k, v, t⟩ : E).n) = false from decide_eq_false (by show ¬ 0 ≤ v; omega)]
    simp
  · rw [show decide ((⟨k, v, t⟩ : E).n ≤ (most (⟨k, v, t⟩ : E).kind : Int)) = false from decide_eq_false (by show ¬ v ≤ (most k : Int); omega)]
    simp
theorem one_rel (R : List Ln.W) (hR : ∀ x ∈ R, ∀ c ∈ x.text, c < 256) : (∃ d, one R = some d ∧ oneE R = some d.e) ∨ (one R = none ∧ (oneE R = none ∨ ∃ x, oneE R = some x ∧ right x = false)) := by
  cases R with
  | nil => exact .inr ⟨rfl, .inl rfl⟩
  | cons x r =>
    obtain ⟨xt, xl, xc, xq⟩ := x
    cases xq with
    | true => exact .inr ⟨rfl, .inl rfl⟩
    | false =>
      have e1 : one (⟨xt, xl, xc, false⟩ :: r) = if kindOf xt = 0 then none
        else if isText (kindOf xt) then match r with
          | [y] => if y.q then some ⟨kindOf xt, 0, y.text⟩ else none
          | _ => none
        else if most (kindOf xt) ≠ 0 then match r with
          | [y] => if y.q then none else if Nm.isNum y.text 9 then some ⟨kindOf xt, Nm.num y.text 9, []⟩ else none
          | _ => none
        else match r with
          | [] => some ⟨kindOf xt, 0, []⟩
          | _ => none := by unfold one; rfl
      have e2 : oneE (⟨xt, xl, xc, false⟩ :: r) = if isText (kindOf xt) then match r with
          | [y] => if y.q then some ⟨kindOf xt, 0, y.text⟩ else none
          | _ => none
        else if most (kindOf xt) ≠ 0 then match r with
          | [y] => if y.q then none else match numE y.text with
            | some v => some ⟨kindOf xt, v, []⟩
            | none => none
          | _ => none
        else match r with
          | [] => some ⟨kindOf xt, 0, []⟩
          | _ => none := by unfold oneE; rfl
      rw [e1, e2]
      by_cases hk : kindOf xt = 0
      · rw [if_pos hk, hk]
        refine .inr ⟨rfl, ?_⟩
        rw [if_neg (by simp [isText]), if_neg (by simp [most])]
        cases r with
        | nil => exact .inr ⟨_, rfl, by simp [right]⟩
        | cons y r => exact .inl rfl
      · rw [if_neg hk]
        by_cases h1 : isText (kindOf xt) = true
        · rw [if_pos h1, if_pos h1]
          rcases r with _ | ⟨⟨yt, yl, yc, yq⟩, _ | ⟨z, r⟩⟩
          · exact .inr ⟨rfl, .inl rfl⟩
          · cases yq with
            | false => exact .inr ⟨rfl, .inl rfl⟩
            | true => exact .inl ⟨_, rfl, rfl⟩
          · exact .inr ⟨rfl, .inl rfl⟩
        · rw [if_neg h1, if_neg h1]
          by_cases h2 : most (kindOf xt) ≠ 0
          · rw [if_pos h2, if_pos h2]
            rcases r with _ | ⟨⟨yt, yl, yc, yq⟩, _ | ⟨z, r⟩⟩
            · exact .inr ⟨rfl, .inl rfl⟩
            · cases yq with
              | false =>
                show (∃ d, (if Nm.isNum yt 9 then some (D.mk (kindOf xt) (Nm.num yt 9) []) else none) = some d ∧ (match numE yt with
                  | some v => some (E.mk (kindOf xt) v [])
                  | none => none) = some d.e) ∨ ((if Nm.isNum yt 9 then some (D.mk (kindOf xt) (Nm.num yt 9) []) else none) = none ∧ ((match numE yt with
                  | some v => some (E.mk (kindOf xt) v [])
                  | none => none) = none ∨ ∃ x, (match numE yt with
                  | some v => some (E.mk (kindOf xt) v [])
                  | none => none) = some x ∧ right x = false))
                rcases hn : Nm.isNum yt 9 with _ | _
                · refine .inr ⟨rfl, ?_⟩
                  rcases hv : numE yt with _ | v
                  · exact .inl rfl
                  · exact .inr ⟨_, rfl, right_num (num_bad (hR ⟨yt, yl, yc, false⟩ (by simp)) hn hv)⟩
                · refine .inl ⟨⟨kindOf xt, Nm.num yt 9, []⟩, rfl, ?_⟩
                  rw [num_good hn]
                  rfl
              | true => exact .inr ⟨rfl, .inl rfl⟩
            · exact .inr ⟨rfl, .inl rfl⟩
          · rw [if_neg h2, if_neg h2]
            rcases r with _ | ⟨y, r⟩
            · exact .inl ⟨_, rfl, rfl⟩
            · exact .inr ⟨rfl, .inl rfl⟩
theorem partsE_pre : ∀ (R cur : List Ln.W) (out : List E) (M : List E), partsE cur out R = some M → ∀ x ∈ out, x ∈ M
  | [], cur, out, M, h, x, hx => by
    unfold partsE at h
    rcases ho : oneE cur with _ | d
    · rw [ho] at h; cases h
    · rw [ho] at h
      injection h with h
      subst h
      simp [hx]
  | y :: R, cur, out, M, h, x, hx => by
    unfold partsE at h
    split at h
    · rcases ho : oneE cur with _ | d
      · rw [ho] at h; cases h
      · rw [ho] at h
        exact partsE_pre R [] _ M h x (by simp [hx])
    · exact partsE_pre R _ out M h x hx
def fin (M : Option (List E)) : Option (List E) := match M with
  | none => none
  | some L => if okL L then some L else none
def finD (M : Option (List D)) : Option (List D) := match M with
  | none => none
  | some L => if ok L then some L else none
theorem fin_bad {R cur : List Ln.W} {out : List E} {x : E} (hx : x ∈ out) (h : right x = false) : fin (partsE cur out R) = none := by
  unfold fin
  split
  · rfl
  · rename_i L hL
    rw [okL_bad (partsE_pre R cur out L hL x hx) h]
    rfl
theorem fin_end {out : List D} : fin (some (out.map D.e)) = (finD (some out)).map (List.map D.e) := by
  unfold fin finD
  simp only
  rw [okL_map]
  split <;> rfl
theorem parts_rel : ∀ (R cur : List Ln.W) (out : List D), (∀ x ∈ cur, ∀ c ∈ x.text, c < 256) → (∀ x ∈ R, ∀ c ∈ x.text, c < 256) → fin (partsE cur (out.map D.e) R) = (finD (parts cur out R)).map (List.map D.e)
  | [], cur, out, hc, _ => by
    unfold partsE parts
    rcases one_rel cur hc with ⟨d, h1, h2⟩ | ⟨h1, h2 | ⟨x, h2, h3⟩⟩
    · rw [h1, h2]
      show fin (some (out.map D.e ++ [d.e])) = (finD (some (out ++ [d]))).map (List.map D.e)
      rw [← fin_end]
      simp
    · rw [h1, h2]; rfl
    · rw [h1, h2]
      show fin (some (out.map D.e ++ [x])) = none
      unfold fin
      simp only
      rw [okL_bad (x := x) (by simp) h3]
      rfl
  | y :: R, cur, out, hc, hr => by
    unfold partsE parts
    rcases hs : sep y with _ | _
    · simp only [Bool.false_eq_true, if_false]
      refine parts_rel R (cur ++ [y]) out (fun x hx => ?_) fun x hx => hr x (by simp [hx])
      rcases List.mem_append.1 hx with hx | hx
      · exact hc x hx
      · rw [List.mem_singleton.1 hx]; exact hr y (by simp)
    · simp only [if_true]
      rcases one_rel cur hc with ⟨d, h1, h2⟩ | ⟨h1, h2 | ⟨x, h2, h3⟩⟩
      · rw [h1, h2]
        simp only
        rw [show out.map D.e ++ [d.e] = (out ++ [d]).map D.e from by simp]
        exact parts_rel R [] (out ++ [d]) (by simp) fun x hx => hr x (by simp [hx])
      · rw [h1, h2]; rfl
      · rw [h1, h2]
        simp only
        rw [fin_bad (x := x) (by simp) h3]
        rfl
theorem parse_rel {R : List Ln.W} (hr : ∀ x ∈ R, ∀ c ∈ x.text, c < 256) : fin (partsE [] [] R) = (parse R).map (List.map D.e) := by
  have := parts_rel R [] [] (by simp) hr
  rw [List.map_nil] at this
  exact this
theorem partsE_run : ∀ (s rest cur : List Ln.W) (out : List E), (∀ x ∈ s, sep x = false) → partsE cur out (s ++ rest) = partsE (cur ++ s) out rest
  | [], rest, cur, out, _ => by rw [List.nil_append, List.append_nil]
  | x :: s, rest, cur, out, h => by
    rw [List.cons_append, partsE, h x (by simp), if_neg (by simp), partsE_run s rest (cur ++ [x]) out fun y hy => h y (by simp [hy]), List.append_assoc]
    rfl
theorem partsE_last {R : List Ln.W} {out : List E} (h : ∀ j (hj : j < R.length), sep (R[j]'hj) = false) : partsE [] out R = match oneE R with
    | none => none
    | some d => some (out ++ [d]) := by
  have := partsE_run R [] [] out fun x hx => by
    obtain ⟨j, hj, rfl⟩ := List.getElem_of_mem hx
    exact h j hj
  rw [List.append_nil, List.nil_append] at this
  rw [this, partsE]
theorem partsE_cut {R : List Ln.W} {out : List E} {k : Nat} (hk : k < R.length) (hs : sep (R[k]'hk) = true) (h : ∀ j (hj : j < R.length), j < k → sep (R[j]'hj) = false) : partsE [] out R = match oneE (R.take k) with
    | none => none
    | some d => partsE [] (out ++ [d]) (R.drop (k + 1)) := by
  have e : R = R.take k ++ (R[k]'hk :: R.drop (k + 1)) := by
    rw [← List.drop_eq_getElem_cons hk, List.take_append_drop]
  have := partsE_run (R.take k) (R[k]'hk :: R.drop (k + 1)) [] out fun x hx => by
    obtain ⟨j, hj, rfl⟩ := List.getElem_of_mem hx
    rw [List.length_take] at hj
    rw [List.getElem_take]
    exact h j (by omega) (by omega)
  rw [← e, List.nil_append] at this
  rw [this, partsE, hs, if_pos rfl]
end Go.Proofs.Ytemliglhippdcaa.Ac
