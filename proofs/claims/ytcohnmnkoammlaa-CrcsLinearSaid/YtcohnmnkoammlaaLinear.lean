/- CrcsLinear: the sum of three rows of bytes laid on each other is their sums laid on each other. -/
import Derived.Test.YtcohnmnkoammlaaCrcRef
import Derived.Deep.DeepCutAuto
import Derived.Deep.LoopGhost
import Derived.Deep.OwnRows
import Derived.BigQuiet
import Derived.Deep.QuietTactic
import Derived.RegionTactic
import Derived.Deep.RegionWith
namespace Go.Proofs.Ytcohnmnkoammlaa
open Go.ChangeShapes Go.WideShapes Go.ChangeAt Go.RowKit

theorem run_min4 {P : Program} (w : World) (ts : Array TypeId) (t : TypeId) (x y z u n : Int) (h : min (min (min x y) z) u = n) : (Builtin.min_ ts t #[.int .i64 x, .int .i64 y, .int .i64 z, .int .i64 u]).run P w = .ok (.int .i64 n) w := by
  have e : (if u < (if z < (if y < x then y else x) then z else (if y < x then y else x)) then u else (if z < (if y < x then y else x) then z else (if y < x then y else x))) = n := by
    subst h
    simp only [Int.min_def]
    repeat' split
    all_goals omega
  simp [Builtin.min_, Builtin.min2, e]
theorem infoU8 : (Try.prog.info? 5).map (fun i => (i.zero, i.size, i.bytes)) = some (some (.int .u8 0), 1, 1) := by kernel_rfl

/-- The row that the loop lays, behind k rounds. -/
def laidTo (la lb lc : List Nat) (k j : Nat) : Value := .int .u8 ((if j < k then la.getD j 0 ^^^ lb.getD j 0 ^^^ lc.getD j 0 else 0 : Nat) : Int)

theorem xor3_u8 (a b c : Nat) (ha : a < 256) (hb : b < 256) (hc : c < 256) : bits .xor .u8 (bits .xor .u8 (a : Int) (b : Int)) (c : Int) = ((a ^^^ b ^^^ c : Nat) : Int) := by
  rw [u8_xor_nat a b ha hb]
  exact u8_xor_nat _ _ (Nat.xor_lt_two_pow (n := 8) ha hb) hc
theorem laid_next {wr : World} {g : Nat} {e : TypeId} {n : Nat} {la lb lc : List Nat} {k xa xb xc : Nat} (h : wr.rowIs g e n (laidTo la lb lc k)) (ha : la.getD k 0 = xa) (hb : lb.getD k 0 = xb) (hc : lc.getD k 0 = xc) :
    ((wr.setCell ⟨g, k, none⟩ (.int .u8 ((xa ^^^ xb ^^^ xc : Nat) : Int))).drew).rowIs g e n (laidTo la lb lc (k + 1)) := by
  subst ha hb hc
  refine (h.set k _).congr fun j _ => ?_
  unfold laidTo
  by_cases hj : j = k
  · subst hj
    rw [if_pos rfl, if_pos (by omega)]
  · rw [if_neg hj]
    by_cases hjk : j < k
    · rw [if_pos hjk, if_pos (by omega)]
    · rw [if_neg hjk, if_neg (by omega)]

/-- The row that the loop has laid at its end. -/
def laidRow (la lb lc : List Nat) (k : Nat) : List Nat := List.zipWith (· ^^^ ·) (List.zipWith (· ^^^ ·) (la.take k) (lb.take k)) (lc.take k)
theorem laidRow_length {la lb lc : List Nat} {k : Nat} (h1 : k ≤ la.length) (h2 : k ≤ lb.length) (h3 : k ≤ lc.length) : (laidRow la lb lc k).length = k := by
  unfold laidRow
  simp
  omega
theorem laidRow_getD {la lb lc : List Nat} {k i : Nat} (h1 : k ≤ la.length) (h2 : k ≤ lb.length) (h3 : k ≤ lc.length) (hi : i < k) : (laidRow la lb lc k).getD i 0 = la.getD i 0 ^^^ lb.getD i 0 ^^^ lc.getD i 0 := by
  unfold laidRow
  simp only [List.getD_eq_getElem?_getD, List.getElem?_zipWith, List.getElem?_take]
  rw [if_pos hi, List.getElem?_eq_getElem (show i < la.length by omega), List.getElem?_eq_getElem (show i < lb.length by omega), List.getElem?_eq_getElem (show i < lc.length by omega)]
  rw [if_pos hi, if_pos hi]
  rfl
theorem bytes_laid {wr : World} {g : Nat} {e : TypeId} {la lb lc : List Nat} {k : Nat} (h : wr.rowIs g e k (laidTo la lb lc k)) (ha : ∀ c ∈ la, c < 256) (hb : ∀ c ∈ lb, c < 256) (hc : ∀ c ∈ lc, c < 256) (hk : k ≤ 200)
    (h1 : k ≤ la.length) (h2 : k ≤ lb.length) (h3 : k ≤ lc.length) : Bytes wr (.slice (some ⟨g, 0, none⟩) k k) (laidRow la lb lc k) := by
  have hlen := laidRow_length h1 h2 h3
  refine Bytes.of (fun c hc' => ?_) hlen (by omega) (Nat.le_refl _) fun _ => ⟨g, 0, rfl, fun i hi => ?_⟩
  · obtain ⟨i, hi, rfl⟩ := List.getElem_of_mem hc'
    have e := laidRow_getD (i := i) h1 h2 h3 (by omega)
    rw [List.getD_eq_getElem?_getD, List.getElem?_eq_getElem hi, Option.getD_some] at e
    rw [e]
    exact Nat.xor_lt_two_pow (n := 8) (Nat.xor_lt_two_pow (n := 8) (u8_lt ha i) (u8_lt hb i)) (u8_lt hc i)
  · rw [show 0 + i = i from by omega, h.cell hi, laidRow_getD h1 h2 h3 hi]
    unfold laidTo
    rw [if_pos hi]
theorem bytes_cut {w wr : World} {A : Option Addr} {n k c : Nat} {l : List Nat} (hbel : Below w.heap.size w wr) (hl : ∀ c ∈ l, c < 256) (hn : l.length = n) (hc : n ≤ c) (hm : n ≤ 9223372036854775807)
    (hx : 0 < n → ∃ b off, A = some ⟨b, off, none⟩ ∧ ∀ i, i < n → w.cell? ⟨b, off + i, none⟩ = some (.int .u8 ((l.getD i 0 : Nat) : Int))) (hk : k ≤ n) : Bytes wr (.slice A k c) (l.take k) := by
  refine Bytes.of (fun c hc' => hl c (List.mem_of_mem_take hc')) (by rw [List.length_take]; omega) (by omega) (by omega) fun h0 => ?_
  obtain ⟨b, off, rfl, h⟩ := hx (by omega)
  refine ⟨b, off, rfl, fun i hi => ?_⟩
  have hcell := h i (by omega)
  refine ((hbel.cell (p := ⟨b, off + i, none⟩) (World.block_lt_of_cell? w _ hcell)).trans hcell).trans ?_
  rw [List.getD_eq_getElem?_getD, List.getD_eq_getElem?_getD, List.getElem?_take, if_pos hi]
theorem laid_eq {la lb lc : List Nat} {k sx sa sb sc : Nat} (ha : ∀ c ∈ la, c < 256) (hb : ∀ c ∈ lb, c < 256) (h1 : k ≤ la.length) (h2 : k ≤ lb.length) (h3 : k ≤ lc.length)
    (hx : Crc.sum (laidRow la lb lc k) = sx) (hsa : Crc.sum (la.take k) = sa) (hsb : Crc.sum (lb.take k) = sb) (hsc : Crc.sum (lc.take k) = sc) (hc : ∀ c ∈ lc, c < 256) :
    ((sx : Int) == bits .xor .u32 (bits .xor .u32 (sa : Int) (sb : Int)) (sc : Int)) = true := by
  have ka : sa < 4294967296 := hsa ▸ Crc.sum_lt _ fun c hc => ha c (List.mem_of_mem_take hc)
  have kb : sb < 4294967296 := hsb ▸ Crc.sum_lt _ fun c hc => hb c (List.mem_of_mem_take hc)
  have kc : sc < 4294967296 := hsc ▸ Crc.sum_lt _ fun c' hc' => hc c' (List.mem_of_mem_take hc')
  rw [u32_xor_nat sa sb ka kb, u32_xor_nat (sa ^^^ sb) sc (Crc.xor_lt ka kb) kc]
  have := Crc.zip3 (la.take k) (lb.take k) (lc.take k) (by simp; omega) (by simp; omega)
  rw [hsa, hsb, hsc] at this
  rw [← hx]
  unfold laidRow
  rw [this]
  simp

set_option maxHeartbeats 1000000 in
theorem linear_any (va vb vc : Value) (la lb lc : List Nat) (w : World) (ha : Bytes w va la) (hb : Bytes w vb lb) (hc : Bytes w vc lc) :
    Calls Try.prog 4 #[va, vb, vc] w fun e w' => e = .returned (.bool true) ∧ Below w.heap.size w w' := by
  obtain ⟨ha1, ham, Aa, ca, rfl, hca, hxa⟩ := ha.parts
  obtain ⟨hb1, hbm, Ab, cb, rfl, hcb, hxb⟩ := hb.parts
  obtain ⟨hc1, hcm, Ac, cc, rfl, hcc, hxc⟩ := hc.parts
  clear ha hb hc
  obtain ⟨na, hna⟩ : ∃ n, la.length = n := ⟨_, rfl⟩
  obtain ⟨nb, hnb⟩ : ∃ n, lb.length = n := ⟨_, rfl⟩
  obtain ⟨nc, hnc⟩ : ∃ n, lc.length = n := ⟨_, rfl⟩
  rw [hna] at ham hca hxa ⊢
  rw [hnb] at hbm hcb hxb ⊢
  rw [hnc] at hcm hcc hxc ⊢
  have HNA := Lib.hid hna
  have HNB := Lib.hid hnb
  have HNC := Lib.hid hnc
  clear hna hnb hnc
  obtain ⟨n, hn⟩ : ∃ n, min (min (min na nb) nc) 200 = n := ⟨_, rfl⟩
  have h1 : n ≤ na := by omega
  have h2 : n ≤ nb := by omega
  have h3 : n ≤ nc := by omega
  have h4 : n ≤ 200 := by omega
  have hmin := fun (W : World) (ts : Array TypeId) (t : TypeId) => run_min4 (P := Try.prog) W ts t (na : Int) (nb : Int) (nc : Int) 200 (n : Int) (by omega)
  have hmk := fun W => run_make_row' (P := Try.prog) 26 5 (.int .u8 0) 1 Try.underlying26 infoU8 rfl .i64 .i64 n (by omega) (by omega) W
  have HN := Lib.hid hn
  clear hn
  go_enter Try.func4, Try.ntmps4
  go_wp2
  go_loopw [21] (fun i wr => ∃ k : Nat, k ≤ n ∧ i = .int .i64 k ∧ wr.rowIs w.heap.size 5 n (laidTo la lb lc k) ∧ Below w.heap.size w wr) (fun i _ => n - (intOf i).toNat)
  case atStart => exact ⟨0, by omega, rfl, (World.rowIs_made w _ n _).congr fun j _ => by simp [laidTo], (Below.refl _ _).alloc (Nat.le_refl _) _⟩
  case round =>
    obtain ⟨k, hk, rfl, hrow, hbel⟩ := hrel
    by_cases hlt : k < n
    · obtain ⟨ba, oa, rfl, hya⟩ := hxa (by omega)
      obtain ⟨bb, ob, rfl, hyb⟩ := hxb (by omega)
      obtain ⟨bc, oc, rfl, hyc⟩ := hxc (by omega)
      obtain ⟨xa, qa, QA, hza⟩ := getD_hid ha1 hya (k := k) (by omega)
      obtain ⟨xb, qb, QB, hzb⟩ := getD_hid hb1 hyb (k := k) (by omega)
      obtain ⟨xc, qc, QC, hzc⟩ := getD_hid hc1 hyc (k := k) (by omega)
      have ra := (hbel.cell (p := ⟨ba, oa + k, none⟩) (World.block_lt_of_cell? w _ hza)).trans hza
      have rb := (hbel.cell (p := ⟨bb, ob + k, none⟩) (World.block_lt_of_cell? w _ hzb)).trans hzb
      have rc := (hbel.cell (p := ⟨bc, oc + k, none⟩) (World.block_lt_of_cell? w _ hzc)).trans hzc
      obtain ⟨u, hu⟩ : ∃ u, wr.cell? ⟨w.heap.size, k, none⟩ = some u := ⟨_, hrow.cell hlt⟩
      have hfz := hrow.frozen k
      have b1 : (k : Int) < (na : Int) := by omega
      have b2 : (k : Int) < (nb : Int) := by omega
      have b3 : (k : Int) < (nc : Int) := by omega
      have b4 : (k : Int) < (n : Int) := by omega
      clear hxa hxb hxc hya hyb hyc
      go_wp2
      go_region
      rw [xor3_u8 xa xb xc qa qb qc]
      go_wp2
      go_roundw
      case rel => exact ⟨k + 1, by omega, by go_num, laid_next hrow QA.out QB.out QC.out, (hbel.setCell (Nat.le_refl _) _).drew⟩
      case measure => simp [intOf]; omega
    · obtain rfl : k = n := by omega
      have c1 : k ≤ ca := by omega
      have c2 : k ≤ cb := by omega
      have c3 : k ≤ cc := by omega
      have HX : Hid (Bytes wr (.slice (some ⟨w.heap.size, 0, none⟩) k k) (laidRow la lb lc k)) := bytes_laid hrow ha1 hb1 hc1 (by omega) (by rw [HNA.out]; exact h1) (by rw [HNB.out]; exact h2) (by rw [HNC.out]; exact h3)
      have HA : Hid (Bytes wr (.slice Aa k ca) (la.take k)) := bytes_cut hbel ha1 HNA.out hca (by omega) hxa h1
      have HB : Hid (Bytes wr (.slice Ab k cb) (lb.take k)) := bytes_cut hbel hb1 HNB.out hcb (by omega) hxb h2
      have HC : Hid (Bytes wr (.slice Ac k cc) (lc.take k)) := bytes_cut hbel hc1 HNC.out hcc (by omega) hxc h3
      obtain ⟨sx, hsx⟩ : ∃ s, Crc.sum (laidRow la lb lc k) = s := ⟨_, rfl⟩
      obtain ⟨sa, hsa⟩ : ∃ s, Crc.sum (la.take k) = s := ⟨_, rfl⟩
      obtain ⟨sb, hsb⟩ : ∃ s, Crc.sum (lb.take k) = s := ⟨_, rfl⟩
      obtain ⟨sc, hsc⟩ : ∃ s, Crc.sum (lc.take k) = s := ⟨_, rfl⟩
      have heq : ((sx : Int) == bits .xor .u32 (bits .xor .u32 (sa : Int) (sb : Int)) (sc : Int)) = true := laid_eq ha1 hb1 (by rw [HNA.out]; exact h1) (by rw [HNB.out]; exact h2) (by rw [HNC.out]; exact h3) hsx hsa hsb hsc hc1
      have KX : Hid (((Crc.sum (laidRow la lb lc k) : Nat) : Int) = (sx : Int)) := by rw [hsx]; exact rfl
      have KA : Hid (((Crc.sum (la.take k) : Nat) : Int) = (sa : Int)) := by rw [hsa]; exact rfl
      have KB : Hid (((Crc.sum (lb.take k) : Nat) : Int) = (sb : Int)) := by rw [hsb]; exact rfl
      have KC : Hid (((Crc.sum (lc.take k) : Nat) : Int) = (sc : Int)) := by rw [hsc]; exact rfl
      clear hsx hsa hsb hsc hxa hxb hxc hmin hmk
      go_wp2
      go_region_with (first | (go_at_call_of 6 (Value.slice (some ⟨w.heap.size, 0, none⟩) k k); refine (sum_is _ _ _ _ ?_ KX.out).mono ?_; exact HX.out; rintro e w' ⟨rfl, rfl⟩) | (go_at_call_of 6 (Value.slice Aa k ca); refine (sum_is _ _ _ _ ?_ KA.out).mono ?_; exact HA.out; rintro e w' ⟨rfl, rfl⟩) | (go_at_call_of 6 (Value.slice Ab k cb); refine (sum_is _ _ _ _ ?_ KB.out).mono ?_; exact HB.out; rintro e w' ⟨rfl, rfl⟩) | (go_at_call_of 6 (Value.slice Ac k cc); refine (sum_is _ _ _ _ ?_ KC.out).mono ?_; exact HC.out; rintro e w' ⟨rfl, rfl⟩) | (go_at_call 7; refine (awake_any _).mono ?_; rintro e w' ⟨rfl, hbw⟩))
      all_goals
        go_wp2
        go_ret
        exact ⟨rfl, hbel.drew.trans (hbw.mono hbel.size)⟩

set_option maxRecDepth 100000 in
theorem linear_lifted (os : Os) (started : os.Started) (H : Type) (enc : TypeId × Value → H) :
    ReturnsInHanded {} Try.checked os 4 .any (Rows.crcsLinearSpec.pre6 enc Try.prog Try.f4 Rows.crcsLinearRow.domain false) (Rows.crcsLinearSpec.post enc Try.prog Try.f4 false true false false) := by
  refine returnsInHanded_of_change (C := Try.checked) own started (by kernel_rfl) Try.func4
    (ChangeSpec.witness6 (enc := enc) (C := Try.checked) false ⟨#[], #[.slice none 0 0, .slice none 0 0, .slice none 0 0], []⟩ 8 (by kernel_rfl) (by kernel_rfl) (by kernel_rfl) (by kernel_rfl)) ?_
  intro W base args ds gs before hval hW _ _
  have hW' := hW
  obtain ⟨p, q, hA, hV, _, _, _⟩ := hW
  rw [show Try.f4.params.toList = [26, 26, 26] from by kernel_rfl] at hA
  obtain ⟨v0, v1, v2, d0, d1, d2, p0, p1, p2, rfl, rfl, rfl, h0, h1, h2⟩ := trodAll_three hA
  obtain ⟨la, ha⟩ := open_bytes (hval 0 26 v0 (by kernel_rfl) rfl) h0
  obtain ⟨lb, hb⟩ := open_bytes (hval 1 26 v1 (by kernel_rfl) rfl) h1
  obtain ⟨lc, hc⟩ := open_bytes (hval 2 26 v2 (by kernel_rfl) rfl) h2
  refine (linear_any v0 v1 v2 la lb lc W ha hb hc).mono fun e W' ⟨he, hb⟩ => ⟨_, he, ?_⟩
  exact law_post laidOut (by kernel_rfl) (by kernel_rfl) Try.underlying4 rfl hW' (by simp [Rows.crcsLinearSpec]) hb

theorem linear_holds : Rows.CrcsLinearSaid :=
  OpenClaim.holds_of_wide 4 Try.f4 rfl rfl rfl rfl rfl rfl rfl ⟨rfl, rfl, rfl, rfl, rfl⟩ rfl rfl rfl rfl rfl (by kernel_rfl) Try.func4 (by kernel_rfl)
    (of_decide_eq_true (by kernel_rfl)) (by unfold Func.isWrapper; first | (rw [if_pos (by decide +kernel)]; kernel_rfl) | (rw [if_neg (by decide +kernel)]; exact ⟨rfl, rfl⟩))
    (fun os started H enc _ => linear_lifted os started H enc)

#print axioms linear_holds
end Go.Proofs.Ytcohnmnkoammlaa
