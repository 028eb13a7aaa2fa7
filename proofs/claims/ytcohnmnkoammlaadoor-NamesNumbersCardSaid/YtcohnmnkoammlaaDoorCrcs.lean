/- What package crcs returns: the plain sum of the slice's bytes; what a slice of bytes is. -/
import Derived.Test.YtcohnmnkoammlaaDoorKit
import Derived.Test.YtcohnmnkoammlaaDoorCrcMath
import Derived.WalkSpells
import Derived.WalkLawsBesides
import Derived.Lib.Hide
import Derived.Lib.SlBytesConst
namespace Go.Proofs.YtcohnmnkoammlaaDoor
open Go.ChangeShapes Go.WideShapes Go.ChangeAt Go.RowKit

theorem ret_u32 {a b : Int} (h : a = b) : Ending.returned (.int .u32 a) = .returned (.int .u32 b) := by rw [h]

theorem u32_eq {a b : Int} (h : a = b) : Value.int .u32 a = .int .u32 b := by rw [h]
theorem and_one {t : Nat} (ht : t < 4294967296) : bits .and .u32 (t : Int) 1 = ((t % 2 : Nat) : Int) := by
  have := u32_and_nat t 1 ht (by omega)
  rw [Nat.and_one_is_mod] at this
  exact this
theorem half_even {t : Nat} (ht : t < 4294967296) (h : (bits .and .u32 (t : Int) 1 == 1) = false) : (t : Int) / 2 = ((Crc.half t : Nat) : Int) := by
  rw [and_one ht] at h
  have h' : t % 2 ≠ 1 := fun e => by rw [e] at h; simp at h
  unfold Crc.half
  rw [if_neg h']
  omega
theorem half_odd {t : Nat} (ht : t < 4294967296) (h : (bits .and .u32 (t : Int) 1 == 1) = true) : bits .xor .u32 ((t : Int) / 2) 3988292384 = ((Crc.half t : Nat) : Int) := by
  rw [and_one ht] at h
  have h' : t % 2 = 1 := by
    rcases Nat.mod_two_eq_zero_or_one t with e | e
    · rw [e] at h; simp at h
    · exact e
  unfold Crc.half Crc.poly
  rw [if_pos h']
  exact u32_xor_nat (t / 2) 3988292384 (by omega) (by omega)

set_option maxHeartbeats 400000 in
theorem shift_any (s : Nat) (hs : s < 4294967296) (w : World) :
    Calls Tryd.prog 8 #[.int .u32 (s : Int)] w fun e w' => e = .returned (.int .u32 ((Crc.times 8 s : Nat) : Int)) ∧ w = w' := by
  go_enter Tryd.func8, Tryd.ntmps8
  go_wp2
  go_loop [0, 4] (fun t i => ∃ k : Nat, k ≤ 8 ∧ i = .int .i64 k ∧ t = .int .u32 ((Crc.times k s : Nat) : Int)) (fun _ i => 8 - (intOf i).toNat)
  case atStart => exact ⟨0, by omega, rfl, rfl⟩
  case round =>
    obtain ⟨k, hk, rfl, rfl⟩ := hrel
    have ht : Crc.times k s < 4294967296 := Crc.times_lt k hs
    by_cases hlt : k < 8
    · go_wp2
      · go_round
        case rel => exact ⟨k + 1, by omega, by go_num, u32_eq (by rw [Crc.times_succ']; exact half_odd ht (by assumption))⟩
        case measure => simp [intOf]; omega
      · go_round
        case rel => exact ⟨k + 1, by omega, by go_num, u32_eq (by rw [Crc.times_succ']; exact half_even ht (by assumption))⟩
        case measure => simp [intOf]; omega
    · obtain rfl : k = 8 := by omega
      go_wp2
      go_ret
      exact ⟨rfl, rfl⟩

/-- A slice of bytes that reads as a list: nil, empty, or a row of cells. -/
def Bytes (w : World) (v : Value) (l : List Nat) : Prop :=
  (∀ c ∈ l, c < 256) ∧ l.length ≤ 9223372036854775807 ∧ ((l = [] ∧ ∃ A c, v = .slice A 0 c) ∨
    ∃ b off c, v = .slice (some ⟨b, off, none⟩) l.length c ∧ l.length ≤ c ∧ ∀ i, i < l.length → w.cell? ⟨b, off + i, none⟩ = some (.int .u8 ((l.getD i 0 : Nat) : Int)))

theorem Bytes.parts {w : World} {v : Value} {l : List Nat} (h : Bytes w v l) : (∀ c ∈ l, c < 256) ∧ l.length ≤ 9223372036854775807 ∧
    ∃ A c, v = .slice A l.length c ∧ l.length ≤ c ∧ (0 < l.length → ∃ b off, A = some ⟨b, off, none⟩ ∧ ∀ i, i < l.length → w.cell? ⟨b, off + i, none⟩ = some (.int .u8 ((l.getD i 0 : Nat) : Int))) := by
  obtain ⟨h1, h2, ⟨rfl, A, c, rfl⟩ | ⟨b, off, c, rfl, hc, hcell⟩⟩ := h
  · exact ⟨h1, h2, A, c, rfl, Nat.zero_le _, fun h => absurd h (by simp)⟩
  · exact ⟨h1, h2, some ⟨b, off, none⟩, c, rfl, hc, fun _ => ⟨b, off, rfl, hcell⟩⟩
theorem Bytes.of {w : World} {l : List Nat} {n : Nat} {A : Option Addr} {c : Nat} (h1 : ∀ c ∈ l, c < 256) (hn : l.length = n) (hm : n ≤ 9223372036854775807) (hc : n ≤ c)
    (h : 0 < n → ∃ b off, A = some ⟨b, off, none⟩ ∧ ∀ i, i < n → w.cell? ⟨b, off + i, none⟩ = some (.int .u8 ((l.getD i 0 : Nat) : Int))) : Bytes w (.slice A n c) l := by
  subst hn
  rcases Nat.eq_zero_or_pos l.length with h0 | h0
  · have : l = [] := List.eq_nil_of_length_eq_zero h0
    subst this
    exact ⟨h1, hm, .inl ⟨rfl, A, c, rfl⟩⟩
  · obtain ⟨b, off, rfl, hcell⟩ := h h0
    exact ⟨h1, hm, .inr ⟨b, off, c, rfl, hc, hcell⟩⟩

theorem u8_lt {l : List Nat} (h : ∀ c ∈ l, c < 256) (i : Nat) : l.getD i 0 < 256 := by
  rw [List.getD_eq_getElem?_getD]
  by_cases hi : i < l.length
  · rw [List.getElem?_eq_getElem hi]; exact h _ (List.getElem_mem hi)
  · rw [List.getElem?_eq_none (by omega)]; decide

theorem not_u32 {s : Nat} (hs : s < 4294967296) : bits .xor .u32 IntKind.u32.max (s : Int) = ((s ^^^ 0xFFFFFFFF : Nat) : Int) := by
  rw [Nat.xor_comm]
  exact u32_xor_nat 4294967295 s (by omega) hs

theorem take_snoc (l : List Nat) (k : Nat) (h : k < l.length) : l.take (k + 1) = l.take k ++ [l.getD k 0] := by
  rw [List.take_succ_eq_append_getElem h, List.getD_eq_getElem?_getD, List.getElem?_eq_getElem h]; rfl
theorem run_snoc (s : Nat) (l : List Nat) (c : Nat) : Crc.run s (l ++ [c]) = Crc.step (Crc.run s l) c := by
  unfold Crc.run; rw [List.foldl_append]; rfl

theorem getD_hid {w : World} {l : List Nat} {b off k n : Nat} (hb : ∀ c ∈ l, c < 256) (hc : ∀ i, i < n → w.cell? ⟨b, off + i, none⟩ = some (.int .u8 ((l.getD i 0 : Nat) : Int))) (h : k < n) :
    ∃ x : Nat, x < 256 ∧ Hid (l.getD k 0 = x) ∧ w.cell? ⟨b, off + k, none⟩ = some (.int .u8 (x : Int)) :=
  ⟨_, u8_lt hb k, rfl, hc k h⟩
theorem run_next {l : List Nat} {k x : Nat} (s : Nat) (h : k < l.length) (hx : l.getD k 0 = x) : Crc.times 8 (Crc.run s (l.take k) ^^^ x) = Crc.run s (l.take (k + 1)) := by
  rw [take_snoc l k h, run_snoc, hx]; rfl

set_option maxHeartbeats 400000 in
theorem sum_any (v : Value) (l : List Nat) (w : World) (h : Bytes w v l) :
    Calls Tryd.prog 6 #[v] w fun e w' => e = .returned (.int .u32 ((Crc.sum l : Nat) : Int)) ∧ w = w' := by
  obtain ⟨hb, hm, ⟨rfl, A, c, rfl⟩ | ⟨b, off, c, rfl, hc, hcell⟩⟩ := h
  · have hz := not_u32 (s := 4294967295) (by decide)
    go_enter Tryd.func6, Tryd.ntmps6
    go_wp2
    go_loop [3, 8] (fun t i => i = .int .i64 0 ∧ t = .int .u32 4294967295) (fun _ i => 0 - (intOf i).toNat)
    case atStart => exact ⟨rfl, rfl⟩
    case round =>
      obtain ⟨rfl, rfl⟩ := hrel
      go_wp2
      go_ret
      exact ⟨ret_u32 (by decide +kernel), rfl⟩
  · obtain ⟨n, hn⟩ : ∃ n, l.length = n := ⟨_, rfl⟩
    rw [hn] at hm hc hcell ⊢
    have HN := Lib.hid hn
    clear hn
    go_enter Tryd.func6, Tryd.ntmps6
    go_wp2
    go_loop [3, 8] (fun t i => ∃ k : Nat, k ≤ n ∧ i = .int .i64 k ∧ t = .int .u32 ((Crc.run 0xFFFFFFFF (l.take k) : Nat) : Int)) (fun _ i => n - (intOf i).toNat)
    case atStart => exact ⟨0, by omega, rfl, rfl⟩
    case round =>
      obtain ⟨k, hk, rfl, rfl⟩ := hrel
      have ht : Crc.run 0xFFFFFFFF (l.take k) < 4294967296 := Crc.run_lt _ (by decide) fun c hc => hb c (List.mem_of_mem_take hc)
      obtain ⟨S, hS⟩ : ∃ S, Crc.run 0xFFFFFFFF (l.take k) = S := ⟨_, rfl⟩
      rw [hS] at ht ⊢
      have HS := Lib.hid hS
      clear hS
      by_cases hlt : k < n
      · obtain ⟨x, hx, HX, hcx⟩ := getD_hid hb hcell hlt
        clear hcell hb
        go_wp2_with fail
        rw [u32_xor_nat S x ht (by omega)]
        refine (shift_any (S ^^^ x) (Crc.xor_lt ht (by omega)) _).mono ?_
        rintro e w' ⟨rfl, rfl⟩
        go_wp2
        go_round
        case rel => exact ⟨k + 1, by omega, by go_num, u32_eq (by rw [← run_next _ (by rw [HN.out]; exact hlt) HX.out, HS.out])⟩
        case measure => simp [intOf]; omega
      · obtain rfl : k = n := by omega
        go_wp2
        go_ret
        refine ⟨ret_u32 ?_, rfl⟩
        rw [not_u32 ht]
        unfold Crc.sum
        rw [← HS.out, List.take_of_length_le (by rw [HN.out]; exact Nat.le_refl _)]

theorem bytes_none (w : World) : Bytes w (.slice none 0 0) [] := ⟨by simp, by simp, .inl ⟨rfl, none, 0, rfl⟩⟩

/-- A row of bytes that has just been laid. -/
theorem bytes_new (w : World) (g : Nat) (hg : g = w.heap.size) (l : List Nat) (e : TypeId) (m : Nat × Nat) (hl : ∀ c ∈ l, c < 256) (hm : l.length ≤ 9223372036854775807) :
    Bytes (w.alloc (.cells (l.map fun n : Nat => Value.int .u8 (n : Int)).toArray e m)) (.slice (some ⟨g, 0, none⟩) l.length l.length) l := by
  subst hg
  refine ⟨hl, hm, .inr ⟨w.heap.size, 0, l.length, rfl, Nat.le_refl _, fun i hi => ?_⟩⟩
  have e1 : (w.alloc (.cells (l.map fun n : Nat => Value.int .u8 (n : Int)).toArray e m)).heap[w.heap.size]? = some (.cells (l.map fun n : Nat => Value.int .u8 (n : Int)).toArray e m) := heap_alloc_new w _
  unfold World.cell?
  rw [show 0 + i = i from by omega, e1]
  simp [hi]
theorem sum_is (v : Value) (l : List Nat) (w : World) (n : Int) (h : Bytes w v l) (hn : ((Crc.sum l : Nat) : Int) = n) :
    Calls Tryd.prog 6 #[v] w fun e w' => e = .returned (.int .u32 n) ∧ w = w' :=
  (sum_any v l w h).mono fun _ _ ⟨he, hw⟩ => ⟨by rw [he, hn], hw⟩

theorem convert_second {P : Program} (w : World) (O : Obj) (t e : TypeId) (C : Array Value) (n c : Nat) (ht : P.underlying t = some (.slice e)) (he : P.underlying e = some (.int .u8)) :
    (convert t t (.slice (some ⟨w.heap.size + 1, 0, none⟩) n c)).run P ((w.alloc O).alloc (.cells C e)) = .ok (.slice (some ⟨w.heap.size + 1, 0, none⟩) n c) ((w.alloc O).alloc (.cells C e (C.size, C.size + 1))) := by
  have := Lib.run_convert_bytes_const (P := P) (w.alloc O) t e C n c ht he
  simpa using this

/-- A slice of bytes among the arguments. -/
theorem open_bytes {H : Type} {enc : TypeId × Value → H} {W : World} {base : Nat} {v : Value} {d : DataW H} {p : List MemPlace} (hv : Value.okWide Tryd.prog W .any base 30 v)
    (h : DataW.Trod enc Tryd.prog W 0 (fun _ => true) true 30 v d p) : ∃ l, Bytes W v l := by
  obtain ⟨a0, len, cap, rfl⟩ := okWide_slice Tryd.underlying30 hv
  obtain ⟨fuel, hf⟩ := h
  rcases open_ints Tryd.underlying30 Tryd.underlying5 (by kernel_rfl) hf with ⟨hcs, _⟩ | ⟨a, len', cap', zs, hcs, _, hl, hm, hz, _, hcell, hw⟩
  · simp [Value.cells] at hcs
    obtain ⟨rfl, rfl, rfl⟩ := hcs
    exact ⟨[], bytes_none W⟩
  · simp [Value.cells] at hcs
    obtain ⟨rfl, rfl, rfl⟩ := hcs
    simp only [if_true] at hz
    have hwf : ∀ n ∈ zs, 0 ≤ n ∧ n < 256 := fun n hn => by
      have := hw n hn
      simp [Lit.wf, IntKind.min, IntKind.max, IntKind.signed, IntKind.bits] at this
      omega
    unfold maxLen at hm
    refine ⟨(zs.take len).map Int.toNat, Bytes.of (fun c hc => ?_) (by simp; omega) (by omega) hl fun h0 => ?_⟩
    · obtain ⟨n, hn, rfl⟩ := List.mem_map.1 hc
      have := hwf n (List.mem_of_mem_take hn)
      omega
    · obtain ⟨b, off, rfl, hc⟩ := ints_at hcell (by omega)
      refine ⟨b, off, rfl, fun i hi => ?_⟩
      rw [hc i (by omega)]
      have hi' : i < zs.length := by omega
      have := hwf _ (List.getElem_mem hi')
      simp [hi, hi']
      omega
end Go.Proofs.YtcohnmnkoammlaaDoor
