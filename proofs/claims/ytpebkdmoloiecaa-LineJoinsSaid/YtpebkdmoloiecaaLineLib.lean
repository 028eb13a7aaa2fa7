/- The library's searches for one byte, in plain words. -/
import Derived.Test.YtpebkdmoloiecaaShelf
import Derived.Test.YtpebkdmoloiecaaLineOwn
namespace Go.Proofs.Ytpebkdmoloiecaa
open Go.ChangeShapes Go.WideShapes Go.ChangeAt Go.RowKit

/-- Where a byte first stands, or that it doesn't. -/
def Idx (l : List Nat) (x : Nat) (i : Int) : Prop :=
  (∃ k, k < l.length ∧ l.getD k 0 = x ∧ (∀ y, y < k → l.getD y 0 ≠ x) ∧ i = (k : Int)) ∨ ((∀ y, y < l.length → l.getD y 0 ≠ x) ∧ i = -1)
theorem ofNat_eq {a b : Nat} (ha : a < 256) (hb : b < 256) : (UInt8.ofNat a == UInt8.ofNat b) = decide (a = b) := by
  rw [Bool.eq_iff_iff]
  simp only [beq_iff_eq, decide_eq_true_eq]
  refine ⟨fun h => ?_, fun h => by rw [h]⟩
  have := congrArg UInt8.toNat h
  simp at this
  omega
theorem idx_spec (x : Nat) (hx : x < 256) : ∀ (l : List Nat), (∀ c ∈ l, c < 256) → Idx l x (Lib.indexByte (l.map UInt8.ofNat) (UInt8.ofNat x))
  | [], _ => .inr ⟨fun y hy => absurd hy (by simp), rfl⟩
  | c :: r, h => by
    have hc := h c (by simp)
    rw [List.map_cons, Lib.indexByte, ofNat_eq hc hx]
    by_cases he : c = x
    · rw [decide_eq_true he, if_pos rfl]
      exact .inl ⟨0, by simp, he, fun y hy => absurd hy (by omega), rfl⟩
    · rw [decide_eq_false he, if_neg (by simp)]
      rcases idx_spec x hx r fun c hc => h c (by simp [hc]) with ⟨k, h1, h2, h3, h4⟩ | ⟨h1, h2⟩
      · rw [h4, if_neg (by simp)]
        refine .inl ⟨k + 1, by simpa using h1, by rw [List.getD_cons_succ]; exact h2, fun y hy => ?_, by omega⟩
        cases y with
        | zero => exact he
        | succ y => rw [List.getD_cons_succ]; exact h3 y (by omega)
      · rw [h2, if_pos (by rfl)]
        refine .inr ⟨fun y hy => ?_, rfl⟩
        cases y with
        | zero => exact he
        | succ y => rw [List.getD_cons_succ]; exact h1 y (by simpa using hy)
theorem bytesOf_nat {l : List Nat} : Lib.bytesOf (l.map fun n : Nat => (n : Int)) = l.map UInt8.ofNat := by
  unfold Lib.bytesOf
  rw [List.map_map]
  exact List.map_congr_left fun c _ => by simp
theorem getD_cast (l : List Nat) (i : Nat) : (l.map fun n : Nat => (n : Int)).getD i 0 = ((l.getD i 0 : Nat) : Int) := by
  rw [List.getD_eq_getElem?_getD, List.getD_eq_getElem?_getD, List.getElem?_map]
  cases l[i]? <;> rfl
theorem cast_byte (x : Nat) : (x : Int).toNat.toUInt8 = UInt8.ofNat x := by simp
theorem index_any (a : Addr) (n c x : Nat) (l : List Nat) (w : World) (hv : Bytes w (.slice (some a) n c) l) (hx : x < 256) :
    Calls Try.prog 21 #[.slice (some a) n c, .int .u8 x] w fun e w' => (∃ i, e = .returned (.int .i64 i) ∧ Idx l x i) ∧ w = w' := by
  have hn := hv.len
  obtain ⟨hb, hm, A, c', e, hc, hcell⟩ := hv.parts
  injection e with e1 e2 e3
  refine (Try.bytes_IndexByte_at a n c (l.map fun n : Nat => (n : Int)) x w (by simpa using hn) fun i hi => ?_).mono fun e w' ⟨h1, h2⟩ => ⟨⟨_, h1, ?_⟩, h2.symm⟩
  · obtain ⟨b, off, e4, hcl⟩ := hcell (by omega)
    rw [← e1] at e4
    injection e4 with e4
    subst e4
    rw [add_plain, getD_cast]
    exact hcl i (by omega)
  · rw [bytesOf_nat, cast_byte]
    exact idx_spec x hx l hb
theorem findex_any (a : Addr) (n c x b o d : Nat) (l : List Nat) (w : World) (hv : Bytes w (.slice (some a) n c) l) (hs : w.cell? ⟨b, o, none⟩ = some (.int .u8 x)) :
    Calls Try.prog 18 #[.slice (some a) n c, .slice (some ⟨b, o, none⟩) 1 d] w fun e w' => e = .returned (.int .i64 (Lib.indexByte (l.map UInt8.ofNat) (UInt8.ofNat x))) ∧ ∃ q, w' = w.drewN q := by
  have hn := hv.len
  obtain ⟨hb, hm, A, c', e, hc, hcell⟩ := hv.parts
  injection e with e1 e2 e3
  refine (Try.bytes_Index_one_at a n c b o d (l.map fun n : Nat => (n : Int)) x w (by simpa using hn) (fun i hi => ?_) hs).mono fun e w' ⟨h1, h2⟩ => ⟨?_, 0, h2⟩
  · obtain ⟨b, off, e4, hcl⟩ := hcell (by omega)
    rw [← e1] at e4
    injection e4 with e4
    subst e4
    rw [add_plain, getD_cast]
    exact hcl i (by omega)
  · rw [h1, bytesOf_nat, cast_byte]
/-- Cut behind its first line: the line, and the rest; or all of it, and nothing. -/
def CutIs (v : Value) (l : List Nat) (w : World) (e : Ending) (w' : World) : Prop :=
  (∃ q, w' = w.drewN q) ∧ ((∃ (k : Nat) (v1 v2 : Value), k < l.length ∧ l.getD k 0 = 10 ∧ (∀ y, y < k → l.getD y 0 ≠ 10) ∧ e = .returned (.tuple #[v1, v2, .bool true]) ∧ ∀ W, Bytes W v l → Bytes W v1 (l.take k) ∧ Bytes W v2 (l.drop (k + 1))) ∨
    ((∀ y, y < l.length → l.getD y 0 ≠ 10) ∧ e = .returned (.tuple #[v, .slice none 0 0, .bool false])))
theorem cut_any (v : Value) (l : List Nat) (b o d : Nat) (w : World) (hv : Bytes w v l) (h0 : 0 < l.length) (hl : l.length ≤ 1000000) (hs : w.cell? ⟨b, o, none⟩ = some (.int .u8 10)) :
    Calls Try.prog 13 #[v, .slice (some ⟨b, o, none⟩) 1 d] w (CutIs v l w) := by
  obtain ⟨hb, hm, A, c, rfl, hc, hcell⟩ := hv.parts
  obtain ⟨bb, off, rfl, _⟩ := hcell h0
  clear hcell
  have hcall := findex_any ⟨bb, off, none⟩ l.length c 10 b o d l w hv hs
  rcases idx_spec 10 (by omega) l hb with ⟨k, h1, h2, h3, h4⟩ | ⟨h1, h4⟩
  · rw [h4] at hcall
    refine (Try.bytes_Cut_of _ _ l.length c 1 d (k : Int) w hc (by omega) (by omega) (by omega) hcall).mono ?_
    rintro e w' ⟨he, hw⟩
    refine ⟨hw, .inl ⟨k, .slice (some ⟨bb, off, none⟩) k c, Lib.fromV (some ⟨bb, off, none⟩) l.length c (k + 1), h1, h2, h3, ?_, fun W hW => ⟨hW.head (by omega) (by omega), ?_⟩⟩⟩
    · rw [he]
      unfold Lib.cutV
      rw [if_pos (by omega), Int.toNat_natCast]
    · unfold Lib.fromV
      refine hW.tail (by omega) (by omega) fun hlt b0 o0 e => ?_
      injection e with e
      injection e with e1 e2
      subst e1 e2
      rw [if_neg (by omega), Option.map_some, add_plain]
  · rw [h4] at hcall
    refine (Try.bytes_Cut_of _ _ l.length c 1 d (-1) w hc (by omega) (by omega) (by omega) hcall).mono ?_
    rintro e w' ⟨he, hw⟩
    refine ⟨hw, .inr ⟨h1, ?_⟩⟩
    rw [he]
    rfl
/-- Signs. -/
theorem sign_index (x : Nat) (hx : x < 256) : decide ((0 : Int) ≤ Lib.indexByte [58, 124, 61, 59, 44] (UInt8.ofNat x)) = Ln.sign x := by
  have h := idx_spec x hx [58, 124, 61, 59, 44] (by decide)
  rw [show List.map UInt8.ofNat [58, 124, 61, 59, 44] = [58, 124, 61, 59, 44] from rfl] at h
  rcases h with ⟨k, h1, h2, -, h4⟩ | ⟨h1, h4⟩
  · rw [h4, decide_eq_true (by omega)]
    simp only [List.length_cons, List.length_nil] at h1
    have : k = 0 ∨ k = 1 ∨ k = 2 ∨ k = 3 ∨ k = 4 := by omega
    rcases this with rfl | rfl | rfl | rfl | rfl <;> (subst h2; rfl)
  · rw [h4, decide_eq_false (by omega)]
    have e0 := h1 0 (by simp)
    have e1 := h1 1 (by simp)
    have e2 := h1 2 (by simp)
    have e3 := h1 3 (by simp)
    have e4 := h1 4 (by simp)
    simp at e0 e1 e2 e3 e4
    simp [Ln.sign]
    omega
set_option maxRecDepth 100000 in
set_option maxHeartbeats 2000000 in
theorem sign_any (x : Nat) (hx : x < 256) (w : World) : Calls Try.prog 28 #[.int .u8 x] w fun e w' => e = .returned (.bool (Ln.sign x)) ∧ w = w' := by
  have HS := Lib.hid (sign_index x hx)
  clear hx
  go_enter Try.func28, Try.ntmps28
  go_wp2_with fail
  refine (Try.strings_IndexByte _ _ _).mono ?_
  rintro e w2 ⟨rfl, rfl⟩
  rw [cast_byte]
  go_wp2
  rw [HS.out]
  go_ret
  exact ⟨rfl, rfl⟩
set_option maxRecDepth 100000 in
set_option maxHeartbeats 2000000 in
theorem may_any (x : Nat) (hx : x < 256) (w : World) : Calls Try.prog 30 #[.int .u8 x] w fun e w' => e = .returned (.bool (Ln.plain x)) ∧ w = w' := by
  have HX := Lib.hid hx
  have HP : Hid (Ln.plain x = ((Ln.okq x && decide (x ≠ 34)) && decide (x ≠ 32) && !Ln.sign x)) := Lib.hid (by
    unfold Ln.plain Ln.okq
    rw [Bool.eq_iff_iff]
    simp only [Bool.and_eq_true, decide_eq_true_eq]
    constructor
    · rintro ⟨⟨⟨h1, h2⟩, h3⟩, h4⟩
      exact ⟨⟨⟨⟨by omega, by omega⟩, h3⟩, by omega⟩, h4⟩
    · rintro ⟨⟨⟨⟨h1, h2⟩, h3⟩, h5⟩, h4⟩
      exact ⟨⟨⟨by omega, by omega⟩, h3⟩, h4⟩)
  clear hx
  go_enter Try.func30, Try.ntmps30
  go_wp2_with fail
  refine (within_any x _).mono ?_
  rintro e w2 ⟨rfl, rfl⟩
  cases ha : (Ln.okq x && decide (x ≠ 34))
  · have HE : Hid (Ln.plain x = false) := Lib.hid (by rw [HP.out, ha]; rfl)
    clear ha HP
    go_wp2
    go_ret
    exact ⟨by rw [HE.out]; rfl, rfl⟩
  · by_cases hb : x = 32
    · subst hb
      have HE : Hid (Ln.plain 32 = false) := Lib.hid rfl
      clear ha HP
      go_wp2
      go_ret
      exact ⟨by rw [HE.out]; rfl, rfl⟩
    · have d2 : ((x : Int) != 32) = true := by simp; omega
      have HE : Hid (Ln.plain x = !Ln.sign x) := Lib.hid (by rw [HP.out, ha]; simp [hb])
      clear ha HP hb
      go_wp2_with fail
      refine (sign_any x HX.out _).mono ?_
      rintro e w3 ⟨rfl, rfl⟩
      go_wp2
      go_ret
      exact ⟨by rw [HE.out]; rfl, rfl⟩
end Go.Proofs.Ytpebkdmoloiecaa
