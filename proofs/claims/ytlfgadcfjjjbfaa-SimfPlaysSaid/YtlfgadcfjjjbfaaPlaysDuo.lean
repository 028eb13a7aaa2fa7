/- The calls on both file systems, the program's and the document's, side by side. -/
import Derived.Test.YtlfgadcfjjjbfaaPlaysRows
import Derived.Test.YtlfgadcfjjjbfaaRfReads
namespace Go.Proofs.Ytlfgadcfjjjbfaa
set_option maxRecDepth 100000
open Go.ChangeShapes Go.WideShapes Go.ChangeAt Go.RowKit Go.ChangeMaps
open Sf
variable {X : Nat → Prop} {w wr w1 : World} {p q i : Nat} {s s' : S}
theorem duo_new1 (n : Int) (w : World) : Calls Try.prog 4 #[.int .i64 n] w fun e w' => ∃ p, e = .returned (.pointer (some ⟨p, 0, none⟩)) ∧ Fs w w' p (new n) := fs_new n w
theorem duo_new2 (n : Int) (h : Fs w wr p (new n)) : Calls Try.prog 5 #[.int .i64 n] wr fun e w' => ∃ q, e = .returned (.pointer (some ⟨q, 0, none⟩)) ∧ Duo (fun _ => False) w w' p q (new n) (new n) :=
  (rnew_any n wr).mono fun e w' ⟨q, lv, G, he, hr, hl, hb⟩ => ⟨q, he, lv, G, hr, h.keep.grow hb _ fun k hk => by
    rcases hk with hk | hk
    · exact .inr ⟨hl k hk, hr.lt k hk⟩
    · exact hk.elim, fun k hk => Nat.le_trans h.below.size (hl k hk), fun k hk => hk.elim⟩
theorem duo_own {v : Value} {b : List Nat} (h : Bytes w v b) (hd : Duo X w wr p q s s') : Bytes wr v b ∧ (b ≠ [] → ∀ j, v.ownBlock = some j → j < w.heap.size) := ⟨h.under hd.below, fun h0 => h.lt h0⟩
theorem duo_make1 (t b : List Nat) (vb : Value) (h : Duo X w wr p q s s) (hB : Bd s i) (hi : i ≤ 120) (ht : Nice t) (hx : Bytes w vb b) (hbl : b.length ≤ 300) :
    Calls Try.prog 9 #[.pointer (some ⟨p, 0, none⟩), .string (str t), vb] wr fun e w' => e = .returned (.tuple #[.int .i64 (((make s t b).2.1 : Nat) : Int), .int .i64 (((make s t b).2.2 : Nat) : Int)]) ∧ Duo X w w' p q s (make s t b).1 ∧ Kept X wr w' := by
  obtain ⟨lv, G, h1, h2, h3, h4⟩ := h.ex
  have hu := hB.used
  have hnx := hB.next
  have _ := hi
  have hb := (duo_own hx h).1
  have ho := (duo_own hx h).2
  have hw := h.below.size
  exact (fk_make t b vb h2 ht hb (by omega) (by omega)).mono fun e w' ⟨he, hk, hkk⟩ => ⟨he, ⟨lv, G, h1.kept hkk fun k hk => .inl hk, hk, h3, h4⟩, hkk.1, fun k hk => hkk.2 k (.inr hk)⟩
theorem duo_make2 (t b : List Nat) (vb : Value) (h : Duo X w wr p q s s') (hB : Bd s i) (hi : i ≤ 120) (ht : Nice t) (hx : Bytes w vb b) (hbl : b.length ≤ 300) (he : (make s t b).1 = s') :
    Calls Try.prog 10 #[.pointer (some ⟨q, 0, none⟩), .string (str t), vb] wr fun e w' => e = .returned (.tuple #[.int .i64 (((make s t b).2.1 : Nat) : Int), .int .i64 (((make s t b).2.2 : Nat) : Int)]) ∧ Duo X w w' p q s' s' := by
  subst he
  obtain ⟨lv, G, h1, h2, h3, h4⟩ := h.ex
  have hu := hB.used
  have hnx := hB.next
  have _ := hi
  have hln := hB.len
  have hb := (duo_own hx h).1
  have ho := (duo_own hx h).2
  have hw := h.below.size
  exact (rmake_any t b vb wr q lv G s h1 ht hb (fun h0 j hj => by have h5 := ho h0 j hj; have h6 := h3 q h1.gq; omega) (by omega) (by omega) (by omega) (by omega)).mono fun e w' hr => ⟨hr.1, duo_done h1 h2 h3 h4 hr.2⟩
theorem duo_put1 (t b : List Nat) (vb : Value) (h : Duo X w wr p q s s) (hB : Bd s i) (hi : i ≤ 120) (ht : Nice t) (hx : Bytes w vb b) (hbl : b.length ≤ 300) :
    Calls Try.prog 11 #[.pointer (some ⟨p, 0, none⟩), .string (str t), vb] wr fun e w' => e = .returned (.tuple #[.int .i64 (((putS s t b).2.1 : Nat) : Int), .int .i64 (((putS s t b).2.2 : Nat) : Int)]) ∧ Duo X w w' p q s (putS s t b).1 ∧ Kept X wr w' := by
  obtain ⟨lv, G, h1, h2, h3, h4⟩ := h.ex
  have hu := hB.used
  have hnx := hB.next
  have _ := hi
  have hb := (duo_own hx h).1
  have ho := (duo_own hx h).2
  have hw := h.below.size
  exact (fk_put t b vb h2 ht hb (by omega) (by omega)).mono fun e w' ⟨he, hk, hkk⟩ => ⟨he, ⟨lv, G, h1.kept hkk fun k hk => .inl hk, hk, h3, h4⟩, hkk.1, fun k hk => hkk.2 k (.inr hk)⟩
theorem duo_put2 (t b : List Nat) (vb : Value) (h : Duo X w wr p q s s') (hB : Bd s i) (hi : i ≤ 120) (ht : Nice t) (hx : Bytes w vb b) (hbl : b.length ≤ 300) (he : (putS s t b).1 = s') :
    Calls Try.prog 12 #[.pointer (some ⟨q, 0, none⟩), .string (str t), vb] wr fun e w' => e = .returned (.tuple #[.int .i64 (((putS s t b).2.1 : Nat) : Int), .int .i64 (((putS s t b).2.2 : Nat) : Int)]) ∧ Duo X w w' p q s' s' := by
  subst he
  obtain ⟨lv, G, h1, h2, h3, h4⟩ := h.ex
  have hu := hB.used
  have hnx := hB.next
  have _ := hi
  have hln := hB.len
  have hb := (duo_own hx h).1
  have ho := (duo_own hx h).2
  have hw := h.below.size
  exact (rput_any t b vb wr q lv G s h1 ht hb (fun h0 j hj => by have h5 := ho h0 j hj; have h6 := h3 q h1.gq; omega) (by omega) (by omega) (by omega) (by omega)).mono fun e w' hr => ⟨hr.1, duo_done h1 h2 h3 h4 hr.2⟩
theorem duo_app1 (t b : List Nat) (g : List Gd) (vb vg : Value) (h : Duo X w wr p q s s) (hB : Bd s i) (hi : i ≤ 120) (ht : Nice t) (hx : Bytes w vb b) (hbl : b.length ≤ 300) (hg : RdG wr vg g) (hg1 : ∀ x ∈ g, Nice x.1) :
    Calls Try.prog 13 #[.pointer (some ⟨p, 0, none⟩), .string (str t), vb, vg] wr fun e w' => e = .returned (.tuple #[.int .i64 (((app s t b g).2.1 : Nat) : Int), .int .i64 (((app s t b g).2.2 : Nat) : Int)]) ∧ Duo X w w' p q s (app s t b g).1 ∧ Kept X wr w' := by
  obtain ⟨lv, G, h1, h2, h3, h4⟩ := h.ex
  have hu := hB.used
  have hnx := hB.next
  have _ := hi
  have hb := (duo_own hx h).1
  have ho := (duo_own hx h).2
  have hw := h.below.size
  exact (fk_appIf t b g vb vg h2 ht hb (fun h0 k hk => .inr (ho h0 k hk)) hg hg1 (by omega) (by omega)).mono fun e w' ⟨he, hk, hkk⟩ => ⟨he, ⟨lv, G, h1.kept hkk fun k hk => .inl hk, hk, h3, h4⟩, hkk.1, fun k hk => hkk.2 k (.inr hk)⟩
theorem duo_app2 (t b : List Nat) (g : List Gd) (vb vg : Value) (h : Duo X w wr p q s s') (hB : Bd s i) (hi : i ≤ 120) (ht : Nice t) (hx : Bytes w vb b) (hbl : b.length ≤ 300) (hg : RdG wr vg g) (hg1 : ∀ x ∈ g, Nice x.1) (he : (app s t b g).1 = s') :
    Calls Try.prog 14 #[.pointer (some ⟨q, 0, none⟩), .string (str t), vb, vg] wr fun e w' => e = .returned (.tuple #[.int .i64 (((app s t b g).2.1 : Nat) : Int), .int .i64 (((app s t b g).2.2 : Nat) : Int)]) ∧ Duo X w w' p q s' s' := by
  subst he
  obtain ⟨lv, G, h1, h2, h3, h4⟩ := h.ex
  have hu := hB.used
  have hnx := hB.next
  have _ := hi
  have hln := hB.len
  have hb := (duo_own hx h).1
  have ho := (duo_own hx h).2
  have hw := h.below.size
  exact (rapp_any t b vb g vg wr q lv G s h1 ht hb (fun h0 j hj => by have h5 := ho h0 j hj; have h6 := h3 q h1.gq; omega) hg hg1 (by omega) (by omega) (by omega) (by omega)).mono fun e w' hr => ⟨hr.1, duo_done h1 h2 h3 h4 hr.2⟩
theorem duo_move1 (a b : List Nat) (g : List Gd) (vg : Value) (h : Duo X w wr p q s s) (hB : Bd s i) (hi : i ≤ 120) (ha : Nice a) (hb : Nice b) (hg : RdG wr vg g) (hg1 : ∀ x ∈ g, Nice x.1) :
    Calls Try.prog 15 #[.pointer (some ⟨p, 0, none⟩), .string (str a), .string (str b), vg] wr fun e w' => e = .returned (.tuple #[.int .i64 (((Sf.move s a b g).2.1 : Nat) : Int), .int .i64 (((Sf.move s a b g).2.2 : Nat) : Int)]) ∧ Duo X w w' p q s (Sf.move s a b g).1 ∧ Kept X wr w' := by
  obtain ⟨lv, G, h1, h2, h3, h4⟩ := h.ex
  have hu := hB.used
  have hnx := hB.next
  have _ := hi
  exact (fk_move a b g vg h2 ha hb hg hg1 (by omega) (by omega)).mono fun e w' ⟨he, hk, hkk⟩ => ⟨he, ⟨lv, G, h1.kept hkk fun k hk => .inl hk, hk, h3, h4⟩, hkk.1, fun k hk => hkk.2 k (.inr hk)⟩
theorem duo_move2 (a b : List Nat) (g : List Gd) (vg : Value) (h : Duo X w wr p q s s') (hB : Bd s i) (hi : i ≤ 120) (ha : Nice a) (hb : Nice b) (hg : RdG wr vg g) (hg1 : ∀ x ∈ g, Nice x.1) (he : (Sf.move s a b g).1 = s') :
    Calls Try.prog 16 #[.pointer (some ⟨q, 0, none⟩), .string (str a), .string (str b), vg] wr fun e w' => e = .returned (.tuple #[.int .i64 (((Sf.move s a b g).2.1 : Nat) : Int), .int .i64 (((Sf.move s a b g).2.2 : Nat) : Int)]) ∧ Duo X w w' p q s' s' := by
  subst he
  obtain ⟨lv, G, h1, h2, h3, h4⟩ := h.ex
  have hu := hB.used
  have hnx := hB.next
  have _ := hi
  have hln := hB.len
  exact (rmove_any a b g vg wr q lv G s h1 ha hb hg hg1 (by omega) (by omega) (by omega)).mono fun e w' hr => ⟨hr.1, duo_done h1 h2 h3 h4 hr.2⟩
theorem duo_drop1 (t : List Nat) (g : List Gd) (vg : Value) (h : Duo X w wr p q s s) (hB : Bd s i) (hi : i ≤ 120) (ht : Nice t) (hg : RdG wr vg g) (hg1 : ∀ x ∈ g, Nice x.1) :
    Calls Try.prog 17 #[.pointer (some ⟨p, 0, none⟩), .string (str t), vg] wr fun e w' => e = .returned (.int .i64 (((Sf.drop s t g).2 : Nat) : Int)) ∧ Duo X w w' p q s (Sf.drop s t g).1 ∧ Kept X wr w' := by
  obtain ⟨lv, G, h1, h2, h3, h4⟩ := h.ex
  have hu := hB.used
  have hnx := hB.next
  have _ := hi
  exact (fk_drop t g vg h2 ht hg hg1 (by omega)).mono fun e w' ⟨he, hk, hkk⟩ => ⟨he, ⟨lv, G, h1.kept hkk fun k hk => .inl hk, hk, h3, h4⟩, hkk.1, fun k hk => hkk.2 k (.inr hk)⟩
theorem duo_drop2 (t : List Nat) (g : List Gd) (vg : Value) (h : Duo X w wr p q s s') (hB : Bd s i) (hi : i ≤ 120) (ht : Nice t) (hg : RdG wr vg g) (hg1 : ∀ x ∈ g, Nice x.1) (he : (Sf.drop s t g).1 = s') :
    Calls Try.prog 18 #[.pointer (some ⟨q, 0, none⟩), .string (str t), vg] wr fun e w' => e = .returned (.int .i64 (((Sf.drop s t g).2 : Nat) : Int)) ∧ Duo X w w' p q s' s' := by
  subst he
  obtain ⟨lv, G, h1, h2, h3, h4⟩ := h.ex
  have hu := hB.used
  have hnx := hB.next
  have _ := hi
  have hln := hB.len
  exact (rdrop_any t g vg wr q lv G s h1 ht hg hg1).mono fun e w' hr => ⟨hr.1, duo_done h1 h2 h3 h4 hr.2⟩
theorem duo_room1 (n : Int) (h : Duo X w wr p q s s) (hB : Bd s i) (hi : i ≤ 120) :
    Calls Try.prog 19 #[.pointer (some ⟨p, 0, none⟩), .int .i64 n] wr fun e w' => e = .returned (.tuple #[]) ∧ Duo X w w' p q s { s with room := held n } ∧ Kept X wr w' := by
  obtain ⟨lv, G, h1, h2, h3, h4⟩ := h.ex
  have hu := hB.used
  have hnx := hB.next
  have _ := hi
  exact (fk_room n h2).mono fun e w' ⟨he, hk, hkk⟩ => ⟨he, ⟨lv, G, h1.kept hkk fun k hk => .inl hk, hk, h3, h4⟩, hkk.1, fun k hk => hkk.2 k (.inr hk)⟩
theorem duo_room2 (n : Int) (h : Duo X w wr p q s s') (hB : Bd s i) (hi : i ≤ 120) (he : { s with room := held n } = s') :
    Calls Try.prog 20 #[.pointer (some ⟨q, 0, none⟩), .int .i64 n] wr fun e w' => e = .returned (.tuple #[]) ∧ Duo X w w' p q s' s' := by
  subst he
  obtain ⟨lv, G, h1, h2, h3, h4⟩ := h.ex
  have hu := hB.used
  have hnx := hB.next
  have _ := hi
  have hln := hB.len
  exact (rroom_any n wr q lv G s h1).mono fun e w' hr => ⟨hr.1, duo_done h1 h2 h3 h4 (rdone_self hr.2.1 hr.2.2)⟩
theorem duo_cut1 (n : Int) (h : Duo X w wr p q s s) (hB : Bd s i) (hi : i ≤ 120) (hn : n ≤ 9223372036854775807) :
    Calls Try.prog 21 #[.pointer (some ⟨p, 0, none⟩), .int .i64 n] wr fun e w' => e = .returned (.tuple #[]) ∧ Duo X w w' p q s { s with cut := max n 0 } ∧ Kept X wr w' := by
  obtain ⟨lv, G, h1, h2, h3, h4⟩ := h.ex
  have hu := hB.used
  have hnx := hB.next
  have _ := hi
  exact (fk_cut n h2 hn).mono fun e w' ⟨he, hk, hkk⟩ => ⟨he, ⟨lv, G, h1.kept hkk fun k hk => .inl hk, hk, h3, h4⟩, hkk.1, fun k hk => hkk.2 k (.inr hk)⟩
theorem duo_cut2 (n : Int) (h : Duo X w wr p q s s') (hB : Bd s i) (hi : i ≤ 120) (hn : n ≤ 9223372036854775807) (he : { s with cut := max n 0 } = s') :
    Calls Try.prog 22 #[.pointer (some ⟨q, 0, none⟩), .int .i64 n] wr fun e w' => e = .returned (.tuple #[]) ∧ Duo X w w' p q s' s' := by
  subst he
  obtain ⟨lv, G, h1, h2, h3, h4⟩ := h.ex
  have hu := hB.used
  have hnx := hB.next
  have _ := hi
  have hln := hB.len
  exact (rcut_any n wr q lv G s h1 hn).mono fun e w' hr => ⟨hr.1, duo_done h1 h2 h3 h4 (rdone_self hr.2.1 hr.2.2)⟩
theorem duo_read1 (t : List Nat) (h : Duo X w wr p q s s) (hB : Bd s i) (hi : i ≤ 120) (ht : Nice t) :
    Calls Try.prog 23 #[.pointer (some ⟨p, 0, none⟩), .string (str t)] wr fun e w' => ∃ v, e = .returned (.tuple #[v, .int .i64 (((Sf.read s t).2.1 : Nat) : Int), .int .i64 (((Sf.read s t).2.2 : Nat) : Int)]) ∧ Own w' wr.heap.size v (Sf.read s t).1 ∧ Below wr.heap.size wr w' := by
  obtain ⟨lv, G, h1, h2, h3, h4⟩ := h.ex
  have hu := hB.used
  have hnx := hB.next
  have _ := hi
  exact fs_read t w wr p s h2.fs ht (by omega)
theorem duo_read2 (t : List Nat) (h : Duo X w wr p q s s) (hB : Bd s i) (hi : i ≤ 120) (ht : Nice t) :
    Calls Try.prog 24 #[.pointer (some ⟨q, 0, none⟩), .string (str t)] wr fun e w' => ∃ v, e = .returned (.tuple #[v, .int .i64 (((Sf.read s t).2.1 : Nat) : Int), .int .i64 (((Sf.read s t).2.2 : Nat) : Int)]) ∧ Own w' wr.heap.size v (Sf.read s t).1 ∧ Below wr.heap.size wr w' := by
  obtain ⟨lv, G, h1, h2, h3, h4⟩ := h.ex
  have hu := hB.used
  have hnx := hB.next
  have _ := hi
  exact rread_any t wr q lv G s h1 ht (by omega)
theorem duo_list1 (d : List Nat) (h : Duo X w wr p q s s) (hB : Bd s i) (hi : i ≤ 120) (hd : ∀ c ∈ d, c < 256) (hdl : d.length ≤ 1048576) :
    Calls Try.prog 29 #[.pointer (some ⟨p, 0, none⟩), .string (str d)] wr fun e w' => ∃ v, e = .returned v ∧ OwnT w' wr.heap.size v (list s.l d) ∧ Below wr.heap.size wr w' := by
  obtain ⟨lv, G, h1, h2, h3, h4⟩ := h.ex
  have hu := hB.used
  have hnx := hB.next
  have _ := hi
  have _ := hdl
  exact fs_list d w wr p s h2.fs hd (by omega)
theorem duo_list2 (d : List Nat) (h : Duo X w wr p q s s) (hB : Bd s i) (hi : i ≤ 120) (hd : ∀ c ∈ d, c < 256) (hdl : d.length ≤ 1048576) :
    Calls Try.prog 30 #[.pointer (some ⟨q, 0, none⟩), .string (str d)] wr fun e w' => ∃ v, e = .returned v ∧ OwnT w' wr.heap.size v (list s.l d) ∧ Below wr.heap.size wr w' := by
  obtain ⟨lv, G, h1, h2, h3, h4⟩ := h.ex
  have hu := hB.used
  have hnx := hB.next
  have _ := hi
  have _ := hdl
  exact rlist_any d wr q lv G s h1 hd hdl hB.file
theorem duo_stamp1 (t : List Nat) (h : Duo X w wr p q s s) (hB : Bd s i) (hi : i ≤ 120) (ht : Nice t) :
    Calls Try.prog 25 #[.pointer (some ⟨p, 0, none⟩), .string (str t)] wr fun e w' => e = .returned (.int .i64 ((stamp s.l t : Nat) : Int)) ∧ wr = w' := by
  obtain ⟨lv, G, h1, h2, h3, h4⟩ := h.ex
  have hu := hB.used
  have hnx := hB.next
  have _ := hi
  exact fs_stamp t w wr p s h2.fs ht
theorem duo_stamp2 (t : List Nat) (h : Duo X w wr p q s s) (hB : Bd s i) (hi : i ≤ 120) (ht : Nice t) :
    Calls Try.prog 8 #[.pointer (some ⟨q, 0, none⟩), .string (str t)] wr fun e w' => e = .returned (.int .i64 ((stamp s.l t : Nat) : Int)) ∧ wr = w' := by
  obtain ⟨lv, G, h1, h2, h3, h4⟩ := h.ex
  have hu := hB.used
  have hnx := hB.next
  have _ := hi
  exact rstamp_any t wr q lv G s h1 ht.1
theorem duo_used1  (h : Duo X w wr p q s s) (hB : Bd s i) (hi : i ≤ 120) :
    Calls Try.prog 26 #[.pointer (some ⟨p, 0, none⟩)] wr fun e w' => e = .returned (.int .i64 ((used s.l : Nat) : Int)) ∧ wr = w' := by
  obtain ⟨lv, G, h1, h2, h3, h4⟩ := h.ex
  have hu := hB.used
  have hnx := hB.next
  have _ := hi
  exact fs_used w wr p s h2.fs
theorem duo_used2  (h : Duo X w wr p q s s) (hB : Bd s i) (hi : i ≤ 120) :
    Calls Try.prog 27 #[.pointer (some ⟨q, 0, none⟩)] wr fun e w' => e = .returned (.int .i64 ((used s.l : Nat) : Int)) ∧ wr = w' := by
  obtain ⟨lv, G, h1, h2, h3, h4⟩ := h.ex
  have hu := hB.used
  have hnx := hB.next
  have _ := hi
  exact rused_any wr q lv G s h1 (by omega)
end Go.Proofs.Ytlfgadcfjjjbfaa
