/- What layer 15's statements ask beside: a file is written, a file's value, the known answers. -/
import Derived.Test.YtoloidfkpfdboaaZSourSame
import Derived.Test.YtoloidfkpfdboaaZSourRun
namespace Go.Proofs.Ytoloidfkpfdboaa
set_option maxRecDepth 100000
open Go.ChangeShapes Go.WideShapes Go.ChangeAt Go.RowKit Go.ChangeMaps
open Sf
variable {K K' X : Nat → Prop} {w0 w w' w1 : World} {p g : Nat} {s s' : S} {fv vn vv vs : Value} {us : List Value} {x : Sr.R}

namespace Sr
/-- What a file holds of a number. -/
def bOf (t : List Nat) (n : Nat) : List Nat := if made t then Ar.make [112] [48 + n] else [48 + n]
theorem bOf_len (t : List Nat) (n : Nat) : (bOf t n).length ≤ 24 := by
  unfold bOf
  split
  · rw [Ar.make_length]
    simp
  · simp
theorem value_bOf (t : List Nat) (n : Nat) : value made t (bOf t n) = some [48 + n] := by
  unfold value bOf
  rcases h : made t with _ | _
  · simp
  · simp [Ar.opn_make [112] [48 + n] (by simp) (by simp)]
end Sr
/-- Files that are put by a call, whatever is held beside. -/
structure SrPut (P : World → S → Prop) (K : Nat → Prop) (p : Nat) (t : List Nat) (s : S) : Prop where
  under : ∀ w w', P w s → Below w.heap.size w w' → P w' s
  lt : ∀ w k, P w s → K k → k < w.heap.size
  put : ∀ w b vb, P w s → Bytes w vb b → b.length ≤ 1000 → Calls Try.prog 8 #[.pointer (some ⟨p, 0, none⟩), .string (str t), vb] w fun e w' => e = .returned (.tuple #[.int .i64 (((putS s t b).2.1 : Nat) : Int), .int .i64 (((putS s t b).2.2 : Nat) : Int)]) ∧ P w' (putS s t b).1 ∧ Kept K w w'
theorem srPut_at (t : List Nat) (hg : K g) (ht : Nice t) (hnx : s.next ≤ 1073741824) (hu : used s.l + 1000 ≤ 274877906944) : SrPut (fun w s => SrAt K w0 w p g s fv x) K p t s :=
  ⟨fun _ _ h hb => h.under hb, fun _ _ h hk => h.fk.lt hk, fun _ _ _ h hb hl => sr_put t _ _ h hg ht hb hnx (by omega)⟩
theorem srPut_fk (t : List Nat) (ht : Nice t) (hnx : s.next ≤ 1073741824) (hu : used s.l + 1000 ≤ 274877906944) : SrPut (fun w s => Fk K w0 w p s) K p t s :=
  ⟨fun _ _ h hb => h.under hb, fun _ _ h hk => h.lt hk, fun _ _ _ h hb hl => fk_put t _ _ h ht hb hnx (by omega)⟩

set_option maxRecDepth 100000 in
set_option maxHeartbeats 4000000 in
theorem srwrite_any {P : World → S → Prop} (t : List Nat) (n : Nat) (hn : n ≤ 1) (hP : SrPut P K p t s) (h : P w s) (ht : ∀ c ∈ t, c < 256) :
    Calls Try.prog 17 #[.pointer (some ⟨p, 0, none⟩), .string (str t), .int .i64 (n : Int)] w fun e w' => e = .returned (.tuple #[]) ∧ P w' (putS s t (Sr.bOf t n)).1 ∧ Kept K w w' := by
  have kc := fun (w : World) (C : Array Value) (n c : Nat) => Lib.run_convert_bytes_const (P := Try.prog) w 25 5 C n c Try.underlying25 Try.underlying5
  have kc2 := fun (w : World) (O : Obj) (C : Array Value) (n c : Nat) => aconvert_second (P := Try.prog) w O 25 5 C n c Try.underlying25 Try.underlying5
  have HB0 : Hid (Sr.bOf t n = if Sr.made t then Ar.make [112] [48 + n] else [48 + n]) := Lib.hid rfl
  have HL0 := Lib.hid (Sr.bOf_len t n)
  obtain ⟨B, hB⟩ : ∃ B, Sr.bOf t n = B := ⟨_, rfl⟩
  rw [hB] at HB0 HL0 ⊢
  have HM : Hid (∀ W, Calls Try.prog 10 #[.string (str t)] W fun e w' => e = .returned (.bool (Sr.made t)) ∧ W = w') := Lib.hid fun W => srmade_any t W ht
  have C2 : Hid (∀ W vb, Below w.heap.size w W → Bytes W vb B → Calls Try.prog 8 #[.pointer (some ⟨p, 0, none⟩), .string (str t), vb] W fun e w' => e = .returned (.tuple #[.int .i64 (((putS s t B).2.1 : Nat) : Int), .int .i64 (((putS s t B).2.2 : Nat) : Int)]) ∧ P w' (putS s t B).1 ∧ Kept K W w') := Lib.hid fun W vb hb hbb => hP.put W B vb (hP.under _ _ h hb) hbb (by have := HL0.out; omega)
  have HK : Hid (∀ W, Below w.heap.size w W → Kept K w W) := Lib.hid fun W hb => ⟨hb.size, fun k hk => hb.block k (hP.lt w k h hk)⟩
  obtain ⟨z, hz⟩ : ∃ z, Sr.made t = z := ⟨_, rfl⟩
  rw [hz] at HB0 HM
  obtain ⟨T, hT⟩ : ∃ T, str t = T := ⟨_, rfl⟩
  rw [hT] at HM C2 ⊢
  clear hP h ht hB hz hT
  have hn' : n = 0 ∨ n = 1 := by omega
  rcases hn' with rfl | rfl
  all_goals
    rcases z with _ | _
    · have HBF := Lib.hid (HB0.out.trans (if_neg (by simp)))
      go_enter Try.func17, Try.ntmps17
      go_wp2_with fail
      refine (HM.out _).mono ?_
      rintro e w2 ⟨rfl, rfl⟩
      have hba : ∀ o, Below w.heap.size w (w.alloc o) := fun o => (Below.refl _ _).alloc (Nat.le_refl _) o
      have HBA := Lib.hid hba
      clear hba
      go_wp2_with fail
      refine (C2.out _ _ (HBA.out _) (by rw [HBF.out]; exact bytes_new w _ rfl [_] _ _ (by simp) (by simp))).mono ?_
      rintro e w3 ⟨rfl, hp3, hk3⟩
      have HP3 := Lib.hid hp3
      have HK3 := Lib.hid ((HK.out _ (HBA.out _)).trans hk3)
      clear hp3 hk3
      go_wp2
      refine bodyPost_end (results_none rfl _ _ _) rfl ⟨rfl, HP3.out, HK3.out⟩
    · have HBF := Lib.hid (HB0.out.trans (if_pos rfl))
      go_enter Try.func17, Try.ntmps17
      go_wp2_with fail
      refine (HM.out _).mono ?_
      rintro e w2 ⟨rfl, rfl⟩
      have hba : ∀ o, Below w.heap.size w (w.alloc o) := fun o => (Below.refl _ _).alloc (Nat.le_refl _) o
      have HBA := Lib.hid hba
      clear hba
      go_wp2_with fail
      refine (refamake_is _ _ [112] [48 + _] _ _ (bytes_new _ _ (by simp) [112] _ _ (by simp) (by simp)) ((bytes_new w _ rfl [_] _ _ (by simp) (by simp)).alloc _) (by simp) (by simp) HBF.out.symm).mono ?_
      rintro e w3 ⟨v3, rfl, ho3, hb3⟩
      have hbw : Below w.heap.size w w3 := ((HBA.out _).trans (((Below.refl _ _).alloc (Nat.le_refl _) _).mono (by simp))).trans (hb3.mono (by simp; omega))
      have HBW := Lib.hid hbw
      have HO3 := Lib.hid ho3.bytes
      clear ho3 hb3 hbw
      go_wp2_with fail
      refine (C2.out _ _ HBW.out HO3.out).mono ?_
      rintro e w4 ⟨rfl, hp3, hk3⟩
      have HP3 := Lib.hid hp3
      have HK3 := Lib.hid ((HK.out _ HBW.out).trans hk3)
      clear hp3 hk3
      go_wp2
      refine bodyPost_end (results_none rfl _ _ _) rfl ⟨rfl, HP3.out, HK3.out⟩

/-- What a file's value is. -/
def SrVal (B : Nat) (l : List Nat) (w : World) (e : Ending) (w' : World) : Prop := ∃ v, e = .returned v ∧ Bytes w' v l ∧ Between B w'.heap.size v ∧ v.oneCell' = true ∧ Below w.heap.size w w'
theorem bytes_one_cell {w : World} {v : Value} {l : List Nat} (h : Bytes w v l) : v.oneCell' = true := by
  obtain ⟨_, _, A, c, rfl, _⟩ := h.parts
  rfl
set_option maxRecDepth 100000 in
set_option maxHeartbeats 4000000 in
theorem srvalueof_any {b : List Nat} {k : Nat} {l : List Nat} (t : List Nat) (h : Fs w0 w p s) (ht : Nice t) (hu : used s.l ≤ 274877906944) (hf : Nm.file t = true) (hg : Sf.get s.l t = some ⟨t, b, k⟩) (hv : Sr.value Sr.made t b = some l) :
    Calls Try.prog 18 #[.pointer (some ⟨p, 0, none⟩), .string (str t)] w (SrVal w.heap.size l w) := by
  have C1 := fs_read t w0 w p s h ht hu
  rw [Sr.sread_some hf hg] at C1
  have C1' := Lib.hid C1
  have hbl : b.length ≤ 274877906944 := by
    have := rd_len h.good.1 t
    rw [Sr.sread_some hf hg] at this
    exact Nat.le_trans this hu
  have HM : Hid (∀ W, Calls Try.prog 10 #[.string (str t)] W fun e w' => e = .returned (.bool (Sr.made t)) ∧ W = w') := Lib.hid fun W => srmade_any t W ht.1
  have HV0 : Hid ((if Sr.made t then (Ar.opn b).map (·.2) else some b) = some l) := Lib.hid hv
  have HBL := Lib.hid hbl
  obtain ⟨z, hz⟩ : ∃ z, Sr.made t = z := ⟨_, rfl⟩
  rw [hz] at HM HV0
  obtain ⟨T, hT⟩ : ∃ T, str t = T := ⟨_, rfl⟩
  rw [hT] at C1' HM ⊢
  clear h ht hu hf hg hv hz hT C1 hbl
  go_enter Try.func18, Try.ntmps18
  go_wp2_with fail
  refine C1'.out.mono ?_
  rintro e w1 ⟨v1, rfl, ho1, hb1⟩
  have HO1 := Lib.hid ho1
  have HB1 := Lib.hid hb1
  clear ho1 hb1 C1'
  go_wp2_with fail
  refine (HM.out _).mono ?_
  rintro e w2 ⟨rfl, rfl⟩
  rcases z with _ | _
  · have hbl : b = l := by
      have := HV0.out
      rw [if_neg (by simp)] at this
      injection this
    subst hbl
    clear HM HV0
    go_wp2
    go_ret
    exact ⟨_, rfl, HO1.out.bytes, HO1.out.lt, HO1.out.oneCell, HB1.out⟩
  · have HV1 : Hid ((Ar.opn b).map (·.2) = some l) := Lib.hid (by have := HV0.out; rwa [if_pos rfl] at this)
    obtain ⟨R, hR⟩ : ∃ R, Ar.opn b = R := ⟨_, rfl⟩
    have C2 := Lib.hid (refaopen_any v1 b w1 HO1.out.bytes (by have := HBL.out; omega) R hR)
    rw [hR] at HV1
    clear HM HV0 hR
    go_wp2_with fail
    refine C2.out.mono ?_
    rintro e w3 ⟨hb3, x3, y3, rfl, -, hy, -, hby⟩
    have HB3 := Lib.hid (HB1.out.trans (hb3.mono HB1.out.size))
    have HY : Hid (Bytes w3 y3 l ∧ Between w.heap.size w3.heap.size y3) := Lib.hid (by
      have h1 := HV1.out
      rcases R with _ | ⟨a, c⟩
      · cases h1
      · injection h1 with h1
        subst h1
        exact ⟨hy, fun k hk => ⟨Nat.le_trans HB1.out.size (hby k hk).1, (hby k hk).2⟩⟩)
    clear hy hby hb3 C2
    go_wp2
    go_ret
    exact ⟨_, rfl, HY.out.1, HY.out.2, bytes_one_cell HY.out.1, HB3.out⟩
end Go.Proofs.Ytoloidfkpfdboaa
