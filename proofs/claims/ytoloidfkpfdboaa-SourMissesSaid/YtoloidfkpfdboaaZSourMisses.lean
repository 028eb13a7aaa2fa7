/- SourMisses: one that is not there is told, one that is none, one that is too long, whichever comes first. -/
import Derived.Test.YtoloidfkpfdboaaZSourOut
import Derived.Test.YtoloidfkpfdboaaZSourAwake
import Derived.Deep.LoopGhost
namespace Go.Proofs.Ytoloidfkpfdboaa
set_option maxRecDepth 100000
open Go.ChangeShapes Go.WideShapes Go.ChangeAt Go.RowKit Go.ChangeMaps
open Sf

namespace Sr
def msL : List (List Nat) := [[115], [97], [116], [98]]
theorem ms_file : ∀ t ∈ msL, Nm.file t = true := by decide +kernel
theorem ms_nice (i : Nat) : Nice (msL.getD i []) := by
  have h : ∀ t ∈ msL, Nice t := by
    intro t ht
    simp only [msL, List.mem_cons, List.not_mem_nil, or_false] at ht
    rcases ht with rfl | rfl | rfl | rfl <;> exact nice_lit _ rfl (by decide)
  rw [List.getD_eq_getElem?_getD]
  by_cases hi : i < msL.length
  · rw [List.getElem?_eq_getElem hi]
    exact h _ (List.getElem_mem hi)
  · rw [List.getElem?_eq_none (by omega)]
    exact nice_lit _ rfl (by decide)
theorem ms_ne {i k : Nat} (hi : i < 4) (hk : k < 4) (h : msL.getD i [] = msL.getD k []) : i = k := by
  have h1 : i = 0 ∨ i = 1 ∨ i = 2 ∨ i = 3 := by omega
  have h2 : k = 0 ∨ k = 1 ∨ k = 2 ∨ k = 3 := by omega
  rcases h1 with rfl | rfl | rfl | rfl <;> rcases h2 with rfl | rfl | rfl | rfl <;> first | rfl | (exfalso; revert h; decide)
def noA : List Nat := [110, 111, 32, 97, 114, 116, 105, 102, 97, 99, 116]
theorem noA_none : Ar.opn noA = none := Ar.opn_none_of (by decide +kernel)
def z300 : List Nat := List.replicate 300 0
theorem z300_none : Ar.opn z300 = none := Ar.opn_none_of (by decide +kernel)
/-- The files ahead of the name i. -/
structure Ms (s : S) (i : Nat) (o : Nat → Nat) : Prop where
  out : ∀ k, k < i → Out made s (msL.getD k []) (o k)
  none : ∀ k, i ≤ k → k < 4 → Sf.get s.l (msL.getD k []) = none
  next : s.next ≤ i
  used : used s.l ≤ 300 * i
  room : s.room = 1048576
  ord : Ord s.l
theorem ms_begin : Ms (new 1048576) 0 (fun _ => 1) := ⟨fun k hk => by omega, fun k _ hk => rfl, Nat.le_refl _, Nat.le_refl _, rfl, (good_new _).1⟩
theorem Out.wr {s : S} {t u b : List Nat} {r : Nat} (h : Out made s t r) (hne : t ≠ u) : Out made (wr s u b) t r := by
  have hg : Sf.get (Sf.wr s u b).l t = Sf.get s.l t := by rw [sget_wr, if_neg hne]
  unfold Out
  rw [hg]
  exact h
theorem Ms.put {s : S} {i : Nat} {o : Nat → Nat} (h : Ms s i o) (hi : i < 4) {b : List Nat} {r : Nat} (hb : b.length ≤ 300) (hr : Out made (wr s (msL.getD i []) b) (msL.getD i []) r) :
    putS s (msL.getD i []) b = (wr s (msL.getD i []) b, s.next + 1, 0) ∧ Ms (wr s (msL.getD i []) b) (i + 1) (fun k => if k = i then r else o k) := by
  have hu := h.used
  refine ⟨sput_ok _ _ (ms_file _ (mem_getD hi)) (by rw [h.room]; omega), ⟨fun k hk => ?_, fun k h1 h2 => ?_, by show s.next + 1 ≤ _; have := h.next; omega, ?_, h.room, ord_put h.ord _⟩⟩
  · by_cases e : k = i
    · subst e
      rw [if_pos rfl]
      exact hr
    · rw [if_neg e]
      exact (h.out k (by omega)).wr fun e2 => e (ms_ne (by omega) hi e2)
  · rw [sget_wr, if_neg fun e2 => by have := ms_ne h2 hi e2; omega]
    exact h.none k (by omega) h2
  · have := sused_wr h.ord (msL.getD i []) b
    omega
theorem Ms.skip {s : S} {i : Nat} {o : Nat → Nat} (h : Ms s i o) (hi : i < 4) : Ms s (i + 1) (fun k => if k = i then 2 else o k) := by
  refine ⟨fun k hk => ?_, fun k h1 h2 => h.none k (by omega) h2, by have := h.next; omega, by have := h.used; omega, h.room, h.ord⟩
  show Out made s (msL.getD k []) (if k = i then 2 else o k)
  by_cases e : k = i
  · subst e
    rw [if_pos rfl]
    exact .inr (.inl ⟨rfl, h.none k (Nat.le_refl _) hi⟩)
  · rw [if_neg e]
    exact h.out k (by omega)
theorem out_write (s : S) (t : List Nat) : Out made (wr s t (bOf t 1)) t 1 := .inl ⟨rfl, bOf t 1, s.next + 1, [49], by rw [sget_wr, if_pos rfl], value_bOf t 1, by simp⟩
theorem out_noA (s : S) (t : List Nat) : Out made (wr s t noA) t (if made t then 3 else 1) := by
  rcases h : made t with _ | _
  · exact .inl ⟨rfl, noA, s.next + 1, noA, by rw [sget_wr, if_pos rfl], by unfold value; rw [h]; rfl, by decide⟩
  · exact .inr (.inr ⟨rfl, noA, s.next + 1, by rw [sget_wr, if_pos rfl], fun v hv => by
      unfold value at hv
      rw [h, if_pos rfl, noA_none] at hv
      cases hv⟩)
theorem out_z300 (s : S) (t : List Nat) : Out made (wr s t z300) t 3 := by
  refine .inr (.inr ⟨rfl, z300, s.next + 1, by rw [sget_wr, if_pos rfl], fun v hv => ?_⟩)
  unfold value at hv
  rcases h : made t with _ | _
  · rw [h] at hv
    injection hv with hv
    rw [← hv]
    decide
  · rw [h, if_pos rfl, z300_none] at hv
    cases hv
end Sr
theorem lg_ne' {n : Nat} (h : ¬ n = 0) : ((n : Int) == 0) = false := by simp; omega
theorem run_make_300 (w : World) : (Instr.makeSlice 25 (.int .i64 300) (.int .i64 300)).run Try.prog w =
    .ok (.slice (some ⟨w.heap.size, 0, none⟩) 300 300) (w.alloc (.cells (Sr.z300.map fun n : Nat => Value.int .u8 (n : Int)).toArray 5)) := by
  obtain ⟨i, hi, hz0, hz1, hz2⟩ := info_parts infoU8
  have := run_make (P := Try.prog) w 25 5 i (.int .u8 0) Try.underlying25 hi hz0 .i64 .i64 300 300 (by omega) (by omega) (by rw [hz2]; omega) (by omega)
  rw [this, hz1]
  have e : madeCells #[Value.int .u8 0] 300 = (Sr.z300.map fun n : Nat => Value.int .u8 (n : Int)).toArray := by
    apply Array.toList_inj.1
    rw [toList_madeCells_one, Sr.z300, List.map_replicate]
    rfl
  show Result.ok _ (w.alloc (.cells (madeCells #[Value.int .u8 0] 300) _)) = _
  rw [e]
  rfl
set_option maxRecDepth 100000 in
set_option maxHeartbeats 8000000 in
theorem srmisses_any (how : Int) (w : World) : Calls Try.prog 6 #[.int .i64 how] w fun e w' => e = .returned (.bool true) ∧ Below w.heap.size w w' := by
  have kc := fun (w : World) (C : Array Value) (n c : Nat) => Lib.run_convert_bytes_const (P := Try.prog) w 25 5 C n c Try.underlying25 Try.underlying5
  go_enter Try.func6, Try.ntmps6
  go_wp2_with fail
  refine (fs_new 1048576 w).mono ?_
  rintro e w1 ⟨p, rfl, h1⟩
  have H1 : Hid (Fk (fun _ => False) w w1 p (new 1048576)) := Lib.hid h1.keep
  clear h1
  have hr0 := Sr.ms_begin
  go_upto_region 5 with fail
  obtain ⟨w2, q, K, hw2, hq, h2, kq, -, b2, bb2, bq⟩ := H1.out.box 9 #[.string (str [115]), .string (str [97]), .string (str [116]), .string (str [98])]
  have ka : ({ data := #[115] } : ByteArray) = str [115] := rfl
  have kb : ({ data := #[97] } : ByteArray) = str [97] := rfl
  have k3 : ({ data := #[116] } : ByteArray) = str [116] := rfl
  have k4 : ({ data := #[98] } : ByteArray) = str [98] := rfl
  rw [ka, kb, k3, k4, hw2, hq]
  have H2 := Lib.hid h2
  have KQ := Lib.hid kq
  have HR := Lib.hid hr0
  have HROW : Hid (∀ W, Kept K w2 W → ∀ i, i < 4 → W.cell? ⟨q, i, none⟩ = some (.string (str (Sr.msL.getD i [])))) := Lib.hid fun W hk i hi => by
    have hb := hk.blk kq b2
    have h1 : i = 0 ∨ i = 1 ∨ i = 2 ∨ i = 3 := by omega
    rcases h1 with rfl | rfl | rfl | rfl <;> exact hb.at _
  clear hw2 hq h2 kq b2 bb2 bq ka kb k3 k4 hr0 H1
  go_wp2_with fail
  go_loopg [5, 21] 4 (fun gg s5 s21 wr => ∃ (i want : Nat) (o : Nat → Nat) (s : S), i ≤ 4 ∧ 4 - i ≤ gg ∧ s5 = .int .i64 (want : Int) ∧ s21 = .int .i64 (i : Int) ∧ Hid (Sr.IsRes o i want ∧ Sr.Ms s i o) ∧ Hid (Fk K w wr p s) ∧ Hid (Kept K w2 wr))
  case atStart => exact ⟨0, 1, _, _, by omega, by omega, rfl, rfl, Lib.hid ⟨.inl ⟨fun k hk => by omega, rfl⟩, HR.out⟩, H2, Lib.hid (Kept.refl _ _)⟩
  case round =>
    obtain ⟨i, want, o, s, hi, hgg, rfl, rfl, HM, HF, HK⟩ := hrel
    obtain ⟨wz, rfl⟩ : ∃ wx : World, wx = wr := ⟨_, rfl⟩
    clear HR H2
    by_cases hlt : i < 4
    · have hltI : (i : Int) < 4 := by omega
      obtain ⟨t, ht⟩ : ∃ t, Sr.msL.getD i [] = t := ⟨_, rfl⟩
      have hcell := HROW.out wz HK.out i hlt
      have HNI := Lib.hid (Sr.ms_nice i)
      have HT := Lib.hid ht
      rw [ht] at hcell HNI
      obtain ⟨m, hm, hm3⟩ := lg_and (how / 2 ^ (2 * i)) 3 (by decide)
      have hm' : bits .and .i64 (how / 2 ^ (2 * i)) 3 = (m : Int) := hm
      have HNX : Hid (s.next ≤ 1073741824 ∧ used s.l + 1000 ≤ 274877906944) := Lib.hid (by have := HM.out.2.next; have := HM.out.2.used; omega)
      have HEND : Hid (∀ r o' want', want' = (if want = 1 then r else want) → o' = (fun k => if k = i then r else o k) → Sr.IsRes o' (i + 1) want') := Lib.hid fun r o' want' e1 e2 => by
        have h1 : Sr.IsRes o' i want := HM.out.1.congr fun k hk => by rw [e2]; simp [Nat.ne_of_lt hk]
        have h2 := h1.next
        have h3 : o' i = r := by rw [e2]; simp
        rw [h3] at h2
        rw [e1]
        exact h2
      have HLT := Lib.hid hlt
      have hw1 : want = 1 ∨ ((want : Int) == 1) = false := by
        by_cases h : want = 1
        · exact .inl h
        · exact .inr (by simp; omega)
      clear ht hm hlt
      have hms : m = 0 ∨ m = 1 ∨ m = 2 ∨ m = 3 := by omega
      clear hm3
      rcases hms with rfl | rfl | rfl | rfl
      · have hout := Sr.out_write s t
        have hms := HM.out.2.put HLT.out (b := Sr.bOf t 1) (r := 1) (by have := Sr.bOf_len t 1; omega) (by rw [HT.out]; exact hout)
        rw [HT.out] at hms
        have HMS := Lib.hid hms
        have C := Lib.hid (srwrite_any (P := fun W s => Fk K w W p s) (K := K) (w := wz) t 1 (by decide) (srPut_fk t HNI.out HNX.out.1 HNX.out.2) HF.out HNI.out.1)
        rw [hms.1] at C
        clear hout hms
        go_wp2_with fail
        refine C.out.mono ?_
        rintro e w5 ⟨rfl, hf5, hk5⟩
        have HF5 := Lib.hid hf5
        have HK5 := Lib.hid (HK.out.trans hk5)
        clear hf5 hk5 C
        rcases hw1 with rfl | hw1
        all_goals
          go_wp2
          go_roundg (4 - (i + 1))
          case rel => first
            | exact ⟨i + 1, 1, _, _, by omega, by omega, rfl, by go_num, Lib.hid ⟨HEND.out 1 _ _ (by simp) rfl, HMS.out.2⟩, HF5, HK5⟩
            | exact ⟨i + 1, want, _, _, by omega, by omega, rfl, by go_num, Lib.hid ⟨HEND.out 1 _ _ (by rw [if_neg (fun e => by subst e; simp at hw1)]) rfl, HMS.out.2⟩, HF5, HK5⟩
          case measure => omega
      · have HMS := Lib.hid (HM.out.2.skip HLT.out)
        rcases hw1 with rfl | hw1
        all_goals
          go_wp2
          go_roundg (4 - (i + 1))
          case rel => first
            | exact ⟨i + 1, 2, _, _, by omega, by omega, rfl, by go_num, Lib.hid ⟨HEND.out 2 _ _ (by simp) rfl, HMS.out⟩, HF, HK⟩
            | exact ⟨i + 1, want, _, _, by omega, by omega, rfl, by go_num, Lib.hid ⟨HEND.out 2 _ _ (by rw [if_neg (fun e => by subst e; simp at hw1)]) rfl, HMS.out⟩, HF, HK⟩
          case measure => omega
      · have hout := Sr.out_noA s t
        have hms := HM.out.2.put HLT.out (b := Sr.noA) (r := if Sr.made t then 3 else 1) (by decide) (by rw [HT.out]; exact hout)
        rw [HT.out] at hms
        have HP := Lib.hid hms.1
        have CM : Hid (∀ W, Calls Try.prog 10 #[.string (str t)] W fun e w' => e = .returned (.bool (Sr.made t)) ∧ W = w') := Lib.hid fun W => srmade_any t W HNI.out.1
        obtain ⟨z, hz⟩ : ∃ z, Sr.made t = z := ⟨_, rfl⟩
        rw [hz] at hms CM
        have HMS := Lib.hid hms
        clear hout hms hz
        go_wp2_with fail
        refine (fk_put t Sr.noA _ (HF.out.alloc _) HNI.out (bytes_new wz _ rfl Sr.noA _ _ (by decide) (by decide)) HNX.out.1 (by have := HNX.out.2; have : Sr.noA.length = 11 := rfl; omega)).mono ?_
        rw [HP.out]
        rintro e w5 ⟨rfl, hf5, hk5⟩
        have HF5 := Lib.hid hf5
        have HK5 := Lib.hid (HK.out.trans ((Kept.of_below HF.out ((Below.refl _ _).alloc (Nat.le_refl _) _)).trans hk5))
        clear hf5 hk5
        go_wp2_with fail
        refine (CM.out _).mono ?_
        rintro e w6 ⟨rfl, rfl⟩
        rcases z with _ | _
        · rcases hw1 with rfl | hw1
          all_goals
            go_wp2
            go_roundg (4 - (i + 1))
            case rel => first
              | exact ⟨i + 1, 1, _, _, by omega, by omega, rfl, by go_num, Lib.hid ⟨HEND.out 1 _ _ (by simp) rfl, HMS.out.2⟩, HF5, HK5⟩
              | exact ⟨i + 1, want, _, _, by omega, by omega, rfl, by go_num, Lib.hid ⟨HEND.out 1 _ _ (by rw [if_neg (fun e => by subst e; simp at hw1)]) rfl, HMS.out.2⟩, HF5, HK5⟩
            case measure => omega
        · rcases hw1 with rfl | hw1
          all_goals
            go_wp2
            go_roundg (4 - (i + 1))
            case rel => first
              | exact ⟨i + 1, 3, _, _, by omega, by omega, rfl, by go_num, Lib.hid ⟨HEND.out 3 _ _ (by simp) rfl, HMS.out.2⟩, HF5, HK5⟩
              | exact ⟨i + 1, want, _, _, by omega, by omega, rfl, by go_num, Lib.hid ⟨HEND.out 3 _ _ (by rw [if_neg (fun e => by subst e; simp at hw1)]) rfl, HMS.out.2⟩, HF5, HK5⟩
            case measure => omega
      · have hout := Sr.out_z300 s t
        have hms := HM.out.2.put HLT.out (b := Sr.z300) (r := 3) (by decide) (by rw [HT.out]; exact hout)
        rw [HT.out] at hms
        have HMS := Lib.hid hms
        have hmk := fun W => run_make_300 W
        clear hout hms
        go_wp2_with fail
        refine (fk_put t Sr.z300 _ (HF.out.alloc _) HNI.out (bytes_new wz _ rfl Sr.z300 _ _ (by decide) (by decide)) HNX.out.1 (by have := HNX.out.2; have : Sr.z300.length = 300 := rfl; omega)).mono ?_
        rw [HMS.out.1]
        rintro e w5 ⟨rfl, hf5, hk5⟩
        have HF5 := Lib.hid hf5
        have HK5 := Lib.hid (HK.out.trans ((Kept.of_below HF.out ((Below.refl _ _).alloc (Nat.le_refl _) _)).trans hk5))
        clear hf5 hk5 hmk
        rcases hw1 with rfl | hw1
        all_goals
          go_wp2
          go_roundg (4 - (i + 1))
          case rel => first
            | exact ⟨i + 1, 3, _, _, by omega, by omega, rfl, by go_num, Lib.hid ⟨HEND.out 3 _ _ (by simp) rfl, HMS.out.2⟩, HF5, HK5⟩
            | exact ⟨i + 1, want, _, _, by omega, by omega, rfl, by go_num, Lib.hid ⟨HEND.out 3 _ _ (by rw [if_neg (fun e => by subst e; simp at hw1)]) rfl, HMS.out.2⟩, HF5, HK5⟩
          case measure => omega
    · obtain rfl : i = 4 := by omega
      have HO : Hid (Sr.Outs Sr.made s Sr.msL o) := Lib.hid ⟨Sr.ms_file, HM.out.2.out⟩
      have HRS : Hid (Sr.IsRes o Sr.msL.length want) := Lib.hid HM.out.1
      have HU : Hid (used s.l ≤ 274877906944) := Lib.hid (by have := HM.out.2.used; omega)
      have HSR : Hid (SrT wz (.slice (some ⟨q, 0, none⟩) 4 4) Sr.msL) := Lib.hid ⟨_, 4, rfl, by decide, fun _ => ⟨q, 0, rfl, fun k hk => by rw [Nat.zero_add]; exact HROW.out wz HK.out k hk⟩⟩
      have HMD := Lib.hid (fun W => srmade_is W)
      clear hlt hgg hi kc HROW HM HK
      go_wp2_with fail
      refine (srnew_any HF.out HSR.out (fun t ht => by
        obtain ⟨k, hk, rfl⟩ := List.getElem_of_mem ht
        have := Sr.ms_nice k
        rw [List.getD_eq_getElem?_getD, List.getElem?_eq_getElem hk] at this
        exact this) (by decide) _ _ _).mono ?_
      rintro e w4 ⟨g, rfl, hgs, hs4, hb4⟩
      have H4 := Lib.hid hs4
      have HGS := Lib.hid (Nat.le_trans HF.out.fs.below.size hgs)
      obtain ⟨K4, hK4⟩ : ∃ K', (fun k => K k ∨ k = g) = K' := ⟨_, rfl⟩
      have HKG : Hid (K4 g) := Lib.hid (by rw [← hK4]; exact .inr rfl)
      rw [hK4] at H4
      have HA0 := Lib.hid (Sr.after_begin s Sr.msL o want (by decide))
      have HH0 := Lib.hid (Sr.here_begin Sr.msL)
      clear hs4 hgs hb4 HSR HF hK4
      go_wp2_with fail
      go_loopg [11, 12] 20 (fun gg s11 s12 wr => ∃ (j : Nat) (x : Sr.R), j ≤ 20 ∧ 20 - j ≤ gg ∧ s11 = .int .i64 (x.told : Int) ∧ s12 = .int .i64 (j : Int) ∧ Hid (Sr.After s Sr.msL o want j x ∧ Sr.Here x) ∧ Hid (SrAt K4 w wr p g s (.func (.func 10) #[] #[]) x))
      case atStart => exact ⟨0, _, by omega, by omega, rfl, rfl, Lib.hid ⟨HA0.out, HH0.out⟩, H4⟩
      case round =>
        clear H4 HA0 HH0
        obtain ⟨j, x, hj, hgg, rfl, rfl, HA, HS⟩ := hrel
        obtain ⟨wy, rfl⟩ : ∃ wx : World, wx = wr := ⟨_, rfl⟩
        have HTT : Hid (∃ n, x.told = n) := Lib.hid ⟨_, rfl⟩
        obtain ⟨n, hn⟩ := HTT.out
        by_cases hc : j < 20 ∧ n = 0
        · obtain ⟨hlt, rfl⟩ := hc
          have hltI : (j : Int) < 20 := by omega
          have hst := HA.out.1.step HO.out HRS.out
          have C := Lib.hid (srstep_any HS.out HA.out.2 HKG.out HGS.out (HMD.out wy) HU.out)
          have hh2 := HA.out.2.step Sr.made s
          obtain ⟨⟨x2, n2⟩, hx2⟩ : ∃ R, Sr.step Sr.made s x = R := ⟨_, rfl⟩
          rw [hx2] at C hst hh2
          obtain ⟨ha2, he2⟩ := hst
          dsimp only at ha2 he2 hh2
          subst he2
          have HA2 : Hid (Sr.After s Sr.msL o want (j + 1) x2 ∧ Sr.Here x2) := Lib.hid ⟨ha2, hh2⟩
          clear ha2 hh2
          rw [hn]
          clear hx2 hn HA HS HTT
          go_wp2_with fail
          refine C.out.mono ?_
          rintro e w5 ⟨rfl, hs5, -⟩
          have H5 := Lib.hid hs5
          clear hs5 C
          go_wp2
          go_roundg (20 - (j + 1))
          case rel => exact ⟨j + 1, x2, by omega, by omega, rfl, by go_num, HA2, H5⟩
          case measure => omega
        · have hor : ¬ ((j : Int) < 20) ∨ ((j : Int) < 20 ∧ ((n : Int) == 0) = false) := by
            by_cases h : j < 20
            · exact .inr ⟨by omega, lg_ne' fun e => hc ⟨h, e⟩⟩
            · exact .inl (by omega)
          have hwant : x.told = want := HA.out.1.end' (by
            by_cases h : j < 20
            · exact .inl (fun e => hc ⟨h, hn.symm.trans e⟩)
            · exact .inr (by show 2 * 4 ≤ j; omega))
          have hwn : want = n := by omega
          subst hwn
          have HWT := Lib.hid hn
          have hw0 : want ≠ 0 := by
            rcases HRS.out with ⟨_, e⟩ | ⟨k, hk, _, _, e⟩
            · omega
            · have := HO.out.out k hk
              rcases this with ⟨e2, _⟩ | ⟨e2, _⟩ | ⟨e2, _⟩ <;> omega
          have CST := Lib.hid (fun W (hb : Below wy.heap.size wy W) => srstep_any (HS.out.under hb) HA.out.2 HKG.out HGS.out (HMD.out W) HU.out)
          rw [Sr.step_told (by omega), hn] at CST
          rw [hn]
          clear hc hj hgg hn hw0 hwant HTT HO HRS HA
          have hw1 : want = 1 ∨ ¬ want = 1 := by omega
          rcases hw1 with rfl | hw1
          · have CV := Lib.hid (srvalues_any HS.out HWT.out)
            rcases hor with h1 | ⟨h1, h2⟩
            all_goals
              go_wp2_with fail
              refine CV.out.mono ?_
              rintro e w6 ⟨v6, us6, rfl, -, hb6⟩
              have HB6 := Lib.hid hb6
              clear hb6
              go_wp2_with fail
              refine (CST.out _ HB6.out).mono ?_
              rintro e w7 ⟨rfl, hs7, -⟩
              have H7 := Lib.hid hs7.fk.fs.below
              clear hs7
              go_wp2_with fail
              refine (srawake_any w7).mono ?_
              rintro e w8 ⟨rfl, hb8⟩
              have H8 := Lib.hid (H7.out.trans (hb8.mono H7.out.size))
              clear hb8
              go_wp2
              go_ret
              exact ⟨rfl, H8.out⟩
          · have CV := Lib.hid (srvalues_not HS.out (by rw [HWT.out]; exact hw1))
            have hwI : ((want : Int) == 1) = false := by simp; omega
            rcases hor with h1 | ⟨h1, h2⟩
            all_goals
              go_wp2_with fail
              refine CV.out.mono ?_
              rintro e w6 ⟨rfl, rfl⟩
              go_wp2_with fail
              refine (CST.out _ (Below.refl _ _)).mono ?_
              rintro e w7 ⟨rfl, hs7, -⟩
              have H7 := Lib.hid hs7.fk.fs.below
              clear hs7
              go_wp2_with fail
              refine (srawake_any w7).mono ?_
              rintro e w8 ⟨rfl, hb8⟩
              have H8 := Lib.hid (H7.out.trans (hb8.mono H7.out.size))
              clear hb8
              go_wp2
              go_ret
              exact ⟨rfl, H8.out⟩
end Go.Proofs.Ytoloidfkpfdboaa
