/- Things in order, the law's own way: letters for numbers; the first that may come next, again and again. -/
import Derived.Test.YtemliglhippdcaaZ12
import Derived.Test.YtemliglhippdcaaZSeen
import Derived.Test.YtemliglhippdcaaZGrphStable
namespace Go.Proofs.Ytemliglhippdcaa
set_option maxRecDepth 100000
open Go.ChangeShapes Go.WideShapes Go.ChangeAt Go.RowKit

/-- A number's letter. -/
def ltr (k : Nat) : List Nat := [97 + k]
theorem ltr_inj {a b : Nat} (h : ltr a = ltr b) : a = b := by
  unfold ltr at h
  injection h with h1
  omega
theorem mem_ltr (l : List Nat) (x : Nat) : ltr x ∈ l.map ltr ↔ x ∈ l := by
  rw [List.mem_map]
  exact ⟨fun ⟨y, hy, e⟩ => ltr_inj e ▸ hy, fun h => ⟨x, h, rfl⟩⟩
theorem addLS_ltr : ∀ (xs l : List Nat), addLS (l.map ltr) (xs.map ltr) = (addL l xs).map ltr
  | [], l => rfl
  | x :: xs, l => by
    have e1 : addLS (l.map ltr) ((x :: xs).map ltr) = addLS (if ltr x ∈ l.map ltr then l.map ltr else l.map ltr ++ [ltr x]) (xs.map ltr) := rfl
    have e2 : addL l (x :: xs) = addL (if x ∈ l then l else l ++ [x]) xs := rfl
    rw [e1, e2]
    by_cases h : x ∈ l
    · rw [if_pos ((mem_ltr l x).2 h), if_pos h, addLS_ltr xs l]
    · rw [if_neg (fun q => h ((mem_ltr l x).1 q)), if_neg h, ← addLS_ltr xs (l ++ [x])]
      simp
theorem plcS_ltr (x : Nat) : ∀ T : List Nat, plcS (T.map ltr) (ltr x) = plc T x
  | [] => rfl
  | y :: T => by
    have ih := plcS_ltr x T
    unfold plcS plc at ih ⊢
    rw [List.map_cons, List.findIdx?_cons, List.findIdx?_cons, ih]
    have e : decide (ltr x = ltr y) = decide (x = y) := by
      by_cases h : x = y
      · subst h; simp
      · have h' : ¬ ltr x = ltr y := fun q => h (ltr_inj q)
        simp [h, h']
    rw [e]
theorem getD_ltr (T : List Nat) (i : Nat) (h : i < T.length) : (T.map ltr).getD i [] = ltr (T.getD i 0) := by
  simp [List.getD_eq_getElem?_getD, List.getElem?_map, List.getElem?_eq_getElem h]
theorem getD_memK (T : List Nat) (i : Nat) (h : i < T.length) : T.getD i 0 ∈ T := by
  rw [List.getD_eq_getElem?_getD, List.getElem?_eq_getElem h]
  exact List.getElem_mem h
theorem pfS_ltr (T : List Nat) (f : Nat → List Nat) (g : List Nat → List (List Nat)) (hg : ∀ x ∈ T, g (ltr x) = (f x).map ltr) : PfS (T.map ltr) g = Pf T f := by
  funext i
  unfold PfS Pf
  rw [List.length_map]
  split
  · rename_i h
    rw [getD_ltr T i h, hg _ (getD_memK T i h), List.filterMap_map]
    congr 1
    funext x
    exact plcS_ltr x T
  · rfl

namespace Gr
theorem run_ltK (fr : List Nat → Nat → Bool) (N : Nat) : ∀ f T, (∀ t ∈ T, t < N) → ∀ t ∈ run fr N f T, t < N
  | 0, T, h => by unfold run; exact h
  | f + 1, T, h => by
    unfold run
    rcases hx : (List.range N).find? (fr T) with _ | x
    · exact h
    · refine run_ltK fr N f (T ++ [x]) fun t ht => ?_
      rcases List.mem_append.1 ht with ht | ht
      · exact h t ht
      · have := List.mem_range.1 (List.mem_of_find?_eq_some hx)
        simp at ht
        omega
theorem ord_ltK (P : Nat → List Nat) (N : Nat) : ∀ t ∈ ord P N, t < N := run_ltK _ N N [] (by simp)
end Gr

/-- The order over letters is the order over numbers. -/
theorem orderS_ltr {T : List Nat} {f : Nat → List Nat} {g : List Nat → List (List Nat)} {w w' : World} {e : Ending} (hg : ∀ x ∈ T, g (ltr x) = (f x).map ltr) (h : OrderIsS (T.map ltr) g w e w') :
    if (Gr.ord (Pf T f) T.length).length < T.length then e = .returned (.tuple #[.slice none 0 0, .bool false])
    else ∃ v, e = .returned (.tuple #[v, .bool true]) ∧ OwnT w' w.heap.size v (((Gr.ord (Pf T f) T.length).map fun i => T.getD i 0).map ltr) := by
  unfold OrderIsS at h
  rw [pfS_ltr T f g hg, List.length_map] at h
  have e1 : ((Gr.ord (Pf T f) T.length).map fun i => (T.map ltr).getD i []) = ((Gr.ord (Pf T f) T.length).map fun i => T.getD i 0).map ltr := by
    rw [List.map_map]
    exact List.map_congr_left fun i hi => getD_ltr T i (Gr.ord_ltK _ _ i hi)
  rw [e1] at h
  exact h

/-- Whether k may come next, when 'want' have come: of those ahead of it that are in T all have. -/
def lfree (T : List Nat) (f : Nat → List Nat) (want : List Nat) (k : Nat) : Bool := decide (k ∉ want) && (f k).all fun b => decide (b ∉ T) || decide (b ∈ want)
theorem getD_inj {T : List Nat} (hn : T.Nodup) {i j : Nat} (hi : i < T.length) (hj : j < T.length) (e : T.getD i 0 = T.getD j 0) : i = j := by
  rw [List.getD_eq_getElem?_getD, List.getElem?_eq_getElem hi, List.getD_eq_getElem?_getD, List.getElem?_eq_getElem hj] at e
  have e : T[i] = T[j] := by simpa using e
  have hp := List.pairwise_iff_getElem.1 hn
  rcases Nat.lt_trichotomy i j with h | h | h
  · exact absurd e (hp i j hi hj h)
  · exact h
  · exact absurd e.symm (hp j i hj hi h)
theorem plc_get {T : List Nat} {b a : Nat} (h : plc T b = some a) : T.getD a 0 = b := by
  have hl := plc_lt h
  unfold plc at h
  rw [List.findIdx?_eq_some_iff_getElem] at h
  obtain ⟨_, h1, _⟩ := h
  rw [List.getD_eq_getElem?_getD, List.getElem?_eq_getElem hl]
  simp at h1
  exact h1.symm
theorem plc_some {T : List Nat} {b : Nat} (h : b ∈ T) : ∃ a, plc T b = some a := by
  rcases hp : plc T b with _ | a
  · unfold plc at hp
    rw [List.findIdx?_eq_none_iff] at hp
    have := hp b h
    simp at this
  · exact ⟨a, rfl⟩
theorem lfree_is {T : List Nat} (hn : T.Nodup) (f : Nat → List Nat) {R : List Nat} (hR : ∀ r ∈ R, r < T.length) {i : Nat} (hi : i < T.length) :
    lfree T f (R.map fun i => T.getD i 0) (T.getD i 0) = Gr.freeP (Pf T f) R i := by
  have hm : ∀ j, j < T.length → (T.getD j 0 ∈ (R.map fun i => T.getD i 0) ↔ j ∈ R) := fun j hj => by
    rw [List.mem_map]
    exact ⟨fun ⟨r, hr, e⟩ => getD_inj hn (hR r hr) hj e ▸ hr, fun h => ⟨j, h, rfl⟩⟩
  unfold lfree Gr.freeP
  have e0 : decide (T.getD i 0 ∉ (R.map fun i => T.getD i 0)) = decide (i ∉ R) := by
    rw [decide_eq_decide, hm i hi]
  rw [e0]
  congr 1
  unfold Pf
  rw [if_pos hi, Bool.eq_iff_iff, List.all_eq_true, List.all_eq_true]
  constructor
  · intro h a ha
    obtain ⟨b, hb, hp⟩ := List.mem_filterMap.1 ha
    have h1 := h b hb
    have hg := plc_get hp
    have hl := plc_lt hp
    rw [Bool.or_eq_true, decide_eq_true_iff, decide_eq_true_iff] at h1
    rw [decide_eq_true_iff]
    rcases h1 with h1 | h1
    · exact absurd (hg ▸ getD_memK T a hl) h1
    · exact (hm a hl).1 (hg ▸ h1)
  · intro h b hb
    rw [Bool.or_eq_true, decide_eq_true_iff, decide_eq_true_iff]
    by_cases hT : b ∈ T
    · obtain ⟨a, hp⟩ := plc_some hT
      have := h a (List.mem_filterMap.2 ⟨b, hb, hp⟩)
      rw [decide_eq_true_iff] at this
      exact .inr (plc_get hp ▸ (hm a (plc_lt hp)).2 this)
    · exact .inl hT

/-- What is found when d places are looked at, from behind. -/
def nxtD (T : List Nat) (fr : Nat → Bool) : Nat → Int
  | 0 => -1
  | d + 1 => if fr (T.length - 1 - d) = true then ((T.getD (T.length - 1 - d) 0 : Nat) : Int) else nxtD T fr d
theorem nxtD_is (T : List Nat) (fr : Nat → Bool) : ∀ d, d ≤ T.length → nxtD T fr d = match ((List.range T.length).drop (T.length - d)).find? fr with | none => (-1 : Int) | some x => ((T.getD x 0 : Nat) : Int)
  | 0, _ => by
    unfold nxtD
    rw [Nat.sub_zero, List.drop_eq_nil_of_le (by simp)]
    rfl
  | d + 1, hd => by
    unfold nxtD
    have hlt : T.length - (d + 1) < (List.range T.length).length := by simp; omega
    rw [List.drop_eq_getElem_cons hlt, List.getElem_range, List.find?_cons, show T.length - (d + 1) = T.length - 1 - d by omega, show T.length - 1 - d + 1 = T.length - d by omega]
    rcases h : fr (T.length - 1 - d) with _ | _
    · simp only [Bool.false_eq_true, if_false]
      exact nxtD_is T fr d (by omega)
    · simp
theorem nxtD_congr (T : List Nat) {fr fr' : Nat → Bool} (h : ∀ i, i < T.length → fr i = fr' i) : ∀ d, d ≤ T.length → nxtD T fr d = nxtD T fr' d
  | 0, _ => rfl
  | d + 1, hd => by
    unfold nxtD
    rw [h (T.length - 1 - d) (by omega), nxtD_congr T h d (by omega)]

/-- R: the places told so far, on the way to the order. -/
structure Rd (T : List Nat) (f : Nat → List Nat) (R : List Nat) : Prop where
  lt : ∀ r ∈ R, r < T.length
  nd : R.Nodup
  run : Gr.run (Gr.freeP (Pf T f)) T.length (T.length - R.length) R = Gr.ord (Pf T f) T.length
theorem Rd.len {T : List Nat} {f : Nat → List Nat} {R : List Nat} (h : Rd T f R) : R.length ≤ T.length := Gr.nodup_len h.nd h.lt
theorem Rd.nil (T : List Nat) (f : Nat → List Nat) : Rd T f [] := ⟨by simp, by simp, rfl⟩
theorem Rd.full {T : List Nat} {f : Nat → List Nat} {R : List Nat} (h : Rd T f R) (hl : R.length = T.length) : Gr.ord (Pf T f) T.length = R := by
  rw [← h.run, hl, Nat.sub_self]
  rfl
theorem Rd.stuck {T : List Nat} {f : Nat → List Nat} {R : List Nat} (h : Rd T f R) (hl : R.length < T.length) (hf : (List.range T.length).find? (Gr.freeP (Pf T f) R) = none) : Gr.ord (Pf T f) T.length = R := by
  rw [← h.run, show T.length - R.length = (T.length - R.length - 1) + 1 by omega]
  unfold Gr.run
  rw [hf]
theorem Rd.next {T : List Nat} {f : Nat → List Nat} {R : List Nat} (h : Rd T f R) (hl : R.length < T.length) {x : Nat} (hf : (List.range T.length).find? (Gr.freeP (Pf T f) R) = some x) : Rd T f (R ++ [x]) ∧ x ∉ R ∧ x < T.length := by
  have hx := List.mem_range.1 (List.mem_of_find?_eq_some hf)
  have hfr := List.find?_some hf
  have hxR : x ∉ R := by
    unfold Gr.freeP at hfr
    rw [Bool.and_eq_true, decide_eq_true_iff] at hfr
    exact hfr.1
  refine ⟨⟨fun r hr => ?_, ?_, ?_⟩, hxR, hx⟩
  · rcases List.mem_append.1 hr with hr | hr
    · exact h.lt r hr
    · simp at hr; omega
  · rw [List.nodup_append]
    refine ⟨h.nd, by simp, fun a ha b hb e => ?_⟩
    simp at hb
    subst hb
    subst e
    exact hxR ha
  · rw [← h.run]
    rw [show T.length - R.length = (T.length - (R ++ [x]).length) + 1 by simp; omega]
    conv => rhs; unfold Gr.run
    rw [hf]
/-- The number that the round behind R finds. -/
theorem Rd.find {T : List Nat} {f : Nat → List Nat} {R : List Nat} (h : Rd T f R) (hn : T.Nodup) :
    nxtD T (fun i => lfree T f (R.map fun i => T.getD i 0) (T.getD i 0)) T.length = match (List.range T.length).find? (Gr.freeP (Pf T f) R) with | none => (-1 : Int) | some x => ((T.getD x 0 : Nat) : Int) := by
  rw [nxtD_congr T (fr' := Gr.freeP (Pf T f) R) (fun i hi => lfree_is hn f h.lt hi) T.length (Nat.le_refl _), nxtD_is T _ T.length (Nat.le_refl _), Nat.sub_self, List.drop_zero]
end Go.Proofs.Ytemliglhippdcaa

/- GrphOrder's function values: what is ahead of a number; letters. -/
namespace Go.Proofs.Ytemliglhippdcaa
set_option maxRecDepth 100000
open Go.ChangeShapes Go.WideShapes Go.ChangeAt Go.RowKit Go.Shelf

theorem ord1_ahead {w : World} {pe : Nat} {vs : List Value} {Ls : List (List Nat)} {base : Nat} (hb : Blk w pe 43 vs.toArray) (hl : vs.length = 16) (ho : ∀ i, i < 16 → OwnI w base (vs.getD i undef) (Ls.getD i [])) :
    AheadN w 14 #[.pointer (some ⟨pe, 0, none⟩)] (fun x => Ls.getD x []) (fun x => x < 16) := by
  refine ⟨enters_of Try.func14 (by kernel_rfl) rfl, fun x wx hx16 he => ?_⟩
  show Calls Try.prog 14 #[.int .i64 (x : Int), .pointer (some ⟨pe, 0, none⟩)] wx _
  have hbx : Blk wx pe 43 vs.toArray := hb.under he
  have c0 : wx.cell? ⟨pe, x, none⟩ = some (vs.getD x undef) := by
    rw [hbx.at x, List.getElem?_toArray, List.getD_eq_getElem?_getD, List.getElem?_eq_getElem (by rw [hl]; exact hx16)]
    rfl
  have hv := ho x hx16
  have HV0 := Lib.hid hv
  have hv' : OwnI wx base (vs.getD x undef) (Ls.getD x []) := hv.under he
  have hG : ∀ k, (vs.getD x undef).ownBlock = some k → k < w.heap.size := fun k hk => (HV0.out.lt k hk).2
  obtain ⟨A, c, e, _⟩ := hv.parts
  obtain ⟨n, hn⟩ : ∃ n, (Ls.getD x []).length = n := ⟨_, rfl⟩
  rw [hn] at e
  have HE := Lib.hid e
  have HEV := Lib.hid e
  rw [e] at c0 hv'
  have HV := Lib.hid hv'
  have HO := Lib.hid hG
  have hxI : (x : Int) < 16 := by omega
  clear hv hv' hG e hn hb ho he hbx HV0
  go_enter Try.func14, Try.ntmps14
  go_wp2_with fail
  go_ret
  exact ⟨_, rfl, HV.out.rdN, fun k hk => .inl (HO.out k (by rw [HE.out]; exact hk)), Below.refl _ _⟩

set_option maxHeartbeats 16000000 in
theorem letters_any {w : World} {vx : Value} {xs : List Nat} (hx : RdN w vx xs) (hx16 : ∀ x ∈ xs, x < 16) (hlen : xs.length ≤ 1000) :
    Calls Try.prog 15 #[vx] w fun e w' => ∃ v, e = .returned v ∧ OwnT w' w.heap.size v (xs.map ltr) ∧ Below w.heap.size w w' := by
  have HX := Lib.hid hx
  have HL := Lib.hid hlen
  have H16 := Lib.hid hx16
  obtain ⟨A, c, rfl, _, _⟩ := hx
  obtain ⟨n, hn⟩ : ∃ n, xs.length = n := ⟨_, rfl⟩
  have HN := Lib.hid hn
  rw [hn] at HX HL ⊢
  clear hn hlen hx16
  go_enter Try.func15, Try.ntmps15
  go_wp2_with fail
  go_loopg [8, 3] n (fun f' iv uv wr => ∃ (i : Nat), i ≤ n ∧ n - i ≤ f' ∧ iv = .int .i64 (i : Int) ∧ Hid (OwnT wr w.heap.size uv ((xs.take i).map ltr)) ∧ Hid (Below w.heap.size w wr))
  case atStart => exact ⟨0, by omega, by omega, rfl, Lib.hid (ownT_none _ _), Lib.hid (Below.refl _ _)⟩
  case round =>
    obtain ⟨i, hin, hfi, hiv, HU, HB⟩ := hrel
    subst hiv
    obtain ⟨Au, cu, hu, _⟩ := HU.out.shapeS
    obtain ⟨m, hm⟩ : ∃ q, ((xs.take i).map ltr).length = q := ⟨_, rfl⟩
    rw [hm] at hu
    subst hu
    clear hm
    by_cases hi : i < n
    · have hiI : (i : Int) < (n : Int) := by omega
      obtain ⟨_, cx, hv, hcx, hcell⟩ := HX.out.under HB.out
      injection hv with hv1 hv2 hv3
      subst hv1
      obtain ⟨b, off, rfl, p1⟩ := hcell i (by rw [HN.out]; exact hi)
      obtain ⟨x, hx⟩ : ∃ y, xs.getD i 0 = y := ⟨_, rfl⟩
      have hx16 : x < 16 := by
        rw [← hx, List.getD_eq_getElem?_getD, List.getElem?_eq_getElem (by rw [HN.out]; exact hi)]
        exact H16.out _ (List.getElem_mem _)
      have HTK : Hid ((xs.take i).map ltr ++ [ltr x] = (xs.take (i + 1)).map ltr) := Lib.hid (by
        rw [take_snoc xs i (by rw [HN.out]; exact hi), hx]
        simp)
      rw [hx] at p1
      have HTL : Hid (((xs.take i).map ltr).length ≤ 1000) := Lib.hid (by
        have h1 := HL.out
        rw [List.length_map, List.length_take]
        omega)
      have HBY : Hid (Bytes (wr.alloc (.cells #[.int .u8 (97 + (x : Int))] 5)) (.slice (some ⟨wr.heap.size, 0, none⟩) 1 1) (ltr x)) := Lib.hid (bytes_one wr (97 + (x : Int)) (97 + x) 5 (0, 0) (by omega) (by omega))
      have htx := run_text HBY.out
      have hge := HB.out.size
      have HCL : Hid (∀ e : TypeId, ((wr.alloc (.cells #[.int .u8 (97 + (x : Int))] 5)).alloc (.cells #[.string (str (ltr x))] e)).cell? ⟨wr.heap.size + 1, 0, none⟩ = some (.string (str (ltr x)))) := Lib.hid (fun e => by
        have h1 := cell_new_text (wr.alloc (.cells #[.int .u8 (97 + (x : Int))] 5)) (ltr x) e
        rw [World.size_alloc] at h1
        exact h1)
      have hi1000 : i < 1000 := by have := HL.out; omega
      clear hcell hx hv2 hv3 hcx
      go_wp2_with (first
        | (at_builtin; refine wpList_append_textT 24 Try.underlying24 rfl _ _ rfl w.heap.size (.slice Au m cu) ((xs.take i).map ltr) (wr.heap.size + 1) (ltr x) rfl (HU.out.under (((Below.refl _ _).alloc (Nat.le_refl _) _).alloc (by simp) _)) rfl (HCL.out _) (by have := HTL.out; omega) (by simp; omega) ?_; intro v6 w6 ho6 hg6 hat6
           have HO6 : Hid (OwnT w6 w.heap.size v6 ((xs.take (i + 1)).map ltr)) := Lib.hid (by rw [← HTK.out]; exact ho6)
           have HB6 : Hid (Below w.heap.size w w6) := Lib.hid (((HB.out.alloc hge _).alloc (by simp; omega) _).grown hg6 (by simp; omega) fun k hk => (HU.out.lt k hk).1)
           clear ho6 hg6 hat6)
        | fail)
      go_roundg (n - (i + 1))
      case measure => omega
      case rel => exact ⟨i + 1, hi, by omega, by go_num, HO6, HB6⟩
    · obtain rfl : i = n := by omega
      have hiI : ¬ (i : Int) < (i : Int) := by omega
      have HUF : Hid (OwnT wr w.heap.size (.slice Au m cu) (xs.map ltr)) := Lib.hid (by
        have h1 := HU.out
        rw [List.take_of_length_le (by rw [HN.out]; exact Nat.le_refl _)] at h1
        exact h1)
      go_wp2_with fail
      go_ret
      exact ⟨_, rfl, HUF.out, HB.out⟩

theorem ord3_ahead {w : World} {pf pe : Nat} {vs : List Value} {Ls : List (List Nat)} {base : Nat} (hf : Blk w pf 48 #[.func (.func 15) #[] #[]]) (hb : Blk w pe 43 vs.toArray) (hl : vs.length = 16) (ho : ∀ i, i < 16 → OwnI w base (vs.getD i undef) (Ls.getD i []) ∧ (Ls.getD i []).length ≤ 1000 ∧ ∀ x ∈ Ls.getD i [], x < 16) :
    AheadNS w 17 #[.pointer (some ⟨pf, 0, none⟩), .pointer (some ⟨pe, 0, none⟩)] (fun t => (Ls.getD (t.headD 0 - 97) []).map ltr) (fun t => ∃ k, k < 16 ∧ t = ltr k) := by
  refine ⟨enters_of Try.func17 (by kernel_rfl) rfl, fun t wx ht he => ?_⟩
  obtain ⟨k, hk16, rfl⟩ := ht
  show Calls Try.prog 17 #[.string (str (ltr k)), .pointer (some ⟨pf, 0, none⟩), .pointer (some ⟨pe, 0, none⟩)] wx _
  have hkk : (ltr k).headD 0 - 97 = k := by unfold ltr; simp
  rw [hkk]
  have hbx : Blk wx pe 43 vs.toArray := hb.under he
  have hfx := hf.under he
  have c0 : wx.cell? ⟨pe, k, none⟩ = some (vs.getD k undef) := by
    rw [hbx.at k, List.getElem?_toArray, List.getD_eq_getElem?_getD, List.getElem?_eq_getElem (by rw [hl]; exact hk16)]
    rfl
  have c1 : wx.cell? ⟨pf, 0, none⟩ = some (.func (.func 15) #[] #[]) := hfx.at 0
  obtain ⟨hv, hl1, hl2⟩ := ho k hk16
  have HL1 := Lib.hid hl1
  have HL2 := Lib.hid hl2
  have hv' : OwnI wx base (vs.getD k undef) (Ls.getD k []) := hv.under he
  obtain ⟨A, c, e, _⟩ := hv.parts
  obtain ⟨n, hn⟩ : ∃ n, (Ls.getD k []).length = n := ⟨_, rfl⟩
  rw [hn] at e
  have HEV := Lib.hid e
  rw [e] at c0 hv'
  have HV := Lib.hid hv'
  have HSZ := Lib.hid he.size
  have HCX : Hid (∀ Y, Below wx.heap.size wx Y → Y.cell? ⟨pf, 0, none⟩ = some (.func (.func 15) #[] #[]) ∧ Y.cell? ⟨pe, k, none⟩ = some (vs.getD k undef)) := Lib.hid fun Y hb => ⟨(hfx.under hb).at 0, by rw [(hbx.under hb).at k, List.getElem?_toArray, List.getD_eq_getElem?_getD, List.getElem?_eq_getElem (by rw [hl]; exact hk16)]; rfl⟩
  have hkI : (k : Int) < 16 := by omega
  have hz : (str (ltr k)).size = 1 := by rw [str_size]; rfl
  obtain ⟨b, hb97⟩ : ∃ b, 97 + k = b := ⟨_, rfl⟩
  have hg0 : ∀ h : 0 < (str (ltr k)).size, ((str (ltr k))[0]'h).toNat = b := fun h => by
    rw [str_get (l := ltr k) (fun c hc => by unfold ltr at hc; simp at hc; omega) 0 h, ← hb97]
    rfl
  have hb1 : ¬ (b : Int) < 97 := by omega
  have hb2 : ¬ (112 : Int) < (b : Int) := by omega
  have hb3 : (b : Int) - 97 = (k : Int) := by omega
  have hb4 : IntKind.u8.wrap (k : Int) = (k : Int) := by rw [IntKind.wrap_u8]; omega
  rw [HEV.out] at HCX
  clear hv hv' e hn hb ho he hbx hfx hf hl1 hl2
  go_enter Try.func17, Try.ntmps17
  have HVD : Hid (RdN wx.drew (.slice A n c) (Ls.getD k [])) := Lib.hid (HV.out.rdN.under ((Below.refl wx.heap.size wx).drew))
  go_upto_region 3 with fail
  refine wp_region_noPanic ?_
  refine wp_region_held_drew (S := fun w' => w'.cell? ⟨pf, 0, none⟩ = some (.func (.func 15) #[] #[]) ∧ w'.cell? ⟨pe, k, none⟩ = some (.slice A n c)) (by kernel_rfl) (⟨c1, c0⟩) (fun hHeld => ?_)
  refine takeW 0 (some 18) (oi := ?oT1) (v := ?vT1) ?hiT1 ?hdT1 (by kernel_rfl) (by kernel_rfl) (by kernel_rfl) (fun _ _ _ h => h) ?hwT1 ?hyT1 hHeld ?_
  case hiT1 => (simp only [List.getElem?_toArray, List.getElem?_cons_zero]; with_reducible rfl)
  case hdT1 => rfl
  case hwT1 => rfl
  case hyT1 => (intro w hSw; (try dsimp only at hSw); go_simp; first | done | with_reducible rfl)
  try simp only [Act.put]
  try simp only [List.setIfInBounds_toArray, List.set_cons_zero, List.set_cons_succ]
  refine takeW 1 (some 19) (oi := ?oT2) (v := ?vT2) ?hiT2 ?hdT2 (by kernel_rfl) (by kernel_rfl) (by kernel_rfl) (fun _ _ _ h => h) ?hwT2 ?hyT2 hHeld ?_
  case hiT2 => (simp only [List.getElem?_toArray, List.getElem?_cons_succ, List.getElem?_cons_zero]; with_reducible rfl)
  case hdT2 => rfl
  case hwT2 => rfl
  case hyT2 => (intro w hSw; (try dsimp only at hSw); go_simp; first | done | with_reducible rfl)
  try simp only [Act.put]
  try simp only [List.setIfInBounds_toArray, List.set_cons_zero, List.set_cons_succ]
  refine takeW 2 (some 20) (oi := ?oT3) (v := ?vT3) ?hiT3 ?hdT3 (by kernel_rfl) (by kernel_rfl) (by kernel_rfl) (fun _ _ _ h => h) ?hwT3 ?hyT3 hHeld ?_
  case hiT3 => (simp only [List.getElem?_toArray, List.getElem?_cons_succ, List.getElem?_cons_zero]; with_reducible rfl)
  case hdT3 => rfl
  case hwT3 => rfl
  case hyT3 => (intro w hSw; (try dsimp only at hSw); go_simp; first | done | with_reducible rfl)
  try simp only [Act.put]
  try simp only [List.setIfInBounds_toArray, List.set_cons_zero, List.set_cons_succ]
  refine takeW 3 (some 21) (oi := ?oT4) (v := ?vT4) ?hiT4 ?hdT4 (by kernel_rfl) (by kernel_rfl) (by kernel_rfl) (fun _ _ _ h => h) ?hwT4 ?hyT4 hHeld ?_
  case hiT4 => (simp only [List.getElem?_toArray, List.getElem?_cons_succ, List.getElem?_cons_zero]; with_reducible rfl)
  case hdT4 => rfl
  case hwT4 => rfl
  case hyT4 => (intro w hSw; (try dsimp only at hSw); go_simp; first | done | with_reducible rfl)
  try simp only [Act.put]
  try simp only [List.setIfInBounds_toArray, List.set_cons_zero, List.set_cons_succ]
  refine takeW 4 (some 22) (oi := ?oT5) (v := ?vT5) ?hiT5 ?hdT5 (by kernel_rfl) (by kernel_rfl) (by kernel_rfl) (fun _ _ _ h => h) ?hwT5 ?hyT5 hHeld ?_
  case hiT5 => (simp only [List.getElem?_toArray, List.getElem?_cons_succ, List.getElem?_cons_zero]; with_reducible rfl)
  case hdT5 => rfl
  case hwT5 => rfl
  case hyT5 => (intro w hSw; (try dsimp only at hSw); go_simp; first | done | with_reducible rfl)
  try simp only [Act.put]
  try simp only [List.setIfInBounds_toArray, List.set_cons_zero, List.set_cons_succ]
  refine takeW 5 (some 23) (oi := ?oT6) (v := ?vT6) ?hiT6 ?hdT6 (by kernel_rfl) (by kernel_rfl) (by kernel_rfl) (fun _ _ _ h => h) ?hwT6 ?hyT6 hHeld ?_
  case hiT6 => (simp only [List.getElem?_toArray, List.getElem?_cons_succ, List.getElem?_cons_zero]; with_reducible rfl)
  case hdT6 => rfl
  case hwT6 => rfl
  case hyT6 => (intro w hSw; (try dsimp only at hSw); go_simp; first | done | with_reducible rfl)
  try simp only [Act.put]
  try simp only [List.setIfInBounds_toArray, List.set_cons_zero, List.set_cons_succ]
  refine stepOne 6 (o := ?oT7) ?hiT7 (by kernel_rfl) ?hwT7 (fun K hK => ?_)
  case hiT7 => (simp only [List.getElem?_toArray, List.getElem?_cons_succ, List.getElem?_cons_zero]; with_reducible rfl)
  case hwT7 => rfl
  go_simp
  go_at_call 15
  refine (letters_any HVD.out HL2.out HL1.out).mono ?_
  rintro e w2 ⟨v, rfl, ho2, hb2⟩
  have HO2 := Lib.hid ho2
  have HB2 := Lib.hid ((Below.refl wx.heap.size wx).drew.trans hb2)
  clear ho2 hb2
  refine hK.out _ _ ?_ (fun hHeld => ?_)
  · exact HCX.out _ HB2.out
  clear hK K
  try simp only [Act.put]
  try simp only [List.setIfInBounds_toArray, List.set_cons_zero, List.set_cons_succ]
  refine takeW 7 (some 4) (oi := ?oT8) (v := ?vT8) ?hiT8 ?hdT8 (by kernel_rfl) (by kernel_rfl) (by kernel_rfl) (fun _ _ _ h => h) ?hwT8 ?hyT8 hHeld ?_
  case hiT8 => (simp only [List.getElem?_toArray, List.getElem?_cons_succ, List.getElem?_cons_zero]; with_reducible rfl)
  case hdT8 => rfl
  case hwT8 => rfl
  case hyT8 => (intro w hSw; (try dsimp only at hSw); go_simp; first | done | with_reducible rfl)
  try simp only [Act.put]
  try simp only [List.setIfInBounds_toArray, List.set_cons_zero, List.set_cons_succ]
  refine wpAnyH_done (by kernel_rfl) ?_ _
  refine NoPanic.normal ?_
  skip
  go_wp2_with fail
  go_ret
  exact ⟨_, rfl, HO2.out.rdS, fun j hj => .inr (HO2.out.lt j hj), HB2.out⟩
end Go.Proofs.Ytemliglhippdcaa

/- GrphOrder: things in an order in which each stands behind those that are ahead of it; letters in the same. -/
namespace Go.Proofs.Ytemliglhippdcaa
set_option maxRecDepth 100000
open Go.ChangeShapes Go.WideShapes Go.ChangeAt Go.RowKit Go.Shelf

theorem addL_snocK (l xs : List Nat) (x : Nat) : addL l (xs ++ [x]) = if x ∈ addL l xs then addL l xs else addL l xs ++ [x] := by
  unfold addL
  rw [List.foldl_append]
  rfl
def okB (T : List Nat) (f : Nat → List Nat) : Bool := !decide ((Gr.ord (Pf T f) T.length).length < T.length)
def ordL (T : List Nat) (f : Nat → List Nat) : List Nat := if okB T f = true then (Gr.ord (Pf T f) T.length).map fun i => T.getD i 0 else []
theorem orderis_both {T : List Nat} {f : Nat → List Nat} {w w' : World} {e : Ending} (h : OrderIs T f w e w') : ∃ v, e = .returned (.tuple #[v, .bool (okB T f)]) ∧ OwnI w' w.heap.size v (ordL T f) := by
  unfold OrderIs at h
  by_cases hlt : (Gr.ord (Pf T f) T.length).length < T.length
  · rw [if_pos hlt] at h
    have e1 : okB T f = false := by unfold okB; simp [hlt]
    unfold ordL
    rw [e1]
    exact ⟨_, h, ownI_none _ _⟩
  · rw [if_neg hlt] at h
    obtain ⟨v, h1, h2⟩ := h
    have e1 : okB T f = true := by unfold okB; simp [hlt]
    unfold ordL
    rw [e1]
    exact ⟨v, h1, h2⟩
theorem orderisS_both {T : List Nat} {f : Nat → List Nat} {g : List Nat → List (List Nat)} {w w' : World} {e : Ending} (hg : ∀ x ∈ T, g (ltr x) = (f x).map ltr) (h : OrderIsS (T.map ltr) g w e w') : ∃ v, e = .returned (.tuple #[v, .bool (okB T f)]) ∧ OwnT w' w.heap.size v ((ordL T f).map ltr) := by
  have h := orderS_ltr hg h
  by_cases hlt : (Gr.ord (Pf T f) T.length).length < T.length
  · rw [if_pos hlt] at h
    have e1 : okB T f = false := by unfold okB; simp [hlt]
    unfold ordL
    rw [e1]
    exact ⟨_, h, ownT_none _ _⟩
  · rw [if_neg hlt] at h
    obtain ⟨v, h1, h2⟩ := h
    have e1 : okB T f = true := by unfold okB; simp [hlt]
    unfold ordL
    rw [e1]
    exact ⟨v, h1, h2⟩
theorem AheadN.less {w0 : World} {K : Nat} {cap : Array Value} {f : Nat → List Nat} {D D' : Nat → Prop} (h : AheadN w0 K cap f D) (hD : ∀ x, D' x → D x) : AheadN w0 K cap f D' := ⟨h.enter, fun x w hx hb => h.call x w (hD x hx) hb⟩
theorem AheadNS.less {w0 : World} {K : Nat} {cap : Array Value} {f : List Nat → List (List Nat)} {D D' : List Nat → Prop} (h : AheadNS w0 K cap f D) (hD : ∀ x, D' x → D x) : AheadNS w0 K cap f D' := ⟨h.enter, fun x w hx hb => h.call x w (hD x hx) hb⟩
theorem addL_mem16 (I : List Nat) (h : ∀ x ∈ I, x < 16) : ∀ x ∈ addL [] I, x < 16 := by
  have key : ∀ (xs l : List Nat), (∀ x ∈ l, x < 16) → (∀ x ∈ xs, x < 16) → ∀ x ∈ addL l xs, x < 16 := by
    intro xs
    induction xs with
    | nil => intro l hl _; exact hl
    | cons y xs ih =>
      intro l hl hx
      have e : addL l (y :: xs) = addL (if y ∈ l then l else l ++ [y]) xs := rfl
      rw [e]
      refine ih _ ?_ fun z hz => hx z (by simp [hz])
      intro z hz
      by_cases hy : y ∈ l
      · rw [if_pos hy] at hz; exact hl z hz
      · rw [if_neg hy] at hz
        rcases List.mem_append.1 hz with hz | hz
        · exact hl z hz
        · simp at hz
          exact hz ▸ hx y (by simp)
  exact key I [] (by simp) h
set_option maxHeartbeats 16000000 in
theorem gorder_any (v0 v1 : Value) (rd : Bool) (ys zs : List Int) (w : World) (hy : Ints w v0 ys) (hz : Ints w v1 zs) :
    Calls Try.prog 4 #[v0, v1, .bool rd] w fun e w' => e = .returned (.bool true) ∧ Below w.heap.size w w' := by
  have HY := Lib.hid hy
  have HZ := Lib.hid hz
  obtain ⟨_, _, A0, c0, rfl, _, _⟩ := hy
  obtain ⟨_, _, A1, c1, rfl, _, _⟩ := hz
  obtain ⟨n0, hn0⟩ : ∃ m, ys.length = m := ⟨_, rfl⟩
  obtain ⟨n1, hn1⟩ : ∃ m, zs.length = m := ⟨_, rfl⟩
  rw [hn0] at HY ⊢
  rw [hn1] at HZ ⊢
  clear hn0 hn1
  refine (callsIn_wide (n := 0)).1 (callsIn_of_wp_marks Try.func4 rfl trivial (wpIn_wide.2 ?_) rfl)
  simp only [Try.ntmps4, List.size_toArray, List.length_cons, List.length_nil, Nat.reduceAdd, Nat.reduceSub, Array.replicate_succ, Array.replicate_zero, List.push_toArray, List.append_toArray, List.nil_append, List.cons_append]
  go_wp2_with fail
  refine (edges_any w _ zs rd HZ.out).mono ?_
  rintro e w2 ⟨vs, Ls, rfl, hvl, hll, ho2, hE, hb2⟩
  have HO2 := Lib.hid ho2
  have HE := Lib.hid hE
  have HB02 := Lib.hid hb2
  have HVL := Lib.hid hvl
  have HINF : Hid ((Try.prog.info? 43).map (·.size) = some vs.toArray.size) := Lib.hid (by rw [infoArr, List.size_toArray, hvl])
  have HONE : Hid (vs.toArray.all (·.oneCell') = true) := Lib.hid (by
    rw [Array.all_eq_true_iff_forall_mem]
    intro x hx
    obtain ⟨j, hj⟩ := List.getElem?_of_mem (by simpa using hx : x ∈ vs)
    have hj16 : j < 16 := by rw [← hvl]; exact (List.getElem?_eq_some_iff.1 hj).1
    have h1 := ho2 j hj16
    rw [List.getD_eq_getElem?_getD, hj] at h1
    obtain ⟨A', c', e, _⟩ := h1.parts
    simp only [Option.getD_some] at e
    subst e
    rfl)
  have HSZ : Hid (zeros.toArray.size = vs.toArray.size) := Lib.hid (by rw [List.size_toArray, List.size_toArray, hvl]; simp [zeros])
  clear ho2 hE hb2 hvl hll
  go_upto_region 3 with (first
    | (refine wpList_store_row rfl 43 _ _ rfl w2.heap.size vs.toArray rfl rfl 43 zeros.toArray (heap_alloc_new w2 _) HINF.out HSZ.out HONE.out ?_)
    | fail)
  obtain ⟨w3, hw3⟩ : ∃ W, (w2.alloc (.cells zeros.toArray 43)).setRow w2.heap.size vs.toArray = W := ⟨_, rfl⟩
  obtain ⟨pe, hpe⟩ : ∃ q, w2.heap.size = q := ⟨_, rfl⟩
  have HPE3 : Hid (Blk w3 pe 43 vs.toArray) := Lib.hid (by rw [← hw3, ← hpe]; exact setRow_heap _ _ _ _ _ _ (heap_alloc_new w2 _))
  have HB23 : Hid (Below w2.heap.size w2 w3) := Lib.hid (by
    rw [← hw3]
    have hmv : Moves (fun k => k = w2.heap.size) (w2.alloc (.cells zeros.toArray 43)) ((w2.alloc (.cells zeros.toArray 43)).setRow w2.heap.size vs.toArray) := ⟨rfl, rfl, rfl, by simp, fun k _ hk => setRow_other _ _ _ _ hk⟩
    exact (bel_alloc w2 _).trans (hmv.below (by simp) (fun k e => by omega)))
  rw [show (#[Value.slice none 0 0, Value.slice none 0 0, Value.slice none 0 0, Value.slice none 0 0, Value.slice none 0 0, Value.slice none 0 0, Value.slice none 0 0, Value.slice none 0 0, Value.slice none 0 0, Value.slice none 0 0, Value.slice none 0 0, Value.slice none 0 0, Value.slice none 0 0, Value.slice none 0 0, Value.slice none 0 0, Value.slice none 0 0] : Array Value) = zeros.toArray from rfl, hw3, hpe]
  clear hw3 hpe HINF HONE HSZ
  have hmm := @run_makeMap Try.prog
  go_upto_block 0 with fail
  obtain ⟨w4, hw4⟩ : ∃ W, w3.alloc (.map #[] 0) = W := ⟨_, rfl⟩
  obtain ⟨mb, hmb⟩ : ∃ q, w3.heap.size = q := ⟨_, rfl⟩
  have HSN4 : Hid (Seen w4 mb []) := Lib.hid (by rw [← hw4, ← hmb]; exact seen_made w3)
  have HB34 : Hid (Below w3.heap.size w3 w4) := Lib.hid (by rw [← hw4]; exact bel_alloc w3 _)
  have HMB : Hid (w3.heap.size = mb) := Lib.hid hmb
  rw [hw4, hmb]
  clear hw4 hmb hmm
  have HB04 : Hid (Below w.heap.size w w4) := Lib.hid ((HB02.out.trans (HB23.out.mono HB02.out.size)).trans (HB34.out.mono (Nat.le_trans HB02.out.size HB23.out.size)))
  have HM0 : Hid (w.heap.size ≤ mb ∧ mb < w4.heap.size) := Lib.hid ⟨by rw [← HMB.out]; exact Nat.le_trans HB02.out.size HB23.out.size, HSN4.out.lt⟩
  go_cut [8, 9, 11, 12] from 29 to 57 (fun s8 s9 s11 s12 wx => ∃ I : List Nat, Hid (OwnI wx w4.heap.size s8 I) ∧ Hid (OwnI wx w4.heap.size s9 (addL [] I)) ∧ Hid (AptI s8 s9) ∧ Hid (Seen wx mb (addL [] I)) ∧ Hid (I.length ≤ 20 ∧ ∀ x ∈ I, x < 16) ∧ Hid (Moves (fun k => k = mb) w4 wx))
  case first =>
    go_wp2_with fail
    go_loopg [11, 8, 9, 12] 20 (fun f' iv uv ov kv wr => ∃ (i : Nat) (I : List Nat), i ≤ 20 ∧ i ≤ n0 ∧ 20 - i ≤ f' ∧ iv = .int .i64 (i : Int) ∧ Hid (OwnI wr w4.heap.size uv I) ∧ Hid (OwnI wr w4.heap.size ov (addL [] I)) ∧ Hid (AptI uv ov) ∧ Hid (Seen wr mb (addL [] I)) ∧ Hid (I.length ≤ i ∧ ∀ x ∈ I, x < 16) ∧ Hid (Moves (fun k => k = mb) w4 wr))
    case atStart => exact ⟨0, [], by omega, by omega, by omega, rfl, Lib.hid (ownI_none _ _), Lib.hid (ownI_none _ _), Lib.hid (fun k hk => by cases hk), HSN4, Lib.hid (by simp), Lib.hid (Moves.refl _ _)⟩
    case round =>
      obtain ⟨i, I, hi20, hin, hfi, hiv, HU, HO, HAP, HS, HI, HMV⟩ := hrel
      subst hiv
      obtain ⟨W, hW⟩ : ∃ W, addL [] I = W := ⟨_, rfl⟩
      rw [hW] at HO HS
      have HWE := Lib.hid hW
      have HWL : Hid (W.length ≤ i) := Lib.hid (by
        have h1 := addL_len I []
        rw [hW] at h1
        have h2 := HI.out.1
        simp at h1
        omega)
      obtain ⟨Au, cu, hu, _⟩ := HU.out.parts
      obtain ⟨m, hm⟩ : ∃ q, I.length = q := ⟨_, rfl⟩
      rw [hm] at hu
      subst hu
      clear hm hW
      obtain ⟨Ao, co, ho, _⟩ := HO.out.parts
      obtain ⟨q, hq⟩ : ∃ q, W.length = q := ⟨_, rfl⟩
      rw [hq] at ho
      subst ho
      clear hq
      by_cases hin2 : i < n0
      · by_cases hi2 : i < 20
        · have hinI : (i : Int) < (n0 : Int) := by omega
          have hi2I : (i : Int) < 20 := by omega
          have HBr : Hid (Below w.heap.size w wr) := Lib.hid (HB04.out.trans (HMV.out.below HB04.out.size (fun k e => by have := HM0.out.1; omega)))
          obtain ⟨b0, off, rfl, p1⟩ := (HY.out.under HBr.out).at hin2
          obtain ⟨y, hy⟩ : ∃ y, ys.getD i 0 = y := ⟨_, rfl⟩
          rw [hy] at p1
          obtain ⟨x, hx15, hand⟩ := and_15K y
          have HIX : Hid ((I ++ [x]).length ≤ i + 1 ∧ ∀ z ∈ I ++ [x], z < 16) := Lib.hid ⟨by have := HI.out.1; simp; omega, fun z hz => by
            rcases List.mem_append.1 hz with hz | hz
            · exact HI.out.2 z hz
            · simp at hz
              omega⟩
          have HADD : Hid (addL [] (I ++ [x]) = if x ∈ W then W else W ++ [x]) := Lib.hid (by rw [addL_snocK, HWE.out])
          have h4r : w4.heap.size ≤ wr.heap.size := HMV.out.size
          clear hy
          go_upto_region 9 with (first
            | (at_builtin; refine wpList_append_intT 22 Try.underlying22 rfl _ _ rfl w4.heap.size (.slice Au m cu) I wr.heap.size x rfl (HU.out.under ((Below.refl _ _).alloc (Nat.le_refl _) _)) rfl (cell_new_int wr _ _) (by have := HI.out.1; omega) (by simp; omega) ?_; intro v5 w5 ho5 hg5 hat5
               have HU5 : Hid (OwnI w5 w4.heap.size v5 (I ++ [x])) := Lib.hid ho5
               have hM5 : Moves (fun k => (Value.slice Au m cu).ownBlock = some k) wr w5 := (Moves.under (bel_alloc wr _)).trans (Moves.grown hg5)
               have HS5 : Hid (Seen w5 mb W) := Lib.hid (HS.out.same (hM5.block mb HS.out.lt (fun e => by have h1 := (HU.out.lt mb e).1; have h2 := HM0.out.2; omega)))
               have HO5 : Hid (OwnI w5 w4.heap.size (.slice Ao q co) W) := Lib.hid (HO.out.moves hM5 (fun k hk e => HAP.out k e hk))
               have HM45 : Hid (Moves (fun k => k = mb) w4 w5) := Lib.hid (HMV.out.then hM5 (fun k hk e => by have h1 := (HU.out.lt k e).1; omega))
               have HAP5 : Hid (AptI v5 (.slice Ao q co)) := Lib.hid (fun k hk e => by
                 rcases hat5 with h1 | h1
                 · exact HAP.out k (by rw [← h1]; exact hk) e
                 · rw [h1] at hk
                   injection hk with hk
                   have h2 := (HO.out.lt k e).2
                   simp at hk
                   omega)
               clear ho5 hg5 hat5 hM5)
            | fail)
          have HVP5 := Lib.hid HU5.out.parts
          clear HU HO HAP HS HMV
          have h45 : w4.heap.size ≤ w5.heap.size := HM45.out.size
          have hlk := HS5.out.run_look x
          by_cases hx : x ∈ W
          · rw [decide_eq_true hx] at hlk
            have HAD2 : Hid (addL [] (I ++ [x]) = W) := Lib.hid (by rw [HADD.out, if_pos hx])
            go_wp2_with fail
            go_roundg (20 - (i + 1))
            case measure => omega
            case rel => exact ⟨i + 1, I ++ [x], by omega, by omega, by omega, by go_num, HU5, by rw [HAD2.out]; exact HO5, HAP5, by rw [HAD2.out]; exact HS5, HIX, HM45⟩
          · rw [decide_eq_false hx] at hlk
            have HAD2 : Hid (addL [] (I ++ [x]) = W ++ [x]) := Lib.hid (by rw [HADD.out, if_neg hx])
            obtain ⟨w6, hst, hs6, hg6, hz6⟩ := HS5.out.run_store x hx
            have hM6 : Moves (fun k => k = mb) w5 w6 := (Moves.grown hg6).wide fun j _ e => by injection e with e; exact e.symm
            have HU6 : Hid (OwnI w6 w4.heap.size v5 (I ++ [x])) := Lib.hid (HU5.out.moves hM6 (fun k hk e => by have h1 := (HU5.out.lt k hk).1; have h2 := HM0.out.2; omega))
            have HO6 : Hid (OwnI w6 w4.heap.size (.slice Ao q co) W) := Lib.hid (HO5.out.moves hM6 (fun k hk e => by have h1 := (HO5.out.lt k hk).1; have h2 := HM0.out.2; omega))
            have HS6 := Lib.hid hs6
            have HM46 : Hid (Moves (fun k => k = mb) w4 w6) := Lib.hid (HM45.out.trans hM6)
            have h46 : w4.heap.size ≤ w6.heap.size := HM46.out.size
            clear hs6 hg6 hz6 hM6 hx
            go_wp2_with (first
              | (at_builtin; refine wpList_append_intT 22 Try.underlying22 rfl _ _ rfl w4.heap.size (.slice Ao q co) W w6.heap.size x rfl (HO6.out.under ((Below.refl _ _).alloc (Nat.le_refl _) _)) rfl (cell_new_int w6 _ _) (by have := HWL.out; omega) (by simp; omega) ?_; intro v7 w7 ho7 hg7 hat7
                 have HO7 : Hid (OwnI w7 w4.heap.size v7 (addL [] (I ++ [x]))) := Lib.hid (by rw [HAD2.out]; exact ho7)
                 have hM7 : Moves (fun k => (Value.slice Ao q co).ownBlock = some k) w6 w7 := (Moves.under (bel_alloc w6 _)).trans (Moves.grown hg7)
                 have HS7 : Hid (Seen w7 mb (addL [] (I ++ [x]))) := Lib.hid (by rw [HAD2.out]; exact HS6.out.same (hM7.block mb HS6.out.lt (fun e => by have h1 := (HO6.out.lt mb e).1; have h2 := HM0.out.2; omega)))
                 have HU7 : Hid (OwnI w7 w4.heap.size v5 (I ++ [x])) := Lib.hid (HU6.out.moves hM7 (fun k hk e => HAP5.out k hk e))
                 have HM47 : Hid (Moves (fun k => k = mb) w4 w7) := Lib.hid (HM46.out.then hM7 (fun k hk e => by have h1 := (HO6.out.lt k e).1; omega))
                 have HAP7 : Hid (AptI v5 v7) := Lib.hid (fun k hk e => by
                   rcases hat7 with h1 | h1
                   · exact HAP5.out k hk (by rw [← h1]; exact e)
                   · rw [h1] at e
                     injection e with e
                     have h2 := (HU6.out.lt k hk).2
                     simp at e
                     omega)
                 clear ho7 hg7 hat7 hM7)
              | fail)
            go_roundg (20 - (i + 1))
            case measure => omega
            case rel => exact ⟨i + 1, I ++ [x], by omega, by omega, by omega, by go_num, HU7, HO7, HAP7, HS7, HIX, HM47⟩
        · obtain rfl : i = 20 := by omega
          have hinI : (20 : Int) < (n0 : Int) := by omega
          go_wp2_with fail
          go_meet
          exact ⟨I, HU, by rw [HWE.out]; exact HO, HAP, by rw [HWE.out]; exact HS, HI, HMV⟩
      · obtain rfl : i = n0 := by omega
        have hinI : ¬ (i : Int) < (i : Int) := by omega
        go_wp2_with fail
        go_meet
        exact ⟨I, HU, by rw [HWE.out]; exact HO, HAP, by rw [HWE.out]; exact HS, Lib.hid ⟨Nat.le_trans HI.out.1 hi20, HI.out.2⟩, HMV⟩
  case rest =>
    obtain ⟨I, HU, HO, HAP, HS, HI, HMV⟩ := hcut
    obtain ⟨w5, rfl⟩ : ∃ wx : World, wx = wc := ⟨_, rfl⟩
    obtain ⟨f, hf⟩ : ∃ f : Nat → List Nat, (fun x => Ls.getD x []) = f := ⟨_, rfl⟩
    have HFE : Hid (∀ x, Ls.getD x [] = f x) := Lib.hid (fun x => by rw [← hf])
    obtain ⟨T, hT⟩ : ∃ T, addL [] I = T := ⟨_, rfl⟩
    rw [hT] at HO HS
    have HTI := Lib.hid hT
    have HT16 : Hid (∀ x ∈ T, x < 16) := Lib.hid (by rw [← hT]; exact addL_mem16 I HI.out.2)
    have HTN : Hid T.Nodup := Lib.hid (by rw [← hT]; exact addL_nd I [] (by simp))
    have HPE5 : Hid (Blk w5 pe 43 vs.toArray) := Lib.hid ((HPE3.out.under HB34.out).moves HMV.out (fun e => by have := HPE3.out.size; have := HMB.out; omega))
    have HO5 : Hid (∀ i, i < 16 → OwnI w5 w.heap.size (vs.getD i undef) (Ls.getD i [])) := Lib.hid (fun i hi => by
      have h2 := (HO2.out i hi).under HB23.out
      exact (h2.under HB34.out).moves HMV.out (fun k hk e => by have h3 := (h2.lt k hk).2; have := HMB.out; omega))
    have HA1 : Hid (AheadN w5 14 #[.pointer (some ⟨pe, 0, none⟩)] f (fun x => x ∈ addL [] I)) := Lib.hid (by
      have h := ord1_ahead HPE5.out HVL.out HO5.out
      rw [hf] at h
      rw [hT]
      exact h.less fun x hx => HT16.out x hx)
    have HF40 : Hid (∀ x, x < 16 → (f x).length ≤ 40 ∧ ∀ y ∈ f x, y < 16) := Lib.hid (fun x hx => by rw [← HFE.out]; exact ⟨(HE.out x hx).1, fun y hy => ((HE.out x hx).2 y hy).1⟩)
    clear hf hT
    obtain ⟨Au, cu, hu, _⟩ := HU.out.parts
    obtain ⟨m, hm⟩ : ∃ q, I.length = q := ⟨_, rfl⟩
    rw [hm] at hu
    subst hu
    have HIM := Lib.hid hm
    clear hm
    have hmf : ∀ (fn : Fn) (first cap : Array Value) (w : World), (Instr.makeFunc fn first cap).run Try.prog w = .ok (.func fn first cap) w := fun _ _ _ _ => rfl
    go_wp2_with fail
    refine (order_any 40 HU.out.rdN (fun k hk => (HU.out.lt k hk).2) (by have := HI.out.1; omega) (by omega) HA1.out (fun x hx => (HF40.out x (HT16.out x (by rw [← HTI.out]; exact hx))).1)).mono ?_
    rintro e w6 ⟨ho6, hb6⟩
    rw [HTI.out] at ho6
    obtain ⟨v6, rfl, hov6⟩ := orderis_both ho6
    have HO6 := Lib.hid hov6
    clear hov6
    have HB56 := Lib.hid hb6
    clear ho6 hb6
    have hsf : ∀ (a : Addr) (w : World) (m : Mode), (store a (.func (.func 15) #[] #[]) m).run Try.prog w = stored Try.prog w a (.func (.func 15) #[] #[]) m := fun a w m => run_store Try.prog w a (.func (.func 15) #[] #[]) m rfl
    go_upto_region 14 with fail
    obtain ⟨w7, hw7⟩ : ∃ W, w6.alloc (.cells #[.func (.func 15) #[] #[]] 48) = W := ⟨_, rfl⟩
    obtain ⟨pf, hpf⟩ : ∃ q, w6.heap.size = q := ⟨_, rfl⟩
    have HPF7 : Hid (Blk w7 pf 48 #[.func (.func 15) #[] #[]]) := Lib.hid (by rw [← hw7, ← hpf]; exact heap_alloc_new w6 _)
    have HB67 : Hid (Below w6.heap.size w6 w7) := Lib.hid (by rw [← hw7]; exact bel_alloc w6 _)
    have HPFG : Hid (w6.heap.size = pf) := Lib.hid hpf
    rw [hw7, hpf]
    clear hw7 hpf hsf
    have HB57 : Hid (Below w5.heap.size w5 w7) := Lib.hid (HB56.out.trans (HB67.out.mono HB56.out.size))
    have HI7 : Hid (RdN w7 (.slice Au m cu) I) := Lib.hid (HU.out.rdN.under HB57.out)
    have c7 : w7.cell? ⟨pf, 0, none⟩ = some (.func (.func 15) #[] #[]) := HPF7.out.at 0
    go_wp2_with fail
    refine (letters_any HI7.out HI.out.2 (by have := HI.out.1; omega)).mono ?_
    rintro e w8 ⟨v8, rfl, ho8, hb8⟩
    obtain ⟨g, hgd⟩ : ∃ g : List Nat → List (List Nat), (fun t : List Nat => (Ls.getD (t.headD 0 - 97) []).map ltr) = g := ⟨_, rfl⟩
    have HG : Hid (∀ x, g (ltr x) = (f x).map ltr) := Lib.hid (fun x => by
      rw [← hgd, ← HFE.out]
      have : (ltr x).headD 0 - 97 = x := by unfold ltr; simp
      show (Ls.getD ((ltr x).headD 0 - 97) []).map ltr = _
      rw [this])
    have HLT : Hid (addLS [] (I.map ltr) = T.map ltr) := Lib.hid (by
      have h := addLS_ltr I []
      rw [HTI.out] at h
      exact h)
    have HB58 : Hid (Below w5.heap.size w5 w8) := Lib.hid (HB57.out.trans (hb8.mono HB57.out.size))
    have HLB : Hid (∀ (J : List Nat), (∀ x ∈ J, x < 16) → ∀ t ∈ J.map ltr, ∀ c ∈ t, c < 256) := Lib.hid (fun J hJ t ht c hc => by
      obtain ⟨x, hx, rfl⟩ := List.mem_map.1 ht
      have h1 := hJ x hx
      unfold ltr at hc
      simp at hc
      omega)
    have HA3 : Hid (AheadNS w8 17 #[.pointer (some ⟨pf, 0, none⟩), .pointer (some ⟨pe, 0, none⟩)] g (fun x => x ∈ addLS [] (I.map ltr))) := Lib.hid (by
      have h := ord3_ahead (HPF7.out.under hb8) (HPE5.out.under HB58.out) HVL.out (base := w.heap.size) (Ls := Ls) (fun i hi => ⟨(HO5.out i hi).under HB58.out, by have := (HE.out i hi).1; omega, fun x hx => ((HE.out i hi).2 x hx).1⟩)
      rw [hgd] at h
      rw [HLT.out]
      exact h.less fun t ht => by
        obtain ⟨k, hk, rfl⟩ := List.mem_map.1 ht
        exact ⟨k, HT16.out k hk, rfl⟩)
    have HO8 := Lib.hid ho8
    have HB78 := Lib.hid hb8
    clear ho8 hb8 hgd
    go_wp2_with fail
    refine (order_anyS 40 (HLB.out I HI.out.2) (by
      intro x hx t ht
      rw [HLT.out] at hx
      obtain ⟨k, hk, rfl⟩ := List.mem_map.1 hx
      rw [HG.out] at ht
      exact HLB.out (f k) (HF40.out k (HT16.out k hk)).2 t ht) HO8.out.rdS (fun k hk => (HO8.out.lt k hk).2) (by rw [List.length_map]; have := HI.out.1; omega) (by omega) HA3.out (by
      intro x hx
      rw [HLT.out] at hx
      obtain ⟨k, hk, rfl⟩ := List.mem_map.1 hx
      rw [HG.out, List.length_map]
      exact (HF40.out k (HT16.out k hk)).1)).mono ?_
    rintro e w9 ⟨ho9, hb9⟩
    rw [HLT.out] at ho9
    obtain ⟨v9, rfl, hov9⟩ := orderisS_both (fun x _ => HG.out x) ho9
    have HO9 := Lib.hid hov9
    have HB89 := Lib.hid hb9
    clear hov9 hb9
    have hmm := @run_makeMap Try.prog
    go_upto_block 2 with fail
    obtain ⟨w10, hw10⟩ : ∃ W, w9.alloc (.map #[] 0) = W := ⟨_, rfl⟩
    obtain ⟨db, hdb⟩ : ∃ q, w9.heap.size = q := ⟨_, rfl⟩
    have HSD : Hid (Seen w10 db []) := Lib.hid (by rw [← hw10, ← hdb]; exact seen_made w9)
    have HB9T : Hid (Below w9.heap.size w9 w10) := Lib.hid (by rw [← hw10]; exact bel_alloc w9 _)
    have HDB : Hid (w9.heap.size = db) := Lib.hid hdb
    rw [hw10, hdb]
    clear hw10 hdb hmm hmf c7
    have HB59 : Hid (Below w5.heap.size w5 w9) := Lib.hid (HB58.out.trans (HB89.out.mono HB58.out.size))
    have HB5T : Hid (Below w5.heap.size w5 w10) := Lib.hid (HB59.out.trans (HB9T.out.mono HB59.out.size))
    have HRD : Hid (∀ wq, Moves (fun k => k = db) w10 wq → OwnI wq w4.heap.size u9 T ∧ Seen wq mb T ∧ ∀ i, i < 16 → OwnI wq w.heap.size (vs.getD i undef) (f i) ∧ wq.cell? ⟨pe, i, none⟩ = some (vs.getD i undef)) := Lib.hid (fun wq hm => by
      have hlt : ∀ k, k < w5.heap.size → k ≠ db := fun k hk e => by have h1 := HB59.out.size; have h2 := HDB.out; omega
      refine ⟨(HO.out.under HB5T.out).moves hm (fun k hk => hlt k (HO.out.lt k hk).2), (HS.out.under HB5T.out).same (hm.block mb (HS.out.under HB5T.out).lt (hlt mb HS.out.lt)), fun i hi => ?_⟩
      have h1 := HO5.out i hi
      rw [HFE.out] at h1
      refine ⟨(h1.under HB5T.out).moves hm (fun k hk => hlt k (h1.lt k hk).2), ?_⟩
      have h4 : Blk wq pe 43 vs.toArray := (HPE5.out.under HB5T.out).moves hm (hlt pe HPE5.out.size)
      rw [h4.at i, List.getElem?_toArray, List.getD_eq_getElem?_getD, List.getElem?_eq_getElem (by rw [HVL.out]; exact hi)]
      rfl)
    have HB05 : Hid (Below w.heap.size w w5) := Lib.hid (HB04.out.trans (HMV.out.below HB04.out.size (fun k e => by have := HM0.out.1; omega)))
    have HBW : Hid (Below w.heap.size w w10) := Lib.hid (HB05.out.trans (HB5T.out.mono HB05.out.size))
    have HDL : Hid (w.heap.size ≤ db) := Lib.hid (by rw [← HDB.out]; exact Nat.le_trans HB05.out.size HB59.out.size)
    obtain ⟨A9, c9, hu9, _⟩ := HO.out.parts
    obtain ⟨nt, hnt⟩ : ∃ q, T.length = q := ⟨_, rfl⟩
    rw [hnt] at hu9
    have HU9 : Hid (u9 = .slice A9 nt c9) := Lib.hid hu9
    subst hu9
    have HNT := Lib.hid hnt
    have hnt16 : nt ≤ 16 := by rw [← hnt]; exact Gr.nodup_len HTN.out HT16.out
    clear hnt
    go_wp2_with fail
    go_loopg [19, 20, 21, 22, 24] nt (fun f' wv nv iv fv bv wr => ∃ R : List Nat, Hid (Rd T f R) ∧ nt - R.length ≤ f' ∧ Hid (OwnI wr w10.heap.size wv (R.map fun i => T.getD i 0)) ∧ Hid (Seen wr db (R.map fun i => T.getD i 0)) ∧ Hid (Moves (fun k => k = db) w10 wr))
    case atStart => exact ⟨[], Lib.hid (Rd.nil T f), by simp, Lib.hid (ownI_none _ _), HSD, Lib.hid (Moves.refl _ _)⟩
    case round =>
      obtain ⟨R, HR, hfr, HW, HSW, HMW⟩ := hrel
      obtain ⟨V, hV⟩ : ∃ V, (R.map fun i => T.getD i 0) = V := ⟨_, rfl⟩
      rw [hV] at HW HSW
      have HVE := Lib.hid hV
      obtain ⟨Av, cv, hv, _⟩ := HW.out.parts
      obtain ⟨q, hq⟩ : ∃ q, V.length = q := ⟨_, rfl⟩
      rw [hq] at hv
      subst hv
      have HVN := Lib.hid hq
      have HRQ : Hid (R.length = q) := Lib.hid (by rw [← hq, ← hV, List.length_map])
      have hqn : q ≤ nt := by have h1 := HR.out.len; rw [HRQ.out, HNT.out] at h1; exact h1
      rw [HRQ.out] at hfr
      clear hV hq
      by_cases hqt : q < nt
      · have hqI : (q : Int) < (nt : Int) := by omega
        go_upto_block 4 with fail
        obtain ⟨fr, hfrE⟩ : ∃ fr : Nat → Bool, (fun i => lfree T f V (T.getD i 0)) = fr := ⟨_, rfl⟩
        have HFR : Hid (∀ i, lfree T f V (T.getD i 0) = fr i) := Lib.hid (fun i => by rw [← hfrE])
        have HFN : Hid (nxtD T fr nt = match (List.range T.length).find? (Gr.freeP (Pf T f) R) with | none => (-1 : Int) | some x => ((T.getD x 0 : Nat) : Int)) := Lib.hid (by
          have h := HR.out.find HTN.out
          rw [HVE.out, hfrE, HNT.out] at h
          rw [HNT.out]
          exact h)
        clear hfrE
        go_cut [20, 21, 22, 24] from 81 to 120 (fun s20 s21 s22 s24 wx => s20 = .int .i64 (nxtD T fr nt) ∧ wr = wx)
        case first =>
          go_wp2_with fail
          go_loopg [21, 20, 22, 24] nt (fun f' iv nv fv bv wq => ∃ d : Nat, d ≤ nt ∧ nt - d ≤ f' ∧ iv = .int .i64 ((nt : Int) - 1 - (d : Int)) ∧ nv = .int .i64 (nxtD T fr d) ∧ wr = wq)
          case atStart => exact ⟨0, by omega, by omega, by simp, rfl, rfl⟩
          case round =>
            obtain ⟨d, hdn, hfd, hiv, hnv, hwq⟩ := hrel
            subst hwq
            subst hiv
            subst hnv
            by_cases hd : d < nt
            · obtain ⟨j, hj⟩ : ∃ j : Nat, (nt : Int) - 1 - (d : Int) = (j : Int) := ⟨nt - 1 - d, by omega⟩
              have hjn : j < nt := by omega
              have HNX : Hid (nxtD T fr (d + 1) = if fr j = true then ((T.getD j 0 : Nat) : Int) else nxtD T fr d) := Lib.hid (by
                have e : T.length - 1 - d = j := by rw [HNT.out]; omega
                rw [← e]
                rfl)
              rw [hj]
              have hj0 : (0 : Int) ≤ (j : Int) := by omega
              have hop := (HRD.out wr HMW.out).1.open (i := j) (by rw [HNT.out]; exact hjn)
              rw [HNT.out] at hop
              obtain ⟨r2, ca2, hr2, _, _, _, hcell⟩ := hop
              injection hr2 with hr21 hr22 hr23
              subst hr21
              have p1 := (hcell j hjn).1
              obtain ⟨x, hx⟩ : ∃ x, T.getD j 0 = x := ⟨_, rfl⟩
              rw [hx] at p1
              have hx16 : x < 16 := by
                rw [← hx]
                exact HT16.out _ (getD_memK T j (by rw [HNT.out]; exact hjn))
              have hxI : (x : Int) < 16 := by omega
              have hlk := HSW.out.run_look x
              obtain ⟨b0, hb0⟩ : ∃ b, decide (x ∈ V) = b := ⟨_, rfl⟩
              rw [hb0] at hlk
              obtain ⟨hrx, hrc⟩ := (HRD.out wr HMW.out).2.2 x hx16
              obtain ⟨Ae, ce, hve, _⟩ := hrx.parts
              obtain ⟨ne, hne⟩ : ∃ q, (f x).length = q := ⟨_, rfl⟩
              rw [hne] at hve
              rw [hve] at hrx hrc
              have HRX := Lib.hid hrx
              have HNE := Lib.hid hne
              have hne40 : ne ≤ 40 := by rw [← hne]; exact (HF40.out x hx16).1
              obtain ⟨G, hG⟩ : ∃ G : Nat → Bool, (fun p => !b0 && ((f x).take p).all fun b => decide (b ∉ T) || decide (b ∈ V)) = G := ⟨_, rfl⟩
              have HG0 : Hid (G 0 = !b0) := Lib.hid (by rw [← hG]; simp)
              have HGS : Hid (∀ p, p < ne → G (p + 1) = (G p && (!decide ((f x).getD p 0 ∈ T) || decide ((f x).getD p 0 ∈ V)))) := Lib.hid (fun p hp => by
                rw [← hG]
                show (!b0 && ((f x).take (p + 1)).all _) = ((!b0 && ((f x).take p).all _) && _)
                rw [take_snoc (f x) p (by rw [HNE.out]; exact hp), List.all_append, Bool.and_assoc]
                simp)
              have HGE : Hid (fr j = G ne) := Lib.hid (by
                rw [← HFR.out j, hx, ← hG]
                show lfree T f V x = (!b0 && ((f x).take ne).all _)
                rw [List.take_of_length_le (by rw [HNE.out]; exact Nat.le_refl _), ← hb0]
                unfold lfree
                simp)
              have HXJ : Hid (T.getD j 0 = x) := Lib.hid hx
              clear hcell hx hr22 hr23 hG hb0 hrx hve hne
              go_upto_block 6 with fail
              go_wp2_with fail
              go_loopg [99, 22, 24] ne (fun f'' pv fv bv wz => ∃ p : Nat, p ≤ ne ∧ ne - p ≤ f'' ∧ pv = .int .i64 (p : Int) ∧ fv = .bool (G p) ∧ wr = wz)
              case atStart => exact ⟨0, by omega, by omega, rfl, by rw [HG0.out], rfl⟩
              case round =>
                obtain ⟨p, hpn, hfp, hpv, hfv, hwz⟩ := hrel
                subst hwz
                subst hpv
                subst hfv
                by_cases hp : p < ne
                · have hpI : (p : Int) < (ne : Int) := by omega
                  have hoq := HRX.out.open (i := p) (by rw [HNE.out]; exact hp)
                  rw [HNE.out] at hoq
                  obtain ⟨r3, ca3, hr3, _, _, _, hcell3⟩ := hoq
                  injection hr3 with hr31 hr32 hr33
                  subst hr31
                  have p3 := (hcell3 p hp).1
                  have hgs := HGS.out p hp
                  obtain ⟨y, hy⟩ : ∃ y, (f x).getD p 0 = y := ⟨_, rfl⟩
                  rw [hy] at p3 hgs
                  have hl1 := (HRD.out wr HMW.out).2.1.run_look y
                  have hl2 := HSW.out.run_look y
                  obtain ⟨b1, hb1⟩ : ∃ b, decide (y ∈ T) = b := ⟨_, rfl⟩
                  obtain ⟨b2, hb2⟩ : ∃ b, decide (y ∈ V) = b := ⟨_, rfl⟩
                  obtain ⟨b3, hb3⟩ : ∃ b, G p = b := ⟨_, rfl⟩
                  rw [hb1] at hl1 hgs
                  rw [hb2] at hl2 hgs
                  rw [hb3] at hgs ⊢
                  clear hcell3 hr32 hr33 hy hb1 hb2 hb3
                  rcases b3 with _ | _ <;> rcases b1 with _ | _ <;> rcases b2 with _ | _
                  all_goals
                    go_wp2_with fail
                    go_roundg (ne - (p + 1))
                    case measure => omega
                    case rel => exact ⟨p + 1, hp, by omega, by go_num, by rw [hgs]; rfl, rfl⟩
                · obtain rfl : p = ne := by omega
                  have hpI : ¬ (p : Int) < (p : Int) := by omega
                  rw [← HGE.out]
                  have hnx := HNX.out
                  rw [HXJ.out] at hnx
                  obtain ⟨b4, hb4⟩ : ∃ b, fr j = b := ⟨_, rfl⟩
                  rw [hb4] at hnx ⊢
                  clear hb4
                  rcases b4 with _ | _
                  all_goals
                    simp only [Bool.false_eq_true, if_false, if_true] at hnx
                    go_wp2_with fail
                    go_roundg (nt - (d + 1))
                    case measure => omega
                    case rel => exact ⟨d + 1, hd, by omega, by first | go_num | (congr 1; push_cast; omega), by rw [hnx], rfl⟩
            · obtain rfl : d = nt := by omega
              have hneg : (d : Int) - 1 - (d : Int) = -1 := by omega
              rw [hneg]
              go_wp2_with fail
              go_meet
              exact ⟨rfl, rfl⟩
        case rest =>
          obtain ⟨hs20, hwx⟩ := hcut
          subst hwx
          subst hs20
          have hfn := HFN.out
          obtain ⟨F, hF⟩ : ∃ F, (List.range T.length).find? (Gr.freeP (Pf T f) R) = F := ⟨_, rfl⟩
          rw [hF] at hfn
          rcases F with _ | x
          · have HST : Hid (Gr.ord (Pf T f) T.length = R) := Lib.hid (HR.out.stuck (by rw [HRQ.out, HNT.out]; exact hqt) hF)
            dsimp only at hfn
            rw [hfn]
            have hm1 : (-1 : Int) < 0 := by omega
            clear hF hfn
            have HBR : Hid (Below w.heap.size w wr) := Lib.hid (HBW.out.trans (HMW.out.below HBW.out.size (fun k e => by have := HDL.out; omega)))
            have hok : okB T f = false := by
              unfold okB
              rw [HST.out, HRQ.out, HNT.out, decide_eq_true hqt]
              rfl
            have hol : ordL T f = [] := by
              unfold ordL
              rw [hok]
              rfl
            have h6 := HO6.out
            have h9 := HO9.out
            rw [hol] at h6 h9
            obtain ⟨A6, c6, hv6, _⟩ := h6.parts
            obtain ⟨AT, cT, hv9, _⟩ := h9.shapeS
            rw [List.length_nil] at hv6
            rw [List.map_nil, List.length_nil] at hv9
            clear h6 h9 hol
            subst hv6
            subst hv9
            rw [hok]
            clear hok
            go_wp2_with fail
            refine (grphawake_any _).mono ?_
            rintro e w13 ⟨rfl, hb13⟩
            have HB13 : Hid (Below wr.heap.size wr w13) := Lib.hid hb13
            clear hb13
            go_wp2_with fail
            refine ⟨_, results_tmp rfl _ _ _, rfl, ?_⟩
            exact HBR.out.trans (HB13.out.mono HBR.out.size)
          · obtain ⟨hR2, hxR, hxn⟩ := HR.out.next (by rw [HRQ.out, HNT.out]; exact hqt) hF
            dsimp only at hfn
            obtain ⟨k, hk⟩ : ∃ k, T.getD x 0 = k := ⟨_, rfl⟩
            rw [hk] at hfn
            rw [hfn]
            have hk0 : ¬ (k : Int) < 0 := by omega
            have hkV : k ∉ V := by
              rw [← HVE.out, ← hk]
              intro hm
              obtain ⟨r, hr, e⟩ := List.mem_map.1 hm
              exact hxR (getD_inj HTN.out (HR.out.lt r hr) hxn e ▸ hr)
            have HV2 : Hid ((R ++ [x]).map (fun i => T.getD i 0) = V ++ [k]) := Lib.hid (by rw [List.map_append, HVE.out, List.map_cons, List.map_nil, hk])
            have HR2 := Lib.hid hR2
            have HVL2 : Hid (V.length ≤ 16) := Lib.hid (by rw [HVN.out]; omega)
            obtain ⟨w11, hst, hs11, hg11, hz11⟩ := HSW.out.run_store k hkV
            have hM11 : Moves (fun k => k = db) wr w11 := (Moves.grown hg11).wide fun j _ e => by injection e with e; exact e.symm
            have HDT : Hid (db < w10.heap.size) := Lib.hid HSD.out.lt
            have HW11 : Hid (OwnI w11 w10.heap.size (.slice Av q cv) V) := Lib.hid (HW.out.moves hM11 (fun k hk e => by have h1 := (HW.out.lt k hk).1; have h2 := HDT.out; omega))
            have HS11 := Lib.hid hs11
            have HM11 : Hid (Moves (fun k => k = db) w10 w11) := Lib.hid (HMW.out.trans hM11)
            have h11 : w10.heap.size ≤ w11.heap.size := HM11.out.size
            clear hF hfn hR2 hxR hxn hk hkV hs11 hg11 hz11 hM11
            go_wp2_with (first
              | (at_builtin; refine wpList_append_intT 22 Try.underlying22 rfl _ _ rfl w10.heap.size (.slice Av q cv) V w11.heap.size k rfl (HW11.out.under ((Below.refl _ _).alloc (Nat.le_refl _) _)) rfl (cell_new_int w11 _ _) (by have := HVL2.out; omega) (by simp; omega) ?_; intro v12 w12 ho12 hg12 hat12
                 have HO12 : Hid (OwnI w12 w10.heap.size v12 (V ++ [k])) := Lib.hid ho12
                 have hM12 : Moves (fun k => (Value.slice Av q cv).ownBlock = some k) w11 w12 := (Moves.under (bel_alloc w11 _)).trans (Moves.grown hg12)
                 have HS12 : Hid (Seen w12 db (V ++ [k])) := Lib.hid (HS11.out.same (hM12.block db HS11.out.lt (fun e => by have h1 := (HW11.out.lt db e).1; have h2 := HDT.out; omega)))
                 have HM12 : Hid (Moves (fun k => k = db) w10 w12) := Lib.hid (HM11.out.then hM12 (fun k hk e => by have h1 := (HW11.out.lt k e).1; omega))
                 clear ho12 hg12 hat12 hM12)
              | fail)
            go_roundg (nt - (q + 1))
            case measure => omega
            case rel => exact ⟨R ++ [x], HR2, by rw [List.length_append, HRQ.out]; exact Nat.le_refl _, by rw [HV2.out]; exact HO12, by rw [HV2.out]; exact HS12, HM12⟩
      · obtain rfl : q = nt := by omega
        have hqI : ¬ (q : Int) < (q : Int) := by omega
        have HRF : Hid (Gr.ord (Pf T f) T.length = R) := Lib.hid (HR.out.full (by rw [HRQ.out, HNT.out]))
        have HBR : Hid (Below w.heap.size w wr) := Lib.hid (HBW.out.trans (HMW.out.below HBW.out.size (fun k e => by have := HDL.out; omega)))
        have hok : okB T f = true := by
          unfold okB
          rw [HRF.out, HRQ.out, HNT.out]
          simp
        have hol : ordL T f = V := by
          unfold ordL
          rw [hok, if_pos rfl, HRF.out]
          exact HVE.out
        have h6 := HO6.out
        have h9 := HO9.out
        rw [hol] at h6 h9
        have HN : Hid (∀ k, k < w9.heap.size → k ≠ db) := Lib.hid (fun k hk e => by have := HDB.out; omega)
        have HB6X : Hid (Below w6.heap.size w6 w9) := Lib.hid (HB67.out.trans ((HB78.out.trans (HB89.out.mono HB78.out.size)).mono HB67.out.size))
        have h69 := HB6X.out.size
        have HX6 : Hid (RdN wr v6 V) := Lib.hid (((h6.under HB6X.out).under HB9T.out).moves HMW.out (fun k hk => HN.out k (by have := (h6.lt k hk).2; omega))).rdN
        have HX9 : Hid (OwnT wr w8.heap.size v9 (V.map ltr)) := Lib.hid ((h9.under HB9T.out).moves HMW.out (fun k hk => HN.out k (h9.lt k hk).2))
        have HXV : Hid (RdN wr (.slice Av q cv) V) := Lib.hid HW.out.rdN
        have hpfN : pf < w9.heap.size := by have h1 := HPF7.out.size; have h2 := HB78.out.size; have h3 := HB89.out.size; omega
        have HXF : Hid (Blk wr pf 48 #[.func (.func 15) #[] #[]]) := Lib.hid ((((HPF7.out.under HB78.out).under HB89.out).under HB9T.out).moves HMW.out (HN.out pf hpfN))
        have HCX : Hid (∀ Y, Below wr.heap.size wr Y → Y.cell? ⟨pf, 0, none⟩ = some (.func (.func 15) #[] #[])) := Lib.hid fun Y hb => (HXF.out.under hb).at 0
        have HV16 : Hid (∀ x ∈ V, x < 16) := Lib.hid (by
          rw [← HVE.out]
          intro y hy
          obtain ⟨r, hr, rfl⟩ := List.mem_map.1 hy
          exact HT16.out _ (getD_memK T r (HR.out.lt r hr)))
        have HVQ : Hid (V.length ≤ 16) := Lib.hid (by rw [HVN.out]; exact hnt16)
        clear h6 h9 hol h69 hpfN
        rw [hok]
        clear hok
        have cf0 := HXF.out.at 0
        have cf : wr.cell? ⟨pf, 0, none⟩ = some (.func (.func 15) #[] #[]) := cf0
        clear cf0
        go_wp2_with fail
        refine (sameints_any V V _ _ wr HX6.out HXV.out (by have := HVQ.out; omega) (by have := HVQ.out; omega)).mono ?_
        rw [decide_eq_true rfl]
        rintro e w11 ⟨rfl, hb11⟩
        have HB11 : Hid (Below wr.heap.size wr w11) := Lib.hid hb11
        have cf1 := HCX.out w11 hb11
        clear hb11 cf
        go_wp2_with fail
        refine (letters_any (HW.out.rdN.under HB11.out) HV16.out (by have := HVQ.out; omega)).mono ?_
        rintro e w12 ⟨vl, rfl, ho12, hb12⟩
        have HO12 := Lib.hid ho12
        have HB12 : Hid (Below wr.heap.size wr w12) := Lib.hid (HB11.out.trans (hb12.mono HB11.out.size))
        clear ho12 hb12 cf1
        go_wp2_with fail
        refine (sametexts_any (V.map ltr) (V.map ltr) _ _ w12 w8.heap.size w11.heap.size (HX9.out.under HB12.out) HO12.out (HLB.out V HV16.out) (HLB.out V HV16.out) (by rw [List.length_map]; have := HVQ.out; omega) (by rw [List.length_map]; have := HVQ.out; omega)).mono ?_
        rw [decide_eq_true rfl]
        rintro e w14 ⟨rfl, hb14⟩
        have HB14 : Hid (Below wr.heap.size wr w14) := Lib.hid (HB12.out.trans (hb14.mono HB12.out.size))
        clear hb14
        go_wp2_with fail
        refine (grphawake_any w14).mono ?_
        rintro e w17 ⟨rfl, hb17⟩
        have HB17 : Hid (Below wr.heap.size wr w17) := Lib.hid (HB14.out.trans (hb17.mono HB14.out.size))
        clear hb17
        go_wp2_with fail
        refine ⟨_, results_tmp rfl _ _ _, rfl, ?_⟩
        exact HBR.out.trans (HB17.out.mono HBR.out.size)
end Go.Proofs.Ytemliglhippdcaa
