/- What package acts makes of one thing: how an action begins, and how it goes on. -/
import Derived.Test.YtldnpedegcbglaaActAll
import Derived.Test.YtldnpedegcbglaaActRev
import Derived.Test.YtldnpedegcbglaaActJoin
import Derived.Test.YtldnpedegcbglaaActTwice
import Derived.Test.YtldnpedegcbglaaActRows
import Derived.Laws.IdiomStrings
namespace Go.Proofs.Ytldnpedegcbglaa
set_option maxRecDepth 100000
open Go.ChangeShapes Go.WideShapes Go.ChangeAt Go.RowKit

/-- What comes of one thing, if no more than may be. -/
def stepD (ins : List (List Nat)) (d : Ac.D) (b : List Nat) : Option (List Nat) := match Ac.changed d b ins with
  | none => none
  | some x => few x
theorem go_step (ins : List (List Nat)) (d : Ac.D) (r : List Ac.D) (b : List Nat) : Ac.go ins (d :: r) b = match stepD ins d b with
    | none => none
    | some x => Ac.go ins r x := by
  unfold stepD few
  rw [Ac.go]
  rcases Ac.changed d b ins with _ | x
  · rfl
  · by_cases h : x.length ≤ 256
    · simp only [if_pos h]
    · simp only [if_neg h]
theorem mine_text (w : World) (l : List Nat) (g : Nat) (hg : g = w.heap.size) (e : TypeId) (cap : Nat) (n : Nat) (hn : (str l).size = n) (hl : ∀ c ∈ l, c < 256) (hc : (str l).size ≤ cap) (hm : cap ≤ maxLen) (m : Nat × Nat) (hz : cap ≤ m.1) (base : Nat) (hb : base ≤ w.heap.size) : Mine (w.alloc (.cells (bytesRow (str l) cap) e m)) base (.slice (some ⟨g, 0, none⟩) n cap) l := by
  subst hg
  have hsz : (bytesRow (str l) cap).size = cap := by
    unfold bytesRow
    rw [Array.size_append, Array.size_map, Array.size_replicate]
    have : (str l).data.size = (str l).size := rfl
    omega
  have hs := str_size l
  have hln : l.length = n := by omega
  have := mine_row w l (bytesRow (str l) cap) e m hl (by omega) (by omega) (by omega) (fun i hi => by
    have hd : i < (str l).data.size := by
      have : (str l).data.size = (str l).size := rfl
      omega
    unfold bytesRow
    rw [Array.getElem?_append_left (by rw [Array.size_map]; exact hd), Array.getElem?_map, Array.getElem?_eq_getElem hd]
    have h2 := str_get hl i (by rw [hs]; exact hi)
    show some (Value.int IntKind.u8 (((str l).data[i]'hd).toNat : Int)) = _
    rw [← h2]
    rfl) base hb
  rw [hsz, hln] at this
  exact this
/-- A text's bytes, laid. -/
theorem conv_text (s : ByteArray) (w : World) (hs : s.size ≤ maxLen) : ∃ (cap : Nat) (m : Nat × Nat), (convert 9 23 (.string s)).run Try.prog w = .ok (.slice (some ⟨w.heap.size, 0, none⟩) s.size cap) ((w.alloc (.cells (bytesRow s cap) 5 m)).drew) ∧ s.size ≤ cap ∧ cap ≤ maxLen ∧ cap ≤ m.1 := by
  have h1 := grownCap_ge w s.size 0 5
  refine ⟨grownCap w s.size 0 5, _, run_bytes_of_string w 9 23 5 s Try.underlying9 Try.underlying23 Try.underlying5, h1, grownCap_le_maxLen w s.size 0 _ hs, ?_⟩
  show _ ≤ (bytesRow s _).size
  unfold bytesRow
  rw [Array.size_append, Array.size_map, Array.size_replicate]
  have : s.data.size = s.size := rfl
  omega
theorem Rows2.one {w : World} {b off n c : Nat} {L : List (List Nat)} (h : Rows2 w (.slice (some ⟨b, off, none⟩) n c) L) {k : Nat} (hk : k < n) (hc : n ≤ c) : Rows2 w (.slice (some ⟨b, off + k, none⟩) 1 (c - k)) [L.getD k []] := by
  obtain ⟨b', off', u, e, h1, h2⟩ := h.at hk
  injection e with e
  injection e with e1 e2
  subst e1 e2
  refine ⟨by simp, _, c - k, rfl, by simp; omega, fun _ => ⟨b, off + k, rfl, fun i hi => ?_⟩⟩
  have : i = 0 := by simpa using hi
  subst this
  exact ⟨u, h1, h2⟩
set_option maxHeartbeats 4000000 in
theorem begin_any (x : Ac.D) (v : Value) (L : List (List Nat)) (w : World) (h : Rows2 w v L) (hL : L.length ≤ 1000000) (hx : ∀ x ∈ L, x.length ≤ 1000000) (ht : (∀ c ∈ x.text, c < 256) ∧ x.text.length ≤ 64) (hk : x.kind = 1 ∨ x.kind = 2 ∨ x.kind = 3) (hn : x.n ≤ 1000000) (T : Option (List Nat)) (hT : T = stepD L x []) :
    Calls Try.prog 42 #[.agg (cellsD x).toArray, v] w fun e w' => CameIs w.heap.size w e w' T := by
  obtain ⟨xk, xn, xt⟩ := x
  change xk = 1 ∨ xk = 2 ∨ xk = 3 at hk
  change xn ≤ 1000000 at hn
  have HTX : Hid ((∀ c ∈ xt, c < 256) ∧ xt.length ≤ 64) := Lib.hid ht
  have HX := Lib.hid hx
  have HT := Lib.hid hT
  have H := Lib.hid h
  have HBX : Hid (∀ o, Below w.heap.size w (w.alloc o)) := Lib.hid (fun o => (Below.refl _ _).alloc (Nat.le_refl _) o)
  obtain ⟨_, A, c, rfl, hc, _⟩ := h
  obtain ⟨m, hm⟩ : ∃ m, L.length = m := ⟨_, rfl⟩
  rw [hm] at hL hc H ⊢
  have HM := Lib.hid hm
  clear hm hx hT ht
  rw [show (cellsD ⟨xk, xn, xt⟩).toArray = #[.int .i64 (xk : Int), .int .i64 (xn : Int), .string (str xt)] from rfl]
  rcases hk with rfl | rfl | rfl
  · have hsz := str_size xt
    obtain ⟨q, hq⟩ : ∃ q, (str xt).size = q := ⟨_, rfl⟩
    have HQ : Hid ((str xt).size = q ∧ xt.length = q ∧ q ≤ 64) := Lib.hid ⟨hq, by omega, by have := HTX.out.2; omega⟩
    have HT2 : Hid (T = some xt) := Lib.hid (by rw [HT.out]; show few xt = _; unfold few; rw [if_pos (by have := HTX.out.2; omega)])
    have HMT : Hid (∀ (W : World) (cap : Nat) (m : Nat × Nat), q ≤ cap → cap ≤ maxLen → cap ≤ m.1 → w.heap.size ≤ W.heap.size → Mine (W.alloc (.cells (bytesRow (str xt) cap) 5 m)) w.heap.size (.slice (some ⟨W.heap.size, 0, none⟩) q cap) xt) := Lib.hid (fun W cap m h1 h2 h3 h4 => mine_text W xt _ rfl _ cap q HQ.out.1 HTX.out.1 (by rw [HQ.out.1]; exact h1) h2 m h3 _ h4)
    clear hsz
    obtain ⟨s, hs⟩ : ∃ s, str xt = s := ⟨_, rfl⟩
    rw [hs] at hq HMT ⊢
    have HQ2 := Lib.hid HQ.out.2.2
    clear hs HQ
    obtain ⟨cap, mz, hcv, hc1, hc2, hc3⟩ := conv_text s (w.alloc (.cells #[.int .i64 1, .int .i64 (xn : Int), .string s] 26)) (by rw [hq]; have := HQ2.out; unfold maxLen; omega)
    rw [hq] at hcv hc1
    have HMX := Lib.hid (HMT.out (w.alloc (.cells #[.int .i64 1, .int .i64 (xn : Int), .string s] 26)) cap mz hc1 hc2 hc3 (by simp))
    clear hc1 hc2 hc3 HMT
    simp only [World.size_alloc] at hcv HMX
    go_enter Try.func42, Try.ntmps42
    go_wp2
    go_ret2
    exact came_some HT2.out _ rfl (HMX.out.heap rfl) ((HBX.out _).alloc (by simp) _).drew
  · by_cases hin : xn < m
    · have hinI : (xn : Int) < (m : Int) := by omega
      obtain ⟨b, off, _, rfl, _, _⟩ := H.out.at hin
      have hcn : ¬ c = xn := by omega
      have h1c : xn + 1 ≤ c := by omega
      have h1I : (xn : Int) + 1 ≤ (c : Int) := by omega
      have HR := Lib.hid (H.out.one hin hc)
      have HT2 : Hid (T = few [L.getD xn []].flatten) := Lib.hid (by
        rw [HT.out]
        show (match (if xn < L.length then some (L.getD xn []) else none) with
          | none => none
          | some x => few x) = _
        rw [if_pos (by rw [HM.out]; exact hin)]
        simp)
      have HX2 : Hid (∀ x ∈ [L.getD xn []], x.length ≤ 1000000) := Lib.hid (fun y hy => by
        rw [List.mem_singleton.1 hy, List.getD_eq_getElem?_getD, List.getElem?_eq_getElem (by rw [HM.out]; exact hin)]
        exact HX.out _ (List.getElem_mem _))
      obtain ⟨R, hR⟩ : ∃ R, [L.getD xn []] = R := ⟨_, rfl⟩
      rw [hR] at HR HT2 HX2
      have HRL : Hid (R.length = 1) := Lib.hid (by rw [← hR]; rfl)
      clear hR
      go_enter Try.func42, Try.ntmps42
      go_wp2_with fail
      refine (all_any _ R _ (HR.out.under (HBX.out _)) (by rw [HRL.out]; omega) HX2.out T HT2.out).mono ?_
      intro e w2 hcame
      rcases T with _ | b2
      · obtain ⟨rfl, hb2⟩ := hcame
        have HB := Lib.hid ((HBX.out (.cells #[.int .i64 2, .int .i64 (xn : Int), .string (str xt)] 26)).trans (hb2.mono (by simp)))
        clear hb2
        go_wp2
        go_ret2
        exact came_none rfl rfl HB.out
      · obtain ⟨⟨u, rfl, hu⟩, hb2⟩ := hcame
        have HB := Lib.hid ((HBX.out (.cells #[.int .i64 2, .int .i64 (xn : Int), .string (str xt)] 26)).trans (hb2.mono (by simp)))
        have HU := Lib.hid (hu.more (base' := w.heap.size) (by simp))
        clear hb2 hu
        go_wp2
        go_ret2
        exact came_some rfl u rfl HU.out HB.out
    · have hinI : ¬ (xn : Int) < (m : Int) := by omega
      have HT2 : Hid (T = none) := Lib.hid (by
        rw [HT.out]
        show (match (if xn < L.length then some (L.getD xn []) else none) with
          | none => none
          | some x => few x) = _
        rw [if_neg (by rw [HM.out]; exact hin)])
      go_enter Try.func42, Try.ntmps42
      go_wp2
      go_ret2
      exact came_none HT2.out rfl (HBX.out _)
  · have HT2 : Hid (T = few L.flatten) := Lib.hid HT.out
    go_enter Try.func42, Try.ntmps42
    go_wp2_with fail
    refine (all_any _ L _ (H.out.under (HBX.out _)) (by rw [HM.out]; exact hL) HX.out T HT2.out).mono ?_
    intro e w2 hcame
    rcases T with _ | b2
    · obtain ⟨rfl, hb2⟩ := hcame
      have HB := Lib.hid ((HBX.out (.cells #[.int .i64 3, .int .i64 (xn : Int), .string (str xt)] 26)).trans (hb2.mono (by simp)))
      clear hb2
      go_wp2
      go_ret2
      exact came_none rfl rfl HB.out
    · obtain ⟨⟨u, rfl, hu⟩, hb2⟩ := hcame
      have HB := Lib.hid ((HBX.out (.cells #[.int .i64 3, .int .i64 (xn : Int), .string (str xt)] 26)).trans (hb2.mono (by simp)))
      have HU := Lib.hid (hu.more (base' := w.heap.size) (by simp))
      clear hb2 hu
      go_wp2
      go_ret2
      exact came_some rfl u rfl HU.out HB.out
end Go.Proofs.Ytldnpedegcbglaa
