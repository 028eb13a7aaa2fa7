/- The document's own files: taking one away. -/
import Derived.Test.YtlfgadcfjjjbfaaRfRows
namespace Go.Proofs.Ytlfgadcfjjjbfaa
set_option maxRecDepth 100000
open Go.ChangeShapes Go.WideShapes Go.ChangeAt Go.RowKit Go.ChangeMaps
open Sf

def keepT (t : List Nat) (T : List Fv) : List Fv := T.filter fun y => decide (y.1.name ≠ t)
theorem keepT_map (t : List Nat) (T : List Fv) : (keepT t T).map Prod.fst = gone (T.map Prod.fst) t := by
  unfold keepT gone
  rw [List.filter_map]
  rfl
theorem keepT_take {t : List Nat} {T : List Fv} {k : Nat} (hk : k < T.length) : keepT t (T.take (k + 1)) = keepT t (T.take k) ++ (if (T[k]'hk).1.name = t then [] else [T[k]'hk]) := by
  rw [List.take_succ_eq_append_getElem hk]
  unfold keepT
  rw [List.filter_append]
  by_cases h : (T[k]'hk).1.name = t
  · rw [if_pos h]
    simp [h]
  · rw [if_neg h]
    simp [h]
/-- Behind a call that turns the files' own block alone. -/
def RDone (G : Nat → Prop) (q : Nat) (s' : S) (w w' : World) : Prop := ∃ lv' G', Rf w' q lv' G' s' ∧ w.grownBy w' (some q) ∧ ∀ k, G' k → G k ∨ w.heap.size ≤ k
/-- How the files' own slice lies. -/
def Shp (v : Value) : Prop := v = .slice none 0 0 ∨ ∃ g n c, v = .slice (some ⟨g, 0, none⟩) n c
theorem OwnF.shp {w : World} {base : Nat} {v : Value} {L : List Fv} (h : OwnF w base v L) : Shp v := by
  rcases h.2 with ⟨rfl, _⟩ | ⟨g, cap, cur, rfl, _⟩
  · exact .inl rfl
  · exact .inr ⟨_, _, _, rfl⟩
def RGone (G : Nat → Prop) (q : Nat) (s' : S) (w w' : World) : Prop := ∃ lv' G', Rf w' q lv' G' s' ∧ w.grownBy w' (some q) ∧ (∀ k, G' k → G k ∨ w.heap.size ≤ k) ∧ Shp lv'
theorem RGone.done {G : Nat → Prop} {q : Nat} {s' : S} {w w' : World} (h : RGone G q s' w w') : RDone G q s' w w' := by
  obtain ⟨lv, G', h1, h2, h3, _⟩ := h
  exact ⟨lv, G', h1, h2, h3⟩
set_option maxHeartbeats 4000000 in
theorem rgone_any (t : List Nat) (w : World) (q : Nat) (lv : Value) (G : Nat → Prop) (s : S) (h : Rf w q lv G s) (ht : ∀ c ∈ t, c < 256) :
    Calls Try.prog 44 #[.pointer (some ⟨q, 0, none⟩), .string (str t)] w fun e w' => e = .returned (.tuple #[]) ∧ RGone G q (rm s t) w w' := by
  obtain ⟨T, hT, hv, hby⟩ := h.row.pairs
  obtain ⟨A, c, rfl, hc, hm⟩ := h.shape
  obtain ⟨n, hn⟩ : ∃ n, s.l.length = n := ⟨_, rfl⟩
  have hTn : T.length = n := by rw [← hn, ← hT]; simp
  have H := Lib.hid h
  have HV := Lib.hid hv
  have HBY := Lib.hid hby
  have HT := Lib.hid hT
  have HTN := Lib.hid hTn
  have HTB := Lib.hid ht
  have HQ := Lib.hid (h.lt q h.gq)
  rw [hn] at hc hm H HV
  clear hn h hv hby hT hTn ht
  go_enter Try.func44, Try.ntmps44
  go_wp2_with fail
  go_loopw [4, 5] (fun rv iv wr => ∃ (k m : Nat) (B : Option Addr) (d : Nat), k ≤ n ∧ m ≤ k ∧ iv = .int .i64 (k : Int) ∧ rv = .slice B m d ∧ Hid ((keepT t (T.take k)).length = m) ∧ Hid (OwnF wr w.heap.size (.slice B m d) (keepT t (T.take k))) ∧ Hid (Below w.heap.size w wr)) (fun _ iv _ => n - (intOf iv).toNat)
  case atStart => exact ⟨0, 0, none, 0, by omega, by omega, rfl, rfl, Lib.hid rfl, Lib.hid (ownF_none _ _), Lib.hid (Below.refl _ _)⟩
  case round =>
    obtain ⟨k, m, B, d, hk, hmk, rfl, rfl, HML, HO, HB⟩ := hrel
    have k0 : wr.cell? ⟨q, 0, none⟩ = some (.slice A n c) := scell_later HB.out (H.out.blk.at 0)
    by_cases hlt : k < n
    · have hlt' : (k : Int) < (n : Int) := by omega
      have hkT : k < T.length := by rw [HTN.out]; exact hlt
      obtain ⟨b, off, rfl, c1, c2, c3⟩ := HV.out.at k hkT
      replace c1 := scell_later HB.out c1
      replace c2 := scell_later HB.out c2
      replace c3 := scell_later HB.out c3
      obtain ⟨y, hy⟩ : ∃ y, T[k]'hkT = y := ⟨_, rfl⟩
      have HY : Hid (Bytes w y.2 y.1.b) := Lib.hid (by rw [← hy]; exact (HBY.out _ (List.getElem_mem hkT)).1)
      have HTK : Hid (keepT t (T.take (k + 1)) = keepT t (T.take k) ++ (if y.1.name = t then [] else [y])) := Lib.hid (by rw [keepT_take hkT, hy])
      have HNM : Hid (∀ c ∈ y.1.name, c < 256) := Lib.hid (H.out.good.2.1 y.1 (by rw [← HT.out, ← hy]; exact List.mem_map.2 ⟨_, List.getElem_mem hkT, rfl⟩)).1
      rw [hy] at c1 c2 c3
      clear hy hkT
      obtain ⟨⟨nm', b', st'⟩, bv⟩ := y
      dsimp only at c1 c2 c3
      obtain ⟨_, _, Ab, cb, hbv, _⟩ := HY.out.parts
      dsimp only at hbv
      obtain ⟨lb', hlb⟩ : ∃ x, b'.length = x := ⟨_, rfl⟩
      rw [hlb] at hbv
      subst hbv
      have hse := str_same HNM.out HTB.out
      dsimp only at hse
      by_cases hd : nm' = t
      · have HTK2 : Hid (keepT t (T.take (k + 1)) = keepT t (T.take k)) := Lib.hid (by rw [HTK.out, if_pos hd, List.append_nil])
        rw [decide_eq_true hd] at hse
        clear hd HTK hlb
        go_wp2
        go_roundw
        case rel => exact ⟨k + 1, m, B, d, by omega, by omega, by go_num, rfl, Lib.hid (by rw [HTK2.out]; exact HML.out), Lib.hid (by rw [HTK2.out]; exact HO.out), HB⟩
        case measure => simp [intOf]; omega
      · have HTK2 : Hid (keepT t (T.take (k + 1)) = keepT t (T.take k) ++ [(⟨nm', b', st'⟩, .slice Ab lb' cb)]) := Lib.hid (by rw [HTK.out, if_neg hd])
        rw [decide_eq_false hd] at hse
        have HO1 : Hid (OwnF (wr.alloc (.cells #[.string (str nm'), .slice Ab lb' cb, .int .i64 (st' : Int)] 58)) w.heap.size (.slice B m d) (keepT t (T.take k))) := Lib.hid (HO.out.alloc _)
        have HV1 : Hid (RdV (wr.alloc (.cells #[.string (str nm'), .slice Ab lb' cb, .int .i64 (st' : Int)] 58)) (.slice (some ⟨wr.heap.size, 0, none⟩) 1 1) [(⟨nm', b', st'⟩, .slice Ab lb' cb)]) := Lib.hid (rdV_one wr (⟨nm', b', st'⟩, .slice Ab lb' cb))
        have HB1 : Hid (Below w.heap.size w (wr.alloc (.cells #[.string (str nm'), .slice Ab lb' cb, .int .i64 (st' : Int)] 58))) := Lib.hid (HB.out.alloc HB.out.size _)
        have hm6 : m + 1 ≤ 2097152 := by omega
        have HM6 := Lib.hid hm6
        clear hd HTK hlb hm6
        go_wp2_with (at_builtin; refine wpList_append_files rfl _ _ rfl w.heap.size (.slice B m d) (.slice (some ⟨wr.heap.size, 0, none⟩) 1 1) _ _ rfl HO1.out rfl HV1.out (by intro x hx; simp at hx; subst hx; rfl) (by rw [HML.out]; exact HM6.out) HB1.out.size _ HTK2.out.symm ?_)
        intro u' w' hG
        have hsh : ∃ B' d', u' = .slice B' (m + 1) d' := by
          have ho' : OwnF w' w.heap.size u' (keepT t (T.take (k + 1))) := hG.1
          have hl : (keepT t (T.take (k + 1))).length = m + 1 := by rw [HTK2.out, List.length_append, HML.out]; rfl
          rcases ho'.2 with ⟨_, h0⟩ | ⟨g, cap, cur, rfl, _⟩
          · omega
          · exact ⟨_, cap, by rw [hl]⟩
        obtain ⟨B', d', rfl⟩ := hsh
        have HO2 := Lib.hid hG.1
        have HB2 := Lib.hid (HB1.out.trans (hG.2.2.1))
        have HML2 : Hid ((keepT t (T.take (k + 1))).length = m + 1) := Lib.hid (by rw [HTK2.out, List.length_append, HML.out]; rfl)
        clear hG
        go_wp2
        go_roundw
        case rel => exact ⟨k + 1, m + 1, B', d', by omega, by omega, by go_num, rfl, HML2, HO2, HB2⟩
        case measure => simp [intOf]; omega
    · obtain rfl : n = k := by omega
      have hall : T.take n = T := List.take_of_length_le (by rw [HTN.out]; exact Nat.le_refl _)
      rw [hall] at HO HML
      have f0 : wr.frozen? ⟨q, 0, none⟩ = false := by
        have := (H.out.blk.below HB.out HQ.out).free 0
        exact this
      clear hall hlt
      go_wp2
      refine bodyPost_end (results_none rfl _ _ _) rfl ⟨rfl, ?_⟩
      have hsz := HB.out.size
      have hoth : ∀ k, k ≠ q → (wr.setCell ⟨q, 0, none⟩ (.slice B m d)).heap[k]? = wr.heap[k]? := fun k hk => Below.heap_setCell _ _ _ _ (by exact hk)
      refine ⟨.slice B m d, fun k => G k ∨ (w.heap.size ≤ k ∧ k < wr.heap.size), ⟨?_, ?_, .inl H.out.gq, fun k hk => ?_, good_rm H.out.good t⟩, ?_, fun k hk => hk.imp id (fun e => e.1), HO.out.shp⟩
      · exact (H.out.blk.below HB.out HQ.out).set 0 _
      · have hrd : RdV (wr.setCell ⟨q, 0, none⟩ (.slice B m d)) (.slice B m d) (keepT t T) := HO.out.rd.same fun j hj => hoth j (by have := (HO.out.lt j hj).1; have := HQ.out; omega)
        have := RdF.of (q := q) (G := fun k => G k ∨ (w.heap.size ≤ k ∧ k < wr.heap.size)) hrd (by rw [HML.out]; omega) (fun j hj => by
          have h1 := HO.out.lt j hj
          have h2 := HQ.out
          exact ⟨.inr ⟨h1.1, h1.2⟩, by omega⟩) (fun y hy => by
          have h1 := HBY.out y (List.mem_filter.1 hy).1
          exact ⟨(h1.1.under HB.out).same fun j _ hj => hoth j (h1.2 j hj).2, fun j hj => ⟨.inl (h1.2 j hj).1, (h1.2 j hj).2⟩⟩)
        rw [keepT_map, HT.out] at this
        exact this
      · rw [World.size_setCell]
        rcases hk with hk | hk
        · have := H.out.lt k hk
          omega
        · exact hk.2
      · have h1 : w.grownBy wr (some q) := Below.toGrown HB.out _
        have h2 := grown_setCell wr ⟨q, 0, none⟩ (.slice B m d)
        exact ⟨h2.os.trans h1.os, h2.tape.trans h1.tape, h2.output.trans h1.output, Nat.le_trans h1.size h2.size, fun j hj hr => (h2.block j (Nat.lt_of_lt_of_le hj h1.size) hr).trans (h1.block j hj hr)⟩
end Go.Proofs.Ytlfgadcfjjjbfaa
