/- A slice of bytes of the call's own, out of a row's middle, too: read, stored into, cut, kept. -/
import Derived.Test.YtfheaognfocofaaGreatDoorZ03
import Derived.Lib.ConvBytes
import Derived.Laws.IdiomStrings
namespace Go.Proofs.YtfheaognfocofaaGreatDoor
set_option maxRecDepth 100000
open Go.ChangeShapes Go.WideShapes Go.ChangeAt Go.RowKit

def Mine (w : World) (base : Nat) (v : Value) (l : List Nat) : Prop :=
  (∀ c ∈ l, c < 256) ∧ ∃ A c, v = .slice A l.length c ∧ l.length ≤ c ∧ c ≤ maxLen ∧ ((A = none ∧ c = 0) ∨
    ∃ b off, A = some ⟨b, off, none⟩ ∧ base ≤ b ∧ b < w.heap.size ∧ (∀ i, i < c → (w.cell? ⟨b, off + i, none⟩).isSome = true ∧ w.frozen? ⟨b, off + i, none⟩ = false) ∧
      ∀ i, i < l.length → w.cell? ⟨b, off + i, none⟩ = some (.int .u8 ((l.getD i 0 : Nat) : Int)))
theorem mine_none (w : World) (base : Nat) : Mine w base (.slice none 0 0) [] := ⟨by simp, none, 0, rfl, Nat.le_refl _, Nat.zero_le _, .inl ⟨rfl, rfl⟩⟩
theorem Mine.bytes {w : World} {base : Nat} {v : Value} {l : List Nat} (h : Mine w base v l) : Bytes w v l := by
  obtain ⟨h1, A, c, rfl, hc, hm, ⟨rfl, rfl⟩ | ⟨b, off, rfl, _, _, _, hx⟩⟩ := h
  · have : l = [] := List.eq_nil_of_length_eq_zero (by omega)
    subst this
    exact bytes_none w
  · unfold maxLen at hm
    exact Bytes.of h1 rfl (by omega) hc fun _ => ⟨b, off, rfl, hx⟩
theorem Mine.parts {w : World} {base : Nat} {v : Value} {l : List Nat} (h : Mine w base v l) : ∃ A c, v = .slice A l.length c ∧ l.length ≤ c ∧ c ≤ maxLen := by
  obtain ⟨_, A, c, e, h1, h2, _⟩ := h
  exact ⟨A, c, e, h1, h2⟩
theorem Mine.lt {w : World} {base : Nat} {v : Value} {l : List Nat} (h : Mine w base v l) : Between base w.heap.size v := by
  obtain ⟨_, A, c, rfl, _, _, ⟨rfl, rfl⟩ | ⟨b, off, rfl, h1, h2, _, _⟩⟩ := h
  · intro k hk
    cases hk
  · intro k hk
    simp [Value.ownBlock] at hk
    subst hk
    exact ⟨h1, h2⟩
theorem Mine.same {w w' : World} {base : Nat} {v : Value} {l : List Nat} (h : Mine w base v l) (hs : w.heap.size ≤ w'.heap.size) (hk : ∀ k, v.ownBlock = some k → w'.heap[k]? = w.heap[k]?) : Mine w' base v l := by
  obtain ⟨h1, A, c, rfl, hc, hm, ⟨rfl, rfl⟩ | ⟨b, off, rfl, hb, hlt, hf, hx⟩⟩ := h
  · exact ⟨h1, none, 0, rfl, hc, hm, .inl ⟨rfl, rfl⟩⟩
  · have hb2 := hk b rfl
    refine ⟨h1, _, c, rfl, hc, hm, .inr ⟨b, off, rfl, hb, by omega, fun i hi => ?_, fun i hi => ?_⟩⟩
    · rw [World.cell?_of_block (w := w) hb2, World.frozen?_of_block (w := w) hb2]
      exact hf i hi
    · rw [World.cell?_of_block (w := w) hb2]
      exact hx i hi
theorem Mine.under {w w' : World} {base : Nat} {v : Value} {l : List Nat} (h : Mine w base v l) (hb : Below w.heap.size w w') : Mine w' base v l := h.same hb.size fun k hk => hb.block k (h.lt k hk).2
theorem Mine.alloc {w : World} {base : Nat} {v : Value} {l : List Nat} (h : Mine w base v l) (o : Obj) : Mine (w.alloc o) base v l := h.under ((Below.refl _ _).alloc (Nat.le_refl _) o)
theorem Mine.heap {w W : World} {base : Nat} {v : Value} {l : List Nat} (h : Mine w base v l) (e : W.heap = w.heap) : Mine W base v l := h.same (by rw [e]; exact Nat.le_refl _) fun k _ => by rw [e]
theorem Mine.more {w : World} {base base' : Nat} {v : Value} {l : List Nat} (h : Mine w base v l) (hb : base' ≤ base) : Mine w base' v l := by
  obtain ⟨h1, A, c, rfl, hc, hm, ⟨rfl, rfl⟩ | ⟨b, off, rfl, h2, rest⟩⟩ := h
  · exact ⟨h1, none, 0, rfl, hc, hm, .inl ⟨rfl, rfl⟩⟩
  · exact ⟨h1, _, c, rfl, hc, hm, .inr ⟨b, off, rfl, Nat.le_trans hb h2, rest⟩⟩
theorem Mine.len {w : World} {base : Nat} {A : Option Addr} {n c : Nat} {l : List Nat} (h : Mine w base (.slice A n c) l) : l.length = n := h.bytes.len
/-- What there is to know of a slice that is not empty. -/
theorem Mine.at {w : World} {base : Nat} {A : Option Addr} {n c : Nat} {l : List Nat} (h : Mine w base (.slice A n c) l) (h0 : 0 < n) : n ≤ c ∧ ∃ b off, A = some ⟨b, off, none⟩ ∧ base ≤ b ∧ b < w.heap.size ∧
    (∀ i, i < n → w.frozen? ⟨b, off + i, none⟩ = false) ∧ ∀ i, i < n → w.cell? ⟨b, off + i, none⟩ = some (.int .u8 ((l.getD i 0 : Nat) : Int)) := by
  have hn := h.len
  obtain ⟨h1, A', c', e, hc, hm, hx⟩ := h
  injection e with e1 e2 e3
  subst e1 e3
  rcases hx with ⟨rfl, rfl⟩ | ⟨b, off, rfl, hb, hlt, hf, hx⟩
  · omega
  · exact ⟨by omega, b, off, rfl, hb, hlt, fun i hi => (hf i (by omega)).2, fun i hi => hx i (by omega)⟩
theorem Own.mine {w : World} {base : Nat} {v : Value} {l : List Nat} (h : Own w base v l) : Mine w base v l := by
  have h' := h
  obtain ⟨h, hl⟩ := h
  have hr := h
  rcases h.2 with ⟨rfl, h0⟩ | ⟨g, cap, cur, rfl, hb, hg, hn, hm, hs, ht⟩
  · have : l = [] := List.eq_nil_of_length_eq_zero h0
    subst this
    exact mine_none w base
  · have hlt : g < w.heap.size := (Array.getElem?_eq_some_iff.1 hg).1
    refine ⟨hl, _, cap, rfl, hn, hm, .inr ⟨g, 0, rfl, hb, hlt, fun i hi => ⟨?_, ?_⟩, fun i hi => ?_⟩⟩
    · rw [show 0 + i = i from by omega]
      simp [World.cell?, hg, show i < cur.size by omega]
    · simp [World.frozen?, hg]
    · rw [show 0 + i = i from by omega, hr.cellAt i (by omega)]
      unfold row8
      rw [List.getElem?_map, List.getD_eq_getElem?_getD, List.getElem?_eq_getElem (by omega)]
      rfl
theorem Mine.take {w : World} {base : Nat} {A : Option Addr} {n c : Nat} {l : List Nat} (h : Mine w base (.slice A n c) l) {k : Nat} (hk : k ≤ n) : Mine w base (.slice A k c) (l.take k) := by
  have hn := h.len
  obtain ⟨h1, A', c', e, hc, hm, hx⟩ := h
  injection e with e1 e2 e3
  subst e1 e3
  have hl : (l.take k).length = k := by rw [List.length_take]; omega
  refine ⟨fun x hx => h1 x (List.mem_of_mem_take hx), A, c, by rw [hl], by omega, hm, ?_⟩
  rcases hx with hx | ⟨b, off, rfl, hb, hlt, hf, hx⟩
  · exact .inl hx
  · refine .inr ⟨b, off, rfl, hb, hlt, hf, fun i hi => ?_⟩
    rw [hl] at hi
    rw [hx i (by omega), List.getD_eq_getElem?_getD, List.getD_eq_getElem?_getD, List.getElem?_take, if_pos hi]
theorem Mine.drop {w : World} {base b off n c : Nat} {l : List Nat} (h : Mine w base (.slice (some ⟨b, off, none⟩) n c) l) {k o' : Nat} (hk : k ≤ n) (ho : k < c → o' = off + k) : Mine w base (.slice (some ⟨b, o', none⟩) (n - k) (c - k)) (l.drop k) := by
  have hn := h.len
  obtain ⟨h1, A', c', e, hc, hm, hx⟩ := h
  injection e with e1 e2 e3
  subst e1 e3
  rcases hx with ⟨e, _⟩ | ⟨b', off', e, hb, hlt, hf, hx⟩
  · cases e
  injection e with e
  injection e with e1 e2
  subst e1 e2
  have hl : (l.drop k).length = n - k := by rw [List.length_drop]; omega
  refine ⟨fun x hx => h1 x (List.mem_of_mem_drop hx), _, c - k, by rw [hl], by omega, by omega, .inr ⟨b, o', rfl, hb, hlt, fun i hi => ?_, fun i hi => ?_⟩⟩
  · rw [ho (by omega), show off + k + i = off + (k + i) from by omega]
    exact hf (k + i) (by omega)
  · rw [hl] at hi
    rw [ho (by omega), show off + k + i = off + (k + i) from by omega, hx (k + i) (by omega), List.getD_eq_getElem?_getD, List.getD_eq_getElem?_getD, List.getElem?_drop]
theorem far (b off i k : Nat) (h : ¬ i = k) : (⟨b, off + k, none⟩ : Addr) ≠ ⟨b, off + i, none⟩ := fun e => by
  injection e with _ e
  omega
theorem Mine.set {w : World} {base b off n c : Nat} {l : List Nat} (h : Mine w base (.slice (some ⟨b, off, none⟩) n c) l) {k x : Nat} (hk : k < n) (hx : x < 256) : Mine (w.setCell ⟨b, off + k, none⟩ (.int .u8 (x : Int))) base (.slice (some ⟨b, off, none⟩) n c) (l.set k x) := by
  have hn := h.len
  obtain ⟨h1, A', c', e, hc, hm, hcase⟩ := h
  injection e with e1 e2 e3
  subst e1 e3
  rcases hcase with ⟨e, _⟩ | ⟨b', off', e, hb, hlt, hf, hcell⟩
  · cases e
  injection e with e
  injection e with e1 e2
  subst e1 e2
  refine ⟨fun y hy => ?_, _, c, by rw [List.length_set, hn], by rw [List.length_set]; exact hc, hm, .inr ⟨b, off, rfl, hb, by simpa using hlt, fun i hi => ⟨?_, ?_⟩, fun i hi => ?_⟩⟩
  · rcases List.mem_or_eq_of_mem_set hy with hy | rfl
    · exact h1 y hy
    · exact hx
  · by_cases e : i = k
    · subst e
      rw [World.cell?_setCell_same _ _ _ (hcell i (by omega))]
      rfl
    · rw [World.cell?_setCell_other _ _ _ _ (far b off i k e)]
      exact (hf i hi).1
  · rw [World.frozen?_setCell]
    exact (hf i hi).2
  · rw [List.length_set] at hi
    rw [getD_set]
    by_cases e : i = k
    · subst e
      rw [World.cell?_setCell_same _ _ _ (hcell i (by omega)), if_pos ⟨rfl, by omega⟩]
    · rw [World.cell?_setCell_other _ _ _ _ (far b off i k e), if_neg (by omega)]
      exact hcell i (by omega)
/-- Out of a text's bytes, laid behind a draw. -/
theorem mine_row (w : World) (l : List Nat) (cur : Array Value) (e : TypeId) (m : Nat × Nat) (hl : ∀ c ∈ l, c < 256) (hc : l.length ≤ cur.size) (hm : cur.size ≤ maxLen) (hz : cur.size ≤ m.1) (hx : ∀ i, i < l.length → cur[i]? = some (.int .u8 ((l.getD i 0 : Nat) : Int))) (base : Nat) (hb : base ≤ w.heap.size) : Mine (w.alloc (.cells cur e m)) base (.slice (some ⟨w.heap.size, 0, none⟩) l.length cur.size) l := by
  have hg : (w.alloc (.cells cur e m)).heap[w.heap.size]? = some (.cells cur e m) := heap_alloc_new w _
  refine ⟨hl, _, cur.size, rfl, hc, hm, .inr ⟨w.heap.size, 0, rfl, hb, by simp, fun i hi => ⟨?_, ?_⟩, fun i hi => ?_⟩⟩
  · rw [show 0 + i = i from by omega]
    unfold World.cell?
    rw [hg]
    simp [hi]
  · rw [show 0 + i = i from by omega]
    obtain ⟨m1, m2⟩ := m
    unfold World.frozen?
    rw [hg]
    change cur.size ≤ m1 at hz
    simp
    omega
  · rw [show 0 + i = i from by omega]
    unfold World.cell?
    rw [hg]
    exact hx i hi
end Go.Proofs.YtfheaognfocofaaGreatDoor

/- A text's bytes, laid anew. -/
namespace Go.Proofs.YtfheaognfocofaaGreatDoor
set_option maxRecDepth 100000
open Go.ChangeShapes Go.WideShapes Go.ChangeAt Go.RowKit

theorem rmine_text (w : World) (l : List Nat) (g : Nat) (hg : g = w.heap.size) (e : TypeId) (cap : Nat) (n : Nat) (hn : (str l).size = n) (hl : ∀ c ∈ l, c < 256) (hc : (str l).size ≤ cap) (hm : cap ≤ maxLen) (m : Nat × Nat) (hz : cap ≤ m.1) (base : Nat) (hb : base ≤ w.heap.size) : Mine (w.alloc (.cells (bytesRow (str l) cap) e m)) base (.slice (some ⟨g, 0, none⟩) n cap) l := by
  subst hg
  have hsz : (bytesRow (str l) cap).size = cap := by
    unfold bytesRow
    rw [Array.size_append, Array.size_map, Array.size_replicate]
    have : (str l).data.size = (str l).size := rfl
    omega
  have hs := str_size l
  have hln : l.length = n := by omega
  have := mine_row w l (bytesRow (str l) cap) e m hl (by omega) (by omega) (by omega) (fun i hi => by
    have hd : i < (str l).data.size := by
      have : (str l).data.size = (str l).size := rfl
      omega
    unfold bytesRow
    rw [Array.getElem?_append_left (by rw [Array.size_map]; exact hd), Array.getElem?_map, Array.getElem?_eq_getElem hd]
    have h2 := str_get hl i (by rw [hs]; exact hi)
    show some (Value.int IntKind.u8 (((str l).data[i]'hd).toNat : Int)) = _
    rw [← h2]
    rfl) base hb
  rw [hsz, hln] at this
  exact this
/-- A text's bytes, laid. -/
theorem rconv_text (s : ByteArray) (w : World) (hs : s.size ≤ maxLen) : ∃ (cap : Nat) (m : Nat × Nat), (convert 9 43 (.string s)).run Tryz.prog w = .ok (.slice (some ⟨w.heap.size, 0, none⟩) s.size cap) ((w.alloc (.cells (bytesRow s cap) 5 m)).drew) ∧ s.size ≤ cap ∧ cap ≤ maxLen ∧ cap ≤ m.1 := by
  have h1 := grownCap_ge w s.size 0 5
  refine ⟨grownCap w s.size 0 5, _, run_bytes_of_string w 9 43 5 s Tryz.underlying9 Tryz.underlying43 Tryz.underlying5, h1, grownCap_le_maxLen w s.size 0 _ hs, ?_⟩
  show _ ≤ (bytesRow s _).size
  unfold bytesRow
  rw [Array.size_append, Array.size_map, Array.size_replicate]
  have : s.data.size = s.size := rfl
  omega
theorem conv_bytes (t : List Nat) (w : World) (ht : ∀ c ∈ t, c < 256) (hm : t.length ≤ 1000000) : ∃ cap mz, (convert 9 43 (.string (str t))).run Tryz.prog w = .ok (.slice (some ⟨w.heap.size, 0, none⟩) t.length cap) ((w.alloc (.cells (bytesRow (str t) cap) 5 mz)).drew) ∧ Bytes (w.alloc (.cells (bytesRow (str t) cap) 5 mz)).drew (.slice (some ⟨w.heap.size, 0, none⟩) t.length cap) t := by
  have hsz := str_size t
  obtain ⟨cap, mz, hcv, hc1, hc2, hc3⟩ := rconv_text (str t) w (by rw [hsz]; unfold maxLen; omega)
  rw [hsz] at hcv hc1
  exact ⟨cap, mz, hcv, ((rmine_text w t _ rfl _ cap t.length hsz ht (by rw [hsz]; exact hc1) hc2 mz hc3 _ (Nat.le_refl _)).bytes).heap rfl⟩
theorem made_calls {f : Nat} {args : Array Value} {W : World} {base : Nat} {l m : List Nat} (h : Calls Tryz.prog f args W (Made base l W)) (e : l = m) : Calls Tryz.prog f args W (Made base m W) := by rwa [← e]
end Go.Proofs.YtfheaognfocofaaGreatDoor
