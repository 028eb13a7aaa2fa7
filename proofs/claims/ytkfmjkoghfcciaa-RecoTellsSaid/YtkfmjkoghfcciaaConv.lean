/- A text's bytes, laid anew. -/
import Derived.Test.YtkfmjkoghfcciaaText
import Derived.Test.YtkfmjkoghfcciaaMine
import Derived.Laws.IdiomStrings
namespace Go.Proofs.Ytkfmjkoghfcciaa
set_option maxRecDepth 100000
open Go.ChangeShapes Go.WideShapes Go.ChangeAt Go.RowKit

theorem rmine_text (w : World) (l : List Nat) (g : Nat) (hg : g = w.heap.size) (e : TypeId) (cap : Nat) (n : Nat) (hn : (str l).size = n) (hl : ∀ c ∈ l, c < 256) (hc : (str l).size ≤ cap) (hm : cap ≤ maxLen) (m : Nat × Nat) (hz : cap ≤ m.1) (base : Nat) (hb : base ≤ w.heap.size) : Mine (w.alloc (.cells (bytesRow (str l) cap) e m)) base (.slice (some ⟨g, 0, none⟩) n cap) l := by
  subst hg
  have hsz : (bytesRow (str l) cap).size = cap := by
    unfold bytesRow
    rw [Array.size_append, Array.size_map, Array.size_replicate]
    have : (str l).data.size = (str l).size := rfl
    omega
  have hs := str_size l
  have hln : l.length = n := by omega
  have := mine_row w l (bytesRow (str l) cap) e m hl (by omega) (by omega) (by omega) (fun i hi => by
    have hd : i < (str l).data.size := by
      have : (str l).data.size = (str l).size := rfl
      omega
    unfold bytesRow
    rw [Array.getElem?_append_left (by rw [Array.size_map]; exact hd), Array.getElem?_map, Array.getElem?_eq_getElem hd]
    have h2 := str_get hl i (by rw [hs]; exact hi)
    show some (Value.int IntKind.u8 (((str l).data[i]'hd).toNat : Int)) = _
    rw [← h2]
    rfl) base hb
  rw [hsz, hln] at this
  exact this
/-- A text's bytes, laid. -/
theorem rconv_text (s : ByteArray) (w : World) (hs : s.size ≤ maxLen) : ∃ (cap : Nat) (m : Nat × Nat), (convert 9 30 (.string s)).run Try.prog w = .ok (.slice (some ⟨w.heap.size, 0, none⟩) s.size cap) ((w.alloc (.cells (bytesRow s cap) 5 m)).drew) ∧ s.size ≤ cap ∧ cap ≤ maxLen ∧ cap ≤ m.1 := by
  have h1 := grownCap_ge w s.size 0 5
  refine ⟨grownCap w s.size 0 5, _, run_bytes_of_string w 9 30 5 s Try.underlying9 Try.underlying30 Try.underlying5, h1, grownCap_le_maxLen w s.size 0 _ hs, ?_⟩
  show _ ≤ (bytesRow s _).size
  unfold bytesRow
  rw [Array.size_append, Array.size_map, Array.size_replicate]
  have : s.data.size = s.size := rfl
  omega
theorem conv_bytes (t : List Nat) (w : World) (ht : ∀ c ∈ t, c < 256) (hm : t.length ≤ 1000000) : ∃ cap mz, (convert 9 30 (.string (str t))).run Try.prog w = .ok (.slice (some ⟨w.heap.size, 0, none⟩) t.length cap) ((w.alloc (.cells (bytesRow (str t) cap) 5 mz)).drew) ∧ Bytes (w.alloc (.cells (bytesRow (str t) cap) 5 mz)).drew (.slice (some ⟨w.heap.size, 0, none⟩) t.length cap) t := by
  have hsz := str_size t
  obtain ⟨cap, mz, hcv, hc1, hc2, hc3⟩ := rconv_text (str t) w (by rw [hsz]; unfold maxLen; omega)
  rw [hsz] at hcv hc1
  exact ⟨cap, mz, hcv, ((rmine_text w t _ rfl _ cap t.length hsz ht (by rw [hsz]; exact hc1) hc2 mz hc3 _ (Nat.le_refl _)).bytes).heap rfl⟩
theorem made_calls {f : Nat} {args : Array Value} {W : World} {base : Nat} {l m : List Nat} (h : Calls Try.prog f args W (Made base l W)) (e : l = m) : Calls Try.prog f args W (Made base m W) := by rwa [← e]
end Go.Proofs.Ytkfmjkoghfcciaa
