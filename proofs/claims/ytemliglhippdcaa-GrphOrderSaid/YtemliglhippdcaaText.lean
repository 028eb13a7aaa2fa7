/- Texts as lists of bytes: length, a byte, a part, one behind the other, whether two are the same. -/
import Derived.Test.YtemliglhippdcaaBytes
import Derived.Deep.DeepCutAuto
import Derived.Deep.LoopGhost
import Derived.IntWalk
namespace Go.Proofs.Ytemliglhippdcaa
set_option maxRecDepth 100000
open Go.ChangeShapes Go.WideShapes Go.ChangeAt Go.RowKit

theorem str_size (l : List Nat) : (str l).size = l.length := by simp [str, ByteArray.size]
theorem str_data (l : List Nat) : (str l).data.toList = l.map UInt8.ofNat := by simp [str]
/-- Any text is that of its bytes. -/
theorem str_all (s : ByteArray) : s = str (s.data.toList.map (·.toNat)) := by
  apply ByteArray.ext
  apply Array.ext'
  rw [str_data, List.map_map]
  conv => lhs; rw [← List.map_id s.data.toList]
  exact List.map_congr_left fun c _ => by simp
theorem bytes_lt (s : ByteArray) : ∀ c ∈ s.data.toList.map (·.toNat), c < 256 := by
  intro c hc
  obtain ⟨b, _, rfl⟩ := List.mem_map.1 hc
  exact UInt8.toNat_lt b
theorem str_get {l : List Nat} (hl : ∀ c ∈ l, c < 256) (k : Nat) (h : k < (str l).size) : ((str l)[k]'h).toNat = l.getD k 0 := by
  have hk : k < l.length := by rwa [str_size] at h
  have e : (str l)[k]'h = UInt8.ofNat (l[k]'hk) := by
    show (str l).data[k] = _
    simp [str]
  rw [e, List.getD_eq_getElem?_getD, List.getElem?_eq_getElem hk]
  have := hl _ (List.getElem_mem hk)
  simp
  omega
theorem str_part (l : List Nat) (a b : Nat) : (str l).extract a b = str ((l.drop a).take (b - a)) := by
  unfold str
  rw [ByteArray.extract_mk]
  congr 2
  rw [List.map_take, List.map_drop]
theorem str_add (l m : List Nat) : str l ++ str m = str (l ++ m) := by
  apply ByteArray.ext
  apply Array.ext'
  simp [str]
theorem str_same {l m : List Nat} (hl : ∀ c ∈ l, c < 256) (hm : ∀ c ∈ m, c < 256) : ((str l).toList == (str m).toList) = decide (l = m) := str_eq hl hm
theorem str_const {s : ByteArray} {l : List Nat} (h : s.data.toList.map (·.toNat) = l) : s = str l := by rw [← h]; exact str_all s
/-- Two texts of no great length fit one behind the other. -/
theorem str_fits {l m : List Nat} (h : l.length + m.length ≤ 4611686018427387904) : ¬ 9223372036854775807 < (str l).size + (str m).size := by
  rw [str_size, str_size]
  omega
theorem str_empty : (str []).toList.isEmpty = true := by rw [str_toList]; rfl
theorem str_some (c : Nat) (l : List Nat) : (str (c :: l)).toList.isEmpty = false := by rw [str_toList]; rfl
theorem tenth {m n : Nat} (h : m ≤ n) (hn : n < 1000000000000000000) : wrap64 ((m : Int) / 10) = ((m / 10 : Nat) : Int) := by
  unfold wrap64
  omega
end Go.Proofs.Ytemliglhippdcaa
