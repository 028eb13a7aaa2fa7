/- What layer 11's statements ask beside: the known answers of package arti. -/
import Derived.Test.YtoloidfkpfdboaaZ08
namespace Go.Proofs.Ytoloidfkpfdboaa
set_option maxRecDepth 100000
open Go.ChangeShapes Go.WideShapes Go.ChangeAt Go.RowKit

def aawP : List Nat := [112]
def aawV : List Nat := [118, 97, 108, 117, 101]
def aawB : List Nat := Ar.make aawP aawV
theorem aaw_len : aawB.length = 28 := by rw [aawB, Ar.make_length]; rfl
theorem aaw_open : Ar.opn aawB = some (aawP, aawV) := Ar.opn_make _ _ (by decide) (by decide)
theorem aaw_half : Ar.opn (aawB.take 14) = none := Ar.opn_cut _ _ (by decide) (by decide) 14 (by rw [Ar.make_length]; decide)
theorem aconvert_second {P : Program} (w : World) (O : Obj) (t e : TypeId) (C : Array Value) (n c : Nat) (ht : P.underlying t = some (.slice e)) (he : P.underlying e = some (.int .u8)) :
    (convert t t (.slice (some ⟨w.heap.size + 1, 0, none⟩) n c)).run P ((w.alloc O).alloc (.cells C e)) = .ok (.slice (some ⟨w.heap.size + 1, 0, none⟩) n c) ((w.alloc O).alloc (.cells C e (C.size, C.size + 1))) := by
  have := Lib.run_convert_bytes_const (P := P) (w.alloc O) t e C n c ht he
  simpa using this

end Go.Proofs.Ytoloidfkpfdboaa
