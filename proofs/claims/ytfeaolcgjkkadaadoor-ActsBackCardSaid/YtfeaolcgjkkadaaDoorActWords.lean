/- How package acts reads words: the signs between parts, the kind, the text, the number. -/
import Derived.Test.YtfeaolcgjkkadaaDoorActRight
import Derived.Test.YtfeaolcgjkkadaaDoorActOne
import Derived.Test.YtfeaolcgjkkadaaDoorNameTabs
import Derived.Lib.Hide
import Derived.Deep.RegionWith
namespace Go.Proofs.YtfeaolcgjkkadaaDoor
set_option maxRecDepth 100000
open Go.ChangeShapes Go.WideShapes Go.ChangeAt Go.RowKit

theorem sep_any (x : Ln.W) (w : World) (hx : ∀ c ∈ x.text, c < 256) : Calls Tryd.prog 29 #[.agg (cellsW x).toArray] w fun e w' => e = .returned (.bool (Ac.sep x)) ∧ Below w.heap.size w w' := by
  obtain ⟨xt, xl, xc, xq⟩ := x
  change ∀ c ∈ xt, c < 256 at hx
  have HBX : Hid (∀ o, Below w.heap.size w (w.alloc o)) := Lib.hid (fun o => (Below.refl _ _).alloc (Nat.le_refl _) o)
  rw [show (cellsW ⟨xt, xl, xc, xq⟩).toArray = #[.string (str xt), .int .i64 (xl : Int), .int .i64 (xc : Int), .bool xq] from rfl]
  rcases xq with _ | _
  · have hq : ((str xt).toList == [59]) = decide (xt = [59]) := by
      have := str_same (l := xt) (m := [59]) hx (by simp)
      rw [str_toList [59]] at this
      exact this
    have HW : Hid (Ac.sep ⟨xt, xl, xc, false⟩ = decide (xt = [59])) := Lib.hid (by unfold Ac.sep; simp)
    obtain ⟨q, hq2⟩ : ∃ q, decide (xt = [59]) = q := ⟨_, rfl⟩
    rw [hq2] at hq HW
    clear hq2 hx
    go_enter Tryd.func29, Tryd.ntmps29
    go_wp2
    go_ret
    exact ⟨by rw [HW.out] <;> rfl, HBX.out _⟩
  · have HW : Hid (Ac.sep ⟨xt, xl, xc, true⟩ = false) := Lib.hid (by unfold Ac.sep; simp)
    go_enter Tryd.func29, Tryd.ntmps29
    go_wp2
    go_ret
    exact ⟨by rw [HW.out] <;> rfl, HBX.out _⟩
/-- The first sign between parts, or that there is none. -/
def SepAt (R : List Ln.W) : Option Nat → Prop
  | some k => ∃ hk : k < R.length, Ac.sep (R[k]'hk) = true ∧ ∀ j (hj : j < R.length), j < k → Ac.sep (R[j]'hj) = false
  | none => ∀ j (hj : j < R.length), Ac.sep (R[j]'hj) = false
def at64 : Option Nat → Int
  | some k => k
  | none => -1
set_option maxHeartbeats 4000000 in
theorem index_any (v : Value) (R : List Ln.W) (w : World) (hv : RdW w v R) (ht : ∀ x ∈ R, ∀ c ∈ x.text, c < 256) (hR : R.length ≤ 1000000) :
    Calls Tryd.prog 28 #[v, .func (.func 29) #[] #[]] w fun e w' => ∃ K, e = .returned (.int .i64 (at64 K)) ∧ SepAt R K ∧ Below w.heap.size w w' := by
  have eg : ∀ args w, (callFunc 29 args).run Tryd.prog w = .ok (.enter 29 args) w := enters_of Tryd.func29 (by kernel_rfl) rfl
  have HV := Lib.hid hv
  have HT := Lib.hid ht
  obtain ⟨A, c, rfl, hc, _⟩ := hv
  obtain ⟨n, hn⟩ : ∃ n, R.length = n := ⟨_, rfl⟩
  rw [hn] at hc hR HV ⊢
  have HN := Lib.hid hn
  clear hn ht
  go_enter Tryd.func28, Tryd.ntmps28
  go_wp2_with fail
  go_loopw [8] (fun iv wr => ∃ k : Nat, k ≤ n ∧ iv = .int .i64 (k : Int) ∧ Hid (∀ j (hj : j < R.length), j < k → Ac.sep (R[j]'hj) = false) ∧ Hid (Below w.heap.size w wr)) (fun iv _ => n - (intOf iv).toNat)
  case atStart => exact ⟨0, Nat.zero_le _, rfl, Lib.hid (fun j hj h => absurd h (by omega)), Lib.hid (Below.refl _ _)⟩
  case round =>
    obtain ⟨k, hk, rfl, hall, hbl⟩ := hrel
    by_cases hlt : k < n
    · have hkI : (k : Int) < (n : Int) := by omega
      have hkL : k < R.length := by rw [HN.out]; exact hlt
      obtain ⟨b, off, rfl, p0, p1, p2, p3⟩ := (HV.out.under hbl.out).at2 k hkL
      have HP : Hid (∀ W, Calls Tryd.prog 29 #[.agg (cellsW (R[k]'hkL)).toArray] W fun e w' => e = .returned (.bool (Ac.sep (R[k]'hkL))) ∧ Below W.heap.size W w') := Lib.hid (fun W => sep_any _ W (HT.out _ (List.getElem_mem hkL)))
      have HF : Hid (Ac.sep (R[k]'hkL) = true → SepAt R (some k)) := Lib.hid (fun h => ⟨hkL, h, hall.out⟩)
      have HNX : Hid (Ac.sep (R[k]'hkL) = false → ∀ j (hj : j < R.length), j < k + 1 → Ac.sep (R[j]'hj) = false) := Lib.hid (fun h j hj hlt => by
        rcases Nat.lt_or_ge j k with h1 | h1
        · exact hall.out j hj h1
        · obtain rfl : j = k := by omega
          exact h)
      obtain ⟨x, hx⟩ : ∃ x, R[k]'hkL = x := ⟨_, rfl⟩
      rw [hx] at p0 p1 p2 p3 HP HF HNX
      clear hx hkL hall
      obtain ⟨xt, xl, xc, xq⟩ := x
      change wr.cell? ⟨b, off + k * 4, none⟩ = some (.string (str xt)) at p0
      change wr.cell? ⟨b, off + k * 4 + 1, none⟩ = some (.int .i64 (xl : Int)) at p1
      change wr.cell? ⟨b, off + k * 4 + 2, none⟩ = some (.int .i64 (xc : Int)) at p2
      change wr.cell? ⟨b, off + k * 4 + 3, none⟩ = some (.bool xq) at p3
      rw [show (cellsW ⟨xt, xl, xc, xq⟩).toArray = #[.string (str xt), .int .i64 (xl : Int), .int .i64 (xc : Int), .bool xq] from rfl] at HP
      rcases hsep : Ac.sep ⟨xt, xl, xc, xq⟩ with _ | _
      · have HX := Lib.hid (HNX.out hsep)
        rw [hsep] at HP
        clear hsep HF HNX
        go_wp2_with (go_at_fn 29; refine (HP.out _).mono ?_; rintro e w2 ⟨rfl, hb2⟩)
        go_roundw
        case rel => exact ⟨k + 1, hlt, by go_num, HX, Lib.hid (hbl.out.trans (hb2.mono hbl.out.size))⟩
        case measure => simp [intOf]; omega
      · have HX := Lib.hid (HF.out hsep)
        rw [hsep] at HP
        clear hsep HF HNX
        go_wp2_with (go_at_fn 29; refine (HP.out _).mono ?_; rintro e w2 ⟨rfl, hb2⟩)
        go_ret
        exact ⟨some k, rfl, HX.out, hbl.out.trans (hb2.mono hbl.out.size)⟩
    · obtain rfl : k = n := by omega
      have HX : Hid (SepAt R none) := Lib.hid (fun j hj => hall.out j hj (by rw [HN.out] at hj; exact hj))
      clear hall
      go_wp2
      go_ret
      exact ⟨none, rfl, HX.out, hbl.out⟩
end Go.Proofs.YtfeaolcgjkkadaaDoor
