/- How package acts reads words: the signs between parts, the kind, the text, the number. -/
import Derived.Test.YtgjehlegcmeeoaaGreatDoorZ12
import Derived.Test.YtgjehlegcmeeoaaGreatDoorZ07
import Derived.Test.YtgjehlegcmeeoaaGreatDoorZ16
import Derived.Lib.Hide
import Derived.Deep.RegionWith
namespace Go.Proofs.YtgjehlegcmeeoaaGreatDoor
set_option maxRecDepth 100000
open Go.ChangeShapes Go.WideShapes Go.ChangeAt Go.RowKit

theorem sep_any (x : Ln.W) (w : World) (hx : ∀ c ∈ x.text, c < 256) : Calls Tryz.prog 141 #[.agg (cellsW x).toArray] w fun e w' => e = .returned (.bool (Ac.sep x)) ∧ Below w.heap.size w w' := by
  obtain ⟨xt, xl, xc, xq⟩ := x
  change ∀ c ∈ xt, c < 256 at hx
  have HBX : Hid (∀ o, Below w.heap.size w (w.alloc o)) := Lib.hid (fun o => (Below.refl _ _).alloc (Nat.le_refl _) o)
  rw [show (cellsW ⟨xt, xl, xc, xq⟩).toArray = #[.string (str xt), .int .i64 (xl : Int), .int .i64 (xc : Int), .bool xq] from rfl]
  rcases xq with _ | _
  · have hq : ((str xt).toList == [59]) = decide (xt = [59]) := by
      have := str_same (l := xt) (m := [59]) hx (by simp)
      rw [str_toList [59]] at this
      exact this
    have HW : Hid (Ac.sep ⟨xt, xl, xc, false⟩ = decide (xt = [59])) := Lib.hid (by unfold Ac.sep; simp)
    obtain ⟨q, hq2⟩ : ∃ q, decide (xt = [59]) = q := ⟨_, rfl⟩
    rw [hq2] at hq HW
    clear hq2 hx
    go_enter Tryz.func141, Tryz.ntmps141
    go_wp2
    go_ret
    exact ⟨by rw [HW.out] <;> rfl, HBX.out _⟩
  · have HW : Hid (Ac.sep ⟨xt, xl, xc, true⟩ = false) := Lib.hid (by unfold Ac.sep; simp)
    go_enter Tryz.func141, Tryz.ntmps141
    go_wp2
    go_ret
    exact ⟨by rw [HW.out] <;> rfl, HBX.out _⟩
/-- The first sign between parts, or that there is none. -/
def SepAt (R : List Ln.W) : Option Nat → Prop
  | some k => ∃ hk : k < R.length, Ac.sep (R[k]'hk) = true ∧ ∀ j (hj : j < R.length), j < k → Ac.sep (R[j]'hj) = false
  | none => ∀ j (hj : j < R.length), Ac.sep (R[j]'hj) = false
def at64 : Option Nat → Int
  | some k => k
  | none => -1
set_option maxHeartbeats 4000000 in
theorem index_any (v : Value) (R : List Ln.W) (w : World) (hv : RdW w v R) (ht : ∀ x ∈ R, ∀ c ∈ x.text, c < 256) (hR : R.length ≤ 1000000) :
    Calls Tryz.prog 130 #[v, .func (.func 141) #[] #[]] w fun e w' => ∃ K, e = .returned (.int .i64 (at64 K)) ∧ SepAt R K ∧ Below w.heap.size w w' := by
  have eg : ∀ args w, (callFunc 141 args).run Tryz.prog w = .ok (.enter 141 args) w := enters_of Tryz.func141 (by kernel_rfl) rfl
  have HV := Lib.hid hv
  have HT := Lib.hid ht
  obtain ⟨A, c, rfl, hc, _⟩ := hv
  obtain ⟨n, hn⟩ : ∃ n, R.length = n := ⟨_, rfl⟩
  rw [hn] at hc hR HV ⊢
  have HN := Lib.hid hn
  clear hn ht
  go_enter Tryz.func130, Tryz.ntmps130
  go_wp2_with fail
  go_loopw [8] (fun iv wr => ∃ k : Nat, k ≤ n ∧ iv = .int .i64 (k : Int) ∧ Hid (∀ j (hj : j < R.length), j < k → Ac.sep (R[j]'hj) = false) ∧ Hid (Below w.heap.size w wr)) (fun iv _ => n - (intOf iv).toNat)
  case atStart => exact ⟨0, Nat.zero_le _, rfl, Lib.hid (fun j hj h => absurd h (by omega)), Lib.hid (Below.refl _ _)⟩
  case round =>
    obtain ⟨k, hk, rfl, hall, hbl⟩ := hrel
    by_cases hlt : k < n
    · have hkI : (k : Int) < (n : Int) := by omega
      have hkL : k < R.length := by rw [HN.out]; exact hlt
      obtain ⟨b, off, rfl, p0, p1, p2, p3⟩ := (HV.out.under hbl.out).at2 k hkL
      have HP : Hid (∀ W, Calls Tryz.prog 141 #[.agg (cellsW (R[k]'hkL)).toArray] W fun e w' => e = .returned (.bool (Ac.sep (R[k]'hkL))) ∧ Below W.heap.size W w') := Lib.hid (fun W => sep_any _ W (HT.out _ (List.getElem_mem hkL)))
      have HF : Hid (Ac.sep (R[k]'hkL) = true → SepAt R (some k)) := Lib.hid (fun h => ⟨hkL, h, hall.out⟩)
      have HNX : Hid (Ac.sep (R[k]'hkL) = false → ∀ j (hj : j < R.length), j < k + 1 → Ac.sep (R[j]'hj) = false) := Lib.hid (fun h j hj hlt => by
        rcases Nat.lt_or_ge j k with h1 | h1
        · exact hall.out j hj h1
        · obtain rfl : j = k := by omega
          exact h)
      obtain ⟨x, hx⟩ : ∃ x, R[k]'hkL = x := ⟨_, rfl⟩
      rw [hx] at p0 p1 p2 p3 HP HF HNX
      clear hx hkL hall
      obtain ⟨xt, xl, xc, xq⟩ := x
      change wr.cell? ⟨b, off + k * 4, none⟩ = some (.string (str xt)) at p0
      change wr.cell? ⟨b, off + k * 4 + 1, none⟩ = some (.int .i64 (xl : Int)) at p1
      change wr.cell? ⟨b, off + k * 4 + 2, none⟩ = some (.int .i64 (xc : Int)) at p2
      change wr.cell? ⟨b, off + k * 4 + 3, none⟩ = some (.bool xq) at p3
      rw [show (cellsW ⟨xt, xl, xc, xq⟩).toArray = #[.string (str xt), .int .i64 (xl : Int), .int .i64 (xc : Int), .bool xq] from rfl] at HP
      rcases hsep : Ac.sep ⟨xt, xl, xc, xq⟩ with _ | _
      · have HX := Lib.hid (HNX.out hsep)
        rw [hsep] at HP
        clear hsep HF HNX
        go_wp2_with (go_at_fn 141; refine (HP.out _).mono ?_; rintro e w2 ⟨rfl, hb2⟩)
        go_roundw
        case rel => exact ⟨k + 1, hlt, by go_num, HX, Lib.hid (hbl.out.trans (hb2.mono hbl.out.size))⟩
        case measure => simp [intOf]; omega
      · have HX := Lib.hid (HF.out hsep)
        rw [hsep] at HP
        clear hsep HF HNX
        go_wp2_with (go_at_fn 141; refine (HP.out _).mono ?_; rintro e w2 ⟨rfl, hb2⟩)
        go_ret
        exact ⟨some k, rfl, HX.out, hbl.out.trans (hb2.mono hbl.out.size)⟩
    · obtain rfl : k = n := by omega
      have HX : Hid (SepAt R none) := Lib.hid (fun j hj => hall.out j hj (by rw [HN.out] at hj; exact hj))
      clear hall
      go_wp2
      go_ret
      exact ⟨none, rfl, HX.out, hbl.out⟩
end Go.Proofs.YtgjehlegcmeeoaaGreatDoor

/- How package acts reads a kind, a text, a number. -/
namespace Go.Proofs.YtgjehlegcmeeoaaGreatDoor
set_option maxRecDepth 100000
open Go.ChangeShapes Go.WideShapes Go.ChangeAt Go.RowKit

theorem differs {t : List Nat} (ht : ∀ c ∈ t, c < 256) (m : List Nat) (hm : ∀ c ∈ m, c < 256) (h : t ≠ m) : ((str t).toList == m.map UInt8.ofNat) = false := by
  have := str_same ht hm
  rw [str_toList m] at this
  rw [this]
  exact decide_eq_false h
set_option maxRecDepth 100000 in
set_option maxHeartbeats 4000000 in
theorem kind_any (t : List Nat) (w : World) (ht : ∀ c ∈ t, c < 256) :
    Calls Tryz.prog 142 #[.string (str t)] w fun e w' => e = .returned (.int .i64 (Ac.kindOf t : Int)) ∧ w = w' := by
  have hways : t = [116, 101, 120, 116] ∨ t = [105, 110] ∨ t = [97, 108, 108] ∨ t = [117, 112, 112, 101, 114] ∨ t = [108, 111, 119, 101, 114] ∨ t = [114, 101, 118] ∨ t = [116, 97, 107, 101] ∨ t = [100, 114, 111, 112] ∨ t = [116, 119, 105, 99, 101] ∨ t = [106, 111, 105, 110] ∨ t = [102, 97, 105, 108] ∨ (t ≠ [116, 101, 120, 116] ∧ t ≠ [105, 110] ∧ t ≠ [97, 108, 108] ∧ t ≠ [117, 112, 112, 101, 114] ∧ t ≠ [108, 111, 119, 101, 114] ∧ t ≠ [114, 101, 118] ∧ t ≠ [116, 97, 107, 101] ∧ t ≠ [100, 114, 111, 112] ∧ t ≠ [116, 119, 105, 99, 101] ∧ t ≠ [106, 111, 105, 110] ∧ t ≠ [102, 97, 105, 108]) := by
    by_cases n1 : t = [116, 101, 120, 116]
    · exact .inl n1
    by_cases n2 : t = [105, 110]
    · exact .inr (.inl n2)
    by_cases n3 : t = [97, 108, 108]
    · exact .inr (.inr (.inl n3))
    by_cases n4 : t = [117, 112, 112, 101, 114]
    · exact .inr (.inr (.inr (.inl n4)))
    by_cases n5 : t = [108, 111, 119, 101, 114]
    · exact .inr (.inr (.inr (.inr (.inl n5))))
    by_cases n6 : t = [114, 101, 118]
    · exact .inr (.inr (.inr (.inr (.inr (.inl n6)))))
    by_cases n7 : t = [116, 97, 107, 101]
    · exact .inr (.inr (.inr (.inr (.inr (.inr (.inl n7))))))
    by_cases n8 : t = [100, 114, 111, 112]
    · exact .inr (.inr (.inr (.inr (.inr (.inr (.inr (.inl n8)))))))
    by_cases n9 : t = [116, 119, 105, 99, 101]
    · exact .inr (.inr (.inr (.inr (.inr (.inr (.inr (.inr (.inl n9))))))))
    by_cases n10 : t = [106, 111, 105, 110]
    · exact .inr (.inr (.inr (.inr (.inr (.inr (.inr (.inr (.inr (.inl n10)))))))))
    by_cases n11 : t = [102, 97, 105, 108]
    · exact .inr (.inr (.inr (.inr (.inr (.inr (.inr (.inr (.inr (.inr (.inl n11))))))))))
    exact .inr (.inr (.inr (.inr (.inr (.inr (.inr (.inr (.inr (.inr (.inr ⟨n1, n2, n3, n4, n5, n6, n7, n8, n9, n10, n11⟩))))))))))
  rcases hways with hk | hk | hk | hk | hk | hk | hk | hk | hk | hk | hk | ⟨n1, n2, n3, n4, n5, n6, n7, n8, n9, n10, n11⟩
  · subst hk
    have d1 : ((str [116, 101, 120, 116]).toList == [116, 101, 120, 116]) = true := by rw [str_toList]; decide
    obtain ⟨s, hs⟩ : ∃ s, str [116, 101, 120, 116] = s := ⟨_, rfl⟩
    rw [hs] at d1
    rw [hs]
    clear hs
    go_enter Tryz.func142, Tryz.ntmps142
    go_wp2
    go_ret
    exact ⟨by rw [show Ac.kindOf [116, 101, 120, 116] = 1 from by decide] <;> rfl, rfl⟩
  · subst hk
    have d1 : ((str [105, 110]).toList == [116, 101, 120, 116]) = false := by rw [str_toList]; decide
    have d2 : ((str [105, 110]).toList == [105, 110]) = true := by rw [str_toList]; decide
    obtain ⟨s, hs⟩ : ∃ s, str [105, 110] = s := ⟨_, rfl⟩
    rw [hs] at d1
    rw [hs] at d2
    rw [hs]
    clear hs
    go_enter Tryz.func142, Tryz.ntmps142
    go_wp2
    go_ret
    exact ⟨by rw [show Ac.kindOf [105, 110] = 2 from by decide] <;> rfl, rfl⟩
  · subst hk
    have d1 : ((str [97, 108, 108]).toList == [116, 101, 120, 116]) = false := by rw [str_toList]; decide
    have d2 : ((str [97, 108, 108]).toList == [105, 110]) = false := by rw [str_toList]; decide
    have d3 : ((str [97, 108, 108]).toList == [97, 108, 108]) = true := by rw [str_toList]; decide
    obtain ⟨s, hs⟩ : ∃ s, str [97, 108, 108] = s := ⟨_, rfl⟩
    rw [hs] at d1
    rw [hs] at d2
    rw [hs] at d3
    rw [hs]
    clear hs
    go_enter Tryz.func142, Tryz.ntmps142
    go_wp2
    go_ret
    exact ⟨by rw [show Ac.kindOf [97, 108, 108] = 3 from by decide] <;> rfl, rfl⟩
  · subst hk
    have d1 : ((str [117, 112, 112, 101, 114]).toList == [116, 101, 120, 116]) = false := by rw [str_toList]; decide
    have d2 : ((str [117, 112, 112, 101, 114]).toList == [105, 110]) = false := by rw [str_toList]; decide
    have d3 : ((str [117, 112, 112, 101, 114]).toList == [97, 108, 108]) = false := by rw [str_toList]; decide
    have d4 : ((str [117, 112, 112, 101, 114]).toList == [117, 112, 112, 101, 114]) = true := by rw [str_toList]; decide
    obtain ⟨s, hs⟩ : ∃ s, str [117, 112, 112, 101, 114] = s := ⟨_, rfl⟩
    rw [hs] at d1
    rw [hs] at d2
    rw [hs] at d3
    rw [hs] at d4
    rw [hs]
    clear hs
    go_enter Tryz.func142, Tryz.ntmps142
    go_wp2
    go_ret
    exact ⟨by rw [show Ac.kindOf [117, 112, 112, 101, 114] = 4 from by decide] <;> rfl, rfl⟩
  · subst hk
    have d1 : ((str [108, 111, 119, 101, 114]).toList == [116, 101, 120, 116]) = false := by rw [str_toList]; decide
    have d2 : ((str [108, 111, 119, 101, 114]).toList == [105, 110]) = false := by rw [str_toList]; decide
    have d3 : ((str [108, 111, 119, 101, 114]).toList == [97, 108, 108]) = false := by rw [str_toList]; decide
    have d4 : ((str [108, 111, 119, 101, 114]).toList == [117, 112, 112, 101, 114]) = false := by rw [str_toList]; decide
    have d5 : ((str [108, 111, 119, 101, 114]).toList == [108, 111, 119, 101, 114]) = true := by rw [str_toList]; decide
    obtain ⟨s, hs⟩ : ∃ s, str [108, 111, 119, 101, 114] = s := ⟨_, rfl⟩
    rw [hs] at d1
    rw [hs] at d2
    rw [hs] at d3
    rw [hs] at d4
    rw [hs] at d5
    rw [hs]
    clear hs
    go_enter Tryz.func142, Tryz.ntmps142
    go_wp2
    go_ret
    exact ⟨by rw [show Ac.kindOf [108, 111, 119, 101, 114] = 5 from by decide] <;> rfl, rfl⟩
  · subst hk
    have d1 : ((str [114, 101, 118]).toList == [116, 101, 120, 116]) = false := by rw [str_toList]; decide
    have d2 : ((str [114, 101, 118]).toList == [105, 110]) = false := by rw [str_toList]; decide
    have d3 : ((str [114, 101, 118]).toList == [97, 108, 108]) = false := by rw [str_toList]; decide
    have d4 : ((str [114, 101, 118]).toList == [117, 112, 112, 101, 114]) = false := by rw [str_toList]; decide
    have d5 : ((str [114, 101, 118]).toList == [108, 111, 119, 101, 114]) = false := by rw [str_toList]; decide
    have d6 : ((str [114, 101, 118]).toList == [114, 101, 118]) = true := by rw [str_toList]; decide
    obtain ⟨s, hs⟩ : ∃ s, str [114, 101, 118] = s := ⟨_, rfl⟩
    rw [hs] at d1
    rw [hs] at d2
    rw [hs] at d3
    rw [hs] at d4
    rw [hs] at d5
    rw [hs] at d6
    rw [hs]
    clear hs
    go_enter Tryz.func142, Tryz.ntmps142
    go_wp2
    go_ret
    exact ⟨by rw [show Ac.kindOf [114, 101, 118] = 6 from by decide] <;> rfl, rfl⟩
  · subst hk
    have d1 : ((str [116, 97, 107, 101]).toList == [116, 101, 120, 116]) = false := by rw [str_toList]; decide
    have d2 : ((str [116, 97, 107, 101]).toList == [105, 110]) = false := by rw [str_toList]; decide
    have d3 : ((str [116, 97, 107, 101]).toList == [97, 108, 108]) = false := by rw [str_toList]; decide
    have d4 : ((str [116, 97, 107, 101]).toList == [117, 112, 112, 101, 114]) = false := by rw [str_toList]; decide
    have d5 : ((str [116, 97, 107, 101]).toList == [108, 111, 119, 101, 114]) = false := by rw [str_toList]; decide
    have d6 : ((str [116, 97, 107, 101]).toList == [114, 101, 118]) = false := by rw [str_toList]; decide
    have d7 : ((str [116, 97, 107, 101]).toList == [116, 97, 107, 101]) = true := by rw [str_toList]; decide
    obtain ⟨s, hs⟩ : ∃ s, str [116, 97, 107, 101] = s := ⟨_, rfl⟩
    rw [hs] at d1
    rw [hs] at d2
    rw [hs] at d3
    rw [hs] at d4
    rw [hs] at d5
    rw [hs] at d6
    rw [hs] at d7
    rw [hs]
    clear hs
    go_enter Tryz.func142, Tryz.ntmps142
    go_wp2
    go_ret
    exact ⟨by rw [show Ac.kindOf [116, 97, 107, 101] = 7 from by decide] <;> rfl, rfl⟩
  · subst hk
    have d1 : ((str [100, 114, 111, 112]).toList == [116, 101, 120, 116]) = false := by rw [str_toList]; decide
    have d2 : ((str [100, 114, 111, 112]).toList == [105, 110]) = false := by rw [str_toList]; decide
    have d3 : ((str [100, 114, 111, 112]).toList == [97, 108, 108]) = false := by rw [str_toList]; decide
    have d4 : ((str [100, 114, 111, 112]).toList == [117, 112, 112, 101, 114]) = false := by rw [str_toList]; decide
    have d5 : ((str [100, 114, 111, 112]).toList == [108, 111, 119, 101, 114]) = false := by rw [str_toList]; decide
    have d6 : ((str [100, 114, 111, 112]).toList == [114, 101, 118]) = false := by rw [str_toList]; decide
    have d7 : ((str [100, 114, 111, 112]).toList == [116, 97, 107, 101]) = false := by rw [str_toList]; decide
    have d8 : ((str [100, 114, 111, 112]).toList == [100, 114, 111, 112]) = true := by rw [str_toList]; decide
    obtain ⟨s, hs⟩ : ∃ s, str [100, 114, 111, 112] = s := ⟨_, rfl⟩
    rw [hs] at d1
    rw [hs] at d2
    rw [hs] at d3
    rw [hs] at d4
    rw [hs] at d5
    rw [hs] at d6
    rw [hs] at d7
    rw [hs] at d8
    rw [hs]
    clear hs
    go_enter Tryz.func142, Tryz.ntmps142
    go_wp2
    go_ret
    exact ⟨by rw [show Ac.kindOf [100, 114, 111, 112] = 8 from by decide] <;> rfl, rfl⟩
  · subst hk
    have d1 : ((str [116, 119, 105, 99, 101]).toList == [116, 101, 120, 116]) = false := by rw [str_toList]; decide
    have d2 : ((str [116, 119, 105, 99, 101]).toList == [105, 110]) = false := by rw [str_toList]; decide
    have d3 : ((str [116, 119, 105, 99, 101]).toList == [97, 108, 108]) = false := by rw [str_toList]; decide
    have d4 : ((str [116, 119, 105, 99, 101]).toList == [117, 112, 112, 101, 114]) = false := by rw [str_toList]; decide
    have d5 : ((str [116, 119, 105, 99, 101]).toList == [108, 111, 119, 101, 114]) = false := by rw [str_toList]; decide
    have d6 : ((str [116, 119, 105, 99, 101]).toList == [114, 101, 118]) = false := by rw [str_toList]; decide
    have d7 : ((str [116, 119, 105, 99, 101]).toList == [116, 97, 107, 101]) = false := by rw [str_toList]; decide
    have d8 : ((str [116, 119, 105, 99, 101]).toList == [100, 114, 111, 112]) = false := by rw [str_toList]; decide
    have d9 : ((str [116, 119, 105, 99, 101]).toList == [116, 119, 105, 99, 101]) = true := by rw [str_toList]; decide
    obtain ⟨s, hs⟩ : ∃ s, str [116, 119, 105, 99, 101] = s := ⟨_, rfl⟩
    rw [hs] at d1
    rw [hs] at d2
    rw [hs] at d3
    rw [hs] at d4
    rw [hs] at d5
    rw [hs] at d6
    rw [hs] at d7
    rw [hs] at d8
    rw [hs] at d9
    rw [hs]
    clear hs
    go_enter Tryz.func142, Tryz.ntmps142
    go_wp2
    go_ret
    exact ⟨by rw [show Ac.kindOf [116, 119, 105, 99, 101] = 9 from by decide] <;> rfl, rfl⟩
  · subst hk
    have d1 : ((str [106, 111, 105, 110]).toList == [116, 101, 120, 116]) = false := by rw [str_toList]; decide
    have d2 : ((str [106, 111, 105, 110]).toList == [105, 110]) = false := by rw [str_toList]; decide
    have d3 : ((str [106, 111, 105, 110]).toList == [97, 108, 108]) = false := by rw [str_toList]; decide
    have d4 : ((str [106, 111, 105, 110]).toList == [117, 112, 112, 101, 114]) = false := by rw [str_toList]; decide
    have d5 : ((str [106, 111, 105, 110]).toList == [108, 111, 119, 101, 114]) = false := by rw [str_toList]; decide
    have d6 : ((str [106, 111, 105, 110]).toList == [114, 101, 118]) = false := by rw [str_toList]; decide
    have d7 : ((str [106, 111, 105, 110]).toList == [116, 97, 107, 101]) = false := by rw [str_toList]; decide
    have d8 : ((str [106, 111, 105, 110]).toList == [100, 114, 111, 112]) = false := by rw [str_toList]; decide
    have d9 : ((str [106, 111, 105, 110]).toList == [116, 119, 105, 99, 101]) = false := by rw [str_toList]; decide
    have d10 : ((str [106, 111, 105, 110]).toList == [106, 111, 105, 110]) = true := by rw [str_toList]; decide
    obtain ⟨s, hs⟩ : ∃ s, str [106, 111, 105, 110] = s := ⟨_, rfl⟩
    rw [hs] at d1
    rw [hs] at d2
    rw [hs] at d3
    rw [hs] at d4
    rw [hs] at d5
    rw [hs] at d6
    rw [hs] at d7
    rw [hs] at d8
    rw [hs] at d9
    rw [hs] at d10
    rw [hs]
    clear hs
    go_enter Tryz.func142, Tryz.ntmps142
    go_wp2
    go_ret
    exact ⟨by rw [show Ac.kindOf [106, 111, 105, 110] = 10 from by decide] <;> rfl, rfl⟩
  · subst hk
    have d1 : ((str [102, 97, 105, 108]).toList == [116, 101, 120, 116]) = false := by rw [str_toList]; decide
    have d2 : ((str [102, 97, 105, 108]).toList == [105, 110]) = false := by rw [str_toList]; decide
    have d3 : ((str [102, 97, 105, 108]).toList == [97, 108, 108]) = false := by rw [str_toList]; decide
    have d4 : ((str [102, 97, 105, 108]).toList == [117, 112, 112, 101, 114]) = false := by rw [str_toList]; decide
    have d5 : ((str [102, 97, 105, 108]).toList == [108, 111, 119, 101, 114]) = false := by rw [str_toList]; decide
    have d6 : ((str [102, 97, 105, 108]).toList == [114, 101, 118]) = false := by rw [str_toList]; decide
    have d7 : ((str [102, 97, 105, 108]).toList == [116, 97, 107, 101]) = false := by rw [str_toList]; decide
    have d8 : ((str [102, 97, 105, 108]).toList == [100, 114, 111, 112]) = false := by rw [str_toList]; decide
    have d9 : ((str [102, 97, 105, 108]).toList == [116, 119, 105, 99, 101]) = false := by rw [str_toList]; decide
    have d10 : ((str [102, 97, 105, 108]).toList == [106, 111, 105, 110]) = false := by rw [str_toList]; decide
    have d11 : ((str [102, 97, 105, 108]).toList == [102, 97, 105, 108]) = true := by rw [str_toList]; decide
    obtain ⟨s, hs⟩ : ∃ s, str [102, 97, 105, 108] = s := ⟨_, rfl⟩
    rw [hs] at d1
    rw [hs] at d2
    rw [hs] at d3
    rw [hs] at d4
    rw [hs] at d5
    rw [hs] at d6
    rw [hs] at d7
    rw [hs] at d8
    rw [hs] at d9
    rw [hs] at d10
    rw [hs] at d11
    rw [hs]
    clear hs
    go_enter Tryz.func142, Tryz.ntmps142
    go_wp2
    go_ret
    exact ⟨by rw [show Ac.kindOf [102, 97, 105, 108] = 11 from by decide] <;> rfl, rfl⟩
  · have HW : Hid (Ac.kindOf t = 0) := Lib.hid (kind_none fun j h1 h2 => by
      rcases Ac.kind_cases h1 (by omega) with e | e | e | e | e | e | e | e | e | e | e <;> subst e
      · exact fun e => n1 e.symm
      · exact fun e => n2 e.symm
      · exact fun e => n3 e.symm
      · exact fun e => n4 e.symm
      · exact fun e => n5 e.symm
      · exact fun e => n6 e.symm
      · exact fun e => n7 e.symm
      · exact fun e => n8 e.symm
      · exact fun e => n9 e.symm
      · exact fun e => n10 e.symm
      · exact fun e => n11 e.symm)
    have d1 : ((str t).toList == [116, 101, 120, 116]) = false := differs ht [116, 101, 120, 116] (by decide) n1
    have d2 : ((str t).toList == [105, 110]) = false := differs ht [105, 110] (by decide) n2
    have d3 : ((str t).toList == [97, 108, 108]) = false := differs ht [97, 108, 108] (by decide) n3
    have d4 : ((str t).toList == [117, 112, 112, 101, 114]) = false := differs ht [117, 112, 112, 101, 114] (by decide) n4
    have d5 : ((str t).toList == [108, 111, 119, 101, 114]) = false := differs ht [108, 111, 119, 101, 114] (by decide) n5
    have d6 : ((str t).toList == [114, 101, 118]) = false := differs ht [114, 101, 118] (by decide) n6
    have d7 : ((str t).toList == [116, 97, 107, 101]) = false := differs ht [116, 97, 107, 101] (by decide) n7
    have d8 : ((str t).toList == [100, 114, 111, 112]) = false := differs ht [100, 114, 111, 112] (by decide) n8
    have d9 : ((str t).toList == [116, 119, 105, 99, 101]) = false := differs ht [116, 119, 105, 99, 101] (by decide) n9
    have d10 : ((str t).toList == [106, 111, 105, 110]) = false := differs ht [106, 111, 105, 110] (by decide) n10
    have d11 : ((str t).toList == [102, 97, 105, 108]) = false := differs ht [102, 97, 105, 108] (by decide) n11
    clear n1 n2 n3 n4 n5 n6 n7 n8 n9 n10 n11
    obtain ⟨s, hs⟩ : ∃ s, str t = s := ⟨_, rfl⟩
    rw [hs] at d1
    rw [hs] at d2
    rw [hs] at d3
    rw [hs] at d4
    rw [hs] at d5
    rw [hs] at d6
    rw [hs] at d7
    rw [hs] at d8
    rw [hs] at d9
    rw [hs] at d10
    rw [hs] at d11
    rw [hs]
    clear hs
    go_enter Tryz.func142, Tryz.ntmps142
    go_wp2
    go_ret
    exact ⟨by rw [HW.out] <;> rfl, rfl⟩

/-- One text, quoted; one number, not quoted. -/
def textOf : List Ln.W → Option (List Nat)
  | [y] => if y.q then some y.text else none
  | _ => none
def numOf : List Ln.W → Option Int
  | [y] => if y.q then none else Ac.numE y.text
  | _ => none
set_option maxHeartbeats 4000000 in
theorem text_any (v : Value) (R : List Ln.W) (w : World) (hv : RdW w v R) (T : Option (List Nat)) (hT : T = textOf R) :
    Calls Tryz.prog 143 #[v] w fun e w' => e = .returned (.tuple #[.string (str (T.getD [])), .bool T.isSome]) ∧ w = w' := by
  have HV := Lib.hid hv
  have HT := Lib.hid hT
  obtain ⟨A, c, rfl, hc⟩ := hv.parts2
  clear hv hT
  rcases R with _ | ⟨⟨yt, yl, yc, yq⟩, _ | ⟨y2, r⟩⟩
  · obtain rfl : T = none := HT.out
    rw [show ([] : List Ln.W).length = 0 from rfl] at hc ⊢
    go_enter Tryz.func143, Tryz.ntmps143
    go_wp2
    go_ret2
    exact ⟨rfl, rfl⟩
  · rw [show ([⟨yt, yl, yc, yq⟩] : List Ln.W).length = 1 from rfl] at hc HV ⊢
    obtain ⟨b, off, rfl, a0, a1, a2, a3⟩ := HV.out.at2 0 (by simp)
    change w.cell? ⟨b, off + 0 * 4, none⟩ = some (.string (str yt)) at a0
    change w.cell? ⟨b, off + 0 * 4 + 3, none⟩ = some (.bool yq) at a3
    rw [Nat.zero_mul, Nat.add_zero] at a0 a3
    clear a1 a2
    rcases yq with _ | _
    · obtain rfl : T = none := HT.out
      go_enter Tryz.func143, Tryz.ntmps143
      go_wp2
      go_ret2
      exact ⟨rfl, rfl⟩
    · obtain rfl : T = some yt := HT.out
      go_enter Tryz.func143, Tryz.ntmps143
      go_wp2
      go_ret2
      exact ⟨rfl, rfl⟩
  · obtain rfl : T = none := HT.out
    obtain ⟨n, hn⟩ : ∃ n, (⟨yt, yl, yc, yq⟩ :: y2 :: r : List Ln.W).length = n := ⟨_, rfl⟩
    rw [hn] at hc HV ⊢
    have hn1 : ((n : Int) != 1) = true := by
      rw [List.length_cons, List.length_cons] at hn
      simp
      omega
    clear hn
    go_enter Tryz.func143, Tryz.ntmps143
    go_wp2
    go_ret2
    exact ⟨rfl, rfl⟩
theorem atoi_bounds {l : List UInt8} {v : Int} (h : Lib.atoiAll l = .ok v) : -9223372036854775808 ≤ v ∧ v ≤ 9223372036854775807 := by
  unfold Lib.atoiAll at h
  split at h
  · cases h
  · simp only at h
    split at h
    · cases h
    · cases h
    · split at h
      · cases h
      · split at h
        · cases h
        · rename_i h1 h2
          injection h with h
          subst h
          split <;> omega
end Go.Proofs.YtgjehlegcmeeoaaGreatDoor

/- How package acts parts words at the first sign. -/
namespace Go.Proofs.YtgjehlegcmeeoaaGreatDoor
set_option maxRecDepth 100000
open Go.ChangeShapes Go.WideShapes Go.ChangeAt Go.RowKit

theorem RdW.slice {w : World} {b off n c : Nat} {R : List Ln.W} (h : RdW w (.slice (some ⟨b, off, none⟩) n c) R) {i fr : Nat} (hf : fr ≤ i) (hi : i ≤ n) {A' : Option Addr} (hA : fr < i → A' = some ⟨b, off + fr * 4, none⟩) : RdW w (.slice A' (i - fr) (c - fr)) ((R.drop fr).take (i - fr)) := by
  obtain ⟨A, c', e, h1, h2, hx⟩ := h
  injection e with e1 e2 e3
  subst e2 e3
  have hl : ((R.drop fr).take (i - fr)).length = i - fr := by rw [List.length_take, List.length_drop]; omega
  refine ⟨A', c - fr, by rw [hl], by rw [hl]; omega, by rw [hl]; omega, fun h0 => ?_⟩
  rw [hl] at h0
  obtain ⟨b', o', e4, hc⟩ := hx (by omega)
  rw [e4] at e1
  injection e1 with e1
  injection e1 with e5 e6
  subst e5 e6
  refine ⟨b, off + fr * 4, hA (by omega), fun k hk => ?_⟩
  rw [hl] at hk
  have hg : ((R.drop fr).take (i - fr))[k]'(by rw [hl]; exact hk) = R[fr + k]'(by omega) := by rw [List.getElem_take, List.getElem_drop]
  rw [hg, show off + fr * 4 + k * 4 = off + (fr + k) * 4 from by omega]
  exact hc (fr + k) (by omega)
def CutIs (w0 w : World) (v : Value) (R : List Ln.W) (e : Ending) (w' : World) : Option Nat → Prop
  | none => e = .returned (.tuple #[v, .slice none 0 0, .bool false]) ∧ Below w.heap.size w w'
  | some k => (∃ u1 u2, e = .returned (.tuple #[u1, u2, .bool true]) ∧ RdW w0 u1 (R.take k) ∧ RdW w0 u2 (R.drop (k + 1))) ∧ Below w.heap.size w w'
set_option maxHeartbeats 4000000 in
theorem cut_any (v : Value) (R : List Ln.W) (w0 w : World) (h0 : RdW w0 v R) (hv : RdW w v R) (ht : ∀ x ∈ R, ∀ c ∈ x.text, c < 256) (hR : R.length ≤ 1000000) :
    Calls Tryz.prog 132 #[v] w fun e w' => ∃ K, SepAt R K ∧ CutIs w0 w v R e w' K := by
  have HV := Lib.hid hv
  have H0 := Lib.hid h0
  have HIX := Lib.hid (index_any v R w hv ht hR)
  obtain ⟨A, c, rfl, hc, _⟩ := hv
  obtain ⟨n, hn⟩ : ∃ n, R.length = n := ⟨_, rfl⟩
  rw [hn] at hc hR HV H0 HIX ⊢
  have HN := Lib.hid hn
  clear hn ht h0
  go_enter Tryz.func132, Tryz.ntmps132
  go_wp2_with fail
  refine HIX.out.mono ?_
  rintro e w2 ⟨K, rfl, hsep, hb2⟩
  have HB2 := Lib.hid hb2
  have HS := Lib.hid hsep
  clear hb2 hsep
  rcases K with _ | k
  · rw [show at64 none = -1 from rfl]
    go_wp2
    go_ret3
    exact ⟨none, HS.out, rfl, HB2.out⟩
  · rw [show at64 (some k) = (k : Int) from rfl]
    obtain ⟨hkL, -, -⟩ := HS.out
    have hkn : k < n := by rw [HN.out] at hkL; exact hkL
    obtain ⟨b, off, rfl, -⟩ := HV.out.at2 k hkL
    have hk0 : ¬ (k : Int) < 0 := by omega
    have hk1 : (0 : Int) ≤ (k : Int) := by omega
    have hk2 : (k : Int) ≤ (c : Int) := by omega
    have hk3 : (k : Int) + 1 ≤ (n : Int) := by omega
    have hk4 : (0 : Int) ≤ (k : Int) + 1 := by omega
    have hnc : (n : Int) ≤ (c : Int) := by omega
    have HU1 : Hid (RdW w0 (.slice (some ⟨b, off, none⟩) k c) (R.take k)) := Lib.hid (by
      have := H0.out.slice (fr := 0) (i := k) (Nat.zero_le _) (by omega) (A' := some ⟨b, off, none⟩) (fun _ => by rw [show off + 0 * 4 = off from by omega])
      simpa using this)
    have HU2 : Hid (∀ A', (k + 1 < n → A' = some ⟨b, off + (k + 1) * 4, none⟩) → RdW w0 (.slice A' (n - (k + 1)) (c - (k + 1))) (R.drop (k + 1))) := Lib.hid (fun A' hA => by
      have := H0.out.slice (fr := k + 1) (i := n) (by omega) (Nat.le_refl _) hA
      rwa [List.take_of_length_le (by rw [List.length_drop, HN.out]; exact Nat.le_refl _)] at this)
    clear hkL
    by_cases hck : c = k + 1
    · have hnk : n = k + 1 := by omega
      subst hnk
      subst hck
      have HU3 : Hid (∀ A', RdW w0 (.slice A' 0 0) (R.drop (k + 1))) := Lib.hid (fun A' => by
        rw [List.drop_of_length_le (by rw [HN.out]; exact Nat.le_refl _)]
        exact ⟨A', 0, rfl, Nat.le_refl _, Nat.zero_le _, fun h => absurd h (by simp)⟩)
      clear HU2
      go_wp2_with fail
      go_region
      go_wp2
      all_goals (go_ret3; exact ⟨some k, HS.out, ⟨_, _, rfl, HU1.out, HU3.out _⟩, HB2.out.drew⟩)
    · go_wp2_with fail
      go_region
      go_wp2
      all_goals (go_ret3; exact ⟨some k, HS.out, ⟨_, _, rfl, HU1.out, HU2.out _ (fun _ => rfl)⟩, HB2.out.drew⟩)
end Go.Proofs.YtgjehlegcmeeoaaGreatDoor
