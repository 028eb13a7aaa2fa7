/- How package acts reads a kind, a text, a number. -/
import Derived.Test.YtfeaolcgjkkadaaDoorActWords
namespace Go.Proofs.YtfeaolcgjkkadaaDoor
set_option maxRecDepth 100000
open Go.ChangeShapes Go.WideShapes Go.ChangeAt Go.RowKit

theorem differs {t : List Nat} (ht : ∀ c ∈ t, c < 256) (m : List Nat) (hm : ∀ c ∈ m, c < 256) (h : t ≠ m) : ((str t).toList == m.map UInt8.ofNat) = false := by
  have := str_same ht hm
  rw [str_toList m] at this
  rw [this]
  exact decide_eq_false h
set_option maxRecDepth 100000 in
set_option maxHeartbeats 4000000 in
theorem kind_any (t : List Nat) (w : World) (ht : ∀ c ∈ t, c < 256) :
    Calls Tryd.prog 30 #[.string (str t)] w fun e w' => e = .returned (.int .i64 (Ac.kindOf t : Int)) ∧ w = w' := by
  have hways : t = [116, 101, 120, 116] ∨ t = [105, 110] ∨ t = [97, 108, 108] ∨ t = [117, 112, 112, 101, 114] ∨ t = [108, 111, 119, 101, 114] ∨ t = [114, 101, 118] ∨ t = [116, 97, 107, 101] ∨ t = [100, 114, 111, 112] ∨ t = [116, 119, 105, 99, 101] ∨ t = [106, 111, 105, 110] ∨ t = [102, 97, 105, 108] ∨ (t ≠ [116, 101, 120, 116] ∧ t ≠ [105, 110] ∧ t ≠ [97, 108, 108] ∧ t ≠ [117, 112, 112, 101, 114] ∧ t ≠ [108, 111, 119, 101, 114] ∧ t ≠ [114, 101, 118] ∧ t ≠ [116, 97, 107, 101] ∧ t ≠ [100, 114, 111, 112] ∧ t ≠ [116, 119, 105, 99, 101] ∧ t ≠ [106, 111, 105, 110] ∧ t ≠ [102, 97, 105, 108]) := by
    by_cases n1 : t = [116, 101, 120, 116]
    · exact .inl n1
    by_cases n2 : t = [105, 110]
    · exact .inr (.inl n2)
    by_cases n3 : t = [97, 108, 108]
    · exact .inr (.inr (.inl n3))
    by_cases n4 : t = [117, 112, 112, 101, 114]
    · exact .inr (.inr (.inr (.inl n4)))
    by_cases n5 : t = [108, 111, 119, 101, 114]
    · exact .inr (.inr (.inr (.inr (.inl n5))))
    by_cases n6 : t = [114, 101, 118]
    · exact .inr (.inr (.inr (.inr (.inr (.inl n6)))))
    by_cases n7 : t = [116, 97, 107, 101]
    · exact .inr (.inr (.inr (.inr (.inr (.inr (.inl n7))))))
    by_cases n8 : t = [100, 114, 111, 112]
    · exact .inr (.inr (.inr (.inr (.inr (.inr (.inr (.inl n8)))))))
    by_cases n9 : t = [116, 119, 105, 99, 101]
    · exact .inr (.inr (.inr (.inr (.inr (.inr (.inr (.inr (.inl n9))))))))
    by_cases n10 : t = [106, 111, 105, 110]
    · exact .inr (.inr (.inr (.inr (.inr (.inr (.inr (.inr (.inr (.inl n10)))))))))
    by_cases n11 : t = [102, 97, 105, 108]
    · exact .inr (.inr (.inr (.inr (.inr (.inr (.inr (.inr (.inr (.inr (.inl n11))))))))))
    exact .inr (.inr (.inr (.inr (.inr (.inr (.inr (.inr (.inr (.inr (.inr ⟨n1, n2, n3, n4, n5, n6, n7, n8, n9, n10, n11⟩))))))))))
  rcases hways with hk | hk | hk | hk | hk | hk | hk | hk | hk | hk | hk | ⟨n1, n2, n3, n4, n5, n6, n7, n8, n9, n10, n11⟩
  · subst hk
    have d1 : ((str [116, 101, 120, 116]).toList == [116, 101, 120, 116]) = true := by rw [str_toList]; decide
    obtain ⟨s, hs⟩ : ∃ s, str [116, 101, 120, 116] = s := ⟨_, rfl⟩
    rw [hs] at d1
    rw [hs]
    clear hs
    go_enter Tryd.func30, Tryd.ntmps30
    go_wp2
    go_ret
    exact ⟨by rw [show Ac.kindOf [116, 101, 120, 116] = 1 from by decide] <;> rfl, rfl⟩
  · subst hk
    have d1 : ((str [105, 110]).toList == [116, 101, 120, 116]) = false := by rw [str_toList]; decide
    have d2 : ((str [105, 110]).toList == [105, 110]) = true := by rw [str_toList]; decide
    obtain ⟨s, hs⟩ : ∃ s, str [105, 110] = s := ⟨_, rfl⟩
    rw [hs] at d1
    rw [hs] at d2
    rw [hs]
    clear hs
    go_enter Tryd.func30, Tryd.ntmps30
    go_wp2
    go_ret
    exact ⟨by rw [show Ac.kindOf [105, 110] = 2 from by decide] <;> rfl, rfl⟩
  · subst hk
    have d1 : ((str [97, 108, 108]).toList == [116, 101, 120, 116]) = false := by rw [str_toList]; decide
    have d2 : ((str [97, 108, 108]).toList == [105, 110]) = false := by rw [str_toList]; decide
    have d3 : ((str [97, 108, 108]).toList == [97, 108, 108]) = true := by rw [str_toList]; decide
    obtain ⟨s, hs⟩ : ∃ s, str [97, 108, 108] = s := ⟨_, rfl⟩
    rw [hs] at d1
    rw [hs] at d2
    rw [hs] at d3
    rw [hs]
    clear hs
    go_enter Tryd.func30, Tryd.ntmps30
    go_wp2
    go_ret
    exact ⟨by rw [show Ac.kindOf [97, 108, 108] = 3 from by decide] <;> rfl, rfl⟩
  · subst hk
    have d1 : ((str [117, 112, 112, 101, 114]).toList == [116, 101, 120, 116]) = false := by rw [str_toList]; decide
    have d2 : ((str [117, 112, 112, 101, 114]).toList == [105, 110]) = false := by rw [str_toList]; decide
    have d3 : ((str [117, 112, 112, 101, 114]).toList == [97, 108, 108]) = false := by rw [str_toList]; decide
    have d4 : ((str [117, 112, 112, 101, 114]).toList == [117, 112, 112, 101, 114]) = true := by rw [str_toList]; decide
    obtain ⟨s, hs⟩ : ∃ s, str [117, 112, 112, 101, 114] = s := ⟨_, rfl⟩
    rw [hs] at d1
    rw [hs] at d2
    rw [hs] at d3
    rw [hs] at d4
    rw [hs]
    clear hs
    go_enter Tryd.func30, Tryd.ntmps30
    go_wp2
    go_ret
    exact ⟨by rw [show Ac.kindOf [117, 112, 112, 101, 114] = 4 from by decide] <;> rfl, rfl⟩
  · subst hk
    have d1 : ((str [108, 111, 119, 101, 114]).toList == [116, 101, 120, 116]) = false := by rw [str_toList]; decide
    have d2 : ((str [108, 111, 119, 101, 114]).toList == [105, 110]) = false := by rw [str_toList]; decide
    have d3 : ((str [108, 111, 119, 101, 114]).toList == [97, 108, 108]) = false := by rw [str_toList]; decide
    have d4 : ((str [108, 111, 119, 101, 114]).toList == [117, 112, 112, 101, 114]) = false := by rw [str_toList]; decide
    have d5 : ((str [108, 111, 119, 101, 114]).toList == [108, 111, 119, 101, 114]) = true := by rw [str_toList]; decide
    obtain ⟨s, hs⟩ : ∃ s, str [108, 111, 119, 101, 114] = s := ⟨_, rfl⟩
    rw [hs] at d1
    rw [hs] at d2
    rw [hs] at d3
    rw [hs] at d4
    rw [hs] at d5
    rw [hs]
    clear hs
    go_enter Tryd.func30, Tryd.ntmps30
    go_wp2
    go_ret
    exact ⟨by rw [show Ac.kindOf [108, 111, 119, 101, 114] = 5 from by decide] <;> rfl, rfl⟩
  · subst hk
    have d1 : ((str [114, 101, 118]).toList == [116, 101, 120, 116]) = false := by rw [str_toList]; decide
    have d2 : ((str [114, 101, 118]).toList == [105, 110]) = false := by rw [str_toList]; decide
    have d3 : ((str [114, 101, 118]).toList == [97, 108, 108]) = false := by rw [str_toList]; decide
    have d4 : ((str [114, 101, 118]).toList == [117, 112, 112, 101, 114]) = false := by rw [str_toList]; decide
    have d5 : ((str [114, 101, 118]).toList == [108, 111, 119, 101, 114]) = false := by rw [str_toList]; decide
    have d6 : ((str [114, 101, 118]).toList == [114, 101, 118]) = true := by rw [str_toList]; decide
    obtain ⟨s, hs⟩ : ∃ s, str [114, 101, 118] = s := ⟨_, rfl⟩
    rw [hs] at d1
    rw [hs] at d2
    rw [hs] at d3
    rw [hs] at d4
    rw [hs] at d5
    rw [hs] at d6
    rw [hs]
    clear hs
    go_enter Tryd.func30, Tryd.ntmps30
    go_wp2
    go_ret
    exact ⟨by rw [show Ac.kindOf [114, 101, 118] = 6 from by decide] <;> rfl, rfl⟩
  · subst hk
    have d1 : ((str [116, 97, 107, 101]).toList == [116, 101, 120, 116]) = false := by rw [str_toList]; decide
    have d2 : ((str [116, 97, 107, 101]).toList == [105, 110]) = false := by rw [str_toList]; decide
    have d3 : ((str [116, 97, 107, 101]).toList == [97, 108, 108]) = false := by rw [str_toList]; decide
    have d4 : ((str [116, 97, 107, 101]).toList == [117, 112, 112, 101, 114]) = false := by rw [str_toList]; decide
    have d5 : ((str [116, 97, 107, 101]).toList == [108, 111, 119, 101, 114]) = false := by rw [str_toList]; decide
    have d6 : ((str [116, 97, 107, 101]).toList == [114, 101, 118]) = false := by rw [str_toList]; decide
    have d7 : ((str [116, 97, 107, 101]).toList == [116, 97, 107, 101]) = true := by rw [str_toList]; decide
    obtain ⟨s, hs⟩ : ∃ s, str [116, 97, 107, 101] = s := ⟨_, rfl⟩
    rw [hs] at d1
    rw [hs] at d2
    rw [hs] at d3
    rw [hs] at d4
    rw [hs] at d5
    rw [hs] at d6
    rw [hs] at d7
    rw [hs]
    clear hs
    go_enter Tryd.func30, Tryd.ntmps30
    go_wp2
    go_ret
    exact ⟨by rw [show Ac.kindOf [116, 97, 107, 101] = 7 from by decide] <;> rfl, rfl⟩
  · subst hk
    have d1 : ((str [100, 114, 111, 112]).toList == [116, 101, 120, 116]) = false := by rw [str_toList]; decide
    have d2 : ((str [100, 114, 111, 112]).toList == [105, 110]) = false := by rw [str_toList]; decide
    have d3 : ((str [100, 114, 111, 112]).toList == [97, 108, 108]) = false := by rw [str_toList]; decide
    have d4 : ((str [100, 114, 111, 112]).toList == [117, 112, 112, 101, 114]) = false := by rw [str_toList]; decide
    have d5 : ((str [100, 114, 111, 112]).toList == [108, 111, 119, 101, 114]) = false := by rw [str_toList]; decide
    have d6 : ((str [100, 114, 111, 112]).toList == [114, 101, 118]) = false := by rw [str_toList]; decide
    have d7 : ((str [100, 114, 111, 112]).toList == [116, 97, 107, 101]) = false := by rw [str_toList]; decide
    have d8 : ((str [100, 114, 111, 112]).toList == [100, 114, 111, 112]) = true := by rw [str_toList]; decide
    obtain ⟨s, hs⟩ : ∃ s, str [100, 114, 111, 112] = s := ⟨_, rfl⟩
    rw [hs] at d1
    rw [hs] at d2
    rw [hs] at d3
    rw [hs] at d4
    rw [hs] at d5
    rw [hs] at d6
    rw [hs] at d7
    rw [hs] at d8
    rw [hs]
    clear hs
    go_enter Tryd.func30, Tryd.ntmps30
    go_wp2
    go_ret
    exact ⟨by rw [show Ac.kindOf [100, 114, 111, 112] = 8 from by decide] <;> rfl, rfl⟩
  · subst hk
    have d1 : ((str [116, 119, 105, 99, 101]).toList == [116, 101, 120, 116]) = false := by rw [str_toList]; decide
    have d2 : ((str [116, 119, 105, 99, 101]).toList == [105, 110]) = false := by rw [str_toList]; decide
    have d3 : ((str [116, 119, 105, 99, 101]).toList == [97, 108, 108]) = false := by rw [str_toList]; decide
    have d4 : ((str [116, 119, 105, 99, 101]).toList == [117, 112, 112, 101, 114]) = false := by rw [str_toList]; decide
    have d5 : ((str [116, 119, 105, 99, 101]).toList == [108, 111, 119, 101, 114]) = false := by rw [str_toList]; decide
    have d6 : ((str [116, 119, 105, 99, 101]).toList == [114, 101, 118]) = false := by rw [str_toList]; decide
    have d7 : ((str [116, 119, 105, 99, 101]).toList == [116, 97, 107, 101]) = false := by rw [str_toList]; decide
    have d8 : ((str [116, 119, 105, 99, 101]).toList == [100, 114, 111, 112]) = false := by rw [str_toList]; decide
    have d9 : ((str [116, 119, 105, 99, 101]).toList == [116, 119, 105, 99, 101]) = true := by rw [str_toList]; decide
    obtain ⟨s, hs⟩ : ∃ s, str [116, 119, 105, 99, 101] = s := ⟨_, rfl⟩
    rw [hs] at d1
    rw [hs] at d2
    rw [hs] at d3
    rw [hs] at d4
    rw [hs] at d5
    rw [hs] at d6
    rw [hs] at d7
    rw [hs] at d8
    rw [hs] at d9
    rw [hs]
    clear hs
    go_enter Tryd.func30, Tryd.ntmps30
    go_wp2
    go_ret
    exact ⟨by rw [show Ac.kindOf [116, 119, 105, 99, 101] = 9 from by decide] <;> rfl, rfl⟩
  · subst hk
    have d1 : ((str [106, 111, 105, 110]).toList == [116, 101, 120, 116]) = false := by rw [str_toList]; decide
    have d2 : ((str [106, 111, 105, 110]).toList == [105, 110]) = false := by rw [str_toList]; decide
    have d3 : ((str [106, 111, 105, 110]).toList == [97, 108, 108]) = false := by rw [str_toList]; decide
    have d4 : ((str [106, 111, 105, 110]).toList == [117, 112, 112, 101, 114]) = false := by rw [str_toList]; decide
    have d5 : ((str [106, 111, 105, 110]).toList == [108, 111, 119, 101, 114]) = false := by rw [str_toList]; decide
    have d6 : ((str [106, 111, 105, 110]).toList == [114, 101, 118]) = false := by rw [str_toList]; decide
    have d7 : ((str [106, 111, 105, 110]).toList == [116, 97, 107, 101]) = false := by rw [str_toList]; decide
    have d8 : ((str [106, 111, 105, 110]).toList == [100, 114, 111, 112]) = false := by rw [str_toList]; decide
    have d9 : ((str [106, 111, 105, 110]).toList == [116, 119, 105, 99, 101]) = false := by rw [str_toList]; decide
    have d10 : ((str [106, 111, 105, 110]).toList == [106, 111, 105, 110]) = true := by rw [str_toList]; decide
    obtain ⟨s, hs⟩ : ∃ s, str [106, 111, 105, 110] = s := ⟨_, rfl⟩
    rw [hs] at d1
    rw [hs] at d2
    rw [hs] at d3
    rw [hs] at d4
    rw [hs] at d5
    rw [hs] at d6
    rw [hs] at d7
    rw [hs] at d8
    rw [hs] at d9
    rw [hs] at d10
    rw [hs]
    clear hs
    go_enter Tryd.func30, Tryd.ntmps30
    go_wp2
    go_ret
    exact ⟨by rw [show Ac.kindOf [106, 111, 105, 110] = 10 from by decide] <;> rfl, rfl⟩
  · subst hk
    have d1 : ((str [102, 97, 105, 108]).toList == [116, 101, 120, 116]) = false := by rw [str_toList]; decide
    have d2 : ((str [102, 97, 105, 108]).toList == [105, 110]) = false := by rw [str_toList]; decide
    have d3 : ((str [102, 97, 105, 108]).toList == [97, 108, 108]) = false := by rw [str_toList]; decide
    have d4 : ((str [102, 97, 105, 108]).toList == [117, 112, 112, 101, 114]) = false := by rw [str_toList]; decide
    have d5 : ((str [102, 97, 105, 108]).toList == [108, 111, 119, 101, 114]) = false := by rw [str_toList]; decide
    have d6 : ((str [102, 97, 105, 108]).toList == [114, 101, 118]) = false := by rw [str_toList]; decide
    have d7 : ((str [102, 97, 105, 108]).toList == [116, 97, 107, 101]) = false := by rw [str_toList]; decide
    have d8 : ((str [102, 97, 105, 108]).toList == [100, 114, 111, 112]) = false := by rw [str_toList]; decide
    have d9 : ((str [102, 97, 105, 108]).toList == [116, 119, 105, 99, 101]) = false := by rw [str_toList]; decide
    have d10 : ((str [102, 97, 105, 108]).toList == [106, 111, 105, 110]) = false := by rw [str_toList]; decide
    have d11 : ((str [102, 97, 105, 108]).toList == [102, 97, 105, 108]) = true := by rw [str_toList]; decide
    obtain ⟨s, hs⟩ : ∃ s, str [102, 97, 105, 108] = s := ⟨_, rfl⟩
    rw [hs] at d1
    rw [hs] at d2
    rw [hs] at d3
    rw [hs] at d4
    rw [hs] at d5
    rw [hs] at d6
    rw [hs] at d7
    rw [hs] at d8
    rw [hs] at d9
    rw [hs] at d10
    rw [hs] at d11
    rw [hs]
    clear hs
    go_enter Tryd.func30, Tryd.ntmps30
    go_wp2
    go_ret
    exact ⟨by rw [show Ac.kindOf [102, 97, 105, 108] = 11 from by decide] <;> rfl, rfl⟩
  · have HW : Hid (Ac.kindOf t = 0) := Lib.hid (kind_none fun j h1 h2 => by
      rcases Ac.kind_cases h1 (by omega) with e | e | e | e | e | e | e | e | e | e | e <;> subst e
      · exact fun e => n1 e.symm
      · exact fun e => n2 e.symm
      · exact fun e => n3 e.symm
      · exact fun e => n4 e.symm
      · exact fun e => n5 e.symm
      · exact fun e => n6 e.symm
      · exact fun e => n7 e.symm
      · exact fun e => n8 e.symm
      · exact fun e => n9 e.symm
      · exact fun e => n10 e.symm
      · exact fun e => n11 e.symm)
    have d1 : ((str t).toList == [116, 101, 120, 116]) = false := differs ht [116, 101, 120, 116] (by decide) n1
    have d2 : ((str t).toList == [105, 110]) = false := differs ht [105, 110] (by decide) n2
    have d3 : ((str t).toList == [97, 108, 108]) = false := differs ht [97, 108, 108] (by decide) n3
    have d4 : ((str t).toList == [117, 112, 112, 101, 114]) = false := differs ht [117, 112, 112, 101, 114] (by decide) n4
    have d5 : ((str t).toList == [108, 111, 119, 101, 114]) = false := differs ht [108, 111, 119, 101, 114] (by decide) n5
    have d6 : ((str t).toList == [114, 101, 118]) = false := differs ht [114, 101, 118] (by decide) n6
    have d7 : ((str t).toList == [116, 97, 107, 101]) = false := differs ht [116, 97, 107, 101] (by decide) n7
    have d8 : ((str t).toList == [100, 114, 111, 112]) = false := differs ht [100, 114, 111, 112] (by decide) n8
    have d9 : ((str t).toList == [116, 119, 105, 99, 101]) = false := differs ht [116, 119, 105, 99, 101] (by decide) n9
    have d10 : ((str t).toList == [106, 111, 105, 110]) = false := differs ht [106, 111, 105, 110] (by decide) n10
    have d11 : ((str t).toList == [102, 97, 105, 108]) = false := differs ht [102, 97, 105, 108] (by decide) n11
    clear n1 n2 n3 n4 n5 n6 n7 n8 n9 n10 n11
    obtain ⟨s, hs⟩ : ∃ s, str t = s := ⟨_, rfl⟩
    rw [hs] at d1
    rw [hs] at d2
    rw [hs] at d3
    rw [hs] at d4
    rw [hs] at d5
    rw [hs] at d6
    rw [hs] at d7
    rw [hs] at d8
    rw [hs] at d9
    rw [hs] at d10
    rw [hs] at d11
    rw [hs]
    clear hs
    go_enter Tryd.func30, Tryd.ntmps30
    go_wp2
    go_ret
    exact ⟨by rw [HW.out] <;> rfl, rfl⟩

/-- One text, quoted; one number, not quoted. -/
def textOf : List Ln.W → Option (List Nat)
  | [y] => if y.q then some y.text else none
  | _ => none
def numOf : List Ln.W → Option Int
  | [y] => if y.q then none else Ac.numE y.text
  | _ => none
set_option maxHeartbeats 4000000 in
theorem text_any (v : Value) (R : List Ln.W) (w : World) (hv : RdW w v R) (T : Option (List Nat)) (hT : T = textOf R) :
    Calls Tryd.prog 31 #[v] w fun e w' => e = .returned (.tuple #[.string (str (T.getD [])), .bool T.isSome]) ∧ w = w' := by
  have HV := Lib.hid hv
  have HT := Lib.hid hT
  obtain ⟨A, c, rfl, hc⟩ := hv.parts2
  clear hv hT
  rcases R with _ | ⟨⟨yt, yl, yc, yq⟩, _ | ⟨y2, r⟩⟩
  · obtain rfl : T = none := HT.out
    rw [show ([] : List Ln.W).length = 0 from rfl] at hc ⊢
    go_enter Tryd.func31, Tryd.ntmps31
    go_wp2
    go_ret2
    exact ⟨rfl, rfl⟩
  · rw [show ([⟨yt, yl, yc, yq⟩] : List Ln.W).length = 1 from rfl] at hc HV ⊢
    obtain ⟨b, off, rfl, a0, a1, a2, a3⟩ := HV.out.at2 0 (by simp)
    change w.cell? ⟨b, off + 0 * 4, none⟩ = some (.string (str yt)) at a0
    change w.cell? ⟨b, off + 0 * 4 + 3, none⟩ = some (.bool yq) at a3
    rw [Nat.zero_mul, Nat.add_zero] at a0 a3
    clear a1 a2
    rcases yq with _ | _
    · obtain rfl : T = none := HT.out
      go_enter Tryd.func31, Tryd.ntmps31
      go_wp2
      go_ret2
      exact ⟨rfl, rfl⟩
    · obtain rfl : T = some yt := HT.out
      go_enter Tryd.func31, Tryd.ntmps31
      go_wp2
      go_ret2
      exact ⟨rfl, rfl⟩
  · obtain rfl : T = none := HT.out
    obtain ⟨n, hn⟩ : ∃ n, (⟨yt, yl, yc, yq⟩ :: y2 :: r : List Ln.W).length = n := ⟨_, rfl⟩
    rw [hn] at hc HV ⊢
    have hn1 : ((n : Int) != 1) = true := by
      rw [List.length_cons, List.length_cons] at hn
      simp
      omega
    clear hn
    go_enter Tryd.func31, Tryd.ntmps31
    go_wp2
    go_ret2
    exact ⟨rfl, rfl⟩
theorem atoi_bounds {l : List UInt8} {v : Int} (h : Lib.atoiAll l = .ok v) : -9223372036854775808 ≤ v ∧ v ≤ 9223372036854775807 := by
  unfold Lib.atoiAll at h
  split at h
  · cases h
  · simp only at h
    split at h
    · cases h
    · cases h
    · split at h
      · cases h
      · split at h
        · cases h
        · rename_i h1 h2
          injection h with h
          subst h
          split <;> omega
end Go.Proofs.YtfeaolcgjkkadaaDoor
