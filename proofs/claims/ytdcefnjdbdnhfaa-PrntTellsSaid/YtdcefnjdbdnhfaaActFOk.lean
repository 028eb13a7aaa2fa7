/- An action of numbers is one. -/
import Derived.Test.YtdcefnjdbdnhfaaActF
namespace Go.Proofs.Ytdcefnjdbdnhfaa
set_option maxRecDepth 100000
open Go.ChangeShapes Go.WideShapes Go.ChangeAt Go.RowKit

theorem actD_good (f : Bool) (z : Int) : Ac.okD f (actD f z) = true ∧ (actD f z).n ≤ 31 := by
  obtain ⟨m7, hm7, hm7b⟩ := and_low z 7 (by decide)
  obtain ⟨p8, hp8, hp8b⟩ := and_low (z / 256) 3 (by decide)
  obtain ⟨r3, hr3, hr3b⟩ := and_low z 255 (by decide)
  obtain ⟨n3, hn3, hn3b⟩ := and_low (z / 1024) 3 (by decide)
  obtain ⟨n31, hn31, hn31b⟩ := and_low (z / 1024) 31 (by decide)
  obtain ⟨t255, ht255, ht255b⟩ := and_low (z / 1024) 255 (by decide)
  change bits .and .i64 z 7 = (m7 : Int) at hm7
  change bits .and .i64 (z / 256) 3 = (p8 : Int) at hp8
  change bits .and .i64 z 255 = (r3 : Int) at hr3
  change bits .and .i64 (z / 1024) 3 = (n3 : Int) at hn3
  change bits .and .i64 (z / 1024) 31 = (n31 : Int) at hn31
  change bits .and .i64 (z / 1024) 255 = (t255 : Int) at ht255
  obtain ⟨s3, hs3, hs3b⟩ : ∃ s : Nat, (r3 : Int).tmod 3 = (s : Int) ∧ s < 3 := ⟨r3 % 3, by rw [Int.tmod_eq_emod_of_nonneg (by omega)]; omega, Nat.mod_lt _ (by decide)⟩
  obtain ⟨i6, hi6, hi6b⟩ : ∃ s : Nat, (t255 : Int).tmod 6 = (s : Int) ∧ s < 6 := ⟨t255 % 6, by rw [Int.tmod_eq_emod_of_nonneg (by omega)]; omega, Nat.mod_lt _ (by decide)⟩
  have hg := texts6_good i6 hi6b
  have hA := actD_is (f := f) hm7 hp8 (by rw [hr3]; exact hs3) hn3 hn31 (by rw [ht255]; exact hi6) rfl
  rw [hA]
  obtain ⟨T, hT⟩ : ∃ T, texts6.getD i6 [] = T := ⟨_, rfl⟩
  rw [hT] at hg ⊢
  cases f
  · simp only [Bool.false_eq_true, if_false]
    have : m7 = 0 ∨ m7 = 1 ∨ m7 = 2 ∨ m7 = 3 ∨ m7 = 4 ∨ m7 = 5 ∨ m7 = 6 ∨ m7 = 7 := by omega
    rcases this with rfl | rfl | rfl | rfl | rfl | rfl | rfl | rfl
    · exact ⟨rfl, Nat.zero_le _⟩
    · exact ⟨rfl, Nat.zero_le _⟩
    · exact ⟨rfl, Nat.zero_le _⟩
    · exact ⟨by simp [Ac.okD, Ac.isFirst, Ac.isText, Ac.most, Ac.plainT]; omega, hn31b⟩
    · exact ⟨by simp [Ac.okD, Ac.isFirst, Ac.isText, Ac.most, Ac.plainT]; omega, hn31b⟩
    · exact ⟨rfl, Nat.zero_le _⟩
    · exact ⟨by simp [Ac.okD, Ac.isFirst, Ac.isText, Ac.most, hg], Nat.zero_le _⟩
    · by_cases h : 0 < p8
      · simp only [if_pos h]
        exact ⟨rfl, Nat.zero_le _⟩
      · simp only [if_neg h]
        exact ⟨rfl, Nat.zero_le _⟩
  · simp only [if_true]
    have : s3 = 0 ∨ s3 = 1 ∨ s3 = 2 := by omega
    rcases this with rfl | rfl | rfl
    · exact ⟨by simp [Ac.okD, Ac.isFirst, Ac.isText, Ac.most, hg], Nat.zero_le _⟩
    · exact ⟨by simp [Ac.okD, Ac.isFirst, Ac.isText, Ac.most, Ac.plainT]; omega, by show n3 ≤ 31; omega⟩
    · exact ⟨rfl, Nat.zero_le _⟩
theorem actL_len (zs : List Int) : ∀ k, (actL zs k).length = k
  | 0 => rfl
  | k + 1 => by rw [actL, List.length_append, actL_len zs k]; rfl
theorem actL_good (zs : List Int) : ∀ k, GoodL (actL zs k)
  | 0 => fun i h => absurd h (by simp [actL])
  | k + 1 => by
    have h := actD_good (decide (k = 0)) (zs.getD k 0)
    rw [actL]
    exact (actL_good zs k).snoc (by rw [actL_len]; exact h.1) h.2
theorem actF_ok (zs : List Int) : Ac.ok (actF zs) = true := by
  unfold actF
  by_cases h : zs.length = 0
  · rw [if_pos h]
    rfl
  · rw [if_neg h]
    exact ((actL_good zs _).ok (fun e => by have := actL_len zs (min zs.length 6); rw [e] at this; simp at this; omega) (by rw [actL_len]; omega)).1
end Go.Proofs.Ytdcefnjdbdnhfaa
