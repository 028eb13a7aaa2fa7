/- ManiMany: as many as may be are taken, and no more, whatever numbers pick how many of which. -/
import Derived.Test.YtgjehlegcmeeoaaGreatDoorZ29
import Derived.Test.YtgjehlegcmeeoaaGreatDoorZManiManyMath
import Derived.Deep.DeepCutAuto
import Derived.Deep.CutBlock
namespace Go.Proofs.YtgjehlegcmeeoaaGreatDoor
set_option maxRecDepth 100000
open Go.ChangeShapes Go.WideShapes Go.ChangeAt Go.RowKit Go.Shelf

theorem myword_any (i : Nat) (w : World) (hi : i ≤ 1000) : Calls Tryz.prog 10 #[.int .i64 (i : Int)] w fun e w' => e = .returned (.string (str (My.word i))) ∧ Below w.heap.size w w' := by
  obtain ⟨D, hD⟩ : ∃ D, Nm.dec i = D := ⟨_, rfl⟩
  have hd := refdec_any i w (by omega)
  rw [hD] at hd
  have HD := Lib.hid hd
  have HDL : Hid (D.length ≤ 20) := Lib.hid (by rw [← hD]; have := Nm.dec_len (n := i) (k := 4) (by omega) (by omega); omega)
  have HW : Hid (str (My.word i) = ⟨#[32, 110]⟩ ++ str D) := Lib.hid (by unfold My.word; rw [hD, ← str_add]; rfl)
  rw [HW.out]
  have hz : ¬ 9223372036854775807 < (⟨#[32, 110]⟩ : ByteArray).size + (str D).size := by
    have := HDL.out
    rw [str_size]
    show ¬ 9223372036854775807 < 2 + D.length
    omega
  clear hd hD
  go_enter Tryz.func10, Tryz.ntmps10
  go_wp2_with fail
  refine HD.out.mono ?_
  rintro e w1 ⟨rfl, hb1⟩
  go_wp2
  go_ret
  exact ⟨rfl, hb1⟩
theorem bsize_append (a b : ByteArray) : (a ++ b).size = a.size + b.size := ByteArray.size_append
theorem my_sizes {n m : Nat} (h : n + m ≤ 100000) : ¬ 9223372036854775807 < n + m := by omega
theorem rep_len (f : Nat → List Nat) (c : Nat) (h : ∀ i, (f i).length ≤ c) : ∀ n, (My.rep f n).length ≤ c * n
  | 0 => by simp [My.rep]
  | n + 1 => by
    have := rep_len f c h n
    have h2 := h n
    rw [My.rep, List.length_append, Nat.mul_add]
    omega
theorem rep_len_eq (f : Nat → List Nat) (c : Nat) (h : ∀ i, (f i).length = c) : ∀ n, (My.rep f n).length = c * n
  | 0 => by simp [My.rep]
  | n + 1 => by
    have := rep_len_eq f c h n
    have h2 := h n
    rw [My.rep, List.length_append, Nat.mul_add]
    omega
theorem word_len {i : Nat} (h : i ≤ 1000) : (My.word i).length ≤ 6 := by
  have := Nm.dec_len (n := i) (k := 4) (by omega) (by omega)
  have h2 : (My.word i).length = 2 + (Nm.dec i).length := by unfold My.word; rw [List.length_append]; rfl
  omega
theorem rep_word_len : ∀ j, j ≤ 1000 → (My.rep My.word j).length ≤ 6 * j
  | 0, _ => by simp [My.rep]
  | j + 1, h => by
    have h1 := rep_word_len j (by omega)
    have h2 := word_len (i := j) (by omega)
    rw [My.rep, List.length_append]
    omega
theorem manyOk_of {N most kd at_ : Nat} {T : List Nat} (h : My.manyOk N most kd at_ T = true) : (∀ c ∈ T, c < 256) ∧ T.length ≤ 5000 ∧ ((∃ m, Mo.parse T = .ok m ∧ N ≤ most) ∨ (Mo.parse T = .bad ⟨kd, if kd = 11 then 65 else 1, at_⟩ ∧ most < N ∧ kd ≠ 0)) := by
  unfold My.manyOk at h
  rw [Bool.and_eq_true_iff, Bool.and_eq_true_iff] at h
  obtain ⟨⟨h1, h2⟩, h3⟩ := h
  refine ⟨fun c hc => by simpa using List.all_eq_true.1 h1 c hc, of_decide_eq_true h2, ?_⟩
  rcases hp : Mo.parse T with m | ⟨k', l', c'⟩
  · rw [hp] at h3
    exact .inl ⟨m, rfl, of_decide_eq_true h3⟩
  · rw [hp] at h3
    simp only [Bool.and_eq_true_iff, decide_eq_true_eq] at h3
    obtain ⟨⟨⟨⟨h4, rfl⟩, rfl⟩, rfl⟩, h5⟩ := h3
    exact .inr ⟨rfl, h4, h5⟩
set_option maxRecDepth 100000 in
set_option maxHeartbeats 16000000 in
theorem many_at (a b : Int) (N c M7 M15 M31 : Nat) (hm : bits .and .i64 a 127 = (N : Int)) (hN : N ≤ 127) (hb : (bits .and .i64 b 255).tmod 6 = (c : Int)) (hc : c ≤ 5) (h7 : bits .and .i64 (N : Int) 7 = (M7 : Int)) (g7 : M7 ≤ 7) (h15 : bits .and .i64 (N : Int) 15 = (M15 : Int)) (g15 : M15 ≤ 15) (h31 : bits .and .i64 (N : Int) 31 = (M31 : Int)) (g31 : M31 ≤ 31) (w : World) (hTab : ∀ W, Below w.heap.size w W → Tabs W) :
    Calls Tryz.prog 4 #[.int .i64 a, .int .i64 b] w fun e w' => e = .returned (.bool true) ∧ Below w.heap.size w w' := by
  have HTab := Lib.hid hTab
  have hent := enters_of Tryz.func10 (by kernel_rfl) rfl
  clear hTab
  go_enter Tryz.func4, Tryz.ntmps4
  go_upto_block 0 with fail
  go_cut [0, 5, 6, 7, 8] (fun s0 s5 s6 s7 s8 wx => ∃ (n most kd at_ : Nat) (T : List Nat), s0 = .int .i64 (n : Int) ∧ s5 = .string (str T) ∧ s6 = .int .i64 (most : Int) ∧ s7 = .int .i64 (kd : Int) ∧ s8 = .int .i64 (at_ : Int) ∧ Hid (n ≤ 200 ∧ most ≤ 200 ∧ kd ≤ 200 ∧ at_ ≤ 200) ∧ Hid (My.manyOk n most kd at_ T = true) ∧ Hid (Below w.heap.size w wx))
  case first =>
    have hcs : c = 0 ∨ c = 1 ∨ c = 2 ∨ c = 3 ∨ c = 4 ∨ c = 5 := by omega
    clear hc hm
    rcases hcs with rfl | rfl | rfl | rfl | rfl | rfl
    · clear h7 h15 h31 g7 g15 g31
      go_wp2_with fail
      go_loopg [5, 10] N (fun gk s i wr => ∃ k : Nat, k ≤ N ∧ N - k ≤ gk ∧ i = .int .i64 (k : Int) ∧ s = .string (str (My.t0 k)) ∧ Below w.heap.size w wr)
      case atStart => exact ⟨0, Nat.zero_le _, by omega, rfl, rfl, Below.refl _ _⟩
      case round =>
        obtain ⟨k, hk, hgk, rfl, rfl, hbz⟩ := hrel
        obtain ⟨wz, rfl⟩ : ∃ wx : World, wx = wr := ⟨_, rfl⟩
        have HBZ := Lib.hid hbz
        clear hbz
        by_cases hlt : k < N
        · have hkI : (k : Int) < (N : Int) := by omega
          have hTL : (My.t0 k).length ≤ 31 * k := by rw [My.t0_is, My.rep_from]; exact (My.from_len k 0 (by omega)).1
          have hWL : (My.word k).length ≤ 6 := word_len (by omega)
          have HNX : Hid (str (My.t0 (k + 1)) = str (My.t0 k) ++ ⟨#[114, 117, 108, 101]⟩ ++ str (My.word k) ++ ⟨#[32, 58, 32, 61, 32, 97, 108, 108, 10]⟩) := Lib.hid (by
            rw [show (⟨#[114, 117, 108, 101]⟩ : ByteArray) = str [114, 117, 108, 101] from rfl, show (⟨#[32, 58, 32, 61, 32, 97, 108, 108, 10]⟩ : ByteArray) = str [32, 58, 32, 61, 32, 97, 108, 108, 10] from rfl, str_add, str_add, str_add]
            congr 1
            unfold My.t0
            rw [My.rep]
            simp [My.rule])
          have z1 : ¬ 9223372036854775807 < (str (My.t0 k)).size + (⟨#[114, 117, 108, 101]⟩ : ByteArray).size := by rw [str_size, show (⟨#[114, 117, 108, 101]⟩ : ByteArray).size = 4 from rfl]; omega
          have z2 : ¬ 9223372036854775807 < (str (My.t0 k) ++ ⟨#[114, 117, 108, 101]⟩).size + (str (My.word k)).size := by rw [bsize_append, str_size, str_size, show (⟨#[114, 117, 108, 101]⟩ : ByteArray).size = 4 from rfl]; omega
          have z3 : ¬ 9223372036854775807 < (str (My.t0 k) ++ ⟨#[114, 117, 108, 101]⟩ ++ str (My.word k)).size + (⟨#[32, 58, 32, 61, 32, 97, 108, 108, 10]⟩ : ByteArray).size := by rw [bsize_append, bsize_append, str_size, str_size, show (⟨#[114, 117, 108, 101]⟩ : ByteArray).size = 4 from rfl, show (⟨#[32, 58, 32, 61, 32, 97, 108, 108, 10]⟩ : ByteArray).size = 9 from rfl]; omega
          obtain ⟨T, hT⟩ : ∃ T, My.t0 k = T := ⟨_, rfl⟩
          rw [hT] at HNX z1 z2 z3 ⊢
          have HWD : Hid (Calls Tryz.prog 10 #[.int .i64 (k : Int)] wz fun e w' => e = .returned (.string (str (My.word k))) ∧ Below wz.heap.size wz w') := Lib.hid (myword_any k wz (by omega))
          obtain ⟨W, hW⟩ : ∃ W, My.word k = W := ⟨_, rfl⟩
          rw [hW] at HNX z2 z3 HWD
          clear hTL hWL hT hW
          go_wp2_with fail
          refine HWD.out.mono ?_
          rintro e w2 ⟨rfl, hb2⟩
          have HB2 : Hid (Below w.heap.size w w2) := Lib.hid (HBZ.out.trans (hb2.mono HBZ.out.size))
          clear hb2
          go_wp2
          go_roundg (N - (k + 1))
          case rel => exact ⟨k + 1, hlt, by omega, by go_num, by rw [HNX.out], HB2.out⟩
          case measure => omega
        · obtain rfl : k = N := by omega
          have hkI : ¬ (k : Int) < (k : Int) := by omega
          go_wp2_with fail
          go_meet
          exact ⟨k, 64, 11, 1, My.t0 k, rfl, rfl, rfl, rfl, rfl, Lib.hid (by omega), Lib.hid (My.many0 (by omega)), HBZ⟩
    · clear h15 h31 g15 g31
      obtain ⟨n, hn⟩ : ∃ n, n = M7 + 1 := ⟨_, rfl⟩
      have hn8 : n ≤ 8 := by omega
      have hn1 : 1 ≤ n := by omega
      have hnI : (M7 : Int) + 1 = (n : Int) := by omega
      have HN1 := Lib.hid hn
      clear hn
      go_wp2_with fail
      go_loopg [5, 11, 12] n (fun gk s u i wr => ∃ k : Nat, k ≤ n ∧ n - k ≤ gk ∧ i = .int .i64 (k : Int) ∧ s = .string (str (My.rule ++ My.rep My.word k)) ∧ u = .string (str (My.rep (fun _ => [32, 44, 32, 97, 108, 108]) k)) ∧ Below w.heap.size w wr)
      case atStart => exact ⟨0, Nat.zero_le _, by omega, rfl, rfl, rfl, Below.refl _ _⟩
      case round =>
        obtain ⟨k, hk, hgk, rfl, rfl, rfl, hbz⟩ := hrel
        obtain ⟨wz, rfl⟩ : ∃ wx : World, wx = wr := ⟨_, rfl⟩
        have HBZ := Lib.hid hbz
        clear hbz
        have hSL : (My.rule ++ My.rep My.word k).length ≤ 6 * k + 4 := by
          have h1 := rep_word_len k (by omega)
          have h4 : My.rule.length = 4 := rfl
          rw [List.length_append, h4]
          omega
        have hUL : (My.rep (fun _ => [32, 44, 32, 97, 108, 108]) k).length = 6 * k := rep_len_eq _ 6 (fun _ => rfl) k
        by_cases hlt : k < n
        · have hkI : (k : Int) < (n : Int) := by omega
          have hWL : (My.word k).length ≤ 6 := word_len (by omega)
          have HNS : Hid (str (My.rule ++ My.rep My.word (k + 1)) = str (My.rule ++ My.rep My.word k) ++ str (My.word k)) := Lib.hid (by rw [str_add, My.rep, List.append_assoc])
          have HNU : Hid (str (My.rep (fun _ => [32, 44, 32, 97, 108, 108]) (k + 1)) = str (My.rep (fun _ => [32, 44, 32, 97, 108, 108]) k) ++ ⟨#[32, 44, 32, 97, 108, 108]⟩) := Lib.hid (by rw [show (⟨#[32, 44, 32, 97, 108, 108]⟩ : ByteArray) = str [32, 44, 32, 97, 108, 108] from rfl, str_add, My.rep])
          have z1 : ¬ 9223372036854775807 < (str (My.rule ++ My.rep My.word k)).size + (str (My.word k)).size := by rw [str_size, str_size]; omega
          have z2 : ¬ 9223372036854775807 < (str (My.rep (fun _ => [32, 44, 32, 97, 108, 108]) k)).size + (⟨#[32, 44, 32, 97, 108, 108]⟩ : ByteArray).size := by rw [str_size, show (⟨#[32, 44, 32, 97, 108, 108]⟩ : ByteArray).size = 6 from rfl]; omega
          obtain ⟨S, hS⟩ : ∃ S, My.rule ++ My.rep My.word k = S := ⟨_, rfl⟩
          rw [hS] at HNS z1 ⊢
          obtain ⟨U, hU⟩ : ∃ U, My.rep (fun _ => [32, 44, 32, 97, 108, 108]) k = U := ⟨_, rfl⟩
          rw [hU] at HNU z2 ⊢
          have HWD : Hid (Calls Tryz.prog 10 #[.int .i64 (k : Int)] wz fun e w' => e = .returned (.string (str (My.word k))) ∧ Below wz.heap.size wz w') := Lib.hid (myword_any k wz (by omega))
          obtain ⟨W, hW⟩ : ∃ W, My.word k = W := ⟨_, rfl⟩
          rw [hW] at HNS z1 HWD
          clear hSL hUL hWL hS hU hW
          go_wp2_with fail
          refine HWD.out.mono ?_
          rintro e w2 ⟨rfl, hb2⟩
          have HB2 : Hid (Below w.heap.size w w2) := Lib.hid (HBZ.out.trans (hb2.mono HBZ.out.size))
          clear hb2
          go_wp2
          go_roundg (n - (k + 1))
          case rel => exact ⟨k + 1, hlt, by omega, by go_num, by rw [HNS.out], by rw [HNU.out], HB2.out⟩
          case measure => omega
        · obtain rfl : k = n := by omega
          have hkI : ¬ (k : Int) < (k : Int) := by omega
          have HOK : Hid (My.manyOk k 4 7 18 (My.t1 k) = true) := Lib.hid (by
            have := My.all_range My.all1 (k := k) (by omega)
            rw [Bool.or_eq_true_iff] at this
            exact this.resolve_left (by simp; omega))
          have HFT : Hid (str (My.t1 k) = str (My.rule ++ My.rep My.word k) ++ ⟨#[32, 58, 32, 61]⟩ ++ str ((My.rep (fun _ => [32, 44, 32, 97, 108, 108]) k).drop 2) ++ ⟨#[10]⟩) := Lib.hid (by
            rw [show (⟨#[32, 58, 32, 61]⟩ : ByteArray) = str [32, 58, 32, 61] from rfl, show (⟨#[10]⟩ : ByteArray) = str [10] from rfl, str_add, str_add, str_add]
            rfl)
          have hsl : (2 : Int) ≤ ((str (My.rep (fun _ => [32, 44, 32, 97, 108, 108]) k)).size : Int) := by rw [str_size, hUL]; omega
          have hex : (str (My.rep (fun _ => [32, 44, 32, 97, 108, 108]) k)).extract 2 (str (My.rep (fun _ => [32, 44, 32, 97, 108, 108]) k)).size = str ((My.rep (fun _ => [32, 44, 32, 97, 108, 108]) k).drop 2) := by
            rw [str_part, str_size, List.take_of_length_le (by rw [List.length_drop]; exact Nat.le_refl _)]
          have hdl : ((My.rep (fun _ => [32, 44, 32, 97, 108, 108]) k).drop 2).length ≤ 6 * k := by rw [List.length_drop]; omega
          have z1 : ¬ 9223372036854775807 < (str (My.rule ++ My.rep My.word k)).size + (⟨#[32, 58, 32, 61]⟩ : ByteArray).size := by rw [str_size, show (⟨#[32, 58, 32, 61]⟩ : ByteArray).size = 4 from rfl]; omega
          have z2 : ¬ 9223372036854775807 < (str (My.rule ++ My.rep My.word k) ++ ⟨#[32, 58, 32, 61]⟩).size + (str ((My.rep (fun _ => [32, 44, 32, 97, 108, 108]) k).drop 2)).size := by rw [bsize_append, str_size, str_size, show (⟨#[32, 58, 32, 61]⟩ : ByteArray).size = 4 from rfl]; omega
          have z3 : ¬ 9223372036854775807 < (str (My.rule ++ My.rep My.word k) ++ ⟨#[32, 58, 32, 61]⟩ ++ str ((My.rep (fun _ => [32, 44, 32, 97, 108, 108]) k).drop 2)).size + (⟨#[10]⟩ : ByteArray).size := by rw [bsize_append, bsize_append, str_size, str_size, show (⟨#[32, 58, 32, 61]⟩ : ByteArray).size = 4 from rfl, show (⟨#[10]⟩ : ByteArray).size = 1 from rfl]; omega
          obtain ⟨S, hS⟩ : ∃ S, My.rule ++ My.rep My.word k = S := ⟨_, rfl⟩
          rw [hS] at HFT z1 z2 z3 ⊢
          obtain ⟨U, hU⟩ : ∃ U, My.rep (fun _ => [32, 44, 32, 97, 108, 108]) k = U := ⟨_, rfl⟩
          rw [hU] at HFT z2 z3 hsl hex hdl ⊢
          obtain ⟨V, hV⟩ : ∃ V, U.drop 2 = V := ⟨_, rfl⟩
          rw [hV] at HFT z2 z3 hex
          clear hSL hUL hS hU hV hdl
          go_wp2_with fail
          go_meet
          exact ⟨k, 4, 7, 18, My.t1 k, rfl, by rw [HFT.out], rfl, rfl, rfl, Lib.hid (by omega), HOK, HBZ⟩
    · clear h7 h31 g7 g31
      go_wp2_with fail
      go_loopg [5, 13] M15 (fun gk s i wr => ∃ k : Nat, k ≤ M15 ∧ M15 - k ≤ gk ∧ i = .int .i64 (k : Int) ∧ s = .string (str ([114, 117, 108, 101, 32, 97, 32, 58] ++ My.rep (fun _ => [32, 98]) k)) ∧ wr = w)
      case atStart => exact ⟨0, Nat.zero_le _, by omega, rfl, rfl, rfl⟩
      case round =>
        obtain ⟨k, hk, hgk, rfl, rfl, rfl⟩ := hrel
        have hSL : ([114, 117, 108, 101, 32, 97, 32, 58] ++ My.rep (fun _ => [32, 98]) k).length ≤ 2 * k + 20 := by
          have := rep_len (fun _ => [32, 98]) 2 (fun _ => Nat.le_refl _) k
          rw [List.length_append]
          simp at this ⊢
          omega
        by_cases hlt : k < M15
        · have hkI : (k : Int) < (M15 : Int) := by omega
          have HNS : Hid (str ([114, 117, 108, 101, 32, 97, 32, 58] ++ My.rep (fun _ => [32, 98]) (k + 1)) = str ([114, 117, 108, 101, 32, 97, 32, 58] ++ My.rep (fun _ => [32, 98]) k) ++ ⟨#[32, 98]⟩) := Lib.hid (by rw [show (⟨#[32, 98]⟩ : ByteArray) = str [32, 98] from rfl, str_add, My.rep, List.append_assoc])
          have z1 : ¬ 9223372036854775807 < (str ([114, 117, 108, 101, 32, 97, 32, 58] ++ My.rep (fun _ => [32, 98]) k)).size + (⟨#[32, 98]⟩ : ByteArray).size := by rw [str_size, show (⟨#[32, 98]⟩ : ByteArray).size = 2 from rfl]; omega
          obtain ⟨S, hS⟩ : ∃ S, [114, 117, 108, 101, 32, 97, 32, 58] ++ My.rep (fun _ => [32, 98]) k = S := ⟨_, rfl⟩
          rw [hS] at HNS z1 ⊢
          clear hSL hS
          go_wp2
          go_roundg (M15 - (k + 1))
          case rel => exact ⟨k + 1, hlt, by omega, by go_num, by rw [HNS.out], rfl⟩
          case measure => omega
        · obtain rfl : k = M15 := by omega
          have hkI : ¬ (k : Int) < (k : Int) := by omega
          have HOK : Hid (My.manyOk k 8 7 26 (My.t2 k) = true) := Lib.hid (My.all_range My.all2 (k := k) (by omega))
          have HFT : Hid (str (My.t2 k) = str ([114, 117, 108, 101, 32, 97, 32, 58] ++ My.rep (fun _ => [32, 98]) k) ++ ⟨#[32, 61, 32, 97, 108, 108, 10]⟩) := Lib.hid (by
            rw [show (⟨#[32, 61, 32, 97, 108, 108, 10]⟩ : ByteArray) = str [32, 61, 32, 97, 108, 108, 10] from rfl, str_add]
            rfl)
          have z1 : ¬ 9223372036854775807 < (str ([114, 117, 108, 101, 32, 97, 32, 58] ++ My.rep (fun _ => [32, 98]) k)).size + (⟨#[32, 61, 32, 97, 108, 108, 10]⟩ : ByteArray).size := by rw [str_size, show (⟨#[32, 61, 32, 97, 108, 108, 10]⟩ : ByteArray).size = 7 from rfl]; omega
          obtain ⟨S, hS⟩ : ∃ S, [114, 117, 108, 101, 32, 97, 32, 58] ++ My.rep (fun _ => [32, 98]) k = S := ⟨_, rfl⟩
          rw [hS] at HFT z1 ⊢
          clear hSL hS
          go_wp2_with fail
          go_meet
          exact ⟨k, 8, 7, 26, My.t2 k, rfl, by rw [HFT.out], rfl, rfl, rfl, Lib.hid (by omega), HOK, Lib.hid (Below.refl _ _)⟩
    · clear h7 h31 g7 g31
      go_wp2_with fail
      go_loopg [5, 14] M15 (fun gk s i wr => ∃ k : Nat, k ≤ M15 ∧ M15 - k ≤ gk ∧ i = .int .i64 (k : Int) ∧ s = .string (str ([114, 117, 108, 101, 32, 97, 32, 58, 32, 124] ++ My.rep (fun _ => [32, 98]) k)) ∧ wr = w)
      case atStart => exact ⟨0, Nat.zero_le _, by omega, rfl, rfl, rfl⟩
      case round =>
        obtain ⟨k, hk, hgk, rfl, rfl, rfl⟩ := hrel
        have hSL : ([114, 117, 108, 101, 32, 97, 32, 58, 32, 124] ++ My.rep (fun _ => [32, 98]) k).length ≤ 2 * k + 20 := by
          have := rep_len (fun _ => [32, 98]) 2 (fun _ => Nat.le_refl _) k
          rw [List.length_append]
          simp at this ⊢
          omega
        by_cases hlt : k < M15
        · have hkI : (k : Int) < (M15 : Int) := by omega
          have HNS : Hid (str ([114, 117, 108, 101, 32, 97, 32, 58, 32, 124] ++ My.rep (fun _ => [32, 98]) (k + 1)) = str ([114, 117, 108, 101, 32, 97, 32, 58, 32, 124] ++ My.rep (fun _ => [32, 98]) k) ++ ⟨#[32, 98]⟩) := Lib.hid (by rw [show (⟨#[32, 98]⟩ : ByteArray) = str [32, 98] from rfl, str_add, My.rep, List.append_assoc])
          have z1 : ¬ 9223372036854775807 < (str ([114, 117, 108, 101, 32, 97, 32, 58, 32, 124] ++ My.rep (fun _ => [32, 98]) k)).size + (⟨#[32, 98]⟩ : ByteArray).size := by rw [str_size, show (⟨#[32, 98]⟩ : ByteArray).size = 2 from rfl]; omega
          obtain ⟨S, hS⟩ : ∃ S, [114, 117, 108, 101, 32, 97, 32, 58, 32, 124] ++ My.rep (fun _ => [32, 98]) k = S := ⟨_, rfl⟩
          rw [hS] at HNS z1 ⊢
          clear hSL hS
          go_wp2
          go_roundg (M15 - (k + 1))
          case rel => exact ⟨k + 1, hlt, by omega, by go_num, by rw [HNS.out], rfl⟩
          case measure => omega
        · obtain rfl : k = M15 := by omega
          have hkI : ¬ (k : Int) < (k : Int) := by omega
          have HOK : Hid (My.manyOk k 8 7 28 (My.t3 k) = true) := Lib.hid (My.all_range My.all3 (k := k) (by omega))
          have HFT : Hid (str (My.t3 k) = str ([114, 117, 108, 101, 32, 97, 32, 58, 32, 124] ++ My.rep (fun _ => [32, 98]) k) ++ ⟨#[32, 61, 32, 97, 108, 108, 10]⟩) := Lib.hid (by
            rw [show (⟨#[32, 61, 32, 97, 108, 108, 10]⟩ : ByteArray) = str [32, 61, 32, 97, 108, 108, 10] from rfl, str_add]
            rfl)
          have z1 : ¬ 9223372036854775807 < (str ([114, 117, 108, 101, 32, 97, 32, 58, 32, 124] ++ My.rep (fun _ => [32, 98]) k)).size + (⟨#[32, 61, 32, 97, 108, 108, 10]⟩ : ByteArray).size := by rw [str_size, show (⟨#[32, 61, 32, 97, 108, 108, 10]⟩ : ByteArray).size = 7 from rfl]; omega
          obtain ⟨S, hS⟩ : ∃ S, [114, 117, 108, 101, 32, 97, 32, 58, 32, 124] ++ My.rep (fun _ => [32, 98]) k = S := ⟨_, rfl⟩
          rw [hS] at HFT z1 ⊢
          clear hSL hS
          go_wp2_with fail
          go_meet
          exact ⟨k, 8, 7, 28, My.t3 k, rfl, by rw [HFT.out], rfl, rfl, rfl, Lib.hid (by omega), HOK, Lib.hid (Below.refl _ _)⟩
    · clear h7 h15 g7 g15
      go_wp2_with fail
      go_loopg [5, 15] M31 (fun gk s i wr => ∃ k : Nat, k ≤ M31 ∧ M31 - k ≤ gk ∧ i = .int .i64 (k : Int) ∧ s = .string (str ([108, 101, 116, 32, 118, 32, 61] ++ My.rep (fun _ => [32, 59]) k)) ∧ wr = w)
      case atStart => exact ⟨0, Nat.zero_le _, by omega, rfl, rfl, rfl⟩
      case round =>
        obtain ⟨k, hk, hgk, rfl, rfl, rfl⟩ := hrel
        have hSL : ([108, 101, 116, 32, 118, 32, 61] ++ My.rep (fun _ => [32, 59]) k).length ≤ 2 * k + 20 := by
          have := rep_len (fun _ => [32, 59]) 2 (fun _ => Nat.le_refl _) k
          rw [List.length_append]
          simp at this ⊢
          omega
        by_cases hlt : k < M31
        · have hkI : (k : Int) < (M31 : Int) := by omega
          have HNS : Hid (str ([108, 101, 116, 32, 118, 32, 61] ++ My.rep (fun _ => [32, 59]) (k + 1)) = str ([108, 101, 116, 32, 118, 32, 61] ++ My.rep (fun _ => [32, 59]) k) ++ ⟨#[32, 59]⟩) := Lib.hid (by rw [show (⟨#[32, 59]⟩ : ByteArray) = str [32, 59] from rfl, str_add, My.rep, List.append_assoc])
          have z1 : ¬ 9223372036854775807 < (str ([108, 101, 116, 32, 118, 32, 61] ++ My.rep (fun _ => [32, 59]) k)).size + (⟨#[32, 59]⟩ : ByteArray).size := by rw [str_size, show (⟨#[32, 59]⟩ : ByteArray).size = 2 from rfl]; omega
          obtain ⟨S, hS⟩ : ∃ S, [108, 101, 116, 32, 118, 32, 61] ++ My.rep (fun _ => [32, 59]) k = S := ⟨_, rfl⟩
          rw [hS] at HNS z1 ⊢
          clear hSL hS
          go_wp2
          go_roundg (M31 - (k + 1))
          case rel => exact ⟨k + 1, hlt, by omega, by go_num, by rw [HNS.out], rfl⟩
          case measure => omega
        · obtain rfl : k = M31 := by omega
          have hkI : ¬ (k : Int) < (k : Int) := by omega
          have HOK : Hid (My.manyOk k 16 7 41 (My.t4 k) = true) := Lib.hid (My.all_range My.all4 (k := k) (by omega))
          have HFT : Hid (str (My.t4 k) = str ([108, 101, 116, 32, 118, 32, 61] ++ My.rep (fun _ => [32, 59]) k) ++ ⟨#[10]⟩) := Lib.hid (by
            rw [show (⟨#[10]⟩ : ByteArray) = str [10] from rfl, str_add]
            rfl)
          have z1 : ¬ 9223372036854775807 < (str ([108, 101, 116, 32, 118, 32, 61] ++ My.rep (fun _ => [32, 59]) k)).size + (⟨#[10]⟩ : ByteArray).size := by rw [str_size, show (⟨#[10]⟩ : ByteArray).size = 1 from rfl]; omega
          obtain ⟨S, hS⟩ : ∃ S, [108, 101, 116, 32, 118, 32, 61] ++ My.rep (fun _ => [32, 59]) k = S := ⟨_, rfl⟩
          rw [hS] at HFT z1 ⊢
          clear hSL hS
          go_wp2_with fail
          go_meet
          exact ⟨k, 16, 7, 41, My.t4 k, rfl, by rw [HFT.out], rfl, rfl, rfl, Lib.hid (by omega), HOK, Lib.hid (Below.refl _ _)⟩
    · clear h7 h31 g7 g31
      obtain ⟨n, hn⟩ : ∃ n, n = M15 + 1 := ⟨_, rfl⟩
      have hn16 : n ≤ 16 := by omega
      have hn1 : 1 ≤ n := by omega
      have hnI : (M15 : Int) + 1 = (n : Int) := by omega
      have HN1 := Lib.hid hn
      clear hn
      go_wp2_with fail
      go_loopg [5, 16] n (fun gk s i wr => ∃ k : Nat, k ≤ n ∧ n - k ≤ gk ∧ i = .int .i64 (k : Int) ∧ s = .string (str ([100, 101, 102, 97, 117, 108, 116] ++ My.rep (fun _ => [32, 97]) k)) ∧ wr = w)
      case atStart => exact ⟨0, Nat.zero_le _, by omega, rfl, rfl, rfl⟩
      case round =>
        obtain ⟨k, hk, hgk, rfl, rfl, rfl⟩ := hrel
        have hSL : ([100, 101, 102, 97, 117, 108, 116] ++ My.rep (fun _ => [32, 97]) k).length ≤ 2 * k + 20 := by
          have := rep_len (fun _ => [32, 97]) 2 (fun _ => Nat.le_refl _) k
          rw [List.length_append]
          simp at this ⊢
          omega
        by_cases hlt : k < n
        · have hkI : (k : Int) < (n : Int) := by omega
          have HNS : Hid (str ([100, 101, 102, 97, 117, 108, 116] ++ My.rep (fun _ => [32, 97]) (k + 1)) = str ([100, 101, 102, 97, 117, 108, 116] ++ My.rep (fun _ => [32, 97]) k) ++ ⟨#[32, 97]⟩) := Lib.hid (by rw [show (⟨#[32, 97]⟩ : ByteArray) = str [32, 97] from rfl, str_add, My.rep, List.append_assoc])
          have z1 : ¬ 9223372036854775807 < (str ([100, 101, 102, 97, 117, 108, 116] ++ My.rep (fun _ => [32, 97]) k)).size + (⟨#[32, 97]⟩ : ByteArray).size := by rw [str_size, show (⟨#[32, 97]⟩ : ByteArray).size = 2 from rfl]; omega
          obtain ⟨S, hS⟩ : ∃ S, [100, 101, 102, 97, 117, 108, 116] ++ My.rep (fun _ => [32, 97]) k = S := ⟨_, rfl⟩
          rw [hS] at HNS z1 ⊢
          clear hSL hS
          go_wp2
          go_roundg (n - (k + 1))
          case rel => exact ⟨k + 1, hlt, by omega, by go_num, by rw [HNS.out], rfl⟩
          case measure => omega
        · obtain rfl : k = n := by omega
          have hkI : ¬ (k : Int) < (k : Int) := by omega
          have HOK : Hid (My.manyOk k 8 7 25 (My.t5 k) = true) := Lib.hid (by
            have := My.all_range My.all5 (k := k) (by omega)
            rw [Bool.or_eq_true_iff] at this
            exact this.resolve_left (by simp; omega))
          have HFT : Hid (str (My.t5 k) = str ([100, 101, 102, 97, 117, 108, 116] ++ My.rep (fun _ => [32, 97]) k) ++ ⟨#[10, 114, 117, 108, 101, 32, 97, 32, 58, 32, 61, 32, 97, 108, 108, 10]⟩) := Lib.hid (by
            rw [show (⟨#[10, 114, 117, 108, 101, 32, 97, 32, 58, 32, 61, 32, 97, 108, 108, 10]⟩ : ByteArray) = str [10, 114, 117, 108, 101, 32, 97, 32, 58, 32, 61, 32, 97, 108, 108, 10] from rfl, str_add]
            rfl)
          have z1 : ¬ 9223372036854775807 < (str ([100, 101, 102, 97, 117, 108, 116] ++ My.rep (fun _ => [32, 97]) k)).size + (⟨#[10, 114, 117, 108, 101, 32, 97, 32, 58, 32, 61, 32, 97, 108, 108, 10]⟩ : ByteArray).size := by rw [str_size, show (⟨#[10, 114, 117, 108, 101, 32, 97, 32, 58, 32, 61, 32, 97, 108, 108, 10]⟩ : ByteArray).size = 16 from rfl]; omega
          obtain ⟨S, hS⟩ : ∃ S, [100, 101, 102, 97, 117, 108, 116] ++ My.rep (fun _ => [32, 97]) k = S := ⟨_, rfl⟩
          rw [hS] at HFT z1 ⊢
          clear hSL hS
          go_wp2_with fail
          go_meet
          exact ⟨k, 8, 7, 25, My.t5 k, rfl, by rw [HFT.out], rfl, rfl, rfl, Lib.hid (by omega), HOK, Lib.hid (Below.refl _ _)⟩
  case rest =>
    obtain ⟨n, most, kd, at_, T, rfl, rfl, rfl, rfl, rfl, hsm, hok, hb⟩ := hcut
    obtain ⟨w1, rfl⟩ : ∃ wx : World, wx = wc := ⟨_, rfl⟩
    have HOK := Lib.hid (manyOk_of hok.out)
    have HSM := hsm
    have HB1 := hb
    clear hm hb hN hc h7 g7 h15 g15 h31 g31 hok hsm
    have HL : Hid ((str T).data.toList.map (·.toNat) = T) := Lib.hid (by rw [str_data, str_nat HOK.out.1])
    have kb := fun (w : World) (s : ByteArray) => run_bytes_of_string (P := Tryz.prog) w 9 32 5 s Tryz.underlying9 Tryz.underlying32 Tryz.underlying5
    have HZ1 : Hid (w.heap.size ≤ w1.heap.size) := Lib.hid HB1.out.size
    go_wp2_with fail
    refine (mparse_any _ T _ (Bytes.drew (bytes_of_text w1 (str T) T _ rfl _ _ HL.out (grownCap_ge _ _ _ _) (by rw [str_size]; have := HOK.out.2.1; omega) _)) (by have := HOK.out.2.1; omega)
      (fun W hb2 => HTab.out W (below_on (HB1.out.alloc HZ1.out _) (hb2.mono (by have := HZ1.out; simp; omega)) ⟨rfl, rfl, rfl, Nat.le_refl _, fun _ _ => rfl⟩))).mono ?_
    intro e w2 hp
    rcases HOK.out.2.2 with ⟨m, hpm, h1⟩ | ⟨hpm, h1, h2⟩
    · obtain ⟨v, rfl, hrd, hb2⟩ := parsed_ok hp hpm
      obtain ⟨rv, dv, rfl, hsr, hsd⟩ := hrd
      obtain ⟨ra, rc, rfl⟩ := hsr.shape
      obtain ⟨da, dc, rfl, -⟩ := hsd
      clear hsr
      have HW2 : Hid (Below w1.heap.size w1 w2) := Lib.hid (below_on ((Below.refl _ _).alloc (Nat.le_refl _) _) (hb2.mono (by simp)) ⟨rfl, rfl, rfl, Nat.le_refl _, fun _ _ => rfl⟩)
      have HB2 : Hid (Below w.heap.size w w2) := Lib.hid (HB1.out.trans (HW2.out.mono HZ1.out))
      have HZ2 : Hid (w.heap.size ≤ w2.heap.size) := Lib.hid HB2.out.size
      have HB4 : Hid (∀ o1 o2, Below w.heap.size w ((w2.alloc o1).alloc o2)) := Lib.hid (fun o1 o2 => (HB2.out.alloc HZ2.out o1).alloc (by have := HZ2.out; simp; omega) o2)
      have hle : (n : Int) ≤ (most : Int) := by omega
      clear hb2 hp hpm kb h1
      go_wp2_with fail
      refine (mawake_any _ (fun W hb3 => HTab.out W ((HB4.out _ _).trans (hb3.mono (by have := HZ2.out; simp; omega))))).mono ?_
      rintro e w3 ⟨rfl, hb3⟩
      have HB5 : Hid (Below w.heap.size w w3) := Lib.hid ((HB4.out _ _).trans (hb3.mono (by have := HZ2.out; simp; omega)))
      clear hb3
      go_wp2
      go_ret
      exact ⟨rfl, HB5.out⟩
    · obtain ⟨ln, hln⟩ : ∃ ln : Nat, (if kd = 11 then 65 else 1) = ln := ⟨_, rfl⟩
      rw [hln] at hpm
      obtain ⟨he, hb2⟩ := parsed_bad hp hpm
      rw [show zeroM = .agg #[.slice none 0 0, .slice none 0 0] from rfl, show FaultV ⟨kd, ln, at_⟩ = .agg #[.int .i64 (kd : Int), .int .i64 (ln : Int), .int .i64 (at_ : Int)] from rfl] at he
      subst he
      have HW2 : Hid (Below w1.heap.size w1 w2) := Lib.hid (below_on ((Below.refl _ _).alloc (Nat.le_refl _) _) (hb2.mono (by simp)) ⟨rfl, rfl, rfl, Nat.le_refl _, fun _ _ => rfl⟩)
      have HB2 : Hid (Below w.heap.size w w2) := Lib.hid (HB1.out.trans (HW2.out.mono HZ1.out))
      have HZ2 : Hid (w.heap.size ≤ w2.heap.size) := Lib.hid HB2.out.size
      have HB4 : Hid (∀ o1 o2 o3, Below w.heap.size w (((w2.alloc o1).alloc o2).alloc o3)) := Lib.hid (fun o1 o2 o3 => ((HB2.out.alloc HZ2.out o1).alloc (by have := HZ2.out; simp; omega) o2).alloc (by have := HZ2.out; simp; omega) o3)
      have hle : ¬ (n : Int) ≤ (most : Int) := by omega
      clear hb2 hp hpm kb h1 h2
      by_cases h11 : kd = 11
      · subst h11
        obtain rfl : ln = 65 := by rw [← hln]; rfl
        clear hln
        go_wp2_with fail
        refine (mawake_any _ (fun W hb3 => HTab.out W ((HB4.out _ _ _).trans (hb3.mono (by have := HZ2.out; simp; omega))))).mono ?_
        rintro e w3 ⟨rfl, hb3⟩
        have HB5 : Hid (Below w.heap.size w w3) := Lib.hid ((HB4.out _ _ _).trans (hb3.mono (by have := HZ2.out; simp; omega)))
        clear hb3
        go_wp2
        go_ret
        exact ⟨rfl, HB5.out⟩
      · have hk11 : ((kd : Int) == 11) = false := by simp; omega
        obtain rfl : ln = 1 := by rw [← hln, if_neg h11]
        clear hln h11
        go_wp2_with fail
        refine (mawake_any _ (fun W hb3 => HTab.out W ((HB4.out _ _ _).trans (hb3.mono (by have := HZ2.out; simp; omega))))).mono ?_
        rintro e w3 ⟨rfl, hb3⟩
        have HB5 : Hid (Below w.heap.size w w3) := Lib.hid ((HB4.out _ _ _).trans (hb3.mono (by have := HZ2.out; simp; omega)))
        clear hb3
        go_wp2
        go_ret
        exact ⟨rfl, HB5.out⟩
end Go.Proofs.YtgjehlegcmeeoaaGreatDoor
