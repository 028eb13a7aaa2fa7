/- LinePlaces: each word stands where it is said: the bytes there are its own; words stand one behind the other. -/
import Derived.Test.YtpebkdmoloiecaaLineAwake
import Derived.Test.YtpebkdmoloiecaaLineText
import Derived.Test.YtpebkdmoloiecaaLinePlaceMath
import Derived.Test.YtpebkdmoloiecaaInts
import Derived.BigQuiet
import Derived.Deep.QuietTactic
namespace Go.Proofs.Ytpebkdmoloiecaa
open Go.ChangeShapes Go.WideShapes Go.ChangeAt Go.RowKit

/-- Where the lines begin, of so many bytes. -/
def Fr (b : List Nat) (j : Nat) (F : List Nat) : Prop :=
  F.length = (b.take j).count 10 + 1 ∧ ∀ ln fr, Ln.Start b ln fr → fr ≤ j → 1 ≤ ln ∧ ln ≤ F.length ∧ F.getD (ln - 1) 0 = fr
theorem fr_start (b : List Nat) : Fr b 0 [0] := ⟨by simp, fun ln fr h hf => by
  obtain ⟨h1, h2, h3⟩ := h
  obtain rfl : fr = 0 := by omega
  simp at h2
  subst h2
  exact ⟨by omega, by simp, rfl⟩⟩
theorem count_snoc (b : List Nat) (j : Nat) (hj : j < b.length) : (b.take (j + 1)).count 10 = (b.take j).count 10 + if b.getD j 0 = 10 then 1 else 0 := by
  rw [take_snoc b j hj, List.count_append]
  by_cases h : b.getD j 0 = 10
  · rw [h, if_pos rfl]; rfl
  · rw [if_neg h, List.count_singleton, if_neg (by simpa using h)]
theorem Fr.nl {b F : List Nat} {j : Nat} (h : Fr b j F) (hj : j < b.length) (hc : b.getD j 0 = 10) : Fr b (j + 1) (F ++ [j + 1]) := by
  have hcs := count_snoc b j hj
  rw [if_pos hc] at hcs
  refine ⟨by rw [List.length_append, List.length_singleton, h.1, hcs], fun ln fr hs hf => ?_⟩
  rw [List.length_append, List.length_singleton]
  rcases Nat.lt_or_ge fr (j + 1) with hlt | hge
  · obtain ⟨h1, h2, h3⟩ := h.2 ln fr hs (by omega)
    refine ⟨h1, by omega, ?_⟩
    rw [List.getD_eq_getElem?_getD, List.getElem?_append_left (by omega), ← List.getD_eq_getElem?_getD]
    exact h3
  · obtain rfl : fr = j + 1 := by omega
    have h2 := hs.2.1
    rw [hcs] at h2
    have h1 := h.1
    refine ⟨by omega, by omega, ?_⟩
    rw [List.getD_eq_getElem?_getD, List.getElem?_append_right (by omega), show ln - 1 - F.length = 0 from by omega]
    rfl
theorem Fr.on {b F : List Nat} {j : Nat} (h : Fr b j F) (hj : j < b.length) (hc : b.getD j 0 ≠ 10) : Fr b (j + 1) F := by
  have hcs := count_snoc b j hj
  rw [if_neg hc] at hcs
  refine ⟨by rw [h.1, hcs], fun ln fr hs hf => ?_⟩
  rcases Nat.lt_or_ge fr (j + 1) with hlt | hge
  · exact h.2 ln fr hs (by omega)
  · obtain rfl : fr = j + 1 := by omega
    rcases hs.2.2 with h3 | h3
    · omega
    · rw [Nat.add_sub_cancel] at h3
      exact absurd h3 hc
theorem Fr.small {b F : List Nat} {j : Nat} (h : Fr b j F) : F.length ≤ b.length + 1 := by
  have h1 := h.1
  have h2 := List.count_le_length (a := 10) (l := b.take j)
  rw [List.length_take] at h2
  omega
theorem ownI_one (w : World) (base x : Nat) (hb : base ≤ w.heap.size) : OwnI (w.alloc (.cells #[.int .i64 (x : Int)] 3)) base (.slice (some ⟨w.heap.size, 0, none⟩) 1 1) [x] :=
  ⟨rfl, .inr ⟨w.heap.size, 1, #[.int .i64 (x : Int)], rfl, hb, heap_alloc_new w _, Nat.le_refl _, by decide, rfl, rfl⟩⟩
theorem RdL.small {w : World} {v : Value} {LL : List (List Ln.W)} (h : RdL w v LL) : LL.length ≤ maxLen := by
  obtain ⟨_, _, _, _, h, _⟩ := h
  exact h
theorem RdW.small {w : World} {v : Value} {R : List Ln.W} (h : RdW w v R) : R.length ≤ maxLen := by
  obtain ⟨_, _, _, _, h, _⟩ := h
  exact h
/-- Two slices of bytes. -/
def Two (g : Nat) (w : World) : Prop := ∀ j, j < 2 → ∃ x l, w.cell? ⟨g, j, none⟩ = some x ∧ Bytes w x l ∧ l.length ≤ 1000000
theorem Two.under {g : Nat} {w w' : World} (h : Two g w) (hb : Below w.heap.size w w') : Two g w' := fun j hj => by
  obtain ⟨x, l, h1, h2, h3⟩ := h j hj
  exact ⟨x, l, cell_later hb h1, h2.under hb, h3⟩
theorem two_of {w : World} {x0 x1 : Value} {l0 l1 : List Nat} (h0 : Bytes w x0 l0) (h1 : Bytes w x1 l1) (n0 : l0.length ≤ 1000000) (n1 : l1.length ≤ 1000000) : Two w.heap.size (w.alloc (.cells #[x0, x1] 22)) := fun j hj => by
  have hB : Blk (w.alloc (.cells #[x0, x1] 22)) w.heap.size 22 #[x0, x1] := heap_alloc_new w _
  have : j = 0 ∨ j = 1 := by omega
  rcases this with rfl | rfl
  · exact ⟨x0, l0, hB.at 0, h0.alloc _, n0⟩
  · exact ⟨x1, l1, hB.at 1, h1.alloc _, n1⟩
set_option maxRecDepth 100000 in
set_option maxHeartbeats 2000000 in
theorem places_long (v0 v1 : Value) (raw : List Nat) (w : World) (hr : Bytes w v0 raw) (hl : 300 < raw.length) :
    Calls Try.prog 3 #[v0, v1] w fun e w' => e = .returned (.bool true) ∧ Below w.heap.size w w' := by
  obtain ⟨_, hm, A, c, rfl, hc, _⟩ := hr.parts
  have h4 : (300 : Int) < (raw.length : Int) := by omega
  clear hr
  go_enter Try.func3, Try.ntmps3
  go_wp2_with (go_at_call 8; refine (awake_any _).mono ?_; rintro e w' ⟨rfl, hbw⟩)
  go_ret
  exact ⟨rfl, hbw⟩
set_option maxRecDepth 100000 in
set_option maxHeartbeats 8000000 in
theorem places_short (v0 v1 : Value) (raw : List Nat) (zs : List Int) (w : World) (hr : Bytes w v0 raw) (hz : Ints w v1 zs) (hl : raw.length ≤ 300) :
    Calls Try.prog 3 #[v0, v1] w fun e w' => e = .returned (.bool true) ∧ Below w.heap.size w w' := by
  have HR := Lib.hid hr
  have HZ := Lib.hid hz
  obtain ⟨_, _, A0, c0, rfl, hc0, _⟩ := hr.parts
  obtain ⟨_, hzm, A1, c1, rfl, hc1, _⟩ := hz
  clear hr
  obtain ⟨R, hR⟩ : ∃ n, raw.length = n := ⟨_, rfl⟩
  obtain ⟨n1, hn1⟩ : ∃ n, zs.length = n := ⟨_, rfl⟩
  rw [hR] at HR hl hc0 ⊢
  rw [hn1] at HZ hzm hc1 ⊢
  have HRL := Lib.hid hR
  have r1 : ¬ (300 : Int) < (R : Int) := by omega
  clear hR hn1
  go_enter Try.func3, Try.ntmps3
  go_wp2_with fail
  refine (text_any _ zs _ HZ.out).mono ?_
  rintro e w1 ⟨T1, u1, rfl, hT1, hO1, hb1⟩
  have hb1' := hO1.bytes
  obtain ⟨_, _, Aa, ca, rfl, _, _⟩ := hb1'.parts
  have HT := Lib.hid (two_of (HR.out.under hb1) hb1' (by rw [HRL.out]; omega) (by omega))
  have HBl := Lib.hid (hb1.alloc hb1.size (.cells #[.slice A0 R c0, .slice Aa T1.length ca] 22))
  obtain ⟨N1, hN1⟩ : ∃ N, T1.length = N := ⟨_, rfl⟩
  rw [hN1] at HT HBl ⊢
  clear hb1' hN1 hO1 HR HZ hT1 hb1
  go_wp2_with fail
  generalize hW1 : World.alloc w1 _ = W1 at HT HBl ⊢
  go_loopw [28] (fun i wr => ∃ j : Nat, j ≤ 2 ∧ i = .int .i64 j ∧ Below W1.heap.size W1 wr) (fun i _ => 2 - (intOf i).toNat)
  case atStart => exact ⟨0, by omega, rfl, Below.refl _ _⟩
  case round =>
    obtain ⟨j, hj, rfl, hbo⟩ := hrel
    by_cases hlt : j < 2
    · have hj3 : (j : Int) < 2 := by omega
      obtain ⟨x, b, hxc, hx, hll⟩ := (HT.out.under hbo) j hlt
      have HX := Lib.hid hx
      have HLL := Lib.hid hll
      clear hx hll
      go_wp2_with fail
      refine (split_any x b wr HX.out HLL.out).mono ?_
      rintro e w4 ⟨ht, hb4⟩
      obtain ⟨va, LL, ka, la, ca, rfl, hra, hqa⟩ := ht.rd
      have HQA := Lib.hid hqa
      have HB5 := Lib.hid (hbo.trans (hb4.mono hbo.size))
      have HX4 := Lib.hid (HX.out.under hb4)
      have HRA := Lib.hid hra
      clear ht hqa hb4 hbo hra
      obtain ⟨Av, cv, rfl⟩ := HRA.out.parts
      obtain ⟨_, _, Ax, cx, rfl, hcx, _⟩ := HX4.out.parts
      obtain ⟨n, hn⟩ : ∃ n, b.length = n := ⟨_, rfl⟩
      obtain ⟨m, hm⟩ : ∃ m, LL.length = m := ⟨_, rfl⟩
      rw [hn] at HX4 hcx ⊢
      have HRS := Lib.hid HRA.out.small
      rw [hm] at HRA HRS ⊢
      have HN := Lib.hid hn
      have HM := Lib.hid hm
      have hn6 : n ≤ 1000000 := by rw [← hn]; exact HLL.out
      have hm6 : m ≤ maxLen := HRS.out
      unfold maxLen at hm6
      clear hn hm HX hxc
      by_cases hk : ka = 0
      · subst hk
        have HPL : Hid ((∃ hi, Ln.Pl b 0 LL.flatten hi ∧ hi ≤ b.length) ∧ ∀ R ∈ LL, Ln.Row R) := Lib.hid (by
          rcases HQA.out with h | h
          · exact Ln.places_is h.1
          · rw [h.2]
            exact ⟨⟨0, Nat.le_refl _, Nat.zero_le _⟩, by simp⟩)
        clear HQA
        go_wp2_with fail
        generalize hW5 : World.alloc w4 _ = W5
        have HB6 : Hid (Below W1.heap.size W1 W5) := Lib.hid (by rw [← hW5]; exact HB5.out.alloc HB5.out.size _)
        have HX5 : Hid (Bytes W5 (.slice Ax n cx) b) := Lib.hid (by rw [← hW5]; exact HX4.out.alloc _)
        have HRA5 : Hid (RdL W5 (.slice Av m cv) LL) := Lib.hid (by rw [← hW5]; exact HRA.out.under ((Below.refl _ _).alloc (Nat.le_refl _) _))
        have hs5 : W5.heap.size = w4.heap.size + 1 := by rw [← hW5]; simp
        have HS5 := Lib.hid hs5
        rw [← hs5]
        clear hW5 HX4 HRA HB5 hs5
        go_loopw [9, 43] (fun fv iv wr => ∃ (k : Nat) (F : List Nat), k ≤ n ∧ iv = .int .i64 (k : Int) ∧ Hid (Fr b k F) ∧ Hid (OwnI wr W5.heap.size fv F) ∧ Hid (Below W5.heap.size W5 wr)) (fun _ iv _ => n - (intOf iv).toNat)
        case atStart => exact ⟨0, [0], Nat.zero_le _, rfl, Lib.hid (fr_start b), Lib.hid (ownI_one W5 _ 0 (Nat.le_refl _)), Lib.hid ((Below.refl _ _).alloc (Nat.le_refl _) _)⟩
        case round =>
          obtain ⟨k, F, hkn, rfl, hF, hO, hbl⟩ := hrel
          by_cases hlt : k < n
          · have hkI : (k : Int) < (n : Int) := by omega
            have hX := HX5.out.under hbl.out
            obtain ⟨_, _, A', c', hAe, _, hcell⟩ := hX.parts
            injection hAe with e1 e2 e3
            obtain ⟨bb, off, e4, hcl⟩ := hcell (by rw [HN.out]; omega)
            rw [← e1] at e4
            subst e4
            have hck := hcl k (by rw [HN.out]; exact hlt)
            clear hcell hcl e1 e2 e3
            obtain ⟨z, hz⟩ : ∃ z, b.getD k 0 = z := ⟨_, rfl⟩
            rw [hz] at hck
            have HZ := Lib.hid hz
            have HKL : Hid (k < b.length) := Lib.hid (by rw [HN.out]; exact hlt)
            clear hz hX
            by_cases h10 : z = 10
            · subst h10
              have HF2 := Lib.hid (hF.out.nl HKL.out HZ.out)
              have HFS := Lib.hid hF.out.small
              clear hF
              go_wp2_with (at_builtin; refine wpList_append_int rfl _ _ rfl W5.heap.size _ F _ (k + 1) rfl hO.out rfl rfl _ (by have := HFS.out; have := HN.out; omega) hbl.out.size _ rfl ?_)
              rintro f' w6 ⟨hO2, -, hb2⟩
              have HO2 := Lib.hid hO2
              have HB2 := Lib.hid ((hbl.out.alloc hbl.out.size _).trans hb2)
              clear hO2 hb2 hO hbl hck
              go_wp2
              go_roundw
              case rel => exact ⟨k + 1, F ++ [k + 1], hlt, by go_num, HF2, HO2, HB2⟩
              case measure => simp [intOf]; omega
            · have b10 : ((z : Int) == 10) = false := by simp; omega
              have HF2 := Lib.hid (hF.out.on HKL.out (by rw [HZ.out]; exact h10))
              clear hF h10
              go_wp2
              go_roundw
              case rel => exact ⟨k + 1, F, hlt, by go_num, HF2, hO, hbl⟩
              case measure => simp [intOf]; omega
          · obtain rfl : k = n := by omega
            obtain ⟨W6, rfl⟩ : ∃ wx : World, wx = wr := ⟨_, rfl⟩
            have HX6 := Lib.hid (HX5.out.under hbl.out)
            have HRA6 := Lib.hid (HRA5.out.under hbl.out)
            obtain ⟨Af, cf, hfe, hcf⟩ := hO.out.parts
            subst hfe
            obtain ⟨fl, hfl⟩ : ∃ fl, F.length = fl := ⟨_, rfl⟩
            rw [hfl] at hO hcf ⊢
            have HFL := Lib.hid hfl
            have HSB : Hid (Below W1.heap.size W1 W6) := Lib.hid (HB6.out.trans (hbl.out.mono HB6.out.size))
            obtain ⟨⟨hi, hpl, hhi⟩, hrows⟩ := HPL.out
            have HROW := Lib.hid hrows
            have HHI := Lib.hid hhi
            have HP0 := Lib.hid hpl
            clear hbl hfl hpl hhi hrows HPL HX5 HRA5
            go_wp2_with fail
            go_loopw [12, 58] (fun lv iv wr => ∃ (i lo : Nat) (l : Int), i ≤ m ∧ iv = .int .i64 (i : Int) ∧ lv = .int .i64 l ∧ l + 1 = (lo : Int) ∧ Hid (Ln.Pl b lo (LL.drop i).flatten hi) ∧ Hid (Below W6.heap.size W6 wr)) (fun _ iv _ => m - (intOf iv).toNat)
            case atStart => exact ⟨0, 0, -1, Nat.zero_le _, rfl, rfl, rfl, HP0, Lib.hid (Below.refl _ _)⟩
            case round =>
              obtain ⟨i, lo, l, him, rfl, rfl, hlo, hpl, hbl⟩ := hrel
              by_cases hlt2 : i < m
              · have hiI : (i : Int) < (m : Int) := by omega
                obtain ⟨b1, o1, u1, hAv, hu1, hrd⟩ := (HRA6.out.under hbl.out).at i (by rw [HM.out]; exact hlt2)
                subst hAv
                obtain ⟨Rw, hRw⟩ : ∃ Rw, LL[i]'(by rw [HM.out]; exact hlt2) = Rw := ⟨_, rfl⟩
                rw [hRw] at hrd
                have HRow : Hid (Ln.Row Rw) := Lib.hid (by rw [← hRw]; exact HROW.out _ (List.getElem_mem _))
                have HPL2 : Hid (Ln.Pl b lo (Rw ++ (LL.drop (i + 1)).flatten) hi) := Lib.hid (by
                  have := hpl.out
                  rwa [List.drop_eq_getElem_cons (by rw [HM.out]; exact hlt2), List.flatten_cons, hRw] at this)
                clear hRw hpl
                obtain ⟨B1, d1, rfl, hd1⟩ := hrd.parts
                obtain ⟨M, hMM⟩ : ∃ M, Rw.length = M := ⟨_, rfl⟩
                rw [hMM] at hrd hd1 hu1
                have HMM := Lib.hid hMM
                have hM0 : 0 < M := by
                  have := HRow.out.1
                  rcases Rw with _ | ⟨x, r⟩
                  · exact absurd rfl this
                  · rw [← hMM]; simp
                have hM6 : M ≤ maxLen := by rw [← hMM]; exact hrd.small
                unfold maxLen at hM6
                have HRD := Lib.hid hrd
                have bM : ((M : Int) == 0) = false := by simp; omega
                obtain ⟨W7, rfl⟩ : ∃ wx : World, wx = wr := ⟨_, rfl⟩
                have HLO := Lib.hid hlo
                clear hMM hrd hlo
                go_wp2_with fail
                go_loopw [12, 67] (fun lv kv wr => ∃ (q lo : Nat) (l : Int), q ≤ M ∧ kv = .int .i64 (q : Int) ∧ lv = .int .i64 l ∧ Hid (l + 1 = (lo : Int)) ∧ Hid (Ln.Pl b lo (Rw.drop q ++ (LL.drop (i + 1)).flatten) hi) ∧ Hid (Below W7.heap.size W7 wr)) (fun _ kv _ => M - (intOf kv).toNat)
                case atStart => exact ⟨0, lo, l, Nat.zero_le _, rfl, rfl, HLO, HPL2, Lib.hid (Below.refl _ _)⟩
                case round =>
                  obtain ⟨q, lo', l', hqM, rfl, rfl, hlo', hpl', hbl'⟩ := hrel
                  by_cases hq : q < M
                  · have hqI : (q : Int) < (M : Int) := by omega
                    obtain ⟨bw, ow, rfl, a0, a1, a2, a3⟩ := (HRD.out.under hbl'.out).at q (by rw [HMM.out]; exact hq)
                    obtain ⟨bw', ow', e0, -, z1, -, -⟩ := (HRD.out.under hbl'.out).at 0 (by rw [HMM.out]; exact hM0)
                    cases e0
                    obtain ⟨ln, hln⟩ := HRow.out.2
                    rw [hln _ (List.getElem_mem _)] at a1 z1
                    have hpx := hpl'.out
                    rw [List.drop_eq_getElem_cons (by rw [HMM.out]; exact hq), List.cons_append] at hpx
                    obtain ⟨xx, hxx⟩ : ∃ xx, Rw[q]'(by rw [HMM.out]; exact hq) = xx := ⟨_, rfl⟩
                    rw [hxx] at a0 a2 a3 hpx
                    have hxl : xx.line = ln := by rw [← hxx]; exact hln _ (List.getElem_mem _)
                    obtain ⟨T, xl, cl, xq⟩ := xx
                    obtain ⟨fr, p1, p2, p3, p4, p5, p6, p7⟩ := hpx
                    change xl = ln at hxl
                    change Ln.Start b xl fr at p1
                    subst hxl
                    obtain ⟨f1, f2, f3⟩ := hF.out.2 xl fr p1 (by have := p1.1; rw [HN.out] at this; exact this)
                    obtain ⟨l1, hl1⟩ : ∃ l1 : Nat, (xl : Int) - 1 = (l1 : Int) := ⟨xl - 1, by omega⟩
                    obtain ⟨at_, hat⟩ : ∃ a : Nat, fr + cl - 1 = a := ⟨_, rfl⟩
                    obtain ⟨s1, hs1⟩ : ∃ s1 : Nat, (fr : Int) + (cl : Int) = (s1 : Int) := ⟨fr + cl, by omega⟩
                    change 1 ≤ cl at p2
                    change lo' ≤ fr + cl - 1 at p3
                    change fr + cl - 1 + (Ln.own T xq).length ≤ b.length at p4
                    change 1 ≤ (Ln.own T xq).length at p5
                    change (b.drop (fr + cl - 1)).take (Ln.own T xq).length = Ln.own T xq at p6
                    change Ln.Pl b (fr + cl - 1 + (Ln.own T xq).length) (Rw.drop (q + 1) ++ (LL.drop (i + 1)).flatten) hi at p7
                    rw [hat] at p3 p4 p6 p7
                    obtain ⟨OW, hOW⟩ : ∃ OW, Ln.own T xq = OW := ⟨_, rfl⟩
                    rw [hOW] at p4 p5 p6 p7
                    obtain ⟨ol, hol⟩ : ∃ ol, OW.length = ol := ⟨_, rfl⟩
                    rw [hol] at p4 p5 p6 p7
                    rw [HN.out] at p4
                    have hs2 : (s1 : Int) - 1 = (at_ : Int) := by omega
                    have hs3 : s1 ≤ 1000001 := by omega
                    have hfl6 : fl ≤ 1000001 := by have := hF.out.small; have := HFL.out; have := HN.out; omega
                    have h1fl : xl ≤ fl := by rw [← HFL.out]; exact f2
                    have hl16 : l1 ≤ 1000001 := by omega
                    have hl1f : (l1 : Int) < (fl : Int) := by omega
                    have hl10 : (0 : Int) ≤ (l1 : Int) := by omega
                    obtain ⟨gf, hgf, hfc⟩ := hO.out.cell (k := l1) (by rw [HFL.out]; omega)
                    subst hgf
                    rw [show F.getD l1 0 = fr from by rw [← f3, show l1 = xl - 1 from by omega]] at hfc
                    have hfc2 := cell_later hbl'.out (cell_later hbl.out hfc)
                    have HOW := Lib.hid hOW
                    have HOL := Lib.hid hol
                    have HP7 := Lib.hid p7
                    have HP6 := Lib.hid p6
                    have HP4 := Lib.hid p4
                    have HP3 := Lib.hid p3
                    have d2 : decide ((xl : Int) < 1) = false := by simp; omega
                    have d3 : decide ((fl : Int) < (xl : Int)) = false := by simp; omega
                    have d4 : decide ((cl : Int) < 1) = false := by simp; omega
                    have old : ∀ {a : Addr} {v : Value}, wr.cell? a = some v → ∀ o, (wr.alloc o).cell? a = some v := fun {a v} h o => (World.cell?_alloc_lt wr o a (World.block_lt_of_cell? _ _ h)).trans h
                    have z1' := old (show wr.cell? ⟨bw, ow + 1, none⟩ = some (.int .i64 (xl : Int)) from by simpa using z1)
                    have hfc3 := old (show wr.cell? ⟨gf, l1, none⟩ = some (.int .i64 (fr : Int)) from by simpa using hfc2)
                    have HL1 := Lib.hid hl1
                    have HS1 := Lib.hid hs1
                    have HS2 := Lib.hid hs2
                    have HX8 := Lib.hid (HX6.out.under (hbl.out.trans (hbl'.out.mono hbl.out.size)))
                    clear hln hxx p1 p2 f3 hOW hol p7 p6 hfc hfc2 z1 old hat hl1 hs1 hs2
                    go_wp2_with fail
                    go_quiet (fail)
                    have hl1 := HL1.out
                    have hs1 := HS1.out
                    have hs2 := HS2.out
                    go_wp2_with fail
                    go_quiet (fail)
                    generalize hW10 : World.drewN _ _ = W10
                    have hB10 : Blk W10 wr.heap.size 34 #[.string (str T), .int .i64 (xl : Int), .int .i64 (cl : Int), .bool xq] := by rw [← hW10]; exact heap_alloc_new wr _
                    have HB10 : Hid (Below W7.heap.size W7 W10) := Lib.hid (by
                      rw [← hW10]
                      have := hbl'.out.alloc hbl'.out.size (.cells #[.string (str T), .int .i64 (xl : Int), .int .i64 (cl : Int), .bool xq] 34)
                      exact ⟨this.1, this.2, this.3, this.4, this.5⟩)
                    have hX10 : Bytes W10 (.slice Ax k cx) b := by rw [← hW10]; exact (HX8.out.alloc _).heap rfl
                    have w0 : W10.cell? ⟨wr.heap.size, 0, none⟩ = some (.string (str T)) := hB10.at 0
                    have w3 : W10.cell? ⟨wr.heap.size, 3, none⟩ = some (.bool xq) := hB10.at 3
                    obtain ⟨e1, he1⟩ : ∃ e1 : Nat, (at_ : Int) + (ol : Int) = (e1 : Int) := ⟨at_ + ol, by omega⟩
                    have HE1 : Hid (at_ + ol = e1) := Lib.hid (by omega)
                    obtain ⟨_, _, A9, c9, hA9, _, hcl9⟩ := hX10.parts
                    injection hA9 with y1 y2 y3
                    obtain ⟨bx, ox, y4, -⟩ := hcl9 (by rw [HN.out]; omega)
                    rw [← y1] at y4
                    subst y4
                    clear hcl9 y1 y2 y3
                    have he1k : e1 ≤ k := by omega
                    have hs10 := (hX10.head (k := e1) he1k (by omega)).tail (k := at_) (d := cx - at_) (A' := some ⟨bx, ox + at_, none⟩) (by omega) (by omega) (fun _ b0 o0 e => by cases e; rfl)
                    rw [List.drop_take, show e1 - at_ = ol from by omega, HP6.out] at hs10
                    rw [show ol = e1 - at_ from by omega] at hs10
                    have hcv := run_text hs10
                    have hsz : (str OW).size = ol := by rw [str_size, HOL.out]
                    have hlp : ¬ (at_ : Int) ≤ l' := by have := hlo'.out; omega
                    have hek : ¬ (k : Int) < (e1 : Int) := by omega
                    have hat0 : (0 : Int) ≤ (at_ : Int) := by omega
                    have hate : (at_ : Int) ≤ (e1 : Int) := by omega
                    have hec : (e1 : Int) ≤ (cx : Int) := by omega
                    have hne : ¬ cx = at_ := by omega
                    have he6 : e1 ≤ 1000001 := by omega
                    clear hs10 hX10 hB10 hW10 hl1 hs1 hs2 d2 d3 d4 z1' hfc3 a0 a1 a2 a3 hs3 hl16 hl1f hl10 f1 f2 p3
                    rcases xq with _ | _
                    · have hTO : T = OW := HOW.out
                      rw [hTO] at w0
                      clear hTO
                      go_wp2
                      go_roundw
                      case rel => exact ⟨q + 1, e1, (e1 : Int) - 1, hq, by go_num, rfl, Lib.hid (by omega), Lib.hid (by rw [← HE1.out]; exact HP7.out), HB10⟩
                      case measure => simp [intOf]; omega
                    · have hTL : T.length + 2 = ol := by rw [← HOL.out, ← HOW.out, Ln.own_len]; rfl
                      have hf1 := str_fits (l := [34]) (m := T) (by simp; omega)
                      have hf2 := str_fits (l := 34 :: T) (m := [34]) (by simp; omega)
                      have ha1 : ({ data := #[34] } : ByteArray) ++ str T = str (34 :: T) := str_add [34] T
                      have ha2 : str (34 :: T) ++ { data := #[34] } = str OW := by rw [← HOW.out]; exact str_add (34 :: T) [34]
                      clear hTL
                      go_wp2
                      go_roundw
                      case rel => exact ⟨q + 1, e1, (e1 : Int) - 1, hq, by go_num, rfl, Lib.hid (by omega), Lib.hid (by rw [← HE1.out]; exact HP7.out), HB10⟩
                      case measure => simp [intOf]; omega
                  · obtain rfl : q = M := by omega
                    go_wp2
                    go_roundw
                    case rel =>
                      refine ⟨i + 1, lo', l', hlt2, by go_num, rfl, hlo'.out, Lib.hid ?_, Lib.hid (hbl.out.trans (hbl'.out.mono hbl.out.size))⟩
                      have := hpl'.out
                      rwa [List.drop_of_length_le (by rw [HMM.out]; exact Nat.le_refl _), List.nil_append] at this
                    case measure => simp [intOf]; omega
              · obtain rfl : i = m := by omega
                go_wp2
                go_roundw
                case rel => exact ⟨j + 1, by omega, by go_num, HSB.out.trans (hbl.out.mono HSB.out.size)⟩
                case measure => simp [intOf]; omega
      · have hk0 : ((ka : Int) != 0) = true := by simp; omega
        clear hk
        go_wp2
        go_roundw
        case rel => exact ⟨j + 1, by omega, by go_num, HB5.out.alloc HB5.out.size _⟩
        case measure => simp [intOf]; omega
    · obtain rfl : j = 2 := by omega
      go_wp2_with fail
      refine (awake_any _).mono ?_
      rintro e w4 ⟨rfl, hb4⟩
      have hb5 := hbo.trans (hb4.mono hbo.size)
      go_wp2
      go_ret
      exact ⟨rfl, HBl.out.trans (hb5.mono HBl.out.size)⟩
theorem places_any (v0 v1 : Value) (raw : List Nat) (zs : List Int) (w : World) (hr : Bytes w v0 raw) (hz : Ints w v1 zs) :
    Calls Try.prog 3 #[v0, v1] w fun e w' => e = .returned (.bool true) ∧ Below w.heap.size w w' := by
  rcases Nat.lt_or_ge 300 raw.length with h | h
  · exact places_long v0 v1 raw w hr h
  · exact places_short v0 v1 raw zs w hr hz h
end Go.Proofs.Ytpebkdmoloiecaa
