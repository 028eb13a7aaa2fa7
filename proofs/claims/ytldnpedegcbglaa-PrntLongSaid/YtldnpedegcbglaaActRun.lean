/- What package acts makes of an action and its inputs. -/
import Derived.Test.YtldnpedegcbglaaActChange
import Derived.Test.YtldnpedegcbglaaActProgOk
namespace Go.Proofs.Ytldnpedegcbglaa
set_option maxRecDepth 100000
open Go.ChangeShapes Go.WideShapes Go.ChangeAt Go.RowKit

theorem step_later {ins : List (List Nat)} {d : Ac.D} {b : List Nat} (h : 4 ≤ d.kind) : stepD ins d b = stepD [] d b := by
  obtain ⟨k, n, t⟩ := d
  change 4 ≤ k at h
  unfold stepD
  congr 1
  match k, h with
  | 4, _ => rfl
  | 5, _ => rfl
  | 6, _ => rfl
  | 7, _ => rfl
  | 8, _ => rfl
  | 9, _ => rfl
  | 10, _ => rfl
  | 11, _ => rfl
  | k + 12, _ => rfl
def onGo (ins : List (List Nat)) (r : List Ac.D) : Option (List Nat) → Option (List Nat)
  | none => none
  | some x => Ac.go ins r x
theorem go_on (ins : List (List Nat)) (d : Ac.D) (r : List Ac.D) (b : List Nat) : Ac.go ins (d :: r) b = onGo ins r (stepD ins d b) := by
  rw [go_step]
  rcases stepD ins d b with _ | x <;> rfl
theorem step_few {ins : List (List Nat)} {d : Ac.D} {b z : List Nat} (h : stepD ins d b = some z) : z.length ≤ 256 := by
  have hf : ∀ x : List Nat, few x = some z → z.length ≤ 256 := fun x h => by
    unfold few at h
    split at h
    · rename_i hx
      injection h with h
      rw [← h]
      exact hx
    · cases h
  unfold stepD at h
  split at h
  · cases h
  · exact hf _ h
theorem ok_first {L : List Ac.D} (h : Ac.ok L = true) (h0 : 0 < L.length) : (L[0]'h0).kind = 1 ∨ (L[0]'h0).kind = 2 ∨ (L[0]'h0).kind = 3 := by
  cases L with
  | nil => cases h
  | cons d r =>
    unfold Ac.ok Ac.okD Ac.isFirst at h
    simp at h
    obtain ⟨⟨⟨⟨⟨⟨_, h1⟩, _⟩, _⟩, _⟩, _⟩, _⟩ := h
    show d.kind = 1 ∨ d.kind = 2 ∨ d.kind = 3
    omega
theorem ok_later {L : List Ac.D} (h : Ac.ok L = true) (i : Nat) (hi : i < L.length) (h0 : 0 < i) : 4 ≤ (L[i]'hi).kind ∧ (L[i]'hi).kind ≤ 11 := by
  cases L with
  | nil => cases h
  | cons d r =>
    obtain ⟨j, rfl⟩ : ∃ j, i = j + 1 := ⟨i - 1, by omega⟩
    rw [List.getElem_cons_succ]
    unfold Ac.ok at h
    rw [Bool.and_eq_true, Bool.and_eq_true] at h
    have hd := List.all_eq_true.1 h.1.2 _ (List.getElem_mem (by simpa using hi))
    unfold Ac.okD Ac.isFirst at hd
    simp at hd
    omega
set_option maxRecDepth 100000 in
set_option maxHeartbeats 8000000 in
theorem run_any (v vi : Value) (L : List Ac.D) (ins : List (List Nat)) (w : World) (hv : RdD w v L) (hi : Rows2 w vi ins) (hL : ins.length ≤ 1000000) (hx : ∀ x ∈ ins, x.length ≤ 1000000) (ht : ∀ d ∈ L, d.kind ≤ 1000000 ∧ (∀ c ∈ d.text, c < 256) ∧ d.text.length ≤ 1099511627776) (T : Option (List Nat)) (hT : T = Ac.run L ins) :
    Calls Try.prog 29 #[v, vi] w fun e w' => CameIs w.heap.size w e w' T := by
  have HV := Lib.hid hv
  have HI := Lib.hid hi
  have HX := Lib.hid hx
  have HL := Lib.hid hL
  have HOK : Hid (∀ W, Below w.heap.size w W → Calls Try.prog 40 #[v] W fun e w' => e = .returned (.bool (Ac.ok L)) ∧ Below W.heap.size W w') := Lib.hid (fun W hb => by
    have := okact_any v (L.map Ac.D.e) W (hv.under hb).e (fun d hd => by
      obtain ⟨d', hd', rfl⟩ := List.mem_map.1 hd
      exact ht d' hd')
    rw [Ac.okL_map] at this
    exact this)
  have HT : Hid (T = if Ac.ok L then Ac.go ins L [] else none) := Lib.hid hT
  obtain ⟨A, c, rfl, hc, hm, _⟩ := hv
  obtain ⟨_, Ai, ci, rfl, hci, _⟩ := hi
  obtain ⟨n, hn⟩ : ∃ n, L.length = n := ⟨_, rfl⟩
  obtain ⟨ni, hni⟩ : ∃ n, ins.length = n := ⟨_, rfl⟩
  rw [hn] at hc hm HV HOK ⊢
  rw [hni] at hci HI HL ⊢
  have HN := Lib.hid hn
  have HNI := Lib.hid hni
  clear hn hni hT ht hm hx hL
  rcases hok : Ac.ok L with _ | _
  · rw [hok] at HOK HT
    have HT2 : Hid (T = none) := Lib.hid HT.out
    clear hok
    go_enter Try.func29, Try.ntmps29
    go_wp2_with fail
    refine (HOK.out _ (Below.refl _ _)).mono ?_
    rintro e w2 ⟨rfl, hb2⟩
    have HB2 := Lib.hid hb2
    clear hb2
    go_wp2
    go_ret2
    exact came_none HT2.out rfl HB2.out
  · rw [hok] at HOK HT
    have hsm := Ac.ok_small hok
    have h1n : 1 ≤ n := by have := hsm.1; have := HN.out; omega
    have h8n : n ≤ 8 := by have := hsm.2.1; have := HN.out; omega
    have HSM := Lib.hid hsm.2.2
    have HLAT : Hid (∀ i (hi : i < L.length), 0 < i → 4 ≤ (L[i]'hi).kind ∧ (L[i]'hi).kind ≤ 11) := Lib.hid (ok_later hok)
    have h0L : 0 < L.length := by rw [HN.out]; omega
    have HFST := Lib.hid (ok_first hok h0L)
    have HTS : Hid (T = onGo ins (L.drop 1) (stepD ins (L[0]'h0L) [])) := Lib.hid (by
      rw [HT.out, if_pos rfl, ← go_on]
      congr 1
      rw [← List.drop_eq_getElem_cons h0L]
      rfl)
    have HSM0 := Lib.hid (HSM.out _ (List.getElem_mem h0L))
    have h1I : ¬ (n : Int) < 1 := by omega
    clear hsm hok
    go_enter Try.func29, Try.ntmps29
    go_wp2_with fail
    refine (HOK.out _ (Below.refl _ _)).mono ?_
    rintro e w2 ⟨rfl, hb2⟩
    obtain ⟨b, off, rfl, p0, p1, p2⟩ := (HV.out.under hb2).at 0 h0L
    rw [show off + 0 * 3 = off from by omega] at p0 p1 p2
    have HB2 := Lib.hid hb2
    have HI2 := Lib.hid (HI.out.under hb2)
    obtain ⟨x, hx⟩ : ∃ x, L[0]'h0L = x := ⟨_, rfl⟩
    rw [hx] at p0 p1 p2 HFST HTS HSM0
    have h0n : 0 < n := h1n
    clear hb2 hx h0L
    have HBG : Hid (∀ K, K = stepD ins x [] → Calls Try.prog 42 #[.agg (cellsD x).toArray, .slice Ai ni ci] w2 fun e w' => CameIs w2.heap.size w2 e w' K) := Lib.hid (fun K hK => begin_any x _ ins w2 HI2.out (by rw [HNI.out]; exact HL.out) HX.out ⟨HSM0.out.2.2.2.2, HSM0.out.2.2.2.1⟩ HFST.out (by have := HSM0.out.2.2.1; omega) K hK)
    obtain ⟨K, hK⟩ : ∃ K, K = stepD ins x [] := ⟨_, rfl⟩
    have HBK := Lib.hid (HBG.out K hK)
    have HKF : Hid (∀ z, K = some z → z.length ≤ 256) := Lib.hid (fun z hz => step_few (hK.symm.trans hz))
    rw [← hK] at HTS
    clear hK HBG
    obtain ⟨xk, xn, xt⟩ := x
    change w2.cell? ⟨b, off, none⟩ = some (.int .i64 (xk : Int)) at p0
    change w2.cell? ⟨b, off + 1, none⟩ = some (.int .i64 (xn : Int)) at p1
    change w2.cell? ⟨b, off + 2, none⟩ = some (.string (str xt)) at p2
    rw [show (cellsD ⟨xk, xn, xt⟩).toArray = #[.int .i64 (xk : Int), .int .i64 (xn : Int), .string (str xt)] from rfl] at HBK
    go_wp2_with fail
    refine HBK.out.mono ?_
    intro e w3 hcame
    rcases K with _ | b0
    · obtain ⟨rfl, hb3⟩ := hcame
      have HT2 : Hid (T = none) := Lib.hid HTS.out
      have HB3 := Lib.hid (HB2.out.trans (hb3.mono HB2.out.size))
      clear hb3
      go_wp2_with fail
      refine wp_loop_rounds 1 ?_
      rw [rounds_succ]
      go_wp2
      go_ret2
      exact came_none HT2.out rfl HB3.out
    · obtain ⟨⟨u, rfl, hu⟩, hb3⟩ := hcame
      have HT2 : Hid (T = Ac.go ins (L.drop 1) b0) := Lib.hid HTS.out
      have HB3 := Lib.hid (HB2.out.trans (hb3.mono HB2.out.size))
      have HU := Lib.hid (hu.more (base' := w.heap.size) HB2.out.size)
      have HB0 := Lib.hid (HKF.out b0 rfl)
      clear hb3 hu
      go_wp2_with fail
      go_loopw [6, 7, 8] (fun vv ov iv wr => ∃ i : Nat, 1 ≤ i ∧ i ≤ n ∧ iv = .int .i64 (i : Int) ∧ Hid (Below w.heap.size w wr) ∧ ((∃ y, ov = .bool true ∧ Hid (Mine wr w.heap.size vv y ∧ y.length ≤ 256 ∧ T = Ac.go ins (L.drop i) y)) ∨ (ov = .bool false ∧ Hid (T = none)))) (fun _ _ iv _ => n - (intOf iv).toNat)
      case atStart => exact ⟨1, by omega, by omega, rfl, HB3, .inl ⟨b0, rfl, Lib.hid ⟨HU.out, HB0.out, HT2.out⟩⟩⟩
      case round =>
        obtain ⟨i, hi1, hin, rfl, hbl, ⟨y, rfl, hM⟩ | ⟨rfl, hTN⟩⟩ := hrel
        · by_cases hlt : i < n
          · have hiI : (i : Int) < (n : Int) := by omega
            have hiL : i < L.length := by rw [HN.out]; exact hlt
            obtain ⟨b', off', e, q0, q1, q2⟩ := (HV.out.under hbl.out).at i hiL
            cases e
            have HSI := Lib.hid (HSM.out _ (List.getElem_mem hiL))
            have HKI := Lib.hid (HLAT.out i hiL (by omega))
            have HGO : Hid (T = onGo ins (L.drop (i + 1)) (stepD [] (L[i]'hiL) y)) := Lib.hid (by
              rw [hM.out.2.2, List.drop_eq_getElem_cons hiL, go_on, step_later HKI.out.1])
            obtain ⟨x, hx⟩ : ∃ x, L[i]'hiL = x := ⟨_, rfl⟩
            rw [hx] at q0 q1 q2 HSI HKI HGO
            clear hx hiL
            obtain ⟨K, hK⟩ : ∃ K, K = stepD [] x y := ⟨_, rfl⟩
            have HCH := Lib.hid (change_any w.heap.size x _ y wr hM.out.1 hbl.out.size hM.out.2.1 ⟨HSI.out.2.2.2.2, HSI.out.2.2.2.1⟩ HKI.out (by have := HSI.out.2.2.1; omega) K hK)
            have HKL : Hid (∀ z, K = some z → z.length ≤ 256) := Lib.hid (fun z hz => step_few (hK.symm.trans hz))
            rw [← hK] at HGO
            clear hK HSI HKI
            obtain ⟨xk, xn, xt⟩ := x
            change wr.cell? ⟨b, off + i * 3, none⟩ = some (.int .i64 (xk : Int)) at q0
            change wr.cell? ⟨b, off + i * 3 + 1, none⟩ = some (.int .i64 (xn : Int)) at q1
            change wr.cell? ⟨b, off + i * 3 + 2, none⟩ = some (.string (str xt)) at q2
            rw [show (cellsD ⟨xk, xn, xt⟩).toArray = #[.int .i64 (xk : Int), .int .i64 (xn : Int), .string (str xt)] from rfl] at HCH
            go_wp2_with fail
            refine HCH.out.mono ?_
            intro e w4 hch
            rcases K with _ | z
            · obtain ⟨⟨u2, rfl⟩, hb4⟩ := hch
              have HT3 : Hid (T = none) := Lib.hid HGO.out
              have HB4 := Lib.hid (hbl.out.trans hb4)
              clear hb4 q0 q1 q2
              go_wp2
              go_roundw
              case rel => exact ⟨i + 1, by omega, by omega, by go_num, HB4, .inr ⟨rfl, HT3⟩⟩
              case measure => simp [intOf]; omega
            · obtain ⟨⟨u2, rfl, hm4⟩, hb4⟩ := hch
              have HT3 : Hid (T = Ac.go ins (L.drop (i + 1)) z) := Lib.hid HGO.out
              have HB4 := Lib.hid (hbl.out.trans hb4)
              have HM4 := Lib.hid hm4
              clear hb4 hm4 q0 q1 q2
              go_wp2
              go_roundw
              case rel => exact ⟨i + 1, by omega, by omega, by go_num, HB4, .inl ⟨z, rfl, Lib.hid ⟨HM4.out, HKL.out z rfl, HT3.out⟩⟩⟩
              case measure => simp [intOf]; omega
          · obtain rfl : i = n := by omega
            have HT3 : Hid (T = some y) := Lib.hid (by
              rw [hM.out.2.2, List.drop_of_length_le (by rw [HN.out]; exact Nat.le_refl _)]
              rfl)
            have HM3 := Lib.hid hM.out.1
            clear hM
            go_wp2
            go_ret2
            exact came_some HT3.out _ rfl HM3.out hbl.out
        · go_wp2
          go_ret2
          exact came_none hTN.out rfl hbl.out
end Go.Proofs.Ytldnpedegcbglaa
