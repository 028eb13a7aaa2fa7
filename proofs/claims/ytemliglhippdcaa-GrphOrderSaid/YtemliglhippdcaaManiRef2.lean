/- The document's own answer for manifests: its parser: names behind a fault; a sign that must stand. -/
import Derived.Test.YtemliglhippdcaaManiRef
namespace Go.Proofs.Ytemliglhippdcaa
set_option maxRecDepth 100000
open Go.ChangeShapes Go.WideShapes Go.ChangeAt Go.RowKit

set_option maxRecDepth 100000 in
set_option maxHeartbeats 4000000 in
/-- Behind a fault no name is taken. -/
theorem refnames_bad (g : Nat) (i most : Nat) (rule : Bool) (sa sb : ByteArray) (v : Value) (L : List Ln.W) (rv dv lv fv : Value) (e : Mn.F) (w : World) (h : Pb w g rv dv lv fv e) (h0 : e.k ≠ 0) (hv : RdW w v L) :
    Calls Try.prog 55 #[.pointer (some ⟨g, 0, none⟩), v, .int .i64 (i : Int), .int .i64 (most : Int), .bool rule, .string sa, .string sb] w fun en w' => en = .returned (.tuple #[.slice none 0 0, .int .i64 (i : Int)]) ∧ w = w' := by
  have p4 := h.at 4
  change w.cell? ⟨g, 4, none⟩ = some (.int .i64 (e.k : Int)) at p4
  have hk0I : ((e.k : Int) == 0) = false := by simp; omega
  obtain ⟨A, c, rfl, hc⟩ := hv.parts2
  obtain ⟨n, hn⟩ : ∃ n, L.length = n := ⟨_, rfl⟩
  rw [hn]
  clear h h0 hv hn hc
  go_enter Try.func55, Try.ntmps55
  go_wp2_with fail
  go_loopg [2, 16] 0 (fun gg iv ov wr => iv = .int .i64 (i : Int) ∧ ov = .slice none 0 0 ∧ w = wr)
  case atStart => exact ⟨rfl, rfl, rfl⟩
  case round =>
    obtain ⟨rfl, rfl, rfl⟩ := hrel
    by_cases hlt : i < n
    · have hltI : (i : Int) < (n : Int) := by omega
      go_wp2_with fail
      go_ret2
      exact ⟨rfl, rfl⟩
    · have hltI : ¬ (i : Int) < (n : Int) := by omega
      go_wp2_with fail
      go_ret2
      exact ⟨rfl, rfl⟩
/-- What is wrong behind a sign that must stand. -/
def needF (s : List Nat) (L : List Ln.W) (i : Nat) (e : Mn.F) : Mn.F :=
  if h : i < L.length then (if Mn.isW s (L[i]'h) then e else fstF e (Mn.fw 4 (L[i]'h))) else fstF e (Mn.fw 4 (L.headD ⟨[], 0, 0, false⟩))
set_option maxRecDepth 100000 in
set_option maxHeartbeats 4000000 in
theorem refneed_any (g i : Nat) (t : List Nat) (v : Value) (L : List Ln.W) (rv dv lv fv : Value) (e : Mn.F) (w : World) (h : Pb w g rv dv lv fv e) (hv : RdW w v L) (hL : 0 < L.length) (hi : i ≤ 1000000) (ht : ∀ x ∈ L, (∀ c ∈ x.text, c < 256) ∧ x.text.length ≤ 1099511627776) (hs : ∀ c ∈ t, c < 256) :
    Calls Try.prog 68 #[.pointer (some ⟨g, 0, none⟩), v, .int .i64 (i : Int), .string (str t)] w fun en w' => en = .returned (.int .i64 ((i + 1 : Nat) : Int)) ∧ Pb w' g rv dv lv fv (needF t L i e) ∧ w.grownBy w' (some g) := by
  have H := Lib.hid h
  have HV := Lib.hid hv
  have HT := Lib.hid ht
  have HS := Lib.hid hs
  obtain ⟨A, c, rfl, hc⟩ := hv.parts2
  obtain ⟨n, hn⟩ : ∃ n, L.length = n := ⟨_, rfl⟩
  rw [hn] at hL HV ⊢
  have HN := Lib.hid hn
  clear h hv ht hs hc hn
  by_cases hlt : i < n
  · have hltI : ¬ (n : Int) ≤ (i : Int) := by omega
    have hiL : i < L.length := by rw [HN.out]; exact hlt
    obtain ⟨B, off, rfl, a0, a1, a2, a3⟩ := HV.out.at2 i hiL
    have HTX := Lib.hid (HT.out _ (List.getElem_mem hiL))
    have HF : Hid (needF t L i e = if Mn.isW t (L[i]'hiL) then e else fstF e (Mn.fw 4 (L[i]'hiL))) := Lib.hid (by unfold needF; rw [dif_pos hiL])
    obtain ⟨x, hx⟩ : ∃ x, L[i]'hiL = x := ⟨_, rfl⟩
    rw [hx] at a0 a1 a2 a3 HTX HF
    clear hx hiL
    have hiI : (i : Int) < (n : Int) := by omega
    have HIS := Lib.hid (fun W => refis_w t x W HTX.out.1 HS.out)
    obtain ⟨st, hst⟩ : ∃ st, str t = st := ⟨_, rfl⟩
    rw [hst] at HIS ⊢
    have HAT := Lib.hid (fun W (hp : Pb W g rv dv lv fv e) => refat_any g 4 x rv dv lv fv e W hp)
    obtain ⟨xt, xl, xc, xq⟩ := x
    change w.cell? ⟨B, off + i * 4, none⟩ = some (.string (str xt)) at a0
    change w.cell? ⟨B, off + i * 4 + 1, none⟩ = some (.int .i64 (xl : Int)) at a1
    change w.cell? ⟨B, off + i * 4 + 2, none⟩ = some (.int .i64 (xc : Int)) at a2
    change w.cell? ⟨B, off + i * 4 + 3, none⟩ = some (.bool xq) at a3
    rw [show (cellsW ⟨xt, xl, xc, xq⟩).toArray = #[.string (str xt), .int .i64 (xl : Int), .int .i64 (xc : Int), .bool xq] from rfl] at HIS HAT
    clear hst
    go_enter Try.func68, Try.ntmps68
    go_wp2_with fail
    refine (HIS.out _).mono ?_
    rintro en w1 ⟨rfl, hb1⟩
    have b0 := cell_later hb1 a0
    have b1 := cell_later hb1 a1
    have b2 := cell_later hb1 a2
    have b3 := cell_later hb1 a3
    have HP1 := Lib.hid (H.out.under hb1)
    have HB1 := Lib.hid hb1
    clear a0 a1 a2 a3 hb1
    rcases hw : Mn.isW t ⟨xt, xl, xc, xq⟩ with _ | _
    · have HF2 : Hid (needF t L i e = fstF e ⟨4, xl, xc⟩) := Lib.hid (by rw [HF.out, hw]; rfl)
      clear hw
      go_wp2_with fail
      refine (HAT.out _ HP1.out).mono ?_
      rintro en w2 ⟨rfl, hp2, hg2⟩
      have HP2 := Lib.hid hp2
      have HG2 := Lib.hid (grown_on (Below.toGrown HB1.out (some g)) hg2)
      clear hp2 hg2 b0 b1 b2 b3
      go_wp2
      go_ret
      exact ⟨by go_num, by rw [HF2.out]; exact HP2.out, HG2.out⟩
    · have HF2 : Hid (needF t L i e = e) := Lib.hid (by rw [HF.out, hw]; rfl)
      clear hw
      go_wp2
      go_ret
      exact ⟨by go_num, by rw [HF2.out]; exact HP1.out, Below.toGrown HB1.out (some g)⟩
  · have hltI : (n : Int) ≤ (i : Int) := by omega
    have hiL : 0 < L.length := by rw [HN.out]; exact hL
    obtain ⟨B, off, rfl, a0, a1, a2, a3⟩ := HV.out.at2 0 hiL
    have HF : Hid (needF t L i e = fstF e (Mn.fw 4 (L[0]'hiL))) := Lib.hid (by
      unfold needF
      rw [dif_neg (by rw [HN.out]; exact hlt)]
      rcases L with _ | ⟨y, r⟩
      · exact absurd hiL (by simp)
      · rfl)
    obtain ⟨x, hx⟩ : ∃ x, L[0]'hiL = x := ⟨_, rfl⟩
    rw [hx] at a0 a1 a2 a3 HF
    clear hx hiL
    have hnI : (0 : Int) < (n : Int) := by omega
    have HAT := Lib.hid (refat_any g 4 x rv dv lv fv e w H.out)
    obtain ⟨xt, xl, xc, xq⟩ := x
    change w.cell? ⟨B, off + 0 * 4, none⟩ = some (.string (str xt)) at a0
    change w.cell? ⟨B, off + 0 * 4 + 1, none⟩ = some (.int .i64 (xl : Int)) at a1
    change w.cell? ⟨B, off + 0 * 4 + 2, none⟩ = some (.int .i64 (xc : Int)) at a2
    change w.cell? ⟨B, off + 0 * 4 + 3, none⟩ = some (.bool xq) at a3
    rw [Nat.zero_mul, Nat.add_zero] at a0 a1 a2 a3
    rw [show (cellsW ⟨xt, xl, xc, xq⟩).toArray = #[.string (str xt), .int .i64 (xl : Int), .int .i64 (xc : Int), .bool xq] from rfl] at HAT
    go_enter Try.func68, Try.ntmps68
    go_wp2_with fail
    refine HAT.out.mono ?_
    rintro en w2 ⟨rfl, hp2, hg2⟩
    have HP2 := Lib.hid hp2
    have HG2 := Lib.hid hg2
    clear hp2 hg2 a0 a1 a2 a3
    go_wp2
    go_ret
    exact ⟨by go_num, by rw [HF.out]; exact HP2.out, HG2.out⟩
end Go.Proofs.Ytemliglhippdcaa
