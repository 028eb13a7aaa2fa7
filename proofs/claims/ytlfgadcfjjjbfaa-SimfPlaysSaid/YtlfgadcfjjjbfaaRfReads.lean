/- The document's own files: reading one. -/
import Derived.Test.YtlfgadcfjjjbfaaRfFits
import Derived.Test.YtlfgadcfjjjbfaaSimMove
import Derived.Deep.RegionHeld3
namespace Go.Proofs.Ytlfgadcfjjjbfaa
set_option maxRecDepth 100000
open Go.ChangeShapes Go.WideShapes Go.ChangeAt Go.RowKit Go.ChangeMaps
open Sf

theorem own_empty8' (w : World) (base : Nat) (h : base ≤ w.heap.size) : Own (w.alloc (.cells #[] 5)) base (.slice (some ⟨w.heap.size, 0, none⟩) 0 0) [] :=
  ⟨⟨rfl, .inr ⟨w.heap.size, 0, #[], rfl, h, heap_alloc_new w _, Nat.le_refl _, Nat.zero_le _, rfl, rfl⟩⟩, by simp⟩
theorem Own.heap' {w W : World} {base : Nat} {v : Value} {l : List Nat} (h : Own w base v l) (e : W.heap = w.heap) : Own W base v l := by
  refine ⟨?_, h.2⟩
  rcases h.1.2 with ⟨rfl, h0⟩ | ⟨g, cap, cur, rfl, hb, hg, hn, hm, hs, ht⟩
  · exact ⟨h.1.1, .inl ⟨rfl, h0⟩⟩
  · exact ⟨h.1.1, .inr ⟨g, cap, cur, rfl, hb, by rw [e]; exact hg, hn, hm, hs, ht⟩⟩
set_option maxHeartbeats 4000000 in
theorem rread_any (t : List Nat) (w : World) (q : Nat) (lv : Value) (G : Nat → Prop) (s : S) (h : Rf w q lv G s) (ht : Nice t) (hu : used s.l ≤ 1099511627776) :
    Calls Try.prog 24 #[.pointer (some ⟨q, 0, none⟩), .string (str t)] w fun e w' => ∃ v, e = .returned (.tuple #[v, .int .i64 (((Sf.read s t).2.1 : Nat) : Int), .int .i64 (((Sf.read s t).2.2 : Nat) : Int)]) ∧ Own w' w.heap.size v (Sf.read s t).1 ∧ Below w.heap.size w w' := by
  obtain ⟨A, c, rfl, hc, hm⟩ := h.shape
  obtain ⟨n, hn⟩ : ∃ n, s.l.length = n := ⟨_, rfl⟩
  have HA := Lib.hid (rat_any t w q _ G s h ht.1)
  have HFI := Lib.hid (reffile_any t w ht.1 (by have := ht.2; omega))
  have H := Lib.hid h
  rw [hn] at hc hm H
  have HN := Lib.hid hn
  obtain ⟨fb, hfb⟩ : ∃ fb, Nm.file t = fb := ⟨_, rfl⟩
  rw [hfb] at HFI
  have HFB := Lib.hid hfb
  have HU := Lib.hid hu
  clear hn h ht hfb hu
  go_enter Try.func24, Try.ntmps24
  go_wp2_with fail
  refine HA.out.mono ?_
  rintro e w' ⟨⟨z, rfl, hz⟩, rfl⟩
  have HZ := Lib.hid hz
  go_wp2_with fail
  refine HFI.out.mono ?_
  rintro e w' ⟨rfl, rfl⟩
  rcases fb with _ | _
  · have HV : Hid (Sf.read s t = ([], 0, 1)) := Lib.hid (by unfold Sf.read; simp [HFB.out])
    clear hz
    go_wp2
    go_ret3
    rw [HV.out]
    exact ⟨_, rfl, own_none _ _, Below.refl _ _⟩
  · rcases hz with ⟨rfl, hg⟩ | ⟨k, hk, rfl, hg, -⟩
    · have HV : Hid (Sf.read s t = ([], 0, 4)) := Lib.hid (by unfold Sf.read; simp [HFB.out, hg])
      clear hg
      go_wp2
      go_ret3
      rw [HV.out]
      exact ⟨_, rfl, own_none _ _, Below.refl _ _⟩
    · have HV : Hid (Sf.read s t = ((s.l[k]'hk).b, (s.l[k]'hk).stamp, 0)) := Lib.hid (by unfold Sf.read; simp [HFB.out, hg])
      obtain ⟨-, -, b, off, rfl, -, ⟨bv, c2, hb, -⟩, c3⟩ := H.out.at hk
      obtain ⟨x, hx⟩ : ∃ x, s.l[k]'hk = x := ⟨_, rfl⟩
      rw [hx] at hb c3 HV
      have HLX : Hid (x.b.length ≤ 1099511627776) := Lib.hid (by
        have h1 := bytes_le H.out.good.1 t
        have h2 : Sf.bytes s.l t = x.b := by unfold Sf.bytes; rw [hg, hx]; rfl
        rw [h2] at h1
        have := HU.out
        omega)
      obtain ⟨_, _, Ab, cb, hbv, _⟩ := hb.parts
      obtain ⟨lb, hlb⟩ : ∃ lb, x.b.length = lb := ⟨_, rfl⟩
      rw [hlb] at hbv
      subst hbv
      obtain ⟨sx, hsx⟩ : ∃ sx, x.stamp = sx := ⟨_, rfl⟩
      rw [hsx] at c3 HV
      have HBX := Lib.hid hb
      have hkn : (k : Int) < (n : Int) := by have := HN.out; omega
      have hkn2 : k < n := by have := HN.out; omega
      have hk0 : (0 : Int) ≤ (k : Int) := by omega
      have hkc : ¬ (k : Int) < 0 := by omega
      have k0 : w.cell? ⟨q, 0, none⟩ = some (.slice (some ⟨b, off, none⟩) n c) := H.out.blk.at 0
      have HQ0 : Hid (q < w.heap.size) := Lib.hid (H.out.lt q H.out.gq)
      have hbs : b < w.heap.size := World.block_lt_of_cell? _ _ c3
      have HB1 : Hid (Below w.heap.size w (w.alloc (.cells #[] 5))) := Lib.hid ((Below.refl _ _).alloc (Nat.le_refl _) _)
      have HK : Hid (∀ w3, Below w.heap.size w w3 → w3.cell? ⟨q, 0, none⟩ = some (Value.slice (some ⟨b, off, none⟩) n c) ∧ w3.cell? ⟨b, off + k * 3 + 1, none⟩ = some (Value.slice Ab lb cb) ∧ w3.cell? ⟨b, off + k * 3 + 2, none⟩ = some (Value.int .i64 (sx : Int))) := Lib.hid fun w3 hw => ⟨cell_later hw k0, cell_later hw c2, cell_later hw c3⟩
      have HE1 : Hid (Own (w.alloc (.cells #[] 5)) w.heap.size (.slice (some ⟨w.heap.size, 0, none⟩) 0 0) []) := Lib.hid (own_empty8' _ _ (Nat.le_refl _))
      have HL0 : Hid (([] : List Nat).length + x.b.length ≤ 70368744177664) := Lib.hid (by have := HLX.out; simp; omega)
      have s0 := HK.out w (Below.refl _ _)
      have s1 := HK.out _ HB1.out
      clear hg hx hb hlb hsx HZ HA HFI k0 c2 c3
      go_wp2_with fail
      go_region_held3 (fun w' => w'.cell? ⟨q, 0, none⟩ = some (Value.slice (some ⟨b, off, none⟩) n c) ∧ w'.cell? ⟨b, off + k * 3 + 1, none⟩ = some (Value.slice Ab lb cb) ∧ w'.cell? ⟨b, off + k * 3 + 2, none⟩ = some (Value.int .i64 (sx : Int))) (first | exact s0 | exact s1 | exact s3 | go_keep)
        (first
        | (refine step_append_bytes rfl (.tmp 18) (.tmp 26) rfl w.heap.size (.slice (some ⟨w.heap.size, 0, none⟩) 0 0) (.slice Ab lb cb) [] x.b rfl (Own.heap' HE1.out rfl) rfl ((HBX.out.under HB1.out).heap rfl) HL0.out HB1.out.size x.b rfl ?_; rintro v3 w3 ⟨ho3, hg3, -, hb3⟩; have hbb3 : Below w.heap.size w w3 := ⟨hb3.os, hb3.tape, hb3.output, Nat.le_trans HB1.out.size hb3.size, fun j hj => (hb3.block j hj).trans (HB1.out.block j hj)⟩; have s3 := HK.out w3 hbb3; have HO3 := Lib.hid ho3; have HB3 := Lib.hid hbb3; clear ho3 hg3 hb3 hbb3))
      all_goals
        go_wp2
        go_ret3
        rw [HV.out]
        exact ⟨_, rfl, HO3.out, HB3.out⟩
end Go.Proofs.Ytlfgadcfjjjbfaa
