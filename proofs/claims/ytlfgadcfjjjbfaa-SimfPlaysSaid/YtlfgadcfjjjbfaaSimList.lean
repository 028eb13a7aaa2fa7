/- Files in memory: the names in a folder, rising. -/
import Derived.Test.YtlfgadcfjjjbfaaSimSort
import Derived.Test.YtlfgadcfjjjbfaaSimApp
import Derived.Maps.RangeWalk
namespace Go.Proofs.Ytlfgadcfjjjbfaa
set_option maxRecDepth 100000
open Go.ChangeShapes Go.WideShapes Go.ChangeAt Go.RowKit Go.ChangeMaps
open Sf

theorem skey_inv (key : Value) (kl : Lit) (h : keyOf Try.prog 9 key = some kl) : ∃ s : ByteArray, key = Value.string s := by
  cases key <;> simp [keyOf, Try.underlying9, mapKey] at h
  exact ⟨_, rfl⟩
theorem skey_of (s : ByteArray) (kl : Lit) (h : keyOf Try.prog 9 (.string s) = some kl) : kl = keyL (s.data.toList.map (·.toNat)) := by
  simp [keyOf, Try.underlying9, mapKey] at h
  rw [← h.2]
  unfold keyL
  rw [List.map_map]
  congr 1
  conv => lhs; rw [← List.map_id s.data.toList]
  exact List.map_congr_left fun b _ => by simp
theorem skey_same {t u : List Nat} (ht : ∀ c ∈ t, c < 256) (hu : ∀ c ∈ u, c < 256) : (keyL t).sameKey (keyL u) = decide (t = u) := by
  by_cases e : t = u
  · subst e
    rw [WideAt.sameKey_self (keyL_key t), decide_eq_true rfl]
  · rw [decide_eq_false e]
    cases h : (keyL t).sameKey (keyL u)
    · rfl
    · exact absurd (keyL_inj ht hu (WideAt.sameKey_eq h)) e
/-- What the loop over the files has come to. -/
structure Got (l : List Fi) (d : List Nat) (left : Lit → Bool) (L : List (List Nat)) : Prop where
  mem : ∀ t ∈ L, (∀ c ∈ t, c < 256) ∧ (Sf.get l t).isSome = true ∧ folder t = d ∧ left (keyL t) = false
  nd : L.Nodup
  all : ∀ t, (∀ c ∈ t, c < 256) → (Sf.get l t).isSome = true → folder t = d → left (keyL t) = false → t ∈ L
theorem Got.skip {l : List Fi} {d : List Nat} {left : Lit → Bool} {L : List (List Nat)} (h : Got l d left L) {t : List Nat} (ht : ∀ c ∈ t, c < 256) (hd : folder t ≠ d) : Got l d (fun z => left z && !z.sameKey (keyL t)) L := by
  refine ⟨fun u hu => ?_, h.nd, fun u hu h1 h2 h3 => ?_⟩
  · obtain ⟨a, b, c, e⟩ := h.mem u hu
    exact ⟨a, b, c, by simp [e]⟩
  · rw [skey_same hu ht] at h3
    by_cases e : u = t
    · exact absurd (e ▸ h2) hd
    · rw [decide_eq_false e] at h3
      exact h.all u hu h1 h2 (by simpa using h3)
theorem Got.take {l : List Fi} {d : List Nat} {left : Lit → Bool} {L : List (List Nat)} (h : Got l d left L) {t : List Nat} (ht : ∀ c ∈ t, c < 256) (hg : (Sf.get l t).isSome = true) (hd : folder t = d) (hl : left (keyL t) = true) : Got l d (fun z => left z && !z.sameKey (keyL t)) (L ++ [t]) := by
  have hn : t ∉ L := fun hm => by
    have := (h.mem t hm).2.2.2
    rw [hl] at this
    cases this
  refine ⟨fun u hu => ?_, ?_, fun u hu h1 h2 h3 => ?_⟩
  · rcases List.mem_append.1 hu with hu | hu
    · obtain ⟨a, b, c, e⟩ := h.mem u hu
      exact ⟨a, b, c, by simp [e]⟩
    · simp at hu
      subst hu
      exact ⟨ht, hg, hd, by simp [skey_same ht ht]⟩
  · rw [List.nodup_append]
    exact ⟨h.nd, by simp, fun a ha b hb e => by simp at hb; subst hb; exact hn (e ▸ ha)⟩
  · rw [skey_same hu ht] at h3
    by_cases e : u = t
    · rw [e]; simp
    · rw [decide_eq_false e] at h3
      exact List.mem_append_left _ (h.all u hu h1 h2 (by simpa using h3))
theorem pairwise_unique {A B : List (List Nat)} (ha : A.Pairwise (· < ·)) (hb : B.Pairwise (· < ·)) (h : ∀ t, t ∈ A ↔ t ∈ B) : A = B := by
  have hna : A.Nodup := ha.imp fun h => lt_ne h
  have hnb : B.Nodup := hb.imp fun h => lt_ne h
  refine List.Perm.eq_of_pairwise (le := (· < ·)) (fun a b _ _ h1 h2 => absurd h2 (List.lt_asymm h1)) ha hb ((List.perm_ext_iff_of_nodup hna hnb).2 h)
theorem mem_list {s : S} (hg : Sf.Good s) (d t : List Nat) : t ∈ list s.l d ↔ (∀ c ∈ t, c < 256) ∧ (Sf.get s.l t).isSome = true ∧ folder t = d := by
  unfold list
  rw [List.mem_filter, List.mem_map]
  constructor
  · rintro ⟨⟨x, hx, rfl⟩, h⟩
    refine ⟨(hg.2.1 x hx).1, ?_, by simpa using h⟩
    rcases hf : Sf.get s.l x.name with _ | y
    · exact absurd rfl (get_none hf x hx)
    · rfl
  · rintro ⟨h1, h2, h3⟩
    obtain ⟨x, hx⟩ := Option.isSome_iff_exists.1 h2
    obtain ⟨e1, e2⟩ := get_some hx
    exact ⟨⟨x, e1, e2⟩, by simpa using h3⟩
theorem list_ord {s : S} (hg : Sf.Good s) (d : List Nat) : (list s.l d).Pairwise (· < ·) := by
  unfold list
  refine List.Pairwise.filter _ ?_
  rw [List.pairwise_map]
  exact hg.1
theorem got_end {s : S} (hg : Sf.Good s) {d : List Nat} {left : Lit → Bool} {L T : List (List Nat)} (h : Got s.l d left L) (hl : ∀ kl, left kl = false) (hp : T.Perm L) (ht : T.Pairwise (· < ·)) : T = list s.l d := by
  refine pairwise_unique ht (list_ord hg d) fun t => ?_
  rw [mem_list hg, hp.mem_iff]
  constructor
  · intro hm
    obtain ⟨a, b, c, _⟩ := h.mem t hm
    exact ⟨a, b, c⟩
  · rintro ⟨a, b, c⟩
    exact h.all t a b c (hl _)

set_option maxHeartbeats 4000000 in
theorem flist_any (d : List Nat) (w : World) (p mb : Nat) (V : List Nat → Value) (F : Nat → Prop) (s : S) (h : At none w p mb V F s) (hd : ∀ c ∈ d, c < 256) (hcn : s.next ≤ 1073741824) :
    Calls Try.prog 29 #[.pointer (some ⟨p, 0, none⟩), .string (str d)] w fun e w' => ∃ v, e = .returned v ∧ OwnT w' w.heap.size v (list s.l d) ∧ Below w.heap.size w w' := by
  obtain ⟨D, hown, hD⟩ := h.map
  have k0 : w.cell? ⟨p, 0, none⟩ = some (.map (some mb)) := h.blk.at 0
  have H := Lib.hid h
  have HD := Lib.hid hD
  have HMB : Hid (mb < w.heap.size) := Lib.hid hown.lt
  have HCN : Hid (Maps.size D ≤ s.next ∧ s.next ≤ 1073741824) := Lib.hid ⟨hown.size_le, hcn⟩
  have HDB := Lib.hid hd
  have HGE : Hid (∀ t, (∀ c ∈ t, c < 256) → Maps.has D (keyL t) = (Sf.get s.l t).isSome) := Lib.hid fun t ht => by
    rw [(hD t ht).1]
    rcases hf : Sf.get s.l t with _ | x <;> simp [hf]
  clear h hD hcn hd
  go_enter Try.func29, Try.ntmps29
  go_wp2_with (first | (at_range; refine wpList_range_own _ rfl _ 50 rfl 9 64 keyed Try.underlying50 heldR mb s.next D rfl hown ?_; intro w0 hrg0 hg0 hs0) | fail)
  have HW0 : Hid (Below w.heap.size w w0) := Lib.hid ⟨hg0.os, hg0.tape, hg0.output, hg0.size, fun k hk => hg0.block k hk (by simp)⟩
  clear hg0 hs0
  go_loopw [5] (fun lv wr => ∃ (left : Lit → Bool) (cnt : Nat) (L : List (List Nat)), wr.ranges Try.prog 9 heldR mb w.heap.size s.next D left cnt ∧ Hid (OwnT wr w.heap.size lv L) ∧ Hid (Below w.heap.size w wr) ∧ Hid (Got s.l d left L) ∧ Hid (L.length + cnt ≤ s.next) ∧ Hid (∀ z, left z = true → Maps.has D z = true)) (fun _ wr => wr.rangeLeft mb w.heap.size)
  case atStart =>
    exact ⟨_, _, [], hrg0, Lib.hid (ownT_none _ _), HW0, Lib.hid ⟨by simp, by simp, fun t ht h1 _ h3 => by rw [HGE.out t ht, h1] at h3; cases h3⟩, Lib.hid (by have := HCN.out; simp; omega), Lib.hid fun _ h => h⟩
  case round =>
    obtain ⟨left, cnt, L, hrg, HO, HB, HG, HL, HS⟩ := hrel
    go_wp2_with (first | (at_next; refine wpList_next_ranges _ rfl _ rfl 9 keyed heldR Value.string (fun v : Value => v) skey_inv (fun v _ _ => ⟨v, rfl⟩) mb w.heap.size s.next D left cnt rfl hrg ?_ ?_) | fail)
    · intro hc0 hl0
      have HLF := Lib.hid hl0
      have HLN : Hid (L.length ≤ 1099511627776) := Lib.hid (by have := HL.out; have := HCN.out; omega)
      have HLB : Hid (∀ l ∈ L, ∀ c ∈ l, c < 256) := Lib.hid fun l hl => (HG.out.mem l hl).1
      clear hc0 hl0 hrg hrg0 hown
      go_wp2_with fail
      refine (ssort_any L u5 w.heap.size wr HO.out HLB.out HG.out.nd HLN.out).mono ?_
      rintro e w2 ⟨rfl, T, hp, ht, ho, hg⟩
      have HT : Hid (T = list s.l d) := Lib.hid (got_end H.out.good HG.out HLF.out hp ht)
      have HO2 := Lib.hid ho
      have HB2 : Hid (Below w.heap.size w w2) := Lib.hid (HB.out.grown hg HB.out.size fun k hk => (HO.out.lt k hk).1)
      clear hp ht ho hg
      go_wp2
      go_ret
      exact ⟨_, rfl, by rw [← HT.out]; exact HO2.out, HB2.out⟩
    · intro x c kl y ps w1 cnt1 hkey hleft hR hat hrg1 hlt hg1 hs1 hen
      obtain ⟨t, ht⟩ : ∃ t, x.data.toList.map (·.toNat) = t := ⟨_, rfl⟩
      have htb : ∀ c ∈ t, c < 256 := by rw [← ht]; exact bytes_lt x
      have hx : x = str t := by rw [← ht]; exact str_all x
      have hk : kl = keyL t := by rw [← ht]; exact skey_of x kl hkey
      subst hx
      subst hk
      have hget : (Sf.get s.l t).isSome = true := by rw [← HGE.out t htb]; exact HS.out _ hleft
      have hnice : t.length ≤ 1048576 := by
        obtain ⟨f, hf⟩ := Option.isSome_iff_exists.1 hget
        obtain ⟨e1, e2⟩ := get_some hf
        rw [← e2]
        exact (H.out.good.2.1 f e1).2.1
      have HTB := Lib.hid htb
      have HNI := Lib.hid hnice
      have HGT := Lib.hid hget
      have HLE := Lib.hid hleft
      have HLT := Lib.hid hlt
      have HOLD := Lib.hid hrg
      have HNEW := Lib.hid hrg1
      have HO1 : Hid (OwnT w1 w.heap.size u5 L) := Lib.hid (World.ownsRow.kept HO.out hg1 (by
        rcases hv : u5.ownBlock with _ | k
        · exact .inl rfl
        · refine .inr fun e => ?_
          injection e with e
          have h1 := row_ne_iter HO.out hrg
          rw [hv, e] at h1
          exact h1 rfl))
      have HB1 : Hid (Below w.heap.size w w1) := Lib.hid (HB.out.grown hg1 HB.out.size fun k hk => by injection hk with hk; omega)
      clear htb hnice hget hleft hlt hrg hrg1 hg1 hs1 hR hat ht hkey hrg0 hown
      go_wp2_with fail
      refine (sfolder_any t w1 HTB.out (by have := HNI.out; omega)).mono ?_
      rintro e w2 ⟨rfl, hb2⟩
      have HO2 : Hid (OwnT w2 w.heap.size u5 L) := Lib.hid (HO1.out.under hb2)
      have HB2 : Hid (Below w.heap.size w w2) := Lib.hid (HB1.out.trans (hb2.mono HB1.out.size))
      have HN2 := Lib.hid (HNEW.out.kept (Below.toGrown hb2 none) (by simp) (by simp))
      have HFB : Hid (∀ c ∈ folder t, c < 256) := Lib.hid fun c hc => by
        unfold folder at hc
        split at hc
        · exact HTB.out c ((List.takeWhile_prefix _).subset hc)
        · cases hc
      have hse := str_same HFB.out HDB.out
      clear hb2 hen
      obtain ⟨fo, hfo⟩ : ∃ fo, folder t = fo := ⟨_, rfl⟩
      rw [hfo] at hse ⊢
      have HFO := Lib.hid hfo
      clear hfo
      by_cases hd : fo = d
      · have HG2 : Hid (Got s.l d (fun z => left z && !z.sameKey (keyL t)) (L ++ [t])) := Lib.hid (HG.out.take HTB.out HGT.out (by rw [HFO.out]; exact hd) HLE.out)
        rw [decide_eq_true hd] at hse
        clear hd
        go_wp2_with (first
          | (at_builtin; refine wpList_append_text rfl _ _ rfl w.heap.size u5 L t rfl HO2.out rfl _ (by have := HL.out; have := HCN.out; omega) HB2.out.size (L ++ [t]) rfl ?_; intro v' w3 hgr)
          | fail)
        have hN3 := (HN2.out.alloc (.cells #[.string (str t)] 9)).kept hgr.2.1 (row_ne_low HO2.out HMB.out) (row_ne_iter HO2.out HN2.out)
        refine ⟨⟨_, _, L ++ [t], hN3, Lib.hid hgr.1, Lib.hid ((HB2.out.alloc HB2.out.size _).trans hgr.2.2), HG2, Lib.hid (by have := HL.out; have := HLT.out; rw [List.length_append]; simp; omega), Lib.hid fun z hz => HS.out z (by simp at hz; exact hz.1)⟩, ?_⟩
        rw [hN3.left_eq, HOLD.out.left_eq]
        exact HLT.out
      · have HG2 : Hid (Got s.l d (fun z => left z && !z.sameKey (keyL t)) L) := Lib.hid (HG.out.skip HTB.out (by rw [HFO.out]; exact hd))
        rw [decide_eq_false hd] at hse
        clear hd
        go_wp2
        go_roundw
        case rel => exact ⟨_, _, L, HN2.out, HO2, HB2, HG2, Lib.hid (by have := HL.out; have := HLT.out; omega), Lib.hid fun z hz => HS.out z (by simp at hz; exact hz.1)⟩
        case measure => rw [HN2.out.left_eq, HOLD.out.left_eq]; exact HLT.out
end Go.Proofs.Ytlfgadcfjjjbfaa
