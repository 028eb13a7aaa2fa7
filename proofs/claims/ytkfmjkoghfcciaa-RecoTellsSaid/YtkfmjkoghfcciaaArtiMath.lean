/- Plain facts on artifacts: what one is, what is read of one; turned in one byte, cut or with more behind it is none. -/
import Derived.Test.YtkfmjkoghfcciaaBytes
import Derived.Test.YtkfmjkoghfcciaaFramMath
namespace Go.Proofs.Ytkfmjkoghfcciaa.Ar
set_option maxRecDepth 100000

def body (p v : List Nat) : List Nat := ([] ++ Cd.enc p.length ++ p) ++ Cd.enc v.length ++ v
def make (p v : List Nat) : List Nat := [] ++ Fr.frm (body p v)
/-- Is one frame there, and nothing else? -/
def one (b : List Nat) : Bool := Fr.whole b && decide (10 + Fr.told b = b.length)
def p1 (s : Cd.St) : List Nat := Cd.bytesL s 4000
def s1 (s : Cd.St) : Cd.St := Cd.bytesS s 4000
def v1 (s : Cd.St) : List Nat := Cd.bytesL (s1 s) 256
def s2 (s : Cd.St) : Cd.St := Cd.bytesS (s1 s) 256
def opn (b : List Nat) : Option (List Nat × List Nat) := if one b && Cd.endB (s2 (some (Fr.held b))) then some (p1 (some (Fr.held b)), v1 (some (Fr.held b))) else none

theorem body_length (p v : List Nat) : (body p v).length = p.length + v.length + 12 := by simp [body, Cd.enc_length]; omega
theorem make_length (p v : List Nat) : (make p v).length = p.length + v.length + 22 := by simp [make, Fr.frm_length, body_length]
theorem body_lt {p v : List Nat} (hp : ∀ c ∈ p, c < 256) (hv : ∀ c ∈ v, c < 256) : ∀ c ∈ body p v, c < 256 := by
  intro c hc
  simp only [body, List.mem_append, List.nil_append] at hc
  rcases hc with ((h | h) | h) | h
  · exact Cd.enc_lt _ c h
  · exact hp c h
  · exact Cd.enc_lt _ c h
  · exact hv c h
theorem frm_lt {x : List Nat} (hx : ∀ c ∈ x, c < 256) : ∀ c ∈ Fr.frm x, c < 256 := by
  intro c hc
  simp only [Fr.frm, List.mem_append, Fr.sum4] at hc
  rcases hc with (h | h) | h
  · exact Cd.enc_lt _ c h
  · exact hx c h
  · exact Fr.four_lt _ c h
theorem make_lt {p v : List Nat} (hp : ∀ c ∈ p, c < 256) (hv : ∀ c ∈ v, c < 256) : ∀ c ∈ make p v, c < 256 := by
  unfold make
  rw [List.nil_append]
  exact frm_lt (body_lt hp hv)

/-- Frames, counted: is there just one, to the end? -/
theorem one_scn {b : List Nat} {N : Nat} (h : Fr.Scn b N) : one b = (decide (N = 1) && decide (Fr.pos b N = b.length)) := by
  rcases N with _ | _ | N
  · have : Fr.whole b = false := by simpa [Fr.pos] using h.2
    simp [one, this]
  · have h0 : Fr.whole b = true := by simpa [Fr.pos] using h.1 0 (by omega)
    simp [one, h0, Fr.pos]
  · have h0 : Fr.whole b = true := by simpa [Fr.pos] using h.1 0 (by omega)
    have h1 := h.1 1 (by omega)
    have h2 := Fr.pos_next h1
    have h3 : Fr.pos b 1 = 10 + Fr.told b := by simp [Fr.pos]
    simp [one, h0]
    omega

theorem told_frm (x r : List Nat) (h : x.length < 281474976710656) : Fr.told (Fr.frm x ++ r) = x.length := by
  unfold Fr.told Fr.frm
  rw [List.append_assoc, List.append_assoc, List.take_append_of_le_length (by simp [Cd.enc_length]), List.take_of_length_le (by simp [Cd.enc_length])]
  exact Cd.dec_enc _ h
theorem whole_frm (x r : List Nat) (h : x.length ≤ 10000) : Fr.whole (Fr.frm x ++ r) = true := by
  have ht := told_frm x r (by omega)
  rw [Fr.whole_iff, ht]
  refine ⟨by rw [List.length_append, Fr.frm_length]; omega, h, by rw [List.length_append, Fr.frm_length]; omega, ?_⟩
  have e : Fr.frm x ++ r = (Cd.enc x.length ++ x) ++ (Fr.sum4 (Cd.enc x.length ++ x) ++ r) := by simp [Fr.frm]
  have hl : (Cd.enc x.length ++ x).length = 6 + x.length := by rw [List.length_append, Cd.enc_length]
  rw [e, ← hl, List.drop_left, List.take_left, List.take_append_of_le_length (by simp [Fr.sum4_length]), List.take_of_length_le (by simp [Fr.sum4_length])]
theorem held_frm (x r : List Nat) (h : x.length ≤ 10000) : Fr.held (Fr.frm x ++ r) = x := by
  unfold Fr.held
  rw [told_frm x r (by omega)]
  have e : Fr.frm x ++ r = Cd.enc x.length ++ (x ++ (Fr.sum4 (Cd.enc x.length ++ x) ++ r)) := by simp [Fr.frm]
  rw [e, List.drop_left' (by rfl), List.take_left' rfl]
theorem one_frm (x : List Nat) (h : x.length ≤ 10000) : one (Fr.frm x) = true := by
  have h1 := whole_frm x [] h
  have h2 := told_frm x [] (by omega)
  rw [List.append_nil] at h1 h2
  simp [one, h1, h2, Fr.frm_length]
  omega
theorem opn_frm (x : List Nat) (h : x.length ≤ 10000) : opn (Fr.frm x) = if Cd.endB (s2 (some x)) then some (p1 (some x), v1 (some x)) else none := by
  have h3 := held_frm x [] h
  rw [List.append_nil] at h3
  simp [opn, one_frm x h, h3]

theorem take_enc (n : Nat) (x : List Nat) : (Cd.enc n ++ x).take 6 = Cd.enc n := List.take_left' rfl
theorem drop_enc (n : Nat) (x : List Nat) : (Cd.enc n ++ x).drop 6 = x := List.drop_left' rfl
theorem bytesL_enc (x r : List Nat) (most : Int) (h : (x.length : Int) ≤ most) (hn : x.length < 281474976710656) : Cd.bytesL (some (Cd.enc x.length ++ x ++ r)) most = x := by
  have hd := Cd.dec_enc _ hn
  have hl : (Cd.enc x.length ++ (x ++ r)).length = 6 + (x.length + r.length) := by rw [List.length_append, Cd.enc_length, List.length_append]
  rw [List.append_assoc]
  unfold Cd.bytesL
  rw [if_pos, Cd.rest, Option.getD_some, take_enc, hd, drop_enc, List.take_left' rfl]
  unfold Cd.fitsB Cd.fits Cd.rest
  simp only [Option.getD_some, take_enc, hd, hl, Bool.and_eq_true, decide_eq_true_eq]
  omega
theorem bytesS_enc (x r : List Nat) (most : Int) (h : (x.length : Int) ≤ most) (hn : x.length < 281474976710656) : Cd.bytesS (some (Cd.enc x.length ++ x ++ r)) most = some r := by
  have hd := Cd.dec_enc _ hn
  have hl : (Cd.enc x.length ++ (x ++ r)).length = 6 + (x.length + r.length) := by rw [List.length_append, Cd.enc_length, List.length_append]
  rw [List.append_assoc]
  unfold Cd.bytesS
  rw [if_pos, Cd.rest, Option.getD_some, take_enc, hd]
  · rw [← List.drop_drop, drop_enc, List.drop_left' rfl]
  unfold Cd.fitsB Cd.fits Cd.rest
  simp only [Option.getD_some, take_enc, hd, hl, Bool.and_eq_true, decide_eq_true_eq]
  omega
theorem opn_make (p v : List Nat) (hp : p.length ≤ 4000) (hv : v.length ≤ 256) : opn (make p v) = some (p, v) := by
  have hb := body_length p v
  have e : body p v = Cd.enc p.length ++ p ++ (Cd.enc v.length ++ v ++ []) := by simp [body]
  have e1 : s1 (some (body p v)) = some (Cd.enc v.length ++ v ++ []) := by rw [e]; exact bytesS_enc _ _ _ (by omega) (by omega)
  have e2 : p1 (some (body p v)) = p := by rw [e]; exact bytesL_enc _ _ _ (by omega) (by omega)
  have e3 : s2 (some (body p v)) = some [] := by rw [s2, e1]; exact bytesS_enc _ _ _ (by omega) (by omega)
  have e4 : v1 (some (body p v)) = v := by rw [v1, e1]; exact bytesL_enc _ _ _ (by omega) (by omega)
  rw [make, List.nil_append, opn_frm _ (by omega), e2, e3, e4]
  rfl
theorem make_inj {p v q u : List Nat} (hp : p.length ≤ 4000) (hv : v.length ≤ 256) (hq : q.length ≤ 4000) (hu : u.length ≤ 256) : make p v = make q u ↔ p = q ∧ v = u := by
  refine ⟨fun e => ?_, fun ⟨h1, h2⟩ => by rw [h1, h2]⟩
  have h1 := opn_make p v hp hv
  rw [e, opn_make q u hq hu] at h1
  simp only [Option.some.injEq, Prod.mk.injEq] at h1
  exact ⟨h1.1.symm, h1.2.symm⟩

theorem opn_none_of {b : List Nat} (h : one b = false) : opn b = none := by simp [opn, h]
/-- Cut anywhere it is none. -/
theorem opn_cut (p v : List Nat) (hp : p.length ≤ 4000) (hv : v.length ≤ 256) (k : Nat) (hk : k < (make p v).length) : opn ((make p v).take k) = none := by
  apply opn_none_of
  have hb := body_length p v
  have ht := told_frm (body p v) [] (by omega)
  have hm := make_length p v
  rw [hm] at hk
  rw [List.append_nil] at ht
  have e : make p v = Fr.frm (body p v) := by simp [make]
  rcases hw : one ((make p v).take k) with _ | _
  · rfl
  · exfalso
    simp only [one, Bool.and_eq_true, decide_eq_true_eq] at hw
    have h6 := (Fr.whole_iff.1 hw.1).1
    have hlen : ((make p v).take k).length = k := by simp [hm]; omega
    rw [hlen] at h6 hw
    have : Fr.told ((make p v).take k) = Fr.told (make p v) := by
      unfold Fr.told
      rw [List.take_take, Nat.min_eq_left h6]
    rw [this, e, ht] at hw
    omega
/-- With more behind it is none. -/
theorem opn_long (p v r : List Nat) (hp : p.length ≤ 4000) (hv : v.length ≤ 256) (hr : r ≠ []) : opn (make p v ++ r) = none := by
  apply opn_none_of
  have hb := body_length p v
  have ht := told_frm (body p v) r (by omega)
  have hm := make_length p v
  have hr' : 0 < r.length := List.length_pos_iff.2 hr
  have e : make p v = Fr.frm (body p v) := by simp [make]
  rcases hw : one (make p v ++ r) with _ | _
  · rfl
  · exfalso
    simp only [one, Bool.and_eq_true, decide_eq_true_eq] at hw
    have h2 := hw.2
    rw [List.length_append, hm, e, ht] at h2
    omega

/-- Two rows that differ in a few places: laid on each other they are those places' turns alone. -/
theorem diff_row {l m es : List Nat} {q : Nat} (hlen : m.length = l.length) (hq : q + es.length ≤ l.length)
    (hm : ∀ i, i < l.length → m.getD i 0 = l.getD i 0 ^^^ (if q ≤ i ∧ i < q + es.length then es.getD (i - q) 0 else 0)) :
    List.zipWith (· ^^^ ·) m l = List.replicate q 0 ++ es ++ List.replicate (l.length - q - es.length) 0 := by
  apply List.ext_getElem
  · simp; omega
  · intro i h1 h2
    have hi : i < l.length := by simp at h1; omega
    have him : i < m.length := by omega
    have e := hm i hi
    simp only [List.getD_eq_getElem?_getD] at e
    rw [List.getElem?_eq_getElem hi, List.getElem?_eq_getElem him, Option.getD_some, Option.getD_some] at e
    rw [List.getElem_zipWith, e]
    have e2 : l[i] ^^^ (if q ≤ i ∧ i < q + es.length then es[i - q]?.getD 0 else 0) ^^^ l[i] = if q ≤ i ∧ i < q + es.length then es[i - q]?.getD 0 else 0 := by
      rw [Nat.xor_comm (l[i]), Nat.xor_assoc, Nat.xor_self, Nat.xor_zero]
    rw [e2]
    by_cases ha : i < q
    · rw [if_neg (by omega)]
      rw [List.getElem_append_left (by simp; omega), List.getElem_append_left (by simp; omega)]
      simp
    · by_cases hb : i < q + es.length
      · rw [if_pos ⟨by omega, hb⟩]
        rw [List.getElem_append_left (by simp; omega), List.getElem_append_right (by simp; omega)]
        simp only [List.length_replicate]
        rw [List.getElem?_eq_getElem (by omega)]
        rfl
      · rw [if_neg (by omega)]
        rw [List.getElem_append_right (by simp; omega)]
        simp
/-- One byte turned: another sum. -/
theorem sum_turned {l : List Nat} {q y : Nat} (hb : ∀ c ∈ l, c < 256) (hq : q < l.length) (hy : y < 256) (hne : y ≠ l.getD q 0) : Crc.sum (l.set q y) ≠ Crc.sum l := by
  have hx : l.getD q 0 < 256 := u8_lt hb q
  refine Crc.sum_ne_of _ _ (by simp) ?_
  rw [diff_row (es := [l.getD q 0 ^^^ y]) (q := q) (by simp) (by simp; omega) (fun i hi => ?_)]
  · have hxy := Nat.xor_lt_two_pow (n := 8) hx hy
    refine Crc.run_burst q _ [l.getD q 0 ^^^ y] (by simp) (fun c hc => by rw [List.mem_singleton.1 hc]; exact hxy) ⟨l.getD q 0 ^^^ y, List.mem_singleton.2 rfl, fun e => hne ?_⟩
    exact (Crc.xor_self_eq e).symm
  · rw [getD_set]
    by_cases h : q = i
    · subst h
      rw [if_pos ⟨rfl, hq⟩, if_pos (by simp)]
      simp [← Nat.xor_assoc]
    · rw [if_neg (by omega), if_neg (by simp; omega), Nat.xor_zero]
theorem four_inj {a b : Nat} (ha : a < 4294967296) (hb : b < 4294967296) (h : Fr.four a = Fr.four b) : a = b := by
  simp only [Fr.four, List.cons.injEq, and_true] at h
  omega
theorem enc_inj {a b : Nat} (ha : a < 281474976710656) (hb : b < 281474976710656) (h : Cd.enc a = Cd.enc b) : a = b := by
  rw [← Cd.dec_enc a ha, ← Cd.dec_enc b hb, h]

/-- Six bytes that tell the same number are the same. -/
theorem dec_inj : ∀ (n : Nat) (l m : List Nat), l.length = n → m.length = n → (∀ c ∈ l, c < 256) → (∀ c ∈ m, c < 256) → Cd.dec l = Cd.dec m → l = m := by
  intro n
  induction n with
  | zero =>
    intro l m hl hm _ _ _
    rw [List.eq_nil_of_length_eq_zero hl, List.eq_nil_of_length_eq_zero hm]
  | succ n ih =>
    intro l m hl hm hbl hbm h
    rcases List.eq_nil_or_concat l with rfl | ⟨l', c, rfl⟩
    · simp at hl
    · rcases List.eq_nil_or_concat m with rfl | ⟨m', d, rfl⟩
      · simp at hm
      · rw [List.concat_eq_append] at hl hbl h ⊢
        rw [List.concat_eq_append] at hm hbm h ⊢
        have hc := hbl c (by simp)
        have hd := hbm d (by simp)
        rw [Cd.dec_snoc, Cd.dec_snoc] at h
        have h1 : Cd.dec l' = Cd.dec m' := by omega
        have h2 : c = d := by omega
        rw [ih l' m' (by simpa using hl) (by simpa using hm) (fun x hx => hbl x (by simp [hx])) (fun x hx => hbm x (by simp [hx])) h1, h2]

/-- Turned in one byte a frame is none. -/
theorem one_turned {x : List Nat} (hx : ∀ c ∈ x, c < 256) (hl : x.length ≤ 10000) {q y : Nat} (hq : q < (Fr.frm x).length) (hy : y < 256) (hne : y ≠ (Fr.frm x).getD q 0) : one ((Fr.frm x).set q y) = false := by
  rcases hw : one ((Fr.frm x).set q y) with _ | _
  · rfl
  · exfalso
    simp only [one, Bool.and_eq_true, decide_eq_true_eq, List.length_set, Fr.frm_length] at hw
    obtain ⟨hw, hlen⟩ := hw
    have ht : Fr.told ((Fr.frm x).set q y) = x.length := by omega
    have hwf := (Fr.whole_iff.1 hw).2.2.2
    rw [ht] at hwf
    have hfl := Fr.frm_length x
    have hF : (Fr.frm x) = (Cd.enc x.length ++ x) ++ Fr.sum4 (Cd.enc x.length ++ x) := rfl
    obtain ⟨H, hH⟩ : ∃ H, Cd.enc x.length ++ x = H := ⟨_, rfl⟩
    rw [hH] at hF
    have hHl : H.length = 6 + x.length := by rw [← hH, List.length_append, Cd.enc_length]
    have hHb : ∀ c ∈ H, c < 256 := by
      rw [← hH]
      intro c hc
      rcases List.mem_append.1 hc with h | h
      · exact Cd.enc_lt _ c h
      · exact hx c h
    have hfb : ∀ c ∈ Fr.frm x, c < 256 := frm_lt hx
    by_cases h6 : q < 6
    · -- the length
      have e1 : ((Fr.frm x).set q y).take 6 = (Fr.frm x).take 6 := by
        refine dec_inj 6 _ _ (by simp [hfl]) (by simp [hfl]) (fun c hc => ?_) (fun c hc => hfb c (List.mem_of_mem_take hc)) ?_
        · rcases List.mem_or_eq_of_mem_set (List.mem_of_mem_take hc) with h | rfl
          · exact hfb c h
          · exact hy
        · have h1 := told_frm x [] (by omega)
          rw [List.append_nil] at h1
          exact ht.trans h1.symm
      apply hne
      have h1 : (((Fr.frm x).set q y).take 6).getD q 0 = ((Fr.frm x).take 6).getD q 0 := by rw [e1]
      simp only [List.getD_eq_getElem?_getD, List.getElem?_take] at h1
      rw [if_pos h6, if_pos h6, List.getElem?_set, if_pos rfl, if_pos hq] at h1
      simpa [List.getD_eq_getElem?_getD] using h1
    · by_cases hs : q < 6 + x.length
      · -- what it holds
        have e1 : ((Fr.frm x).set q y) = H.set q y ++ Fr.sum4 H := by
          rw [hF, List.set_append_left _ _ (by omega)]
        have hl2 : (H.set q y).length = 6 + x.length := by simp [hHl]
        rw [e1, ← hl2, List.drop_left, List.take_left, List.take_of_length_le (by simp [Fr.sum4_length])] at hwf
        have hxb : ∀ c ∈ H.set q y, c < 256 := fun c hc => by
          rcases List.mem_or_eq_of_mem_set hc with h | rfl
          · exact hHb c h
          · exact hy
        have := four_inj (Crc.sum_lt H hHb) (Crc.sum_lt _ hxb) hwf
        refine sum_turned hHb (by omega) hy ?_ this.symm
        intro e
        apply hne
        rw [e, hF]
        simp only [List.getD_eq_getElem?_getD]
        rw [List.getElem?_append_left (by omega)]
      · -- its sum
        have e1 : ((Fr.frm x).set q y) = H ++ (Fr.sum4 H).set (q - H.length) y := by
          rw [hF, List.set_append_right _ _ (by omega)]
        rw [e1, ← hHl, List.drop_left, List.take_left, List.take_of_length_le (by simp [Fr.sum4_length])] at hwf
        apply hne
        have h1 : ((Fr.sum4 H).set (q - H.length) y).getD (q - H.length) 0 = (Fr.sum4 H).getD (q - H.length) 0 := by rw [hwf]
        rw [hF]
        simp only [List.getD_eq_getElem?_getD] at h1 ⊢
        rw [List.getElem?_append_right (by omega)]
        rw [List.getElem?_set, if_pos rfl, if_pos (by rw [Fr.sum4_length]; omega)] at h1
        simpa using h1
theorem opn_turned (p v : List Nat) (hp : p.length ≤ 4000) (hv : v.length ≤ 256) (hbp : ∀ c ∈ p, c < 256) (hbv : ∀ c ∈ v, c < 256) {q y : Nat} (hq : q < (make p v).length) (hy : y < 256) (hne : y ≠ (make p v).getD q 0) :
    opn ((make p v).set q y) = none := by
  have e : make p v = Fr.frm (body p v) := by simp [make]
  rw [e] at hq hne ⊢
  exact opn_none_of (one_turned (body_lt hbp hbv) (by rw [body_length]; omega) hq hy hne)
theorem opn_short {b : List Nat} (h : b.length < 10) : opn b = none := by
  apply opn_none_of
  rcases hw : one b with _ | _
  · rfl
  · exfalso
    simp only [one, Bool.and_eq_true, decide_eq_true_eq] at hw
    omega
end Go.Proofs.Ytkfmjkoghfcciaa.Ar
