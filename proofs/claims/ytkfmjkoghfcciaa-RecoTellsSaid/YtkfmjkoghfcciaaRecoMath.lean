/- Plain facts on records: a lock's bytes, a commit's; what is read of them again, or none; the commits that rows of bytes begin with. -/
import Derived.Test.YtkfmjkoghfcciaaArtiMath
import Derived.Test.YtkfmjkoghfcciaaNameMath
namespace Go.Proofs.Ytkfmjkoghfcciaa.Rc
set_option maxRecDepth 100000

def nn (s : Cd.St) : Nat := Cd.numN s 1099511627776
def tt (s : Cd.St) : Cd.St := Cd.numS s 1099511627776
abbrev L4 := Nat × Nat × Nat × Nat
def lbody (a b c d : Nat) : List Nat := [] ++ Cd.enc a ++ Cd.enc b ++ Cd.enc c ++ Cd.enc d
def lock (a b c d : Nat) : List Nat := [] ++ Fr.frm (lbody a b c d)
/-- What four numbers are read of a frame's bytes. -/
def four (s : Cd.St) : L4 := (nn s, nn (tt s), nn (tt (tt s)), nn (tt (tt (tt s))))
def rest4 (s : Cd.St) : Cd.St := tt (tt (tt (tt s)))
def openL (b : List Nat) : Option L4 := if Ar.one b && Cd.endB (rest4 (some (Fr.held b))) then some (four (some (Fr.held b))) else none

theorem numN_enc (n : Nat) (r : List Nat) (h : n ≤ 1099511627776) : nn (some (Cd.enc n ++ r)) = n := by
  have hd := Cd.dec_enc n (by omega)
  have hl : (Cd.enc n ++ r).length = 6 + r.length := by rw [List.length_append, Cd.enc_length]
  unfold nn Cd.numN
  rw [if_pos, Cd.rest, Option.getD_some, Ar.take_enc, hd]
  unfold Cd.fits
  simp only [Ar.take_enc, hd, hl, Bool.and_eq_true, decide_eq_true_eq]
  omega
theorem numS_enc (n : Nat) (r : List Nat) (h : n ≤ 1099511627776) : tt (some (Cd.enc n ++ r)) = some r := by
  have hd := Cd.dec_enc n (by omega)
  have hl : (Cd.enc n ++ r).length = 6 + r.length := by rw [List.length_append, Cd.enc_length]
  unfold tt Cd.numS
  rw [if_pos, Cd.rest, Option.getD_some, Ar.drop_enc]
  unfold Cd.fits
  simp only [Ar.take_enc, hd, hl, Bool.and_eq_true, decide_eq_true_eq]
  omega
theorem lbody_length (a b c d : Nat) : (lbody a b c d).length = 24 := by simp [lbody, Cd.enc_length]
theorem lbody_lt (a b c d : Nat) : ∀ x ∈ lbody a b c d, x < 256 := by
  intro x hx
  simp only [lbody, List.mem_append, List.nil_append] at hx
  rcases hx with ((h | h) | h) | h <;> exact Cd.enc_lt _ x h
theorem lock_length (a b c d : Nat) : (lock a b c d).length = 34 := by simp [lock, Fr.frm_length, lbody_length]
theorem lock_lt (a b c d : Nat) : ∀ x ∈ lock a b c d, x < 256 := by
  unfold lock
  rw [List.nil_append]
  exact Ar.frm_lt (lbody_lt a b c d)
theorem openL_lock (a b c d : Nat) (ha : a ≤ 1099511627776) (hb : b ≤ 1099511627776) (hc : c ≤ 1099511627776) (hd : d ≤ 1099511627776) : openL (lock a b c d) = some (a, b, c, d) := by
  have h3 := Ar.held_frm (lbody a b c d) [] (by rw [lbody_length]; omega)
  rw [List.append_nil] at h3
  have e : lbody a b c d = Cd.enc a ++ (Cd.enc b ++ (Cd.enc c ++ (Cd.enc d ++ []))) := by simp [lbody]
  have e1 : tt (some (lbody a b c d)) = some (Cd.enc b ++ (Cd.enc c ++ (Cd.enc d ++ []))) := by rw [e]; exact numS_enc a _ ha
  have e2 : tt (some (Cd.enc b ++ (Cd.enc c ++ (Cd.enc d ++ [])))) = some (Cd.enc c ++ (Cd.enc d ++ [])) := numS_enc b _ hb
  have e3 : tt (some (Cd.enc c ++ (Cd.enc d ++ []))) = some (Cd.enc d ++ []) := numS_enc c _ hc
  have e4 : tt (some (Cd.enc d ++ [])) = some [] := numS_enc d _ hd
  have f1 : nn (some (lbody a b c d)) = a := by rw [e]; exact numN_enc a _ ha
  have hone := Ar.one_frm (lbody a b c d) (by rw [lbody_length]; omega)
  unfold openL lock
  rw [List.nil_append, hone, h3, rest4, four, e1, e2, e3, e4, f1, numN_enc b _ hb, numN_enc c _ hc, numN_enc d _ hd]
  rfl
theorem openL_none_of {b : List Nat} (h : Ar.one b = false) : openL b = none := by simp [openL, h]
/-- A frame that is cut anywhere is none. -/
theorem one_cut (x : List Nat) (hl : x.length ≤ 10000) (k : Nat) (hk : k < (Fr.frm x).length) : Ar.one ((Fr.frm x).take k) = false := by
  have ht := Ar.told_frm x [] (by omega)
  have hm := Fr.frm_length x
  rw [hm] at hk
  rw [List.append_nil] at ht
  rcases hw : Ar.one ((Fr.frm x).take k) with _ | _
  · rfl
  · exfalso
    simp only [Ar.one, Bool.and_eq_true, decide_eq_true_eq] at hw
    have h6 := (Fr.whole_iff.1 hw.1).1
    have hlen : ((Fr.frm x).take k).length = k := by simp [hm]; omega
    rw [hlen] at h6 hw
    have : Fr.told ((Fr.frm x).take k) = Fr.told (Fr.frm x) := by
      unfold Fr.told
      rw [List.take_take, Nat.min_eq_left h6]
    rw [this, ht] at hw
    omega
theorem one_long (x r : List Nat) (hl : x.length ≤ 10000) (hr : r ≠ []) : Ar.one (Fr.frm x ++ r) = false := by
  have ht := Ar.told_frm x r (by omega)
  have hm := Fr.frm_length x
  have hr' : 0 < r.length := List.length_pos_iff.2 hr
  rcases hw : Ar.one (Fr.frm x ++ r) with _ | _
  · rfl
  · exfalso
    simp only [Ar.one, Bool.and_eq_true, decide_eq_true_eq] at hw
    have h2 := hw.2
    rw [List.length_append, hm, ht] at h2
    omega
theorem openL_cut (a b c d k : Nat) (hk : k < 34) : openL ((lock a b c d).take k) = none := by
  unfold lock
  rw [List.nil_append]
  exact openL_none_of (one_cut _ (by rw [lbody_length]; omega) k (by rw [Fr.frm_length, lbody_length]; omega))
theorem openL_long (a b c d : Nat) (r : List Nat) (hr : r ≠ []) : openL (lock a b c d ++ r) = none := by
  unfold lock
  rw [List.nil_append]
  exact openL_none_of (one_long _ r (by rw [lbody_length]; omega) hr)
theorem openL_turned (a b c d q y : Nat) (hq : q < 34) (hy : y < 256) (hne : y ≠ (lock a b c d).getD q 0) : openL ((lock a b c d).set q y) = none := by
  unfold lock at hne ⊢
  rw [List.nil_append] at hne ⊢
  exact openL_none_of (Ar.one_turned (lbody_lt a b c d) (by rw [lbody_length]; omega) (by rw [Fr.frm_length, lbody_length]; omega) hy hne)

/-! Commits: target, print, who, inc. -/
abbrev D := List Nat × List Nat × Nat × Nat
def okN (n : Int) : Bool := decide (0 ≤ n) && decide (n ≤ 1099511627776)
def okD (t p : List Nat) (who inc : Int) : Bool := Nm.ok t && decide (p.length ≤ 4000) && okN who && okN inc
def dbody (t p : List Nat) (who inc : Nat) : List Nat := [] ++ Cd.enc t.length ++ t ++ Cd.enc p.length ++ p ++ Cd.enc who ++ Cd.enc inc
def done (t p : List Nat) (who inc : Int) : List Nat := if okD t p who inc then dbody t p (Cd.held who) (Cd.held inc) else []
def dt (s : Cd.St) : List Nat := Cd.bytesL s 16
def d1 (s : Cd.St) : Cd.St := Cd.bytesS s 16
def dp (s : Cd.St) : List Nat := Cd.bytesL (d1 s) 4000
def d2 (s : Cd.St) : Cd.St := Cd.bytesS (d1 s) 4000
def openD (b : List Nat) : Option D := if Cd.endB (tt (tt (d2 (some b)))) && Nm.ok (dt (some b)) then some (dt (some b), dp (some b), nn (d2 (some b)), nn (tt (d2 (some b)))) else none

theorem dbody_length (t p : List Nat) (who inc : Nat) : (dbody t p who inc).length = t.length + p.length + 24 := by simp [dbody, Cd.enc_length]; omega
theorem dbody_lt {t p : List Nat} (ht : ∀ c ∈ t, c < 256) (hp : ∀ c ∈ p, c < 256) (who inc : Nat) : ∀ c ∈ dbody t p who inc, c < 256 := by
  intro c hc
  simp only [dbody, List.mem_append, List.nil_append] at hc
  rcases hc with ((((h | h) | h) | h) | h) | h
  · exact Cd.enc_lt _ c h
  · exact ht c h
  · exact Cd.enc_lt _ c h
  · exact hp c h
  · exact Cd.enc_lt _ c h
  · exact Cd.enc_lt _ c h
theorem ok_length {t : List Nat} (h : Nm.ok t = true) : 1 ≤ t.length ∧ t.length ≤ 16 := by
  simp only [Nm.ok, Bool.and_eq_true, decide_eq_true_eq] at h
  exact ⟨h.1.2, h.2⟩
theorem openD_dbody (t p : List Nat) (who inc : Nat) (ht : Nm.ok t = true) (hp : p.length ≤ 4000) (hw : who ≤ 1099511627776) (hi : inc ≤ 1099511627776) : openD (dbody t p who inc) = some (t, p, who, inc) := by
  have h16 := (ok_length ht).2
  have e : dbody t p who inc = Cd.enc t.length ++ t ++ (Cd.enc p.length ++ p ++ (Cd.enc who ++ (Cd.enc inc ++ []))) := by simp [dbody]
  have e1 : d1 (some (dbody t p who inc)) = some (Cd.enc p.length ++ p ++ (Cd.enc who ++ (Cd.enc inc ++ []))) := by rw [e]; exact Ar.bytesS_enc _ _ _ (by omega) (by omega)
  have e2 : dt (some (dbody t p who inc)) = t := by rw [e]; exact Ar.bytesL_enc _ _ _ (by omega) (by omega)
  have e3 : d2 (some (dbody t p who inc)) = some (Cd.enc who ++ (Cd.enc inc ++ [])) := by rw [d2, e1]; exact Ar.bytesS_enc _ _ _ (by omega) (by omega)
  have e4 : dp (some (dbody t p who inc)) = p := by rw [dp, e1]; exact Ar.bytesL_enc _ _ _ (by omega) (by omega)
  unfold openD
  rw [e3, e2, e4, numN_enc who _ hw, numS_enc who _ hw, numN_enc inc _ hi, numS_enc inc _ hi, ht]
  rfl
theorem openD_nil : openD [] = none := rfl
theorem done_ok {t p : List Nat} {who inc : Int} (h : okD t p who inc = true) : openD (done t p who inc) = some (t, p, Cd.held who, Cd.held inc) := by
  unfold done
  rw [if_pos h]
  simp only [okD, okN, Bool.and_eq_true, decide_eq_true_eq] at h
  exact openD_dbody t p _ _ h.1.1.1 h.1.1.2 (Cd.held_le _) (Cd.held_le _)
theorem done_not {t p : List Nat} {who inc : Int} (h : okD t p who inc = false) : done t p who inc = [] := by
  unfold done
  rw [if_neg (by rw [h]; simp)]
theorem done_length (t p : List Nat) (who inc : Int) : (done t p who inc).length ≤ 4040 := by
  rcases h : okD t p who inc with _ | _
  · rw [done_not h]; simp
  · unfold done
    rw [if_pos h, dbody_length]
    simp only [okD, Bool.and_eq_true, decide_eq_true_eq] at h
    have := (ok_length h.1.1.1).2
    omega
theorem done_lt {t p : List Nat} (ht : ∀ c ∈ t, c < 256) (hp : ∀ c ∈ p, c < 256) (who inc : Int) : ∀ c ∈ done t p who inc, c < 256 := by
  rcases h : okD t p who inc with _ | _
  · rw [done_not h]; simp
  · unfold done
    rw [if_pos h]
    exact dbody_lt ht hp _ _
/-- A part of bytes is bytes. -/
theorem bytesL_lt {s : Cd.St} {l : List Nat} {most : Int} (hs : ∀ l, s = some l → ∀ c ∈ l, c < 256) (h : Cd.bytesL s most = l) : ∀ c ∈ l, c < 256 := by
  subst h
  unfold Cd.bytesL
  split
  · intro c hc
    rcases s with _ | m
    · simp [Cd.rest] at hc
    · exact hs m rfl c (List.mem_of_mem_drop (List.mem_of_mem_take hc))
  · simp

/-! The commits that rows of bytes begin with. -/
section
variable (f : List Nat → Option D)
def leadBy : List (List Nat) → List D
  | [] => []
  | x :: r => match f x with
    | none => []
    | some d => d :: leadBy r
def GoodBy (L : List (List Nat)) (k : Nat) : Prop := ∀ j, j < k → (f (L.getD j [])).isSome = true
variable {f}
theorem leadBy_some {x : List Nat} {d : D} (h : f x = some d) (r : List (List Nat)) : leadBy f (x :: r) = d :: leadBy f r := by rw [leadBy, h]
theorem leadBy_none {x : List Nat} (h : f x = none) (r : List (List Nat)) : leadBy f (x :: r) = [] := by rw [leadBy, h]
theorem leadBy_all (L : List (List Nat)) (h : ∀ x ∈ L, (f x).isSome = true) (M : List (List Nat)) : leadBy f (L ++ M) = leadBy f L ++ leadBy f M ∧ (leadBy f L).length = L.length := by
  induction L with
  | nil => exact ⟨rfl, rfl⟩
  | cons x L ih =>
    obtain ⟨d, hd⟩ := Option.isSome_iff_exists.1 (h x List.mem_cons_self)
    obtain ⟨e1, e2⟩ := ih fun y hy => h y (List.mem_cons_of_mem x hy)
    rw [List.cons_append, leadBy_some hd, leadBy_some hd, e1, List.length_cons, e2]
    exact ⟨rfl, rfl⟩
theorem GoodBy.mem {L : List (List Nat)} {k : Nat} (h : GoodBy f L k) : ∀ x ∈ L.take k, (f x).isSome = true := by
  intro x hx
  obtain ⟨j, hj, rfl⟩ := List.mem_iff_getElem.1 hx
  have hj' : j < k ∧ j < L.length := by simp at hj; omega
  have := h j hj'.1
  rw [List.getD_eq_getElem?_getD, List.getElem?_eq_getElem hj'.2, Option.getD_some] at this
  rwa [List.getElem_take]
theorem leadBy_length {L : List (List Nat)} {k : Nat} (h : GoodBy f L k) (hk : k ≤ L.length) : (leadBy f (L.take k)).length = k := by
  rw [(leadBy_all _ h.mem []).2]
  simp; omega
theorem leadBy_next {L : List (List Nat)} {k : Nat} {d : D} (h : GoodBy f L k) (hk : k < L.length) (hd : f (L.getD k []) = some d) : leadBy f (L.take k) ++ [d] = leadBy f (L.take (k + 1)) ∧ GoodBy f L (k + 1) := by
  constructor
  · rw [List.take_succ_eq_append_getElem hk, (leadBy_all _ h.mem _).1]
    rw [List.getD_eq_getElem?_getD, List.getElem?_eq_getElem hk, Option.getD_some] at hd
    rw [leadBy_some hd]
    rfl
  · intro j hj
    by_cases hjk : j = k
    · subst hjk; rw [hd]; rfl
    · exact h j (by omega)
theorem leadBy_stop {L : List (List Nat)} {k : Nat} (h : GoodBy f L k) (hk : k < L.length) (hd : f (L.getD k []) = none) : leadBy f (L.take k) = leadBy f L := by
  have e : L = L.take k ++ L.drop k := (List.take_append_drop k L).symm
  have e2 : L.drop k = L[k] :: L.drop (k + 1) := List.drop_eq_getElem_cons hk
  rw [List.getD_eq_getElem?_getD, List.getElem?_eq_getElem hk, Option.getD_some] at hd
  have e3 := (leadBy_all _ h.mem (L.drop k)).1
  rw [← e, e2, leadBy_none hd, List.append_nil] at e3
  exact e3.symm
theorem leadBy_end {L : List (List Nat)} {k : Nat} (hk : k = L.length) : leadBy f (L.take k) = leadBy f L := by
  subst hk
  rw [List.take_length]
end
def lead (L : List (List Nat)) : List D := leadBy openD L
def size (L : List (List Nat)) : Nat := (L.map fun x => x.length + 10).sum
theorem size_append (A B : List (List Nat)) : size (A ++ B) = size A + size B := by simp [size]
theorem size_next {L : List (List Nat)} {k : Nat} (h : k < L.length) : size (L.take k) + ((L.getD k []).length + 10) = size (L.take (k + 1)) := by
  rw [List.take_succ_eq_append_getElem h, List.getD_eq_getElem?_getD, List.getElem?_eq_getElem h, size_append]
  simp [size]
theorem size_le (L : List (List Nat)) (k : Nat) : size (L.take k) ≤ size L := by
  have := size_append (L.take k) (L.drop k)
  rw [List.take_append_drop] at this
  omega
/-- Where k frames end. -/
theorem pos_size {b : List Nat} {N k : Nat} (h : Fr.Scn b N) (hk : k ≤ N) : Fr.pos b k = size ((Fr.rows b N).take k) := by
  induction k with
  | zero => rfl
  | succ k ih =>
    have hk' : k < N := by omega
    have hw := h.1 k hk'
    have e := Fr.held_length hw
    rw [← size_next (by rw [Fr.rows_length]; exact hk'), ← ih (by omega), Fr.rows_at _ _ _ hk', e]
    show Fr.pos b k + (10 + Fr.told (b.drop (Fr.pos b k))) = _
    omega
/-- Where the commits end. -/
def ends (L : List (List Nat)) : Nat := size (L.take (lead L).length)
end Go.Proofs.Ytkfmjkoghfcciaa.Rc
