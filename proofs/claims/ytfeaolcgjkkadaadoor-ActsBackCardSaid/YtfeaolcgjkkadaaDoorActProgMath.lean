/- Plain facts on how the program reads an action: with numbers of any size, held to what may be behind. -/
import Derived.Test.YtfeaolcgjkkadaaDoorActMath
import Derived.Test.YtfeaolcgjkkadaaDoorNameLib
namespace Go.Proofs.YtfeaolcgjkkadaaDoor.Ac
set_option maxRecDepth 100000

structure E where
  kind : Nat
  n : Int
  text : List Nat
deriving DecidableEq
def D.e (d : D) : E := ⟨d.kind, d.n, d.text⟩
def right (x : E) : Bool := decide (1 ≤ x.kind) && decide (x.kind ≤ 11) && decide (0 ≤ x.n) && decide (x.n ≤ most x.kind) && plainT x.text && (isText x.kind || decide (x.text = []))
def okX (first : Bool) (x : E) : Bool := (isFirst x.kind == first) && right x
def okL : List E → Bool
  | [] => false
  | d :: r => okX true d && r.all (okX false) && decide (r.length + 1 ≤ 8)
theorem okX_e (b : Bool) (d : D) : okX b d.e = okD b d := by
  unfold okX okD right D.e
  have h1 : decide (0 ≤ (d.n : Int)) = true := decide_eq_true (by omega)
  have h2 : decide ((d.n : Int) ≤ (most d.kind : Int)) = decide (d.n ≤ most d.kind) := by simp
  simp only [h1, h2, Bool.and_true]
  rcases (isFirst d.kind == b) <;> rcases decide (1 ≤ d.kind) <;> rcases decide (d.kind ≤ 11) <;> rcases decide (d.n ≤ most d.kind) <;> rcases plainT d.text <;> rfl
theorem okL_map (L : List D) : okL (L.map D.e) = ok L := by
  cases L with
  | nil => rfl
  | cons d r =>
    show (okX true d.e && (r.map D.e).all (okX false) && decide ((r.map D.e).length + 1 ≤ 8)) = (okD true d && r.all (okD false) && decide (r.length + 1 ≤ 8))
    rw [okX_e, List.length_map, List.all_map]
    congr 3
    funext x
    exact okX_e false x
theorem okX_back {b : Bool} {x : E} (h : okX b x = true) : ∃ d : D, x = d.e := by
  unfold okX right at h
  simp only [Bool.and_eq_true, decide_eq_true_eq] at h
  obtain ⟨_, ⟨⟨⟨⟨_, h3⟩, _⟩, _⟩, _⟩⟩ := h
  refine ⟨⟨x.kind, x.n.toNat, x.text⟩, ?_⟩
  unfold D.e
  obtain ⟨k, n, t⟩ := x
  simp only [E.mk.injEq, true_and, and_true]
  simp at h3
  omega
theorem all_back : ∀ {r : List E}, r.all (okX false) = true → ∃ L : List D, r = L.map D.e
  | [], _ => ⟨[], rfl⟩
  | x :: r, h => by
    rw [List.all_cons, Bool.and_eq_true] at h
    obtain ⟨d, rfl⟩ := okX_back h.1
    obtain ⟨L, rfl⟩ := all_back h.2
    exact ⟨d :: L, rfl⟩
theorem okL_back {M : List E} (h : okL M = true) : ∃ L : List D, M = L.map D.e ∧ ok L = true := by
  cases M with
  | nil => cases h
  | cons x r =>
    have h' := h
    unfold okL at h
    simp only [Bool.and_eq_true] at h
    obtain ⟨⟨h1, h2⟩, _⟩ := h
    obtain ⟨d, rfl⟩ := okX_back h1
    obtain ⟨L, rfl⟩ := all_back h2
    exact ⟨d :: L, rfl, by rw [← okL_map]; exact h'⟩
theorem okL_bad {M : List E} {x : E} (hx : x ∈ M) (h : right x = false) : okL M = false := by
  have hX : ∀ b, okX b x = false := fun b => by unfold okX; rw [h, Bool.and_false]
  cases M with
  | nil => cases hx
  | cons d r =>
    show (okX true d && r.all (okX false) && decide (r.length + 1 ≤ 8)) = false
    rcases List.mem_cons.1 hx with rfl | hx
    · rw [hX]; rfl
    · rw [show r.all (okX false) = false from List.all_eq_false.2 ⟨x, hx, by rw [hX]; simp⟩, Bool.and_false]; rfl
/-- The number that a text is, in its one form; no more than a word of the machine holds. -/
def numE (t : List Nat) : Option Int := match Lib.atoiAll (t.map UInt8.ofNat) with
  | .ok v => if Lib.itoa v = t.map UInt8.ofNat then some v else none
  | _ => none
def oneE : List Ln.W → Option E
  | [] => none
  | x :: r => if x.q then none
    else if isText (kindOf x.text) then match r with
      | [y] => if y.q then some ⟨kindOf x.text, 0, y.text⟩ else none
      | _ => none
    else if most (kindOf x.text) ≠ 0 then match r with
      | [y] => if y.q then none else match numE y.text with
        | some v => some ⟨kindOf x.text, v, []⟩
        | none => none
      | _ => none
    else match r with
      | [] => some ⟨kindOf x.text, 0, []⟩
      | _ => none
def partsE (cur : List Ln.W) (out : List E) : List Ln.W → Option (List E)
  | [] => match oneE cur with
    | none => none
    | some d => some (out ++ [d])
  | x :: r => if sep x then match oneE cur with
      | none => none
      | some d => partsE [] (out ++ [d]) r
    else partsE (cur ++ [x]) out r
def parseE (l : List Ln.W) : Option (List E) := match partsE [] [] l with
  | none => none
  | some L => if okL L then some L else none
theorem atoi_dec9 {n : Nat} (h : n < 1000000000) : Lib.atoiAll ((Nm.dec n).map UInt8.ofNat) = .ok (n : Int) := by
  have hall : (Nm.dec n).all Nm.dig = true := by
    rw [List.all_eq_true]
    intro c hc
    have := Nm.dec_byte n c hc
    simp [Nm.dig]
    omega
  have hv : (Nm.dec n).foldl (fun n c => 10 * n + (c - 48)) 0 = n := Nm.val_dec n
  have hp := Nm.parse_of (Nm.dec n) 0 hall (by rw [hv]; omega)
  rw [hv] at hp
  obtain ⟨c, r, hcr⟩ : ∃ c r, Nm.dec n = c :: r := by
    cases hd : Nm.dec n with
    | nil => exact absurd hd (Nm.dec_ne n)
    | cons c r => exact ⟨c, r, rfl⟩
  have hc := Nm.dec_byte n c (by rw [hcr]; simp)
  have hn : (UInt8.ofNat c).toNat = c := by simp; omega
  rw [hcr] at hp ⊢
  rw [List.map_cons] at hp ⊢
  rw [Lib.atoiAll]
  simp only [hn]
  rw [if_neg (by omega)]
  rw [Lib.parseMag, if_neg (by simp), hp]
  simp only
  rw [if_neg (by omega), if_neg (by omega), if_neg (by omega)]
theorem num_good {t : List Nat} (h : Nm.isNum t 9 = true) : numE t = some (Nm.num t 9 : Int) := by
  obtain ⟨e, hlt⟩ := Nm.isNum_back h
  obtain ⟨m, hm⟩ : ∃ m, Nm.val t = m := ⟨_, rfl⟩
  rw [hm] at e hlt
  have hn : Nm.num t 9 = m := by unfold Nm.num; rw [if_pos h, hm]
  rw [hn, e]
  unfold numE
  rw [atoi_dec9 (by omega)]
  have hi : Lib.itoa (m : Int) = (Nm.dec m).map UInt8.ofNat := by
    rw [← Nm.dec_digits]
    rfl
  show (if Lib.itoa (m : Int) = _ then some (m : Int) else none) = _
  rw [if_pos hi]
theorem map_inj {a b : List Nat} (ha : ∀ c ∈ a, c < 256) (hb : ∀ c ∈ b, c < 256) (h : a.map UInt8.ofNat = b.map UInt8.ofNat) : a = b := by
  have := congrArg (List.map UInt8.toNat) h
  rw [List.map_map, List.map_map] at this
  have e : ∀ l : List Nat, (∀ c ∈ l, c < 256) → l.map (UInt8.toNat ∘ UInt8.ofNat) = l := fun l hl => by
    rw [List.map_congr_left (g := id) fun c hc => by
      show (UInt8.ofNat c).toNat = c
      exact UInt8.toNat_ofNat_of_lt' (hl c hc)]
    exact List.map_id l
  rwa [e a ha, e b hb] at this
theorem num_bad {t : List Nat} (ht : ∀ c ∈ t, c < 256) (h : Nm.isNum t 9 = false) {v : Int} (hv : numE t = some v) : v < 0 ∨ 1000000000 ≤ v := by
  by_cases h0 : v < 0
  · exact .inl h0
  · refine .inr ?_
    obtain ⟨m, rfl⟩ : ∃ m : Nat, v = m := ⟨v.toNat, by omega⟩
    by_cases hm : 1000000000 ≤ (m : Int)
    · exact hm
    · exfalso
      unfold numE at hv
      split at hv
      · split at hv
        · injection hv with hv
          subst hv
          rename_i hi
          have hi2 : Lib.itoa (m : Int) = (Nm.dec m).map UInt8.ofNat := by
            rw [← Nm.dec_digits]
            rfl
          rw [hi2] at hi
          have := map_inj (fun c hc => by have := Nm.dec_byte m c hc; omega) ht hi
          rw [← this, Nm.isNum_dec (by omega) (by omega)] at h
          cases h
        · cases hv
      · cases hv
theorem most_le (k : Nat) : most k ≤ 999 := by
  unfold most
  split
  · omega
  · split <;> omega
theorem right_num {k : Nat} {v : Int} {t : List Nat} (h : v < 0 ∨ 1000000000 ≤ v) : right ⟨k, v, t⟩ = false := by
  unfold right
  have := most_le k
  rcases h with h | h
  · rw [show decide (0 ≤ (⟨k, v, t⟩ : E).n) = false from decide_eq_false (by show ¬ 0 ≤ v; omega)]
    simp
  · rw [show decide ((⟨k, v, t⟩ : E).n ≤ (most (⟨k, v, t⟩ : E).kind : Int)) = false from decide_eq_false (by show ¬ v ≤ (most k : Int); omega)]
    simp
theorem one_rel (R : List Ln.W) (hR : ∀ x ∈ R, ∀ c ∈ x.text, c < 256) : (∃ d, one R = some d ∧ oneE R = some d.e) ∨ (one R = none ∧ (oneE R = none ∨ ∃ x, oneE R = some x ∧ right x = false)) := by
  cases R with
  | nil => exact .inr ⟨rfl, .inl rfl⟩
  | cons x r =>
    obtain ⟨xt, xl, xc, xq⟩ := x
    cases xq with
    | true => exact .inr ⟨rfl, .inl rfl⟩
    | false =>
      have e1 : one (⟨xt, xl, xc, false⟩ :: r) = if kindOf xt = 0 then none
        else if isText (kindOf xt) then match r with
          | [y] => if y.q then some ⟨kindOf xt, 0, y.text⟩ else none
          | _ => none
        else if most (kindOf xt) ≠ 0 then match r with
          | [y] => if y.q then none else if Nm.isNum y.text 9 then some ⟨kindOf xt, Nm.num y.text 9, []⟩ else none
          | _ => none
        else match r with
          | [] => some ⟨kindOf xt, 0, []⟩
          | _ => none := by unfold one; rfl
      have e2 : oneE (⟨xt, xl, xc, false⟩ :: r) = if isText (kindOf xt) then match r with
          | [y] => if y.q then some ⟨kindOf xt, 0, y.text⟩ else none
          | _ => none
        else if most (kindOf xt) ≠ 0 then match r with
          | [y] => if y.q then none else match numE y.text with
            | some v => some ⟨kindOf xt, v, []⟩
            | none => none
          | _ => none
        else match r with
          | [] => some ⟨kindOf xt, 0, []⟩
          | _ => none := by unfold oneE; rfl
      rw [e1, e2]
      by_cases hk : kindOf xt = 0
      · rw [if_pos hk, hk]
        refine .inr ⟨rfl, ?_⟩
        rw [if_neg (by simp [isText]), if_neg (by simp [most])]
        cases r with
        | nil => exact .inr ⟨_, rfl, by simp [right]⟩
        | cons y r => exact .inl rfl
      · rw [if_neg hk]
        by_cases h1 : isText (kindOf xt) = true
        · rw [if_pos h1, if_pos h1]
          rcases r with _ | ⟨⟨yt, yl, yc, yq⟩, _ | ⟨z, r⟩⟩
          · exact .inr ⟨rfl, .inl rfl⟩
          · cases yq with
            | false => exact .inr ⟨rfl, .inl rfl⟩
            | true => exact .inl ⟨_, rfl, rfl⟩
          · exact .inr ⟨rfl, .inl rfl⟩
        · rw [if_neg h1, if_neg h1]
          by_cases h2 : most (kindOf xt) ≠ 0
          · rw [if_pos h2, if_pos h2]
            rcases r with _ | ⟨⟨yt, yl, yc, yq⟩, _ | ⟨z, r⟩⟩
            · exact .inr ⟨rfl, .inl rfl⟩
            · cases yq with
              | false =>
                show (∃ d, (if Nm.isNum yt 9 then some (D.mk (kindOf xt) (Nm.num yt 9) []) else none) = some d ∧ (match numE yt with
                  | some v => some (E.mk (kindOf xt) v [])
                  | none => none) = some d.e) ∨ ((if Nm.isNum yt 9 then some (D.mk (kindOf xt) (Nm.num yt 9) []) else none) = none ∧ ((match numE yt with
                  | some v => some (E.mk (kindOf xt) v [])
                  | none => none) = none ∨ ∃ x, (match numE yt with
                  | some v => some (E.mk (kindOf xt) v [])
                  | none => none) = some x ∧ right x = false))
                rcases hn : Nm.isNum yt 9 with _ | _
                · refine .inr ⟨rfl, ?_⟩
                  rcases hv : numE yt with _ | v
                  · exact .inl rfl
                  · exact .inr ⟨_, rfl, right_num (num_bad (hR ⟨yt, yl, yc, false⟩ (by simp)) hn hv)⟩
                · refine .inl ⟨⟨kindOf xt, Nm.num yt 9, []⟩, rfl, ?_⟩
                  rw [num_good hn]
                  rfl
              | true => exact .inr ⟨rfl, .inl rfl⟩
            · exact .inr ⟨rfl, .inl rfl⟩
          · rw [if_neg h2, if_neg h2]
            rcases r with _ | ⟨y, r⟩
            · exact .inl ⟨_, rfl, rfl⟩
            · exact .inr ⟨rfl, .inl rfl⟩
theorem partsE_pre : ∀ (R cur : List Ln.W) (out : List E) (M : List E), partsE cur out R = some M → ∀ x ∈ out, x ∈ M
  | [], cur, out, M, h, x, hx => by
    unfold partsE at h
    rcases ho : oneE cur with _ | d
    · rw [ho] at h; cases h
    · rw [ho] at h
      injection h with h
      subst h
      simp [hx]
  | y :: R, cur, out, M, h, x, hx => by
    unfold partsE at h
    split at h
    · rcases ho : oneE cur with _ | d
      · rw [ho] at h; cases h
      · rw [ho] at h
        exact partsE_pre R [] _ M h x (by simp [hx])
    · exact partsE_pre R _ out M h x hx
def fin (M : Option (List E)) : Option (List E) := match M with
  | none => none
  | some L => if okL L then some L else none
def finD (M : Option (List D)) : Option (List D) := match M with
  | none => none
  | some L => if ok L then some L else none
theorem fin_bad {R cur : List Ln.W} {out : List E} {x : E} (hx : x ∈ out) (h : right x = false) : fin (partsE cur out R) = none := by
  unfold fin
  split
  · rfl
  · rename_i L hL
    rw [okL_bad (partsE_pre R cur out L hL x hx) h]
    rfl
theorem fin_end {out : List D} : fin (some (out.map D.e)) = (finD (some out)).map (List.map D.e) := by
  unfold fin finD
  simp only
  rw [okL_map]
  split <;> rfl
theorem parts_rel : ∀ (R cur : List Ln.W) (out : List D), (∀ x ∈ cur, ∀ c ∈ x.text, c < 256) → (∀ x ∈ R, ∀ c ∈ x.text, c < 256) → fin (partsE cur (out.map D.e) R) = (finD (parts cur out R)).map (List.map D.e)
  | [], cur, out, hc, _ => by
    unfold partsE parts
    rcases one_rel cur hc with ⟨d, h1, h2⟩ | ⟨h1, h2 | ⟨x, h2, h3⟩⟩
    · rw [h1, h2]
      show fin (some (out.map D.e ++ [d.e])) = (finD (some (out ++ [d]))).map (List.map D.e)
      rw [← fin_end]
      simp
    · rw [h1, h2]; rfl
    · rw [h1, h2]
      show fin (some (out.map D.e ++ [x])) = none
      unfold fin
      simp only
      rw [okL_bad (x := x) (by simp) h3]
      rfl
  | y :: R, cur, out, hc, hr => by
    unfold partsE parts
    rcases hs : sep y with _ | _
    · simp only [Bool.false_eq_true, if_false]
      refine parts_rel R (cur ++ [y]) out (fun x hx => ?_) fun x hx => hr x (by simp [hx])
      rcases List.mem_append.1 hx with hx | hx
      · exact hc x hx
      · rw [List.mem_singleton.1 hx]; exact hr y (by simp)
    · simp only [if_true]
      rcases one_rel cur hc with ⟨d, h1, h2⟩ | ⟨h1, h2 | ⟨x, h2, h3⟩⟩
      · rw [h1, h2]
        simp only
        rw [show out.map D.e ++ [d.e] = (out ++ [d]).map D.e from by simp]
        exact parts_rel R [] (out ++ [d]) (by simp) fun x hx => hr x (by simp [hx])
      · rw [h1, h2]; rfl
      · rw [h1, h2]
        simp only
        rw [fin_bad (x := x) (by simp) h3]
        rfl
theorem parse_rel {R : List Ln.W} (hr : ∀ x ∈ R, ∀ c ∈ x.text, c < 256) : fin (partsE [] [] R) = (parse R).map (List.map D.e) := by
  have := parts_rel R [] [] (by simp) hr
  rw [List.map_nil] at this
  exact this
theorem partsE_run : ∀ (s rest cur : List Ln.W) (out : List E), (∀ x ∈ s, sep x = false) → partsE cur out (s ++ rest) = partsE (cur ++ s) out rest
  | [], rest, cur, out, _ => by rw [List.nil_append, List.append_nil]
  | x :: s, rest, cur, out, h => by
    rw [List.cons_append, partsE, h x (by simp), if_neg (by simp), partsE_run s rest (cur ++ [x]) out fun y hy => h y (by simp [hy]), List.append_assoc]
    rfl
theorem partsE_last {R : List Ln.W} {out : List E} (h : ∀ j (hj : j < R.length), sep (R[j]'hj) = false) : partsE [] out R = match oneE R with
    | none => none
    | some d => some (out ++ [d]) := by
  have := partsE_run R [] [] out fun x hx => by
    obtain ⟨j, hj, rfl⟩ := List.getElem_of_mem hx
    exact h j hj
  rw [List.append_nil, List.nil_append] at this
  rw [this, partsE]
theorem partsE_cut {R : List Ln.W} {out : List E} {k : Nat} (hk : k < R.length) (hs : sep (R[k]'hk) = true) (h : ∀ j (hj : j < R.length), j < k → sep (R[j]'hj) = false) : partsE [] out R = match oneE (R.take k) with
    | none => none
    | some d => partsE [] (out ++ [d]) (R.drop (k + 1)) := by
  have e : R = R.take k ++ (R[k]'hk :: R.drop (k + 1)) := by
    rw [← List.drop_eq_getElem_cons hk, List.take_append_drop]
  have := partsE_run (R.take k) (R[k]'hk :: R.drop (k + 1)) [] out fun x hx => by
    obtain ⟨j, hj, rfl⟩ := List.getElem_of_mem hx
    rw [List.length_take] at hj
    rw [List.getElem_take]
    exact h j (by omega) (by omega)
  rw [← e, List.nil_append] at this
  rw [this, partsE, hs, if_pos rfl]
end Go.Proofs.YtfeaolcgjkkadaaDoor.Ac
