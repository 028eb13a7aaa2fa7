/- Plain facts on traces: frames that are cut anywhere, and what is read of them. -/
import Derived.Test.YtfheaognfocofaaZRecoNum
import Derived.Test.YtfheaognfocofaaZFramAwake
namespace Go.Proofs.Ytfheaognfocofaa.Rc
set_option maxRecDepth 100000

/-- What a frame of the trace holds of a commit. -/
def body (d : D) : List Nat := done d.1 d.2.1 (d.2.2.1 : Int) (d.2.2.2 : Int)
theorem numOk_okD {d : D} (h : NumOk d) : okD d.1 d.2.1 (d.2.2.1 : Int) (d.2.2.2 : Int) = true := by
  obtain ⟨h1, h2, h3, h4, h5⟩ := h
  simp only [okD, okN, Bool.and_eq_true, decide_eq_true_eq]
  exact ⟨⟨⟨h1, by omega⟩, by omega, by omega⟩, by omega, by omega⟩
theorem body_open {d : D} (h : NumOk d) : openD (body d) = some d := by
  have := done_ok (numOk_okD h)
  obtain ⟨h1, h2, h3, h4, h5⟩ := h
  rw [body, this, held_nat (by omega), held_nat (by omega)]
theorem body_len {d : D} (h : NumOk d) : (body d).length ≤ 50 := by
  unfold body done
  rw [if_pos (numOk_okD h), dbody_length]
  have := (ok_length h.1).2
  have := h.2.1
  omega
theorem numOk_lt {d : D} (h : NumOk d) : ∀ c ∈ d.1, c < 256 := openD_lt h.1
theorem lead_map (L : List D) (h : ∀ d ∈ L, NumOk d) : lead (L.map body) = L := by
  unfold lead
  induction L with
  | nil => rfl
  | cons d L ih => rw [List.map_cons, leadBy_some (body_open (h d List.mem_cons_self)), ih fun x hx => h x (List.mem_cons_of_mem _ hx)]
theorem size_frs (B : List (List Nat)) : size B = (Fr.frs B).length := by
  induction B with
  | nil => rfl
  | cons x B ih =>
    have e1 : size (x :: B) = x.length + 10 + size B := by simp [size]
    have e2 : Fr.frs (x :: B) = Fr.frm x ++ Fr.frs B := by simp [Fr.frs]
    rw [e1, e2, List.length_append, Fr.frm_length, ih]
theorem ends_map (L : List D) (h : ∀ d ∈ L, NumOk d) : ends (L.map body) = (Fr.frs (L.map body)).length := by
  rw [ends, lead_map L h, List.take_of_length_le (by simp), size_frs]
theorem frs_cons (x : List Nat) (B : List (List Nat)) : Fr.frs (x :: B) = Fr.frm x ++ Fr.frs B := by simp [Fr.frs]
theorem frs_append (A B : List (List Nat)) : Fr.frs (A ++ B) = Fr.frs A ++ Fr.frs B := by simp [Fr.frs]
theorem frs_len_le (B : List (List Nat)) (hB : ∀ x ∈ B, x.length ≤ 50) : (Fr.frs B).length ≤ 60 * B.length := by
  induction B with
  | nil => simp [Fr.frs]
  | cons x B ih =>
    have e2 : Fr.frs (x :: B) = Fr.frm x ++ Fr.frs B := by simp [Fr.frs]
    have h1 := hB x List.mem_cons_self
    have h2 := ih fun y hy => hB y (List.mem_cons_of_mem _ hy)
    rw [e2, List.length_append, Fr.frm_length, List.length_cons]
    omega
theorem whole_cut (x : List Nat) (hl : x.length ≤ 10000) {m : Nat} (hm : m < (Fr.frm x).length) : Fr.whole ((Fr.frm x).take m) = false := by
  rcases hw : Fr.whole ((Fr.frm x).take m) with _ | _
  · rfl
  · exfalso
    obtain ⟨h6, _, h10, _⟩ := Fr.whole_iff.1 hw
    have hF := Fr.frm_length x
    have hlen : ((Fr.frm x).take m).length = m := by rw [List.length_take]; omega
    rw [hlen] at h6 h10
    have ht := Ar.told_frm x [] (by omega)
    rw [List.append_nil] at ht
    have : Fr.told ((Fr.frm x).take m) = Fr.told (Fr.frm x) := by
      unfold Fr.told
      rw [List.take_take, Nat.min_eq_left h6]
    rw [this, ht] at h10
    omega
theorem frs_drop (B : List (List Nat)) (k j : Nat) : ((Fr.frs B).take k).drop (Fr.frs (B.take j)).length = (Fr.frs (B.drop j)).take (k - (Fr.frs (B.take j)).length) := by
  have e : Fr.frs B = Fr.frs (B.take j) ++ Fr.frs (B.drop j) := by rw [← frs_append, List.take_append_drop]
  rw [List.drop_take]
  conv => lhs; rw [e]
  rw [List.drop_left]
theorem frs_take_le (B : List (List Nat)) {i j : Nat} (h : i ≤ j) : (Fr.frs (B.take i)).length ≤ (Fr.frs (B.take j)).length := by
  have e : B.take j = B.take i ++ (B.take j).drop i := by
    have := (List.take_append_drop i (B.take j)).symm
    rwa [List.take_take, Nat.min_eq_left h] at this
  rw [e, frs_append, List.length_append]
  omega
theorem frs_next_len (B : List (List Nat)) {j : Nat} (h : j < B.length) : (Fr.frs (B.take (j + 1))).length = (Fr.frs (B.take j)).length + (Fr.frm B[j]).length := by
  rw [List.take_succ_eq_append_getElem h, frs_append, List.length_append]
  simp [Fr.frs]
/-- Frames that are cut: those that are whole. -/
theorem scn_frs (B : List (List Nat)) (hB : ∀ x ∈ B, x.length ≤ 10000) (k n : Nat) (hn : n ≤ B.length) (hk : (Fr.frs (B.take n)).length ≤ k) (hx : n = B.length ∨ k < (Fr.frs (B.take (n + 1))).length) :
    Fr.Scn ((Fr.frs B).take k) n ∧ Fr.rows ((Fr.frs B).take k) n = B.take n := by
  have hstep : ∀ j (hj : j < n), ∃ r, ((Fr.frs B).take k).drop (Fr.frs (B.take j)).length = Fr.frm (B[j]'(by omega)) ++ r := by
    intro j hj
    have hjB : j < B.length := by omega
    have e1 : B.drop j = B[j] :: B.drop (j + 1) := List.drop_eq_getElem_cons hjB
    have e2 : Fr.frs (B.drop j) = Fr.frm B[j] ++ Fr.frs (B.drop (j + 1)) := by rw [e1, frs_cons]
    have h1 := frs_next_len B hjB
    have h2 := frs_take_le B (show j + 1 ≤ n by omega)
    refine ⟨(Fr.frs (B.drop (j + 1))).take (k - (Fr.frs (B.take j)).length - (Fr.frm B[j]).length), ?_⟩
    rw [frs_drop, e2, List.take_append, List.take_of_length_le (by omega)]
  have hpos : ∀ j, j ≤ n → Fr.pos ((Fr.frs B).take k) j = (Fr.frs (B.take j)).length := by
    intro j
    induction j with
    | zero => intro _; rfl
    | succ j ih =>
      intro hj
      have hjB : j < B.length := by omega
      obtain ⟨r, hr⟩ := hstep j (by omega)
      have h1 := ih (by omega)
      have h2 := frs_next_len B hjB
      have hl := hB _ (List.getElem_mem hjB)
      show Fr.pos _ j + (10 + Fr.told (((Fr.frs B).take k).drop (Fr.pos _ j))) = _
      rw [h1, hr, Ar.told_frm _ _ (by omega), h2, Fr.frm_length]
      omega
  refine ⟨⟨fun j hj => ?_, ?_⟩, ?_⟩
  · obtain ⟨r, hr⟩ := hstep j hj
    rw [hpos j (by omega), hr]
    exact Ar.whole_frm _ _ (hB _ (List.getElem_mem _))
  · rw [hpos n (Nat.le_refl _), frs_drop]
    rcases hx with hx | hx
    · rw [List.drop_of_length_le (by omega)]
      simp [Fr.frs, Fr.whole]
    · have hnB : n < B.length := by
        rcases Nat.lt_or_ge n B.length with h | h
        · exact h
        · rw [List.take_of_length_le (by omega)] at hx hk
          omega
      have e1 : B.drop n = B[n] :: B.drop (n + 1) := List.drop_eq_getElem_cons hnB
      have e2 : Fr.frs (B.drop n) = Fr.frm B[n] ++ Fr.frs (B.drop (n + 1)) := by rw [e1, frs_cons]
      have h2 := frs_next_len B hnB
      rw [e2, List.take_append_of_le_length (by omega)]
      exact whole_cut _ (hB _ (List.getElem_mem _)) (by omega)
  · apply List.ext_getElem
    · rw [Fr.rows_length, List.length_take]; omega
    · intro j h1 h2
      rw [Fr.rows_length] at h1
      obtain ⟨r, hr⟩ := hstep j h1
      simp only [Fr.rows, List.getElem_map, List.getElem_range, List.getElem_take]
      rw [hpos j (by omega), hr]
      exact Ar.held_frm _ _ (hB _ (List.getElem_mem _))
theorem scn_all (B : List (List Nat)) (hB : ∀ x ∈ B, x.length ≤ 10000) : Fr.Scn (Fr.frs B) B.length ∧ Fr.rows (Fr.frs B) B.length = B := by
  have h := scn_frs B hB (Fr.frs B).length B.length (Nat.le_refl _) (by rw [List.take_length]; exact Nat.le_refl _) (.inl rfl)
  rwa [List.take_length, List.take_length] at h
theorem frs_lt (B : List (List Nat)) (hB : ∀ x ∈ B, ∀ c ∈ x, c < 256) : ∀ c ∈ Fr.frs B, c < 256 := by
  intro c hc
  simp only [Fr.frs, List.mem_flatten, List.mem_map] at hc
  obtain ⟨y, ⟨x, hx, rfl⟩, hc⟩ := hc
  exact Ar.frm_lt (hB x hx) c hc

/-! The commits of a row of numbers. -/
def nums (l : List Int) (m : Nat) : List D := (l.take m).map num
theorem nums_ok (l : List Int) (m : Nat) : ∀ d ∈ nums l m, NumOk d := by
  intro d hd
  obtain ⟨n, _, rfl⟩ := List.mem_map.1 hd
  exact num_ok n
theorem nums_len (l : List Int) (m : Nat) : (nums l m).length = min m l.length := by simp [nums]
theorem nums_next (l : List Int) (m : Nat) {k : Nat} (h : k < l.length) (hm : k < m) : (nums l m).take (k + 1) = (nums l m).take k ++ [num (l.getD k 0)] := by
  have hk : k < (nums l m).length := by rw [nums_len]; omega
  rw [List.take_succ_eq_append_getElem hk]
  congr 2
  simp only [nums, List.getElem_map, List.getElem_take]
  rw [List.getD_eq_getElem?_getD, List.getElem?_eq_getElem h]
  rfl
end Go.Proofs.Ytfheaognfocofaa.Rc
