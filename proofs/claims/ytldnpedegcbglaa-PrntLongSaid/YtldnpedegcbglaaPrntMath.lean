/- Plain facts on what a thing was made of: its bytes, and what bytes say of one. -/
import Derived.Test.YtldnpedegcbglaaActMath
namespace Go.Proofs.Ytldnpedegcbglaa.Pr
set_option maxRecDepth 100000

/-- A thing of an action, with numbers of any size. -/
structure X where
  kind : Int
  n : Int
  text : List Nat
def lb (x : List Nat) : List Nat := Cd.enc x.length ++ x
def bytesX (x : X) : List Nat := Cd.enc (Cd.held x.kind) ++ (Cd.enc (Cd.held x.n) ++ lb x.text)
def bytes (M : List X) : List Nat := Cd.enc M.length ++ M.flatMap bytesX
def ofD (d : Ac.D) : X := ⟨d.kind, d.n, d.text⟩
theorem held_nat {n : Nat} (h : n ≤ 1099511627776) : Cd.held (n : Int) = n := by unfold Cd.held; omega
theorem bytesX_of {d : Ac.D} (h1 : d.kind ≤ 1099511627776) (h2 : d.n ≤ 1099511627776) : bytesX (ofD d) = Ac.bytesD d := by
  unfold bytesX ofD Ac.bytesD lb
  rw [held_nat h1, held_nat h2]
theorem bytes_of {L : List Ac.D} (h : ∀ d ∈ L, d.kind ≤ 1099511627776 ∧ d.n ≤ 1099511627776) : bytes (L.map ofD) = Ac.bytes L := by
  unfold bytes Ac.bytes
  rw [List.length_map, List.flatMap_map]
  congr 1
  induction L with
  | nil => rfl
  | cons d L ih =>
    rw [List.flatMap_cons, List.flatMap_cons, bytesX_of (h d (by simp)).1 (h d (by simp)).2, ih fun x hx => h x (by simp [hx])]
def print (M : List Nat) (I : List (List Nat)) : List Nat := lb M ++ (Cd.enc I.length ++ I.flatMap lb)

theorem lb_length (x : List Nat) : (lb x).length = 6 + x.length := by unfold lb; rw [List.length_append, Cd.enc_length]
theorem take_enc (n : Nat) (r : List Nat) : (Cd.enc n ++ r).take 6 = Cd.enc n := rfl
theorem drop_enc (n : Nat) (r : List Nat) : (Cd.enc n ++ r).drop 6 = r := rfl
theorem num_on {n : Nat} {r : List Nat} {most : Int} (h : (n : Int) ≤ most) (hn : n < 281474976710656) : Cd.numN (some (Cd.enc n ++ r)) most = n ∧ Cd.numS (some (Cd.enc n ++ r)) most = some r := by
  have hf : Cd.fits (some (Cd.enc n ++ r)) most = true := Cd.fits_some.2 ⟨by rw [List.length_append, Cd.enc_length]; omega, by rw [take_enc, Cd.dec_enc n hn]; exact h⟩
  unfold Cd.numN Cd.numS
  rw [hf, if_pos rfl, if_pos rfl]
  exact ⟨by show Cd.dec ((Cd.enc n ++ r).take 6) = n; rw [take_enc, Cd.dec_enc n hn], rfl⟩
theorem num_off {n : Nat} {r : List Nat} {most : Int} (h : most < (n : Int)) (hn : n < 281474976710656) : Cd.numN (some (Cd.enc n ++ r)) most = 0 ∧ Cd.numS (some (Cd.enc n ++ r)) most = none := by
  have hf : Cd.fits (some (Cd.enc n ++ r)) most = false := Cd.fits_great (by rw [take_enc, Cd.dec_enc n hn]; exact h)
  unfold Cd.numN Cd.numS
  rw [hf]
  exact ⟨rfl, rfl⟩
theorem bytes_on {x r : List Nat} {most : Int} (h : (x.length : Int) ≤ most) (hn : x.length < 281474976710656) : Cd.bytesL (some (lb x ++ r)) most = x ∧ Cd.bytesS (some (lb x ++ r)) most = some r := by
  have he : lb x ++ r = Cd.enc x.length ++ (x ++ r) := by unfold lb; rw [List.append_assoc]
  rw [he]
  have hf : Cd.fits (some (Cd.enc x.length ++ (x ++ r))) most = true := Cd.fits_some.2 ⟨by rw [List.length_append, Cd.enc_length]; omega, by rw [take_enc, Cd.dec_enc _ hn]; exact h⟩
  have hd : Cd.dec ((Cd.rest (some (Cd.enc x.length ++ (x ++ r)))).take 6) = x.length := by
    show Cd.dec ((Cd.enc x.length ++ (x ++ r)).take 6) = _
    rw [take_enc, Cd.dec_enc _ hn]
  have hb : Cd.fitsB (some (Cd.enc x.length ++ (x ++ r))) most = true := by
    unfold Cd.fitsB
    rw [hf, hd]
    show (true && decide (x.length ≤ (Cd.enc x.length ++ (x ++ r)).length - 6)) = true
    rw [List.length_append, Cd.enc_length, List.length_append]
    simp
  unfold Cd.bytesL Cd.bytesS
  rw [hb, if_pos rfl, if_pos rfl, hd]
  refine ⟨?_, ?_⟩
  · show ((Cd.enc x.length ++ (x ++ r)).drop 6).take x.length = x
    rw [drop_enc, List.take_left]
  · show some ((Cd.enc x.length ++ (x ++ r)).drop (6 + x.length)) = some r
    rw [← List.drop_drop, drop_enc, List.drop_left]
theorem bytes_off {x r : List Nat} {most : Int} (h : most < (x.length : Int)) (hn : x.length < 281474976710656) : Cd.bytesL (some (lb x ++ r)) most = [] ∧ Cd.bytesS (some (lb x ++ r)) most = none := by
  have he : lb x ++ r = Cd.enc x.length ++ (x ++ r) := by unfold lb; rw [List.append_assoc]
  rw [he]
  have hf : Cd.fits (some (Cd.enc x.length ++ (x ++ r))) most = false := Cd.fits_great (by rw [take_enc, Cd.dec_enc _ hn]; exact h)
  have hb : Cd.fitsB (some (Cd.enc x.length ++ (x ++ r))) most = false := by unfold Cd.fitsB; rw [hf]; rfl
  unfold Cd.bytesL Cd.bytesS
  rw [hb]
  exact ⟨rfl, rfl⟩

/-- One thing is read, with a bound of its kind. -/
def rdD (mk : Int) (s : Cd.St) : Ac.D := ⟨Cd.numN s mk, Cd.numN (Cd.numS s mk) 999, Cd.bytesL (Cd.numS (Cd.numS s mk) 999) 64⟩
def stD (mk : Int) (s : Cd.St) : Cd.St := Cd.bytesS (Cd.numS (Cd.numS s mk) 999) 64
def sts (mk : Int) (s : Cd.St) : Nat → Cd.St
  | 0 => s
  | k + 1 => stD mk (sts mk s k)
def rds (mk : Int) (s : Cd.St) : Nat → List Ac.D
  | 0 => []
  | k + 1 => rds mk s k ++ [rdD mk (sts mk s k)]
def act (mk : Int) (b : List Nat) : Option (List Ac.D) :=
  if Cd.endB (sts mk (Cd.numS (some b) 8) (Cd.numN (some b) 8)) && Ac.ok (rds mk (Cd.numS (some b) 8) (Cd.numN (some b) 8)) then some (rds mk (Cd.numS (some b) 8) (Cd.numN (some b) 8)) else none
/-- Inputs are read. -/
def iS (s : Cd.St) : Nat → Cd.St
  | 0 => s
  | k + 1 => Cd.bytesS (iS s k) 256
def iL (s : Cd.St) : Nat → List (List Nat)
  | 0 => []
  | k + 1 => iL s k ++ [Cd.bytesL (iS s k) 256]
def behind (s : Cd.St) : Bool := Cd.endB (iS (Cd.numS s 8) (Cd.numN s 8))
def inputs (s : Cd.St) : List (List Nat) := iL (Cd.numS s 8) (Cd.numN s 8)
def parse (mk mb : Int) (b : List Nat) : Option (List Ac.D × List (List Nat)) := match act mk (Cd.bytesL (some b) mb) with
  | none => none
  | some L => if behind (Cd.bytesS (some b) mb) then some (L, inputs (Cd.bytesS (some b) mb)) else none
def value (mk mb : Int) (b : List Nat) : Option (List Nat) := match parse mk mb b with
  | none => none
  | some (L, I) => Ac.run L I

def pair (K : Option (List Ac.D)) (s : Cd.St) : Option (List Ac.D × List (List Nat)) := match K with
  | none => none
  | some L => if behind s then some (L, inputs s) else none
def came (K : Option (List Ac.D × List (List Nat))) : Option (List Nat) := match K with
  | none => none
  | some (L, I) => Ac.run L I
theorem parse_eq (mk mb : Int) (b : List Nat) : parse mk mb b = pair (act mk (Cd.bytesL (some b) mb)) (Cd.bytesS (some b) mb) := rfl
theorem value_eq (mk mb : Int) (b : List Nat) : value mk mb b = came (parse mk mb b) := rfl
theorem rds_len (mk : Int) (s : Cd.St) : ∀ k, (rds mk s k).length = k
  | 0 => rfl
  | k + 1 => by rw [rds, List.length_append, rds_len mk s k]; rfl
theorem iL_len (s : Cd.St) : ∀ k, (iL s k).length = k
  | 0 => rfl
  | k + 1 => by rw [iL, List.length_append, iL_len s k]; rfl
theorem numN_le {s : Cd.St} {most : Int} (h : 0 ≤ most) : (Cd.numN s most : Int) ≤ most := by
  unfold Cd.numN
  split
  · rename_i hf
    rcases s with _ | l
    · cases hf
    · exact (Cd.fits_some.1 hf).2
  · exact h
theorem numN_none (most : Int) : Cd.numN none most = 0 := rfl
theorem numS_none (most : Int) : Cd.numS none most = none := rfl
theorem bytesS_none (most : Int) : Cd.bytesS none most = none := rfl
theorem stD_none (mk : Int) : stD mk none = none := rfl
theorem bytesL_le {s : Cd.St} {most : Int} (h : 0 ≤ most) : ((Cd.bytesL s most).length : Int) ≤ most := by
  unfold Cd.bytesL
  split
  · rename_i hf
    unfold Cd.fitsB at hf
    rw [Bool.and_eq_true] at hf
    rcases s with _ | l
    · cases hf.1
    · have := (Cd.fits_some.1 hf.1).2
      rw [List.length_take]
      change (_ : Int) ≤ _
      show ((min (Cd.dec (l.take 6)) _ : Nat) : Int) ≤ most
      omega
  · simpa using h
theorem bytesL_lt {s : Cd.St} {most : Int} (h : ∀ l, s = some l → ∀ c ∈ l, c < 256) : ∀ c ∈ Cd.bytesL s most, c < 256 := by
  unfold Cd.bytesL
  split
  · rcases s with _ | l
    · intro c hc
      simp [Cd.rest] at hc
    · intro c hc
      exact h l rfl c (List.mem_of_mem_drop (List.mem_of_mem_take hc))
  · intro c hc
    cases hc
theorem numS_sub {s : Cd.St} {most : Int} (h : ∀ l, s = some l → ∀ c ∈ l, c < 256) : ∀ l, Cd.numS s most = some l → ∀ c ∈ l, c < 256 := by
  intro l hl
  unfold Cd.numS at hl
  split at hl
  · injection hl with hl
    subst hl
    rcases s with _ | l
    · intro c hc
      simp [Cd.rest] at hc
    · intro c hc
      exact h l rfl c (List.mem_of_mem_drop hc)
  · cases hl
theorem bytesS_sub {s : Cd.St} {most : Int} (h : ∀ l, s = some l → ∀ c ∈ l, c < 256) : ∀ l, Cd.bytesS s most = some l → ∀ c ∈ l, c < 256 := by
  intro l hl
  unfold Cd.bytesS at hl
  split at hl
  · injection hl with hl
    subst hl
    rcases s with _ | l
    · intro c hc
      simp [Cd.rest] at hc
    · intro c hc
      exact h l rfl c (List.mem_of_mem_drop hc)
  · cases hl
theorem iS_sub {s : Cd.St} (h : ∀ l, s = some l → ∀ c ∈ l, c < 256) : ∀ k l, iS s k = some l → ∀ c ∈ l, c < 256
  | 0 => h
  | k + 1 => bytesS_sub (iS_sub h k)
theorem iL_good {s : Cd.St} (h : ∀ l, s = some l → ∀ c ∈ l, c < 256) : ∀ k, ∀ x ∈ iL s k, x.length ≤ 256 ∧ ∀ c ∈ x, c < 256
  | 0 => by simp [iL]
  | k + 1 => by
    intro x hx
    rw [iL, List.mem_append, List.mem_singleton] at hx
    rcases hx with hx | rfl
    · exact iL_good h k x hx
    · refine ⟨?_, bytesL_lt (iS_sub h k)⟩
      have := bytesL_le (s := iS s k) (most := 256) (by decide)
      omega
theorem sts_sub {mk : Int} {s : Cd.St} (h : ∀ l, s = some l → ∀ c ∈ l, c < 256) : ∀ k l, sts mk s k = some l → ∀ c ∈ l, c < 256
  | 0 => h
  | k + 1 => bytesS_sub (numS_sub (numS_sub (sts_sub h k)))
theorem rds_good {mk : Int} (hmk : 0 ≤ mk) {s : Cd.St} (h : ∀ l, s = some l → ∀ c ∈ l, c < 256) : ∀ k, ∀ d ∈ rds mk s k, (d.kind : Int) ≤ mk ∧ d.n ≤ 999 ∧ d.text.length ≤ 64 ∧ ∀ c ∈ d.text, c < 256
  | 0 => by simp [rds]
  | k + 1 => by
    intro d hd
    rw [rds, List.mem_append, List.mem_singleton] at hd
    rcases hd with hd | rfl
    · exact rds_good hmk h k d hd
    · refine ⟨numN_le hmk, ?_, ?_, bytesL_lt (numS_sub (numS_sub (sts_sub h k)))⟩
      · have := numN_le (s := Cd.numS (sts mk s k) mk) (most := 999) (by decide)
        show Cd.numN _ 999 ≤ 999
        omega
      · have := bytesL_le (s := Cd.numS (Cd.numS (sts mk s k) mk) 999) (most := 64) (by decide)
        show (Cd.bytesL _ 64).length ≤ 64
        omega
/-- Whether kinds are held to 11, or to 999: what is an action is the same. -/
theorem rds_two (s : Cd.St) : ∀ k, (sts 11 s k = sts 999 s k ∧ rds 11 s k = rds 999 s k) ∨ (sts 11 s k = none ∧ ∃ d ∈ rds 999 s k, 11 < d.kind)
  | 0 => .inl ⟨rfl, rfl⟩
  | k + 1 => by
    rcases rds_two s k with ⟨h1, h2⟩ | ⟨h1, d, hd, hk⟩
    · rcases h11 : Cd.fits (sts 999 s k) 11 with _ | _
      · rcases h999 : Cd.fits (sts 999 s k) 999 with _ | _
        · refine .inl ⟨?_, ?_⟩
          · rw [sts, sts, h1]
            unfold stD Cd.numS
            rw [h11, h999]
          · rw [rds, rds, h2, h1]
            unfold rdD Cd.numN Cd.numS
            rw [h11, h999]
        · refine .inr ⟨?_, rdD 999 (sts 999 s k), by simp [rds], ?_⟩
          · rw [sts, h1]
            unfold stD
            rw [show Cd.numS (sts 999 s k) 11 = none from by unfold Cd.numS; rw [h11]; rfl]
            rfl
          · show 11 < Cd.numN (sts 999 s k) 999
            unfold Cd.numN
            rw [h999, if_pos rfl]
            rcases hs : sts 999 s k with _ | l
            · rw [hs] at h999
              cases h999
            · rw [hs] at h999 h11
              have h3 := Cd.fits_some.1 h999
              have h4 : ¬ (6 ≤ l.length ∧ (Cd.dec (l.take 6) : Int) ≤ 11) := fun h => by rw [Cd.fits_some.2 h] at h11; cases h11
              show 11 < Cd.dec (l.take 6)
              omega
      · have h999 : Cd.fits (sts 999 s k) 999 = true := by
          rcases hs : sts 999 s k with _ | l
          · rw [hs] at h11
            cases h11
          · rw [hs] at h11
            have := Cd.fits_some.1 h11
            exact Cd.fits_some.2 ⟨this.1, by omega⟩
        refine .inl ⟨?_, ?_⟩
        · rw [sts, sts, h1]
          unfold stD Cd.numS
          rw [h11, h999]
        · rw [rds, rds, h2, h1]
          unfold rdD Cd.numN Cd.numS
          rw [h11, h999]
    · refine .inr ⟨?_, d, by rw [rds]; exact List.mem_append_left _ hd, hk⟩
      rw [sts, h1]
      rfl
theorem act_two (b : List Nat) : act 11 b = act 999 b := by
  unfold act
  rcases rds_two (Cd.numS (some b) 8) (Cd.numN (some b) 8) with ⟨h1, h2⟩ | ⟨h1, d, hd, hk⟩
  · rw [h1, h2]
  · have : Ac.ok (rds 999 (Cd.numS (some b) 8) (Cd.numN (some b) 8)) = false := by
      rcases h : Ac.ok (rds 999 (Cd.numS (some b) 8) (Cd.numN (some b) 8)) with _ | _
      · rfl
      · have := ((Ac.ok_small h).2.2 d hd).2.1
        omega
    rw [h1, this, Bool.and_false]
    rfl
theorem bytes_long {b : List Nat} {m m' : Int} (h : (b.length : Int) ≤ m) (h' : (b.length : Int) ≤ m') : Cd.bytesL (some b) m = Cd.bytesL (some b) m' ∧ Cd.bytesS (some b) m = Cd.bytesS (some b) m' := by
  have : Cd.fitsB (some b) m = Cd.fitsB (some b) m' := by
    unfold Cd.fitsB Cd.fits
    show (_ && decide (Cd.dec (b.take 6) ≤ b.length - 6)) = (_ && decide (Cd.dec (b.take 6) ≤ b.length - 6))
    by_cases h6 : 6 ≤ b.length
    · by_cases hd : Cd.dec (b.take 6) ≤ b.length - 6
      · have e1 : (Cd.dec (b.take 6) : Int) ≤ m := by omega
        have e2 : (Cd.dec (b.take 6) : Int) ≤ m' := by omega
        simp [e1, e2]
      · simp [hd]
    · simp [h6]
  unfold Cd.bytesL Cd.bytesS
  rw [this]
  exact ⟨rfl, rfl⟩
theorem parse_two {b : List Nat} {m m' : Int} (h : (b.length : Int) ≤ m) (h' : (b.length : Int) ≤ m') : parse 11 m b = parse 999 m' b := by
  unfold parse
  rw [act_two, (bytes_long h h').1, (bytes_long h h').2]
theorem value_two {b : List Nat} {m m' : Int} (h : (b.length : Int) ≤ m) (h' : (b.length : Int) ≤ m') : value 11 m b = value 999 m' b := by
  unfold value
  rw [parse_two h h']

/-- What was written is read. -/
theorem rd_on {d : Ac.D} {r : List Nat} (h1 : d.kind ≤ 11) (h2 : d.n ≤ 999) (h3 : d.text.length ≤ 64) : rdD 999 (some (Ac.bytesD d ++ r)) = d ∧ stD 999 (some (Ac.bytesD d ++ r)) = some r := by
  have he : Ac.bytesD d ++ r = Cd.enc d.kind ++ (Cd.enc d.n ++ (lb d.text ++ r)) := by unfold Ac.bytesD lb; simp only [List.append_assoc]
  rw [he]
  obtain ⟨a1, a2⟩ := num_on (n := d.kind) (r := Cd.enc d.n ++ (lb d.text ++ r)) (most := 999) (by omega) (by omega)
  obtain ⟨b1, b2⟩ := num_on (n := d.n) (r := lb d.text ++ r) (most := 999) (by omega) (by omega)
  obtain ⟨c1, c2⟩ := bytes_on (x := d.text) (r := r) (most := 64) (by omega) (by omega)
  unfold rdD stD
  rw [a1, a2, b1, b2, c1, c2]
  exact ⟨rfl, rfl⟩
theorem rds_on {L : List Ac.D} {r : List Nat} (h : ∀ d ∈ L, d.kind ≤ 11 ∧ d.n ≤ 999 ∧ d.text.length ≤ 64) : ∀ k, k ≤ L.length → rds 999 (some (L.flatMap Ac.bytesD ++ r)) k = L.take k ∧ sts 999 (some (L.flatMap Ac.bytesD ++ r)) k = some ((L.drop k).flatMap Ac.bytesD ++ r)
  | 0, _ => ⟨rfl, rfl⟩
  | k + 1, hk => by
    obtain ⟨h1, h2⟩ := rds_on h k (by omega)
    have hk' : k < L.length := by omega
    have hd := h _ (List.getElem_mem hk')
    have e : (L.drop k).flatMap Ac.bytesD ++ r = Ac.bytesD (L[k]'hk') ++ ((L.drop (k + 1)).flatMap Ac.bytesD ++ r) := by
      rw [List.drop_eq_getElem_cons hk', List.flatMap_cons, List.append_assoc]
    obtain ⟨g1, g2⟩ := rd_on (d := L[k]'hk') (r := (L.drop (k + 1)).flatMap Ac.bytesD ++ r) hd.1 hd.2.1 hd.2.2
    rw [rds, sts, h1, h2, e, g1, g2]
    exact ⟨(List.take_succ_eq_append_getElem hk').symm, rfl⟩
theorem act_on {L : List Ac.D} (h : Ac.ok L = true) : act 999 (Ac.bytes L) = some L := by
  obtain ⟨h1, h2, h3⟩ := Ac.ok_small h
  obtain ⟨a1, a2⟩ := num_on (n := L.length) (r := L.flatMap Ac.bytesD) (most := 8) (by omega) (by omega)
  obtain ⟨b1, b2⟩ := rds_on (L := L) (r := []) (fun d hd => ⟨(h3 d hd).2.1, (h3 d hd).2.2.1, (h3 d hd).2.2.2.1⟩) L.length (Nat.le_refl _)
  rw [List.append_nil] at b1 b2
  unfold act Ac.bytes
  rw [a1, a2, b1, b2, List.take_length, h, List.drop_length]
  rfl
theorem iS_on {I : List (List Nat)} {r : List Nat} : ∀ k, k ≤ I.length → (∀ j, j < k → (I.getD j []).length ≤ 256) → iL (some (I.flatMap lb ++ r)) k = I.take k ∧ iS (some (I.flatMap lb ++ r)) k = some ((I.drop k).flatMap lb ++ r)
  | 0, _, _ => ⟨rfl, rfl⟩
  | k + 1, hk, h => by
    obtain ⟨h1, h2⟩ := iS_on (I := I) (r := r) k (by omega) (fun j hj => h j (by omega))
    have hk' : k < I.length := by omega
    have hd := h k (by omega)
    rw [List.getD_eq_getElem?_getD, List.getElem?_eq_getElem hk', Option.getD_some] at hd
    have e : (I.drop k).flatMap lb ++ r = lb (I[k]'hk') ++ ((I.drop (k + 1)).flatMap lb ++ r) := by
      rw [List.drop_eq_getElem_cons hk', List.flatMap_cons, List.append_assoc]
    obtain ⟨g1, g2⟩ := bytes_on (x := I[k]'hk') (r := (I.drop (k + 1)).flatMap lb ++ r) (most := 256) (by omega) (by omega)
    rw [iL, iS, h1, h2, e, g1, g2]
    exact ⟨(List.take_succ_eq_append_getElem hk').symm, rfl⟩
theorem iS_stop {s : Cd.St} {k : Nat} (h : iS s k = none) : ∀ j, iS s (k + j) = none
  | 0 => h
  | j + 1 => by
    show Cd.bytesS (iS s (k + j)) 256 = none
    rw [iS_stop h j]
    rfl
def few (I : List (List Nat)) : Bool := decide (I.length ≤ 8) && I.all fun x => decide (x.length ≤ 256)
theorem first_long : ∀ (I : List (List Nat)), (I.all fun x => decide (x.length ≤ 256)) = false → ∃ k, k < I.length ∧ 256 < (I.getD k []).length ∧ ∀ j, j < k → (I.getD j []).length ≤ 256
  | [], h => by cases h
  | x :: I, h => by
    by_cases hx : x.length ≤ 256
    · rw [List.all_cons, show decide (x.length ≤ 256) = true from decide_eq_true hx, Bool.true_and] at h
      obtain ⟨k, h1, h2, h3⟩ := first_long I h
      refine ⟨k + 1, by simpa using h1, h2, fun j hj => ?_⟩
      rcases j with _ | j
      · exact hx
      · exact h3 j (by omega)
    · exact ⟨0, by simp, by show 256 < x.length; omega, fun j hj => absurd hj (by omega)⟩
theorem behind_on {I : List (List Nat)} (hn : I.length < 281474976710656) (hx : ∀ x ∈ I, x.length < 281474976710656) : behind (some (Cd.enc I.length ++ I.flatMap lb)) = few I ∧ (few I = true → inputs (some (Cd.enc I.length ++ I.flatMap lb)) = I) := by
  by_cases h8 : I.length ≤ 8
  · obtain ⟨a1, a2⟩ := num_on (n := I.length) (r := I.flatMap lb) (most := 8) (by omega) hn
    unfold behind inputs
    rw [a1, a2]
    rcases hall : I.all fun x => decide (x.length ≤ 256) with _ | _
    · obtain ⟨k, h1, h2, h3⟩ := first_long I hall
      obtain ⟨b1, b2⟩ := iS_on (I := I) (r := []) k (by omega) h3
      rw [List.append_nil] at b1 b2
      have e : (I.drop k).flatMap lb ++ [] = lb (I[k]'h1) ++ ((I.drop (k + 1)).flatMap lb) := by
        rw [List.append_nil, List.drop_eq_getElem_cons h1, List.flatMap_cons]
      rw [List.getD_eq_getElem?_getD, List.getElem?_eq_getElem h1, Option.getD_some] at h2
      obtain ⟨g1, g2⟩ := bytes_off (x := I[k]'h1) (r := (I.drop (k + 1)).flatMap lb) (most := 256) (by omega) (hx _ (List.getElem_mem h1))
      have hs : iS (some (I.flatMap lb)) (k + 1) = none := by
        show Cd.bytesS (iS (some (I.flatMap lb)) k) 256 = none
        rw [b2, e, g2]
      have := iS_stop hs (I.length - (k + 1))
      rw [show k + 1 + (I.length - (k + 1)) = I.length from by omega] at this
      have hf : few I = false := by unfold few; rw [hall, Bool.and_false]
      rw [this, hf]
      exact ⟨rfl, fun h => by cases h⟩
    · have hj : ∀ j, j < I.length → (I.getD j []).length ≤ 256 := fun j hj => by
        rw [List.all_eq_true] at hall
        have := hall _ (List.getElem_mem hj)
        rw [List.getD_eq_getElem?_getD, List.getElem?_eq_getElem hj, Option.getD_some]
        simpa using this
      obtain ⟨b1, b2⟩ := iS_on (I := I) (r := []) I.length (Nat.le_refl _) hj
      rw [List.append_nil] at b1 b2
      have hf : few I = true := by unfold few; rw [hall, decide_eq_true h8]; rfl
      rw [b1, b2, List.drop_length, List.take_length, hf]
      exact ⟨rfl, fun _ => rfl⟩
  · obtain ⟨a1, a2⟩ := num_off (n := I.length) (r := I.flatMap lb) (most := 8) (by omega) hn
    have hf : few I = false := by unfold few; rw [decide_eq_false h8]; rfl
    unfold behind inputs
    rw [a1, a2, hf]
    exact ⟨rfl, fun h => by cases h⟩
theorem parse_on {L : List Ac.D} {I : List (List Nat)} {mb : Int} (h : Ac.ok L = true) (hb : ((Ac.bytes L).length : Int) ≤ mb) (hb2 : (Ac.bytes L).length < 281474976710656) (hn : I.length < 281474976710656) (hx : ∀ x ∈ I, x.length < 281474976710656) :
    parse 999 mb (print (Ac.bytes L) I) = if few I then some (L, I) else none := by
  obtain ⟨a1, a2⟩ := bytes_on (x := Ac.bytes L) (r := Cd.enc I.length ++ I.flatMap lb) (most := mb) hb hb2
  obtain ⟨b1, b2⟩ := behind_on hn hx
  unfold parse print
  rw [a1, a2, act_on h]
  show (if behind _ = true then _ else _) = _
  rw [b1]
  rcases hf : few I with _ | _
  · rfl
  · rw [if_pos rfl, if_pos rfl, b2 hf]
theorem bytesD_len (d : Ac.D) : (Ac.bytesD d).length = 18 + d.text.length := by
  unfold Ac.bytesD
  simp only [List.length_append, Cd.enc_length]
  omega
theorem flat_len : ∀ (L : List Ac.D), (∀ d ∈ L, d.text.length ≤ 64) → (L.flatMap Ac.bytesD).length ≤ L.length * 82
  | [], _ => by simp
  | d :: L, h => by
    have := flat_len L fun x hx => h x (by simp [hx])
    have h1 := h d (by simp)
    rw [List.flatMap_cons, List.length_append, bytesD_len, List.length_cons]
    omega
theorem acts_len {L : List Ac.D} (h : Ac.ok L = true) : (Ac.bytes L).length ≤ 662 := by
  obtain ⟨h1, h2, h3⟩ := Ac.ok_small h
  have := flat_len L fun d hd => (h3 d hd).2.2.2.1
  unfold Ac.bytes
  rw [List.length_append, Cd.enc_length]
  have : L.length * 82 ≤ 8 * 82 := Nat.mul_le_mul_right _ h2
  omega
theorem lbs_len : ∀ (I : List (List Nat)) (m : Nat), (∀ x ∈ I, x.length ≤ m) → (I.flatMap lb).length ≤ I.length * (6 + m)
  | [], _, _ => by simp
  | x :: I, m, h => by
    have := lbs_len I m fun y hy => h y (by simp [hy])
    have h1 := h x (by simp)
    rw [List.flatMap_cons, List.length_append, lb_length, List.length_cons, Nat.add_mul]
    omega
theorem print_len (M : List Nat) (I : List (List Nat)) : (print M I).length = 12 + M.length + (I.flatMap lb).length := by
  unfold print
  rw [List.length_append, List.length_append, lb_length, Cd.enc_length]
  omega
theorem parse_good {mb : Int} {b : List Nat} {L : List Ac.D} {I : List (List Nat)} (hb : ∀ c ∈ b, c < 256) (h : parse 999 mb b = some (L, I)) : Ac.ok L = true ∧ I.length ≤ 8 ∧ ∀ x ∈ I, x.length ≤ 256 ∧ ∀ c ∈ x, c < 256 := by
  have hs : ∀ l, some b = some l → ∀ c ∈ l, c < 256 := fun l hl => by injection hl with hl; rw [← hl]; exact hb
  unfold parse at h
  split at h
  · cases h
  · rename_i K hK
    split at h
    · injection h with h
      injection h with h1 h2
      subst h1
      subst h2
      refine ⟨?_, ?_, ?_⟩
      · unfold act at hK
        split at hK
        · rename_i ha
          injection hK with hK
          rw [Bool.and_eq_true] at ha
          rw [← hK]
          exact ha.2
        · cases hK
      · unfold inputs
        rw [iL_len]
        have := numN_le (s := Cd.bytesS (some b) mb) (most := 8) (by decide)
        omega
      · exact iL_good (numS_sub (bytesS_sub hs)) _
    · cases h
/-- What has one print is one. -/
theorem print_inj {L K : List Ac.D} {I J : List (List Nat)} (hL : Ac.ok L = true) (hK : Ac.ok K = true) (hI : few I = true) (hJ : few J = true) (hIx : ∀ x ∈ I, x.length < 281474976710656) (hJx : ∀ x ∈ J, x.length < 281474976710656) (h : print (Ac.bytes L) I = print (Ac.bytes K) J) : L = K ∧ I = J := by
  have f8 : ∀ {I : List (List Nat)}, few I = true → I.length < 281474976710656 := fun {I} h => by
    unfold few at h
    simp only [Bool.and_eq_true, decide_eq_true_eq] at h
    omega
  have h1 := parse_on (mb := 1000) hL (by have := acts_len hL; omega) (by have := acts_len hL; omega) (f8 hI) hIx
  have h2 := parse_on (mb := 1000) hK (by have := acts_len hK; omega) (by have := acts_len hK; omega) (f8 hJ) hJx
  rw [hI, if_pos rfl] at h1
  rw [hJ, if_pos rfl, ← h, h1] at h2
  injection h2 with h2
  injection h2 with h3 h4
  exact ⟨h3, h4⟩
end Go.Proofs.Ytldnpedegcbglaa.Pr
