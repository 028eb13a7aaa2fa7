/- LockSteps in plain words: what stands there, and what the steps come to. -/
import Derived.Test.YtlopabmndliggaaDoorZ13
namespace Go.Proofs.YtlopabmndliggaaDoor
set_option maxRecDepth 100000
open Go.ChangeShapes Go.WideShapes Go.ChangeAt Go.RowKit Go.ChangeMaps
open Sf Lk

def noL : List Nat := [110, 111, 32, 108, 111, 99, 107]
theorem open_noL : Rc.openL noL = none := by decide +kernel
/-- What lies in the claim's file. -/
def byK (kk : Nat) (m : Nat) : List Nat := if kk = 1 then Lo.bytes ⟨5, 1, 7, (m : Int) + 10⟩ else if kk = 2 then Lo.bytes ⟨5, 1, 7, (m : Int)⟩ else noL
def roomK (kk : Nat) (rm : Bool) : Int := if rm then 1000 else if kk = 0 then 0 else if kk = 3 then 7 else 34
def sA (kk m : Nat) : S := if kk = 0 then lkN 1000 0 (-1) else lkO clm (byK kk m) 1 1000 1 (-1)
def sB (kk m : Nat) (rm : Bool) : S := if kk = 0 then lkN (roomK 0 rm) 0 (-1) else lkO clm (byK kk m) 1 (roomK kk rm) 1 (-1)
def wantK (kk : Nat) : Nat := [1, 2, 1, 3].getD kk 0
def stepsK (kk : Nat) : Nat := [2, 1, 3, 1].getD kk 0
def wantB (kk : Nat) (rm : Bool) : Nat := if rm = false ∧ wantK kk = 1 then 4 else wantK kk
def stepsB (kk : Nat) (rm : Bool) : Nat := if rm = false ∧ wantK kk = 1 then 2 else stepsK kk
abbrev tmp9 : List Nat := Nm.temp (Nm.held 2 999) (Nm.held 3 99999) (Nm.held 9 99999)
def bg : Tk := ⟨⟨clm, 0, lo0, tmp9, 0, 0⟩, 2, 3, 50⟩
theorem bg_is : Lk.begin clm 2 3 9 50 = bg := rfl
theorem file_tmp9 : Nm.file tmp9 = true := Nm.temp_file (Nm.held_le _ _) (Nm.held_le _ _) (Nm.held_le _ _)
theorem nice_tmp9 : Nice tmp9 := nice_temp _ _ _ (Nm.held_le _ _) (Nm.held_le _ _) (Nm.held_le _ _)
theorem clm_lt9 : clm < tmp9 := lt_temp (by omega)
/-- n steps, the last of which tells q, and the others that there is more. -/
def Runs : Nat → S → Tk → Int → S → Tk → Nat → Prop
  | 0, _, _, _, _, _, _ => False
  | 1, s, t, now, s', t', q => t.step s now = (s', t', q) ∧ q ≠ 0
  | n + 2, s, t, now, s', t', q => ∃ s1 t1, t.step s now = (s1, t1, 0) ∧ Runs (n + 1) s1 t1 now s' t' q
def endS (kk m : Nat) (rm : Bool) : S :=
  if rm = true ∧ kk = 0 then lkO clm (Lo.bytes ⟨2, 3, 1, (m : Int) + 50⟩) 1 1000 1 (-1)
  else if rm = true ∧ kk = 2 then lkO clm (Lo.bytes ⟨2, 3, 8, (m : Int) + 50⟩) 3 1000 3 (-1)
  else sB kk m rm
/-- What is held at the end. -/
def endO (kk m : Nat) (rm : Bool) : Option (Int × Lo) :=
  if rm = true ∧ kk = 0 then some (1, ⟨2, 3, 1, (m : Int) + 50⟩) else if rm = true ∧ kk = 2 then some (3, ⟨2, 3, 8, (m : Int) + 50⟩) else none
theorem len_byK {kk m : Nat} : (byK kk m).length ≤ 34 := by
  unfold byK
  split
  · rw [Lo.bytes_len]; omega
  · split
    · rw [Lo.bytes_len]; omega
    · decide
theorem steps_runs (kk m : Nat) (hk : kk ≤ 3) (hm : m ≤ 65535) (rm : Bool) : ∃ t', Runs (stepsB kk rm) (sB kk m rm) bg m (endS kk m rm) t' (wantB kk rm) ∧ t'.sw.file = clm ∧ t'.sw.temp = tmp9 ∧ t'.lease = 50 ∧ t'.sw.told = wantB kk rm ∧ t'.sw.held = endO kk m rm := by
  have hc : clock (m : Int) = m := clock_ok (by omega) (by omega)
  have h1 : OkL ⟨5, 1, 7, (m : Int) + 10⟩ := by simp [OkL]; omega
  have h2 : OkL ⟨5, 1, 7, (m : Int)⟩ := by simp [OkL]; omega
  have h3 : OkL ⟨2, 3, 1, (m : Int) + 50⟩ := by simp [OkL]; omega
  have h4 : OkL ⟨2, 3, 8, (m : Int) + 50⟩ := by simp [OkL]; omega
  obtain rfl | rfl | rfl | rfl : kk = 0 ∨ kk = 1 ∨ kk = 2 ∨ kk = 3 := by omega
  · rcases rm with _ | _
    · refine ⟨⟨⟨clm, 0, ⟨2, 3, 1, clock m + 50⟩, tmp9, 1, 4⟩, 2, 3, 50⟩, ⟨_, _, st_none file_clm lo0, ?_, by decide⟩, rfl, rfl, rfl, rfl, rfl⟩
      exact st_make_full file_clm lo0 (by decide)
    · refine ⟨⟨⟨clm, 1, ⟨2, 3, 1, (m : Int) + 50⟩, tmp9, 1, 1⟩, 2, 3, 50⟩, ⟨_, _, st_none file_clm lo0, ?_, by decide⟩, rfl, rfl, rfl, rfl, ?_⟩
      · have := st_make (r := 1000) (n := 0) (c := -1) (T := tmp9) (σ := 0) (who := 2) (inc := 3) (ls := 50) (now := (m : Int)) file_clm lo0 (by decide)
        rw [hc] at this
        exact this
      · show some (_, Lo.held _) = _
        rw [held_ok h3]
        rfl
  · have hq : what (Rc.openL (Lo.bytes ⟨5, 1, 7, (m : Int) + 10⟩)) 2 3 (clock m) = 4 := by
      rw [hc, what_ok h1, if_neg (by simp), if_neg (by simp; omega)]
    have hs := fun r => st_read (k := 1) (n := 1) (r := r) (c := -1) (T := tmp9) (σ := 0) (ls := 50) (who := 2) (inc := 3) (now := (m : Int)) file_clm lo0 _ (open_ok h1) 4 hq
    rcases rm with _ | _
    · exact ⟨_, ⟨hs 34, by decide⟩, rfl, rfl, rfl, rfl, rfl⟩
    · exact ⟨_, ⟨hs 1000, by decide⟩, rfl, rfl, rfl, rfl, rfl⟩
  · have hq : what (Rc.openL (Lo.bytes ⟨5, 1, 7, (m : Int)⟩)) 2 3 (clock m) = 3 := by
      rw [hc, what_ok h2, if_neg (by simp), if_pos (by simp)]
    have hs := fun r => st_read (k := 1) (n := 1) (r := r) (c := -1) (T := tmp9) (σ := 0) (ls := 50) (who := 2) (inc := 3) (now := (m : Int)) file_clm lo0 _ (open_ok h2) 3 hq
    rcases rm with _ | _
    · refine ⟨⟨⟨clm, 1, ⟨2, 3, 8, clock m + 50⟩, tmp9, 2, 4⟩, 2, 3, 50⟩, ⟨_, _, hs 34, ?_, by decide⟩, rfl, rfl, rfl, rfl, rfl⟩
      exact st_put_full file_tmp9 clm_lt9 ⟨5, 1, 8, (m : Int)⟩ (by rw [Lo.bytes_len]; decide)
    · have hp := st_put (b := Lo.bytes ⟨5, 1, 7, (m : Int)⟩) (k := 1) (n := 1) (r := 1000) (c := -1) (σ := 1) (who := 2) (inc := 3) (ls := 50) (now := (m : Int)) file_tmp9 clm_lt9 ⟨5, 1, 8, (m : Int)⟩ (by rw [Lo.bytes_len]; decide)
      have hv := st_move (b := Lo.bytes ⟨5, 1, 7, (m : Int)⟩) (k := 1) (m := 2) (n := 2) (B := Lo.bytes ⟨2, 3, 8, clock m + 50⟩) (r := 1000) (c := -1) (σ := 1) (who := 2) (inc := 3) (ls := 50) (now := (m : Int)) file_clm file_tmp9 clm_lt9 ⟨2, 3, 8, clock m + 50⟩ rfl
      refine ⟨⟨⟨clm, 3, ⟨2, 3, 8, clock m + 50⟩, tmp9, 3, 1⟩, 2, 3, 50⟩, ⟨_, _, hs 1000, _, _, hp, ?_, by decide⟩, rfl, rfl, rfl, rfl, ?_⟩
      · rw [show endS 2 m true = lkO clm (Lo.bytes ⟨2, 3, 8, clock m + 50⟩) 3 1000 3 (-1) by rw [hc]; rfl]
        exact hv
      · show some (_, Lo.held _) = _
        rw [hc, held_ok h4]
        rfl
  · have hs := fun r => st_read (b := noL) (k := 1) (n := 1) (r := r) (c := -1) (T := tmp9) (σ := 0) (ls := 50) (who := 2) (inc := 3) (now := (m : Int)) file_clm lo0 lo0 (by rw [open_noL]; rfl) 1 (by rw [open_noL]; rfl)
    rcases rm with _ | _
    · exact ⟨_, ⟨hs 7, by decide⟩, rfl, rfl, rfl, rfl, rfl⟩
    · exact ⟨_, ⟨hs 1000, by decide⟩, rfl, rfl, rfl, rfl, rfl⟩
theorem used_endS (kk m : Nat) (rm : Bool) : used (endS kk m rm).l ≤ 1000 ∧ (endS kk m rm).next ≤ 10 := by
  unfold endS
  split
  · exact ⟨by rw [used_one, Lo.bytes_len]; omega, by show (1 : Nat) ≤ 10; omega⟩
  · split
    · exact ⟨by rw [used_one, Lo.bytes_len]; omega, by show (3 : Nat) ≤ 10; omega⟩
    · unfold sB
      split
      · exact ⟨by rw [used_non]; omega, by show (0 : Nat) ≤ 10; omega⟩
      · exact ⟨by rw [used_one]; have := len_byK (kk := kk) (m := m); omega, by show (1 : Nat) ≤ 10; omega⟩
theorem used_sB (kk m : Nat) (rm : Bool) : used (sB kk m rm).l ≤ 34 ∧ (sB kk m rm).next ≤ 1 := by
  unfold sB
  split
  · exact ⟨by rw [used_non]; omega, by show (0 : Nat) ≤ 1; omega⟩
  · exact ⟨by rw [used_one]; exact len_byK, by show (1 : Nat) ≤ 1; omega⟩
theorem runs_next {n : Nat} {s s' : S} {t t' : Tk} {now : Int} {q : Nat} (h : Runs n s t now s' t' q) : (n = 1 ∧ t.step s now = (s', t', q) ∧ q ≠ 0) ∨ (∃ s1 t1, 2 ≤ n ∧ t.step s now = (s1, t1, 0) ∧ Runs (n - 1) s1 t1 now s' t' q) := by
  match n, h with
  | 1, h => exact .inl ⟨rfl, h.1, h.2⟩
  | n + 2, h =>
    obtain ⟨s1, t1, h1, h2⟩ := h
    exact .inr ⟨s1, t1, by omega, h1, h2⟩
theorem runs_ne : ∀ (n : Nat) {s s' : S} {t t' : Tk} {now : Int} {q : Nat}, Runs n s t now s' t' q → q ≠ 0
  | 0, _, _, _, _, _, _, h => h.elim
  | 1, _, _, _, _, _, _, h => h.2
  | n + 2, _, _, _, _, _, _, h => by
    obtain ⟨s1, t1, _, h⟩ := h
    exact runs_ne (n + 1) h
theorem runs_pos {n : Nat} {s s' : S} {t t' : Tk} {now : Int} {q : Nat} (h : Runs n s t now s' t' q) : 0 < n := by
  rcases n with _ | n
  · exact h.elim
  · omega
theorem heldV_some {fl f : List Nat} {k kh : Int} {l L : Lo} {q : Bool} (h : heldV fl (some (k, l)) = .tuple #[guardV f kh, loV L, .bool q]) : q = true ∧ L = l := by
  obtain ⟨a, b, c, d⟩ := l
  obtain ⟨a', b', c', d'⟩ := L
  simp only [heldV] at h
  injection h with h
  simp at h
  obtain ⟨_, ⟨rfl, rfl, rfl, rfl⟩, rfl⟩ := h
  exact ⟨rfl, rfl⟩
theorem heldV_none {fl f : List Nat} {kh : Int} {L : Lo} {q : Bool} (h : heldV fl none = .tuple #[guardV f kh, loV L, .bool q]) : q = false := by
  obtain ⟨a', b', c', d'⟩ := L
  simp only [heldV] at h
  injection h with h
  simp at h
  simp_all
theorem wantB_one {kk : Nat} (hk : kk ≤ 3) {rm : Bool} (h : ¬ (rm = true ∧ kk = 0)) (h2 : ¬ (rm = true ∧ kk = 2)) : wantB kk rm ≠ 1 := by
  obtain rfl | rfl | rfl | rfl : kk = 0 ∨ kk = 1 ∨ kk = 2 ∨ kk = 3 := by omega
  all_goals rcases rm with _ | _ <;> revert h h2 <;> decide
end Go.Proofs.YtlopabmndliggaaDoor
