/- Locks in plain words: what a lock's file is for somebody, and what a step of a Take, of a Write, does. -/
import Derived.Test.YtfheaognfocofaaGreatDoorZ10
import Derived.Test.YtfheaognfocofaaGreatDoorZ02
import Derived.Test.YtfheaognfocofaaGreatDoorZ00
namespace Go.Proofs.YtfheaognfocofaaGreatDoor
set_option maxRecDepth 100000
namespace Lk
open Sf
/-- A lock: who, inc, epoch, until. -/
structure Lo where
  a : Int
  b : Int
  c : Int
  d : Int
  deriving DecidableEq
def Lo.bytes (x : Lo) : List Nat := Rc.lock (Cd.held x.a) (Cd.held x.b) (Cd.held x.c) (Cd.held x.d)
def Lo.held (x : Lo) : Lo := ⟨Cd.held x.a, Cd.held x.b, Cd.held x.c, Cd.held x.d⟩
def lo0 : Lo := ⟨0, 0, 0, 0⟩
def loOf : Option Rc.L4 → Lo
  | none => lo0
  | some (a, b, c, d) => ⟨a, b, c, d⟩
/-- What a lock is: 1 bad, 2 mine, 3 open, 4 another's. -/
def what (o : Option Rc.L4) (who inc now : Int) : Nat :=
  if o.isNone || decide ((loOf o).c = 1099511627776) then 1
  else if (loOf o).a = who ∧ (loOf o).b = inc ∧ now < (loOf o).d then 2
  else if (loOf o).d ≤ now ∨ ((loOf o).a = who ∧ (loOf o).b < inc) then 3 else 4
structure Sw where
  file : List Nat
  stamp : Int
  lock : Lo
  temp : List Nat
  next : Nat
  told : Nat
def Sw.put (s : S) (x : Sw) : S × Sw × Nat :=
  if (putS s x.temp x.lock.bytes).2.2 = 0 then ((putS s x.temp x.lock.bytes).1, { x with next := 3 }, 0) else ((putS s x.temp x.lock.bytes).1, x, 4)
def Sw.mv (s : S) (x : Sw) : S × Sw × Nat :=
  if (Sf.move s x.temp x.file [(x.file, x.stamp)]).2.2 = 0 then ((Sf.move s x.temp x.file [(x.file, x.stamp)]).1, { x with stamp := ((Sf.move s x.temp x.file [(x.file, x.stamp)]).2.1 : Int) }, 1)
  else ((Sf.move s x.temp x.file [(x.file, x.stamp)]).1, { x with next := 4 }, 0)
def Sw.doo (s : S) (x : Sw) : S × Sw × Nat :=
  if x.next = 2 then x.put s else if x.next = 3 then x.mv s else ((Sf.drop s x.temp []).1, x, 2)
structure Tk where
  sw : Sw
  who : Int
  inc : Int
  lease : Int
def Tk.own (t : Tk) (e now : Int) : Tk := { t with sw := { t.sw with lock := ⟨t.who, t.inc, e, now + t.lease⟩ } }
def Tk.read (s : S) (t : Tk) (now : Int) : S × Tk × Nat :=
  if (Sf.read s t.sw.file).2.2 = 4 then (s, { t with sw := { t.sw with next := 1 } }, 0)
  else
    let o := Rc.openL (Sf.read s t.sw.file).1
    let y : Sw := { t.sw with stamp := ((Sf.read s t.sw.file).2.1 : Int), lock := loOf o }
    let k := what o t.who t.inc now
    if k = 2 then (s, { t with sw := y }, 1)
    else if k = 4 then (s, { t with sw := y }, 2)
    else if k = 3 then (s, { t with sw := { y with lock := { y.lock with c := y.lock.c + 1 }, next := 2 } }, 0)
    else (s, { t with sw := y }, 3)
def Tk.make (s : S) (t : Tk) : S × Tk × Nat :=
  let r := Sf.make s t.sw.file t.sw.lock.bytes
  if r.2.2 = 0 then (r.1, { t with sw := { t.sw with stamp := (r.2.1 : Int) } }, 1)
  else if r.2.2 = 2 then (r.1, t, 4) else (r.1, t, 2)
def lift (t : Tk) (r : S × Sw × Nat) : S × Tk × Nat := (r.1, { t with sw := r.2.1 }, r.2.2)
def Tk.doo (s : S) (t : Tk) (now : Int) : S × Tk × Nat :=
  if t.sw.next = 0 then t.read s now
  else if t.sw.next = 1 then (t.own 1 now).make s
  else if t.sw.next = 2 then lift (t.own t.sw.lock.c now) ((t.own t.sw.lock.c now).sw.doo s)
  else lift t (t.sw.doo s)
/-- Time is held to its bounds. -/
def clock (now : Int) : Int := min (max now 0) 549755813888
def Tk.step (s : S) (t : Tk) (now : Int) : S × Tk × Nat :=
  if t.sw.told = 0 then
    let r := t.doo s (clock now)
    (r.1, { r.2.1 with sw := { r.2.1.sw with told := r.2.2 } }, r.2.2)
  else (s, t, t.sw.told)
def Sw.step (s : S) (x : Sw) : S × Sw × Nat :=
  if x.told = 0 then
    let r := x.doo s
    (r.1, { r.2.1 with told := r.2.2 }, r.2.2)
  else (s, x, x.told)
def Sw.held (x : Sw) : Option (Int × Lo) := if x.told = 1 then some (x.stamp, x.lock.held) else none
/-- A Take as it is begun. -/
def begin (file : List Nat) (who inc temp lease : Int) : Tk :=
  ⟨⟨file, 0, lo0, Nm.temp (Nm.held who 999) (Nm.held inc 99999) (Nm.held temp 99999), 0, 0⟩, who, inc, min (max lease 0) 1000000⟩
/-- A Write as it is begun. -/
def write (file : List Nat) (stamp : Int) (l : Lo) (temp till : Int) : Sw :=
  ⟨file, stamp, { l with d := till }, Nm.temp (Nm.held l.a 999) (Nm.held l.b 99999) (Nm.held temp 99999), 2, 0⟩
theorem Lo.bytes_len (x : Lo) : x.bytes.length = 34 := Rc.lock_length _ _ _ _
theorem Lo.bytes_lt (x : Lo) : ∀ y ∈ x.bytes, y < 256 := Rc.lock_lt _ _ _ _
theorem Lo.opened (x : Lo) : loOf (Rc.openL x.bytes) = x.held := by
  unfold Lo.bytes
  rw [Rc.openL_lock _ _ _ _ (Cd.held_le _) (Cd.held_le _) (Cd.held_le _) (Cd.held_le _)]
  rfl
theorem Lo.opens (x : Lo) : Rc.openL x.bytes = some (Cd.held x.a, Cd.held x.b, Cd.held x.c, Cd.held x.d) := by
  unfold Lo.bytes
  rw [Rc.openL_lock _ _ _ _ (Cd.held_le _) (Cd.held_le _) (Cd.held_le _) (Cd.held_le _)]
end Lk
end Go.Proofs.YtfheaognfocofaaGreatDoor

/- Locks in plain words: a Take to its end; how files grow by its steps. -/
namespace Go.Proofs.YtfheaognfocofaaGreatDoor
set_option maxRecDepth 100000
namespace Lk
open Sf
def takeRun : Nat → S → Tk → Int → S × Tk × Nat
  | 0, s, t, _ => (s, t, 0)
  | k + 1, s, t, now => if (t.step s now).2.2 = 0 then takeRun k (t.step s now).1 (t.step s now).2.1 now else t.step s now
def writeRun : Nat → S → Sw → S × Sw × Nat
  | 0, s, x => (s, x, 0)
  | k + 1, s, x => if (x.step s).2.2 = 0 then writeRun k (x.step s).1 (x.step s).2.1 else x.step s

theorem put_used {s : S} (ho : Ord s.l) (t b : List Nat) : used (putS s t b).1.l ≤ used s.l + b.length ∧ (putS s t b).1.next ≤ s.next + 1 := by
  unfold putS
  split
  · split
    · refine ⟨?_, Nat.le_refl _⟩
      show used (put s.l ⟨t, b, s.next + 1⟩) ≤ _
      rw [used_put]
      have := used_gone ho t
      show used (gone s.l t) + b.length ≤ _
      omega
    · exact ⟨by show used s.l ≤ _; omega, by show s.next ≤ _; omega⟩
  · exact ⟨by show used s.l ≤ _; omega, by show s.next ≤ _; omega⟩
theorem make_used {s : S} (ho : Ord s.l) (t b : List Nat) : used (make s t b).1.l ≤ used s.l + b.length ∧ (make s t b).1.next ≤ s.next + 1 := by
  unfold make
  split
  · split
    · exact ⟨by show used s.l ≤ _; omega, by show s.next ≤ _; omega⟩
    · exact put_used ho t b
  · exact ⟨by show used s.l ≤ _; omega, by show s.next ≤ _; omega⟩
theorem used_gone_le {l : List Fi} (ho : Ord l) (t : List Nat) : used (gone l t) ≤ used l := by
  have := used_gone ho t
  omega
theorem move_used {s : S} (ho : Ord s.l) (a b : List Nat) (g : List (List Nat × Int)) : used (Sf.move s a b g).1.l ≤ used s.l ∧ (Sf.move s a b g).1.next ≤ s.next + 1 := by
  unfold Sf.move
  have h0 : used s.l ≤ used s.l ∧ s.next ≤ s.next + 1 := ⟨Nat.le_refl _, Nat.le_succ _⟩
  split
  · exact h0
  · split
    · split
      · refine ⟨?_, Nat.le_refl _⟩
        show used (put (gone s.l a) ⟨b, Sf.bytes s.l a, s.next + 1⟩) ≤ _
        rw [used_put]
        have h1 := used_gone ho a
        have h2 := used_gone_le (ord_gone ho a) b
        show used (gone (gone s.l a) b) + (Sf.bytes s.l a).length ≤ _
        omega
      · exact h0
    · exact h0
theorem drop_used {s : S} (ho : Ord s.l) (t : List Nat) (g : List (List Nat × Int)) : used (Sf.drop s t g).1.l ≤ used s.l ∧ (Sf.drop s t g).1.next ≤ s.next := by
  unfold Sf.drop
  have h0 : used s.l ≤ used s.l ∧ s.next ≤ s.next := ⟨Nat.le_refl _, Nat.le_refl _⟩
  split
  · split
    · exact ⟨used_gone_le ho t, Nat.le_refl _⟩
    · exact h0
  · exact h0
/-- Files grow by a lock's bytes a step at most, and one stamp. -/
def Grows (s s' : S) : Prop := used s'.l ≤ used s.l + 34 ∧ s'.next ≤ s.next + 1
theorem Grows.refl (s : S) : Grows s s := ⟨Nat.le_add_right _ _, Nat.le_succ _⟩
theorem sw_grows {s : S} (ho : Ord s.l) (x : Sw) : Grows s (x.doo s).1 ∧ (x.doo s).2.1.file = x.file ∧ (x.doo s).2.1.temp = x.temp := by
  unfold Sw.doo
  split
  · have h := put_used ho x.temp x.lock.bytes
    rw [x.lock.bytes_len] at h
    unfold Sw.put
    split <;> exact ⟨h, rfl, rfl⟩
  · split
    · have h := move_used ho x.temp x.file [(x.file, x.stamp)]
      unfold Sw.mv
      split <;> exact ⟨⟨Nat.le_trans h.1 (Nat.le_add_right _ _), h.2⟩, rfl, rfl⟩
    · have h := drop_used ho x.temp []
      exact ⟨⟨Nat.le_trans h.1 (Nat.le_add_right _ _), Nat.le_trans h.2 (Nat.le_succ _)⟩, rfl, rfl⟩
theorem read_grows (s : S) (t : Tk) (now : Int) : Grows s (t.read s now).1 ∧ (t.read s now).2.1.sw.file = t.sw.file ∧ (t.read s now).2.1.sw.temp = t.sw.temp ∧ (t.read s now).2.1.lease = t.lease := by
  unfold Tk.read
  split
  · exact ⟨Grows.refl s, rfl, rfl, rfl⟩
  · dsimp only
    split
    · exact ⟨Grows.refl s, rfl, rfl, rfl⟩
    · split
      · exact ⟨Grows.refl s, rfl, rfl, rfl⟩
      · split <;> exact ⟨Grows.refl s, rfl, rfl, rfl⟩
theorem make_grows {s : S} (ho : Ord s.l) (t : Tk) : Grows s (t.make s).1 ∧ (t.make s).2.1.sw.file = t.sw.file ∧ (t.make s).2.1.sw.temp = t.sw.temp ∧ (t.make s).2.1.lease = t.lease := by
  have h := make_used ho t.sw.file t.sw.lock.bytes
  rw [t.sw.lock.bytes_len] at h
  unfold Tk.make
  dsimp only
  split
  · exact ⟨h, rfl, rfl, rfl⟩
  · split <;> exact ⟨h, rfl, rfl, rfl⟩
theorem tk_grows {s : S} (ho : Ord s.l) (t : Tk) (now : Int) : Grows s (t.doo s now).1 ∧ (t.doo s now).2.1.sw.file = t.sw.file ∧ (t.doo s now).2.1.sw.temp = t.sw.temp ∧ (t.doo s now).2.1.lease = t.lease := by
  unfold Tk.doo
  split
  · exact read_grows s t now
  · split
    · exact make_grows ho (t.own 1 now)
    · split
      · have h := sw_grows ho (t.own t.sw.lock.c now).sw
        exact ⟨h.1, h.2.1, h.2.2, rfl⟩
      · have h := sw_grows ho t.sw
        exact ⟨h.1, h.2.1, h.2.2, rfl⟩
theorem step_grows {s : S} (ho : Ord s.l) (t : Tk) (now : Int) : Grows s (t.step s now).1 ∧ (t.step s now).2.1.sw.file = t.sw.file ∧ (t.step s now).2.1.sw.temp = t.sw.temp ∧ (t.step s now).2.1.lease = t.lease := by
  unfold Tk.step
  split
  · exact tk_grows ho t (clock now)
  · exact ⟨Grows.refl s, rfl, rfl, rfl⟩
theorem wstep_grows {s : S} (ho : Ord s.l) (x : Sw) : Grows s (x.step s).1 ∧ (x.step s).2.1.file = x.file ∧ (x.step s).2.1.temp = x.temp := by
  unfold Sw.step
  split
  · exact sw_grows ho x
  · exact ⟨Grows.refl s, rfl, rfl⟩
/-- What is told is what the step told. -/
theorem step_told (s : S) (t : Tk) (now : Int) : (t.step s now).2.1.sw.told = (t.step s now).2.2 := by
  unfold Tk.step
  split <;> rfl
theorem wstep_told (s : S) (x : Sw) : (x.step s).2.1.told = (x.step s).2.2 := by
  unfold Sw.step
  split <;> rfl
theorem takeRun_zero {k : Nat} {s : S} {t : Tk} {now : Int} (h : (t.step s now).2.2 = 0) : takeRun (k + 1) s t now = takeRun k (t.step s now).1 (t.step s now).2.1 now := by rw [takeRun, if_pos h]
theorem takeRun_end {k : Nat} {s : S} {t : Tk} {now : Int} (h : (t.step s now).2.2 ≠ 0) : takeRun (k + 1) s t now = t.step s now := by rw [takeRun, if_neg h]
theorem writeRun_zero {k : Nat} {s : S} {t : Sw} (h : (t.step s).2.2 = 0) : writeRun (k + 1) s t = writeRun k (t.step s).1 (t.step s).2.1 := by rw [writeRun, if_pos h]
theorem writeRun_end {k : Nat} {s : S} {t : Sw} (h : (t.step s).2.2 ≠ 0) : writeRun (k + 1) s t = t.step s := by rw [writeRun, if_neg h]
theorem begin_lease (fl : List Nat) (a b c l : Int) : 0 ≤ (begin fl a b c l).lease ∧ (begin fl a b c l).lease ≤ 1000000 := by
  show 0 ≤ min (max l 0) 1000000 ∧ min (max l 0) 1000000 ≤ 1000000
  omega
end Lk
end Go.Proofs.YtfheaognfocofaaGreatDoor

/- Locks in plain words: a lock alone among the files. -/
namespace Go.Proofs.YtfheaognfocofaaGreatDoor
set_option maxRecDepth 100000
namespace Lk
open Sf
/-- A file alone; with one more behind it. -/
abbrev lkN (r : Int) (n : Nat) (c : Int) : S := ⟨[], r, n, c⟩
abbrev lkO (fl b : List Nat) (k : Nat) (r : Int) (n : Nat) (c : Int) : S := ⟨[⟨fl, b, k⟩], r, n, c⟩
abbrev lkT (fl b : List Nat) (k : Nat) (T B : List Nat) (m : Nat) (r : Int) (n : Nat) (c : Int) : S := ⟨[⟨fl, b, k⟩, ⟨T, B, m⟩], r, n, c⟩
variable {fl T b B : List Nat} {k m n : Nat} {r c σ now who inc ls : Int}
theorem read_non (hf : Nm.file fl = true) : Sf.read (lkN r n c) fl = ([], 0, 4) := by
  unfold Sf.read
  rw [if_pos hf]
  rfl
theorem get_hd (fl b : List Nat) (k : Nat) (l : List Fi) : Sf.get (⟨fl, b, k⟩ :: l) fl = some ⟨fl, b, k⟩ := by simp [Sf.get]
theorem get_tl {fl T : List Nat} (h : fl ≠ T) (b : List Nat) (k : Nat) (l : List Fi) : Sf.get (⟨fl, b, k⟩ :: l) T = Sf.get l T := by simp [Sf.get, h]
theorem read_one (hf : Nm.file fl = true) : Sf.read (lkO fl b k r n c) fl = (b, k, 0) := by
  unfold Sf.read
  rw [if_pos hf]
  simp only [get_hd]
theorem put_non (x : Fi) : Sf.put [] x = [x] := rfl
theorem fits_none {s : S} {t : List Nat} {q : Nat} (hg : Sf.get s.l t = none) (hq : 0 < q) : fits s t q = decide ((used s.l : Int) + q ≤ s.room) := by
  unfold fits Sf.bytes
  rw [hg]
  show (decide (q ≤ 0) || decide ((used s.l : Int) + ((q : Int) - ((0 : Nat) : Int)) ≤ s.room)) = _
  rw [decide_eq_false (by omega : ¬ q ≤ 0), Bool.false_or]
  congr 2
theorem putS_fit {s : S} {t : List Nat} {b : List Nat} (hf : Nm.file t = true) (hg : Sf.get s.l t = none) (hq : 0 < b.length) (h : (used s.l : Int) + b.length ≤ s.room) : putS s t b = (wr s t b, s.next + 1, 0) := by
  unfold putS
  rw [if_pos hf, fits_none hg hq, if_pos (decide_eq_true h)]
theorem putS_full {s : S} {t : List Nat} {b : List Nat} (hf : Nm.file t = true) (hg : Sf.get s.l t = none) (hq : 0 < b.length) (h : ¬ (used s.l : Int) + b.length ≤ s.room) : putS s t b = (s, 0, 2) := by
  unfold putS
  rw [if_pos hf, fits_none hg hq, if_neg (by simpa using h)]
theorem used_non : used (lkN r n c).l = 0 := rfl
theorem used_one : used (lkO fl b k r n c).l = b.length := by simp [used]
theorem used_two : used (lkT fl b k T B m r n c).l = b.length + B.length := by simp [used]
theorem make_non (hf : Nm.file fl = true) (hB : 0 < B.length) (h : (B.length : Int) ≤ r) : make (lkN r n c) fl B = (lkO fl B (n + 1) r (n + 1) c, n + 1, 0) := by
  unfold make
  rw [if_pos hf, if_neg (by simp [Sf.get]), putS_fit hf rfl hB (by rw [used_non]; simpa using h)]
  rfl
theorem make_full (hf : Nm.file fl = true) (hB : 0 < B.length) (h : ¬ (B.length : Int) ≤ r) : make (lkN r n c) fl B = (lkN r n c, 0, 2) := by
  unfold make
  rw [if_pos hf, if_neg (by simp [Sf.get]), putS_full hf rfl hB (by rw [used_non]; simpa using h)]
theorem put_one (h : fl < T) : Sf.put [⟨fl, b, k⟩] ⟨T, B, m⟩ = [⟨fl, b, k⟩, ⟨T, B, m⟩] := by
  have hne := lt_ne h
  unfold Sf.put Sf.gone
  simp [hne, h]
theorem putS_one (hT : Nm.file T = true) (hl : fl < T) (hB : 0 < B.length) (h : (b.length : Int) + B.length ≤ r) : putS (lkO fl b k r n c) T B = (lkT fl b k T B (n + 1) r (n + 1) c, n + 1, 0) := by
  rw [putS_fit hT (get_tl (lt_ne hl) _ _ _) hB (by rw [used_one]; exact h)]
  show ((⟨Sf.put [⟨fl, b, k⟩] ⟨T, B, n + 1⟩, r, n + 1, c⟩ : S), n + 1, 0) = _
  rw [put_one hl]
theorem putS_ful (hT : Nm.file T = true) (hl : fl < T) (hB : 0 < B.length) (h : ¬ (b.length : Int) + B.length ≤ r) : putS (lkO fl b k r n c) T B = (lkO fl b k r n c, 0, 2) := by
  rw [putS_full hT (get_tl (lt_ne hl) _ _ _) hB (by rw [used_one]; exact h)]
theorem gone_tl (h : fl ≠ T) : Sf.gone [⟨fl, b, k⟩, ⟨T, B, m⟩] T = [⟨fl, b, k⟩] := by
  unfold Sf.gone
  simp [h]
theorem put_own : Sf.put [⟨fl, b, k⟩] ⟨fl, B, m⟩ = [⟨fl, B, m⟩] := by
  unfold Sf.put Sf.gone
  simp
theorem move_two (hf : Nm.file fl = true) (hT : Nm.file T = true) (hl : fl < T) (h : (k : Int) = σ) : Sf.move (lkT fl b k T B m r n c) T fl [(fl, σ)] = (lkO fl B (n + 1) r (n + 1) c, n + 1, 0) := by
  have hne := lt_ne hl
  have hr : Sf.refuse (lkT fl b k T B m r n c).l [(fl, σ)] [T, fl] = 0 := by
    simp [Sf.refuse, Sf.guards, Sf.guard, Sf.stamp, hf, hT, get_hd, h]
  have hg : Sf.get (lkT fl b k T B m r n c).l T = some ⟨T, B, m⟩ := by rw [get_tl hne, get_hd]
  unfold Sf.move
  rw [if_neg (fun e => hne e.symm), if_pos hr, if_pos (by rw [hg]; rfl)]
  show (wr (rm (lkT fl b k T B m r n c) T) fl (Sf.bytes [⟨fl, b, k⟩, ⟨T, B, m⟩] T), _, _) = _
  have e1 : Sf.bytes [⟨fl, b, k⟩, ⟨T, B, m⟩] T = B := by unfold Sf.bytes; rw [get_tl hne, get_hd]; rfl
  rw [e1]
  show ((⟨Sf.put (Sf.gone [⟨fl, b, k⟩, ⟨T, B, m⟩] T) ⟨fl, B, n + 1⟩, r, n + 1, c⟩ : S), n + 1, 0) = _
  rw [gone_tl hne, put_own]
theorem move_off (hf : Nm.file fl = true) (hT : Nm.file T = true) (hl : fl < T) (h : ¬ (k : Int) = σ) : Sf.move (lkT fl b k T B m r n c) T fl [(fl, σ)] = (lkT fl b k T B m r n c, 0, 5) := by
  have hne := lt_ne hl
  have hr : Sf.refuse (lkT fl b k T B m r n c).l [(fl, σ)] [T, fl] = 5 := by
    simp [Sf.refuse, Sf.guards, Sf.guard, Sf.stamp, hf, hT, get_hd, h]
  unfold Sf.move
  rw [if_neg (fun e => hne e.symm), if_neg (by rw [hr]; omega), hr]
theorem drop_two (hT : Nm.file T = true) (hl : fl < T) : Sf.drop (lkT fl b k T B m r n c) T [] = (lkO fl b k r n c, 0) := by
  have hne := lt_ne hl
  have hr : Sf.refuse (lkT fl b k T B m r n c).l [] [T] = 0 := by simp [Sf.refuse, Sf.guards, hT]
  unfold Sf.drop
  rw [if_pos hr, if_pos (by rw [get_tl hne, get_hd]; rfl)]
  show ((⟨Sf.gone [⟨fl, b, k⟩, ⟨T, B, m⟩] T, r, n, c⟩ : S), 0) = _
  rw [gone_tl hne]

theorem sw_put_ok {s s1 : S} {x : Sw} {j : Nat} (h : putS s x.temp x.lock.bytes = (s1, j, 0)) : x.put s = (s1, { x with next := 3 }, 0) := by
  unfold Sw.put
  rw [h]
  rfl
theorem sw_put_full {s s1 : S} {x : Sw} {j : Nat} (h : putS s x.temp x.lock.bytes = (s1, j, 2)) : x.put s = (s1, x, 4) := by
  unfold Sw.put
  rw [h]
  rfl
theorem sw_mv_ok {s s1 : S} {x : Sw} {j : Nat} (h : Sf.move s x.temp x.file [(x.file, x.stamp)] = (s1, j, 0)) : x.mv s = (s1, { x with stamp := (j : Int) }, 1) := by
  unfold Sw.mv
  rw [h]
  rfl
theorem sw_mv_off {s s1 : S} {x : Sw} {j e : Nat} (h : Sf.move s x.temp x.file [(x.file, x.stamp)] = (s1, j, e + 1)) : x.mv s = (s1, { x with next := 4 }, 0) := by
  unfold Sw.mv
  rw [h]
  rfl
theorem tk_make_ok {s s1 : S} {t : Tk} {j : Nat} (h : Sf.make s t.sw.file t.sw.lock.bytes = (s1, j, 0)) : t.make s = (s1, { t with sw := { t.sw with stamp := (j : Int) } }, 1) := by
  unfold Tk.make
  rw [h]
  rfl
theorem tk_make_full {s s1 : S} {t : Tk} {j : Nat} (h : Sf.make s t.sw.file t.sw.lock.bytes = (s1, j, 2)) : t.make s = (s1, t, 4) := by
  unfold Tk.make
  rw [h]
  rfl
/-- The steps of a Take. -/
theorem st_none (hf : Nm.file fl = true) (l0 : Lo) : Tk.step (lkN r n c) ⟨⟨fl, σ, l0, T, 0, 0⟩, who, inc, ls⟩ now = (lkN r n c, ⟨⟨fl, σ, l0, T, 1, 0⟩, who, inc, ls⟩, 0) := by
  have h : Tk.doo (lkN r n c) ⟨⟨fl, σ, l0, T, 0, 0⟩, who, inc, ls⟩ (clock now) = (lkN r n c, ⟨⟨fl, σ, l0, T, 1, 0⟩, who, inc, ls⟩, 0) := by
    show Tk.read _ _ _ = _
    unfold Tk.read
    rw [if_pos (by rw [read_non hf])]
  unfold Tk.step
  rw [if_pos rfl, h]
theorem st_make (hf : Nm.file fl = true) (l0 : Lo) (h : 34 ≤ r) : Tk.step (lkN r n c) ⟨⟨fl, σ, l0, T, 1, 0⟩, who, inc, ls⟩ now = (lkO fl (Lo.bytes ⟨who, inc, 1, clock now + ls⟩) (n + 1) r (n + 1) c, ⟨⟨fl, ((n + 1 : Nat) : Int), ⟨who, inc, 1, clock now + ls⟩, T, 1, 1⟩, who, inc, ls⟩, 1) := by
  have hm : make (lkN r n c) fl (Lo.bytes ⟨who, inc, 1, clock now + ls⟩) = _ := make_non hf (by rw [Lo.bytes_len]; omega) (by rw [Lo.bytes_len]; exact h)
  have h : Tk.doo (lkN r n c) ⟨⟨fl, σ, l0, T, 1, 0⟩, who, inc, ls⟩ (clock now) = (lkO fl (Lo.bytes ⟨who, inc, 1, clock now + ls⟩) (n + 1) r (n + 1) c, ⟨⟨fl, ((n + 1 : Nat) : Int), ⟨who, inc, 1, clock now + ls⟩, T, 1, 0⟩, who, inc, ls⟩, 1) := by
    show Tk.make _ _ = _
    rw [tk_make_ok hm]
    rfl
  unfold Tk.step
  rw [if_pos rfl, h]
theorem st_make_full (hf : Nm.file fl = true) (l0 : Lo) (h : ¬ 34 ≤ r) : Tk.step (lkN r n c) ⟨⟨fl, σ, l0, T, 1, 0⟩, who, inc, ls⟩ now = (lkN r n c, ⟨⟨fl, σ, ⟨who, inc, 1, clock now + ls⟩, T, 1, 4⟩, who, inc, ls⟩, 4) := by
  have hm : make (lkN r n c) fl (Lo.bytes ⟨who, inc, 1, clock now + ls⟩) = _ := make_full hf (by rw [Lo.bytes_len]; omega) (by rw [Lo.bytes_len]; exact h)
  have h : Tk.doo (lkN r n c) ⟨⟨fl, σ, l0, T, 1, 0⟩, who, inc, ls⟩ (clock now) = (lkN r n c, ⟨⟨fl, σ, ⟨who, inc, 1, clock now + ls⟩, T, 1, 0⟩, who, inc, ls⟩, 4) := by
    show Tk.make _ _ = _
    rw [tk_make_full hm]
    rfl
  unfold Tk.step
  rw [if_pos rfl, h]
/-- What is read of a file that is there. -/
theorem st_read (hf : Nm.file fl = true) (l0 M : Lo) (hM : loOf (Rc.openL b) = M) (q : Nat) (hq : what (Rc.openL b) who inc (clock now) = q) : Tk.step (lkO fl b k r n c) ⟨⟨fl, σ, l0, T, 0, 0⟩, who, inc, ls⟩ now =
    if q = 2 then (lkO fl b k r n c, ⟨⟨fl, (k : Int), M, T, 0, 1⟩, who, inc, ls⟩, 1)
    else if q = 4 then (lkO fl b k r n c, ⟨⟨fl, (k : Int), M, T, 0, 2⟩, who, inc, ls⟩, 2)
    else if q = 3 then (lkO fl b k r n c, ⟨⟨fl, (k : Int), { M with c := M.c + 1 }, T, 2, 0⟩, who, inc, ls⟩, 0)
    else (lkO fl b k r n c, ⟨⟨fl, (k : Int), M, T, 0, 3⟩, who, inc, ls⟩, 3) := by
  subst hM hq
  have h : Tk.doo (lkO fl b k r n c) ⟨⟨fl, σ, l0, T, 0, 0⟩, who, inc, ls⟩ (clock now) = if what (Rc.openL b) who inc (clock now) = 2 then (lkO fl b k r n c, ⟨⟨fl, (k : Int), loOf (Rc.openL b), T, 0, 0⟩, who, inc, ls⟩, 1)
    else if what (Rc.openL b) who inc (clock now) = 4 then (lkO fl b k r n c, ⟨⟨fl, (k : Int), loOf (Rc.openL b), T, 0, 0⟩, who, inc, ls⟩, 2)
    else if what (Rc.openL b) who inc (clock now) = 3 then (lkO fl b k r n c, ⟨⟨fl, (k : Int), { loOf (Rc.openL b) with c := (loOf (Rc.openL b)).c + 1 }, T, 2, 0⟩, who, inc, ls⟩, 0)
    else (lkO fl b k r n c, ⟨⟨fl, (k : Int), loOf (Rc.openL b), T, 0, 0⟩, who, inc, ls⟩, 3) := by
    show Tk.read _ _ _ = _
    unfold Tk.read
    rw [if_neg (by rw [read_one hf]; simp), read_one hf]
  unfold Tk.step
  rw [if_pos rfl, h]
  split
  · rfl
  · split
    · rfl
    · split <;> rfl
theorem st_put (hT : Nm.file T = true) (hl : fl < T) (l0 : Lo) (h : (b.length : Int) + 34 ≤ r) : Tk.step (lkO fl b k r n c) ⟨⟨fl, σ, l0, T, 2, 0⟩, who, inc, ls⟩ now = (lkT fl b k T (Lo.bytes ⟨who, inc, l0.c, clock now + ls⟩) (n + 1) r (n + 1) c, ⟨⟨fl, σ, ⟨who, inc, l0.c, clock now + ls⟩, T, 3, 0⟩, who, inc, ls⟩, 0) := by
  have hm : putS (lkO fl b k r n c) T (Lo.bytes ⟨who, inc, l0.c, clock now + ls⟩) = _ := putS_one hT hl (by rw [Lo.bytes_len]; omega) (by rw [Lo.bytes_len]; exact h)
  have h : Tk.doo (lkO fl b k r n c) ⟨⟨fl, σ, l0, T, 2, 0⟩, who, inc, ls⟩ (clock now) = (lkT fl b k T (Lo.bytes ⟨who, inc, l0.c, clock now + ls⟩) (n + 1) r (n + 1) c, ⟨⟨fl, σ, ⟨who, inc, l0.c, clock now + ls⟩, T, 3, 0⟩, who, inc, ls⟩, 0) := by
    show lift _ (Sw.put _ _) = _
    rw [sw_put_ok hm]
    rfl
  unfold Tk.step
  rw [if_pos rfl, h]
theorem st_put_full (hT : Nm.file T = true) (hl : fl < T) (l0 : Lo) (h : ¬ (b.length : Int) + 34 ≤ r) : Tk.step (lkO fl b k r n c) ⟨⟨fl, σ, l0, T, 2, 0⟩, who, inc, ls⟩ now = (lkO fl b k r n c, ⟨⟨fl, σ, ⟨who, inc, l0.c, clock now + ls⟩, T, 2, 4⟩, who, inc, ls⟩, 4) := by
  have hm : putS (lkO fl b k r n c) T (Lo.bytes ⟨who, inc, l0.c, clock now + ls⟩) = _ := putS_ful hT hl (by rw [Lo.bytes_len]; omega) (by rw [Lo.bytes_len]; exact h)
  have h : Tk.doo (lkO fl b k r n c) ⟨⟨fl, σ, l0, T, 2, 0⟩, who, inc, ls⟩ (clock now) = (lkO fl b k r n c, ⟨⟨fl, σ, ⟨who, inc, l0.c, clock now + ls⟩, T, 2, 0⟩, who, inc, ls⟩, 4) := by
    show lift _ (Sw.put _ _) = _
    rw [sw_put_full hm]
    rfl
  unfold Tk.step
  rw [if_pos rfl, h]
theorem st_move (hf : Nm.file fl = true) (hT : Nm.file T = true) (hl : fl < T) (l0 : Lo) (h : (k : Int) = σ) : Tk.step (lkT fl b k T B m r n c) ⟨⟨fl, σ, l0, T, 3, 0⟩, who, inc, ls⟩ now = (lkO fl B (n + 1) r (n + 1) c, ⟨⟨fl, ((n + 1 : Nat) : Int), l0, T, 3, 1⟩, who, inc, ls⟩, 1) := by
  have h : Tk.doo (lkT fl b k T B m r n c) ⟨⟨fl, σ, l0, T, 3, 0⟩, who, inc, ls⟩ (clock now) = (lkO fl B (n + 1) r (n + 1) c, ⟨⟨fl, ((n + 1 : Nat) : Int), l0, T, 3, 0⟩, who, inc, ls⟩, 1) := by
    show lift _ (Sw.mv _ ⟨fl, σ, l0, T, 3, 0⟩) = _
    rw [sw_mv_ok (x := ⟨fl, σ, l0, T, 3, 0⟩) (move_two hf hT hl h)]
    rfl
  unfold Tk.step
  rw [if_pos rfl, h]
/-- The steps of a Write. -/
theorem wt_put (hT : Nm.file T = true) (hl : fl < T) (l0 : Lo) (h : (b.length : Int) + 34 ≤ r) : Sw.step (lkO fl b k r n c) ⟨fl, σ, l0, T, 2, 0⟩ = (lkT fl b k T l0.bytes (n + 1) r (n + 1) c, ⟨fl, σ, l0, T, 3, 0⟩, 0) := by
  have hm : putS (lkO fl b k r n c) T l0.bytes = _ := putS_one hT hl (by rw [Lo.bytes_len]; omega) (by rw [Lo.bytes_len]; exact h)
  have h : Sw.doo (lkO fl b k r n c) ⟨fl, σ, l0, T, 2, 0⟩ = (lkT fl b k T l0.bytes (n + 1) r (n + 1) c, ⟨fl, σ, l0, T, 3, 0⟩, 0) := by
    show Sw.put _ _ = _
    rw [sw_put_ok hm]
  unfold Sw.step
  rw [if_pos rfl, h]
theorem wt_move (hf : Nm.file fl = true) (hT : Nm.file T = true) (hl : fl < T) (l0 : Lo) (h : (k : Int) = σ) : Sw.step (lkT fl b k T B m r n c) ⟨fl, σ, l0, T, 3, 0⟩ = (lkO fl B (n + 1) r (n + 1) c, ⟨fl, ((n + 1 : Nat) : Int), l0, T, 3, 1⟩, 1) := by
  have h : Sw.doo (lkT fl b k T B m r n c) ⟨fl, σ, l0, T, 3, 0⟩ = (lkO fl B (n + 1) r (n + 1) c, ⟨fl, ((n + 1 : Nat) : Int), l0, T, 3, 0⟩, 1) := by
    show Sw.mv _ _ = _
    rw [sw_mv_ok (x := ⟨fl, σ, l0, T, 3, 0⟩) (move_two hf hT hl h)]
  unfold Sw.step
  rw [if_pos rfl, h]
theorem wt_off (hf : Nm.file fl = true) (hT : Nm.file T = true) (hl : fl < T) (l0 : Lo) (h : ¬ (k : Int) = σ) : Sw.step (lkT fl b k T B m r n c) ⟨fl, σ, l0, T, 3, 0⟩ = (lkT fl b k T B m r n c, ⟨fl, σ, l0, T, 4, 0⟩, 0) := by
  have h : Sw.doo (lkT fl b k T B m r n c) ⟨fl, σ, l0, T, 3, 0⟩ = (lkT fl b k T B m r n c, ⟨fl, σ, l0, T, 4, 0⟩, 0) := by
    show Sw.mv _ _ = _
    rw [sw_mv_off (x := ⟨fl, σ, l0, T, 3, 0⟩) (move_off hf hT hl h)]
  unfold Sw.step
  rw [if_pos rfl, h]
theorem wt_drop (hT : Nm.file T = true) (hl : fl < T) (l0 : Lo) : Sw.step (lkT fl b k T B m r n c) ⟨fl, σ, l0, T, 4, 0⟩ = (lkO fl b k r n c, ⟨fl, σ, l0, T, 4, 2⟩, 2) := by
  have h : Sw.doo (lkT fl b k T B m r n c) ⟨fl, σ, l0, T, 4, 0⟩ = (lkO fl b k r n c, ⟨fl, σ, l0, T, 4, 0⟩, 2) := by
    show ((Sf.drop _ T []).1, _, 2) = _
    rw [drop_two hT hl]
  unfold Sw.step
  rw [if_pos rfl, h]
theorem wt_again {s : S} {x : Sw} (h : x.told ≠ 0) : Sw.step s x = (s, x, x.told) := by
  unfold Sw.step
  rw [if_neg h]
theorem tk_again {s : S} {t : Tk} (h : t.sw.told ≠ 0) : Tk.step s t now = (s, t, t.sw.told) := by
  unfold Tk.step
  rw [if_neg h]
theorem lt_temp {x a b d : Nat} {l : List Nat} (h : x < 116) : (x :: l) < Nm.temp a b d := by
  show (x :: l) < 116 :: _
  exact List.cons_lt_cons_iff.2 (.inl h)
/-- A Take to its end. -/
theorem run_new (hf : Nm.file fl = true) (l0 : Lo) (h : 34 ≤ r) (j : Nat) : takeRun (j + 2) (lkN r n c) ⟨⟨fl, σ, l0, T, 0, 0⟩, who, inc, ls⟩ now = (lkO fl (Lo.bytes ⟨who, inc, 1, clock now + ls⟩) (n + 1) r (n + 1) c, ⟨⟨fl, ((n + 1 : Nat) : Int), ⟨who, inc, 1, clock now + ls⟩, T, 1, 1⟩, who, inc, ls⟩, 1) := by
  rw [takeRun_zero (by rw [st_none hf]), st_none hf, takeRun_end (by rw [st_make hf _ h]; show (1 : Nat) ≠ 0; omega), st_make hf _ h]
theorem run_mine (hf : Nm.file fl = true) (l0 M : Lo) (hM : loOf (Rc.openL b) = M) (hq : what (Rc.openL b) who inc (clock now) = 2) (j : Nat) : takeRun (j + 1) (lkO fl b k r n c) ⟨⟨fl, σ, l0, T, 0, 0⟩, who, inc, ls⟩ now = (lkO fl b k r n c, ⟨⟨fl, (k : Int), M, T, 0, 1⟩, who, inc, ls⟩, 1) := by
  have h := st_read (k := k) (n := n) (r := r) (c := c) (T := T) (σ := σ) (ls := ls) hf l0 M hM 2 hq
  rw [if_pos rfl] at h
  rw [takeRun_end (by rw [h]; show (1 : Nat) ≠ 0; omega), h]
theorem run_busy (hf : Nm.file fl = true) (l0 M : Lo) (hM : loOf (Rc.openL b) = M) (hq : what (Rc.openL b) who inc (clock now) = 4) (j : Nat) : takeRun (j + 1) (lkO fl b k r n c) ⟨⟨fl, σ, l0, T, 0, 0⟩, who, inc, ls⟩ now = (lkO fl b k r n c, ⟨⟨fl, (k : Int), M, T, 0, 2⟩, who, inc, ls⟩, 2) := by
  have h := st_read (k := k) (n := n) (r := r) (c := c) (T := T) (σ := σ) (ls := ls) hf l0 M hM 4 hq
  rw [if_neg (by omega), if_pos rfl] at h
  rw [takeRun_end (by rw [h]; show (2 : Nat) ≠ 0; omega), h]
theorem run_open (hf : Nm.file fl = true) (hT : Nm.file T = true) (hl : fl < T) (l0 M : Lo) (hM : loOf (Rc.openL b) = M) (hq : what (Rc.openL b) who inc (clock now) = 3) (hr : (b.length : Int) + 34 ≤ r) (j : Nat) : takeRun (j + 3) (lkO fl b k r n c) ⟨⟨fl, σ, l0, T, 0, 0⟩, who, inc, ls⟩ now =
    (lkO fl (Lo.bytes ⟨who, inc, M.c + 1, clock now + ls⟩) (n + 2) r (n + 2) c, ⟨⟨fl, ((n + 2 : Nat) : Int), ⟨who, inc, M.c + 1, clock now + ls⟩, T, 3, 1⟩, who, inc, ls⟩, 1) := by
  have h := st_read (k := k) (n := n) (r := r) (c := c) (T := T) (σ := σ) (ls := ls) hf l0 M hM 3 hq
  rw [if_neg (by omega), if_neg (by omega), if_pos rfl] at h
  have h2 := st_put (k := k) (n := n) (c := c) (σ := (k : Int)) (ls := ls) (who := who) (inc := inc) (now := now) hT hl { M with c := M.c + 1 } hr
  have h3 := st_move (b := b) (k := k) (m := n + 1) (n := n + 1) (B := Lo.bytes ⟨who, inc, M.c + 1, clock now + ls⟩) (r := r) (c := c) (who := who) (inc := inc) (ls := ls) (now := now) (σ := (k : Int)) hf hT hl ⟨who, inc, M.c + 1, clock now + ls⟩ rfl
  rw [takeRun_zero (by rw [h]), h]
  dsimp only
  rw [takeRun_zero (by rw [h2]), h2]
  dsimp only
  rw [takeRun_end (by rw [h3]; show (1 : Nat) ≠ 0; omega), h3]
/-- A Write to its end. -/
theorem wrun_ok (hf : Nm.file fl = true) (hT : Nm.file T = true) (hl : fl < T) (l0 : Lo) (h : (k : Int) = σ) (hr : (b.length : Int) + 34 ≤ r) (j : Nat) : writeRun (j + 2) (lkO fl b k r n c) ⟨fl, σ, l0, T, 2, 0⟩ = (lkO fl l0.bytes (n + 2) r (n + 2) c, ⟨fl, ((n + 2 : Nat) : Int), l0, T, 3, 1⟩, 1) := by
  have h2 := wt_put (k := k) (n := n) (c := c) (σ := σ) hT hl l0 hr
  have h3 := wt_move (b := b) (m := n + 1) (n := n + 1) (B := l0.bytes) (r := r) (c := c) hf hT hl l0 h
  rw [writeRun_zero (by rw [h2]), h2]
  dsimp only
  rw [writeRun_end (by rw [h3]; show (1 : Nat) ≠ 0; omega), h3]
theorem wrun_off (hf : Nm.file fl = true) (hT : Nm.file T = true) (hl : fl < T) (l0 : Lo) (h : ¬ (k : Int) = σ) (hr : (b.length : Int) + 34 ≤ r) (j : Nat) : writeRun (j + 3) (lkO fl b k r n c) ⟨fl, σ, l0, T, 2, 0⟩ = (lkO fl b k r (n + 1) c, ⟨fl, σ, l0, T, 4, 2⟩, 2) := by
  have h2 := wt_put (k := k) (n := n) (c := c) (σ := σ) hT hl l0 hr
  have h3 := wt_off (b := b) (m := n + 1) (n := n + 1) (B := l0.bytes) (r := r) (c := c) hf hT hl l0 h
  have h4 := wt_drop (b := b) (k := k) (m := n + 1) (n := n + 1) (B := l0.bytes) (r := r) (c := c) (σ := σ) hT hl l0
  rw [writeRun_zero (by rw [h2]), h2]
  dsimp only
  rw [writeRun_zero (by rw [h3]), h3]
  dsimp only
  rw [writeRun_end (by rw [h4]; show (2 : Nat) ≠ 0; omega), h4]
end Lk
end Go.Proofs.YtfheaognfocofaaGreatDoor
