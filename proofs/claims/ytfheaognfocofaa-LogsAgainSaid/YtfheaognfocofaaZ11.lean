/- Locks in plain words: what a lock's file is for somebody, and what a step of a Take, of a Write, does. -/
import Derived.Test.YtfheaognfocofaaZ10
import Derived.Test.YtfheaognfocofaaZ02
import Derived.Test.YtfheaognfocofaaZ00
namespace Go.Proofs.Ytfheaognfocofaa
set_option maxRecDepth 100000
namespace Lk
open Sf
/-- A lock: who, inc, epoch, until. -/
structure Lo where
  a : Int
  b : Int
  c : Int
  d : Int
  deriving DecidableEq
def Lo.bytes (x : Lo) : List Nat := Rc.lock (Cd.held x.a) (Cd.held x.b) (Cd.held x.c) (Cd.held x.d)
def Lo.held (x : Lo) : Lo := ⟨Cd.held x.a, Cd.held x.b, Cd.held x.c, Cd.held x.d⟩
def lo0 : Lo := ⟨0, 0, 0, 0⟩
def loOf : Option Rc.L4 → Lo
  | none => lo0
  | some (a, b, c, d) => ⟨a, b, c, d⟩
/-- What a lock is: 1 bad, 2 mine, 3 open, 4 another's. -/
def what (o : Option Rc.L4) (who inc now : Int) : Nat :=
  if o.isNone || decide ((loOf o).c = 1099511627776) then 1
  else if (loOf o).a = who ∧ (loOf o).b = inc ∧ now < (loOf o).d then 2
  else if (loOf o).d ≤ now ∨ ((loOf o).a = who ∧ (loOf o).b < inc) then 3 else 4
structure Sw where
  file : List Nat
  stamp : Int
  lock : Lo
  temp : List Nat
  next : Nat
  told : Nat
def Sw.put (s : S) (x : Sw) : S × Sw × Nat :=
  if (putS s x.temp x.lock.bytes).2.2 = 0 then ((putS s x.temp x.lock.bytes).1, { x with next := 3 }, 0) else ((putS s x.temp x.lock.bytes).1, x, 4)
def Sw.mv (s : S) (x : Sw) : S × Sw × Nat :=
  if (Sf.move s x.temp x.file [(x.file, x.stamp)]).2.2 = 0 then ((Sf.move s x.temp x.file [(x.file, x.stamp)]).1, { x with stamp := ((Sf.move s x.temp x.file [(x.file, x.stamp)]).2.1 : Int) }, 1)
  else ((Sf.move s x.temp x.file [(x.file, x.stamp)]).1, { x with next := 4 }, 0)
def Sw.doo (s : S) (x : Sw) : S × Sw × Nat :=
  if x.next = 2 then x.put s else if x.next = 3 then x.mv s else ((Sf.drop s x.temp []).1, x, 2)
structure Tk where
  sw : Sw
  who : Int
  inc : Int
  lease : Int
def Tk.own (t : Tk) (e now : Int) : Tk := { t with sw := { t.sw with lock := ⟨t.who, t.inc, e, now + t.lease⟩ } }
def Tk.read (s : S) (t : Tk) (now : Int) : S × Tk × Nat :=
  if (Sf.read s t.sw.file).2.2 = 4 then (s, { t with sw := { t.sw with next := 1 } }, 0)
  else
    let o := Rc.openL (Sf.read s t.sw.file).1
    let y : Sw := { t.sw with stamp := ((Sf.read s t.sw.file).2.1 : Int), lock := loOf o }
    let k := what o t.who t.inc now
    if k = 2 then (s, { t with sw := y }, 1)
    else if k = 4 then (s, { t with sw := y }, 2)
    else if k = 3 then (s, { t with sw := { y with lock := { y.lock with c := y.lock.c + 1 }, next := 2 } }, 0)
    else (s, { t with sw := y }, 3)
def Tk.make (s : S) (t : Tk) : S × Tk × Nat :=
  let r := Sf.make s t.sw.file t.sw.lock.bytes
  if r.2.2 = 0 then (r.1, { t with sw := { t.sw with stamp := (r.2.1 : Int) } }, 1)
  else if r.2.2 = 2 then (r.1, t, 4) else (r.1, t, 2)
def lift (t : Tk) (r : S × Sw × Nat) : S × Tk × Nat := (r.1, { t with sw := r.2.1 }, r.2.2)
def Tk.doo (s : S) (t : Tk) (now : Int) : S × Tk × Nat :=
  if t.sw.next = 0 then t.read s now
  else if t.sw.next = 1 then (t.own 1 now).make s
  else if t.sw.next = 2 then lift (t.own t.sw.lock.c now) ((t.own t.sw.lock.c now).sw.doo s)
  else lift t (t.sw.doo s)
/-- Time is held to its bounds. -/
def clock (now : Int) : Int := min (max now 0) 549755813888
def Tk.step (s : S) (t : Tk) (now : Int) : S × Tk × Nat :=
  if t.sw.told = 0 then
    let r := t.doo s (clock now)
    (r.1, { r.2.1 with sw := { r.2.1.sw with told := r.2.2 } }, r.2.2)
  else (s, t, t.sw.told)
def Sw.step (s : S) (x : Sw) : S × Sw × Nat :=
  if x.told = 0 then
    let r := x.doo s
    (r.1, { r.2.1 with told := r.2.2 }, r.2.2)
  else (s, x, x.told)
def Sw.held (x : Sw) : Option (Int × Lo) := if x.told = 1 then some (x.stamp, x.lock.held) else none
/-- A Take as it is begun. -/
def begin (file : List Nat) (who inc temp lease : Int) : Tk :=
  ⟨⟨file, 0, lo0, Nm.temp (Nm.held who 999) (Nm.held inc 99999) (Nm.held temp 99999), 0, 0⟩, who, inc, min (max lease 0) 1000000⟩
/-- A Write as it is begun. -/
def write (file : List Nat) (stamp : Int) (l : Lo) (temp till : Int) : Sw :=
  ⟨file, stamp, { l with d := till }, Nm.temp (Nm.held l.a 999) (Nm.held l.b 99999) (Nm.held temp 99999), 2, 0⟩
theorem Lo.bytes_len (x : Lo) : x.bytes.length = 34 := Rc.lock_length _ _ _ _
theorem Lo.bytes_lt (x : Lo) : ∀ y ∈ x.bytes, y < 256 := Rc.lock_lt _ _ _ _
theorem Lo.opened (x : Lo) : loOf (Rc.openL x.bytes) = x.held := by
  unfold Lo.bytes
  rw [Rc.openL_lock _ _ _ _ (Cd.held_le _) (Cd.held_le _) (Cd.held_le _) (Cd.held_le _)]
  rfl
theorem Lo.opens (x : Lo) : Rc.openL x.bytes = some (Cd.held x.a, Cd.held x.b, Cd.held x.c, Cd.held x.d) := by
  unfold Lo.bytes
  rw [Rc.openL_lock _ _ _ _ (Cd.held_le _) (Cd.held_le _) (Cd.held_le _) (Cd.held_le _)]
end Lk
end Go.Proofs.Ytfheaognfocofaa

/- Locks in plain words: a Take to its end; how files grow by its steps. -/
namespace Go.Proofs.Ytfheaognfocofaa
set_option maxRecDepth 100000
namespace Lk
open Sf
def takeRun : Nat → S → Tk → Int → S × Tk × Nat
  | 0, s, t, _ => (s, t, 0)
  | k + 1, s, t, now => if (t.step s now).2.2 = 0 then takeRun k (t.step s now).1 (t.step s now).2.1 now else t.step s now
def writeRun : Nat → S → Sw → S × Sw × Nat
  | 0, s, x => (s, x, 0)
  | k + 1, s, x => if (x.step s).2.2 = 0 then writeRun k (x.step s).1 (x.step s).2.1 else x.step s

theorem put_used {s : S} (ho : Ord s.l) (t b : List Nat) : used (putS s t b).1.l ≤ used s.l + b.length ∧ (putS s t b).1.next ≤ s.next + 1 := by
  unfold putS
  split
  · split
    · refine ⟨?_, Nat.le_refl _⟩
      show used (put s.l ⟨t, b, s.next + 1⟩) ≤ _
      rw [used_put]
      have := used_gone ho t
      show used (gone s.l t) + b.length ≤ _
      omega
    · exact ⟨by show used s.l ≤ _; omega, by show s.next ≤ _; omega⟩
  · exact ⟨by show used s.l ≤ _; omega, by show s.next ≤ _; omega⟩
theorem make_used {s : S} (ho : Ord s.l) (t b : List Nat) : used (make s t b).1.l ≤ used s.l + b.length ∧ (make s t b).1.next ≤ s.next + 1 := by
  unfold make
  split
  · split
    · exact ⟨by show used s.l ≤ _; omega, by show s.next ≤ _; omega⟩
    · exact put_used ho t b
  · exact ⟨by show used s.l ≤ _; omega, by show s.next ≤ _; omega⟩
theorem used_gone_le {l : List Fi} (ho : Ord l) (t : List Nat) : used (gone l t) ≤ used l := by
  have := used_gone ho t
  omega
theorem move_used {s : S} (ho : Ord s.l) (a b : List Nat) (g : List (List Nat × Int)) : used (Sf.move s a b g).1.l ≤ used s.l ∧ (Sf.move s a b g).1.next ≤ s.next + 1 := by
  unfold Sf.move
  have h0 : used s.l ≤ used s.l ∧ s.next ≤ s.next + 1 := ⟨Nat.le_refl _, Nat.le_succ _⟩
  split
  · exact h0
  · split
    · split
      · refine ⟨?_, Nat.le_refl _⟩
        show used (put (gone s.l a) ⟨b, Sf.bytes s.l a, s.next + 1⟩) ≤ _
        rw [used_put]
        have h1 := used_gone ho a
        have h2 := used_gone_le (ord_gone ho a) b
        show used (gone (gone s.l a) b) + (Sf.bytes s.l a).length ≤ _
        omega
      · exact h0
    · exact h0
theorem drop_used {s : S} (ho : Ord s.l) (t : List Nat) (g : List (List Nat × Int)) : used (Sf.drop s t g).1.l ≤ used s.l ∧ (Sf.drop s t g).1.next ≤ s.next := by
  unfold Sf.drop
  have h0 : used s.l ≤ used s.l ∧ s.next ≤ s.next := ⟨Nat.le_refl _, Nat.le_refl _⟩
  split
  · split
    · exact ⟨used_gone_le ho t, Nat.le_refl _⟩
    · exact h0
  · exact h0
/-- Files grow by a lock's bytes a step at most, and one stamp. -/
def Grows (s s' : S) : Prop := used s'.l ≤ used s.l + 34 ∧ s'.next ≤ s.next + 1
theorem Grows.refl (s : S) : Grows s s := ⟨Nat.le_add_right _ _, Nat.le_succ _⟩
theorem sw_grows {s : S} (ho : Ord s.l) (x : Sw) : Grows s (x.doo s).1 ∧ (x.doo s).2.1.file = x.file ∧ (x.doo s).2.1.temp = x.temp := by
  unfold Sw.doo
  split
  · have h := put_used ho x.temp x.lock.bytes
    rw [x.lock.bytes_len] at h
    unfold Sw.put
    split <;> exact ⟨h, rfl, rfl⟩
  · split
    · have h := move_used ho x.temp x.file [(x.file, x.stamp)]
      unfold Sw.mv
      split <;> exact ⟨⟨Nat.le_trans h.1 (Nat.le_add_right _ _), h.2⟩, rfl, rfl⟩
    · have h := drop_used ho x.temp []
      exact ⟨⟨Nat.le_trans h.1 (Nat.le_add_right _ _), Nat.le_trans h.2 (Nat.le_succ _)⟩, rfl, rfl⟩
theorem read_grows (s : S) (t : Tk) (now : Int) : Grows s (t.read s now).1 ∧ (t.read s now).2.1.sw.file = t.sw.file ∧ (t.read s now).2.1.sw.temp = t.sw.temp ∧ (t.read s now).2.1.lease = t.lease := by
  unfold Tk.read
  split
  · exact ⟨Grows.refl s, rfl, rfl, rfl⟩
  · dsimp only
    split
    · exact ⟨Grows.refl s, rfl, rfl, rfl⟩
    · split
      · exact ⟨Grows.refl s, rfl, rfl, rfl⟩
      · split <;> exact ⟨Grows.refl s, rfl, rfl, rfl⟩
theorem make_grows {s : S} (ho : Ord s.l) (t : Tk) : Grows s (t.make s).1 ∧ (t.make s).2.1.sw.file = t.sw.file ∧ (t.make s).2.1.sw.temp = t.sw.temp ∧ (t.make s).2.1.lease = t.lease := by
  have h := make_used ho t.sw.file t.sw.lock.bytes
  rw [t.sw.lock.bytes_len] at h
  unfold Tk.make
  dsimp only
  split
  · exact ⟨h, rfl, rfl, rfl⟩
  · split <;> exact ⟨h, rfl, rfl, rfl⟩
theorem tk_grows {s : S} (ho : Ord s.l) (t : Tk) (now : Int) : Grows s (t.doo s now).1 ∧ (t.doo s now).2.1.sw.file = t.sw.file ∧ (t.doo s now).2.1.sw.temp = t.sw.temp ∧ (t.doo s now).2.1.lease = t.lease := by
  unfold Tk.doo
  split
  · exact read_grows s t now
  · split
    · exact make_grows ho (t.own 1 now)
    · split
      · have h := sw_grows ho (t.own t.sw.lock.c now).sw
        exact ⟨h.1, h.2.1, h.2.2, rfl⟩
      · have h := sw_grows ho t.sw
        exact ⟨h.1, h.2.1, h.2.2, rfl⟩
theorem step_grows {s : S} (ho : Ord s.l) (t : Tk) (now : Int) : Grows s (t.step s now).1 ∧ (t.step s now).2.1.sw.file = t.sw.file ∧ (t.step s now).2.1.sw.temp = t.sw.temp ∧ (t.step s now).2.1.lease = t.lease := by
  unfold Tk.step
  split
  · exact tk_grows ho t (clock now)
  · exact ⟨Grows.refl s, rfl, rfl, rfl⟩
theorem wstep_grows {s : S} (ho : Ord s.l) (x : Sw) : Grows s (x.step s).1 ∧ (x.step s).2.1.file = x.file ∧ (x.step s).2.1.temp = x.temp := by
  unfold Sw.step
  split
  · exact sw_grows ho x
  · exact ⟨Grows.refl s, rfl, rfl⟩
/-- What is told is what the step told. -/
theorem step_told (s : S) (t : Tk) (now : Int) : (t.step s now).2.1.sw.told = (t.step s now).2.2 := by
  unfold Tk.step
  split <;> rfl
theorem wstep_told (s : S) (x : Sw) : (x.step s).2.1.told = (x.step s).2.2 := by
  unfold Sw.step
  split <;> rfl
theorem takeRun_zero {k : Nat} {s : S} {t : Tk} {now : Int} (h : (t.step s now).2.2 = 0) : takeRun (k + 1) s t now = takeRun k (t.step s now).1 (t.step s now).2.1 now := by rw [takeRun, if_pos h]
theorem takeRun_end {k : Nat} {s : S} {t : Tk} {now : Int} (h : (t.step s now).2.2 ≠ 0) : takeRun (k + 1) s t now = t.step s now := by rw [takeRun, if_neg h]
theorem writeRun_zero {k : Nat} {s : S} {t : Sw} (h : (t.step s).2.2 = 0) : writeRun (k + 1) s t = writeRun k (t.step s).1 (t.step s).2.1 := by rw [writeRun, if_pos h]
theorem writeRun_end {k : Nat} {s : S} {t : Sw} (h : (t.step s).2.2 ≠ 0) : writeRun (k + 1) s t = t.step s := by rw [writeRun, if_neg h]
theorem begin_lease (fl : List Nat) (a b c l : Int) : 0 ≤ (begin fl a b c l).lease ∧ (begin fl a b c l).lease ≤ 1000000 := by
  show 0 ≤ min (max l 0) 1000000 ∧ min (max l 0) 1000000 ≤ 1000000
  omega
end Lk
end Go.Proofs.Ytfheaognfocofaa
