/- LockOne in plain words: three hands at one lock, whatever they do. -/
import Derived.Test.YtfheaognfocofaaGreatDoorZ13
namespace Go.Proofs.YtfheaognfocofaaGreatDoor
set_option maxRecDepth 100000
open Go.ChangeShapes Go.WideShapes Go.ChangeAt Go.RowKit Go.ChangeMaps
open Sf Lk

theorem lget_wr (s : S) (t b u : List Nat) : Sf.get (wr s t b).l u = if u = t then some ⟨t, b, s.next + 1⟩ else Sf.get s.l u := get_put s.l ⟨t, b, s.next + 1⟩ u
theorem lget_rm (s : S) (t u : List Nat) : Sf.get (rm s t).l u = if u = t then none else Sf.get s.l u := get_gone s.l t u
theorem nodup_le {α : Type} [DecidableEq α] : ∀ {l m : List α}, l.Nodup → (∀ x ∈ l, x ∈ m) → l.length ≤ m.length
  | [], _, _, _ => Nat.zero_le _
  | a :: l, m, hn, hs => by
    have ha := hs a List.mem_cons_self
    obtain ⟨h1, h2⟩ := List.nodup_cons.1 hn
    have := nodup_le (m := m.erase a) h2 (fun x hx => (List.mem_erase_of_ne (fun e => h1 (by rw [← e]; exact hx))).2 (hs x (List.mem_cons_of_mem _ hx)))
    rw [List.length_erase_of_mem ha] at this
    have := List.length_pos_of_mem ha
    rw [List.length_cons]
    omega
/-- What a hand is at. -/
inductive Ph where
  | idle
  | tk (t : Tk)
  | wr (x : Sw)
structure Hd where
  ph : Ph
  fr : Bool
  gn : List Nat
  gs : Int
  lo : Lo
  held : Bool
def tname (i c : Nat) : List Nat := Nm.temp i 1 c
theorem tname_ne {i j c d : Nat} (h : i ≠ j) : tname i c ≠ tname j d := fun e => h (Nm.temp_inj.1 e).1
theorem clm_tname (i c : Nat) : clm ≠ tname i c := fun e => by
  have := congrArg (fun l => l.headD 0) e
  simp [clm, tname, Nm.temp] at this
theorem file_tname {i c : Nat} (hi : i < 3) (hc : c ≤ 5) : Nm.file (tname i c) = true := Nm.temp_file (by omega) (by omega) (by omega)
theorem nice_tname {i c : Nat} (hi : i < 3) (hc : c ≤ 5) : Nice (tname i c) := nice_temp _ _ _ (by omega) (by omega) (by omega)
/-- A stamp, and what epoch it speaks of, as long as it is the file's. -/
def Stp (s : S) (epoch : Nat) (σ c : Int) (d : Nat) : Prop := 0 ≤ σ ∧ σ ≤ (s.next : Int) ∧ 0 ≤ c ∧ c ≤ 100000 ∧ ((stamp s.l clm : Int) = σ → (Sf.get s.l clm).isSome = true → c = (epoch : Int) + (d : Int))
def Tmp (s : S) (t : List Nat) (l : Lo) : Prop := ∃ k, Sf.get s.l t = some ⟨t, l.bytes, k⟩
/-- A row that is written anew is at its temp. -/
def Row (s : S) (t : List Nat) (x : Sw) : Prop := (x.next = 3 ∧ Tmp s t x.lock) ∨ (x.next = 4 ∧ (Sf.get s.l t).isSome = true)
def HOk (s : S) (epoch i : Nat) (h : Hd) : Prop :=
  (match h.ph with
  | .idle => True
  | .tk t => t.sw.file = clm ∧ t.sw.temp = tname i 3 ∧ t.who = (i : Int) ∧ t.inc = 1 ∧ t.lease = 40 ∧ t.sw.told = 0 ∧
    (t.sw.next = 0 ∨ t.sw.next = 1 ∨ (t.sw.next = 2 ∧ Stp s epoch t.sw.stamp t.sw.lock.c 1) ∨ (Row s (tname i 3) t.sw ∧ Stp s epoch t.sw.stamp t.sw.lock.c 1 ∧ OkL t.sw.lock ∧ t.sw.lock.a = (i : Int) ∧ t.sw.lock.b = 1))
  | .wr x => h.held = true ∧ x.file = clm ∧ x.stamp = h.gs ∧ x.told = 0 ∧ (∃ till, x.lock = { h.lo with d := till } ∧ 0 ≤ till ∧ till ≤ 100000000) ∧ ∃ c, (c = 4 ∨ c = 5) ∧ x.temp = tname i c ∧ (x.next = 2 ∨ Row s (tname i c) x)) ∧
  (h.held = true → h.gn = clm ∧ OkL h.lo ∧ Stp s epoch h.gs h.lo.c 0 ∧ h.lo.a = (i : Int) ∧ h.lo.b = 1)
/-- The temp that a hand has lying. -/
def lies (h : Hd) : Option (List Nat) :=
  match h.ph with
  | .idle => none
  | .tk t => if t.sw.next = 3 ∨ t.sw.next = 4 then some t.sw.temp else none
  | .wr x => if x.next = 3 ∨ x.next = 4 then some x.temp else none
def Cl (s : S) (epoch : Nat) : Prop := match Sf.get s.l clm with
  | none => epoch = 0
  | some x => ∃ L, x.b = L.bytes ∧ OkL L ∧ L.c = (epoch : Int)
/-- All that lies there. -/
def HFiles (s : S) (hs : Nat → Hd) : Prop := ∀ x ∈ s.l, x.b.length = 34 ∧ (x.name = clm ∨ ∃ i, i < 3 ∧ lies (hs i) = some x.name)
structure HInv (s : S) (hs : Nat → Hd) (n now epoch : Nat) : Prop where
  room : s.room = 1048576
  next : s.next ≤ n
  now : now ≤ 63 * n
  ep : epoch ≤ n
  cl : Cl s epoch
  files : HFiles s hs
  hand : ∀ i, i < 3 → HOk s epoch i (hs i)

theorem ord_nodup {l : List Fi} (h : Ord l) : (l.map (·.name)).Nodup := by
  unfold List.Nodup
  rw [List.pairwise_map]
  exact h.imp fun h => lt_ne h
theorem HFiles.few {s : S} {hs : Nat → Hd} (h : HFiles s hs) (ho : Ord s.l) : s.l.length ≤ 4 ∧ (Sf.list s.l [116, 109, 112]).length ≤ 3 := by
  have hn := ord_nodup ho
  let T : List (List Nat) := [(lies (hs 0)).getD [], (lies (hs 1)).getD [], (lies (hs 2)).getD []]
  have hT : ∀ {t : List Nat}, (∃ i, i < 3 ∧ lies (hs i) = some t) → t ∈ T := by
    rintro t ⟨i, hi, e⟩
    obtain rfl | rfl | rfl : i = 0 ∨ i = 1 ∨ i = 2 := by omega
    all_goals simp [T, e]
  constructor
  · have : (s.l.map (·.name)).length ≤ (clm :: T).length := (nodup_le hn (by
      intro t ht
      obtain ⟨x, hx, rfl⟩ := List.mem_map.1 ht
      rcases (h x hx).2 with e | e
      · rw [e]; exact List.mem_cons_self
      · exact List.mem_cons_of_mem _ (hT e)))
    simpa [T] using this
  · have : (Sf.list s.l [116, 109, 112]).length ≤ T.length := (nodup_le (hn.filter _) (by
      intro t ht
      obtain ⟨h1, h2⟩ := List.mem_filter.1 ht
      obtain ⟨x, hx, rfl⟩ := List.mem_map.1 h1
      rcases (h x hx).2 with e | e
      · rw [e] at h2
        exact absurd h2 (by decide)
      · exact hT e))
    simpa [T] using this
theorem used_len : ∀ {l : List Fi}, (∀ x ∈ l, x.b.length = 34) → used l = 34 * l.length
  | [], _ => rfl
  | x :: l, h => by
    rw [used_cons, h x List.mem_cons_self, used_len fun y hy => h y (List.mem_cons_of_mem _ hy), List.length_cons]
    omega
theorem HInv.used {s : S} {hs : Nat → Hd} {n now epoch : Nat} (h : HInv s hs n now epoch) (ho : Ord s.l) : used s.l ≤ 136 := by
  rw [used_len fun x hx => (h.files x hx).1]
  have := (h.files.few ho).1
  omega
def upd (hs : Nat → Hd) (i : Nat) (h : Hd) : Nat → Hd := fun j => if j = i then h else hs j
theorem upd_same (hs : Nat → Hd) (i : Nat) (h : Hd) : upd hs i h i = h := if_pos rfl
theorem upd_other (hs : Nat → Hd) {i j : Nat} (h : Hd) (hj : j ≠ i) : upd hs i h j = hs j := if_neg hj
/-- What a step of a hand does to the files: at its temp T, and, if chg, at the claim. -/
structure Ch (s s' : S) (T : List Nat) (chg : Bool) : Prop where
  le : s.next ≤ s'.next
  lt : s'.next ≤ s.next + 1
  room : s'.room = s.room
  other : ∀ t, t ≠ T → t ≠ clm → Sf.get s'.l t = Sf.get s.l t
  keep : chg = false → Sf.get s'.l clm = Sf.get s.l clm
  turn : chg = true → s'.next = s.next + 1 ∧ ∃ b, Sf.get s'.l clm = some ⟨clm, b, s.next + 1⟩
theorem Ch.same (s : S) (T : List Nat) : Ch s s T false := ⟨Nat.le_refl _, Nat.le_succ _, rfl, fun _ _ _ => rfl, fun _ => rfl, fun h => by cases h⟩
theorem stamp_get {l l' : List Fi} {t : List Nat} (h : Sf.get l' t = Sf.get l t) : stamp l' t = stamp l t := by unfold stamp; rw [h]
theorem Ch.stp {s s' : S} {T : List Nat} {chg : Bool} {e e' : Nat} {σ c : Int} {d : Nat} (h : Ch s s' T chg) (hs : Stp s e σ c d) (he : chg = false → e' = e) : Stp s' e' σ c d := by
  obtain ⟨h1, h2, h3, h4, h5⟩ := hs
  refine ⟨h1, by have := h.le; omega, h3, h4, fun e1 e2 => ?_⟩
  rcases chg with _ | _
  · rw [he rfl]
    rw [h.keep rfl] at e2
    rw [stamp_get (h.keep rfl)] at e1
    exact h5 e1 e2
  · exfalso
    obtain ⟨b, hb⟩ := (h.turn rfl).2
    unfold stamp at e1
    rw [hb] at e1
    have : ((s.next + 1 : Nat) : Int) = σ := e1
    omega
theorem Ch.tmp {s s' : S} {T t : List Nat} {chg : Bool} {l : Lo} (h : Ch s s' T chg) (ht : t ≠ T) (hc : t ≠ clm) (hs : Tmp s t l) : Tmp s' t l := by
  obtain ⟨k, hk⟩ := hs
  exact ⟨k, (h.other t ht hc).trans hk⟩
theorem Ch.row {s s' : S} {T t : List Nat} {chg : Bool} {x : Sw} (h : Ch s s' T chg) (ht : t ≠ T) (hc : t ≠ clm) (hs : Row s t x) : Row s' t x := by
  rcases hs with ⟨a, b⟩ | ⟨a, b⟩
  · exact .inl ⟨a, h.tmp ht hc b⟩
  · exact .inr ⟨a, by rw [h.other t ht hc]; exact b⟩
theorem Ch.held {s s' : S} {T : List Nat} {chg : Bool} {e e' i : Nat} {h : Hd} (hc : Ch s s' T chg) (he : chg = false → e' = e) (hh : h.held = true → h.gn = clm ∧ OkL h.lo ∧ Stp s e h.gs h.lo.c 0 ∧ h.lo.a = (i : Int) ∧ h.lo.b = 1) : h.held = true → h.gn = clm ∧ OkL h.lo ∧ Stp s' e' h.gs h.lo.c 0 ∧ h.lo.a = (i : Int) ∧ h.lo.b = 1 := fun hq => by
  obtain ⟨h1, h2, h3, h4⟩ := hh hq
  exact ⟨h1, h2, hc.stp h3 he, h4⟩
theorem Ch.hok {s s' : S} {i j c : Nat} {chg : Bool} {e e' : Nat} {h : Hd} (hc : Ch s s' (tname i c) chg) (hij : j ≠ i) (he : chg = false → e' = e) (hh : HOk s e j h) : HOk s' e' j h := by
  have hn : ∀ d, tname j d ≠ tname i c := fun d => tname_ne hij
  have hm : ∀ d, tname j d ≠ clm := fun d => (clm_tname j d).symm
  refine ⟨?_, hc.held he hh.2⟩
  obtain ⟨ph, fr, gn, gs, lo, held⟩ := h
  have h1 := hh.1
  rcases ph with _ | t | x
  · trivial
  · obtain ⟨a1, a2, a3, a4, a5, a6, a7⟩ := h1
    refine ⟨a1, a2, a3, a4, a5, a6, ?_⟩
    rcases a7 with b | b | ⟨b1, b2⟩ | ⟨b1, b2, b3⟩
    · exact .inl b
    · exact .inr (.inl b)
    · exact .inr (.inr (.inl ⟨b1, hc.stp b2 he⟩))
    · exact .inr (.inr (.inr ⟨hc.row (hn 3) (hm 3) b1, hc.stp b2 he, b3⟩))
  · obtain ⟨a1, a2, a3, a4, a5, d, a6, a7, a8⟩ := h1
    refine ⟨a1, a2, a3, a4, a5, d, a6, a7, ?_⟩
    rcases a8 with b | b
    · exact .inl b
    · exact .inr (hc.row (hn d) (hm d) b)
/-- A hand's step, all told. -/
theorem HInv.step {s s' : S} {hs : Nat → Hd} {n now e e' i c : Nat} {h : Hd} {chg : Bool} (hi : HInv s hs n now e) (hc : Ch s s' (tname i c) chg) (he : chg = false → e' = e) (hep : e' ≤ n + 1) (hcl : chg = true → Cl s' e')
    (hh : HOk s' e' i h) (hf : ∀ x ∈ s'.l, (x ∈ s.l ∧ (x.name ≠ clm → lies (hs i) = some x.name → lies h = some x.name)) ∨ (x.b.length = 34 ∧ (x.name = clm ∨ lies h = some x.name))) (hi3 : i < 3) : HInv s' (upd hs i h) (n + 1) now e' := by
  refine ⟨hc.room.trans hi.room, by have := hc.lt; have := hi.next; omega, by have := hi.now; omega, hep, ?_, ?_, ?_⟩
  · rcases chg with _ | _
    · rw [he rfl]
      have := hi.cl
      unfold Cl at this ⊢
      rw [hc.keep rfl]
      exact this
    · exact hcl rfl
  · intro x hx
    rcases hf x hx with ⟨h1, h2⟩ | ⟨h1, h2⟩
    · obtain ⟨a, b⟩ := hi.files x h1
      refine ⟨a, ?_⟩
      by_cases hcm : x.name = clm
      · exact .inl hcm
      · rcases b with b | ⟨j, hj, b⟩
        · exact .inl b
        · by_cases hji : j = i
          · exact .inr ⟨i, hi3, by rw [upd_same]; exact h2 hcm (hji ▸ b)⟩
          · exact .inr ⟨j, hj, by rw [upd_other _ _ hji]; exact b⟩
    · refine ⟨h1, ?_⟩
      rcases h2 with b | b
      · exact .inl b
      · exact .inr ⟨i, hi3, by rw [upd_same]; exact b⟩
  · intro j hj
    by_cases hji : j = i
    · rw [hji, upd_same]
      exact hh
    · rw [upd_other _ _ hji]
      exact hc.hok hji he (hi.hand j hj)
end Go.Proofs.YtfheaognfocofaaGreatDoor

/- LockOne in plain words: what a step of a hand's Take comes to. -/
namespace Go.Proofs.YtfheaognfocofaaGreatDoor
set_option maxRecDepth 100000
open Go.ChangeShapes Go.WideShapes Go.ChangeAt Go.RowKit Go.ChangeMaps
open Sf Lk

theorem put_fine {s : S} {t : List Nat} (ht : Nm.file t = true) (hr : s.room = 1048576) (hu : used s.l ≤ 136) (L : Lo) : putS s t L.bytes = (wr s t L.bytes, s.next + 1, 0) := by
  unfold putS
  rw [if_pos ht, if_pos]
  unfold fits
  rw [Bool.or_eq_true]
  right
  rw [decide_eq_true_eq, Lo.bytes_len, hr]
  omega
theorem guards_one (l : List Fi) (σ : Int) : guards l [(clm, σ)] = ((Sf.get l clm).isSome && decide ((stamp l clm : Int) = σ)) := by
  unfold guards Sf.guard
  simp
theorem move_fine {s : S} {t b : List Nat} {k : Nat} {σ : Int} (ht : Nm.file t = true) (hn : t ≠ clm) (hg : Sf.get s.l t = some ⟨t, b, k⟩) (h1 : (Sf.get s.l clm).isSome = true) (h2 : (stamp s.l clm : Int) = σ) : Sf.move s t clm [(clm, σ)] = (wr (rm s t) clm b, s.next + 1, 0) := by
  have e : Sf.bytes s.l t = b := by unfold Sf.bytes; rw [hg]; rfl
  unfold Sf.move refuse
  rw [if_neg hn, guards_one, h1, h2, hg, e]
  simp [ht, file_clm]
theorem move_off {s : S} {t : List Nat} {σ : Int} (ht : Nm.file t = true) (hn : t ≠ clm) (h : ¬ ((Sf.get s.l clm).isSome = true ∧ (stamp s.l clm : Int) = σ)) : Sf.move s t clm [(clm, σ)] = (s, 0, 5) := by
  have e : ((Sf.get s.l clm).isSome && decide ((stamp s.l clm : Int) = σ)) = false := by
    rw [Bool.eq_false_iff]
    intro e
    rw [Bool.and_eq_true, decide_eq_true_eq] at e
    exact h e
  unfold Sf.move refuse
  rw [if_neg hn, guards_one, e]
  simp [ht, file_clm]
theorem drop_fine {s : S} {t : List Nat} (ht : Nm.file t = true) (hg : (Sf.get s.l t).isSome = true) : (Sf.drop s t []).1 = rm s t := by
  unfold Sf.drop refuse guards
  simp [ht, hg]
theorem make_fine {s : S} {t : List Nat} (ht : Nm.file t = true) (hr : s.room = 1048576) (hu : used s.l ≤ 136) (L : Lo) (hg : Sf.get s.l t = none) : Sf.make s t L.bytes = (wr s t L.bytes, s.next + 1, 0) := by
  unfold Sf.make
  rw [if_pos ht, hg, put_fine ht hr hu]
  rfl
theorem make_there {s : S} {t b : List Nat} (ht : Nm.file t = true) {x : Fi} (hg : Sf.get s.l t = some x) : Sf.make s t b = (s, 0, 3) := by
  unfold Sf.make
  rw [if_pos ht, hg]
  rfl
/-- A temp is written. -/
theorem Ch.wrT {s : S} {T b : List Nat} (hT : T ≠ clm) : Ch s (wr s T b) T false :=
  ⟨Nat.le_succ _, Nat.le_refl _, rfl, fun t h _ => by rw [lget_wr, if_neg h], fun _ => by rw [lget_wr, if_neg hT.symm], fun h => by cases h⟩
theorem Ch.rmT {s : S} {T : List Nat} (hT : T ≠ clm) : Ch s (rm s T) T false :=
  ⟨Nat.le_refl _, Nat.le_succ _, rfl, fun t h _ => by rw [lget_rm, if_neg h], fun _ => by rw [lget_rm, if_neg hT.symm], fun h => by cases h⟩
theorem Ch.wrC {s : S} {T b : List Nat} : Ch s (wr s clm b) T true :=
  ⟨Nat.le_succ _, Nat.le_refl _, rfl, fun t _ h => by rw [lget_wr, if_neg h], fun h => (by cases h), fun _ => ⟨rfl, b, by rw [lget_wr, if_pos rfl]⟩⟩
theorem Ch.mvC {s : S} {T b : List Nat} : Ch s (wr (rm s T) clm b) T true :=
  ⟨Nat.le_succ _, Nat.le_refl _, rfl, fun t h h2 => by rw [lget_wr, if_neg h2, lget_rm, if_neg h], fun h => (by cases h), fun _ => ⟨rfl, b, by rw [lget_wr, if_pos rfl]; rfl⟩⟩
theorem stamp_wr (s : S) (t b : List Nat) : stamp (wr s t b).l t = s.next + 1 := by
  unfold stamp
  rw [lget_wr, if_pos rfl]
  rfl
theorem stamp_le {s : S} (hg : Sf.Good s) (t : List Nat) : stamp s.l t ≤ s.next := by
  unfold stamp
  rcases h : Sf.get s.l t with _ | x
  · exact Nat.zero_le _
  · exact (hg.2.1 x (get_some h).1).2.2.2
theorem mem_rm {s : S} {t : List Nat} {x : Fi} (h : x ∈ (rm s t).l) : x ∈ s.l ∧ x.name ≠ t := by
  have := List.mem_filter.1 h
  exact ⟨this.1, by simpa using this.2⟩
theorem mem_wr {s : S} {t b : List Nat} {x : Fi} (h : x ∈ (wr s t b).l) : x = ⟨t, b, s.next + 1⟩ ∨ x ∈ s.l := mem_put h

variable {s : S} {hs : Nat → Hd} {n now e i : Nat} {t : Tk}
/-- What a Take's step comes to. -/
def TkTo (hs : Nat → Hd) (s : S) (n now e i : Nat) (r : S × Tk × Nat) : Prop :=
  (r.2.2 = 0 ∧ HInv r.1 (upd hs i { hs i with ph := .tk { r.2.1 with sw := { r.2.1.sw with told := 0 } } }) (n + 1) now e) ∨
  (r.2.2 = 2 ∧ HInv r.1 (upd hs i { hs i with ph := .idle }) (n + 1) now e) ∨
  (r.2.2 = 1 ∧ ∃ (k e' : Nat) (L : Lo), r.2.1.sw.stamp = (k : Int) ∧ r.2.1.sw.lock.held = L ∧ r.2.1.sw.file = clm ∧ Sf.get r.1.l clm = some ⟨clm, L.bytes, k⟩ ∧ OkL L ∧ L.a = (i : Int) ∧ L.c = (e' : Int) ∧ e ≤ e' ∧ e' ≤ e + 1 ∧ (e' = e → stamp s.l clm = k) ∧ HInv r.1 (upd hs i { hs i with ph := .idle, gn := clm, gs := (k : Int), lo := L, held := true }) (n + 1) now e')

theorem Stp.mk' {s : S} {e k d : Nat} {c : Int} (hk : k ≤ s.next) (h1 : 0 ≤ c ∧ c ≤ 100000) (h : c = (e : Int) + (d : Int)) : Stp s e (k : Int) c d := ⟨by omega, by omega, h1.1, h1.2, fun _ _ => h⟩
theorem lies_tk (h : Hd) (t : Tk) : lies { h with ph := .tk t } = if t.sw.next = 3 ∨ t.sw.next = 4 then some t.sw.temp else none := rfl
theorem lies_idle (h : Hd) : lies { h with ph := .idle } = none := rfl

theorem tk_read (hi : HInv s hs n now e) (hg : Sf.Good s) (hi3 : i < 3) (hn : n ≤ 300) (hph : (hs i).ph = .tk t) (h0 : t.sw.next = 0) : TkTo hs s n now e i (t.read s (now : Int)) := by
  have hh := hi.hand i hi3
  obtain ⟨h1, h2⟩ := hh
  rw [hph] at h1
  obtain ⟨a1, a2, a3, a4, a5, a6, -⟩ := h1
  have hc := Ch.same s (tname i 3)
  have hl : lies (hs i) = none := by unfold lies; rw [hph]; simp [h0]
  have hf : ∀ h : Hd, ∀ x ∈ s.l, (x ∈ s.l ∧ (x.name ≠ clm → lies (hs i) = some x.name → lies h = some x.name)) ∨ (x.b.length = 34 ∧ (x.name = clm ∨ lies h = some x.name)) := fun h x hx => .inl ⟨hx, fun _ e => by rw [hl] at e; cases e⟩
  have hep : e ≤ n + 1 := by have := hi.ep; omega
  unfold Tk.read
  rw [a1]
  have hcl := hi.cl
  unfold Cl at hcl
  have er : Sf.read s clm = match Sf.get s.l clm with | some x => (x.b, x.stamp, 0) | none => ([], 0, 4) := by
    unfold Sf.read
    rw [if_pos file_clm]
    rcases Sf.get s.l clm with _ | x <;> rfl
  rcases hq : Sf.get s.l clm with _ | x
  · rw [hq] at er
    rw [er]
    refine .inl ⟨rfl, hi.step hc (fun _ => rfl) hep (fun h => by cases h) ⟨⟨a1, a2, a3, a4, a5, rfl, .inr (.inl rfl)⟩, h2⟩ (hf _) hi3⟩
  · rw [hq] at er hcl
    obtain ⟨L, hb, hL, hLc⟩ := hcl
    have hx := get_some hq
    have est : stamp s.l clm = x.stamp := by unfold stamp; rw [hq]; rfl
    have hxs : x.stamp ≤ s.next := est ▸ stamp_le hg clm
    have hxe : x = ⟨clm, L.bytes, x.stamp⟩ := by
      obtain ⟨nm, b, k⟩ := x
      obtain rfl : nm = clm := hx.2
      obtain rfl : b = L.bytes := hb
      rfl
    have ho : loOf (Rc.openL x.b) = L := by rw [hb]; exact open_ok hL
    have hw := what_ok hL t.who t.inc (now : Int)
    rw [er]
    dsimp only
    rw [if_neg (by decide), ho, hb, hw]
    have hbig := hi.ep
    by_cases c1 : L.a = t.who ∧ L.b = t.inc ∧ (now : Int) < L.d
    · rw [if_pos c1, if_pos rfl]
      refine .inr (.inr ⟨rfl, x.stamp, e, L, rfl, held_ok hL, a1, by rw [hq, ← hxe], hL, c1.1.trans a3, hLc, Nat.le_refl _, Nat.le_succ _, fun _ => est, ?_⟩)
      exact hi.step hc (fun _ => rfl) hep (fun h => by cases h) ⟨trivial, fun _ => ⟨rfl, hL, Stp.mk' hxs (by show 0 ≤ L.c ∧ L.c ≤ 100000; omega) (by show L.c = _; omega), c1.1.trans a3, c1.2.1.trans a4⟩⟩ (hf _) hi3
    · rw [if_neg c1]
      by_cases c2 : L.d ≤ (now : Int) ∨ (L.a = t.who ∧ L.b < t.inc)
      · rw [if_pos c2, if_neg (by decide), if_neg (by decide), if_pos rfl]
        refine .inl ⟨rfl, hi.step hc (fun _ => rfl) hep (fun h => by cases h) ⟨⟨a1, a2, a3, a4, a5, rfl, .inr (.inr (.inl ⟨rfl, ?_⟩))⟩, h2⟩ (hf _) hi3⟩
        exact Stp.mk' hxs (by show 0 ≤ L.c + 1 ∧ L.c + 1 ≤ 100000; omega) (by show L.c + 1 = _; omega)
      · rw [if_neg c2, if_neg (by decide), if_pos rfl]
        exact .inr (.inl ⟨rfl, hi.step hc (fun _ => rfl) hep (fun h => by cases h) ⟨trivial, h2⟩ (hf _) hi3⟩)
theorem okl_own {i n now : Nat} {c : Int} (hi : i < 3) (hn : now ≤ 63 * n) (hn2 : n ≤ 300) (hc : 0 ≤ c ∧ c ≤ 100000) : OkL ⟨(i : Int), 1, c, (now : Int) + 40⟩ := by simp [OkL]; omega

theorem tk_make (hi : HInv s hs n now e) (hg : Sf.Good s) (hi3 : i < 3) (hn : n ≤ 300) (hph : (hs i).ph = .tk t) (h0 : t.sw.next = 1) : TkTo hs s n now e i ((t.own 1 (now : Int)).make s) := by
  have hh := hi.hand i hi3
  obtain ⟨h1, h2⟩ := hh
  rw [hph] at h1
  obtain ⟨a1, a2, a3, a4, a5, a6, -⟩ := h1
  have hl : lies (hs i) = none := by unfold lies; rw [hph]; simp [h0]
  have hep := hi.ep
  have hcl := hi.cl
  unfold Cl at hcl
  have hu := hi.used hg.1
  have hL : OkL ⟨(i : Int), 1, 1, (now : Int) + 40⟩ := okl_own hi3 hi.now hn (by omega)
  have eo : (t.own 1 (now : Int)).sw.lock = ⟨(i : Int), 1, 1, (now : Int) + 40⟩ := by
    show Lo.mk _ _ _ _ = _
    rw [a3, a4, a5]
  have ef : (t.own 1 (now : Int)).sw.file = clm := a1
  unfold Tk.make
  rw [eo, ef]
  rcases hq : Sf.get s.l clm with _ | x
  · rw [hq] at hcl
    subst hcl
    rw [make_fine file_clm hi.room hu _ hq]
    dsimp only
    rw [if_pos rfl]
    refine .inr (.inr ⟨rfl, s.next + 1, 1, _, rfl, (congrArg Lo.held eo).trans (held_ok hL), ef, by rw [lget_wr, if_pos rfl], hL, rfl, rfl, by omega, by omega, fun h => by omega, ?_⟩)
    refine hi.step (Ch.wrC (T := tname i 3)) (fun h => by cases h) (by omega) (fun _ => ?_) ⟨trivial, fun _ => ⟨rfl, hL, Stp.mk' (Nat.le_refl _) (by show (0 : Int) ≤ 1 ∧ (1 : Int) ≤ 100000; omega) rfl, rfl, rfl⟩⟩ (fun x hx => ?_) hi3
    · unfold Cl
      rw [lget_wr, if_pos rfl]
      exact ⟨_, rfl, hL, rfl⟩
    · rcases mem_wr hx with rfl | hx
      · exact .inr ⟨Lo.bytes_len _, .inl rfl⟩
      · exact .inl ⟨hx, fun _ e => by rw [hl] at e; cases e⟩
  · rw [make_there file_clm hq]
    dsimp only
    rw [if_neg (by decide), if_neg (by decide)]
    exact .inr (.inl ⟨rfl, hi.step (Ch.same s (tname i 3)) (fun _ => rfl) (by omega) (fun h => by cases h) ⟨trivial, h2⟩ (fun x hx => .inl ⟨hx, fun _ e => by rw [hl] at e; cases e⟩) hi3⟩)

theorem tk_put (hi : HInv s hs n now e) (hg : Sf.Good s) (hi3 : i < 3) (hn : n ≤ 300) (hph : (hs i).ph = .tk t) (h0 : t.sw.next = 2) : TkTo hs s n now e i (lift (t.own t.sw.lock.c (now : Int)) ((t.own t.sw.lock.c (now : Int)).sw.doo s)) := by
  have hh := hi.hand i hi3
  obtain ⟨h1, h2⟩ := hh
  rw [hph] at h1
  obtain ⟨a1, a2, a3, a4, a5, a6, a7⟩ := h1
  have a8 : Stp s e t.sw.stamp t.sw.lock.c 1 := by
    rcases a7 with b | b | ⟨b1, b2⟩ | ⟨b1, b2, b3⟩
    · omega
    · omega
    · exact b2
    · exact b2
  have hl : lies (hs i) = none := by unfold lies; rw [hph]; simp [h0]
  have hep := hi.ep
  have hu := hi.used hg.1
  have hL : OkL ⟨(i : Int), 1, t.sw.lock.c, (now : Int) + 40⟩ := okl_own hi3 hi.now hn ⟨a8.2.2.1, a8.2.2.2.1⟩
  have eo : (t.own t.sw.lock.c (now : Int)).sw.lock = ⟨(i : Int), 1, t.sw.lock.c, (now : Int) + 40⟩ := by
    show Lo.mk _ _ _ _ = _
    rw [a3, a4, a5]
  have hT := file_tname (i := i) (c := 3) hi3 (by omega)
  have hm : tname i 3 ≠ clm := (clm_tname i 3).symm
  have et : (t.own t.sw.lock.c (now : Int)).sw.temp = tname i 3 := a2
  have en : (t.own t.sw.lock.c (now : Int)).sw.next = 2 := h0
  unfold Sw.doo
  rw [if_pos en]
  unfold Sw.put
  rw [eo, et, put_fine hT hi.room hu]
  dsimp only
  rw [if_pos rfl]
  refine .inl ⟨rfl, hi.step (Ch.wrT hm) (fun _ => rfl) (by omega) (fun h => by cases h) ⟨⟨a1, rfl, a3, a4, a5, rfl, .inr (.inr (.inr ⟨.inl ⟨rfl, s.next + 1, ?_⟩, ?_, ?_, ?_, ?_⟩))⟩, (Ch.wrT hm).held (fun _ => rfl) h2⟩ (fun x hx => ?_) hi3⟩
  · show Sf.get (wr s (tname i 3) _).l (tname i 3) = _
    rw [lget_wr, if_pos rfl]
    rfl
  · exact (Ch.wrT hm).stp a8 fun _ => rfl
  · exact hL
  · rfl
  · rfl
  · rcases mem_wr hx with rfl | hx
    · exact .inr ⟨Lo.bytes_len _, .inr rfl⟩
    · exact .inl ⟨hx, fun _ e => by rw [hl] at e; cases e⟩

theorem tk_move (hi : HInv s hs n now e) (hg : Sf.Good s) (hi3 : i < 3) (hn : n ≤ 300) (hph : (hs i).ph = .tk t) (h0 : t.sw.next ≠ 0 ∧ t.sw.next ≠ 1 ∧ t.sw.next ≠ 2) : TkTo hs s n now e i (lift t (t.sw.doo s)) := by
  have hh := hi.hand i hi3
  obtain ⟨h1, h2⟩ := hh
  rw [hph] at h1
  obtain ⟨a1, a2, a3, a4, a5, a6, a7⟩ := h1
  obtain ⟨hrow, hstp, hL, hLa, hLb⟩ : Row s (tname i 3) t.sw ∧ Stp s e t.sw.stamp t.sw.lock.c 1 ∧ OkL t.sw.lock ∧ t.sw.lock.a = (i : Int) ∧ t.sw.lock.b = 1 := by
    rcases a7 with b | b | ⟨b1, b2⟩ | b
    · exact absurd b h0.1
    · exact absurd b h0.2.1
    · exact absurd b1 h0.2.2
    · exact b
  have hep := hi.ep
  have hu := hi.used hg.1
  have hT := file_tname (i := i) (c := 3) hi3 (by omega)
  have hm : tname i 3 ≠ clm := (clm_tname i 3).symm
  have hl : lies (hs i) = some (tname i 3) := by
    unfold lies
    rw [hph]
    rcases hrow with ⟨b, -⟩ | ⟨b, -⟩ <;> simp [b, a2]
  unfold Sw.doo
  rw [if_neg h0.2.2]
  rcases hrow with ⟨b1, k, b2⟩ | ⟨b1, b2⟩
  · rw [if_pos b1]
    unfold Sw.mv
    rw [a2, a1]
    by_cases hc : (Sf.get s.l clm).isSome = true ∧ (stamp s.l clm : Int) = t.sw.stamp
    · rw [move_fine hT hm b2 hc.1 hc.2]
      dsimp only
      rw [if_pos rfl]
      have hce := hstp.2.2.2.2 hc.2 hc.1
      have hsl := stamp_le hg clm
      refine .inr (.inr ⟨rfl, s.next + 1, e + 1, t.sw.lock, rfl, held_ok hL, rfl, by show Sf.get (wr _ clm _).l clm = _; rw [lget_wr, if_pos rfl]; rfl, hL, hLa, by omega, by omega, by omega, fun h => by omega, ?_⟩)
      refine hi.step (Ch.mvC (T := tname i 3)) (fun h => by cases h) (by omega) (fun _ => ?_) ⟨trivial, fun _ => ⟨rfl, hL, Stp.mk' (Nat.le_refl _) (by show 0 ≤ t.sw.lock.c ∧ t.sw.lock.c ≤ 100000; omega) (by show t.sw.lock.c = _; omega), hLa, hLb⟩⟩ (fun x hx => ?_) hi3
      · unfold Cl
        show match Sf.get (wr _ clm _).l clm with | none => _ | some x => _
        rw [lget_wr, if_pos rfl]
        exact ⟨_, rfl, hL, by omega⟩
      · rcases mem_wr hx with rfl | hx
        · exact .inr ⟨Lo.bytes_len _, .inl rfl⟩
        · have := mem_rm hx
          exact .inl ⟨this.1, fun _ e => by rw [hl] at e; injection e with e; exact absurd e.symm this.2⟩
    · rw [move_off hT hm hc]
      dsimp only
      rw [if_neg (by decide)]
      refine .inl ⟨rfl, hi.step (Ch.same s (tname i 3)) (fun _ => rfl) (by omega) (fun h => by cases h) ⟨⟨rfl, rfl, a3, a4, a5, rfl, .inr (.inr (.inr ⟨.inr ⟨rfl, ?_⟩, hstp, hL, hLa, hLb⟩))⟩, h2⟩ (fun x hx => .inl ⟨hx, fun _ e => ?_⟩) hi3⟩
      · show (Sf.get s.l (tname i 3)).isSome = true
        rw [b2]; rfl
      · rw [hl] at e
        exact e
  · rw [if_neg (by omega), a2]
    have hd := drop_fine hT b2
    refine .inr (.inl ⟨rfl, ?_⟩)
    show HInv (Sf.drop s (tname i 3) []).1 _ _ _ _
    rw [hd]
    exact hi.step (Ch.rmT hm) (fun _ => rfl) (by omega) (fun h => by cases h) ⟨trivial, (Ch.rmT hm).held (fun _ => rfl) h2⟩ (fun x hx => .inl ⟨(mem_rm hx).1, fun _ e => by rw [hl] at e; injection e with e; exact absurd e.symm (mem_rm hx).2⟩) hi3

theorem tk_hand (hi : HInv s hs n now e) (hg : Sf.Good s) (hi3 : i < 3) (hn : n ≤ 300) (hph : (hs i).ph = .tk t) : TkTo hs s n now e i (t.step s (now : Int)) := by
  have h0 : t.sw.told = 0 := by
    have h1 := (hi.hand i hi3).1
    rw [hph] at h1
    exact h1.2.2.2.2.2.1
  have hnow := hi.now
  have key : TkTo hs s n now e i (t.doo s (now : Int)) := by
    unfold Tk.doo
    split
    · exact tk_read hi hg hi3 hn hph (by assumption)
    · split
      · exact tk_make hi hg hi3 hn hph (by assumption)
      · split
        · exact tk_put hi hg hi3 hn hph (by assumption)
        · exact tk_move hi hg hi3 hn hph (by omega)
  unfold Tk.step
  rw [if_pos h0, clock_ok (by omega) (by omega)]
  exact key
end Go.Proofs.YtfheaognfocofaaGreatDoor
