/- LockOne in plain words: what a step of a hand's Write comes to; what is begun; ticks. -/
import Derived.Test.YtfheaognfocofaaGreatDoorZ14
import Derived.Test.YtfheaognfocofaaGreatDoorZ13
namespace Go.Proofs.YtfheaognfocofaaGreatDoor
set_option maxRecDepth 100000
open Go.ChangeShapes Go.WideShapes Go.ChangeAt Go.RowKit Go.ChangeMaps
open Sf Lk

variable {s : S} {hs : Nat → Hd} {n now e i : Nat} {x : Sw}
/-- What a Write's step comes to. -/
def WrTo (hs : Nat → Hd) (s : S) (n now e i : Nat) (r : S × Sw × Nat) : Prop :=
  (r.2.2 = 0 ∧ HInv r.1 (upd hs i { hs i with ph := .wr { r.2.1 with told := 0 } }) (n + 1) now e) ∨
  (r.2.2 = 2 ∧ HInv r.1 (upd hs i { hs i with ph := .idle, held := false }) (n + 1) now e) ∨
  (r.2.2 = 1 ∧ (stamp s.l clm : Int) = (hs i).gs ∧ ∃ (k : Nat) (L : Lo), r.2.1.stamp = (k : Int) ∧ r.2.1.lock.held = L ∧ r.2.1.file = clm ∧ stamp r.1.l clm = k ∧ L.c = (hs i).lo.c ∧
    HInv r.1 (upd hs i { hs i with ph := .idle, held := false }) (n + 1) now e ∧ HInv r.1 (upd hs i { hs i with ph := .idle, gn := clm, gs := (k : Int), lo := L, held := true }) (n + 1) now e)

theorem wr_hand (hi : HInv s hs n now e) (hg : Sf.Good s) (hi3 : i < 3) (hph : (hs i).ph = .wr x) : WrTo hs s n now e i (x.step s) := by
  have hh := hi.hand i hi3
  obtain ⟨h1, h2⟩ := hh
  rw [hph] at h1
  obtain ⟨a0, a1, a2, a3, ⟨till, a4, a41, a42⟩, c, a5, a6, a7⟩ := h1
  obtain ⟨d1, d2, d3, d4, d5⟩ := h2 a0
  have hL : OkL x.lock := by
    rw [a4]
    obtain ⟨q1, q2, q3, q4, q5, q6, q7, q8⟩ := d2
    exact ⟨q1, q2, q3, q4, q5, q6, a41, by show till ≤ _; omega⟩
  have hLc : x.lock.c = (hs i).lo.c := by rw [a4]
  have hLa : x.lock.a = (i : Int) := by rw [a4]; exact d4
  have hLb : x.lock.b = 1 := by rw [a4]; exact d5
  have hep := hi.ep
  have hu := hi.used hg.1
  have hT := file_tname (i := i) (c := c) hi3 (by omega)
  have hm : tname i c ≠ clm := (clm_tname i c).symm
  unfold Sw.step
  rw [if_pos a3]
  show WrTo hs s n now e i ((x.doo s).1, { (x.doo s).2.1 with told := (x.doo s).2.2 }, (x.doo s).2.2)
  unfold Sw.doo
  by_cases h0 : x.next = 2
  · have hl : lies (hs i) = none := by unfold lies; rw [hph]; simp [h0]
    rw [if_pos h0]
    unfold Sw.put
    rw [a6, put_fine hT hi.room hu]
    dsimp only
    rw [if_pos rfl]
    refine .inl ⟨rfl, hi.step (Ch.wrT hm) (fun _ => rfl) (by omega) (fun h => by cases h) ⟨⟨a0, a1, a2, rfl, ⟨till, a4, a41, a42⟩, c, a5, rfl, .inr (.inl ⟨rfl, s.next + 1, ?_⟩)⟩, (Ch.wrT hm).held (fun _ => rfl) h2⟩ (fun y hy => ?_) hi3⟩
    · show Sf.get (wr s (tname i c) _).l (tname i c) = _
      rw [lget_wr, if_pos rfl]
    · rcases mem_wr hy with rfl | hy
      · exact .inr ⟨Lo.bytes_len _, .inr rfl⟩
      · exact .inl ⟨hy, fun _ e => by rw [hl] at e; cases e⟩
  · rw [if_neg h0]
    have hrow : Row s (tname i c) x := by
      rcases a7 with b | b
      · exact absurd b h0
      · exact b
    have hl : lies (hs i) = some (tname i c) := by
      unfold lies
      rw [hph]
      rcases hrow with ⟨b, -⟩ | ⟨b, -⟩ <;> simp [b, a6]
    rcases hrow with ⟨b1, k, b2⟩ | ⟨b1, b2⟩
    · rw [if_pos b1]
      unfold Sw.mv
      rw [a6, a1]
      by_cases hc : (Sf.get s.l clm).isSome = true ∧ (stamp s.l clm : Int) = x.stamp
      · rw [move_fine hT hm b2 hc.1 hc.2]
        dsimp only
        rw [if_pos rfl]
        have hce := d3.2.2.2.2 (hc.2.trans a2) hc.1
        have hcl : Cl (wr (rm s (tname i c)) clm x.lock.bytes) e := by
          unfold Cl
          rw [lget_wr, if_pos rfl]
          exact ⟨_, rfl, hL, by omega⟩
        have hfi : ∀ h : Hd, ∀ y ∈ (wr (rm s (tname i c)) clm x.lock.bytes).l, (y ∈ s.l ∧ (y.name ≠ clm → lies (hs i) = some y.name → lies h = some y.name)) ∨ (y.b.length = 34 ∧ (y.name = clm ∨ lies h = some y.name)) := fun h y hy => by
          rcases mem_wr hy with rfl | hy
          · exact .inr ⟨Lo.bytes_len _, .inl rfl⟩
          · have := mem_rm hy
            exact .inl ⟨this.1, fun _ e => by rw [hl] at e; injection e with e; exact absurd e.symm this.2⟩
        refine .inr (.inr ⟨rfl, hc.2.trans a2, s.next + 1, x.lock, rfl, held_ok hL, rfl, stamp_wr _ _ _, hLc, ?_, ?_⟩)
        · exact hi.step (Ch.mvC (T := tname i c)) (fun h => by cases h) (by omega) (fun _ => hcl) ⟨trivial, fun h => by cases h⟩ (hfi _) hi3
        · exact hi.step (Ch.mvC (T := tname i c)) (fun h => by cases h) (by omega) (fun _ => hcl) ⟨trivial, fun _ => ⟨rfl, hL, Stp.mk' (Nat.le_refl _) (by show 0 ≤ x.lock.c ∧ x.lock.c ≤ 100000; have := d3.2.2.1; have := d3.2.2.2.1; omega) (by show x.lock.c = _; omega), hLa, hLb⟩⟩ (hfi _) hi3
      · rw [move_off hT hm hc]
        dsimp only
        rw [if_neg (by decide)]
        refine .inl ⟨rfl, hi.step (Ch.same s (tname i c)) (fun _ => rfl) (by omega) (fun h => by cases h) ⟨⟨a0, rfl, a2, rfl, ⟨till, a4, a41, a42⟩, c, a5, rfl, .inr (.inr ⟨rfl, ?_⟩)⟩, h2⟩ (fun y hy => .inl ⟨hy, fun _ e => ?_⟩) hi3⟩
        · show (Sf.get s.l (tname i c)).isSome = true
          rw [b2]; rfl
        · rw [hl] at e
          exact e
    · rw [if_neg (by omega), a6]
      have hd := drop_fine hT b2
      refine .inr (.inl ⟨rfl, ?_⟩)
      show HInv (Sf.drop s (tname i c) []).1 _ _ _ _
      rw [hd]
      exact hi.step (Ch.rmT hm) (fun _ => rfl) (by omega) (fun h => by cases h) ⟨trivial, fun h => by cases h⟩ (fun y hy => .inl ⟨(mem_rm hy).1, fun _ e => by rw [hl] at e; injection e with e; exact absurd e.symm (mem_rm hy).2⟩) hi3

/-- A hand begins; files stay. -/
theorem HInv.turn {h : Hd} (hi : HInv s hs n now e) (hl : lies (hs i) = none) (hh : HOk s e i h) : HInv s (upd hs i h) n now e := by
  refine ⟨hi.room, hi.next, hi.now, hi.ep, hi.cl, fun y hy => ?_, fun j hj => ?_⟩
  · obtain ⟨a, b⟩ := hi.files y hy
    refine ⟨a, ?_⟩
    rcases b with b | ⟨j, hj, b⟩
    · exact .inl b
    · by_cases hji : j = i
      · rw [hji, hl] at b; cases b
      · exact .inr ⟨j, hj, by rw [upd_other _ _ hji]; exact b⟩
  · by_cases hji : j = i
    · rw [hji, upd_same]; exact hh
    · rw [upd_other _ _ hji]; exact hi.hand j hj
theorem begin_temp (hi3 : i < 3) (c : Nat) (hc : c ≤ 5) : Nm.temp (Nm.held (i : Int) 999) (Nm.held 1 99999) (Nm.held (c : Int) 99999) = tname i c := by
  have e1 : Nm.held (i : Int) 999 = i := by unfold Nm.held; omega
  have e2 : Nm.held (c : Int) 99999 = c := by unfold Nm.held; omega
  rw [e1, e2]
  rfl
theorem HInv.take (hi : HInv s hs n now e) (hi3 : i < 3) (hph : (hs i).ph = .idle) : HInv s (upd hs i { hs i with ph := .tk (Lk.begin clm (i : Int) 1 3 40) }) n now e := by
  refine hi.turn (by unfold lies; rw [hph]) ⟨⟨rfl, begin_temp hi3 3 (by omega), rfl, rfl, rfl, rfl, .inl rfl⟩, (hi.hand i hi3).2⟩
theorem HInv.begun (hi : HInv s hs n now e) (hi3 : i < 3) (hph : (hs i).ph = .idle) (hh : (hs i).held = true) (fr : Bool) {c : Nat} (hc : c = 4 ∨ c = 5) {till : Int} (ht : 0 ≤ till ∧ till ≤ 100000000) : HInv s (upd hs i { hs i with ph := .wr (Lk.write (hs i).gn (hs i).gs (hs i).lo (c : Int) till), fr := fr }) n now e := by
  have h2 := (hi.hand i hi3).2
  obtain ⟨d1, d2, d3, d4, d5⟩ := h2 hh
  refine hi.turn (by unfold lies; rw [hph]) ⟨⟨hh, d1, rfl, rfl, ⟨till, rfl, ht.1, ht.2⟩, c, hc, ?_, .inl rfl⟩, h2⟩
  show Nm.temp (Nm.held (hs i).lo.a 999) (Nm.held (hs i).lo.b 99999) _ = _
  rw [d4, d5]
  exact begin_temp hi3 c (by omega)
theorem HInv.tick (hi : HInv s hs n now e) {d : Nat} (hd : d ≤ 63) : HInv s hs (n + 1) (now + d) e :=
  ⟨hi.room, Nat.le_succ_of_le hi.next, by have := hi.now; omega, Nat.le_succ_of_le hi.ep, hi.cl, hi.files, hi.hand⟩
theorem hinv_new : HInv ⟨[], 1048576, 0, -1⟩ (fun _ => ⟨.idle, false, [], 0, lo0, false⟩) 0 0 0 :=
  ⟨rfl, Nat.le_refl _, Nat.le_refl _, Nat.le_refl _, rfl, fun x hx => (by cases hx), fun _ _ => ⟨trivial, fun h => by cases h⟩⟩
theorem HInv.few (hi : HInv s hs n now e) (hg : Sf.Good s) : (Sf.list s.l [116, 109, 112]).length ≤ 3 := (hi.files.few hg.1).2
end Go.Proofs.YtfheaognfocofaaGreatDoor

/- Package lock: what a Write tells as held. -/
namespace Go.Proofs.YtfheaognfocofaaGreatDoor
set_option maxRecDepth 100000
open Go.ChangeShapes Go.WideShapes Go.ChangeAt Go.RowKit Go.ChangeMaps
open Sf Lk

def wrO (x : Sw) (fr : Bool) : Option (Int × Lo) := if fr then none else x.held
set_option maxRecDepth 100000 in
set_option maxHeartbeats 4000000 in
theorem wrheld_any {w : World} {g : Nat} (x : Sw) (fr : Bool) (hk : WrBlk w g x fr) :
    Calls Tryz.prog 14 #[.pointer (some ⟨g, 0, none⟩)] w fun e w' => e = .returned (heldV x.file (wrO x fr)) ∧ Below w.heap.size w w' := by
  have k9 := fun o1 o2 => blk_cell (v := .bool fr) ((Blk.alloc hk o1).alloc o2) 9 rfl
  rcases fr with _ | _
  · show Calls _ _ _ _ fun e w' => e = .returned (heldV x.file x.held) ∧ _
    obtain ⟨f, k, ⟨a, b, c, d⟩, q, hp⟩ := heldV_parts x.file x.held
    have C : Hid (∀ o1 o2, Calls Tryz.prog 20 #[.pointer (some ⟨g, 0, none⟩)] ((w.alloc o1).alloc o2) fun e w' => e = .returned (.tuple #[guardV f k, loV ⟨a, b, c, d⟩, .bool q]) ∧ Below ((w.alloc o1).alloc o2).heap.size ((w.alloc o1).alloc o2) w') := Lib.hid fun o1 o2 => by
      rw [← hp]
      exact swheld_any _ x [.bool false] ((Blk.alloc hk o1).alloc o2)
    rw [hp]
    clear hk hp
    go_enter Tryz.func14, Tryz.ntmps14
    go_wp2_with fail
    refine (C.out _ _).mono ?_
    rintro e w1 ⟨rfl, hb1⟩
    have HT := Lib.hid (fun w6 => three_cells (a := a) (b := b) (c := c) (d := d) (k := k) (fl := f) hb1 w6)
    have h2 : Blk w1 w.heap.size 28 #[.string ⟨#[]⟩, .int .i64 0] := Blk.under (Blk.alloc (heap_alloc_new w _) _) hb1
    have h3 : Blk w1 (w.heap.size + 1) 30 #[.int .i64 0, .int .i64 0, .int .i64 0, .int .i64 0] := Blk.under (heap_alloc_new' _ _ (by simp)) hb1
    have c0 := h2.at 0
    have c1 := h2.at 1
    have d0 := h3.at 0
    have d1 := h3.at 1
    have d2 := h3.at 2
    have d3 := h3.at 3
    have f0 := h2.free 0
    have f1 := h2.free 1
    have e0 := h3.free 0
    have e1 := h3.free 1
    have e2 := h3.free 2
    have e3 := h3.free 3
    clear h2 h3 hb1
    go_wp2
    obtain ⟨w6, hw6⟩ : ∃ w6, (((((w1.setCell ⟨w.heap.size, 0, none⟩ (.string (str f))).setCell ⟨w.heap.size, 1, none⟩ (.int .i64 k)).setCell ⟨w.heap.size + 1, 0, none⟩ (.int .i64 a)).setCell ⟨w.heap.size + 1, 1, none⟩ (.int .i64 b)).setCell ⟨w.heap.size + 1, 2, none⟩ (.int .i64 c)).setCell ⟨w.heap.size + 1, 3, none⟩ (.int .i64 d) = w6 := ⟨_, rfl⟩
    obtain ⟨F2, F3, HB⟩ := HT.out w6 hw6
    rw [hw6]
    refine bodyPost_ret (results_cct rfl _ _ w.heap.size _ _ _ _ (w.heap.size + 1) _ _ _ _ rfl F2 rfl F3 Tryz.underlying28 rfl (by kernel_rfl) Tryz.underlying30 rfl (by kernel_rfl)) rfl ?_
    exact ⟨rfl, HB⟩
  · show Calls _ _ _ _ fun e w' => e = .returned (.tuple #[guardV [] 0, loV lo0, .bool false]) ∧ _
    have HB2 : Hid (∀ o1 o2, Below w.heap.size w ((w.alloc o1).alloc o2)) := Lib.hid fun o1 o2 => ((Below.refl w.heap.size w).alloc (Nat.le_refl _) _).alloc (by simp) _
    clear hk
    go_enter Tryz.func14, Tryz.ntmps14
    go_wp2
    refine bodyPost_ret (results_cct rfl _ _ w.heap.size _ _ _ _ (w.heap.size + 1) _ _ _ _ rfl (Blk.alloc (heap_alloc_new w _) _) rfl (heap_alloc_new' _ _ (by simp)) Tryz.underlying28 rfl (by kernel_rfl) Tryz.underlying30 rfl (by kernel_rfl)) rfl ?_
    exact ⟨rfl, HB2.out _ _⟩
end Go.Proofs.YtfheaognfocofaaGreatDoor

/- LockOne: three hands in one row of cells. -/
namespace Go.Proofs.YtfheaognfocofaaGreatDoor
set_option maxRecDepth 100000
open Go.ChangeShapes Go.WideShapes Go.ChangeAt Go.RowKit Go.ChangeMaps
open Sf Lk

def all3 (R : Nat → List Value) : List Value := R 0 ++ (R 1 ++ R 2)
def updR (R : Nat → List Value) (i : Nat) (r : List Value) : Nat → List Value := fun j => if j = i then r else R j
theorem all3_get {R : Nat → List Value} (h : ∀ i, i < 3 → (R i).length = 10) {i j : Nat} (hi : i < 3) (hj : j < 10) : (all3 R)[i * 10 + j]? = (R i)[j]? := by
  have h0 := h 0 (by omega)
  have h1 := h 1 (by omega)
  have h2 := h 2 (by omega)
  unfold all3
  obtain rfl | rfl | rfl : i = 0 ∨ i = 1 ∨ i = 2 := by omega
  · rw [List.getElem?_append_left (by omega)]; congr 1; omega
  · rw [List.getElem?_append_right (by omega), List.getElem?_append_left (by omega)]; congr 1; omega
  · rw [List.getElem?_append_right (by omega), List.getElem?_append_right (by omega)]; congr 1; omega
theorem all3_set {R : Nat → List Value} (h : ∀ i, i < 3 → (R i).length = 10) {i j : Nat} (hi : i < 3) (hj : j < 10) (v : Value) : (all3 R).set (i * 10 + j) v = all3 (updR R i ((R i).set j v)) := by
  have h0 := h 0 (by omega)
  have h1 := h 1 (by omega)
  have h2 := h 2 (by omega)
  unfold all3 updR
  obtain rfl | rfl | rfl : i = 0 ∨ i = 1 ∨ i = 2 := by omega
  · rw [List.set_append_left _ _ (by omega)]; simp
  · rw [List.set_append_right _ _ (by omega), List.set_append_left _ _ (by omega), h0]; simp
  · rw [List.set_append_right _ _ (by omega), List.set_append_right _ _ (by omega), h0, h1]; simp; congr 2; omega
def hcells (h : Hd) (vt vw : Value) : List Value := [vt, vw, .bool h.fr, .string (str h.gn), .int .i64 h.gs, .int .i64 h.lo.a, .int .i64 h.lo.b, .int .i64 h.lo.c, .int .i64 h.lo.d, .bool h.held]
/-- What a hand's pointers lead to. -/
def HPt (w : World) (K : Nat → Prop) (B pa : Nat) (h : Hd) (vt vw : Value) (g : Nat) : Prop :=
  match h.ph with
  | .idle => vt = .pointer none ∧ vw = .pointer none
  | .tk t => vt = .pointer (some ⟨g, 0, none⟩) ∧ vw = .pointer none ∧ K g ∧ g ≠ pa ∧ B ≤ g ∧ TkBlk w g t
  | .wr x => vt = .pointer none ∧ vw = .pointer (some ⟨g, 0, none⟩) ∧ K g ∧ g ≠ pa ∧ B ≤ g ∧ WrBlk w g x h.fr
def Lv (h : Hd) : Prop := h.ph ≠ .idle
structure W3 (w0 w : World) (p pa : Nat) (s : S) (hs : Nat → Hd) (K : Nat → Prop) (R : Nat → List Value) (gb : Nat → Nat) : Prop where
  fk : Fk K w0 w p s
  ka : K pa
  za : w0.heap.size ≤ pa
  blk : Blk w pa 33 (all3 R).toArray
  row : ∀ i, i < 3 → ∃ vt vw, R i = hcells (hs i) vt vw ∧ HPt w K w0.heap.size pa (hs i) vt vw (gb i)
  far : ∀ i j, i < 3 → j < 3 → i ≠ j → Lv (hs i) → Lv (hs j) → gb i ≠ gb j
theorem W3.len {w0 w : World} {p pa : Nat} {s : S} {hs : Nat → Hd} {K : Nat → Prop} {R : Nat → List Value} {gb : Nat → Nat} (h : W3 w0 w p pa s hs K R gb) : ∀ i, i < 3 → (R i).length = 10 := fun i hi => by
  obtain ⟨vt, vw, e, -⟩ := h.row i hi
  rw [e]; rfl
theorem HPt.later {w w' : World} {K K' : Nat → Prop} {B pa g : Nat} {h : Hd} {vt vw : Value} (hp : HPt w K B pa h vt vw g) (hK : ∀ k, K k → K' k) (hk : Lv h → w'.heap[g]? = w.heap[g]?) : HPt w' K' B pa h vt vw g := by
  unfold HPt Lv at *
  rcases e : h.ph with _ | t | x
  · rw [e] at hp; exact hp
  · rw [e] at hp hk
    obtain ⟨a, b, c, d, f, j⟩ := hp
    exact ⟨a, b, hK _ c, d, f, (hk (by simp)).trans j⟩
  · rw [e] at hp hk
    obtain ⟨a, b, c, d, f, j⟩ := hp
    exact ⟨a, b, hK _ c, d, f, (hk (by simp)).trans j⟩
theorem HPt.mem {w : World} {K : Nat → Prop} {B pa g : Nat} {h : Hd} {vt vw : Value} (hp : HPt w K B pa h vt vw g) (hl : Lv h) : K g ∧ g ≠ pa := by
  unfold HPt Lv at *
  rcases e : h.ph with _ | t | x
  · exact absurd e hl
  · rw [e] at hp; exact ⟨hp.2.2.1, hp.2.2.2.1⟩
  · rw [e] at hp; exact ⟨hp.2.2.1, hp.2.2.2.1⟩
/-- A hand turns; the others stay. -/
theorem W3.turn {w0 w w' : World} {p pa i g : Nat} {s s' : S} {hs : Nat → Hd} {K K' : Nat → Prop} {R : Nat → List Value} {gb : Nat → Nat} {h' : Hd} {vt vw : Value} (h : W3 w0 w p pa s hs K R gb) (hi : i < 3) (hK : ∀ k, K k → K' k) (hf : Fk K' w0 w' p s')
    (hk : Kept (fun k => K k ∧ k ≠ pa ∧ (Lv (hs i) → k ≠ gb i)) w w') (hb : Blk w' pa 33 (all3 (updR R i (hcells h' vt vw))).toArray) (hp : HPt w' K' w0.heap.size pa h' vt vw g) (hg : Lv h' → (g = gb i ∧ Lv (hs i)) ∨ w.heap.size ≤ g) :
    W3 w0 w' p pa s' (upd hs i h') K' (updR R i (hcells h' vt vw)) (fun j => if j = i then g else gb j) := by
  have hlt : ∀ j, j < 3 → Lv (hs j) → gb j < w.heap.size := fun j hj hl => by
    obtain ⟨_, _, _, hq⟩ := h.row j hj
    exact h.fk.lt (hq.mem hl).1
  refine ⟨hf, hK _ h.ka, h.za, hb, fun j hj => ?_, fun j k hj hk' hjk lj lk => ?_⟩
  · by_cases e : j = i
    · subst e
      rw [upd_same]
      refine ⟨vt, vw, by simp [updR], ?_⟩
      simpa using hp
    · obtain ⟨a, b, c, d⟩ := h.row j hj
      rw [upd_other _ _ e]
      refine ⟨a, b, by simp [updR, e, c], ?_⟩
      simp only [if_neg e]
      exact d.later hK fun hl => hk.2 _ ⟨(d.mem hl).1, (d.mem hl).2, fun hl2 => h.far j i hj hi e hl hl2⟩
  · by_cases e1 : j = i
    · subst e1
      rw [upd_same] at lj
      rw [upd_other _ _ (Ne.symm hjk)] at lk
      rw [if_pos rfl, if_neg (Ne.symm hjk)]
      rcases hg lj with ⟨rfl, hl⟩ | hge
      · exact h.far j k hj hk' hjk hl lk
      · have := hlt k hk' lk; omega
    · by_cases e2 : k = i
      · subst e2
        rw [upd_same] at lk
        rw [upd_other _ _ e1] at lj
        rw [if_neg e1, if_pos rfl]
        rcases hg lk with ⟨rfl, hl⟩ | hge
        · exact h.far j k hj hk' hjk lj hl
        · have := hlt j hj lj; omega
      · rw [upd_other _ _ e1] at lj
        rw [upd_other _ _ e2] at lk
        rw [if_neg e1, if_neg e2]
        exact h.far j k hj hk' hjk lj lk
/-- A hand's cells. -/
theorem W3.cell {w0 w : World} {p pa i j : Nat} {s : S} {hs : Nat → Hd} {K : Nat → Prop} {R : Nat → List Value} {gb : Nat → Nat} (h : W3 w0 w p pa s hs K R gb) (hi : i < 3) (hj : j < 10) {v : Value} (e : (R i)[j]? = some v) : w.cell? ⟨pa, i * 10 + j, none⟩ = some v := by
  rw [h.blk.at]
  have := all3_get h.len hi hj
  rw [e] at this
  simpa using this
theorem blk_put3 {w : World} {pa i j : Nat} {R : Nat → List Value} (h : Blk w pa 33 (all3 R).toArray) (hl : ∀ i, i < 3 → (R i).length = 10) (hi : i < 3) (hj : j < 10) (v : Value) : Blk (w.setCell ⟨pa, i * 10 + j, none⟩ v) pa 33 (all3 (updR R i ((R i).set j v))).toArray :=
  blk_put h _ v (all3_set hl hi hj v)
theorem W3.cells {w0 w : World} {p pa i : Nat} {s : S} {hs : Nat → Hd} {K : Nat → Prop} {R : Nat → List Value} {gb : Nat → Nat} (h : W3 w0 w p pa s hs K R gb) (hi : i < 3) : ∃ vt vw, R i = hcells (hs i) vt vw ∧ HPt w K w0.heap.size pa (hs i) vt vw (gb i) ∧ w.cell? ⟨pa, i * 10, none⟩ = some vt ∧ w.cell? ⟨pa, i * 10 + 1, none⟩ = some vw ∧ w.cell? ⟨pa, i * 10 + 2, none⟩ = some (.bool (hs i).fr) ∧
    w.cell? ⟨pa, i * 10 + 3, none⟩ = some (.string (str (hs i).gn)) ∧ w.cell? ⟨pa, i * 10 + 4, none⟩ = some (.int .i64 (hs i).gs) ∧ w.cell? ⟨pa, i * 10 + 5, none⟩ = some (.int .i64 (hs i).lo.a) ∧ w.cell? ⟨pa, i * 10 + 6, none⟩ = some (.int .i64 (hs i).lo.b) ∧ w.cell? ⟨pa, i * 10 + 7, none⟩ = some (.int .i64 (hs i).lo.c) ∧ w.cell? ⟨pa, i * 10 + 8, none⟩ = some (.int .i64 (hs i).lo.d) ∧ w.cell? ⟨pa, i * 10 + 9, none⟩ = some (.bool (hs i).held) := by
  obtain ⟨vt, vw, e, hp⟩ := h.row i hi
  exact ⟨vt, vw, e, hp, h.cell (j := 0) hi (by omega) (by rw [e]; rfl), h.cell (j := 1) hi (by omega) (by rw [e]; rfl), h.cell (j := 2) hi (by omega) (by rw [e]; rfl), h.cell (j := 3) hi (by omega) (by rw [e]; rfl), h.cell (j := 4) hi (by omega) (by rw [e]; rfl), h.cell (j := 5) hi (by omega) (by rw [e]; rfl), h.cell (j := 6) hi (by omega) (by rw [e]; rfl), h.cell (j := 7) hi (by omega) (by rw [e]; rfl), h.cell (j := 8) hi (by omega) (by rw [e]; rfl), h.cell (j := 9) hi (by omega) (by rw [e]; rfl)⟩
theorem updR_same (R : Nat → List Value) (i : Nat) (r : List Value) : updR R i r i = r := if_pos rfl
theorem updR_updR (R : Nat → List Value) (i : Nat) (r r' : List Value) : updR (updR R i r) i r' = updR R i r' := funext fun j => by
  by_cases h : j = i <;> simp [updR, h]
theorem updR_id {R : Nat → List Value} {i : Nat} {r : List Value} (h : R i = r) : updR R i r = R := funext fun j => by
  by_cases e : j = i
  · subst e; simp [updR, h]
  · simp [updR, e]
theorem updR_len {R : Nat → List Value} {j : Nat} {r : List Value} (h : ∀ i, i < 3 → (R i).length = 10) (hr : r.length = 10) : ∀ i, i < 3 → (updR R j r i).length = 10 := fun i hi => by
  by_cases e : i = j
  · simp [updR, e, hr]
  · simp [updR, e, h i hi]
/-- One cell of a hand is stored into. -/
theorem blk_one {w : World} {pa i j : Nat} {R : Nat → List Value} {r r' : List Value} (h : Blk w pa 33 (all3 R).toArray) (hl : ∀ i, i < 3 → (R i).length = 10) (hi : i < 3) (hj : j < 10) (v : Value) (e : R i = r) (e' : r.set j v = r') : Blk (w.setCell ⟨pa, i * 10 + j, none⟩ v) pa 33 (all3 (updR R i r')).toArray := by
  subst e e'
  exact blk_put3 h hl hi hj v
end Go.Proofs.YtfheaognfocofaaGreatDoor
