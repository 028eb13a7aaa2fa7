/- Package mani's own reader: signs, names of files, what goes through names. -/
import Derived.Test.YtgjehlegcmeeoaaGreatDoorZ08
import Derived.Test.YtgjehlegcmeeoaaGreatDoorShelf
import Derived.Test.YtgjehlegcmeeoaaGreatDoorZ16
import Derived.Test.YtgjehlegcmeeoaaGreatDoorZ13
import Derived.Test.YtgjehlegcmeeoaaGreatDoorZ03
import Derived.Test.YtgjehlegcmeeoaaGreatDoorZ05
namespace Go.Proofs.YtgjehlegcmeeoaaGreatDoor
set_option maxRecDepth 100000
open Go.ChangeShapes Go.WideShapes Go.ChangeAt Go.RowKit Go.Shelf

theorem sign_is : ∀ c, c < 256 → decide (0 ≤ Lib.indexByte [58, 124, 61, 59, 44] (UInt8.ofNat c)) = Ln.sign c := by decide +kernel
set_option maxHeartbeats 4000000 in
theorem issign_any (x : Ln.W) (w : World) (hx : ∀ c ∈ x.text, c < 256) :
    Calls Tryz.prog 116 #[.agg (cellsW x).toArray] w fun e w' => e = .returned (.bool (Mn.aSign x)) ∧ Below w.heap.size w w' := by
  obtain ⟨xt, xl, xc, xq⟩ := x
  change ∀ c ∈ xt, c < 256 at hx
  have HBX : Hid (∀ o, Below w.heap.size w (w.alloc o)) := Lib.hid (fun o => (Below.refl _ _).alloc (Nat.le_refl _) o)
  rw [show (cellsW ⟨xt, xl, xc, xq⟩).toArray = #[.string (str xt), .int .i64 xl, .int .i64 xc, .bool xq] from rfl]
  have hsz := str_size xt
  rcases xq with _ | _
  · by_cases h1 : xt.length = 1
    · obtain ⟨c, rfl⟩ : ∃ c, xt = [c] := by
        rcases xt with _ | ⟨c, _ | ⟨d, r⟩⟩
        · cases h1
        · exact ⟨c, rfl⟩
        · simp at h1
      have hc : c < 256 := hx c (by simp)
      have HW : Hid (Mn.aSign ⟨[c], xl, xc, false⟩ = Ln.sign c) := Lib.hid (by unfold Mn.aSign; simp)
      have HS : Hid (decide (0 ≤ Lib.indexByte [58, 124, 61, 59, 44] (UInt8.ofNat c)) = Ln.sign c) := Lib.hid (sign_is c hc)
      clear hc hx
      go_enter Tryz.func116, Tryz.ntmps116
      go_wp2_with fail
      refine (Tryz.strings_Contains_one ⟨#[58, 124, 61, 59, 44]⟩ (UInt8.ofNat c) _).mono ?_
      rintro e w2 ⟨rfl, rfl⟩
      rw [show (⟨#[58, 124, 61, 59, 44]⟩ : ByteArray).data.toList = [58, 124, 61, 59, 44] from rfl, HS.out]
      obtain ⟨q, hq⟩ : ∃ q, Ln.sign c = q := ⟨_, rfl⟩
      rw [hq] at HW ⊢
      clear hq HS
      go_wp2
      go_ret
      exact ⟨by rw [HW.out] <;> rfl, HBX.out _⟩
    · have hn : ((xt.length : Int) == 1) = false := by simp; omega
      have HW : Hid (Mn.aSign ⟨xt, xl, xc, false⟩ = false) := Lib.hid (by unfold Mn.aSign; simp [h1])
      clear h1
      go_enter Tryz.func116, Tryz.ntmps116
      go_wp2
      go_ret
      exact ⟨by rw [HW.out] <;> rfl, HBX.out _⟩
  · have HW : Hid (Mn.aSign ⟨xt, xl, xc, true⟩ = false) := Lib.hid (by unfold Mn.aSign; simp)
    go_enter Tryz.func116, Tryz.ntmps116
    go_wp2
    go_ret
    exact ⟨by rw [HW.out] <;> rfl, HBX.out _⟩
set_option maxHeartbeats 4000000 in
theorem mfile_any (t : List Nat) (w : World) (ht : ∀ c ∈ t, c < 256) (hl : t.length ≤ 1073741824) :
    Calls Tryz.prog 118 #[.string (str t)] w fun e w' => e = .returned (.bool (Mo.file t)) ∧ w = w' := by
  have hm := str_same (m := Mn.manifest) ht (by decide)
  have hr := str_same (m := Mn.trace) ht (by decide)
  rw [str_toList Mn.manifest] at hm
  rw [str_toList Mn.trace] at hr
  change ((str t).toList == [109, 97, 110, 105, 102, 101, 115, 116]) = _ at hm
  change ((str t).toList == [116, 114, 97, 99, 101]) = _ at hr
  have hf : Mo.file t = (Nm.ok t && !decide (t = Mn.manifest) && !decide (t = Mn.trace)) := by unfold Mo.file; simp
  rcases ho : Nm.ok t with _ | _
  · have HW : Hid (Mo.file t = false) := Lib.hid (by unfold Mo.file; simp [ho])
    have HO := Lib.hid ho
    clear ho hm hr hf
    go_enter Tryz.func118, Tryz.ntmps118
    go_wp2_with fail
    refine (ok_any t _ ht hl).mono ?_
    rintro e w2 ⟨rfl, rfl⟩
    rw [HO.out]
    go_wp2
    go_ret
    exact ⟨by rw [HW.out] <;> rfl, rfl⟩
  · rcases h1 : decide (t = Mn.manifest) with _ | _ <;> rcases h2 : decide (t = Mn.trace) with _ | _
    all_goals
      rw [ho, h1, h2] at hf
      have HW := Lib.hid hf
      have HO := Lib.hid ho
      rw [h1] at hm
      rw [h2] at hr
      clear ho h1 h2 hf
      go_enter Tryz.func118, Tryz.ntmps118
      go_wp2_with fail
      refine (ok_any t _ ht hl).mono ?_
      rintro e w2 ⟨rfl, rfl⟩
      rw [HO.out]
      go_wp2
      go_ret
      exact ⟨by rw [HW.out] <;> rfl, rfl⟩
end Go.Proofs.YtgjehlegcmeeoaaGreatDoor

/- Package mani's own reader: the function that goes through names. -/
namespace Go.Proofs.YtgjehlegcmeeoaaGreatDoor
set_option maxRecDepth 100000
open Go.ChangeShapes Go.WideShapes Go.ChangeAt Go.RowKit Go.Shelf

attribute [local go_sem] Oper.semAt_some

/-- The reader behind so many names. -/
def Mo.st (stp : Ln.W → Mo.S → Mo.S) (ws : List Ln.W) (s : Mo.S) : Nat → Mo.S
  | 0 => s
  | k + 1 => stp (ws.getD k Mo.word0) { Mo.st stp ws s k with rest := ws.drop (k + 1) }
/-- A step that leaves what is left of the line alone, and no fault behind. -/
def Mo.Step (stp : Ln.W → Mo.S → Mo.S) : Prop := ∀ x s, (stp x s).rest = s.rest
theorem Mo.st_rest {stp : Ln.W → Mo.S → Mo.S} (h : Mo.Step stp) (s : Mo.S) : ∀ k, (Mo.st stp s.rest s k).rest = s.rest.drop k
  | 0 => rfl
  | k + 1 => by rw [Mo.st, h]
theorem mdrop_cons {ws r : List Ln.W} {x : Ln.W} {k : Nat} (h : ws.drop k = x :: r) : ws.getD k Mo.word0 = x ∧ ws.drop (k + 1) = r := by
  have hk : k < ws.length := by
    rcases Nat.lt_or_ge k ws.length with hk | hk
    · exact hk
    · rw [List.drop_eq_nil_of_le hk] at h
      cases h
  rw [List.drop_eq_getElem_cons hk] at h
  injection h with h1 h2
  exact ⟨by rw [List.getD_eq_getElem?_getD, List.getElem?_eq_getElem hk]; exact h1, h2⟩
/-- Behind k names the rest is still to be gone through. -/
def Mo.On (stp : Ln.W → Mo.S → Mo.S) (most : Nat) (may : List Nat → Bool) (s : Mo.S) (k : Nat) : Prop := Mo.run stp most may s.rest 0 s = Mo.run stp most may (s.rest.drop k) k (Mo.st stp s.rest s k) ∧ k ≤ (Mo.run stp most may s.rest 0 s).1
theorem Mo.on_zero (stp : Ln.W → Mo.S → Mo.S) (most : Nat) (may : List Nat → Bool) (s : Mo.S) : Mo.On stp most may s 0 := ⟨rfl, Nat.zero_le _⟩
theorem Mo.run_ge (stp : Ln.W → Mo.S → Mo.S) (most : Nat) (may : List Nat → Bool) : ∀ (l : List Ln.W) (n : Nat) (s : Mo.S), n ≤ (Mo.run stp most may l n s).1
  | [], n, s => Nat.le_refl _
  | w :: r, n, s => by
    unfold Mo.run
    split
    · exact Nat.le_refl _
    · split
      · exact Nat.le_refl _
      · split
        · exact Nat.le_refl _
        · exact Nat.le_trans (Nat.le_succ _) (Mo.run_ge stp most may r (n + 1) _)
section
variable {stp : Ln.W → Mo.S → Mo.S} {most k : Nat} {may : List Nat → Bool} {s : Mo.S} {x : Ln.W} {r : List Ln.W}
theorem Mo.On.nil (h : Mo.On stp most may s k) (hd : s.rest.drop k = []) : Mo.run stp most may s.rest 0 s = (k, Mo.st stp s.rest s k) := by rw [h.1, hd]; rfl
theorem Mo.On.sign (h : Mo.On stp most may s k) (hd : s.rest.drop k = x :: r) (hx : Mn.aSign x = true) : Mo.run stp most may s.rest 0 s = (k, Mo.st stp s.rest s k) := by rw [h.1, hd, Mo.run, if_pos hx]
theorem Mo.On.name (h : Mo.On stp most may s k) (hd : s.rest.drop k = x :: r) (hx : Mn.aSign x = false) (hn : (x.q || !may x.text) = true) : Mo.run stp most may s.rest 0 s = (k, Mo.fail 5 x (Mo.st stp s.rest s k)) := by
  rw [h.1, hd, Mo.run, if_neg (by rw [hx]; decide), if_pos hn]
theorem Mo.On.many (h : Mo.On stp most may s k) (hd : s.rest.drop k = x :: r) (hx : Mn.aSign x = false) (hn : (x.q || !may x.text) = false) (hm : k = most) : Mo.run stp most may s.rest 0 s = (k, Mo.fail 7 x (Mo.st stp s.rest s k)) := by
  rw [h.1, hd, Mo.run, if_neg (by rw [hx]; decide), if_neg (by rw [hn]; decide), if_pos hm]
theorem Mo.On.next (h : Mo.On stp most may s k) (hd : s.rest.drop k = x :: r) (hx : Mn.aSign x = false) (hn : (x.q || !may x.text) = false) (hm : k ≠ most) : Mo.On stp most may s (k + 1) ∧ k < (Mo.run stp most may s.rest 0 s).1 := by
  have e : Mo.run stp most may s.rest 0 s = Mo.run stp most may (s.rest.drop (k + 1)) (k + 1) (Mo.st stp s.rest s (k + 1)) := by
    rw [h.1, hd, Mo.run, if_neg (by rw [hx]; decide), if_neg (by rw [hn]; decide), if_neg hm]
    rw [Mo.st, (mdrop_cons hd).1, (mdrop_cons hd).2]
  have := Mo.run_ge stp most may (s.rest.drop (k + 1)) (k + 1) (Mo.st stp s.rest s (k + 1))
  rw [← e] at this
  exact ⟨⟨e, this⟩, this⟩
end
/-- What is asked of a name: a function of the program's own. -/
def MayIs (F : Nat) (may : List Nat → Bool) : Prop := (∀ args w, (callFunc F args).run Tryz.prog w = .ok (.enter F args) w) ∧ ∀ (t : List Nat) (w : World), (∀ c ∈ t, c < 256) → t.length ≤ 1073741824 → Calls Tryz.prog F #[.string (str t)] w fun e w' => e = .returned (.bool (may t)) ∧ w = w'
theorem may_ok : MayIs 95 Nm.ok := ⟨enters_of Tryz.func95 (by kernel_rfl) rfl, fun t w h1 h2 => ok_any t w h1 h2⟩
theorem may_file : MayIs 118 Mo.file := ⟨enters_of Tryz.func118 (by kernel_rfl) rfl, fun t w h1 h2 => mfile_any t w h1 h2⟩
/-- What the function that goes through names has been given. -/
def MBoxes (w : World) (z g : Nat) (most F : Nat) : Prop := Blk w z 83 #[.pointer (some ⟨g, 0, none⟩)] ∧ Blk w (z + 1) 3 #[.int .i64 (most : Int)] ∧ Blk w (z + 2) 65 #[.func (.func F) #[] #[]]
theorem MBoxes.grown {w w' : World} {z g most F : Nat} (h : MBoxes w z g most F) (hg : w.grownBy w' (some g)) (hne : g < z) : MBoxes w' z g most F :=
  ⟨h.1.grown hg (by intro e; injection e; omega), h.2.1.grown hg (by intro e; injection e; omega), h.2.2.grown hg (by intro e; injection e; omega)⟩
set_option maxHeartbeats 4000000 in
theorem mnames_any (g most F : Nat) (w : World) : Calls Tryz.prog 94 #[.pointer (some ⟨g, 0, none⟩), .int .i64 (most : Int), .func (.func F) #[] #[]] w fun e w' =>
    e = .returned (.func (.func 115) #[] #[.pointer (some ⟨w.heap.size, 0, none⟩), .pointer (some ⟨w.heap.size + 2, 0, none⟩), .pointer (some ⟨w.heap.size + 1, 0, none⟩)]) ∧ MBoxes w' w.heap.size g most F ∧ Below w.heap.size w w' ∧ w'.heap.size = w.heap.size + 3 := by
  go_enter Tryz.func94, Tryz.ntmps94
  go_wp2
  go_ret
  have hb : ∀ (A : World) (o : Obj), Below A.heap.size A (A.alloc o) := fun A o => (Below.refl _ _).alloc (Nat.le_refl _) o
  have h2 := heap_alloc_new (w.alloc (.cells #[.pointer (some ⟨g, 0, none⟩)] 83)) (.cells #[.int .i64 (most : Int)] 3)
  have h3 := heap_alloc_new ((w.alloc (.cells #[.pointer (some ⟨g, 0, none⟩)] 83)).alloc (.cells #[.int .i64 (most : Int)] 3)) (.cells #[.func (.func F) #[] #[]] 65)
  simp only [World.size_alloc, Nat.add_assoc, Nat.reduceAdd] at h2 h3
  refine ⟨rfl, ⟨Blk.alloc (Blk.alloc (heap_alloc_new w _) _) _, Blk.alloc h2 _, h3⟩, (((Below.refl _ _).alloc (Nat.le_refl _) _).alloc (by simp) _).alloc (by simp; omega) _, by simp⟩
def wordEnc (x : Ln.W) : Array Value := #[.agg (cellsW x).toArray]
/-- What lies when so many names have been gone through. -/
def Gone (stp : Ln.W → Mo.S → Mo.S) (base hi g lb mb z most F : Nat) (s : Mo.S) (k : Nat) (W : World) : Prop := MRd W base hi g lb mb (Mo.st stp s.rest s k) ∧ MBoxes W z g most F ∧ z + 3 ≤ W.heap.size
set_option maxHeartbeats 8000000 in
theorem names_iter (stp : Ln.W → Mo.S → Mo.S) (hst : Mo.Step stp) (base hi g lb mb z most F : Nat) (may : List Nat → Bool) (hmay : MayIs F may) (s : Mo.S) (hmost : most ≤ 1000) (_hz : hi ≤ z) :
    IterG Tryz.prog 115 #[.pointer (some ⟨z, 0, none⟩), .pointer (some ⟨z + 2, 0, none⟩), .pointer (some ⟨z + 1, 0, none⟩)] wordEnc (Mo.run stp most may s.rest 0 s).1 (fun k => s.rest.getD k Mo.word0)
      (Gone stp base hi g lb mb z most F s) (fun k A B => Left A base hi g lb mb { Mo.st stp s.rest s k with rest := s.rest.drop (k + 1) } B) (fun A B => Left A base hi g lb mb (Mo.run stp most may s.rest 0 s).2 B) := by
  intro l J M E W hInv hT hTE hY h0
  have HI := Lib.hid hInv
  have HT := Lib.hid hT
  have HE := Lib.hid hTE
  have HY := Lib.hid hY
  have HM := Lib.hid hmay.2
  have heF := hmay.1
  have HS := Lib.hid hst
  clear hInv hT hTE hY hmay hst
  refine callsIn_of_wp Tryz.func115 rfl trivial ?_ rfl
  simp only [Tryz.ntmps115, List.size_toArray, List.length_cons, List.length_nil, Nat.reduceAdd, Nat.reduceSub, Array.replicate_succ, Array.replicate_zero, List.push_toArray, List.append_toArray, List.nil_append, List.cons_append]
  gi_wp2
  gi_loopw [5] (fun i wr => ∃ k : Nat, i = .int .i64 (k : Int) ∧ J k wr ∧ Hid (Mo.On stp most may s k) ∧ k ≤ most ∧ k ≤ s.rest.length) (fun i _ => s.rest.length - (intOf i).toNat)
  case atStart => exact ⟨0, rfl, h0, Lib.hid (Mo.on_zero _ _ _ _), Nat.zero_le _, Nat.zero_le _⟩
  case round =>
    obtain ⟨k, rfl, hj, hon, hkm, hkl⟩ := hrel
    have hR := (HI.out k wr hj).1
    have hBx := (HI.out k wr hj).2.1
    have cz0 : wr.cell? ⟨z, 0, none⟩ = some (.pointer (some ⟨g, 0, none⟩)) := hBx.1.at 0
    have cz1 : wr.cell? ⟨z + 1, 0, none⟩ = some (.int .i64 (most : Int)) := hBx.2.1.at 0
    have cz2 : wr.cell? ⟨z + 2, 0, none⟩ = some (.func (.func F) #[] #[]) := hBx.2.2.at 0
    have HR := Lib.hid hR
    have HB := Lib.hid hBx
    have HJ := Lib.hid hj
    obtain ⟨cv, rv, sv, hin⟩ := hR
    have hrest := Mo.st_rest HS.out s k
    have hs := hin.rest
    have hgd := hin.good.rest
    rw [hrest] at hs hgd
    have c9 : wr.cell? ⟨g, 9, none⟩ = some sv := hin.blk.at 9
    have HIN := Lib.hid hin
    clear hin hBx hj hrest
    rcases hd : s.rest.drop k with _ | ⟨x, r⟩
    · rw [hd] at hs
      obtain ⟨A, c, rfl, _⟩ := hs.parts
      have c9o : wr.cell? ⟨g, 9, none⟩ = some (.slice A 0 c) := c9
      have he := hon.out.nil hd
      have HEX := HE.out
      rw [he] at HEX
      have HF := Lib.hid (HEX wr wr HJ.out ⟨HR.out, mgrown_same _ _⟩)
      clear hs hgd c9 hd he HEX hon
      gi_wp2
      refine ⟨trivial, ?_⟩
      gi_wp2
      refine bodyPost_end (results_none rfl _ _ _) rfl ?_
      exact ⟨⟨_, rfl⟩, HF.out⟩
    · have hgx : GoodW x := hgd x (by rw [hd]; simp)
      rw [hd] at hs
      obtain ⟨A, c, rfl, hlc⟩ := hs.parts
      obtain ⟨b, off, rfl, hbh, hty, hx⟩ := hs.first
      have e0 := hx.text
      have e1 := hx.line
      have e2 := hx.col
      have e3 := hx.q
      have HX := Lib.hid hx
      obtain ⟨n, hn⟩ : ∃ n, (x :: r).length = n := ⟨_, rfl⟩
      have hlen : 0 < n := by rw [← hn]; simp
      have HNK : Hid (n = s.rest.length - k) := Lib.hid (by rw [← hn, ← hd, List.length_drop])
      have HSL := Lib.hid hs
      rw [hn] at c9 hlc HSL HIN
      have hn0 : (0 : Int) < (n : Int) := by omega
      have HD := Lib.hid hd
      have HGX := Lib.hid hgx
      clear hs hgd hn hx hgx hd
      gi_wp2_with fail
      refine ⟨trivial, rfl, (callsIn_wide.2 (issign_any x _ HGX.out.bytes)).mono ?_⟩
      rintro e w1 ⟨rfl, hb1⟩
      have HR1 := Lib.hid (HR.out.under hb1)
      have HB1 := Lib.hid hb1
      rcases hsg : Mn.aSign x with _ | _
      · have HSG := Lib.hid hsg
        have hx1 := HX.out.under hb1
        have hba := fun o => hb1.trans (((Below.refl _ w1).alloc (Nat.le_refl _) o).mono hb1.size)
        have HBA := Lib.hid hba
        have z0 := cell_later hb1 cz0
        have z0o := fun o => cell_later (hba o) cz0
        have z1o := fun o => cell_later (hba o) cz1
        have z2o := fun o => cell_later (hba o) cz2
        have e0 := hx1.text
        have e1 := hx1.line
        have e2 := hx1.col
        have e3 := hx1.q
        have d9 := cell_later hb1 c9
        have d9o := fun o => cell_later (hba o) c9
        have hfr : ∀ o, (w1.alloc o).frozen? ⟨g, 9, none⟩ = false := fun o => (HIN.out.blk.under (hba o)).free 9
        clear hsg hx1 cz0 cz1 cz2 c9 hb1 hba hty
        obtain ⟨xt, xl, xc, xq⟩ := x
        rcases xq with _ | _
        · gi_wp2_with fail
          refine ⟨trivial, rfl, (callsIn_wide.2 (HM.out xt _ HGX.out.bytes (by have := HGX.out.len; dsimp only at this; omega))).mono ?_⟩
          rintro e w2 ⟨rfl, rfl⟩
          rcases hmy : may xt with _ | _
          · have HEX := HE.out
            rw [hon.out.name HD.out HSG.out (by simp [hmy])] at HEX
            clear hmy
            gi_wp2_with fail
            refine ⟨trivial, rfl, (callsIn_wide.2 (mfail_any 5 ⟨xt, xl, xc, false⟩ base hi g lb mb _ _ (HR.out.under (HBA.out _)))).mono ?_⟩
            rintro e w2 ⟨rfl, hl⟩
            have HF := Lib.hid (HEX wr w2 HJ.out ((Left.same HR.out (HBA.out _)).on hl))
            clear HEX hl
            gi_wp2
            refine bodyPost_ret (results_none rfl _ _ _) rfl ?_
            exact ⟨⟨_, rfl⟩, HF.out⟩
          · have hnm : ((Ln.W.mk xt xl xc false).q || !may (Ln.W.mk xt xl xc false).text) = false := by simp [hmy]
            have HNM := Lib.hid hnm
            clear hmy hnm
            by_cases hkm2 : k = most
            · have HEX := HE.out
              rw [hon.out.many HD.out HSG.out HNM.out hkm2] at HEX
              have hkt : ((k : Int) == (most : Int)) = true := by simp [hkm2]
              clear hkm2 hkm
              gi_wp2_with fail
              refine ⟨trivial, rfl, (callsIn_wide.2 (mfail_any 7 ⟨xt, xl, xc, false⟩ base hi g lb mb _ _ (HR.out.under (HBA.out _)))).mono ?_⟩
              rintro e w2 ⟨rfl, hl⟩
              have HF := Lib.hid (HEX wr w2 HJ.out ((Left.same HR.out (HBA.out _)).on hl))
              clear HEX hl
              gi_wp2
              refine bodyPost_ret (results_none rfl _ _ _) rfl ?_
              exact ⟨⟨_, rfl⟩, HF.out⟩
            · have hnx := hon.out.next HD.out HSG.out HNM.out hkm2
              have HNX := Lib.hid hnx
              have hkt : ((k : Int) == (most : Int)) = false := by simp; omega
              have hn1 : (1 : Int) ≤ (n : Int) := by omega
              have hc1 : (n : Int) ≤ (c : Int) := by omega
              have HK2 := Lib.hid hkm2
              clear hnx hkm2
              by_cases hcn : c = 1
              · obtain ⟨B, hB⟩ : ∃ B, ((w1.alloc (.cells #[.string (str xt), .int .i64 xl, .int .i64 xc, .bool false] 55)).setCell ⟨g, 9, none⟩ (.slice (some ⟨b, off, none⟩) (n - 1) 0)).drew = B := ⟨_, rfl⟩
                have HLF : Hid (Left wr base hi g lb mb { Mo.st stp s.rest s k with rest := s.rest.drop (k + 1) } B) := Lib.hid (by
                  have ha := HIN.out.under (HBA.out (.cells #[.string (str xt), .int .i64 xl, .int .i64 xc, .bool false] 55))
                  have hsl : SlW (w1.alloc (.cells #[.string (str xt), .int .i64 xl, .int .i64 xc, .bool false] 55)) hi (.slice (some ⟨b, off, none⟩) (n - 1) 0) (s.rest.drop (k + 1)) := by
                    rw [(mdrop_cons HD.out).2]
                    exact (HSL.out.keep (Q := PartTy) (KeepB.below (HBA.out _)) (.inr (.inr (.inr rfl)))).tail (k := 1) hlen (by omega) (fun hlt => by omega)
                  have h1 := ha.setRest hsl (fun x hx => by
                    have := HIN.out.good.rest x
                    rw [Mo.st_rest HS.out s k] at this
                    rw [List.drop_add_one_eq_tail_drop] at hx
                    exact this (List.mem_of_mem_tail hx))
                  subst hB
                  exact ⟨⟨_, _, _, h1.same (w' := World.drew _) (fun _ _ => rfl) (Nat.le_refl _)⟩, mgrown_on (Below.toGrown (HBA.out _) _) ⟨rfl, rfl, rfl, by simp [World.drew], (grown_setCell (w1.alloc (.cells #[.string (str xt), .int .i64 xl, .int .i64 xc, .bool false] 55)) ⟨g, 9, none⟩ (.slice (some ⟨b, off, none⟩) (n - 1) 0)).block⟩⟩)
                obtain ⟨fn, tmps, assign, body, hy, hRd⟩ := HY.out k B HNX.out.2 (HT.out k wr B HNX.out.2 HJ.out HLF.out)
                rw [(mdrop_cons HD.out).1] at hy
                change (Instr.yield l #[.agg #[.string (str xt), .int .i64 xl, .int .i64 xc, .bool false]]).run _ _ = _ at hy
                subst hB
                gi_wp2_with (gi_region)
                refine ⟨rfl, hRd.mono ?_⟩
                rintro e w3 ⟨rfl, hj3⟩
                clear hy hRd
                gi_wp2
                go_roundw
                case rel => exact ⟨k + 1, by go_num, hj3, Lib.hid HNX.out.1, by have := HK2.out; omega, by have := HNK.out; omega⟩
                case measure => have := HNK.out; simp [intOf]; omega
              · obtain ⟨B, hB⟩ : ∃ B, ((w1.alloc (.cells #[.string (str xt), .int .i64 xl, .int .i64 xc, .bool false] 55)).setCell ⟨g, 9, none⟩ (.slice (some ⟨b, off + 4, none⟩) (n - 1) (c - 1))).drew = B := ⟨_, rfl⟩
                have HLF : Hid (Left wr base hi g lb mb { Mo.st stp s.rest s k with rest := s.rest.drop (k + 1) } B) := Lib.hid (by
                  have ha := HIN.out.under (HBA.out (.cells #[.string (str xt), .int .i64 xl, .int .i64 xc, .bool false] 55))
                  have hsl : SlW (w1.alloc (.cells #[.string (str xt), .int .i64 xl, .int .i64 xc, .bool false] 55)) hi (.slice (some ⟨b, off + 4, none⟩) (n - 1) (c - 1)) (s.rest.drop (k + 1)) := by
                    rw [(mdrop_cons HD.out).2]
                    exact (HSL.out.keep (Q := PartTy) (KeepB.below (HBA.out _)) (.inr (.inr (.inr rfl)))).tail (k := 1) hlen (by omega) (fun _ b' off' e => by injection e with e; injection e with e1 e2; subst e1 e2; rfl)
                  have h1 := ha.setRest hsl (fun x hx => by
                    have := HIN.out.good.rest x
                    rw [Mo.st_rest HS.out s k] at this
                    rw [List.drop_add_one_eq_tail_drop] at hx
                    exact this (List.mem_of_mem_tail hx))
                  subst hB
                  exact ⟨⟨_, _, _, h1.same (w' := World.drew _) (fun _ _ => rfl) (Nat.le_refl _)⟩, mgrown_on (Below.toGrown (HBA.out _) _) ⟨rfl, rfl, rfl, by simp [World.drew], (grown_setCell (w1.alloc (.cells #[.string (str xt), .int .i64 xl, .int .i64 xc, .bool false] 55)) ⟨g, 9, none⟩ (.slice (some ⟨b, off + 4, none⟩) (n - 1) (c - 1))).block⟩⟩)
                obtain ⟨fn, tmps, assign, body, hy, hRd⟩ := HY.out k B HNX.out.2 (HT.out k wr B HNX.out.2 HJ.out HLF.out)
                rw [(mdrop_cons HD.out).1] at hy
                change (Instr.yield l #[.agg #[.string (str xt), .int .i64 xl, .int .i64 xc, .bool false]]).run _ _ = _ at hy
                subst hB
                gi_wp2_with (gi_region)
                refine ⟨rfl, hRd.mono ?_⟩
                rintro e w3 ⟨rfl, hj3⟩
                clear hy hRd
                gi_wp2
                go_roundw
                case rel => exact ⟨k + 1, by go_num, hj3, Lib.hid HNX.out.1, by have := HK2.out; omega, by have := HNK.out; omega⟩
                case measure => have := HNK.out; simp [intOf]; omega
        · have HEX := HE.out
          rw [hon.out.name HD.out HSG.out (by rfl)] at HEX
          gi_wp2_with fail
          refine ⟨fun _ h => (by cases h), ?_⟩
          gi_wp2_with fail
          refine ⟨trivial, rfl, (callsIn_wide.2 (mfail_any 5 ⟨xt, xl, xc, true⟩ base hi g lb mb _ _ (HR.out.under (HBA.out _)))).mono ?_⟩
          rintro e w2 ⟨rfl, hl⟩
          have HF := Lib.hid (HEX wr w2 HJ.out ((Left.same HR.out (HBA.out _)).on hl))
          clear HEX hl
          gi_wp2
          refine bodyPost_ret (results_none rfl _ _ _) rfl ?_
          exact ⟨⟨_, rfl⟩, HF.out⟩
      · have HEX := HE.out
        rw [hon.out.sign HD.out hsg] at HEX
        have HF := Lib.hid (HEX wr w1 HJ.out (Left.same HR.out HB1.out))
        clear HEX hsg cz0 cz1 cz2 e0 e1 e2 e3 c9 hty hbh
        gi_wp2
        refine bodyPost_end (results_none rfl _ _ _) rfl ?_
        exact ⟨⟨_, rfl⟩, HF.out⟩
end Go.Proofs.YtgjehlegcmeeoaaGreatDoor

/- Package mani's own reader: what a word stands for, and a line with what is let put in. -/
namespace Go.Proofs.YtgjehlegcmeeoaaGreatDoor
set_option maxRecDepth 100000
open Go.ChangeShapes Go.WideShapes Go.ChangeAt Go.RowKit Go.Shelf

theorem cut_no {t : List Nat} (h : ∀ c ∈ t, c < 256) (h2 : t.headD 0 ≠ 36) : Lib.hasPrefix (t.map UInt8.ofNat) [36] = false ∧ Lib.trimPrefix (t.map UInt8.ofNat) [36] = t.map UInt8.ofNat := by
  have hp : Lib.hasPrefix (t.map UInt8.ofNat) [36] = false := by
    unfold Lib.hasPrefix
    rcases t with _ | ⟨c, r⟩
    · rfl
    · have hc := h c (by simp)
      simp only [List.headD_cons] at h2
      simp only [List.map_cons, List.isPrefixOf, Bool.and_true]
      simp only [beq_eq_false_iff_ne, ne_eq]
      intro e
      have := congrArg UInt8.toNat e
      simp at this
      omega
  exact ⟨hp, by unfold Lib.trimPrefix; rw [hp]; rfl⟩
theorem cut_yes {r : List Nat} : Lib.hasPrefix ((36 :: r).map UInt8.ofNat) [36] = true ∧ Lib.trimPrefix ((36 :: r).map UInt8.ofNat) [36] = r.map UInt8.ofNat := by
  have hp : Lib.hasPrefix ((36 :: r).map UInt8.ofNat) [36] = true := by
    unfold Lib.hasPrefix
    simp [List.isPrefixOf]
  exact ⟨hp, by unfold Lib.trimPrefix; rw [hp]; rfl⟩
theorem stands_self {L : Mn.Lets} {x : Ln.W} (h : x.q = true ∨ x.text.headD 0 ≠ 36) : Mo.stands L x = some [x] := by
  unfold Mo.stands
  rw [if_pos]
  rcases h with h | h
  · rw [h]; rfl
  · rw [Bool.or_eq_true]
    exact .inr (decide_eq_true h)
theorem stands_let {L : Mn.Lets} {r : List Nat} {l c : Nat} : Mo.stands L ⟨36 :: r, l, c, false⟩ = Mn.find r L := by
  unfold Mo.stands
  rw [if_neg (by simp)]
  rfl
/-- What is told of what a word stands for. -/
def StandsIs (hi : Nat) (w : World) (e : Ending) (w' : World) : Option (List Ln.W) → Prop
  | none => e = .returned (.tuple #[.slice none 0 0, .bool false]) ∧ Below w.heap.size w w'
  | some l => (∃ v, e = .returned (.tuple #[v, .bool true]) ∧ SlW w' w'.heap.size v l ∧ (0 < l.length → ∀ k, v.ownBlock = some k → k < hi ∨ w.heap.size ≤ k)) ∧ Below w.heap.size w w'
theorem SlW.low {w : World} {hi : Nat} {v : Value} {l : List Ln.W} (h : SlW w hi v l) : 0 < l.length → ∀ k, v.ownBlock = some k → k < hi := by
  intro h0 k hk
  obtain ⟨A, c, rfl, _, _, h3⟩ := h
  obtain ⟨b, off, rfl, hb, _⟩ := h3 h0
  cases hk
  exact hb
theorem slW_one (w : World) (x : Ln.W) (hi : Nat) (h : w.heap.size < hi) : SlW (w.alloc (.cells (cellsW x).toArray 55)) hi (.slice (some ⟨w.heap.size, 0, none⟩) 1 1) [x] := by
  have hb : Blk (w.alloc (.cells (cellsW x).toArray 55)) w.heap.size 55 (cellsW x).toArray := heap_alloc_new w _
  refine ⟨_, 1, rfl, Nat.le_refl _, by unfold maxLen; simp, fun _ => ⟨w.heap.size, 0, rfl, h, hb.ty, fun k hk => ?_⟩⟩
  have hk0 : k = 0 := by simp at hk; omega
  subst hk0
  exact ⟨hb.at 0, hb.at 1, hb.at 2, hb.at 3⟩
set_option maxHeartbeats 8000000 in
theorem stands_any (base hi g lb mb : Nat) (s : Mo.S) (x : Ln.W) (w : World) (h : MRd w base hi g lb mb s) (hx : GoodW x) :
    Calls Tryz.prog 93 #[.pointer (some ⟨g, 0, none⟩), .agg (cellsW x).toArray] w fun e w' => StandsIs hi w e w' (Mo.stands s.lets x) := by
  obtain ⟨cv, rv, sv, hin⟩ := h
  have k0 : ∀ o, (w.alloc o).cell? ⟨g, 0, none⟩ = some (.map (some lb)) := fun o => (hin.blk.alloc o).at 0
  have HBO : Hid (∀ (A : World) (o : Obj), Below A.heap.size A (A.alloc o)) := Lib.hid (fun A o => (Below.refl _ _).alloc (Nat.le_refl _) o)
  have HIN := Lib.hid hin
  have HX := Lib.hid hx
  clear hin hx
  obtain ⟨xt, xl, xc, xq⟩ := x
  have HT : Hid (∀ c ∈ xt, c < 256) := Lib.hid HX.out.bytes
  rw [show (cellsW ⟨xt, xl, xc, xq⟩).toArray = #[.string (str xt), .int .i64 xl, .int .i64 xc, .bool xq] from rfl]
  have hC := fun W => Tryz.strings_CutPrefix (str xt) ⟨#[36]⟩ W
  rw [str_data, show (⟨#[36]⟩ : ByteArray).data.toList = [36] from rfl] at hC
  have HC := Lib.hid hC
  clear hC
  have HSELF : Hid (SlW ((w.alloc (.cells (cellsW ⟨xt, xl, xc, xq⟩).toArray 55)).alloc (.cells (cellsW ⟨xt, xl, xc, xq⟩).toArray 55)) ((w.alloc (.cells (cellsW ⟨xt, xl, xc, xq⟩).toArray 55)).alloc (.cells (cellsW ⟨xt, xl, xc, xq⟩).toArray 55)).heap.size (.slice (some ⟨w.heap.size + 1, 0, none⟩) 1 1) [⟨xt, xl, xc, xq⟩]) := Lib.hid (by
    have := slW_one (w.alloc (.cells (cellsW ⟨xt, xl, xc, xq⟩).toArray 55)) ⟨xt, xl, xc, xq⟩ (w.heap.size + 2) (by simp)
    simpa using this)
  have HB2 : Hid (Below w.heap.size w ((w.alloc (.cells (cellsW ⟨xt, xl, xc, xq⟩).toArray 55)).alloc (.cells (cellsW ⟨xt, xl, xc, xq⟩).toArray 55))) := Lib.hid (((Below.refl _ _).alloc (Nat.le_refl _) _).alloc (by simp) _)
  by_cases h36 : xt.headD 0 = 36
  · obtain ⟨r, rfl⟩ : ∃ r, xt = 36 :: r := by
      rcases xt with _ | ⟨c, r⟩
      · cases h36
      · exact ⟨r, by simp at h36; rw [h36]⟩
    rw [cut_yes.1, cut_yes.2] at HC
    have hsr : (⟨(r.map UInt8.ofNat).toArray⟩ : ByteArray) = str r := rfl
    rw [hsr] at HC
    clear h36 hsr
    rcases xq with _ | _
    · have HST := Lib.hid (stands_let (L := s.lets) (r := r) (l := xl) (c := xc))
      obtain ⟨f, hm, hf⟩ := HIN.out.lets
      have hrb : ∀ c ∈ r, c < 256 := fun c hc => HT.out c (List.mem_cons_of_mem _ hc)
      have hrl : r.length ≤ 1000000 := by have := HX.out.len; simp at this; omega
      have hlk := MapIs.run_look (w := w.alloc (.cells #[.string (str (36 :: r)), .int .i64 xl, .int .i64 xc, .bool false] 55)) (MapIs.kept hm (Below.toGrown (HBO.out w _) none) (by simp)) Tryz.underlying51 (z := .slice none 0 0) (by kernel_rfl) hrb (by omega)
      have hfr := hf r hrb
      clear hm hf hrb hrl
      rcases hfd : Mn.find r s.lets with _ | l
      · rw [hfd] at hfr HST
        dsimp only at hfr
        rw [hfr] at hlk
        clear hfr hfd
        go_enter Tryz.func93, Tryz.ntmps93
        go_wp2_with fail
        refine (HC.out _).mono ?_
        rintro e w2 ⟨rfl, rfl⟩
        go_wp2
        go_ret2
        rw [HST.out]
        exact ⟨rfl, HBO.out _ _⟩
      · rw [hfd] at hfr HST
        dsimp only at hfr
        obtain ⟨v, hv, hsl⟩ := hfr
        rw [hv] at hlk
        have HSL := Lib.hid hsl
        clear hv hfd hsl
        go_enter Tryz.func93, Tryz.ntmps93
        go_wp2_with fail
        refine (HC.out _).mono ?_
        rintro e w2 ⟨rfl, rfl⟩
        go_wp2
        go_ret2
        rw [HST.out]
        exact ⟨⟨v, rfl, (HSL.out.keep (Q := PartTy) (KeepB.below (HBO.out _ _)) (.inr (.inr (.inr rfl)))).more (by have := HIN.out.top; simp; omega), fun h0 k hk => .inl (HSL.out.low h0 k hk)⟩, HBO.out _ _⟩
    · have HST := Lib.hid (stands_self (L := s.lets) (x := ⟨36 :: r, xl, xc, true⟩) (.inl rfl))
      go_enter Tryz.func93, Tryz.ntmps93
      go_wp2_with fail
      refine (HC.out _).mono ?_
      rintro e w2 ⟨rfl, rfl⟩
      go_wp2
      go_ret2
      rw [HST.out]
      exact ⟨⟨_, rfl, HSELF.out, fun _ k hk => .inr (by cases hk; simp)⟩, HB2.out⟩
  · rw [(cut_no HT.out h36).1, (cut_no HT.out h36).2] at HC
    have hsr : (⟨(xt.map UInt8.ofNat).toArray⟩ : ByteArray) = str xt := rfl
    rw [hsr] at HC
    have HST := Lib.hid (stands_self (L := s.lets) (x := ⟨xt, xl, xc, xq⟩) (.inr h36))
    clear h36 hsr
    rcases xq with _ | _
    all_goals
      go_enter Tryz.func93, Tryz.ntmps93
      go_wp2_with fail
      refine (HC.out _).mono ?_
      rintro e w2 ⟨rfl, rfl⟩
      go_wp2
      go_ret2
      rw [HST.out]
      exact ⟨⟨_, rfl, HSELF.out, fun _ k hk => .inr (by cases hk; simp)⟩, HB2.out⟩
end Go.Proofs.YtgjehlegcmeeoaaGreatDoor

/- Package mani's own reader: a line with what is let put in: the row that grows, and what lies beside it. -/
namespace Go.Proofs.YtgjehlegcmeeoaaGreatDoor
set_option maxRecDepth 100000
open Go.ChangeShapes Go.WideShapes Go.ChangeAt Go.RowKit Go.Shelf

theorem SlW.grown {w w' : World} {hi : Nat} {v : Value} {l : List Ln.W} {row : Option Nat} (h : SlW w hi v l) (hg : w.grownBy w' row) (hne : 0 < l.length → v.ownBlock = none ∨ v.ownBlock ≠ row) : SlW w' hi v l := by
  obtain ⟨A, c, rfl, h1, h2, h3⟩ := h
  refine ⟨A, c, rfl, h1, h2, fun h0 => ?_⟩
  obtain ⟨b, off, rfl, hb, ht, hc⟩ := h3 h0
  have hbl : w'.heap[b]? = w.heap[b]? := hg.block b ht.lt (by
    rcases hne h0 with e | e
    · cases e
    · exact e)
  refine ⟨b, off, rfl, hb, ?_, fun k hk => ?_⟩
  · obtain ⟨cs, fr, k⟩ := ht
    exact ⟨cs, fr, by rw [hbl]; exact k⟩
  · have := hc k hk
    exact ⟨(World.cell?_of_block hbl).trans this.1, (World.cell?_of_block hbl).trans this.2.1, (World.cell?_of_block hbl).trans this.2.2.1, (World.cell?_of_block hbl).trans this.2.2.2⟩
theorem SlW.under {w w' : World} {hi : Nat} {v : Value} {l : List Ln.W} (h : SlW w hi v l) (hb : Below w.heap.size w w') : SlW w' hi v l := h.grown (row := none) (Below.toGrown hb none) (fun _ => by cases v.ownBlock <;> simp)
theorem blk_new {w : World} {B : Nat} {t : TypeId} {cs : Array Value} (h : w.heap.size = B) : Blk (w.alloc (.cells cs t)) B t cs := h ▸ heap_alloc_new w _
theorem wpList_append_word1 {w : World} {ops : Array Oper} {rest : List Oper} {o : Oper} {a : Act} {Q : Exit → Act → World → Prop} (hgd : o.guard = none) (s x : Operand)
    (ho : o.op = .call { callee := .builtin .append, args := #[s, x], argTypes := #[53, 53] }) (base B : Nat) (v : Value) (L : List Ln.W) (z : Ln.W) (hs : a.eval s = v) (hown : OwnW w base v L)
    (hx : a.eval x = .slice (some ⟨B, 0, none⟩) 1 1) (hB : Blk w B 55 (cellsW z).toArray) (hlen : L.length ≤ 1099511627776) (hbase : base ≤ w.heap.size)
    (h : ∀ v' w', OwnW w' base v' (L ++ [z]) → w.grownBy w' v.ownBlock → (v'.ownBlock = v.ownBlock ∨ v'.ownBlock = some w.heap.size) → Below base w w' → wpList Tryz.prog ops Q rest (a.put o.dst v') w') : wpList Tryz.prog ops Q (o :: rest) a w := by
  obtain ⟨i, hi, hz0, hz1, hz2⟩ := info_parts infoWord
  refine wpList_append_own_at w hgd s x 53 ho base 55 i (.agg #[.string ⟨#[]⟩, .int .i64 0, .int .i64 0, .bool false]) 4 40 Tryz.underlying53 hi hz0 hz1 hz2 (by kernel_rfl) (by decide) v L.length (rowW L) hs hown ⟨B, 0, none⟩ 1 1 (cellsW z) hx rfl ?_ (cellsW_one z) (by unfold maxLen; omega) (by omega) hbase ?_
  · intro j u hu
    rw [add_plain, Nat.zero_add, hB.at j, List.getElem?_toArray]
    exact hu
  · intro v' w' h1 h2 _ h4
    refine h v' w' ?_ h2 h4 ((Below.refl _ _).grown h2 hbase fun k hk => (World.ownsRow.lt hown k hk).1)
    unfold OwnW
    rw [List.length_append, rowW_snoc]
    exact h1
/-- A row of words, cut at a place. -/
theorem OwnW.cut {w : World} {base n c : Nat} {A : Option Addr} {L : List Ln.W} (h : OwnW w base (.slice A n c) L) (k : Nat) (hk : k ≤ n) : OwnW w base (.slice A k c) (L.take k) := by
  have hn : n = L.length := by
    obtain ⟨A', c', e, _⟩ := h.parts
    injection e
  have hl : (L.take k).length = k := by rw [List.length_take]; omega
  refine ⟨by rw [rowW_len], ?_⟩
  rw [hl]
  rcases h.2 with ⟨e, h0⟩ | ⟨g, cap, cur, e, hb, hg, h1, h2, h3, h4⟩
  · injection e with e1 e2 e3
    subst e1 e3
    have : k = 0 := by omega
    subst this
    exact .inl ⟨rfl, rfl⟩
  · injection e with e1 e2 e3
    subst e1 e3
    refine .inr ⟨g, c, cur, rfl, hb, hg, by omega, h2, h3, ?_⟩
    have hr : rowW (L.take k) = (rowW L).take (k * 4) := by
      have e : rowW L = rowW (L.take k) ++ rowW (L.drop k) := by
        unfold rowW
        rw [← List.flatMap_append, List.take_append_drop]
      have hz : (rowW (L.take k)).length = k * 4 := by rw [rowW_len, hl]
      rw [e, ← hz]
      exact List.take_left.symm
    rw [hr, ← h4, List.take_take, Nat.min_eq_left (by omega)]
/-- What lies while a word's words are put in. -/
structure PutIn (w W : World) (H b7 : Nat) (x : Ln.W) (sv lv : Value) (l out : List Ln.W) : Prop where
  own : OwnW W w.heap.size lv out
  sl : SlW W H sv l
  box : Blk W b7 55 (cellsW x).toArray
  off : ∀ k, lv.ownBlock = some k → k ≠ b7 ∧ (0 < l.length → sv.ownBlock ≠ some k)
  low : b7 < H
  size : H ≤ W.heap.size
  below : Below w.heap.size w W
theorem PutIn.under {w W W2 : World} {H b7 : Nat} {x : Ln.W} {sv lv : Value} {l out : List Ln.W} (h : PutIn w W H b7 x sv lv l out) (hb : Below W.heap.size W W2) : PutIn w W2 H b7 x sv lv l out :=
  ⟨h.own.under hb, h.sl.under hb, h.box.under hb, h.off, h.low, Nat.le_trans h.size hb.size, h.below.trans (hb.mono h.below.size)⟩
theorem PutIn.append {w W W' : World} {H b7 : Nat} {x : Ln.W} {sv lv lv' : Value} {l out out' : List Ln.W} (h : PutIn w W H b7 x sv lv l out) (hg : W.grownBy W' lv.ownBlock) (ho : OwnW W' w.heap.size lv' out') {z : Nat} (hob : lv'.ownBlock = lv.ownBlock ∨ lv'.ownBlock = some z) (hz : W.heap.size ≤ z) (hb : Below w.heap.size W W') : PutIn w W' H b7 x sv lv' l out' := by
  refine ⟨ho, h.sl.grown hg fun h0 => ?_, h.box.grown hg fun e => ?_, fun k hk => ?_, h.low, Nat.le_trans h.size hg.size, h.below.trans hb⟩
  · rcases hs : sv.ownBlock with _ | k
    · exact .inl rfl
    · exact .inr fun e => (h.off k e.symm).2 h0 hs
  · exact (h.off b7 e.symm).1 rfl
  · rcases hob with e | e
    · exact h.off k (e ▸ hk)
    · rw [e] at hk
      cases hk
      have h1 := h.low
      have h2 := h.size
      refine ⟨by omega, fun h0 e2 => ?_⟩
      have := h.sl.low h0 _ e2
      omega
theorem put_nil (lets : Mn.Lets) (out : List Ln.W) : Mo.put lets [] out = .ok out := rfl
theorem put_none {lets : Mn.Lets} {x : Ln.W} {r out : List Ln.W} (h : Mo.stands lets x = none) : Mo.put lets (x :: r) out = .error x := by
  rw [Mo.put]
  rw [h]
theorem put_some {lets : Mn.Lets} {x : Ln.W} {r out l : List Ln.W} (h : Mo.stands lets x = some l) : Mo.put lets (x :: r) out = Mo.put lets r ((out ++ Mo.placed x l).take 200) := by
  rw [Mo.put]
  rw [h]
theorem placed_len (x : Ln.W) (l : List Ln.W) : (Mo.placed x l).length = l.length := by unfold Mo.placed; simp
theorem placed_succ (x : Ln.W) (l : List Ln.W) (j : Nat) (h : j < l.length) : Mo.placed x (l.take (j + 1)) = Mo.placed x (l.take j) ++ [{ l[j]'h with line := x.line, col := x.col }] := by
  unfold Mo.placed
  rw [List.take_succ_eq_append_getElem h, List.map_append]
  rfl
theorem putin_start {w wz w1 w2 : World} {hi : Nat} {x : Ln.W} {sv lv : Value} {l out : List Ln.W} (hO : OwnW wz w.heap.size lv out) (hb : Below wz.heap.size wz w2) (hsl : SlW w2 w2.heap.size sv l) (hbx : Blk w2 wz.heap.size 55 (cellsW x).toArray)
    (hlow : 0 < l.length → ∀ k, sv.ownBlock = some k → k < hi ∨ w1.heap.size ≤ k) (h1 : wz.heap.size ≤ w1.heap.size) (hhi : hi ≤ w.heap.size) (hbl : Below w.heap.size w wz) : PutIn w w2 w2.heap.size wz.heap.size x sv lv l out := by
  refine ⟨hO.under hb, hsl, hbx, fun q hq => ⟨?_, fun h0 e => ?_⟩, hbx.size, Nat.le_refl _, hbl.trans (hb.mono hbl.size)⟩
  · have := (hO.lt q hq).2; omega
  · have h3 := (hO.lt q hq).1
    have h4 := (hO.lt q hq).2
    have h5 := hlow h0 q e
    omega
theorem below_put (w : World) (o o' : Obj) : Below w.heap.size w ((w.alloc o).alloc o').drew := (((Below.refl _ _).alloc (Nat.le_refl _) o).alloc (by simp) o').drew
theorem blk_put (w : World) (o : Obj) {t : TypeId} {cs : Array Value} : Blk ((w.alloc o).alloc (.cells cs t)).drew (w.heap.size + 1) t cs := (blk_new (w := w.alloc o) (by simp)).heap rfl
/-- What is told of a line with what is let put in. -/
def PutIs (w : World) (base hi g lb mb : Nat) (s : Mo.S) (e : Ending) (w' : World) : Except Ln.W (List Ln.W) → Prop
  | .ok l => (∃ v, e = .returned v ∧ SlW w' w'.heap.size v l) ∧ l.length ≤ 200 ∧ Below w.heap.size w w'
  | .error x => e = .returned (.slice none 0 0) ∧ Left w base hi g lb mb (Mo.fail 6 x s) w'
end Go.Proofs.YtgjehlegcmeeoaaGreatDoor

/- Package mani's own reader: a line with what is let put in. -/
namespace Go.Proofs.YtgjehlegcmeeoaaGreatDoor
set_option maxRecDepth 100000
open Go.ChangeShapes Go.WideShapes Go.ChangeAt Go.RowKit Go.Shelf

set_option maxHeartbeats 16000000 in
theorem put_any (base hi g lb mb : Nat) (s : Mo.S) (v : Value) (L : List Ln.W) (w : World) (h : MRd w base hi g lb mb s) (hv : SlW w hi v L) (hL : ∀ x ∈ L, GoodW x) (hlen : L.length ≤ 1000000) (hst : ∀ x l, Mo.stands s.lets x = some l → l.length ≤ 1000000) :
    Calls Tryz.prog 62 #[.pointer (some ⟨g, 0, none⟩), v] w fun e w' => PutIs w base hi g lb mb s e w' (Mo.put s.lets L []) := by
  have HR := Lib.hid h
  have HTP := Lib.hid h.top
  have HV := Lib.hid hv
  have HG := Lib.hid hL
  have HST := Lib.hid hst
  obtain ⟨A, c, rfl, hlc⟩ := hv.parts
  obtain ⟨n, hn⟩ : ∃ n, L.length = n := ⟨_, rfl⟩
  have HN := Lib.hid hn
  rw [hn] at hlen HV ⊢
  clear h hv hL hst hlc hn
  go_enter Tryz.func62, Tryz.ntmps62
  go_wp2_with fail
  go_loopg [5, 14] n (fun g lv iv wr => ∃ (k : Nat) (out : List Ln.W), k ≤ n ∧ n - k ≤ g ∧ iv = .int .i64 (k : Int) ∧ Hid (out.length ≤ 200) ∧ Hid (Mo.put s.lets L [] = Mo.put s.lets (L.drop k) out) ∧ Hid (OwnW wr w.heap.size lv out) ∧ Hid (Below w.heap.size w wr))
  case atStart => exact ⟨0, [], Nat.zero_le _, by omega, rfl, Lib.hid (by simp), Lib.hid rfl, Lib.hid (ownW_none _ _), Lib.hid (Below.refl _ _)⟩
  case round =>
    obtain ⟨k, out, hk, hg, rfl, hol, hpt, hO, hbl⟩ := hrel
    obtain ⟨wz, rfl⟩ : ∃ wx : World, wx = wr := ⟨_, rfl⟩
    by_cases hlt : k < n
    · have hkI : (k : Int) < (n : Int) := by omega
      have hkL : k < L.length := by rw [HN.out]; exact hlt
      obtain ⟨x, hx⟩ : ∃ x, L[k]'hkL = x := ⟨_, rfl⟩
      have HGX : Hid (GoodW x) := Lib.hid (by rw [← hx]; exact HG.out _ (List.getElem_mem hkL))
      obtain ⟨b, off, rfl, _, _, p0, p1, p2, p3⟩ := (HV.out.under hbl.out).at k hkL x (by rw [List.getD_eq_getElem?_getD, List.getElem?_eq_getElem hkL]; exact hx)
      have HPT : Hid (Mo.put s.lets L [] = Mo.put s.lets (x :: L.drop (k + 1)) out) := Lib.hid (by rw [hpt.out, List.drop_eq_getElem_cons hkL, hx])
      have HCX : Hid ((cellsW x).toArray = #[.string (str x.text), .int .i64 x.line, .int .i64 x.col, .bool x.q]) := Lib.hid rfl
      have HBX : Hid (Blk (wz.alloc (.cells #[.string (str x.text), .int .i64 x.line, .int .i64 x.col, .bool x.q] 55)) wz.heap.size 55 #[.string (str x.text), .int .i64 x.line, .int .i64 x.col, .bool x.q]) := Lib.hid (heap_alloc_new wz _)
      have HW1 : Hid (Below wz.heap.size wz (wz.alloc (.cells #[.string (str x.text), .int .i64 x.line, .int .i64 x.col, .bool x.q] 55))) := Lib.hid ((Below.refl _ _).alloc (Nat.le_refl _) _)
      obtain ⟨xt, hxt⟩ : ∃ a, x.text = a := ⟨_, rfl⟩
      obtain ⟨xl, hxl⟩ : ∃ a, x.line = a := ⟨_, rfl⟩
      obtain ⟨xc, hxc⟩ : ∃ a, x.col = a := ⟨_, rfl⟩
      obtain ⟨xq, hxq⟩ : ∃ a, x.q = a := ⟨_, rfl⟩
      have HXE : Hid (x = ⟨xt, xl, xc, xq⟩) := Lib.hid (by rw [← hxt, ← hxl, ← hxc, ← hxq])
      rw [hxt] at p0 HCX HBX HW1
      rw [hxl] at p1 HCX HBX HW1
      rw [hxc] at p2 HCX HBX HW1
      rw [hxq] at p3 HCX HBX HW1
      have HS1 : Hid (∀ W, Below wz.heap.size wz W → Calls Tryz.prog 93 #[.pointer (some ⟨g, 0, none⟩), .agg #[.string (str xt), .int .i64 xl, .int .i64 xc, .bool xq]] W fun e w' => StandsIs hi W e w' (Mo.stands s.lets x)) := Lib.hid (fun W hb => by
        rw [← HCX.out]
        exact stands_any base hi g lb mb s x W (HR.out.under (hbl.out.trans (hb.mono hbl.out.size))) HGX.out)
      clear hpt hkL hx hxt hxl hxc hxq
      go_wp2_with fail
      refine (HS1.out _ HW1.out).mono ?_
      rintro e w2 hs2
      rcases hsd : Mo.stands s.lets x with _ | l2
      · rw [hsd] at hs2
        obtain ⟨rfl, hb2⟩ := hs2
        have HBX2 := Lib.hid (HBX.out.under hb2)
        have q0 : w2.cell? ⟨wz.heap.size, 0, none⟩ = some (.string (str xt)) := HBX2.out.at 0
        have q1 : w2.cell? ⟨wz.heap.size, 1, none⟩ = some (.int .i64 xl) := HBX2.out.at 1
        have q2 : w2.cell? ⟨wz.heap.size, 2, none⟩ = some (.int .i64 xc) := HBX2.out.at 2
        have q3 : w2.cell? ⟨wz.heap.size, 3, none⟩ = some (.bool xq) := HBX2.out.at 3
        have HB2 : Hid (Below w.heap.size w w2) := Lib.hid (hbl.out.trans ((HW1.out.trans (hb2.mono HW1.out.size)).mono hbl.out.size))
        have HFL : Hid (Mo.put s.lets L [] = .error x) := Lib.hid (by rw [HPT.out, put_none hsd])
        have HFA : Hid (Calls Tryz.prog 40 #[.pointer (some ⟨g, 0, none⟩), .int .i64 6, .agg #[.string (str xt), .int .i64 xl, .int .i64 xc, .bool xq]] w2 fun e w' => e = .returned (.tuple #[]) ∧ Left w2 base hi g lb mb (Mo.fail 6 x s) w') := Lib.hid (by
          rw [← HCX.out]
          exact mfail_any 6 x base hi g lb mb s w2 (HR.out.under HB2.out))
        clear hb2 hsd
        go_wp2_with fail
        refine HFA.out.mono ?_
        rintro e w3 ⟨rfl, hl3⟩
        have HL3 := Lib.hid ((Left.same HR.out HB2.out).on hl3)
        clear hl3
        go_wp2
        go_ret
        rw [HFL.out]
        exact ⟨rfl, HL3.out⟩
      · rw [hsd] at hs2
        obtain ⟨⟨sv, rfl, hsl, hlow⟩, hb2⟩ := hs2
        obtain ⟨A2, c2, rfl, _⟩ := hsl.parts
        have HB2 : Hid (Below wz.heap.size wz w2) := Lib.hid (HW1.out.trans (hb2.mono HW1.out.size))
        have HLN2 : Hid (l2.length ≤ 1000000) := Lib.hid (HST.out x l2 hsd)
        have HNX : Hid (Mo.put s.lets L [] = Mo.put s.lets (L.drop (k + 1)) ((out ++ Mo.placed x l2).take 200)) := Lib.hid (by rw [HPT.out, put_some hsd])
        have HP0 := Lib.hid (putin_start hO.out HB2.out hsl (by rw [HCX.out]; exact HBX.out.under hb2) hlow HW1.out.size HTP.out.2.2.1 hbl.out)
        obtain ⟨m, hm⟩ : ∃ m, l2.length = m := ⟨_, rfl⟩
        have HM := Lib.hid hm
        rw [hm] at HP0 HLN2 ⊢
        have hmx : m ≤ 1000000 := HLN2.out
        clear hm hsd hsl hlow hb2 HPT HS1 p0 p1 p2 p3
        go_wp2_with fail
        go_loopg [5, 31] m (fun g lv jv wr => ∃ j : Nat, j ≤ m ∧ m - j ≤ g ∧ jv = .int .i64 (j : Int) ∧ Hid (PutIn w wr w2.heap.size wz.heap.size x (.slice A2 m c2) lv l2 (out ++ Mo.placed x (l2.take j))))
        case atStart => exact ⟨0, Nat.zero_le _, by omega, rfl, Lib.hid (by simpa [Mo.placed] using HP0.out)⟩
        case round =>
          obtain ⟨j, hj, hgj, rfl, hP⟩ := hrel
          obtain ⟨wy, rfl⟩ : ∃ wx : World, wx = wr := ⟨_, rfl⟩
          by_cases hjm : j < m
          · have hjI : (j : Int) < (m : Int) := by omega
            have hjL : j < l2.length := by rw [HM.out]; exact hjm
            obtain ⟨y, hy⟩ : ∃ y, l2[j]'hjL = y := ⟨_, rfl⟩
            obtain ⟨b2, off2, rfl, _, _, p0, p1, p2, p3⟩ := hP.out.sl.at j hjL y (by rw [List.getD_eq_getElem?_getD, List.getElem?_eq_getElem hjL]; exact hy)
            have HSC : Hid (out ++ Mo.placed x (l2.take (j + 1)) = (out ++ Mo.placed x (l2.take j)) ++ [⟨y.text, xl, xc, y.q⟩]) := Lib.hid (by rw [placed_succ x l2 j hjL, hy, HXE.out, List.append_assoc])
            have HLE : Hid ((out ++ Mo.placed x (l2.take j)).length ≤ 1099511627776) := Lib.hid (by rw [List.length_append, placed_len, List.length_take, HM.out]; have := hol.out; omega)
            have hbx := hP.out.box
            rw [HCX.out] at hbx
            have q1 : wy.cell? ⟨wz.heap.size, 1, none⟩ = some (.int .i64 xl) := hbx.at 1
            have q2 : wy.cell? ⟨wz.heap.size, 2, none⟩ = some (.int .i64 xc) := hbx.at 2
            have hlo : wz.heap.size < wy.heap.size := hbx.size
            have HWZ : Hid (w.heap.size ≤ wy.heap.size) := Lib.hid hP.out.below.size
            obtain ⟨yt, yl, yc, yq⟩ := y
            obtain ⟨o0, ho0⟩ : ∃ o, out ++ Mo.placed x (l2.take j) = o := ⟨_, rfl⟩
            rw [ho0] at hP HSC HLE
            clear hy hjL hbx ho0
            go_upto_region 12 with fail
            go_region
            all_goals
              go_wp2_with (at_builtin; refine wpList_append_word1 rfl _ _ rfl w.heap.size (wy.heap.size + 1) _ o0 ⟨yt, xl, xc, yq⟩ rfl (hP.out.under (below_put _ _ _)).own rfl (blk_put _ _) HLE.out (by have := HWZ.out; simp; omega) ?_)
              intro v' w5 ho5 hg5 hob5 hb5
              have HP5 := Lib.hid ((hP.out.under (below_put _ _ _)).append hg5 ho5 hob5 (by simp) hb5)
              clear ho5 hg5 hob5 hb5
              rw [← HSC.out] at HP5
              go_wp2
              go_roundg (m - (j + 1))
              case measure => omega
              case rel => exact ⟨j + 1, hjm, by omega, by go_num, HP5⟩
          · have hjI : ¬ (j : Int) < (m : Int) := by omega
            obtain rfl : j = m := by omega
            have hP' := hP.out
            rw [List.take_of_length_le (by rw [HM.out]; exact Nat.le_refl _)] at hP'
            obtain ⟨o0, ho0⟩ : ∃ o, out ++ Mo.placed x l2 = o := ⟨_, rfl⟩
            rw [ho0] at hP' HNX
            obtain ⟨A5, c5, rfl, hc5⟩ := hP'.own.parts
            obtain ⟨n5, hn5⟩ : ∃ n, o0.length = n := ⟨_, rfl⟩
            rw [hn5] at hP' hc5 ⊢
            obtain ⟨q, hq⟩ : ∃ q, min n5 200 = q := ⟨_, rfl⟩
            have hqI : min (n5 : Int) 200 = (q : Int) := by omega
            have hqc : (q : Int) ≤ (c5 : Int) := by omega
            have hq0 : ¬ (q : Int) < 0 := by omega
            have HTK : Hid (o0.take q = o0.take 200) := Lib.hid (by
              rcases Nat.le_total n5 200 with h | h
              · rw [List.take_of_length_le (by omega), List.take_of_length_le (by omega)]
              · rw [show q = 200 from by omega])
            have HOW : Hid (OwnW wy w.heap.size (.slice A5 q c5) (o0.take 200)) := Lib.hid (by rw [← HTK.out]; exact hP'.own.cut q (by omega))
            have HBW := Lib.hid hP'.below
            clear hP hP' ho0 hn5 hq
            go_wp2
            go_roundg (n - (k + 1))
            case measure => omega
            case rel => exact ⟨k + 1, o0.take 200, hlt, by omega, by go_num, Lib.hid (by rw [List.length_take]; omega), HNX, HOW, HBW⟩
    · have hkI : ¬ (k : Int) < (n : Int) := by omega
      have HEND : Hid (Mo.put s.lets L [] = .ok out) := Lib.hid (by rw [hpt.out, List.drop_of_length_le (by rw [HN.out]; omega), put_nil])
      go_wp2_with fail
      go_ret
      rw [HEND.out]
      exact ⟨⟨_, rfl, hO.out.slB (Nat.le_refl _)⟩, hol.out, hbl.out⟩
end Go.Proofs.YtgjehlegcmeeoaaGreatDoor

/- Package mani's own reader: the words of an action, up to a comma. -/
namespace Go.Proofs.YtgjehlegcmeeoaaGreatDoor
set_option maxRecDepth 100000
open Go.ChangeShapes Go.WideShapes Go.ChangeAt Go.RowKit Go.Shelf

/-- Where the first comma stands, or the end. -/
def Mo.cp : List Ln.W → Nat
  | [] => 0
  | w :: r => if Mn.isW [44] w then 0 else Mo.cp r + 1
theorem Mo.cp_le : ∀ (R : List Ln.W), Mo.cp R ≤ R.length
  | [] => Nat.le_refl _
  | w :: r => by
    unfold Mo.cp
    split
    · exact Nat.zero_le _
    · have := Mo.cp_le r
      simp
      omega
theorem Mo.cut_is : ∀ (R : List Ln.W), Mo.cut R = (R.take (Mo.cp R), decide (Mo.cp R < R.length), R.drop (Mo.cp R + 1))
  | [] => rfl
  | w :: r => by
    unfold Mo.cut Mo.cp
    split
    · simp
    · rw [Mo.cut_is r]
      simp
theorem Mo.cp_at : ∀ (R : List Ln.W) (k : Nat), k ≤ Mo.cp R → k < R.length → (Mn.isW [44] (R.getD k Mo.word0) = true → Mo.cp R = k) ∧ (Mn.isW [44] (R.getD k Mo.word0) = false → k + 1 ≤ Mo.cp R)
  | [], k, _, h => absurd h (by simp)
  | w :: r, 0, _, _ => by
    unfold Mo.cp
    refine ⟨fun h => ?_, fun h => ?_⟩
    · rw [if_pos (by simpa using h)]
    · rw [if_neg (by intro e; rw [List.getD_cons_zero, e] at h; cases h)]
      omega
  | w :: r, k + 1, h1, h2 => by
    have hn : ¬ Mn.isW [44] w = true := fun e => by
      unfold Mo.cp at h1
      rw [if_pos e] at h1
      omega
    have hc : Mo.cp (w :: r) = Mo.cp r + 1 := by
      conv => lhs; unfold Mo.cp
      rw [if_neg hn]
    rw [hc] at h1 ⊢
    have := Mo.cp_at r k (by omega) (by simp at h2; omega)
    rw [List.getD_cons_succ]
    exact ⟨fun h => by rw [this.1 h], fun h => by have := this.2 h; omega⟩
set_option maxHeartbeats 4000000 in
theorem comma_any (x : Ln.W) (w : World) (hx : ∀ c ∈ x.text, c < 256) :
    Calls Tryz.prog 131 #[.agg (cellsW x).toArray] w fun e w' => e = .returned (.bool (Mn.isW [44] x)) ∧ Below w.heap.size w w' := by
  have HB : Hid (∀ o, Below w.heap.size w (w.alloc o)) := Lib.hid (fun o => (Below.refl _ _).alloc (Nat.le_refl _) o)
  obtain ⟨xt, xl, xc, xq⟩ := x
  rw [show (cellsW ⟨xt, xl, xc, xq⟩).toArray = #[.string (str xt), .int .i64 xl, .int .i64 xc, .bool xq] from rfl]
  go_enter Tryz.func131, Tryz.ntmps131
  go_wp2_with fail
  refine (mis_any ⟨xt, xl, xc, xq⟩ [44] _ hx (by decide)).mono ?_
  rintro e w2 ⟨rfl, hb⟩
  obtain ⟨q, hq⟩ : ∃ q, Mn.isW [44] ⟨xt, xl, xc, xq⟩ = q := ⟨_, rfl⟩
  have HQ := Lib.hid hq
  rw [hq]
  clear hq
  go_wp2
  go_ret
  exact ⟨by rw [HQ.out] <;> rfl, (HB.out _).trans (hb.mono (HB.out _).size)⟩
set_option maxHeartbeats 8000000 in
theorem windex_any (v : Value) (R : List Ln.W) (hi : Nat) (w : World) (hv : SlW w hi v R) (hR : ∀ x ∈ R, GoodW x) (T : Int) (hT : T = if Mo.cp R < R.length then ((Mo.cp R : Nat) : Int) else -1) :
    Calls Tryz.prog 130 #[v, .func (.func 131) #[] #[]] w fun e w' => e = .returned (.int .i64 T) ∧ Below w.heap.size w w' := by
  obtain ⟨A, c, rfl, hc⟩ := hv.parts
  have hm : R.length ≤ maxLen := by
    obtain ⟨_, _, e, _, h3, _⟩ := hv
    exact h3
  obtain ⟨n, hn⟩ : ∃ n, R.length = n := ⟨_, rfl⟩
  have HV := Lib.hid hv
  have HN := Lib.hid hn
  have HG := Lib.hid hR
  have HLE := Lib.hid (Mo.cp_le R)
  rw [hn] at hc hm HV HLE hT ⊢
  have HT := Lib.hid hT
  unfold maxLen at hm
  have heF := enters_of Tryz.func131 (by kernel_rfl) rfl
  clear hv hR hn hT
  go_enter Tryz.func130, Tryz.ntmps130
  go_wp2_with fail
  go_loopw [8] (fun i wr => ∃ k : Nat, i = .int .i64 (k : Int) ∧ k ≤ n ∧ Hid (k ≤ Mo.cp R) ∧ Hid (Below w.heap.size w wr)) (fun i _ => n - (intOf i).toNat)
  case atStart => exact ⟨0, rfl, Nat.zero_le _, Lib.hid (Nat.zero_le _), Lib.hid (Below.refl _ _)⟩
  case round =>
    obtain ⟨k, rfl, hk, hcp, hb⟩ := hrel
    by_cases hlt : k < n
    · have hkn : (k : Int) < (n : Int) := by omega
      obtain ⟨x, hx⟩ : ∃ x, R.getD k Mo.word0 = x := ⟨_, rfl⟩
      have hkR : k < R.length := by rw [HN.out]; exact hlt
      have hgx : GoodW x := by
        rw [← hx, List.getD_eq_getElem?_getD, List.getElem?_eq_getElem hkR]
        exact HG.out _ (List.getElem_mem hkR)
      obtain ⟨b, off, rfl, hbh, hty, e0, e1, e2, e3⟩ := HV.out.at k hkR x hx
      have d0 := cell_later hb.out e0
      have d1 := cell_later hb.out e1
      have d2 := cell_later hb.out e2
      have d3 := cell_later hb.out e3
      have hat := Mo.cp_at R k hcp.out hkR
      rw [hx] at hat
      have HAT := Lib.hid hat
      have HGX := Lib.hid hgx
      clear e0 e1 e2 e3 hat hx hgx hty hkR
      go_wp2_with fail
      refine (comma_any x _ HGX.out.bytes).mono ?_
      rintro e w2 ⟨rfl, hb2⟩
      have HB2 := Lib.hid (hb.out.trans (hb2.mono hb.out.size))
      clear hb2 d0 d1 d2 d3
      rcases hq : Mn.isW [44] x with _ | _
      · have HK := Lib.hid (HAT.out.2 hq)
        clear hq
        go_wp2
        go_roundw
        case rel => exact ⟨k + 1, by go_num, by omega, HK, HB2⟩
        case measure => simp [intOf]; omega
      · have HK := Lib.hid (HAT.out.1 hq)
        clear hq
        go_wp2
        go_ret
        exact ⟨by rw [HT.out, HK.out, if_pos hlt] <;> rfl, HB2.out⟩
    · obtain rfl : k = n := by omega
      have he : Mo.cp R = k := by have := hcp.out; have := HLE.out; omega
      have HE := Lib.hid he
      clear he
      go_wp2
      go_ret
      exact ⟨by rw [HT.out, HE.out, if_neg (Nat.lt_irrefl k)] <;> rfl, hb.out⟩
end Go.Proofs.YtgjehlegcmeeoaaGreatDoor

/- Package mani's own reader: whether a Rule must still wait for one that makes a name. -/
namespace Go.Proofs.YtgjehlegcmeeoaaGreatDoor
set_option maxRecDepth 100000
open Go.ChangeShapes Go.WideShapes Go.ChangeAt Go.RowKit Go.Shelf

/-- A row of truths, and the variable that holds it. -/
structure FreeAt (w : World) (g b1 b3 fb n : Nat) (free : List Bool) : Prop where
  rd : Blk w b1 83 #[.pointer (some ⟨g, 0, none⟩)]
  var : Blk w b3 97 #[.slice (some ⟨fb, 0, none⟩) n n]
  row : Blk w fb 4 (free.map Value.bool).toArray
  len : free.length = n
theorem FreeAt.under {w w' : World} {g b1 b3 fb n : Nat} {free : List Bool} (h : FreeAt w g b1 b3 fb n free) (hb : Below w.heap.size w w') : FreeAt w' g b1 b3 fb n free := ⟨h.rd.under hb, h.var.under hb, h.row.under hb, h.len⟩
theorem FreeAt.at {w : World} {g b1 b3 fb n : Nat} {free : List Bool} (h : FreeAt w g b1 b3 fb n free) (i : Nat) (hi : i < n) : w.cell? ⟨fb, i, none⟩ = some (.bool (free.getD i false)) := by
  rw [h.row.at i, List.getElem?_toArray, List.getElem?_map, List.getElem?_eq_getElem (by rw [h.len]; exact hi), List.getD_eq_getElem?_getD, List.getElem?_eq_getElem (by rw [h.len]; exact hi)]
  rfl
set_option maxHeartbeats 4000000 in
theorem waits_any (base hi g lb mb b1 b3 fb n : Nat) (s : Mo.S) (free : List Bool) (t : List Nat) (w : World) (h : MRd w base hi g lb mb s) (hf : FreeAt w g b1 b3 fb n free) (hm : ∀ t i, Mo.has t s.makers = some i → i < n) (ht : ∀ c ∈ t, c < 256) (htl : t.length ≤ 1000000) :
    Calls Tryz.prog 68 #[.string (str t), .pointer (some ⟨b1, 0, none⟩), .pointer (some ⟨b3, 0, none⟩)] w fun e w' => e = .returned (.bool (Mo.waits s free t)) ∧ w = w' := by
  obtain ⟨cv, rv, sv, hin⟩ := h
  have k1 : w.cell? ⟨g, 1, none⟩ = some (.map (some mb)) := hin.blk.at 1
  have q1 : w.cell? ⟨b1, 0, none⟩ = some (.pointer (some ⟨g, 0, none⟩)) := hf.rd.at 0
  have q3 : w.cell? ⟨b3, 0, none⟩ = some (.slice (some ⟨fb, 0, none⟩) n n) := hf.var.at 0
  have hlk := MapIs.run_look (w := w) hin.makers Tryz.underlying52 (z := .int .i64 0) (by kernel_rfl) ht (by omega)
  have HFA := Lib.hid (fun i hi => hf.at i hi)
  rcases hh : Mo.has t s.makers with _ | i
  · have HW : Hid (Mo.waits s free t = false) := Lib.hid (by unfold Mo.waits; rw [hh])
    rw [hh] at hlk
    clear hin hf hm hh
    go_enter Tryz.func68, Tryz.ntmps68
    go_wp2
    go_ret
    exact ⟨by rw [HW.out] <;> rfl, rfl⟩
  · have HW : Hid (Mo.waits s free t = !free.getD i false) := Lib.hid (by unfold Mo.waits; rw [hh])
    have hi : i < n := hm t i hh
    have p0 := HFA.out i hi
    have hiI : (i : Int) < (n : Int) := by omega
    rw [hh] at hlk
    obtain ⟨q, hq⟩ : ∃ q, free.getD i false = q := ⟨_, rfl⟩
    rw [hq] at p0 HW
    clear hin hf hm hh hq
    go_enter Tryz.func68, Tryz.ntmps68
    go_wp2
    go_ret
    exact ⟨by rw [HW.out] <;> rfl, rfl⟩
set_option maxHeartbeats 4000000 in
theorem indexwaits_any (base hi hi2 g lb mb b1 b3 fb n : Nat) (s : Mo.S) (free : List Bool) (v : Value) (L : List (List Nat)) (w : World) (h : MRd w base hi g lb mb s) (hf : FreeAt w g b1 b3 fb n free) (hm : ∀ t i, Mo.has t s.makers = some i → i < n) (hv : SlTB w hi2 v L) (hL : ∀ t ∈ L, (∀ c ∈ t, c < 256) ∧ t.length ≤ 1000000) (hlen : L.length ≤ 1000000) :
    Calls Tryz.prog 104 #[v, .func (.func 68) #[] #[.pointer (some ⟨b1, 0, none⟩), .pointer (some ⟨b3, 0, none⟩)]] w fun e w' => (∃ z : Int, e = .returned (.int .i64 z) ∧ decide (0 ≤ z) = L.any (Mo.waits s free)) ∧ w = w' := by
  obtain ⟨A, c, rfl, _, _, hc⟩ := hv
  have HC := Lib.hid hc
  have HW : Hid (∀ k (hk : k < L.length), Calls Tryz.prog 68 #[.string (str (L[k]'hk)), .pointer (some ⟨b1, 0, none⟩), .pointer (some ⟨b3, 0, none⟩)] w fun e w' => e = .returned (.bool (Mo.waits s free (L[k]'hk))) ∧ w = w') := Lib.hid (fun k hk => waits_any base hi g lb mb b1 b3 fb n s free (L[k]'hk) w h hf hm (hL _ (List.getElem_mem hk)).1 (hL _ (List.getElem_mem hk)).2)
  obtain ⟨N, hN⟩ : ∃ N, L.length = N := ⟨_, rfl⟩
  have HN := Lib.hid hN
  rw [hN] at hlen ⊢
  clear h hf hm hL hN hc
  go_enter Tryz.func104, Tryz.ntmps104
  go_wp2_with fail
  go_loopg [8] N (fun g iv wr => ∃ k : Nat, k ≤ N ∧ N - k ≤ g ∧ iv = .int .i64 (k : Int) ∧ Hid (∀ j (hj : j < L.length), j < k → Mo.waits s free (L[j]'hj) = false) ∧ w = wr)
  case atStart => exact ⟨0, Nat.zero_le _, by omega, rfl, Lib.hid (fun j _ h => absurd h (by omega)), rfl⟩
  case round =>
    obtain ⟨k, hk, hg, rfl, hall, rfl⟩ := hrel
    by_cases hlt : k < N
    · have hkI : (k : Int) < (N : Int) := by omega
      have hkL : k < L.length := by rw [HN.out]; exact hlt
      obtain ⟨b, off, rfl, _, _, hcc⟩ := HC.out (by omega)
      have p0 := hcc k hkL
      rw [List.getD_eq_getElem?_getD, List.getElem?_eq_getElem hkL, Option.getD_some, Nat.mul_one] at p0
      have HWK := Lib.hid (HW.out k hkL)
      have HYE : Hid (Mo.waits s free (L[k]'hkL) = true → L.any (Mo.waits s free) = true) := Lib.hid (fun h => List.any_eq_true.2 ⟨_, List.getElem_mem hkL, h⟩)
      have HNO : Hid (Mo.waits s free (L[k]'hkL) = false → ∀ j (hj : j < L.length), j < k + 1 → Mo.waits s free (L[j]'hj) = false) := Lib.hid (fun h j hj hjk => by
        rcases Nat.lt_or_ge j k with h1 | h1
        · exact hall.out j hj h1
        · obtain rfl : j = k := by omega
          exact h)
      obtain ⟨t, ht⟩ : ∃ t, L[k]'hkL = t := ⟨_, rfl⟩
      rw [ht] at p0 HWK HYE HNO
      obtain ⟨q, hq⟩ : ∃ q, Mo.waits s free t = q := ⟨_, rfl⟩
      rw [hq] at HWK HYE HNO
      clear hcc ht hq hall
      rcases q with _ | _
      · have HX := Lib.hid (HNO.out rfl)
        clear HYE HNO
        go_wp2_with fail
        refine HWK.out.mono ?_
        rintro e w2 ⟨rfl, rfl⟩
        go_wp2
        go_roundg (N - (k + 1))
        case measure => omega
        case rel => exact ⟨k + 1, hlt, by omega, by go_num, HX, rfl⟩
      · have HX := Lib.hid (HYE.out rfl)
        clear HYE HNO
        go_wp2_with fail
        refine HWK.out.mono ?_
        rintro e w2 ⟨rfl, rfl⟩
        go_wp2
        go_ret
        refine ⟨⟨(k : Int), rfl, ?_⟩, rfl⟩
        rw [HX.out]
        exact decide_eq_true (by omega)
    · have hkI : ¬ (k : Int) < (N : Int) := by omega
      have HX : Hid (L.any (Mo.waits s free) = false) := Lib.hid (by
        rw [List.any_eq_false]
        intro t ht
        obtain ⟨j, hj, rfl⟩ := List.getElem_of_mem ht
        rw [hall.out j hj (by rw [HN.out] at hj; omega)]
        decide)
      clear hall
      go_wp2_with fail
      go_ret
      exact ⟨⟨-1, rfl, by rw [HX.out]; decide⟩, rfl⟩
set_option maxHeartbeats 4000000 in
theorem anywaits_any (base hi hi2 g lb mb b1 b3 fb n : Nat) (s : Mo.S) (free : List Bool) (v : Value) (L : List (List Nat)) (w : World) (h : MRd w base hi g lb mb s) (hf : FreeAt w g b1 b3 fb n free) (hm : ∀ t i, Mo.has t s.makers = some i → i < n) (hv : SlTB w hi2 v L) (hL : ∀ t ∈ L, (∀ c ∈ t, c < 256) ∧ t.length ≤ 1000000) (hlen : L.length ≤ 1000000) :
    Calls Tryz.prog 69 #[v, .func (.func 68) #[] #[.pointer (some ⟨b1, 0, none⟩), .pointer (some ⟨b3, 0, none⟩)]] w fun e w' => e = .returned (.bool (L.any (Mo.waits s free))) ∧ w = w' := by
  have HI := Lib.hid (indexwaits_any base hi hi2 g lb mb b1 b3 fb n s free v L w h hf hm hv hL hlen)
  clear h hf hm hv hL hlen
  go_enter Tryz.func69, Tryz.ntmps69
  go_wp2_with fail
  refine HI.out.mono ?_
  rintro e w2 ⟨⟨z, rfl, hz⟩, rfl⟩
  have HZ := Lib.hid hz
  clear hz
  go_wp2
  go_ret
  exact ⟨by rw [← HZ.out] <;> rfl, rfl⟩
end Go.Proofs.YtgjehlegcmeeoaaGreatDoor

/- Whether a row of truths holds a false. -/
namespace Go.Proofs.YtgjehlegcmeeoaaGreatDoor
set_option maxRecDepth 100000
open Go.ChangeShapes Go.WideShapes Go.ChangeAt Go.RowKit Go.Shelf

set_option maxHeartbeats 4000000 in
theorem indexfalse_any (fb n : Nat) (free : List Bool) (w : World) (hf : Blk w fb 4 (free.map Value.bool).toArray) (hl : free.length = n) (hn : n ≤ 1000000) :
    Calls Tryz.prog 105 #[.slice (some ⟨fb, 0, none⟩) n n, .bool false] w fun e w' => (∃ z : Int, e = .returned (.int .i64 z) ∧ Hid (decide (0 ≤ z) = free.contains false)) ∧ w = w' := by
  have HC : Hid (∀ k (hk : k < free.length), w.cell? ⟨fb, k, none⟩ = some (.bool (free[k]'hk))) := Lib.hid (fun k hk => by
    rw [hf.at k, List.getElem?_toArray, List.getElem?_map, List.getElem?_eq_getElem hk]
    rfl)
  have HN := Lib.hid hl
  obtain ⟨r, hr⟩ : ∃ r, free.contains false = r := ⟨_, rfl⟩
  rw [hr]
  have HR := Lib.hid hr
  clear hf hl hr
  go_enter Tryz.func105, Tryz.ntmps105
  go_wp2_with fail
  go_loopg [8] n (fun g iv wr => ∃ k : Nat, k ≤ n ∧ n - k ≤ g ∧ iv = .int .i64 (k : Int) ∧ Hid (∀ j (hj : j < free.length), j < k → (free[j]'hj) = true) ∧ w = wr)
  case atStart => exact ⟨0, Nat.zero_le _, by omega, rfl, Lib.hid (fun j _ h => absurd h (by omega)), rfl⟩
  case round =>
    obtain ⟨k, hk, hg, rfl, hall, rfl⟩ := hrel
    by_cases hlt : k < n
    · have hkI : (k : Int) < (n : Int) := by omega
      have hkL : k < free.length := by rw [HN.out]; exact hlt
      have p0 := HC.out k hkL
      have HYE : Hid ((free[k]'hkL) = false → r = true) := Lib.hid (fun h => by rw [← HR.out, List.contains_iff_mem]; rw [← h]; exact List.getElem_mem hkL)
      have HNO : Hid ((free[k]'hkL) = true → ∀ j (hj : j < free.length), j < k + 1 → (free[j]'hj) = true) := Lib.hid (fun h j hj hjk => by
        rcases Nat.lt_or_ge j k with h1 | h1
        · exact hall.out j hj h1
        · obtain rfl : j = k := by omega
          exact h)
      obtain ⟨q, hq⟩ : ∃ q, (free[k]'hkL) = q := ⟨_, rfl⟩
      rw [hq] at p0 HYE HNO
      clear hq hall
      rcases q with _ | _
      · have HX := Lib.hid (HYE.out rfl)
        clear HYE HNO
        go_wp2_with fail
        go_ret
        exact ⟨⟨(k : Int), rfl, Lib.hid (by simp [HX.out])⟩, rfl⟩
      · have HX := Lib.hid (HNO.out rfl)
        clear HYE HNO
        go_wp2_with fail
        go_roundg (n - (k + 1))
        case measure => omega
        case rel => exact ⟨k + 1, hlt, by omega, by go_num, HX, rfl⟩
    · have hkI : ¬ (k : Int) < (n : Int) := by omega
      have HX : Hid (r = false) := Lib.hid (by
        rw [← HR.out, ← Bool.not_eq_true, List.contains_iff_mem]
        intro ht
        obtain ⟨j, hj, e⟩ := List.getElem_of_mem ht
        rw [hall.out j hj (by rw [HN.out] at hj; omega)] at e
        cases e)
      clear hall
      go_wp2_with fail
      go_ret
      exact ⟨⟨-1, rfl, Lib.hid (by simp [HX.out])⟩, rfl⟩
set_option maxHeartbeats 4000000 in
theorem hasfalse_any (fb n : Nat) (free : List Bool) (w : World) (hf : Blk w fb 4 (free.map Value.bool).toArray) (hl : free.length = n) (hn : n ≤ 1000000) :
    Calls Tryz.prog 70 #[.slice (some ⟨fb, 0, none⟩) n n, .bool false] w fun e w' => e = .returned (.bool (free.contains false)) ∧ w = w' := by
  have HI := Lib.hid (indexfalse_any fb n free w hf hl hn)
  clear hf hl
  go_enter Tryz.func70, Tryz.ntmps70
  go_wp2_with fail
  refine HI.out.mono ?_
  rintro e w2 ⟨⟨z, rfl, HZ⟩, rfl⟩
  go_wp2
  go_ret
  exact ⟨by rw [← HZ.out] <;> rfl, rfl⟩
end Go.Proofs.YtgjehlegcmeeoaaGreatDoor
