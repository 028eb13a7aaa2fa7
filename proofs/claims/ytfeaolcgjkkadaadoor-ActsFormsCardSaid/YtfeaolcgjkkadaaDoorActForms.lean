/- ActsForms: whichever row is picked, what comes of its action is what is written beside it. -/
import Derived.Test.YtfeaolcgjkkadaaDoorActAwake
import Derived.Deep.RegionHeld3
import Derived.Deep.DeepCutAuto
import Derived.BigQuiet
import Derived.Deep.QuietTactic
import Derived.RegionTactic
import Derived.Deep.RegionWith
namespace Go.Proofs.YtfeaolcgjkkadaaDoor
set_option maxRecDepth 100000
open Go.ChangeShapes Go.WideShapes Go.ChangeAt Go.RowKit

theorem blk_new (w : World) {g : Nat} {t : TypeId} {C : Array Value} (hg : g = w.heap.size) : Blk (w.alloc (.cells C t)) g t C := by
  subst hg
  exact heap_alloc_new _ _
theorem rdD_blk {w : World} {g n : Nat} {C : Array Value} {L : List Ac.D} (h : Blk w g 28 C) (hC : C.toList = rowD L) (hn : L.length = n) (hm : L.length ≤ 1000000) : RdD w (.slice (some ⟨g, 0, none⟩) n n) L := by
  subst hn
  have hl := rowD_len L
  have hs : C.size = L.length * 3 := by rw [← hl, ← hC]; simp
  exact OwnD.rd (base := 0) ⟨hl, .inr ⟨g, L.length, C, rfl, Nat.zero_le _, h, Nat.le_refl _, by unfold maxLen; omega, hs, by rw [hC, List.take_of_length_le (Nat.le_of_eq hl)]⟩⟩
/-- A row of the table. -/
def formOk (L : List Ac.D) (want : List Nat) (ok : Bool) : Bool := L.all (fun d => decide (d.kind ≤ 1000000) && d.text.all (fun c => decide (c < 256)) && decide (d.text.length ≤ 100)) && want.all (fun c => decide (c < 256)) && decide (want.length ≤ 100) && match Ac.run L [[97, 66], [99, 100, 101]] with
  | some b => ok && decide (b = want)
  | none => !ok && decide (want = [])
theorem formOk_of {L : List Ac.D} {want : List Nat} {ok : Bool} (h : formOk L want ok = true) : (∀ d ∈ L, d.kind ≤ 1000000 ∧ (∀ c ∈ d.text, c < 256) ∧ d.text.length ≤ 1099511627776) ∧ (∀ c ∈ want, c < 256) ∧ ((Ac.run L [[97, 66], [99, 100, 101]] = some want ∧ ok = true) ∨ (Ac.run L [[97, 66], [99, 100, 101]] = none ∧ ok = false ∧ want = [])) := by
  unfold formOk at h
  simp only [Bool.and_eq_true, decide_eq_true_eq, List.all_eq_true] at h
  obtain ⟨⟨⟨h1, h2⟩, _⟩, h4⟩ := h
  refine ⟨fun d hd => ⟨(h1 d hd).1.1, (h1 d hd).1.2, Nat.le_trans (h1 d hd).2 (by decide)⟩, h2, ?_⟩
  rcases hr : Ac.run L [[97, 66], [99, 100, 101]] with _ | b
  · rw [hr] at h4
    simp only [Bool.and_eq_true, decide_eq_true_eq, Bool.not_eq_true'] at h4
    exact .inr ⟨rfl, h4⟩
  · rw [hr] at h4
    simp only [Bool.and_eq_true, decide_eq_true_eq] at h4
    exact .inl ⟨by rw [h4.2], h4.1⟩
/-- Objects laid one behind the other. -/
def lay (w : World) : List Obj → World
  | [] => w
  | o :: r => lay (w.alloc o) r
theorem lay_below : ∀ (Os : List Obj) (w w' : World), Below w.heap.size w w' → Below w.heap.size w (lay w' Os)
  | [], _, _, h => h
  | o :: r, w, w', h => lay_below r w (w'.alloc o) (h.alloc h.size o)
theorem lay_heap : ∀ (Os : List Obj) (w : World), (lay w Os).heap = w.heap ++ Os.toArray
  | [], w => by simp [lay]
  | o :: r, w => by
    rw [lay, lay_heap r (w.alloc o)]
    show w.heap.push o ++ r.toArray = _
    simp
theorem lay_at (w : World) (Os : List Obj) (j : Nat) {t : TypeId} {C : Array Value} (h : Os[j]? = some (.cells C t)) : Blk (lay w Os) (w.heap.size + j) t C := by
  unfold Blk
  rw [lay_heap, Array.getElem?_append_right (by omega), Nat.add_sub_cancel_left, List.getElem?_toArray]
  exact h
def Row (w : World) (g k : Nat) : Prop := ∃ (A : Option Addr) (n c : Nat) (L : List Ac.D) (want : List Nat) (ok : Bool), w.cell? ⟨g, k * 3, none⟩ = some (.slice A n c) ∧ w.cell? ⟨g, k * 3 + 1, none⟩ = some (.string (str want)) ∧ w.cell? ⟨g, k * 3 + 2, none⟩ = some (.bool ok) ∧ RdD w (.slice A n c) L ∧ formOk L want ok = true
def formsObjs (h : Nat) : List Obj := [.cells #[.int .i64 1, .int .i64 0, .string ⟨#[113]⟩] 28, .cells #[.int .i64 2, .int .i64 0, .string ⟨#[]⟩] 28, .cells #[.int .i64 2, .int .i64 1, .string ⟨#[]⟩] 28, .cells #[.int .i64 2, .int .i64 2, .string ⟨#[]⟩] 28, .cells #[.int .i64 3, .int .i64 0, .string ⟨#[]⟩] 28, .cells #[.int .i64 3, .int .i64 0, .string ⟨#[]⟩, .int .i64 4, .int .i64 0, .string ⟨#[]⟩] 28, .cells #[.int .i64 3, .int .i64 0, .string ⟨#[]⟩, .int .i64 5, .int .i64 0, .string ⟨#[]⟩, .int .i64 6, .int .i64 0, .string ⟨#[]⟩] 28, .cells #[.int .i64 3, .int .i64 0, .string ⟨#[]⟩, .int .i64 7, .int .i64 2, .string ⟨#[]⟩] 28, .cells #[.int .i64 3, .int .i64 0, .string ⟨#[]⟩, .int .i64 8, .int .i64 4, .string ⟨#[]⟩] 28, .cells #[.int .i64 3, .int .i64 0, .string ⟨#[]⟩, .int .i64 8, .int .i64 9, .string ⟨#[]⟩] 28, .cells #[.int .i64 2, .int .i64 0, .string ⟨#[]⟩, .int .i64 9, .int .i64 0, .string ⟨#[]⟩] 28, .cells #[.int .i64 2, .int .i64 1, .string ⟨#[]⟩, .int .i64 10, .int .i64 0, .string ⟨#[44, 32]⟩] 28, .cells #[.int .i64 2, .int .i64 0, .string ⟨#[]⟩, .int .i64 11, .int .i64 0, .string ⟨#[]⟩] 28, .cells #[.int .i64 4, .int .i64 0, .string ⟨#[]⟩] 28, .cells #[.int .i64 3, .int .i64 0, .string ⟨#[]⟩, .int .i64 3, .int .i64 0, .string ⟨#[]⟩] 28, .cells #[.int .i64 3, .int .i64 1, .string ⟨#[]⟩] 28, .cells #[.int .i64 3, .int .i64 0, .string ⟨#[]⟩, .int .i64 6, .int .i64 0, .string ⟨#[120]⟩] 28, .cells #[.int .i64 2, .int .i64 16, .string ⟨#[]⟩] 28, .cells #[.int .i64 1, .int .i64 0, .string ⟨#[97, 34, 98]⟩] 28, .cells #[.int .i64 12, .int .i64 0, .string ⟨#[]⟩] 28, .cells #[Value.slice none 0 0, .string ⟨#[]⟩, .bool false, Value.slice (some ⟨h, 0, none⟩) 1 1, .string ⟨#[113]⟩, .bool true, Value.slice (some ⟨h + 1, 0, none⟩) 1 1, .string ⟨#[97, 66]⟩, .bool true, Value.slice (some ⟨h + 1 + 1, 0, none⟩) 1 1, .string ⟨#[99, 100, 101]⟩, .bool true, Value.slice (some ⟨h + 1 + 1 + 1, 0, none⟩) 1 1, .string ⟨#[]⟩, .bool false, Value.slice (some ⟨h + 1 + 1 + 1 + 1, 0, none⟩) 1 1, .string ⟨#[97, 66, 99, 100, 101]⟩, .bool true, Value.slice (some ⟨h + 1 + 1 + 1 + 1 + 1, 0, none⟩) 2 2, .string ⟨#[65, 66, 67, 68, 69]⟩, .bool true, Value.slice (some ⟨h + 1 + 1 + 1 + 1 + 1 + 1, 0, none⟩) 3 3, .string ⟨#[101, 100, 99, 98, 97]⟩, .bool true, Value.slice (some ⟨h + 1 + 1 + 1 + 1 + 1 + 1 + 1, 0, none⟩) 2 2, .string ⟨#[97, 66]⟩, .bool true, Value.slice (some ⟨h + 1 + 1 + 1 + 1 + 1 + 1 + 1 + 1, 0, none⟩) 2 2, .string ⟨#[101]⟩, .bool true, Value.slice (some ⟨h + 1 + 1 + 1 + 1 + 1 + 1 + 1 + 1 + 1, 0, none⟩) 2 2, .string ⟨#[]⟩, .bool true, Value.slice (some ⟨h + 1 + 1 + 1 + 1 + 1 + 1 + 1 + 1 + 1 + 1, 0, none⟩) 2 2, .string ⟨#[97, 66, 97, 66]⟩, .bool true, Value.slice (some ⟨h + 1 + 1 + 1 + 1 + 1 + 1 + 1 + 1 + 1 + 1 + 1, 0, none⟩) 2 2, .string ⟨#[99, 44, 32, 100, 44, 32, 101]⟩, .bool true, Value.slice (some ⟨h + 1 + 1 + 1 + 1 + 1 + 1 + 1 + 1 + 1 + 1 + 1 + 1, 0, none⟩) 2 2, .string ⟨#[]⟩, .bool false, Value.slice (some ⟨h + 1 + 1 + 1 + 1 + 1 + 1 + 1 + 1 + 1 + 1 + 1 + 1 + 1, 0, none⟩) 1 1, .string ⟨#[]⟩, .bool false, Value.slice (some ⟨h + 1 + 1 + 1 + 1 + 1 + 1 + 1 + 1 + 1 + 1 + 1 + 1 + 1 + 1, 0, none⟩) 2 2, .string ⟨#[]⟩, .bool false, Value.slice (some ⟨h + 1 + 1 + 1 + 1 + 1 + 1 + 1 + 1 + 1 + 1 + 1 + 1 + 1 + 1 + 1, 0, none⟩) 1 1, .string ⟨#[]⟩, .bool false, Value.slice (some ⟨h + 1 + 1 + 1 + 1 + 1 + 1 + 1 + 1 + 1 + 1 + 1 + 1 + 1 + 1 + 1 + 1, 0, none⟩) 2 2, .string ⟨#[]⟩, .bool false, Value.slice (some ⟨h + 1 + 1 + 1 + 1 + 1 + 1 + 1 + 1 + 1 + 1 + 1 + 1 + 1 + 1 + 1 + 1 + 1, 0, none⟩) 1 1, .string ⟨#[]⟩, .bool false, Value.slice (some ⟨h + 1 + 1 + 1 + 1 + 1 + 1 + 1 + 1 + 1 + 1 + 1 + 1 + 1 + 1 + 1 + 1 + 1 + 1, 0, none⟩) 1 1, .string ⟨#[]⟩, .bool false, Value.slice (some ⟨h + 1 + 1 + 1 + 1 + 1 + 1 + 1 + 1 + 1 + 1 + 1 + 1 + 1 + 1 + 1 + 1 + 1 + 1 + 1, 0, none⟩) 1 1, .string ⟨#[]⟩, .bool false] 47]
theorem forms_row (w : World) (k : Nat) (hk : k < 21) : Row (lay w (formsObjs w.heap.size)) (w.heap.size + 20) k := by
  have hlast : Blk (lay w (formsObjs w.heap.size)) (w.heap.size + 20) 47 _ := lay_at w (formsObjs w.heap.size) 20 rfl
  have hl := hlast.at
  have h8 : k = 0 ∨ k = 1 ∨ k = 2 ∨ k = 3 ∨ k = 4 ∨ k = 5 ∨ k = 6 ∨ k = 7 ∨ k = 8 ∨ k = 9 ∨ k = 10 ∨ k = 11 ∨ k = 12 ∨ k = 13 ∨ k = 14 ∨ k = 15 ∨ k = 16 ∨ k = 17 ∨ k = 18 ∨ k = 19 ∨ k = 20 := by omega
  rcases h8 with rfl | rfl | rfl | rfl | rfl | rfl | rfl | rfl | rfl | rfl | rfl | rfl | rfl | rfl | rfl | rfl | rfl | rfl | rfl | rfl | rfl
  · exact ⟨_, _, _, [], [], false, hl 0, hl 1, hl 2, rdD_none _, by decide +kernel⟩
  · exact ⟨_, _, _, [⟨1, 0, [113]⟩], [113], true, hl 3, hl 4, hl 5, rdD_blk (lay_at w _ 0 rfl) rfl rfl (by decide), by decide +kernel⟩
  · exact ⟨_, _, _, [⟨2, 0, []⟩], [97, 66], true, hl 6, hl 7, hl 8, rdD_blk (lay_at w _ 1 rfl) rfl rfl (by decide), by decide +kernel⟩
  · exact ⟨_, _, _, [⟨2, 1, []⟩], [99, 100, 101], true, hl 9, hl 10, hl 11, rdD_blk (lay_at w _ 2 rfl) rfl rfl (by decide), by decide +kernel⟩
  · exact ⟨_, _, _, [⟨2, 2, []⟩], [], false, hl 12, hl 13, hl 14, rdD_blk (lay_at w _ 3 rfl) rfl rfl (by decide), by decide +kernel⟩
  · exact ⟨_, _, _, [⟨3, 0, []⟩], [97, 66, 99, 100, 101], true, hl 15, hl 16, hl 17, rdD_blk (lay_at w _ 4 rfl) rfl rfl (by decide), by decide +kernel⟩
  · exact ⟨_, _, _, [⟨3, 0, []⟩, ⟨4, 0, []⟩], [65, 66, 67, 68, 69], true, hl 18, hl 19, hl 20, rdD_blk (lay_at w _ 5 rfl) rfl rfl (by decide), by decide +kernel⟩
  · exact ⟨_, _, _, [⟨3, 0, []⟩, ⟨5, 0, []⟩, ⟨6, 0, []⟩], [101, 100, 99, 98, 97], true, hl 21, hl 22, hl 23, rdD_blk (lay_at w _ 6 rfl) rfl rfl (by decide), by decide +kernel⟩
  · exact ⟨_, _, _, [⟨3, 0, []⟩, ⟨7, 2, []⟩], [97, 66], true, hl 24, hl 25, hl 26, rdD_blk (lay_at w _ 7 rfl) rfl rfl (by decide), by decide +kernel⟩
  · exact ⟨_, _, _, [⟨3, 0, []⟩, ⟨8, 4, []⟩], [101], true, hl 27, hl 28, hl 29, rdD_blk (lay_at w _ 8 rfl) rfl rfl (by decide), by decide +kernel⟩
  · exact ⟨_, _, _, [⟨3, 0, []⟩, ⟨8, 9, []⟩], [], true, hl 30, hl 31, hl 32, rdD_blk (lay_at w _ 9 rfl) rfl rfl (by decide), by decide +kernel⟩
  · exact ⟨_, _, _, [⟨2, 0, []⟩, ⟨9, 0, []⟩], [97, 66, 97, 66], true, hl 33, hl 34, hl 35, rdD_blk (lay_at w _ 10 rfl) rfl rfl (by decide), by decide +kernel⟩
  · exact ⟨_, _, _, [⟨2, 1, []⟩, ⟨10, 0, [44, 32]⟩], [99, 44, 32, 100, 44, 32, 101], true, hl 36, hl 37, hl 38, rdD_blk (lay_at w _ 11 rfl) rfl rfl (by decide), by decide +kernel⟩
  · exact ⟨_, _, _, [⟨2, 0, []⟩, ⟨11, 0, []⟩], [], false, hl 39, hl 40, hl 41, rdD_blk (lay_at w _ 12 rfl) rfl rfl (by decide), by decide +kernel⟩
  · exact ⟨_, _, _, [⟨4, 0, []⟩], [], false, hl 42, hl 43, hl 44, rdD_blk (lay_at w _ 13 rfl) rfl rfl (by decide), by decide +kernel⟩
  · exact ⟨_, _, _, [⟨3, 0, []⟩, ⟨3, 0, []⟩], [], false, hl 45, hl 46, hl 47, rdD_blk (lay_at w _ 14 rfl) rfl rfl (by decide), by decide +kernel⟩
  · exact ⟨_, _, _, [⟨3, 1, []⟩], [], false, hl 48, hl 49, hl 50, rdD_blk (lay_at w _ 15 rfl) rfl rfl (by decide), by decide +kernel⟩
  · exact ⟨_, _, _, [⟨3, 0, []⟩, ⟨6, 0, [120]⟩], [], false, hl 51, hl 52, hl 53, rdD_blk (lay_at w _ 16 rfl) rfl rfl (by decide), by decide +kernel⟩
  · exact ⟨_, _, _, [⟨2, 16, []⟩], [], false, hl 54, hl 55, hl 56, rdD_blk (lay_at w _ 17 rfl) rfl rfl (by decide), by decide +kernel⟩
  · exact ⟨_, _, _, [⟨1, 0, [97, 34, 98]⟩], [], false, hl 57, hl 58, hl 59, rdD_blk (lay_at w _ 18 rfl) rfl rfl (by decide), by decide +kernel⟩
  · exact ⟨_, _, _, [⟨12, 0, []⟩], [], false, hl 60, hl 61, hl 62, rdD_blk (lay_at w _ 19 rfl) rfl rfl (by decide), by decide +kernel⟩
set_option maxRecDepth 100000 in
set_option maxHeartbeats 16000000 in
theorem forms_at (a : Int) (k : Nat) (hk : k < 21) (hm : (bits .and .i64 a 255).tmod 21 = (k : Int)) (w : World) (hTab : Tabs w) :
    Calls Tryd.prog 6 #[.int .i64 a] w fun e w' => e = .returned (.bool true) ∧ Below w.heap.size w w' := by
  have HTab := Lib.hid hTab
  have HK := Lib.hid hk
  clear hTab
  go_enter Tryd.func6, Tryd.ntmps6
  go_upto_region 1 with fail
  go_cut [3] (fun s3 wx => ∃ g, s3 = .slice (some ⟨g, 0, none⟩) 21 21 ∧ Hid (Row wx g k) ∧ Hid (Below w.heap.size w wx))
  case first =>
    clear hm
    go_wp2_with fail
    go_meet
    exact ⟨w.heap.size + 20, rfl, Lib.hid (forms_row w k hk), Lib.hid (lay_below (formsObjs w.heap.size) w w (Below.refl _ _))⟩
  case rest =>
    obtain ⟨g, rfl, hrow, hb⟩ := hcut
    obtain ⟨w0, rfl⟩ : ∃ wx : World, wx = wc := ⟨_, rfl⟩
    obtain ⟨A, n, c, L, want, ok, c0, c1, c2, hrd, hok⟩ := hrow.out
    have hkI : (k : Int) < 21 := by omega
    have hk0 : (0 : Int) ≤ (k : Int) := by omega
    have HRD := Lib.hid hrd
    have HOK := Lib.hid (formOk_of hok)
    clear hrow hrd hok
    obtain ⟨s, hs⟩ : ∃ s, str want = s := ⟨_, rfl⟩
    rw [hs] at c1
    have HS := Lib.hid hs
    clear hs
    go_upto_region 2 with fail
    go_cut [4] (fun s4 wx => s4 = .pointer (some ⟨w0.heap.size, 0, none⟩) ∧ wx = w0.alloc (.cells #[.slice A n c, .string s, .bool ok] 47))
    case first =>
      go_wp2_with fail
      go_meet
      exact ⟨rfl, rfl⟩
    case rest =>
      obtain ⟨rfl, hwc⟩ := hcut
      obtain ⟨w1, rfl⟩ : ∃ wx : World, wx = wc := ⟨_, rfl⟩
      have HX1 : Hid (Below w0.heap.size w0 w1) := Lib.hid (by rw [hwc]; exact (Below.refl _ _).alloc (Nat.le_refl _) _)
      have HB1 := Lib.hid (hb.out.trans (HX1.out.mono hb.out.size))
      have HK1 : Hid (Blk w1 w0.heap.size 47 #[.slice A n c, .string s, .bool ok]) := Lib.hid (by rw [hwc]; exact heap_alloc_new w0 _)
      have HR1 := Lib.hid (HRD.out.under HX1.out)
      have kc := fun (w : World) (C : Array Value) (n c : Nat) => Lib.run_convert_bytes_const (P := Tryd.prog) w 39 5 C n c Tryd.underlying39 Tryd.underlying5
      have kc2 := fun (w : World) (O : Obj) (C : Array Value) (n c : Nat) => convert_second (P := Tryd.prog) w O 39 5 C n c Tryd.underlying39 Tryd.underlying5
      have q0 := HK1.out.at 0
      change w1.cell? ⟨w0.heap.size, 0, none⟩ = some (.slice A n c) at q0
      clear hwc hm hkI hk0 hk HK c0 c1 c2
      go_wp2_with fail
      obtain ⟨hr1, hbx1⟩ := two_ins w1 [97, 66] [99, 100, 101] (2, 3) (3, 4) 39 (by decide) (by decide) (by decide) (by decide) _ rfl
      rcases HOK.out.2.2 with ⟨hrun, hok⟩ | ⟨hrun, hok, hw⟩
      · subst hok
        refine (run_any _ _ L [[97, 66], [99, 100, 101]] _ (HR1.out.under hbx1) hr1 (by decide) (by decide) HOK.out.1 _ hrun.symm).mono ?_
        rintro e w2 ⟨⟨v2, rfl, hm2⟩, hb2⟩
        have hx : Below w1.heap.size w1 w2 := hbx1.trans (hb2.mono hbx1.size)
        have HB2 := Lib.hid (HB1.out.trans (hx.mono HB1.out.size))
        have HK2 := HK1.out.under hx
        have rt := run_text hm2.bytes
        rw [HS.out] at rt
        have z1 := HK2.at 1
        have z2 := HK2.at 2
        change w2.cell? ⟨w0.heap.size, 1, none⟩ = some (.string s) at z1
        change w2.cell? ⟨w0.heap.size, 2, none⟩ = some (.bool true) at z2
        clear hbx1 hr1 hb2 hm2 HB1 hx kc kc2 q0 hrun HK2
        go_wp2_with fail
        refine (awake_any _ (HTab.out.under HB2.out)).mono ?_
        rintro e w3 ⟨rfl, hb3⟩
        have HB3 := Lib.hid (HB2.out.trans (hb3.mono HB2.out.size))
        clear hb3 rt z1 z2
        go_wp2
        go_ret
        exact ⟨rfl, HB3.out⟩
      · subst hok
        subst hw
        refine (run_any _ _ L [[97, 66], [99, 100, 101]] _ (HR1.out.under hbx1) hr1 (by decide) (by decide) HOK.out.1 _ hrun.symm).mono ?_
        rintro e w2 ⟨rfl, hb2⟩
        have hx : Below w1.heap.size w1 w2 := hbx1.trans (hb2.mono hbx1.size)
        have HB2 := Lib.hid (HB1.out.trans (hx.mono HB1.out.size))
        have HK2 := HK1.out.under hx
        have rt := run_text (bytes_none w2)
        rw [HS.out] at rt
        have z1 := HK2.at 1
        have z2 := HK2.at 2
        change w2.cell? ⟨w0.heap.size, 1, none⟩ = some (.string s) at z1
        change w2.cell? ⟨w0.heap.size, 2, none⟩ = some (.bool false) at z2
        clear hbx1 hr1 hb2 HB1 hx kc kc2 q0 hrun HK2
        go_wp2_with fail
        refine (awake_any _ (HTab.out.under HB2.out)).mono ?_
        rintro e w3 ⟨rfl, hb3⟩
        have HB3 := Lib.hid (HB2.out.trans (hb3.mono HB2.out.size))
        clear hb3 rt z1 z2
        go_wp2
        go_ret
        exact ⟨rfl, HB3.out⟩
end Go.Proofs.YtfeaolcgjkkadaaDoor
