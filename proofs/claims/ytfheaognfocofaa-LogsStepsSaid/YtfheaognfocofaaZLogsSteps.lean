/- LogsSteps: each step does one file call at most; the statement's walk. -/
import Derived.Test.YtfheaognfocofaaZLogsAwake
import Derived.Test.YtfheaognfocofaaZRecoTraceLaw
import Derived.Test.YtfheaognfocofaaZRecoRefDone
namespace Go.Proofs.Ytfheaognfocofaa
set_option maxRecDepth 100000
open Go.ChangeShapes Go.WideShapes Go.ChangeAt Go.RowKit Go.ChangeMaps
open Sf Lg

namespace Lg
/-- The commits of the first numbers. -/
def firsts (k : Nat) : List Rc.D := (List.range k).map fun i : Nat => Rc.num (i : Int)
theorem firsts_ok (k : Nat) : ∀ d ∈ firsts k, Rc.NumOk d := by
  intro d hd
  obtain ⟨i, _, rfl⟩ := List.mem_map.1 hd
  exact Rc.num_ok _
theorem firsts_next (k : Nat) : firsts k ++ [Rc.num (k : Int)] = firsts (k + 1) := by simp [firsts, List.range_succ]
def ft (k : Nat) : List Nat := Fr.frs ((firsts k).map Rc.body)
theorem ft_next (k : Nat) : ft k ++ Fr.frm (Rc.body (Rc.num (k : Int))) = ft (k + 1) := by
  unfold ft
  rw [← firsts_next, List.map_append, Rc.frs_append]
  simp [Fr.frs]
theorem ft_len (k : Nat) : (ft k).length ≤ 60 * k := by
  have := Rc.frs_len_le ((firsts k).map Rc.body) (fun x hx => by obtain ⟨d, hd, rfl⟩ := List.mem_map.1 hx; exact Rc.body_len (firsts_ok k d hd))
  rw [List.length_map] at this
  have e : (firsts k).length = k := by simp [firsts]
  rwa [e] at this
theorem ft_ed (k : Nat) : ed (ft k) = (ft k).length := (ld_all (firsts_ok k)).2
theorem ft_torn (k : Nat) : ed (ft k ++ [0, 0, 0]) = (ft k).length := (ld_tell (firsts_ok k) [] (by simp) 3 (by decide)).2
theorem lg_seq {o : Option (List Nat × Nat)} {nx q : Nat} (hQ : (q = 1 ∧ ∃ T k, o = some (T, k) ∧ ed T = T.length) ∨ (q = 3 ∧ Torn o)) (h0 : ∀ t k, o = some (t, k) → k ≠ 0) (hL : (lw o).length ≤ 1000) (hn : nx ≤ 10) :
    ∃ (ss : Nat → S) (xs : Nat → Fx) (T' : List Nat) (k' n' : Nat), ss 0 = aa [] nx o 1048576 nx (-1) ∧ xs 0 = Lg.begin lgL (nx : Int) lgT ∧ (∀ i, i < q → (xs i).step (ss i) = (ss (i + 1), xs (i + 1), if i + 1 = q then 1 else 0)) ∧ (∀ i, i ≤ q → (ss i).next ≤ 20 ∧ used (ss i).l + (xs i).whole.length ≤ 5000 ∧ (xs i).temp = lgT ∧ (xs i).name = lgL) ∧ (xs q).told = 1 ∧ ss q = aa [] nx (some (T', k')) 1048576 n' (-1) ∧ 0 < k' := by
  rcases hQ with ⟨rfl, T, k, rfl, hT⟩ | ⟨rfl, hT⟩
  · refine ⟨fun _ => aa [] nx (some (T, k)) 1048576 nx (-1), fun i => if i = 0 then Lg.begin lgL (nx : Int) lgT else ⟨lgL, nx, lgT, (k : Int), [], 0, 1⟩, T, k, nx, rfl, rfl, fun i hi => ?_, fun i hi => ?_, rfl, rfl, by have := h0 T k rfl; omega⟩
    · obtain rfl : i = 0 := by omega
      exact st_whole hT
    · have hw : (if i = 0 then Lg.begin lgL (nx : Int) lgT else ⟨lgL, nx, lgT, (k : Int), [], 0, 1⟩).whole = [] ∧ (if i = 0 then Lg.begin lgL (nx : Int) lgT else ⟨lgL, nx, lgT, (k : Int), [], 0, 1⟩).temp = lgT ∧ (if i = 0 then Lg.begin lgL (nx : Int) lgT else ⟨lgL, nx, lgT, (k : Int), [], 0, 1⟩).name = lgL := by
        split <;> exact ⟨rfl, rfl, rfl⟩
      refine ⟨by show nx ≤ 20; omega, ?_, hw.2.1, hw.2.2⟩
      rw [hw.1, used_aa]
      have : (lw (some (T, k))).length ≤ 1000 := hL
      simp only [List.length_nil]
      omega
  · have hsl := stands_len o
    refine ⟨fun i => if i ≤ 1 then aa [] nx o 1048576 nx (-1) else if i = 2 then at' [] nx (stands o) (nx + 1) o 1048576 (nx + 1) (-1) else aa [] nx (some (stands o, nx + 2)) 1048576 (nx + 2) (-1), fun i => if i = 0 then Lg.begin lgL (nx : Int) lgT else if i = 1 then ⟨lgL, nx, lgT, (lk' o : Int), stands o, 1, 0⟩ else if i = 2 then ⟨lgL, nx, lgT, (lk' o : Int), [], 2, 0⟩ else ⟨lgL, nx, lgT, ((nx + 2 : Nat) : Int), [], 2, 1⟩, stands o, nx + 2, nx + 2, rfl, rfl, fun i hi => ?_, fun i hi => ?_, rfl, rfl, by omega⟩
    · rcases (show i = 0 ∨ i = 1 ∨ i = 2 by omega) with rfl | rfl | rfl
      · exact st_torn hT
      · exact st_put (by simp only [List.length_nil]; omega) _
      · exact st_move rfl h0
    · rcases (show i = 0 ∨ i = 1 ∨ i = 2 ∨ i = 3 by omega) with rfl | rfl | rfl | rfl
      · exact ⟨by show nx ≤ 20; omega, by show used (aa [] nx o 1048576 nx (-1)).l + 0 ≤ 5000; rw [used_aa]; simp only [List.length_nil]; omega, rfl, rfl⟩
      · exact ⟨by show nx ≤ 20; omega, by show used (aa [] nx o 1048576 nx (-1)).l + (stands o).length ≤ 5000; rw [used_aa]; simp only [List.length_nil]; omega, rfl, rfl⟩
      · exact ⟨by show nx + 1 ≤ 20; omega, by show used (at' [] nx (stands o) (nx + 1) o 1048576 (nx + 1) (-1)).l + 0 ≤ 5000; rw [used_at]; simp only [List.length_nil]; omega, rfl, rfl⟩
      · exact ⟨by show nx + 2 ≤ 20; omega, by show used (aa [] nx (some (stands o, nx + 2)) 1048576 (nx + 2) (-1)).l + 0 ≤ 5000; rw [used_aa]; show ([] : List Nat).length + (stands o).length + 0 ≤ 5000; simp only [List.length_nil]; omega, rfl, rfl⟩
end Lg

set_option maxRecDepth 100000 in
set_option maxHeartbeats 8000000 in
theorem lgsteps_any (n how : Int) (w : World) : Calls Try.prog 4 #[.int .i64 n, .int .i64 how] w fun e w' => e = .returned (.bool true) ∧ Below w.heap.size w w' := by
  have kc := fun (w : World) (C : Array Value) (n c : Nat) => Lib.run_convert_bytes_const (P := Try.prog) w 28 5 C n c Try.underlying28 Try.underlying5
  have kl : ({ data := #[108, 111, 99, 107, 47, 108, 111, 103] } : ByteArray) = str lgL := rfl
  have kt : ({ data := #[116, 109, 112, 47, 49, 46, 49, 46, 50] } : ByteArray) = str lgT := rfl
  have kr : ({ data := #[116, 114, 97, 99, 101] } : ByteArray) = str tr := rfl
  obtain ⟨m, hm, em⟩ := Rc.and_7 n
  obtain ⟨r, hr, er⟩ := Rc.and_3 how
  have em2 : bits .and .i64 n 7 = (m : Int) := em
  have er2 : bits .and .i64 how 3 = (r : Int) := er
  have HM : Hid (m ≤ 7 ∧ r ≤ 3) := Lib.hid (by omega)
  clear em er hm hr
  go_enter Try.func4, Try.ntmps4
  go_wp2_with fail
  refine (fs_new 1048576 w).mono ?_
  rintro e w1 ⟨p, rfl, h1⟩
  have H1 : Hid (Fk (fun _ => False) w w1 p ⟨[], 1048576, 0, -1⟩) := Lib.hid h1.keep
  clear h1
  go_upto_block 0 with fail
  go_cut [6] (fun s6 wx => Hid (Own wx w1.heap.size s6 (ft m)) ∧ Hid (Below w1.heap.size w1 wx))
  case first =>
    go_wp2_with fail
    go_loopg [6, 7] 8 (fun gg s6 s7 wr => ∃ k : Nat, k ≤ m ∧ 8 - k ≤ gg ∧ s7 = .int .i64 (k : Int) ∧ Hid (Own wr w1.heap.size s6 (ft k)) ∧ Hid (Below w1.heap.size w1 wr))
    case atStart => exact ⟨0, by omega, by omega, rfl, Lib.hid (by rw [show ft 0 = [] from rfl]; exact own_none _ _), Lib.hid (Below.refl _ _)⟩
    case round =>
      obtain ⟨k, hk, hgg, rfl, HT, HB⟩ := hrel
      obtain ⟨wz, rfl⟩ : ∃ wx : World, wx = wr := ⟨_, rfl⟩
      by_cases hlt : k < m
      · have hltI : (k : Int) < (m : Int) := by omega
        have wk : IntKind.i64.wrap ((k : Int) + 1) = ((k + 1 : Nat) : Int) := by rw [IntWalk.i64_in _ (by have := HM.out; omega)]; omega
        obtain ⟨d, hd⟩ : ∃ d, Rc.num (k : Int) = d := ⟨_, rfl⟩
        have HDK : Hid (Rc.NumOk d) := Lib.hid (by rw [← hd]; exact Rc.num_ok _)
        have HNF : Hid (ft k ++ Fr.frm (Rc.body d) = ft (k + 1)) := Lib.hid (by rw [← hd]; exact ft_next k)
        have C1 : Hid (Calls Try.prog 12 #[.int .i64 (k : Int)] wz (NumIs d wz)) := Lib.hid (rnum_any' _ d wz hd)
        clear hd
        obtain ⟨_, _, At, ct, rfl, hct, _⟩ := HT.out.bytes.parts
        obtain ⟨nt, hnt⟩ : ∃ n, (ft k).length = n := ⟨_, rfl⟩
        rw [hnt] at HT ⊢
        have HNT : Hid (nt ≤ 420) := Lib.hid (by have := ft_len k; have := HM.out; omega)
        clear hct
        go_wp2_with fail
        refine C1.out.mono ?_
        rintro e w2 ⟨hb2, x2, rfl, ho2⟩
        have HB2 := Lib.hid hb2
        have C2 := Lib.hid (refrdone_is d.1 d.2.1 (d.2.2.1 : Int) (d.2.2.2 : Int) x2 _ w2 ho2.bytes (Rc.numOk_lt HDK.out) (by have := (Rc.ok_length HDK.out.1).2; omega) (by have := HDK.out.2.1; omega) rfl)
        have HBD : Hid ((Rc.body d).length ≤ 50) := Lib.hid (Rc.body_len HDK.out)
        clear hb2 ho2 C1
        go_wp2_with fail
        refine C2.out.mono ?_
        rintro e w3 ⟨v3, rfl, ho3, hb3⟩
        have HB3 := Lib.hid (HB2.out.trans (hb3.mono HB2.out.size))
        have HX3 := Lib.hid ho3.bytes
        clear ho3 hb3 C2
        go_wp2_with fail
        refine (refput_is _ _ (ft k) (Rc.body d) (ft (k + 1)) w3 (HT.out.under HB3.out).bytes HX3.out (by have := HNT.out; omega) (by have := HBD.out; omega) HNF.out).mono ?_
        rintro e w4 ⟨v4, rfl, ho4, hb4⟩
        have HB4 := Lib.hid (HB.out.trans ((HB3.out.trans (hb4.mono HB3.out.size)).mono HB.out.size))
        have HT4 := Lib.hid (ho4.more (base' := w1.heap.size) (Nat.le_trans HB.out.size HB3.out.size))
        clear ho4 hb4 HX3 HB HT
        go_wp2_with fail
        go_roundg (8 - (k + 1))
        case rel => exact ⟨k + 1, hlt, Nat.le_refl _, rfl, HT4, HB4⟩
        case measure => have := HM.out; omega
      · obtain rfl : k = m := by omega
        go_wp2
        go_meet
        exact ⟨HT, HB⟩
  case rest =>
    obtain ⟨HT, HB⟩ := hcut
    obtain ⟨wz, rfl⟩ : ∃ wx : World, wx = wc := ⟨_, rfl⟩
    obtain ⟨_, _, At, ct, rfl, hct, _⟩ := HT.out.bytes.parts
    have hfl := ft_len m
    have hfe := ft_ed m
    have hft := ft_torn m
    obtain ⟨T, hTT⟩ : ∃ T, ft m = T := ⟨_, rfl⟩
    rw [hTT] at HT hfl hfe hft hct ⊢
    have HTL : Hid (T.length ≤ 420) := Lib.hid (by have := HM.out; omega)
    have HFE := Lib.hid hfe
    have HFT := Lib.hid hft
    have H2 := Lib.hid (H1.out.under HB.out)
    clear hfl hfe hft hct hTT
    go_upto_block 2 with fail
    go_cut [8] (fun s8 wx => ∃ (o : Option (List Nat × Nat)) (nx q : Nat) (S0 : S), s8 = .int .i64 (q : Int) ∧ Hid ((q = 1 ∧ ∃ T k, o = some (T, k) ∧ ed T = T.length) ∨ (q = 3 ∧ Torn o)) ∧ Hid (∀ t k, o = some (t, k) → k ≠ 0) ∧ Hid ((lw o).length ≤ 1000) ∧ Hid (putS S0 lgL [] = (aa [] nx o 1048576 nx (-1), nx, 0) ∧ nx ≤ 10 ∧ S0.next ≤ 10 ∧ used S0.l ≤ 1000) ∧ Hid (Fk (fun _ => False) w wx p S0))
    case first =>
      by_cases h0 : r = 0
      · subst h0
        go_wp2_with fail
        refine (fk_put tr T _ H2.out nice_tr HT.out.bytes (by show 0 ≤ _; omega) (by have := HTL.out; show 0 + T.length ≤ _; omega)).mono ?_
        rw [putS_newt (by have := HTL.out; omega)]
        rintro e w3 ⟨rfl, h3, -⟩
        have H3 := Lib.hid h3
        clear h3
        go_wp2
        go_meet
        exact ⟨some (T, 1), 2, 1, tt1 T 1 1048576 1 (-1), rfl, Lib.hid (.inl ⟨rfl, T, 1, rfl, HFE.out⟩), Lib.hid (fun t k e => by injection e with e; injection e with _ e; omega), Lib.hid (by have := HTL.out; show T.length ≤ 1000; omega), Lib.hid ⟨putS_lgt (by have := HTL.out; simp; omega), by omega, by show 1 ≤ 10; omega, by have := HTL.out; simp [used]; omega⟩, H3⟩
      · have h0I := lg_ne h0
        by_cases h1 : r = 1
        · subst h1
          clear h0
          go_wp2_with (at_builtin; refine wpList_append_bytes rfl _ _ rfl wz.heap.size _ _ [] T rfl (own_empty wz _ 0 #[] (Nat.le_refl _) (by unfold maxLen; omega) rfl) rfl (HT.out.alloc _).bytes ?_ ?_ T rfl ?_)
          case refine_1 => have := HTL.out; simp; omega
          case refine_2 => simp
          case refine_3 =>
            rintro v3 w3 ⟨ho3, -, -, hb3⟩
            have HO3 := Lib.hid ho3
            have HB3 := Lib.hid hb3
            clear ho3 hb3
            go_wp2_with (at_builtin; refine wpList_append_bytes rfl _ _ rfl wz.heap.size _ _ T [0, 0, 0] rfl (HO3.out.alloc _) rfl (bytes_new w3 _ rfl [0, 0, 0] _ _ (by decide) (by decide)) ?_ ?_ (T ++ [0, 0, 0]) rfl ?_)
            case refine_1 => have := HTL.out; simp; omega
            case refine_2 => have := HB3.out.size; simp at this ⊢; omega
            case refine_3 =>
              rintro v4 w4 ⟨ho4, -, -, hb4⟩
              have HO4 := Lib.hid ho4.bytes
              have hb3' := ((Below.refl wz.heap.size wz).alloc (Nat.le_refl _) _).trans HB3.out
              have H4 : Hid (Fk (fun _ => False) w w4 p ⟨[], 1048576, 0, -1⟩) := Lib.hid (H2.out.under ((hb3'.alloc hb3'.size _).trans hb4))
              clear hb3'
              clear ho4 hb4
              go_wp2_with fail
              refine (fk_put tr (T ++ [0, 0, 0]) _ H4.out nice_tr HO4.out (by show 0 ≤ _; omega) (by have := HTL.out; show 0 + (T ++ [0, 0, 0]).length ≤ _; simp; omega)).mono ?_
              rw [putS_newt (by have := HTL.out; simp; omega)]
              rintro e w5 ⟨rfl, h5, -⟩
              have H5 := Lib.hid h5
              clear h5
              go_wp2
              go_meet
              exact ⟨some (T ++ [0, 0, 0], 1), 2, 3, tt1 (T ++ [0, 0, 0]) 1 1048576 1 (-1), rfl, Lib.hid (.inr ⟨rfl, fun t k e => by injection e with e; injection e with e _; subst e; rw [HFT.out]; simp⟩), Lib.hid (fun t k e => by injection e with e; injection e with _ e; omega), Lib.hid (by have := HTL.out; show (T ++ [0, 0, 0]).length ≤ 1000; simp; omega), Lib.hid ⟨putS_lgt (by have := HTL.out; simp; omega), by omega, by show 1 ≤ 10; omega, by have := HTL.out; simp [used]; omega⟩, H5⟩
        · have h1I : ((r : Int) == 1) = false := lg_ne h1
          clear h0 h1
          go_wp2
          go_meet
          exact ⟨none, 1, 3, ⟨[], 1048576, 0, -1⟩, rfl, Lib.hid (.inr ⟨rfl, fun t k e => by cases e⟩), Lib.hid (fun t k e => by cases e), Lib.hid (by show 0 ≤ 1000; omega), Lib.hid ⟨putS_new (by simp), by omega, by show 0 ≤ 10; omega, by show 0 ≤ 1000; omega⟩, H2⟩
    case rest =>
      obtain ⟨o, nx, q, S0, rfl, HQ, HO0, HOL, HP, H2⟩ := hcut
      clear H1 HT HB
      obtain ⟨wy, rfl⟩ : ∃ wx : World, wx = wc := ⟨_, rfl⟩
      go_wp2_with fail
      refine (fk_put lgL [] _ H2.out nice_lgL (bytes_nil wy) (by have := HP.out; omega) (by have := HP.out; simp; omega)).mono ?_
      rw [HP.out.1]
      rintro e w3 ⟨rfl, h3, -⟩
      have H3 := Lib.hid h3
      clear h3 H2
      go_wp2_with fail
      refine (fxnew_any lgL lgT (nx : Int) w3).mono ?_
      rintro e w4 ⟨gx, rfl, hgx, hx, hb4⟩
      obtain ⟨K4, hK4⟩ : ∃ K', (fun k => False ∨ k = gx) = K' := ⟨_, rfl⟩
      have KX : Hid (K4 gx ∧ w.heap.size ≤ gx) := Lib.hid (by rw [← hK4]; exact ⟨.inr rfl, Nat.le_trans H3.out.fs.below.size hgx⟩)
      obtain ⟨ss, xs, T', k', n', hs0, hx0, hst, hbd, htd, hsq, hk0⟩ := lg_seq HQ.out HO0.out HOL.out HP.out.2.1
      have HX : Hid (FxAt K4 w w4 p gx (ss 0) (xs 0)) := Lib.hid (by rw [← hK4, hs0, hx0]; exact FxAt.begun H3.out hb4 hgx hx)
      have HST := Lib.hid hst
      have HBD := Lib.hid hbd
      have HTD := Lib.hid htd
      have HSQ := Lib.hid hsq
      have HKZ := Lib.hid hk0
      have HQ3 : Hid (q ≤ 3 ∧ 1 ≤ q) := Lib.hid (by rcases HQ.out with h | h <;> omega)
      clear hK4 hs0 hx0 hst hbd htd hsq hk0 hgx hx hb4 H3 HQ HO0 HOL HP
      go_upto_block 3 with fail
      go_cut [12] (fun s12 wx => Hid (FxAt K4 w wx p gx (ss q) (xs q)))
      case first =>
        go_wp2_with fail
        go_loopg [12, 13] 4 (fun gg s12 s13 wr => ∃ i : Nat, i ≤ q ∧ 4 - i ≤ gg ∧ s12 = .int .i64 ((i + 1 : Nat) : Int) ∧ Hid (FxAt K4 w wr p gx (ss i) (xs i)))
        case atStart => exact ⟨0, by omega, by omega, rfl, HX⟩
        case round =>
          clear HX
          obtain ⟨i, hi, hgg, rfl, HXi⟩ := hrel
          obtain ⟨wv, rfl⟩ : ∃ wx : World, wx = wr := ⟨_, rfl⟩
          by_cases hlt : i < q
          · obtain ⟨i1, hi1⟩ : ∃ j, i + 1 = j := ⟨_, rfl⟩
            have hltI : (i1 : Int) ≤ (q : Int) := by omega
            have wi : IntKind.i64.wrap ((i1 : Int) + 1) = ((i1 + 1 : Nat) : Int) := by rw [IntWalk.i64_in _ (by have := HQ3.out; omega)]; omega
            obtain ⟨b1, b2, b3, b4⟩ := HBD.out i hi
            have C := fxstep_any (xs i) HXi.out KX.out.1 KX.out.2 (by rw [b3]; exact nice_lgT) (by rw [b4]; exact nice_lgL) (by omega) (by omega)
            rw [HST.out i hlt] at C
            rw [hi1] at C ⊢
            have C' := Lib.hid C
            clear C b1 b2 b3 b4
            by_cases he : i1 = q
            · rw [if_pos he] at C'
              have heI : ((i1 : Int) == (q : Int)) = true := by rw [he]; simp
              have HE := Lib.hid he
              clear he
              go_wp2_with fail
              refine C'.out.mono ?_
              rintro e w5 ⟨rfl, h5, -⟩
              have H5 : Hid (FxAt K4 w w5 p gx (ss i1) (xs i1)) := Lib.hid h5
              clear h5 C' HXi
              have h11 : (((1 : Nat) : Int) == 1) = true := rfl
              go_wp2_with fail
              go_roundg (4 - (i + 1))
              case rel => exact ⟨i1, by omega, by omega, rfl, H5⟩
              case measure => have := HQ3.out; omega
            · rw [if_neg he] at C'
              have heI : ((i1 : Int) == (q : Int)) = false := lg_ne he
              go_wp2_with fail
              refine C'.out.mono ?_
              rintro e w5 ⟨rfl, h5, -⟩
              have H5 : Hid (FxAt K4 w w5 p gx (ss i1) (xs i1)) := Lib.hid h5
              clear h5 C' HXi
              go_wp2_with fail
              go_roundg (4 - (i + 1))
              case rel => exact ⟨i1, by omega, by omega, rfl, H5⟩
              case measure => have := HQ3.out; omega
          · obtain rfl : i = q := by omega
            have hltI : decide (((i + 1 : Nat) : Int) ≤ (i : Int)) = false := decide_eq_false (by omega)
            go_wp2
            go_meet
            exact HXi
      case rest =>
        clear HX
        obtain ⟨wv, rfl⟩ : ∃ wx : World, wx = wc := ⟨_, rfl⟩
        have H5 : Hid (FxAt K4 w wv p gx (ss q) (xs q)) := hcut
        obtain ⟨b1, b2, b3, b4⟩ := HBD.out q (Nat.le_refl _)
        have CS := fs_stamp tr w wv p _ H5.out.fk.fs nice_tr
        rw [HSQ.out, stamp_aa] at CS
        have C1 := Lib.hid CS
        have C2 : Hid (Calls Try.prog 9 #[.pointer (some ⟨gx, 0, none⟩), .pointer (some ⟨p, 0, none⟩)] wv fun e w' => e = .returned (.int .i64 1) ∧ Fs w w' p (ss q)) := Lib.hid (by
          have C := fxstep_any (xs q) H5.out KX.out.1 KX.out.2 (by rw [b3]; exact nice_lgT) (by rw [b4]; exact nice_lgL) (by omega) (by omega)
          have hs : (xs q).step (ss q) = (ss q, xs q, 1) := by
            unfold Fx.step
            rw [if_neg (by rw [HTD.out]; decide), HTD.out]
          rw [hs] at C
          exact C.mono fun e w' ⟨h1, h2, _⟩ => ⟨h1, h2.fk.fs⟩)
        clear CS b1 b2 b3 b4 hcut
        go_wp2_with fail
        refine C1.out.mono ?_
        rintro e w5 ⟨rfl, rfl⟩
        rw [show lk' (some (T', k')) = k' from rfl]
        go_wp2_with fail
        refine C2.out.mono ?_
        rintro e w6 ⟨rfl, h6⟩
        have H6 := Lib.hid h6
        have CS := fs_stamp tr w w6 p _ h6 nice_tr
        rw [HSQ.out, stamp_aa, show lk' (some (T', k')) = k' from rfl] at CS
        have C3 := Lib.hid CS
        have hkk : ((k' : Int) == (k' : Int)) = true := by simp
        have hkp : (0 : Int) < (k' : Int) := by have := HKZ.out; omega
        clear CS h6 C1 C2 H5
        go_wp2_with fail
        refine C3.out.mono ?_
        rintro e w7 ⟨rfl, rfl⟩
        go_wp2_with fail
        refine (lgawake_any w6).mono ?_
        rintro e w8 ⟨rfl, hb8⟩
        have HE := Lib.hid (H6.out.below.trans (hb8.mono H6.out.below.size))
        clear hb8 C3 H6
        go_wp2
        go_ret
        exact ⟨rfl, HE.out⟩
end Go.Proofs.Ytfheaognfocofaa
