/- LockSteps: each step does one file call at most; behind the last one nothing more is done; the statement's walk. -/
import Derived.Test.YtlopabmndliggaaDoorZLockStepsMath
import Derived.Test.YtlopabmndliggaaDoorZLockAwake
namespace Go.Proofs.YtlopabmndliggaaDoor
set_option maxRecDepth 100000
open Go.ChangeShapes Go.WideShapes Go.ChangeAt Go.RowKit Go.ChangeMaps
open Sf Lk

set_option maxRecDepth 100000 in
set_option maxHeartbeats 8000000 in
theorem steps_any (x : Int) (rm : Bool) (y : Int) (w : World) (hT : Pow w) : Calls Tryd.prog 6 #[.int .i64 x, .bool rm, .int .i64 y] w fun e w' => e = .returned (.bool true) ∧ Below w.heap.size w w' := by
  obtain ⟨kk, hk, hkl⟩ := lk_and x 3 (by omega)
  obtain ⟨m, hm, hml⟩ := lk_and y 65535 (by omega)
  have hk' : bits .and .i64 x 3 = (kk : Int) := hk
  have hm' : bits .and .i64 y 65535 = (m : Int) := hm
  have HT := Lib.hid hT
  have HN : Hid (kk ≤ 3 ∧ m ≤ 65535) := Lib.hid ⟨hkl, hml⟩
  have kc : ({ data := #[99, 108, 97, 105, 109, 47, 97] } : ByteArray) = str clm := rfl
  have hcv := fun (W : World) (C : Array Value) (n c : Nat) => Lib.run_convert_bytes_const (P := Tryd.prog) W 33 5 C n c Tryd.underlying33 Tryd.underlying5
  clear hT hk hm hkl hml
  go_enter Tryd.func6, Tryd.ntmps6
  go_wp2_with fail
  refine (fs_new 1000 w).mono ?_
  rintro e w1 ⟨p, rfl, h1⟩
  have H1 : Hid (Fk (fun _ => False) w w1 p (lkN 1000 0 (-1))) := Lib.hid h1.keep
  clear h1
  go_upto_block 0 with fail
  go_cut [] (fun wx => Hid (Fk (fun _ => False) w wx p (sA kk m)))
  case first =>
    have HPUT : Hid (∀ W v b, Fk (fun _ => False) w W p (lkN 1000 0 (-1)) → Bytes W v b → 0 < b.length → b.length ≤ 34 → Calls Tryd.prog 13 #[.pointer (some ⟨p, 0, none⟩), .string (str clm), v] W fun e w' => e = .returned (.tuple #[.int .i64 1, .int .i64 0]) ∧ Fk (fun _ => False) w w' p (lkO clm b 1 1000 1 (-1)) ∧ Kept (fun _ => False) W w') := Lib.hid fun W v b hf hb h0 hl => by
      have := fk_put clm b v hf nice_clm hb (by decide) (by rw [used_non]; omega)
      rw [putS_fit file_clm rfl h0 (by rw [used_non]; show ((0 : Nat) : Int) + b.length ≤ 1000; omega)] at this
      exact this
    obtain rfl | rfl | rfl | rfl : kk = 0 ∨ kk = 1 ∨ kk = 2 ∨ kk = 3 := by have := HN.out; omega
    · go_wp2
      go_meet
      exact H1
    · obtain ⟨z, hz⟩ : ∃ z, (m : Int) + 10 = z := ⟨_, rfl⟩
      have hw : IntKind.i64.wrap ((m : Int) + 10) = z := by rw [← hz]; exact IntWalk.i64_in _ (by have := HN.out; omega)
      have CL : Hid (∀ W, Calls Tryd.prog 10 #[lockV 5 1 7 z] W (Made W.heap.size (byK 1 m) W)) := Lib.hid fun W => reflock_is 5 1 7 z _ W (by rw [← hz]; rfl)
      clear hz
      go_wp2_with fail
      refine (CL.out w1).mono ?_
      rintro e w2 ⟨v2, rfl, ho2, hb2⟩
      have C3 := Lib.hid (HPUT.out w2 v2 (byK 1 m) (H1.out.under hb2) ho2.bytes (by show 0 < (Lo.bytes _).length; rw [Lo.bytes_len]; omega) len_byK)
      clear ho2 hb2
      go_wp2_with fail
      refine C3.out.mono ?_
      rintro e w3 ⟨rfl, h3, -⟩
      have H3 := Lib.hid h3
      clear h3
      go_wp2
      go_meet
      exact H3
    · have CL : Hid (∀ W, Calls Tryd.prog 10 #[lockV 5 1 7 (m : Int)] W (Made W.heap.size (byK 2 m) W)) := Lib.hid fun W => reflock_is 5 1 7 (m : Int) _ W rfl
      go_wp2_with fail
      refine (CL.out w1).mono ?_
      rintro e w2 ⟨v2, rfl, ho2, hb2⟩
      have C3 := Lib.hid (HPUT.out w2 v2 (byK 2 m) (H1.out.under hb2) ho2.bytes (by show 0 < (Lo.bytes _).length; rw [Lo.bytes_len]; omega) len_byK)
      clear ho2 hb2
      go_wp2_with fail
      refine C3.out.mono ?_
      rintro e w3 ⟨rfl, h3, -⟩
      have H3 := Lib.hid h3
      clear h3
      go_wp2
      go_meet
      exact H3
    · go_wp2_with fail
      refine (HPUT.out _ _ noL (H1.out.alloc _) (bytes_new w1 _ rfl noL _ _ (by decide) (by decide)) (by decide) (by decide)).mono ?_
      rintro e w3 ⟨rfl, h3, -⟩
      have H3 := Lib.hid h3
      clear h3
      go_wp2
      go_meet
      exact H3
  case rest =>
    have H2 := hcut
    clear hcut H1
    rename_i hKK
    refine hKK _ _ ?_
    apply wp_seq_k
    intro _ _
    go_cut [] (fun wx => Hid (Fk (fun _ => False) w wx p (sB kk m rm)))
    case first =>
      rcases rm with _ | _
      · have HB0 : Hid (used (sA kk m).l = (roomK kk false).toNat ∧ 0 ≤ roomK kk false ∧ { sA kk m with room := held ((used (sA kk m).l : Nat) : Int) } = sB kk m false) := Lib.hid (by
          obtain rfl | rfl | rfl | rfl : kk = 0 ∨ kk = 1 ∨ kk = 2 ∨ kk = 3 := by have := HN.out; omega
          · exact ⟨rfl, by decide, rfl⟩
          · have e : used (sA 1 m).l = 34 := by show used (lkO clm (byK 1 m) 1 1000 1 (-1)).l = 34; rw [used_one]; exact Lo.bytes_len _
            rw [e]
            exact ⟨rfl, by decide, rfl⟩
          · have e : used (sA 2 m).l = 34 := by show used (lkO clm (byK 2 m) 1 1000 1 (-1)).l = 34; rw [used_one]; exact Lo.bytes_len _
            rw [e]
            exact ⟨rfl, by decide, rfl⟩
          · exact ⟨rfl, by decide, rfl⟩)
        go_wp2_with fail
        refine (fs_used w wc p _ H2.out.fs).mono ?_
        rintro e w3 ⟨rfl, rfl⟩
        go_wp2_with fail
        refine (fk_room _ H2.out).mono ?_
        rintro e w4 ⟨rfl, h4, -⟩
        rw [HB0.out.2.2] at h4
        have H4 := Lib.hid h4
        clear h4
        go_wp2
        go_meet
        exact H4
      · have HB0 : Hid (sA kk m = sB kk m true) := Lib.hid (by
          obtain rfl | rfl | rfl | rfl : kk = 0 ∨ kk = 1 ∨ kk = 2 ∨ kk = 3 := by have := HN.out; omega
          all_goals rfl)
        rw [HB0.out] at H2
        go_wp2
        go_meet
        exact H2
    case rest =>
      have H3 := hcut
      clear hcut H2 hKK
      rename_i hKK
      refine hKK _ _ ?_
      apply wp_seq_k
      intro _ _
      go_cut [8] (fun s8 wx => s8 = .int .i64 (wantK kk : Int) ∧ Hid (Fk (fun _ => False) w wx p (sB kk m rm)))
      case first =>
        have H4 := fun o => H3.out.alloc o
        obtain rfl | rfl | rfl | rfl : kk = 0 ∨ kk = 1 ∨ kk = 2 ∨ kk = 3 := by have := HN.out; omega
        · go_wp2
          go_meet
          exact ⟨rfl, Lib.hid (H4 _)⟩
        · go_wp2
          go_meet
          exact ⟨rfl, Lib.hid (H4 _)⟩
        · go_wp2
          go_meet
          exact ⟨rfl, Lib.hid (H4 _)⟩
        · go_wp2
          go_meet
          exact ⟨rfl, Lib.hid (H4 _)⟩
      case rest =>
        obtain ⟨rfl, H4⟩ := hcut
        clear H3 hKK
        rename_i hKK
        refine hKK _ _ ?_
        apply wp_seq_k
        intro _ _
        go_cut [9] (fun s9 wx => s9 = .int .i64 (stepsK kk : Int) ∧ Hid (Fk (fun _ => False) w wx p (sB kk m rm)))
        case first =>
          have H5 := fun o => H4.out.alloc o
          obtain rfl | rfl | rfl | rfl : kk = 0 ∨ kk = 1 ∨ kk = 2 ∨ kk = 3 := by have := HN.out; omega
          · go_wp2
            go_meet
            exact ⟨rfl, Lib.hid (H5 _)⟩
          · go_wp2
            go_meet
            exact ⟨rfl, Lib.hid (H5 _)⟩
          · go_wp2
            go_meet
            exact ⟨rfl, Lib.hid (H5 _)⟩
          · go_wp2
            go_meet
            exact ⟨rfl, Lib.hid (H5 _)⟩
        case rest =>
          obtain ⟨rfl, H5⟩ := hcut
          clear H4 hKK
          rename_i hKK
          refine hKK _ _ ?_
          apply wp_seq_k
          intro _ _
          go_cut [8, 9] (fun s8 s9 wx => s8 = .int .i64 (wantB kk rm : Int) ∧ s9 = .int .i64 (stepsB kk rm : Int) ∧ Hid (Fk (fun _ => False) w wx p (sB kk m rm)))
          case first =>
            rcases rm with _ | _
            · by_cases hw1 : wantK kk = 1
              · have e1 : wantB kk false = 4 := if_pos ⟨rfl, hw1⟩
                have e2 : stepsB kk false = 2 := if_pos ⟨rfl, hw1⟩
                have hwI : ((wantK kk : Int) == 1) = true := by rw [hw1]; rfl
                clear hw1
                go_wp2
                go_meet
                exact ⟨by rw [e1]; rfl, by rw [e2]; rfl, H5⟩
              · have e1 : wantB kk false = wantK kk := if_neg (fun h => hw1 h.2)
                have e2 : stepsB kk false = stepsK kk := if_neg (fun h => hw1 h.2)
                have hwI : ((wantK kk : Int) == 1) = false := by simp; omega
                clear hw1
                go_wp2
                go_meet
                exact ⟨by rw [e1], by rw [e2], H5⟩
            · have e1 : wantB kk true = wantK kk := if_neg (fun h => by cases h.1)
              have e2 : stepsB kk true = stepsK kk := if_neg (fun h => by cases h.1)
              go_wp2
              go_meet
              exact ⟨by rw [e1], by rw [e2], H5⟩
          case rest =>
            obtain ⟨rfl, rfl, H6⟩ := hcut
            clear H5 hKK
            obtain ⟨t', hru, hfi, hte, hle, hto, hhe⟩ := steps_runs kk m HN.out.1 HN.out.2 rm
            have HRU := Lib.hid hru
            have HTF : Hid (t'.sw.file = clm ∧ t'.sw.temp = tmp9 ∧ t'.lease = 50 ∧ t'.sw.told = wantB kk rm ∧ t'.sw.held = endO kk m rm) := Lib.hid ⟨hfi, hte, hle, hto, hhe⟩
            have HST : Hid (stepsB kk rm ≤ 3) := Lib.hid (by
              unfold stepsB
              split
              · omega
              · obtain rfl | rfl | rfl | rfl : kk = 0 ∨ kk = 1 ∨ kk = 2 ∨ kk = 3 := by have := HN.out; omega
                all_goals decide)
            obtain ⟨N, hNN⟩ : ∃ N, stepsB kk rm = N := ⟨_, rfl⟩
            obtain ⟨Q, hQQ⟩ : ∃ Q, wantB kk rm = Q := ⟨_, rfl⟩
            rw [hNN] at HRU HST ⊢
            rw [hQQ] at HRU HTF ⊢
            have HQQ := Lib.hid hQQ
            clear hru hfi hte hle hto hhe hNN hQQ
            rename_i hKK
            refine hKK _ _ ?_
            clear hKK
            go_wp2_with fail
            have C7 := Lib.hid (tknew_any clm 2 3 9 50 wc (HT.out.under H6.out.fs.below))
            refine C7.out.mono ?_
            rintro e w7 ⟨g, rfl, hg, hx, hb7⟩
            obtain ⟨K7, h7, m7, -⟩ := H6.out.add hb7 hg (Blk.size hx)
            have H7 := Lib.hid h7
            have M7 := Lib.hid m7
            have X7 : Hid (TkBlk w7 g bg) := Lib.hid hx
            have Z7 : Hid (w.heap.size ≤ g) := Lib.hid (by have := H6.out.fs.below.size; omega)
            clear hg hx hb7 h7 m7 H6 C7
            have hN0 : 0 < N := runs_pos HRU.out
            have HQ0 : Hid (Q ≠ 0) := Lib.hid (runs_ne N HRU.out)
            go_wp2_with fail
            go_loopg [11] N (fun gg iv wr => ∃ (k j : Nat) (sk : S) (tk : Tk), k ≤ N ∧ N - k ≤ gg ∧ k + 1 = j ∧ iv = .int .i64 (j : Int) ∧ Hid ((k < N ∧ Runs (N - k) sk tk m (endS kk m rm) t' Q) ∨ (k = N ∧ sk = endS kk m rm ∧ tk = t')) ∧ Hid (Fk K7 w wr p sk) ∧ Hid (TkBlk wr g tk) ∧ Hid (used sk.l ≤ 34 + 34 * k ∧ sk.next ≤ 1 + k) ∧ Hid (tk.sw.file = clm ∧ tk.sw.temp = tmp9 ∧ tk.lease = 50))
            case atStart => exact ⟨0, 1, sB kk m rm, bg, by omega, by omega, rfl, rfl, Lib.hid (.inl ⟨hN0, HRU.out⟩), H7, X7, Lib.hid (by have := used_sB kk m rm; omega), Lib.hid ⟨rfl, rfl, rfl⟩⟩
            case round =>
              obtain ⟨k, j, sk, tk, hk, hgg, hj, rfl, HR, HF, HX, HU, HT3⟩ := hrel
              obtain ⟨wz, rfl⟩ : ∃ wx : World, wx = wr := ⟨_, rfl⟩
              have hgr := step_grows HF.out.fs.good.1 tk (m : Int)
              by_cases hlt : k < N
              · have hjN : (j : Int) ≤ (N : Int) := by omega
                have C := Lib.hid (tkstep_any tk (m : Int) HF.out M7.out Z7.out HX.out (by rw [HT3.out.1]; exact nice_clm) (by rw [HT3.out.2.1]; exact nice_tmp9) (by have := HU.out; have := HST.out; omega) (by have := HU.out; have := HST.out; omega) (by rw [HT3.out.2.2]; omega))
                have HU2 : Hid (used (tk.step sk m).1.l ≤ 34 + 34 * (k + 1) ∧ (tk.step sk m).1.next ≤ 1 + (k + 1)) := Lib.hid ⟨by have := hgr.1.1; have := HU.out; omega, by have := hgr.1.2; have := HU.out; omega⟩
                have HT4 : Hid ((tk.step sk m).2.1.sw.file = clm ∧ (tk.step sk m).2.1.sw.temp = tmp9 ∧ (tk.step sk m).2.1.lease = 50) := Lib.hid (by rw [hgr.2.1, hgr.2.2.1, hgr.2.2.2]; exact HT3.out)
                clear hgr
                have hru : Runs (N - k) sk tk m (endS kk m rm) t' Q := by
                  rcases HR.out with h | h
                  · exact h.2
                  · omega
                rcases runs_next hru with ⟨e1, e2, e3⟩ | ⟨s1, t1, e1, e2, e3⟩
                · rw [e2] at C HU2 HT4
                  have hb1 : decide ((j : Int) < (N : Int)) = false := decide_eq_false (by omega)
                  have hb1n : decide (j < N) = false := decide_eq_false (by omega)
                  have hjb : (j : Int) + 1 ≤ 1099511627776 := by have := HST.out; omega
                  have hb2 : ((j : Int) == (N : Int)) = true := by simp; omega
                  have hb3 : ((Q : Int) != (Q : Int)) = false := by simp
                  have hkN : Hid (k + 1 = N) := Lib.hid (by omega)
                  clear hru e1 e2 e3 HR
                  go_wp2_with fail
                  refine C.out.mono ?_
                  rintro e w8 ⟨rfl, h8, x8, -⟩
                  have H8 := Lib.hid h8
                  have X8 := Lib.hid x8
                  clear h8 x8 C HF HX
                  go_wp2_with fail
                  go_roundg (N - (k + 1))
                  case rel => exact ⟨k + 1, j + 1, endS kk m rm, t', by omega, by omega, by omega, by go_num, Lib.hid (.inr ⟨hkN.out, rfl, rfl⟩), H8, X8, HU2, HT4⟩
                  case measure => omega
                · rw [e2] at C HU2 HT4
                  have hb1 : (j : Int) < (N : Int) := by omega
                  have hjb : (j : Int) + 1 ≤ 1099511627776 := by have := HST.out; omega
                  have hb2 : ((j : Int) == (N : Int)) = false := by simp; omega
                  have HR2 := Lib.hid e3
                  clear hru e2 e3 HR
                  go_wp2_with fail
                  refine C.out.mono ?_
                  rintro e w8 ⟨rfl, h8, x8, -⟩
                  have H8 := Lib.hid h8
                  have X8 := Lib.hid x8
                  clear h8 x8 C HF HX
                  go_wp2_with fail
                  go_roundg (N - (k + 1))
                  case rel => exact ⟨k + 1, j + 1, s1, t1, by omega, by omega, by omega, by go_num, Lib.hid (.inl ⟨by omega, by rw [show N - (k + 1) = N - k - 1 by omega]; exact HR2.out⟩), H8, X8, HU2, HT4⟩
                  case measure => omega
              · have hjN : decide ((j : Int) ≤ (N : Int)) = false := decide_eq_false (by omega)
                obtain ⟨rfl, rfl⟩ : sk = endS kk m rm ∧ tk = t' := by
                  rcases HR.out with h | h
                  · omega
                  · exact h.2
                clear HR hgr
                have HUS : Hid (used (endS kk m rm).l ≤ 1000 ∧ (endS kk m rm).next ≤ 10) := Lib.hid (used_endS kk m rm)
                obtain ⟨U, hUU⟩ : ∃ U, used (endS kk m rm).l = U := ⟨_, rfl⟩
                obtain ⟨ST, hSS⟩ : ∃ U, stamp (endS kk m rm).l clm = U := ⟨_, rfl⟩
                have CU : Hid (∀ W, Fk K7 w W p (endS kk m rm) → Calls Tryd.prog 15 #[.pointer (some ⟨p, 0, none⟩)] W fun e w' => e = .returned (.int .i64 (U : Int)) ∧ W = w') := Lib.hid fun W h => by rw [← hUU]; exact fs_used w W p _ h.fs
                have CS : Hid (∀ W, Fk K7 w W p (endS kk m rm) → Calls Tryd.prog 18 #[.pointer (some ⟨p, 0, none⟩), .string (str clm)] W fun e w' => e = .returned (.int .i64 (ST : Int)) ∧ W = w') := Lib.hid fun W h => by rw [← hSS]; exact fs_stamp clm w W p _ h.fs nice_clm
                have CT : Hid (∀ W z, Fk K7 w W p (endS kk m rm) → TkBlk W g tk → Calls Tryd.prog 17 #[.pointer (some ⟨g, 0, none⟩), .pointer (some ⟨p, 0, none⟩), .int .i64 z] W fun e w' => e = .returned (.int .i64 (Q : Int)) ∧ Fk K7 w w' p (endS kk m rm) ∧ TkBlk w' g tk ∧ Kept (fun k => K7 k ∧ k ≠ g) W w') := Lib.hid fun W z h hx => by
                  have hq : tk.sw.told = Q := HTF.out.2.2.2.1
                  exact tk_to (by rw [tk_again (by rw [hq]; exact HQ0.out), hq]) h M7.out Z7.out hx (by rw [HT3.out.1]; exact nice_clm) (by rw [HT3.out.2.1]; exact nice_tmp9) (by have := HUS.out; omega) (by have := HUS.out; omega) (by rw [HT3.out.2.2]; omega)
                have hQQ1 : ((Q : Int) != (Q : Int)) = false := by simp
                clear hUU hSS
                go_wp2_with fail
                refine (CU.out _ HF.out).mono ?_
                rintro e w8 ⟨rfl, rfl⟩
                go_wp2_with fail
                refine (CS.out _ HF.out).mono ?_
                rintro e w9 ⟨rfl, rfl⟩
                go_wp2_with fail
                refine (CT.out _ _ HF.out HX.out).mono ?_
                rintro e w10 ⟨rfl, h10, x10, -⟩
                have H10 := Lib.hid h10
                have X10 := Lib.hid x10
                clear h10 x10 HF HX
                go_wp2_with fail
                refine (CU.out _ H10.out).mono ?_
                rintro e w11 ⟨rfl, rfl⟩
                go_wp2_with fail
                refine (CS.out _ H10.out).mono ?_
                rintro e w12 ⟨rfl, rfl⟩
                obtain ⟨f, kh, ⟨a, b, c, d⟩, q, hp⟩ := heldV_parts tk.sw.file tk.sw.held
                have CH : Hid (Calls Tryd.prog 19 #[.pointer (some ⟨g, 0, none⟩)] w10 fun e w' => e = .returned (.tuple #[guardV f kh, loV ⟨a, b, c, d⟩, .bool q]) ∧ Below w10.heap.size w10 w') := Lib.hid (by rw [← hp]; exact tkheld_any tk X10.out)
                have HP : Hid (heldV clm (endO kk m rm) = .tuple #[guardV f kh, loV ⟨a, b, c, d⟩, .bool q]) := Lib.hid (by rw [← hp, HTF.out.1, HTF.out.2.2.2.2])
                clear hp
                go_wp2_with fail
                refine CH.out.mono ?_
                rintro e w13 ⟨rfl, hb13⟩
                have H13 := Lib.hid (H10.out.under hb13)
                clear hb13 CH H10
                have HZ : Hid ((m : Int) + 50 = (m : Int) + 50) := Lib.hid rfl
                by_cases hc0 : rm = true ∧ kk = 0
                · as_aux_lemma =>
                  obtain ⟨rfl, rfl⟩ := hc0
                  have hE := HP.out
                  rw [show endO 0 m true = some (1, ⟨2, 3, 1, (m : Int) + 50⟩) from rfl] at hE
                  obtain ⟨rfl, hl⟩ := heldV_some hE
                  injection hl with e1 e2 e3 e4
                  subst e1 e2 e3
                  have hQ1 : Q = 1 := by rw [← HQQ.out]; rfl
                  subst hQ1
                  have hwd : IntKind.i64.wrap ((m : Int) + 50) = d := by rw [e4]; exact IntWalk.i64_in _ (by have := HN.out; omega)
                  clear hE e4
                  go_upto_region 31 with fail
                  obtain ⟨w14, qg, ql, K14, hw14, hqg, hql, h14, m14, m15, -, b14, b15, bb14⟩ := H13.out.boxes #[.string (str f), .int .i64 kh] #[.int .i64 2, .int .i64 3, .int .i64 1, .int .i64 d]
                  rw [hw14, hql, hqg]
                  have HB14 : Hid (Below w.heap.size w w14) := Lib.hid h14.fs.below
                  have HSB : Hid (∀ W, Below w14.heap.size w14 W → W.cell? ⟨ql, 0, none⟩ = some (.int .i64 2) ∧ W.cell? ⟨ql, 1, none⟩ = some (.int .i64 3) ∧ W.cell? ⟨ql, 2, none⟩ = some (.int .i64 1) ∧ W.cell? ⟨ql, 3, none⟩ = some (.int .i64 d)) := Lib.hid fun W hb => ⟨(b15.under hb).at 0, (b15.under hb).at 1, (b15.under hb).at 2, (b15.under hb).at 3⟩
                  clear hw14 hql hqg h14 m14 m15 b14 b15 bb14 H13
                  have HBX : Hid (Below w.heap.size w (w14.drew.alloc (.cells #[.int .i64 1, .int .i64 0, .int .i64 8, .int .i64 0] 3))) := Lib.hid (HB14.out.drew.alloc HB14.out.size _)
                  refine wp_region_noPanic ?_
                  refine wp_region_held_drew (S := fun W => W.cell? ⟨ql, 0, none⟩ = some (.int .i64 2) ∧ W.cell? ⟨ql, 1, none⟩ = some (.int .i64 3) ∧ W.cell? ⟨ql, 2, none⟩ = some (.int .i64 1) ∧ W.cell? ⟨ql, 3, none⟩ = some (.int .i64 d)) (by kernel_rfl) (HSB.out _ (Below.refl _ _).drew) (fun hHeld => ?_)
                  refine takeW 0 (some 126) (oi := ?oT1) (v := ?vT1) ?hiT1 ?hdT1 (by kernel_rfl) (by kernel_rfl) (by kernel_rfl) (fun _ _ _ h => h) ?hwT1 ?hyT1 hHeld ?_
                  case hiT1 => (simp only [List.getElem?_toArray, List.getElem?_cons_zero]; with_reducible rfl)
                  case hdT1 => rfl
                  case hwT1 => rfl
                  case hyT1 => (intro w hSw; (try dsimp only at hSw); go_simp; first | done | with_reducible rfl)
                  try simp only [Act.put]
                  try simp only [List.setIfInBounds_toArray, List.set_cons_zero, List.set_cons_succ]
                  refine takeW 1 (some 127) (oi := ?oT2) (v := ?vT2) ?hiT2 ?hdT2 (by kernel_rfl) (by kernel_rfl) (by kernel_rfl) (fun _ _ _ h => h) ?hwT2 ?hyT2 hHeld ?_
                  case hiT2 => (simp only [List.getElem?_toArray, List.getElem?_cons_succ, List.getElem?_cons_zero]; with_reducible rfl)
                  case hdT2 => rfl
                  case hwT2 => rfl
                  case hyT2 => (intro w hSw; (try dsimp only at hSw); go_simp; first | done | with_reducible rfl)
                  try simp only [Act.put]
                  try simp only [List.setIfInBounds_toArray, List.set_cons_zero, List.set_cons_succ]
                  refine takeW 2 (some 128) (oi := ?oT3) (v := ?vT3) ?hiT3 ?hdT3 (by kernel_rfl) (by kernel_rfl) (by kernel_rfl) (fun _ _ _ h => h) ?hwT3 ?hyT3 hHeld ?_
                  case hiT3 => (simp only [List.getElem?_toArray, List.getElem?_cons_succ, List.getElem?_cons_zero]; with_reducible rfl)
                  case hdT3 => rfl
                  case hwT3 => rfl
                  case hyT3 => (intro w hSw; (try dsimp only at hSw); go_simp; first | done | with_reducible rfl)
                  try simp only [Act.put]
                  try simp only [List.setIfInBounds_toArray, List.set_cons_zero, List.set_cons_succ]
                  refine takeW 3 (some 129) (oi := ?oT4) (v := ?vT4) ?hiT4 ?hdT4 (by kernel_rfl) (by kernel_rfl) (by kernel_rfl) (fun _ _ _ h => h) ?hwT4 ?hyT4 hHeld ?_
                  case hiT4 => (simp only [List.getElem?_toArray, List.getElem?_cons_succ, List.getElem?_cons_zero]; with_reducible rfl)
                  case hdT4 => rfl
                  case hwT4 => rfl
                  case hyT4 => (intro w hSw; (try dsimp only at hSw); go_simp; first | done | with_reducible rfl)
                  try simp only [Act.put]
                  try simp only [List.setIfInBounds_toArray, List.set_cons_zero, List.set_cons_succ]
                  refine takeW 4 (some 130) (oi := ?oT5) (v := ?vT5) ?hiT5 ?hdT5 (by kernel_rfl) (by kernel_rfl) (by kernel_rfl) (fun _ _ _ h => h) ?hwT5 ?hyT5 hHeld ?_
                  case hiT5 => (simp only [List.getElem?_toArray, List.getElem?_cons_succ, List.getElem?_cons_zero]; with_reducible rfl)
                  case hdT5 => rfl
                  case hwT5 => rfl
                  case hyT5 => (intro w hSw; (try dsimp only at hSw); go_simp; first | done | with_reducible rfl)
                  try simp only [Act.put]
                  try simp only [List.setIfInBounds_toArray, List.set_cons_zero, List.set_cons_succ]
                  refine takeW 5 (some 131) (oi := ?oT6) (v := ?vT6) ?hiT6 ?hdT6 (by kernel_rfl) (by kernel_rfl) (by kernel_rfl) (fun _ _ _ h => h) ?hwT6 ?hyT6 hHeld ?_
                  case hiT6 => (simp only [List.getElem?_toArray, List.getElem?_cons_succ, List.getElem?_cons_zero]; with_reducible rfl)
                  case hdT6 => rfl
                  case hwT6 => rfl
                  case hyT6 => (intro w hSw; (try dsimp only at hSw); go_simp; first | done | with_reducible rfl)
                  try simp only [Act.put]
                  try simp only [List.setIfInBounds_toArray, List.set_cons_zero, List.set_cons_succ]
                  refine takeW 6 (some 132) (oi := ?oT7) (v := ?vT7) ?hiT7 ?hdT7 (by kernel_rfl) (by kernel_rfl) (by kernel_rfl) (fun _ _ _ h => h) ?hwT7 ?hyT7 hHeld ?_
                  case hiT7 => (simp only [List.getElem?_toArray, List.getElem?_cons_succ, List.getElem?_cons_zero]; with_reducible rfl)
                  case hdT7 => rfl
                  case hwT7 => rfl
                  case hyT7 => (intro w hSw; (try dsimp only at hSw); go_simp; first | done | with_reducible rfl)
                  try simp only [Act.put]
                  try simp only [List.setIfInBounds_toArray, List.set_cons_zero, List.set_cons_succ]
                  refine takeW 7 (some 133) (oi := ?oT8) (v := ?vT8) ?hiT8 ?hdT8 (by kernel_rfl) (by kernel_rfl) (by kernel_rfl) (fun _ _ _ h => h) ?hwT8 ?hyT8 hHeld ?_
                  case hiT8 => (simp only [List.getElem?_toArray, List.getElem?_cons_succ, List.getElem?_cons_zero]; with_reducible rfl)
                  case hdT8 => rfl
                  case hwT8 => rfl
                  case hyT8 => (intro w hSw; (try dsimp only at hSw); go_simp; first | done | with_reducible rfl)
                  try simp only [Act.put]
                  try simp only [List.setIfInBounds_toArray, List.set_cons_zero, List.set_cons_succ]
                  refine takeW 8 (some 134) (oi := ?oT9) (v := ?vT9) ?hiT9 ?hdT9 (by kernel_rfl) (by kernel_rfl) (by kernel_rfl) (fun _ _ _ h => h) ?hwT9 ?hyT9 hHeld ?_
                  case hiT9 => (simp only [List.getElem?_toArray, List.getElem?_cons_succ, List.getElem?_cons_zero]; with_reducible rfl)
                  case hdT9 => rfl
                  case hwT9 => rfl
                  case hyT9 => (intro w hSw; (try dsimp only at hSw); go_simp; first | done | with_reducible rfl)
                  try simp only [Act.put]
                  try simp only [List.setIfInBounds_toArray, List.set_cons_zero, List.set_cons_succ]
                  refine takeW 9 (some 135) (oi := ?oT10) (v := ?vT10) ?hiT10 ?hdT10 (by kernel_rfl) (by kernel_rfl) (by kernel_rfl) (fun _ _ _ h => h) ?hwT10 ?hyT10 hHeld ?_
                  case hiT10 => (simp only [List.getElem?_toArray, List.getElem?_cons_succ, List.getElem?_cons_zero]; with_reducible rfl)
                  case hdT10 => rfl
                  case hwT10 => rfl
                  case hyT10 => (intro w hSw; (try dsimp only at hSw); go_simp; first | done | with_reducible rfl)
                  try simp only [Act.put]
                  try simp only [List.setIfInBounds_toArray, List.set_cons_zero, List.set_cons_succ]
                  refine takeW 10 (some 136) (oi := ?oT11) (v := ?vT11) ?hiT11 ?hdT11 (by kernel_rfl) (by kernel_rfl) (by kernel_rfl) (fun _ _ _ h => h) ?hwT11 ?hyT11 hHeld ?_
                  case hiT11 => (simp only [List.getElem?_toArray, List.getElem?_cons_succ, List.getElem?_cons_zero]; with_reducible rfl)
                  case hdT11 => rfl
                  case hwT11 => rfl
                  case hyT11 => (intro w hSw; (try dsimp only at hSw); go_simp; first | done | with_reducible rfl)
                  try simp only [Act.put]
                  try simp only [List.setIfInBounds_toArray, List.set_cons_zero, List.set_cons_succ]
                  refine takeW 11 (some 137) (oi := ?oT12) (v := ?vT12) ?hiT12 ?hdT12 (by kernel_rfl) (by kernel_rfl) (by kernel_rfl) (fun _ _ _ h => h) ?hwT12 ?hyT12 hHeld ?_
                  case hiT12 => (simp only [List.getElem?_toArray, List.getElem?_cons_succ, List.getElem?_cons_zero]; with_reducible rfl)
                  case hdT12 => rfl
                  case hwT12 => rfl
                  case hyT12 => (intro w hSw; (try dsimp only at hSw); go_simp; first | done | with_reducible rfl)
                  try simp only [Act.put]
                  try simp only [List.setIfInBounds_toArray, List.set_cons_zero, List.set_cons_succ]
                  refine takeW 12 (some 138) (oi := ?oT13) (v := ?vT13) ?hiT13 ?hdT13 (by kernel_rfl) (by kernel_rfl) (by kernel_rfl) (fun _ _ _ h => h) ?hwT13 ?hyT13 hHeld ?_
                  case hiT13 => (simp only [List.getElem?_toArray, List.getElem?_cons_succ, List.getElem?_cons_zero]; with_reducible rfl)
                  case hdT13 => rfl
                  case hwT13 => rfl
                  case hyT13 => (intro w hSw; (try dsimp only at hSw); go_simp; first | done | with_reducible rfl)
                  try simp only [Act.put]
                  try simp only [List.setIfInBounds_toArray, List.set_cons_zero, List.set_cons_succ]
                  refine takeW 13 (some 139) (oi := ?oT14) (v := ?vT14) ?hiT14 ?hdT14 (by kernel_rfl) (by kernel_rfl) (by kernel_rfl) (fun _ _ _ h => h) ?hwT14 ?hyT14 hHeld ?_
                  case hiT14 => (simp only [List.getElem?_toArray, List.getElem?_cons_succ, List.getElem?_cons_zero]; with_reducible rfl)
                  case hdT14 => rfl
                  case hwT14 => rfl
                  case hyT14 => (intro w hSw; (try dsimp only at hSw); go_simp; first | done | with_reducible rfl)
                  try simp only [Act.put]
                  try simp only [List.setIfInBounds_toArray, List.set_cons_zero, List.set_cons_succ]
                  refine takeW 14 (some 140) (oi := ?oT15) (v := ?vT15) ?hiT15 ?hdT15 (by kernel_rfl) (by kernel_rfl) (by kernel_rfl) (fun _ _ _ h => h) ?hwT15 ?hyT15 hHeld ?_
                  case hiT15 => (simp only [List.getElem?_toArray, List.getElem?_cons_succ, List.getElem?_cons_zero]; with_reducible rfl)
                  case hdT15 => rfl
                  case hwT15 => rfl
                  case hyT15 => (intro w hSw; (try dsimp only at hSw); go_simp; first | done | with_reducible rfl)
                  try simp only [Act.put]
                  try simp only [List.setIfInBounds_toArray, List.set_cons_zero, List.set_cons_succ]
                  refine takeW 15 (some 141) (oi := ?oT16) (v := ?vT16) ?hiT16 ?hdT16 (by kernel_rfl) (by kernel_rfl) (by kernel_rfl) (fun _ _ _ h => h) ?hwT16 ?hyT16 hHeld ?_
                  case hiT16 => (simp only [List.getElem?_toArray, List.getElem?_cons_succ, List.getElem?_cons_zero]; with_reducible rfl)
                  case hdT16 => rfl
                  case hwT16 => rfl
                  case hyT16 => (intro w hSw; (try dsimp only at hSw); go_simp; first | done | with_reducible rfl)
                  try simp only [Act.put]
                  try simp only [List.setIfInBounds_toArray, List.set_cons_zero, List.set_cons_succ]
                  refine takeW 16 (some 142) (oi := ?oT17) (v := ?vT17) ?hiT17 ?hdT17 (by kernel_rfl) (by kernel_rfl) (by kernel_rfl) (fun _ _ _ h => h) ?hwT17 ?hyT17 hHeld ?_
                  case hiT17 => (simp only [List.getElem?_toArray, List.getElem?_cons_succ, List.getElem?_cons_zero]; with_reducible rfl)
                  case hdT17 => rfl
                  case hwT17 => rfl
                  case hyT17 => (intro w hSw; (try dsimp only at hSw); go_simp; first | done | with_reducible rfl)
                  try simp only [Act.put]
                  try simp only [List.setIfInBounds_toArray, List.set_cons_zero, List.set_cons_succ]
                  refine takeW 17 (some 143) (oi := ?oT18) (v := ?vT18) ?hiT18 ?hdT18 (by kernel_rfl) (by kernel_rfl) (by kernel_rfl) (fun _ _ _ h => h) ?hwT18 ?hyT18 hHeld ?_
                  case hiT18 => (simp only [List.getElem?_toArray, List.getElem?_cons_succ, List.getElem?_cons_zero]; with_reducible rfl)
                  case hdT18 => rfl
                  case hwT18 => rfl
                  case hyT18 => (intro w hSw; (try dsimp only at hSw); go_simp; first | done | with_reducible rfl)
                  try simp only [Act.put]
                  try simp only [List.setIfInBounds_toArray, List.set_cons_zero, List.set_cons_succ]
                  refine takeW 18 (some 144) (oi := ?oT19) (v := ?vT19) ?hiT19 ?hdT19 (by kernel_rfl) (by kernel_rfl) (by kernel_rfl) (fun _ _ _ h => h) ?hwT19 ?hyT19 hHeld ?_
                  case hiT19 => (simp only [List.getElem?_toArray, List.getElem?_cons_succ, List.getElem?_cons_zero]; with_reducible rfl)
                  case hdT19 => rfl
                  case hwT19 => rfl
                  case hyT19 => (intro w hSw; (try dsimp only at hSw); go_simp; first | done | with_reducible rfl)
                  try simp only [Act.put]
                  try simp only [List.setIfInBounds_toArray, List.set_cons_zero, List.set_cons_succ]
                  refine takeW 19 (some 145) (oi := ?oT20) (v := ?vT20) ?hiT20 ?hdT20 (by kernel_rfl) (by kernel_rfl) (by kernel_rfl) (fun _ _ _ h => h) ?hwT20 ?hyT20 hHeld ?_
                  case hiT20 => (simp only [List.getElem?_toArray, List.getElem?_cons_succ, List.getElem?_cons_zero]; with_reducible rfl)
                  case hdT20 => rfl
                  case hwT20 => rfl
                  case hyT20 => (intro w hSw; (try dsimp only at hSw); go_simp; first | done | with_reducible rfl)
                  try simp only [Act.put]
                  try simp only [List.setIfInBounds_toArray, List.set_cons_zero, List.set_cons_succ]
                  refine takeW 20 (some 146) (oi := ?oT21) (v := ?vT21) ?hiT21 ?hdT21 (by kernel_rfl) (by kernel_rfl) (by kernel_rfl) (fun _ _ _ h => h) ?hwT21 ?hyT21 hHeld ?_
                  case hiT21 => (simp only [List.getElem?_toArray, List.getElem?_cons_succ, List.getElem?_cons_zero]; with_reducible rfl)
                  case hdT21 => rfl
                  case hwT21 => rfl
                  case hyT21 => (intro w hSw; (try dsimp only at hSw); go_simp; first | done | with_reducible rfl)
                  try simp only [Act.put]
                  try simp only [List.setIfInBounds_toArray, List.set_cons_zero, List.set_cons_succ]
                  refine takeW 21 (some 147) (oi := ?oT22) (v := ?vT22) ?hiT22 ?hdT22 (by kernel_rfl) (by kernel_rfl) (by kernel_rfl) (fun _ _ _ h => h) ?hwT22 ?hyT22 hHeld ?_
                  case hiT22 => (simp only [List.getElem?_toArray, List.getElem?_cons_succ, List.getElem?_cons_zero]; with_reducible rfl)
                  case hdT22 => rfl
                  case hwT22 => rfl
                  case hyT22 => (intro w hSw; (try dsimp only at hSw); go_simp; first | done | with_reducible rfl)
                  try simp only [Act.put]
                  try simp only [List.setIfInBounds_toArray, List.set_cons_zero, List.set_cons_succ]
                  refine takeW 22 (some 148) (oi := ?oT23) (v := ?vT23) ?hiT23 ?hdT23 (by kernel_rfl) (by kernel_rfl) (by kernel_rfl) (fun _ _ _ h => h) ?hwT23 ?hyT23 hHeld ?_
                  case hiT23 => (simp only [List.getElem?_toArray, List.getElem?_cons_succ, List.getElem?_cons_zero]; with_reducible rfl)
                  case hdT23 => rfl
                  case hwT23 => rfl
                  case hyT23 => (intro w hSw; (try dsimp only at hSw); go_simp; first | done | with_reducible rfl)
                  try simp only [Act.put]
                  try simp only [List.setIfInBounds_toArray, List.set_cons_zero, List.set_cons_succ]
                  refine takeW 23 (some 149) (oi := ?oT24) (v := ?vT24) ?hiT24 ?hdT24 (by kernel_rfl) (by kernel_rfl) (by kernel_rfl) (fun _ _ _ h => h) ?hwT24 ?hyT24 hHeld ?_
                  case hiT24 => (simp only [List.getElem?_toArray, List.getElem?_cons_succ, List.getElem?_cons_zero]; with_reducible rfl)
                  case hdT24 => rfl
                  case hwT24 => rfl
                  case hyT24 => (intro w hSw; (try dsimp only at hSw); go_simp; first | done | with_reducible rfl)
                  try simp only [Act.put]
                  try simp only [List.setIfInBounds_toArray, List.set_cons_zero, List.set_cons_succ]
                  refine takeW 24 (some 150) (oi := ?oT25) (v := ?vT25) ?hiT25 ?hdT25 (by kernel_rfl) (by kernel_rfl) (by kernel_rfl) (fun _ _ _ h => h) ?hwT25 ?hyT25 hHeld ?_
                  case hiT25 => (simp only [List.getElem?_toArray, List.getElem?_cons_succ, List.getElem?_cons_zero]; with_reducible rfl)
                  case hdT25 => rfl
                  case hwT25 => rfl
                  case hyT25 => (intro w hSw; (try dsimp only at hSw); go_simp; first | done | with_reducible rfl)
                  try simp only [Act.put]
                  try simp only [List.setIfInBounds_toArray, List.set_cons_zero, List.set_cons_succ]
                  refine takeW 25 (some 151) (oi := ?oT26) (v := ?vT26) ?hiT26 ?hdT26 (by kernel_rfl) (by kernel_rfl) (by kernel_rfl) (fun _ _ _ h => h) ?hwT26 ?hyT26 hHeld ?_
                  case hiT26 => (simp only [List.getElem?_toArray, List.getElem?_cons_succ, List.getElem?_cons_zero]; with_reducible rfl)
                  case hdT26 => rfl
                  case hwT26 => rfl
                  case hyT26 => (intro w hSw; (try dsimp only at hSw); go_simp; first | done | with_reducible rfl)
                  try simp only [Act.put]
                  try simp only [List.setIfInBounds_toArray, List.set_cons_zero, List.set_cons_succ]
                  refine takeW 27 (some 153) (oi := ?oT27) (v := ?vT27) ?hiT27 ?hdT27 (by kernel_rfl) (by kernel_rfl) (by kernel_rfl) (fun _ _ _ h => h) ?hwT27 ?hyT27 hHeld ?_
                  case hiT27 => (simp only [List.getElem?_toArray, List.getElem?_cons_succ, List.getElem?_cons_zero]; with_reducible rfl)
                  case hdT27 => rfl
                  case hwT27 => rfl
                  case hyT27 => (intro w hSw; (try dsimp only at hSw); go_simp; first | done | with_reducible rfl)
                  try simp only [Act.put]
                  try simp only [List.setIfInBounds_toArray, List.set_cons_zero, List.set_cons_succ]
                  refine takeW 28 (some 154) (oi := ?oT28) (v := ?vT28) ?hiT28 ?hdT28 (by kernel_rfl) (by kernel_rfl) (by kernel_rfl) (fun _ _ _ h => h) ?hwT28 ?hyT28 hHeld ?_
                  case hiT28 => (simp only [List.getElem?_toArray, List.getElem?_cons_succ, List.getElem?_cons_zero]; with_reducible rfl)
                  case hdT28 => rfl
                  case hwT28 => rfl
                  case hyT28 => (intro w hSw; (try dsimp only at hSw); go_simp; first | done | with_reducible rfl)
                  try simp only [Act.put]
                  try simp only [List.setIfInBounds_toArray, List.set_cons_zero, List.set_cons_succ]
                  refine stepOne 26 (o := ?oT29) ?hiT29 (by kernel_rfl) ?hwT29 (fun K hK => ?_)
                  case hiT29 => (simp only [List.getElem?_toArray, List.getElem?_cons_succ, List.getElem?_cons_zero]; with_reducible rfl)
                  case hwT29 => rfl
                  go_simp
                  refine hK.out _ _ ?_ (fun hHeld => ?_)
                  · exact HSB.out _ ((Below.refl w14.heap.size w14).drew.alloc (Nat.le_refl _) _)
                  clear hK K
                  try simp only [Act.put]
                  try simp only [List.setIfInBounds_toArray, List.set_cons_zero, List.set_cons_succ]
                  refine takeW 29 (some 155) (oi := ?oT30) (v := ?vT30) ?hiT30 ?hdT30 (by kernel_rfl) (by kernel_rfl) (by kernel_rfl) (fun _ _ _ h => h) ?hwT30 ?hyT30 hHeld ?_
                  case hiT30 => (simp only [List.getElem?_toArray, List.getElem?_cons_succ, List.getElem?_cons_zero]; with_reducible rfl)
                  case hdT30 => rfl
                  case hwT30 => rfl
                  case hyT30 => (intro w hSw; (try dsimp only at hSw); go_simp; first | done | with_reducible rfl)
                  try simp only [Act.put]
                  try simp only [List.setIfInBounds_toArray, List.set_cons_zero, List.set_cons_succ]
                  refine stepOne 30 (o := ?oT31) ?hiT31 (by kernel_rfl) ?hwT31 (fun K hK => ?_)
                  case hiT31 => (simp only [List.getElem?_toArray, List.getElem?_cons_succ, List.getElem?_cons_zero]; with_reducible rfl)
                  case hwT31 => rfl
                  go_simp
                  refine hK.out _ _ ?_ (fun hHeld => ?_)
                  · exact HSB.out _ ((Below.refl w14.heap.size w14).drew.alloc (Nat.le_refl _) _)
                  clear hK K
                  try simp only [Act.put]
                  try simp only [List.setIfInBounds_toArray, List.set_cons_zero, List.set_cons_succ]
                  refine takeW 31 (some 157) (oi := ?oT32) (v := ?vT32) ?hiT32 ?hdT32 (by kernel_rfl) (by kernel_rfl) (by kernel_rfl) (fun _ _ _ h => h) ?hwT32 ?hyT32 hHeld ?_
                  case hiT32 => (simp only [List.getElem?_toArray, List.getElem?_cons_succ, List.getElem?_cons_zero]; with_reducible rfl)
                  case hdT32 => rfl
                  case hwT32 => rfl
                  case hyT32 => (intro w hSw; (try dsimp only at hSw); go_simp; first | done | with_reducible rfl)
                  try simp only [Act.put]
                  try simp only [List.setIfInBounds_toArray, List.set_cons_zero, List.set_cons_succ]
                  refine takeW 32 (some 158) (oi := ?oT33) (v := ?vT33) ?hiT33 ?hdT33 (by kernel_rfl) (by kernel_rfl) (by kernel_rfl) (fun _ _ _ h => h) ?hwT33 ?hyT33 hHeld ?_
                  case hiT33 => (simp only [List.getElem?_toArray, List.getElem?_cons_succ, List.getElem?_cons_zero]; with_reducible rfl)
                  case hdT33 => rfl
                  case hwT33 => rfl
                  case hyT33 => (intro w hSw; (try dsimp only at hSw); go_simp; first | done | with_reducible rfl)
                  try simp only [Act.put]
                  try simp only [List.setIfInBounds_toArray, List.set_cons_zero, List.set_cons_succ]
                  refine takeW 33 (some 159) (oi := ?oT34) (v := ?vT34) ?hiT34 ?hdT34 (by kernel_rfl) (by kernel_rfl) (by kernel_rfl) (fun _ _ _ h => h) ?hwT34 ?hyT34 hHeld ?_
                  case hiT34 => (simp only [List.getElem?_toArray, List.getElem?_cons_succ, List.getElem?_cons_zero]; with_reducible rfl)
                  case hdT34 => rfl
                  case hwT34 => rfl
                  case hyT34 => (intro w hSw; (try dsimp only at hSw); go_simp; first | done | with_reducible rfl)
                  try simp only [Act.put]
                  try simp only [List.setIfInBounds_toArray, List.set_cons_zero, List.set_cons_succ]
                  refine takeW 34 (some 160) (oi := ?oT35) (v := ?vT35) ?hiT35 ?hdT35 (by kernel_rfl) (by kernel_rfl) (by kernel_rfl) (fun _ _ _ h => h) ?hwT35 ?hyT35 hHeld ?_
                  case hiT35 => (simp only [List.getElem?_toArray, List.getElem?_cons_succ, List.getElem?_cons_zero]; with_reducible rfl)
                  case hdT35 => rfl
                  case hwT35 => rfl
                  case hyT35 => (intro w hSw; (try dsimp only at hSw); go_simp; first | done | with_reducible rfl)
                  try simp only [Act.put]
                  try simp only [List.setIfInBounds_toArray, List.set_cons_zero, List.set_cons_succ]
                  refine takeW 35 (some 161) (oi := ?oT36) (v := ?vT36) ?hiT36 ?hdT36 (by kernel_rfl) (by kernel_rfl) (by kernel_rfl) (fun _ _ _ h => h) ?hwT36 ?hyT36 hHeld ?_
                  case hiT36 => (simp only [List.getElem?_toArray, List.getElem?_cons_succ, List.getElem?_cons_zero]; with_reducible rfl)
                  case hdT36 => rfl
                  case hwT36 => rfl
                  case hyT36 => (intro w hSw; (try dsimp only at hSw); go_simp; first | done | with_reducible rfl)
                  try simp only [Act.put]
                  try simp only [List.setIfInBounds_toArray, List.set_cons_zero, List.set_cons_succ]
                  refine stepOne 36 (o := ?oT37) ?hiT37 (by kernel_rfl) ?hwT37 (fun K hK => ?_)
                  case hiT37 => (simp only [List.getElem?_toArray, List.getElem?_cons_succ, List.getElem?_cons_zero]; with_reducible rfl)
                  case hwT37 => rfl
                  go_simp
                  go_at_call 9
                  refine (lawake_any _ (HT.out.under HBX.out)).mono ?_
                  rintro e w15 ⟨rfl, hb15⟩
                  have HB15 := Lib.hid hb15
                  clear hb15
                  refine hK.out _ _ ?_ (fun hHeld => ?_)
                  · exact HSB.out _ (((Below.refl w14.heap.size w14).drew.alloc (Nat.le_refl _) _).trans (HB15.out.mono ((Below.refl w14.heap.size w14).drew.alloc (Nat.le_refl _) _).size))
                  clear hK K
                  try simp only [Act.put]
                  try simp only [List.setIfInBounds_toArray, List.set_cons_zero, List.set_cons_succ]
                  refine takeW 37 (some 163) (oi := ?oT38) (v := ?vT38) ?hiT38 ?hdT38 (by kernel_rfl) (by kernel_rfl) (by kernel_rfl) (fun _ _ _ h => h) ?hwT38 ?hyT38 hHeld ?_
                  case hiT38 => (simp only [List.getElem?_toArray, List.getElem?_cons_succ, List.getElem?_cons_zero]; with_reducible rfl)
                  case hdT38 => rfl
                  case hwT38 => rfl
                  case hyT38 => (intro w hSw; (try dsimp only at hSw); go_simp; first | done | with_reducible rfl)
                  try simp only [Act.put]
                  try simp only [List.setIfInBounds_toArray, List.set_cons_zero, List.set_cons_succ]
                  refine takeW 38 (some 6) (oi := ?oT39) (v := ?vT39) ?hiT39 ?hdT39 (by kernel_rfl) (by kernel_rfl) (by kernel_rfl) (fun _ _ _ h => h) ?hwT39 ?hyT39 hHeld ?_
                  case hiT39 => (simp only [List.getElem?_toArray, List.getElem?_cons_succ, List.getElem?_cons_zero]; with_reducible rfl)
                  case hdT39 => rfl
                  case hwT39 => rfl
                  case hyT39 => (intro w hSw; (try dsimp only at hSw); go_simp; first | done | with_reducible rfl)
                  try simp only [Act.put]
                  try simp only [List.setIfInBounds_toArray, List.set_cons_zero, List.set_cons_succ]
                  refine wpAnyH_done (by kernel_rfl) ?_ _
                  refine NoPanic.normal ?_
                  skip
                  go_wp2
                  go_ret
                  exact ⟨rfl, HBX.out.trans (HB15.out.mono HBX.out.size)⟩
                · by_cases hc2 : rm = true ∧ kk = 2
                  · as_aux_lemma =>
                    obtain ⟨rfl, rfl⟩ := hc2
                    have hE := HP.out
                    rw [show endO 2 m true = some (3, ⟨2, 3, 8, (m : Int) + 50⟩) from rfl] at hE
                    obtain ⟨rfl, hl⟩ := heldV_some hE
                    injection hl with e1 e2 e3 e4
                    subst e1 e2 e3
                    have hQ1 : Q = 1 := by rw [← HQQ.out]; rfl
                    subst hQ1
                    have hwd : IntKind.i64.wrap ((m : Int) + 50) = d := by rw [e4]; exact IntWalk.i64_in _ (by have := HN.out; omega)
                    clear hE e4 hc0
                    go_upto_region 31 with fail
                    obtain ⟨w14, qg, ql, K14, hw14, hqg, hql, h14, m14, m15, -, b14, b15, bb14⟩ := H13.out.boxes #[.string (str f), .int .i64 kh] #[.int .i64 2, .int .i64 3, .int .i64 8, .int .i64 d]
                    rw [hw14, hql, hqg]
                    have HB14 : Hid (Below w.heap.size w w14) := Lib.hid h14.fs.below
                    have HSB : Hid (∀ W, Below w14.heap.size w14 W → W.cell? ⟨ql, 0, none⟩ = some (.int .i64 2) ∧ W.cell? ⟨ql, 1, none⟩ = some (.int .i64 3) ∧ W.cell? ⟨ql, 2, none⟩ = some (.int .i64 8) ∧ W.cell? ⟨ql, 3, none⟩ = some (.int .i64 d)) := Lib.hid fun W hb => ⟨(b15.under hb).at 0, (b15.under hb).at 1, (b15.under hb).at 2, (b15.under hb).at 3⟩
                    clear hw14 hql hqg h14 m14 m15 b14 b15 bb14 H13
                    have HBX : Hid (Below w.heap.size w (w14.drew.alloc (.cells #[.int .i64 1, .int .i64 0, .int .i64 8, .int .i64 0] 3))) := Lib.hid (HB14.out.drew.alloc HB14.out.size _)
                    refine wp_region_noPanic ?_
                    refine wp_region_held_drew (S := fun W => W.cell? ⟨ql, 0, none⟩ = some (.int .i64 2) ∧ W.cell? ⟨ql, 1, none⟩ = some (.int .i64 3) ∧ W.cell? ⟨ql, 2, none⟩ = some (.int .i64 8) ∧ W.cell? ⟨ql, 3, none⟩ = some (.int .i64 d)) (by kernel_rfl) (HSB.out _ (Below.refl _ _).drew) (fun hHeld => ?_)
                    refine takeW 0 (some 126) (oi := ?oT40) (v := ?vT40) ?hiT40 ?hdT40 (by kernel_rfl) (by kernel_rfl) (by kernel_rfl) (fun _ _ _ h => h) ?hwT40 ?hyT40 hHeld ?_
                    case hiT40 => (simp only [List.getElem?_toArray, List.getElem?_cons_zero]; with_reducible rfl)
                    case hdT40 => rfl
                    case hwT40 => rfl
                    case hyT40 => (intro w hSw; (try dsimp only at hSw); go_simp; first | done | with_reducible rfl)
                    try simp only [Act.put]
                    try simp only [List.setIfInBounds_toArray, List.set_cons_zero, List.set_cons_succ]
                    refine takeW 1 (some 127) (oi := ?oT41) (v := ?vT41) ?hiT41 ?hdT41 (by kernel_rfl) (by kernel_rfl) (by kernel_rfl) (fun _ _ _ h => h) ?hwT41 ?hyT41 hHeld ?_
                    case hiT41 => (simp only [List.getElem?_toArray, List.getElem?_cons_succ, List.getElem?_cons_zero]; with_reducible rfl)
                    case hdT41 => rfl
                    case hwT41 => rfl
                    case hyT41 => (intro w hSw; (try dsimp only at hSw); go_simp; first | done | with_reducible rfl)
                    try simp only [Act.put]
                    try simp only [List.setIfInBounds_toArray, List.set_cons_zero, List.set_cons_succ]
                    refine takeW 2 (some 128) (oi := ?oT42) (v := ?vT42) ?hiT42 ?hdT42 (by kernel_rfl) (by kernel_rfl) (by kernel_rfl) (fun _ _ _ h => h) ?hwT42 ?hyT42 hHeld ?_
                    case hiT42 => (simp only [List.getElem?_toArray, List.getElem?_cons_succ, List.getElem?_cons_zero]; with_reducible rfl)
                    case hdT42 => rfl
                    case hwT42 => rfl
                    case hyT42 => (intro w hSw; (try dsimp only at hSw); go_simp; first | done | with_reducible rfl)
                    try simp only [Act.put]
                    try simp only [List.setIfInBounds_toArray, List.set_cons_zero, List.set_cons_succ]
                    refine takeW 3 (some 129) (oi := ?oT43) (v := ?vT43) ?hiT43 ?hdT43 (by kernel_rfl) (by kernel_rfl) (by kernel_rfl) (fun _ _ _ h => h) ?hwT43 ?hyT43 hHeld ?_
                    case hiT43 => (simp only [List.getElem?_toArray, List.getElem?_cons_succ, List.getElem?_cons_zero]; with_reducible rfl)
                    case hdT43 => rfl
                    case hwT43 => rfl
                    case hyT43 => (intro w hSw; (try dsimp only at hSw); go_simp; first | done | with_reducible rfl)
                    try simp only [Act.put]
                    try simp only [List.setIfInBounds_toArray, List.set_cons_zero, List.set_cons_succ]
                    refine takeW 4 (some 130) (oi := ?oT44) (v := ?vT44) ?hiT44 ?hdT44 (by kernel_rfl) (by kernel_rfl) (by kernel_rfl) (fun _ _ _ h => h) ?hwT44 ?hyT44 hHeld ?_
                    case hiT44 => (simp only [List.getElem?_toArray, List.getElem?_cons_succ, List.getElem?_cons_zero]; with_reducible rfl)
                    case hdT44 => rfl
                    case hwT44 => rfl
                    case hyT44 => (intro w hSw; (try dsimp only at hSw); go_simp; first | done | with_reducible rfl)
                    try simp only [Act.put]
                    try simp only [List.setIfInBounds_toArray, List.set_cons_zero, List.set_cons_succ]
                    refine takeW 5 (some 131) (oi := ?oT45) (v := ?vT45) ?hiT45 ?hdT45 (by kernel_rfl) (by kernel_rfl) (by kernel_rfl) (fun _ _ _ h => h) ?hwT45 ?hyT45 hHeld ?_
                    case hiT45 => (simp only [List.getElem?_toArray, List.getElem?_cons_succ, List.getElem?_cons_zero]; with_reducible rfl)
                    case hdT45 => rfl
                    case hwT45 => rfl
                    case hyT45 => (intro w hSw; (try dsimp only at hSw); go_simp; first | done | with_reducible rfl)
                    try simp only [Act.put]
                    try simp only [List.setIfInBounds_toArray, List.set_cons_zero, List.set_cons_succ]
                    refine takeW 6 (some 132) (oi := ?oT46) (v := ?vT46) ?hiT46 ?hdT46 (by kernel_rfl) (by kernel_rfl) (by kernel_rfl) (fun _ _ _ h => h) ?hwT46 ?hyT46 hHeld ?_
                    case hiT46 => (simp only [List.getElem?_toArray, List.getElem?_cons_succ, List.getElem?_cons_zero]; with_reducible rfl)
                    case hdT46 => rfl
                    case hwT46 => rfl
                    case hyT46 => (intro w hSw; (try dsimp only at hSw); go_simp; first | done | with_reducible rfl)
                    try simp only [Act.put]
                    try simp only [List.setIfInBounds_toArray, List.set_cons_zero, List.set_cons_succ]
                    refine takeW 7 (some 133) (oi := ?oT47) (v := ?vT47) ?hiT47 ?hdT47 (by kernel_rfl) (by kernel_rfl) (by kernel_rfl) (fun _ _ _ h => h) ?hwT47 ?hyT47 hHeld ?_
                    case hiT47 => (simp only [List.getElem?_toArray, List.getElem?_cons_succ, List.getElem?_cons_zero]; with_reducible rfl)
                    case hdT47 => rfl
                    case hwT47 => rfl
                    case hyT47 => (intro w hSw; (try dsimp only at hSw); go_simp; first | done | with_reducible rfl)
                    try simp only [Act.put]
                    try simp only [List.setIfInBounds_toArray, List.set_cons_zero, List.set_cons_succ]
                    refine takeW 8 (some 134) (oi := ?oT48) (v := ?vT48) ?hiT48 ?hdT48 (by kernel_rfl) (by kernel_rfl) (by kernel_rfl) (fun _ _ _ h => h) ?hwT48 ?hyT48 hHeld ?_
                    case hiT48 => (simp only [List.getElem?_toArray, List.getElem?_cons_succ, List.getElem?_cons_zero]; with_reducible rfl)
                    case hdT48 => rfl
                    case hwT48 => rfl
                    case hyT48 => (intro w hSw; (try dsimp only at hSw); go_simp; first | done | with_reducible rfl)
                    try simp only [Act.put]
                    try simp only [List.setIfInBounds_toArray, List.set_cons_zero, List.set_cons_succ]
                    refine takeW 9 (some 135) (oi := ?oT49) (v := ?vT49) ?hiT49 ?hdT49 (by kernel_rfl) (by kernel_rfl) (by kernel_rfl) (fun _ _ _ h => h) ?hwT49 ?hyT49 hHeld ?_
                    case hiT49 => (simp only [List.getElem?_toArray, List.getElem?_cons_succ, List.getElem?_cons_zero]; with_reducible rfl)
                    case hdT49 => rfl
                    case hwT49 => rfl
                    case hyT49 => (intro w hSw; (try dsimp only at hSw); go_simp; first | done | with_reducible rfl)
                    try simp only [Act.put]
                    try simp only [List.setIfInBounds_toArray, List.set_cons_zero, List.set_cons_succ]
                    refine takeW 10 (some 136) (oi := ?oT50) (v := ?vT50) ?hiT50 ?hdT50 (by kernel_rfl) (by kernel_rfl) (by kernel_rfl) (fun _ _ _ h => h) ?hwT50 ?hyT50 hHeld ?_
                    case hiT50 => (simp only [List.getElem?_toArray, List.getElem?_cons_succ, List.getElem?_cons_zero]; with_reducible rfl)
                    case hdT50 => rfl
                    case hwT50 => rfl
                    case hyT50 => (intro w hSw; (try dsimp only at hSw); go_simp; first | done | with_reducible rfl)
                    try simp only [Act.put]
                    try simp only [List.setIfInBounds_toArray, List.set_cons_zero, List.set_cons_succ]
                    refine takeW 11 (some 137) (oi := ?oT51) (v := ?vT51) ?hiT51 ?hdT51 (by kernel_rfl) (by kernel_rfl) (by kernel_rfl) (fun _ _ _ h => h) ?hwT51 ?hyT51 hHeld ?_
                    case hiT51 => (simp only [List.getElem?_toArray, List.getElem?_cons_succ, List.getElem?_cons_zero]; with_reducible rfl)
                    case hdT51 => rfl
                    case hwT51 => rfl
                    case hyT51 => (intro w hSw; (try dsimp only at hSw); go_simp; first | done | with_reducible rfl)
                    try simp only [Act.put]
                    try simp only [List.setIfInBounds_toArray, List.set_cons_zero, List.set_cons_succ]
                    refine takeW 12 (some 138) (oi := ?oT52) (v := ?vT52) ?hiT52 ?hdT52 (by kernel_rfl) (by kernel_rfl) (by kernel_rfl) (fun _ _ _ h => h) ?hwT52 ?hyT52 hHeld ?_
                    case hiT52 => (simp only [List.getElem?_toArray, List.getElem?_cons_succ, List.getElem?_cons_zero]; with_reducible rfl)
                    case hdT52 => rfl
                    case hwT52 => rfl
                    case hyT52 => (intro w hSw; (try dsimp only at hSw); go_simp; first | done | with_reducible rfl)
                    try simp only [Act.put]
                    try simp only [List.setIfInBounds_toArray, List.set_cons_zero, List.set_cons_succ]
                    refine takeW 13 (some 139) (oi := ?oT53) (v := ?vT53) ?hiT53 ?hdT53 (by kernel_rfl) (by kernel_rfl) (by kernel_rfl) (fun _ _ _ h => h) ?hwT53 ?hyT53 hHeld ?_
                    case hiT53 => (simp only [List.getElem?_toArray, List.getElem?_cons_succ, List.getElem?_cons_zero]; with_reducible rfl)
                    case hdT53 => rfl
                    case hwT53 => rfl
                    case hyT53 => (intro w hSw; (try dsimp only at hSw); go_simp; first | done | with_reducible rfl)
                    try simp only [Act.put]
                    try simp only [List.setIfInBounds_toArray, List.set_cons_zero, List.set_cons_succ]
                    refine takeW 14 (some 140) (oi := ?oT54) (v := ?vT54) ?hiT54 ?hdT54 (by kernel_rfl) (by kernel_rfl) (by kernel_rfl) (fun _ _ _ h => h) ?hwT54 ?hyT54 hHeld ?_
                    case hiT54 => (simp only [List.getElem?_toArray, List.getElem?_cons_succ, List.getElem?_cons_zero]; with_reducible rfl)
                    case hdT54 => rfl
                    case hwT54 => rfl
                    case hyT54 => (intro w hSw; (try dsimp only at hSw); go_simp; first | done | with_reducible rfl)
                    try simp only [Act.put]
                    try simp only [List.setIfInBounds_toArray, List.set_cons_zero, List.set_cons_succ]
                    refine takeW 15 (some 141) (oi := ?oT55) (v := ?vT55) ?hiT55 ?hdT55 (by kernel_rfl) (by kernel_rfl) (by kernel_rfl) (fun _ _ _ h => h) ?hwT55 ?hyT55 hHeld ?_
                    case hiT55 => (simp only [List.getElem?_toArray, List.getElem?_cons_succ, List.getElem?_cons_zero]; with_reducible rfl)
                    case hdT55 => rfl
                    case hwT55 => rfl
                    case hyT55 => (intro w hSw; (try dsimp only at hSw); go_simp; first | done | with_reducible rfl)
                    try simp only [Act.put]
                    try simp only [List.setIfInBounds_toArray, List.set_cons_zero, List.set_cons_succ]
                    refine takeW 16 (some 142) (oi := ?oT56) (v := ?vT56) ?hiT56 ?hdT56 (by kernel_rfl) (by kernel_rfl) (by kernel_rfl) (fun _ _ _ h => h) ?hwT56 ?hyT56 hHeld ?_
                    case hiT56 => (simp only [List.getElem?_toArray, List.getElem?_cons_succ, List.getElem?_cons_zero]; with_reducible rfl)
                    case hdT56 => rfl
                    case hwT56 => rfl
                    case hyT56 => (intro w hSw; (try dsimp only at hSw); go_simp; first | done | with_reducible rfl)
                    try simp only [Act.put]
                    try simp only [List.setIfInBounds_toArray, List.set_cons_zero, List.set_cons_succ]
                    refine takeW 17 (some 143) (oi := ?oT57) (v := ?vT57) ?hiT57 ?hdT57 (by kernel_rfl) (by kernel_rfl) (by kernel_rfl) (fun _ _ _ h => h) ?hwT57 ?hyT57 hHeld ?_
                    case hiT57 => (simp only [List.getElem?_toArray, List.getElem?_cons_succ, List.getElem?_cons_zero]; with_reducible rfl)
                    case hdT57 => rfl
                    case hwT57 => rfl
                    case hyT57 => (intro w hSw; (try dsimp only at hSw); go_simp; first | done | with_reducible rfl)
                    try simp only [Act.put]
                    try simp only [List.setIfInBounds_toArray, List.set_cons_zero, List.set_cons_succ]
                    refine takeW 18 (some 144) (oi := ?oT58) (v := ?vT58) ?hiT58 ?hdT58 (by kernel_rfl) (by kernel_rfl) (by kernel_rfl) (fun _ _ _ h => h) ?hwT58 ?hyT58 hHeld ?_
                    case hiT58 => (simp only [List.getElem?_toArray, List.getElem?_cons_succ, List.getElem?_cons_zero]; with_reducible rfl)
                    case hdT58 => rfl
                    case hwT58 => rfl
                    case hyT58 => (intro w hSw; (try dsimp only at hSw); go_simp; first | done | with_reducible rfl)
                    try simp only [Act.put]
                    try simp only [List.setIfInBounds_toArray, List.set_cons_zero, List.set_cons_succ]
                    refine takeW 19 (some 145) (oi := ?oT59) (v := ?vT59) ?hiT59 ?hdT59 (by kernel_rfl) (by kernel_rfl) (by kernel_rfl) (fun _ _ _ h => h) ?hwT59 ?hyT59 hHeld ?_
                    case hiT59 => (simp only [List.getElem?_toArray, List.getElem?_cons_succ, List.getElem?_cons_zero]; with_reducible rfl)
                    case hdT59 => rfl
                    case hwT59 => rfl
                    case hyT59 => (intro w hSw; (try dsimp only at hSw); go_simp; first | done | with_reducible rfl)
                    try simp only [Act.put]
                    try simp only [List.setIfInBounds_toArray, List.set_cons_zero, List.set_cons_succ]
                    refine takeW 20 (some 146) (oi := ?oT60) (v := ?vT60) ?hiT60 ?hdT60 (by kernel_rfl) (by kernel_rfl) (by kernel_rfl) (fun _ _ _ h => h) ?hwT60 ?hyT60 hHeld ?_
                    case hiT60 => (simp only [List.getElem?_toArray, List.getElem?_cons_succ, List.getElem?_cons_zero]; with_reducible rfl)
                    case hdT60 => rfl
                    case hwT60 => rfl
                    case hyT60 => (intro w hSw; (try dsimp only at hSw); go_simp; first | done | with_reducible rfl)
                    try simp only [Act.put]
                    try simp only [List.setIfInBounds_toArray, List.set_cons_zero, List.set_cons_succ]
                    refine takeW 21 (some 147) (oi := ?oT61) (v := ?vT61) ?hiT61 ?hdT61 (by kernel_rfl) (by kernel_rfl) (by kernel_rfl) (fun _ _ _ h => h) ?hwT61 ?hyT61 hHeld ?_
                    case hiT61 => (simp only [List.getElem?_toArray, List.getElem?_cons_succ, List.getElem?_cons_zero]; with_reducible rfl)
                    case hdT61 => rfl
                    case hwT61 => rfl
                    case hyT61 => (intro w hSw; (try dsimp only at hSw); go_simp; first | done | with_reducible rfl)
                    try simp only [Act.put]
                    try simp only [List.setIfInBounds_toArray, List.set_cons_zero, List.set_cons_succ]
                    refine takeW 22 (some 148) (oi := ?oT62) (v := ?vT62) ?hiT62 ?hdT62 (by kernel_rfl) (by kernel_rfl) (by kernel_rfl) (fun _ _ _ h => h) ?hwT62 ?hyT62 hHeld ?_
                    case hiT62 => (simp only [List.getElem?_toArray, List.getElem?_cons_succ, List.getElem?_cons_zero]; with_reducible rfl)
                    case hdT62 => rfl
                    case hwT62 => rfl
                    case hyT62 => (intro w hSw; (try dsimp only at hSw); go_simp; first | done | with_reducible rfl)
                    try simp only [Act.put]
                    try simp only [List.setIfInBounds_toArray, List.set_cons_zero, List.set_cons_succ]
                    refine takeW 23 (some 149) (oi := ?oT63) (v := ?vT63) ?hiT63 ?hdT63 (by kernel_rfl) (by kernel_rfl) (by kernel_rfl) (fun _ _ _ h => h) ?hwT63 ?hyT63 hHeld ?_
                    case hiT63 => (simp only [List.getElem?_toArray, List.getElem?_cons_succ, List.getElem?_cons_zero]; with_reducible rfl)
                    case hdT63 => rfl
                    case hwT63 => rfl
                    case hyT63 => (intro w hSw; (try dsimp only at hSw); go_simp; first | done | with_reducible rfl)
                    try simp only [Act.put]
                    try simp only [List.setIfInBounds_toArray, List.set_cons_zero, List.set_cons_succ]
                    refine takeW 24 (some 150) (oi := ?oT64) (v := ?vT64) ?hiT64 ?hdT64 (by kernel_rfl) (by kernel_rfl) (by kernel_rfl) (fun _ _ _ h => h) ?hwT64 ?hyT64 hHeld ?_
                    case hiT64 => (simp only [List.getElem?_toArray, List.getElem?_cons_succ, List.getElem?_cons_zero]; with_reducible rfl)
                    case hdT64 => rfl
                    case hwT64 => rfl
                    case hyT64 => (intro w hSw; (try dsimp only at hSw); go_simp; first | done | with_reducible rfl)
                    try simp only [Act.put]
                    try simp only [List.setIfInBounds_toArray, List.set_cons_zero, List.set_cons_succ]
                    refine takeW 25 (some 151) (oi := ?oT65) (v := ?vT65) ?hiT65 ?hdT65 (by kernel_rfl) (by kernel_rfl) (by kernel_rfl) (fun _ _ _ h => h) ?hwT65 ?hyT65 hHeld ?_
                    case hiT65 => (simp only [List.getElem?_toArray, List.getElem?_cons_succ, List.getElem?_cons_zero]; with_reducible rfl)
                    case hdT65 => rfl
                    case hwT65 => rfl
                    case hyT65 => (intro w hSw; (try dsimp only at hSw); go_simp; first | done | with_reducible rfl)
                    try simp only [Act.put]
                    try simp only [List.setIfInBounds_toArray, List.set_cons_zero, List.set_cons_succ]
                    refine takeW 27 (some 153) (oi := ?oT66) (v := ?vT66) ?hiT66 ?hdT66 (by kernel_rfl) (by kernel_rfl) (by kernel_rfl) (fun _ _ _ h => h) ?hwT66 ?hyT66 hHeld ?_
                    case hiT66 => (simp only [List.getElem?_toArray, List.getElem?_cons_succ, List.getElem?_cons_zero]; with_reducible rfl)
                    case hdT66 => rfl
                    case hwT66 => rfl
                    case hyT66 => (intro w hSw; (try dsimp only at hSw); go_simp; first | done | with_reducible rfl)
                    try simp only [Act.put]
                    try simp only [List.setIfInBounds_toArray, List.set_cons_zero, List.set_cons_succ]
                    refine takeW 28 (some 154) (oi := ?oT67) (v := ?vT67) ?hiT67 ?hdT67 (by kernel_rfl) (by kernel_rfl) (by kernel_rfl) (fun _ _ _ h => h) ?hwT67 ?hyT67 hHeld ?_
                    case hiT67 => (simp only [List.getElem?_toArray, List.getElem?_cons_succ, List.getElem?_cons_zero]; with_reducible rfl)
                    case hdT67 => rfl
                    case hwT67 => rfl
                    case hyT67 => (intro w hSw; (try dsimp only at hSw); go_simp; first | done | with_reducible rfl)
                    try simp only [Act.put]
                    try simp only [List.setIfInBounds_toArray, List.set_cons_zero, List.set_cons_succ]
                    refine stepOne 26 (o := ?oT68) ?hiT68 (by kernel_rfl) ?hwT68 (fun K hK => ?_)
                    case hiT68 => (simp only [List.getElem?_toArray, List.getElem?_cons_succ, List.getElem?_cons_zero]; with_reducible rfl)
                    case hwT68 => rfl
                    go_simp
                    refine hK.out _ _ ?_ (fun hHeld => ?_)
                    · exact HSB.out _ ((Below.refl w14.heap.size w14).drew.alloc (Nat.le_refl _) _)
                    clear hK K
                    try simp only [Act.put]
                    try simp only [List.setIfInBounds_toArray, List.set_cons_zero, List.set_cons_succ]
                    refine takeW 29 (some 155) (oi := ?oT69) (v := ?vT69) ?hiT69 ?hdT69 (by kernel_rfl) (by kernel_rfl) (by kernel_rfl) (fun _ _ _ h => h) ?hwT69 ?hyT69 hHeld ?_
                    case hiT69 => (simp only [List.getElem?_toArray, List.getElem?_cons_succ, List.getElem?_cons_zero]; with_reducible rfl)
                    case hdT69 => rfl
                    case hwT69 => rfl
                    case hyT69 => (intro w hSw; (try dsimp only at hSw); go_simp; first | done | with_reducible rfl)
                    try simp only [Act.put]
                    try simp only [List.setIfInBounds_toArray, List.set_cons_zero, List.set_cons_succ]
                    refine stepOne 30 (o := ?oT70) ?hiT70 (by kernel_rfl) ?hwT70 (fun K hK => ?_)
                    case hiT70 => (simp only [List.getElem?_toArray, List.getElem?_cons_succ, List.getElem?_cons_zero]; with_reducible rfl)
                    case hwT70 => rfl
                    go_simp
                    refine hK.out _ _ ?_ (fun hHeld => ?_)
                    · exact HSB.out _ ((Below.refl w14.heap.size w14).drew.alloc (Nat.le_refl _) _)
                    clear hK K
                    try simp only [Act.put]
                    try simp only [List.setIfInBounds_toArray, List.set_cons_zero, List.set_cons_succ]
                    refine takeW 31 (some 157) (oi := ?oT71) (v := ?vT71) ?hiT71 ?hdT71 (by kernel_rfl) (by kernel_rfl) (by kernel_rfl) (fun _ _ _ h => h) ?hwT71 ?hyT71 hHeld ?_
                    case hiT71 => (simp only [List.getElem?_toArray, List.getElem?_cons_succ, List.getElem?_cons_zero]; with_reducible rfl)
                    case hdT71 => rfl
                    case hwT71 => rfl
                    case hyT71 => (intro w hSw; (try dsimp only at hSw); go_simp; first | done | with_reducible rfl)
                    try simp only [Act.put]
                    try simp only [List.setIfInBounds_toArray, List.set_cons_zero, List.set_cons_succ]
                    refine takeW 32 (some 158) (oi := ?oT72) (v := ?vT72) ?hiT72 ?hdT72 (by kernel_rfl) (by kernel_rfl) (by kernel_rfl) (fun _ _ _ h => h) ?hwT72 ?hyT72 hHeld ?_
                    case hiT72 => (simp only [List.getElem?_toArray, List.getElem?_cons_succ, List.getElem?_cons_zero]; with_reducible rfl)
                    case hdT72 => rfl
                    case hwT72 => rfl
                    case hyT72 => (intro w hSw; (try dsimp only at hSw); go_simp; first | done | with_reducible rfl)
                    try simp only [Act.put]
                    try simp only [List.setIfInBounds_toArray, List.set_cons_zero, List.set_cons_succ]
                    refine takeW 33 (some 159) (oi := ?oT73) (v := ?vT73) ?hiT73 ?hdT73 (by kernel_rfl) (by kernel_rfl) (by kernel_rfl) (fun _ _ _ h => h) ?hwT73 ?hyT73 hHeld ?_
                    case hiT73 => (simp only [List.getElem?_toArray, List.getElem?_cons_succ, List.getElem?_cons_zero]; with_reducible rfl)
                    case hdT73 => rfl
                    case hwT73 => rfl
                    case hyT73 => (intro w hSw; (try dsimp only at hSw); go_simp; first | done | with_reducible rfl)
                    try simp only [Act.put]
                    try simp only [List.setIfInBounds_toArray, List.set_cons_zero, List.set_cons_succ]
                    refine takeW 34 (some 160) (oi := ?oT74) (v := ?vT74) ?hiT74 ?hdT74 (by kernel_rfl) (by kernel_rfl) (by kernel_rfl) (fun _ _ _ h => h) ?hwT74 ?hyT74 hHeld ?_
                    case hiT74 => (simp only [List.getElem?_toArray, List.getElem?_cons_succ, List.getElem?_cons_zero]; with_reducible rfl)
                    case hdT74 => rfl
                    case hwT74 => rfl
                    case hyT74 => (intro w hSw; (try dsimp only at hSw); go_simp; first | done | with_reducible rfl)
                    try simp only [Act.put]
                    try simp only [List.setIfInBounds_toArray, List.set_cons_zero, List.set_cons_succ]
                    refine takeW 35 (some 161) (oi := ?oT75) (v := ?vT75) ?hiT75 ?hdT75 (by kernel_rfl) (by kernel_rfl) (by kernel_rfl) (fun _ _ _ h => h) ?hwT75 ?hyT75 hHeld ?_
                    case hiT75 => (simp only [List.getElem?_toArray, List.getElem?_cons_succ, List.getElem?_cons_zero]; with_reducible rfl)
                    case hdT75 => rfl
                    case hwT75 => rfl
                    case hyT75 => (intro w hSw; (try dsimp only at hSw); go_simp; first | done | with_reducible rfl)
                    try simp only [Act.put]
                    try simp only [List.setIfInBounds_toArray, List.set_cons_zero, List.set_cons_succ]
                    refine stepOne 36 (o := ?oT76) ?hiT76 (by kernel_rfl) ?hwT76 (fun K hK => ?_)
                    case hiT76 => (simp only [List.getElem?_toArray, List.getElem?_cons_succ, List.getElem?_cons_zero]; with_reducible rfl)
                    case hwT76 => rfl
                    go_simp
                    go_at_call 9
                    refine (lawake_any _ (HT.out.under HBX.out)).mono ?_
                    rintro e w15 ⟨rfl, hb15⟩
                    have HB15 := Lib.hid hb15
                    clear hb15
                    refine hK.out _ _ ?_ (fun hHeld => ?_)
                    · exact HSB.out _ (((Below.refl w14.heap.size w14).drew.alloc (Nat.le_refl _) _).trans (HB15.out.mono ((Below.refl w14.heap.size w14).drew.alloc (Nat.le_refl _) _).size))
                    clear hK K
                    try simp only [Act.put]
                    try simp only [List.setIfInBounds_toArray, List.set_cons_zero, List.set_cons_succ]
                    refine takeW 37 (some 163) (oi := ?oT77) (v := ?vT77) ?hiT77 ?hdT77 (by kernel_rfl) (by kernel_rfl) (by kernel_rfl) (fun _ _ _ h => h) ?hwT77 ?hyT77 hHeld ?_
                    case hiT77 => (simp only [List.getElem?_toArray, List.getElem?_cons_succ, List.getElem?_cons_zero]; with_reducible rfl)
                    case hdT77 => rfl
                    case hwT77 => rfl
                    case hyT77 => (intro w hSw; (try dsimp only at hSw); go_simp; first | done | with_reducible rfl)
                    try simp only [Act.put]
                    try simp only [List.setIfInBounds_toArray, List.set_cons_zero, List.set_cons_succ]
                    refine takeW 38 (some 6) (oi := ?oT78) (v := ?vT78) ?hiT78 ?hdT78 (by kernel_rfl) (by kernel_rfl) (by kernel_rfl) (fun _ _ _ h => h) ?hwT78 ?hyT78 hHeld ?_
                    case hiT78 => (simp only [List.getElem?_toArray, List.getElem?_cons_succ, List.getElem?_cons_zero]; with_reducible rfl)
                    case hdT78 => rfl
                    case hwT78 => rfl
                    case hyT78 => (intro w hSw; (try dsimp only at hSw); go_simp; first | done | with_reducible rfl)
                    try simp only [Act.put]
                    try simp only [List.setIfInBounds_toArray, List.set_cons_zero, List.set_cons_succ]
                    refine wpAnyH_done (by kernel_rfl) ?_ _
                    refine NoPanic.normal ?_
                    skip
                    go_wp2
                    go_ret
                    exact ⟨rfl, HBX.out.trans (HB15.out.mono HBX.out.size)⟩
                  · as_aux_lemma =>
                    have hE := HP.out
                    rw [show endO kk m rm = none from (if_neg hc0).trans (if_neg hc2)] at hE
                    have hq := heldV_none hE
                    subst hq
                    have hQ1 : Q ≠ 1 := by rw [← HQQ.out]; exact wantB_one HN.out.1 hc0 hc2
                    have hQI : ((Q : Int) == 1) = false := by simp; omega
                    clear hE hQ1 hc0 hc2
                    go_upto_region 31 with fail
                    obtain ⟨w14, qg, ql, K14, hw14, hqg, hql, h14, m14, m15, -, b14, b15, bb14⟩ := H13.out.boxes #[.string (str f), .int .i64 kh] #[.int .i64 a, .int .i64 b, .int .i64 c, .int .i64 d]
                    rw [hw14, hql, hqg]
                    have HB14 : Hid (Below w.heap.size w w14) := Lib.hid h14.fs.below
                    have HSB : Hid (∀ W, Below w14.heap.size w14 W → W.cell? ⟨ql, 0, none⟩ = some (.int .i64 a) ∧ W.cell? ⟨ql, 1, none⟩ = some (.int .i64 b) ∧ W.cell? ⟨ql, 2, none⟩ = some (.int .i64 c) ∧ W.cell? ⟨ql, 3, none⟩ = some (.int .i64 d)) := Lib.hid fun W hb => ⟨(b15.under hb).at 0, (b15.under hb).at 1, (b15.under hb).at 2, (b15.under hb).at 3⟩
                    clear hw14 hql hqg h14 m14 m15 b14 b15 bb14 H13
                    have HBX : Hid (Below w.heap.size w w14.drew) := Lib.hid HB14.out.drew
                    refine wp_region_noPanic ?_
                    refine wp_region_held_drew (S := fun W => W.cell? ⟨ql, 0, none⟩ = some (.int .i64 a) ∧ W.cell? ⟨ql, 1, none⟩ = some (.int .i64 b) ∧ W.cell? ⟨ql, 2, none⟩ = some (.int .i64 c) ∧ W.cell? ⟨ql, 3, none⟩ = some (.int .i64 d)) (by kernel_rfl) (HSB.out _ (Below.refl _ _).drew) (fun hHeld => ?_)
                    refine takeW 0 (some 126) (oi := ?oT79) (v := ?vT79) ?hiT79 ?hdT79 (by kernel_rfl) (by kernel_rfl) (by kernel_rfl) (fun _ _ _ h => h) ?hwT79 ?hyT79 hHeld ?_
                    case hiT79 => (simp only [List.getElem?_toArray, List.getElem?_cons_zero]; with_reducible rfl)
                    case hdT79 => rfl
                    case hwT79 => rfl
                    case hyT79 => (intro w hSw; (try dsimp only at hSw); go_simp; first | done | with_reducible rfl)
                    try simp only [Act.put]
                    try simp only [List.setIfInBounds_toArray, List.set_cons_zero, List.set_cons_succ]
                    refine takeW 1 (some 127) (oi := ?oT80) (v := ?vT80) ?hiT80 ?hdT80 (by kernel_rfl) (by kernel_rfl) (by kernel_rfl) (fun _ _ _ h => h) ?hwT80 ?hyT80 hHeld ?_
                    case hiT80 => (simp only [List.getElem?_toArray, List.getElem?_cons_succ, List.getElem?_cons_zero]; with_reducible rfl)
                    case hdT80 => rfl
                    case hwT80 => rfl
                    case hyT80 => (intro w hSw; (try dsimp only at hSw); go_simp; first | done | with_reducible rfl)
                    try simp only [Act.put]
                    try simp only [List.setIfInBounds_toArray, List.set_cons_zero, List.set_cons_succ]
                    refine takeW 2 (some 128) (oi := ?oT81) (v := ?vT81) ?hiT81 ?hdT81 (by kernel_rfl) (by kernel_rfl) (by kernel_rfl) (fun _ _ _ h => h) ?hwT81 ?hyT81 hHeld ?_
                    case hiT81 => (simp only [List.getElem?_toArray, List.getElem?_cons_succ, List.getElem?_cons_zero]; with_reducible rfl)
                    case hdT81 => rfl
                    case hwT81 => rfl
                    case hyT81 => (intro w hSw; (try dsimp only at hSw); go_simp; first | done | with_reducible rfl)
                    try simp only [Act.put]
                    try simp only [List.setIfInBounds_toArray, List.set_cons_zero, List.set_cons_succ]
                    refine takeW 3 (some 129) (oi := ?oT82) (v := ?vT82) ?hiT82 ?hdT82 (by kernel_rfl) (by kernel_rfl) (by kernel_rfl) (fun _ _ _ h => h) ?hwT82 ?hyT82 hHeld ?_
                    case hiT82 => (simp only [List.getElem?_toArray, List.getElem?_cons_succ, List.getElem?_cons_zero]; with_reducible rfl)
                    case hdT82 => rfl
                    case hwT82 => rfl
                    case hyT82 => (intro w hSw; (try dsimp only at hSw); go_simp; first | done | with_reducible rfl)
                    try simp only [Act.put]
                    try simp only [List.setIfInBounds_toArray, List.set_cons_zero, List.set_cons_succ]
                    refine takeW 4 (some 130) (oi := ?oT83) (v := ?vT83) ?hiT83 ?hdT83 (by kernel_rfl) (by kernel_rfl) (by kernel_rfl) (fun _ _ _ h => h) ?hwT83 ?hyT83 hHeld ?_
                    case hiT83 => (simp only [List.getElem?_toArray, List.getElem?_cons_succ, List.getElem?_cons_zero]; with_reducible rfl)
                    case hdT83 => rfl
                    case hwT83 => rfl
                    case hyT83 => (intro w hSw; (try dsimp only at hSw); go_simp; first | done | with_reducible rfl)
                    try simp only [Act.put]
                    try simp only [List.setIfInBounds_toArray, List.set_cons_zero, List.set_cons_succ]
                    refine takeW 5 (some 131) (oi := ?oT84) (v := ?vT84) ?hiT84 ?hdT84 (by kernel_rfl) (by kernel_rfl) (by kernel_rfl) (fun _ _ _ h => h) ?hwT84 ?hyT84 hHeld ?_
                    case hiT84 => (simp only [List.getElem?_toArray, List.getElem?_cons_succ, List.getElem?_cons_zero]; with_reducible rfl)
                    case hdT84 => rfl
                    case hwT84 => rfl
                    case hyT84 => (intro w hSw; (try dsimp only at hSw); go_simp; first | done | with_reducible rfl)
                    try simp only [Act.put]
                    try simp only [List.setIfInBounds_toArray, List.set_cons_zero, List.set_cons_succ]
                    refine takeW 6 (some 132) (oi := ?oT85) (v := ?vT85) ?hiT85 ?hdT85 (by kernel_rfl) (by kernel_rfl) (by kernel_rfl) (fun _ _ _ h => h) ?hwT85 ?hyT85 hHeld ?_
                    case hiT85 => (simp only [List.getElem?_toArray, List.getElem?_cons_succ, List.getElem?_cons_zero]; with_reducible rfl)
                    case hdT85 => rfl
                    case hwT85 => rfl
                    case hyT85 => (intro w hSw; (try dsimp only at hSw); go_simp; first | done | with_reducible rfl)
                    try simp only [Act.put]
                    try simp only [List.setIfInBounds_toArray, List.set_cons_zero, List.set_cons_succ]
                    refine takeW 7 (some 133) (oi := ?oT86) (v := ?vT86) ?hiT86 ?hdT86 (by kernel_rfl) (by kernel_rfl) (by kernel_rfl) (fun _ _ _ h => h) ?hwT86 ?hyT86 hHeld ?_
                    case hiT86 => (simp only [List.getElem?_toArray, List.getElem?_cons_succ, List.getElem?_cons_zero]; with_reducible rfl)
                    case hdT86 => rfl
                    case hwT86 => rfl
                    case hyT86 => (intro w hSw; (try dsimp only at hSw); go_simp; first | done | with_reducible rfl)
                    try simp only [Act.put]
                    try simp only [List.setIfInBounds_toArray, List.set_cons_zero, List.set_cons_succ]
                    refine takeU 8 (some 134) (oi := ?oT87) ?hiT87 ?hdT87 (by kernel_rfl) (by kernel_rfl) (by kernel_rfl) (fun _ _ _ h => h) ?hwT87 hHeld ?_
                    case hiT87 => (simp only [List.getElem?_toArray, List.getElem?_cons_succ, List.getElem?_cons_zero]; with_reducible rfl)
                    case hdT87 => rfl
                    case hwT87 => rfl
                    try simp only [Act.put]
                    try simp only [List.setIfInBounds_toArray, List.set_cons_zero, List.set_cons_succ]
                    refine takeU 9 (some 135) (oi := ?oT88) ?hiT88 ?hdT88 (by kernel_rfl) (by kernel_rfl) (by kernel_rfl) (fun _ _ _ h => h) ?hwT88 hHeld ?_
                    case hiT88 => (simp only [List.getElem?_toArray, List.getElem?_cons_succ, List.getElem?_cons_zero]; with_reducible rfl)
                    case hdT88 => rfl
                    case hwT88 => rfl
                    try simp only [Act.put]
                    try simp only [List.setIfInBounds_toArray, List.set_cons_zero, List.set_cons_succ]
                    refine takeU 10 (some 136) (oi := ?oT89) ?hiT89 ?hdT89 (by kernel_rfl) (by kernel_rfl) (by kernel_rfl) (fun _ _ _ h => h) ?hwT89 hHeld ?_
                    case hiT89 => (simp only [List.getElem?_toArray, List.getElem?_cons_succ, List.getElem?_cons_zero]; with_reducible rfl)
                    case hdT89 => rfl
                    case hwT89 => rfl
                    try simp only [Act.put]
                    try simp only [List.setIfInBounds_toArray, List.set_cons_zero, List.set_cons_succ]
                    refine takeU 11 (some 137) (oi := ?oT90) ?hiT90 ?hdT90 (by kernel_rfl) (by kernel_rfl) (by kernel_rfl) (fun _ _ _ h => h) ?hwT90 hHeld ?_
                    case hiT90 => (simp only [List.getElem?_toArray, List.getElem?_cons_succ, List.getElem?_cons_zero]; with_reducible rfl)
                    case hdT90 => rfl
                    case hwT90 => rfl
                    try simp only [Act.put]
                    try simp only [List.setIfInBounds_toArray, List.set_cons_zero, List.set_cons_succ]
                    refine takeU 12 (some 138) (oi := ?oT91) ?hiT91 ?hdT91 (by kernel_rfl) (by kernel_rfl) (by kernel_rfl) (fun _ _ _ h => h) ?hwT91 hHeld ?_
                    case hiT91 => (simp only [List.getElem?_toArray, List.getElem?_cons_succ, List.getElem?_cons_zero]; with_reducible rfl)
                    case hdT91 => rfl
                    case hwT91 => rfl
                    try simp only [Act.put]
                    try simp only [List.setIfInBounds_toArray, List.set_cons_zero, List.set_cons_succ]
                    refine takeU 13 (some 139) (oi := ?oT92) ?hiT92 ?hdT92 (by kernel_rfl) (by kernel_rfl) (by kernel_rfl) (fun _ _ _ h => h) ?hwT92 hHeld ?_
                    case hiT92 => (simp only [List.getElem?_toArray, List.getElem?_cons_succ, List.getElem?_cons_zero]; with_reducible rfl)
                    case hdT92 => rfl
                    case hwT92 => rfl
                    try simp only [Act.put]
                    try simp only [List.setIfInBounds_toArray, List.set_cons_zero, List.set_cons_succ]
                    refine takeU 14 (some 140) (oi := ?oT93) ?hiT93 ?hdT93 (by kernel_rfl) (by kernel_rfl) (by kernel_rfl) (fun _ _ _ h => h) ?hwT93 hHeld ?_
                    case hiT93 => (simp only [List.getElem?_toArray, List.getElem?_cons_succ, List.getElem?_cons_zero]; with_reducible rfl)
                    case hdT93 => rfl
                    case hwT93 => rfl
                    try simp only [Act.put]
                    try simp only [List.setIfInBounds_toArray, List.set_cons_zero, List.set_cons_succ]
                    refine takeU 15 (some 141) (oi := ?oT94) ?hiT94 ?hdT94 (by kernel_rfl) (by kernel_rfl) (by kernel_rfl) (fun _ _ _ h => h) ?hwT94 hHeld ?_
                    case hiT94 => (simp only [List.getElem?_toArray, List.getElem?_cons_succ, List.getElem?_cons_zero]; with_reducible rfl)
                    case hdT94 => rfl
                    case hwT94 => rfl
                    try simp only [Act.put]
                    try simp only [List.setIfInBounds_toArray, List.set_cons_zero, List.set_cons_succ]
                    refine takeU 16 (some 142) (oi := ?oT95) ?hiT95 ?hdT95 (by kernel_rfl) (by kernel_rfl) (by kernel_rfl) (fun _ _ _ h => h) ?hwT95 hHeld ?_
                    case hiT95 => (simp only [List.getElem?_toArray, List.getElem?_cons_succ, List.getElem?_cons_zero]; with_reducible rfl)
                    case hdT95 => rfl
                    case hwT95 => rfl
                    try simp only [Act.put]
                    try simp only [List.setIfInBounds_toArray, List.set_cons_zero, List.set_cons_succ]
                    refine takeU 17 (some 143) (oi := ?oT96) ?hiT96 ?hdT96 (by kernel_rfl) (by kernel_rfl) (by kernel_rfl) (fun _ _ _ h => h) ?hwT96 hHeld ?_
                    case hiT96 => (simp only [List.getElem?_toArray, List.getElem?_cons_succ, List.getElem?_cons_zero]; with_reducible rfl)
                    case hdT96 => rfl
                    case hwT96 => rfl
                    try simp only [Act.put]
                    try simp only [List.setIfInBounds_toArray, List.set_cons_zero, List.set_cons_succ]
                    refine takeU 18 (some 144) (oi := ?oT97) ?hiT97 ?hdT97 (by kernel_rfl) (by kernel_rfl) (by kernel_rfl) (fun _ _ _ h => h) ?hwT97 hHeld ?_
                    case hiT97 => (simp only [List.getElem?_toArray, List.getElem?_cons_succ, List.getElem?_cons_zero]; with_reducible rfl)
                    case hdT97 => rfl
                    case hwT97 => rfl
                    try simp only [Act.put]
                    try simp only [List.setIfInBounds_toArray, List.set_cons_zero, List.set_cons_succ]
                    refine takeU 19 (some 145) (oi := ?oT98) ?hiT98 ?hdT98 (by kernel_rfl) (by kernel_rfl) (by kernel_rfl) (fun _ _ _ h => h) ?hwT98 hHeld ?_
                    case hiT98 => (simp only [List.getElem?_toArray, List.getElem?_cons_succ, List.getElem?_cons_zero]; with_reducible rfl)
                    case hdT98 => rfl
                    case hwT98 => rfl
                    try simp only [Act.put]
                    try simp only [List.setIfInBounds_toArray, List.set_cons_zero, List.set_cons_succ]
                    refine takeU 20 (some 146) (oi := ?oT99) ?hiT99 ?hdT99 (by kernel_rfl) (by kernel_rfl) (by kernel_rfl) (fun _ _ _ h => h) ?hwT99 hHeld ?_
                    case hiT99 => (simp only [List.getElem?_toArray, List.getElem?_cons_succ, List.getElem?_cons_zero]; with_reducible rfl)
                    case hdT99 => rfl
                    case hwT99 => rfl
                    try simp only [Act.put]
                    try simp only [List.setIfInBounds_toArray, List.set_cons_zero, List.set_cons_succ]
                    refine takeU 21 (some 147) (oi := ?oT100) ?hiT100 ?hdT100 (by kernel_rfl) (by kernel_rfl) (by kernel_rfl) (fun _ _ _ h => h) ?hwT100 hHeld ?_
                    case hiT100 => (simp only [List.getElem?_toArray, List.getElem?_cons_succ, List.getElem?_cons_zero]; with_reducible rfl)
                    case hdT100 => rfl
                    case hwT100 => rfl
                    try simp only [Act.put]
                    try simp only [List.setIfInBounds_toArray, List.set_cons_zero, List.set_cons_succ]
                    refine takeU 22 (some 148) (oi := ?oT101) ?hiT101 ?hdT101 (by kernel_rfl) (by kernel_rfl) (by kernel_rfl) (fun _ _ _ h => h) ?hwT101 hHeld ?_
                    case hiT101 => (simp only [List.getElem?_toArray, List.getElem?_cons_succ, List.getElem?_cons_zero]; with_reducible rfl)
                    case hdT101 => rfl
                    case hwT101 => rfl
                    try simp only [Act.put]
                    try simp only [List.setIfInBounds_toArray, List.set_cons_zero, List.set_cons_succ]
                    refine takeU 23 (some 149) (oi := ?oT102) ?hiT102 ?hdT102 (by kernel_rfl) (by kernel_rfl) (by kernel_rfl) (fun _ _ _ h => h) ?hwT102 hHeld ?_
                    case hiT102 => (simp only [List.getElem?_toArray, List.getElem?_cons_succ, List.getElem?_cons_zero]; with_reducible rfl)
                    case hdT102 => rfl
                    case hwT102 => rfl
                    try simp only [Act.put]
                    try simp only [List.setIfInBounds_toArray, List.set_cons_zero, List.set_cons_succ]
                    refine takeU 24 (some 150) (oi := ?oT103) ?hiT103 ?hdT103 (by kernel_rfl) (by kernel_rfl) (by kernel_rfl) (fun _ _ _ h => h) ?hwT103 hHeld ?_
                    case hiT103 => (simp only [List.getElem?_toArray, List.getElem?_cons_succ, List.getElem?_cons_zero]; with_reducible rfl)
                    case hdT103 => rfl
                    case hwT103 => rfl
                    try simp only [Act.put]
                    try simp only [List.setIfInBounds_toArray, List.set_cons_zero, List.set_cons_succ]
                    refine takeU 25 (some 151) (oi := ?oT104) ?hiT104 ?hdT104 (by kernel_rfl) (by kernel_rfl) (by kernel_rfl) (fun _ _ _ h => h) ?hwT104 hHeld ?_
                    case hiT104 => (simp only [List.getElem?_toArray, List.getElem?_cons_succ, List.getElem?_cons_zero]; with_reducible rfl)
                    case hdT104 => rfl
                    case hwT104 => rfl
                    try simp only [Act.put]
                    try simp only [List.setIfInBounds_toArray, List.set_cons_zero, List.set_cons_succ]
                    refine takeU 26 (some 152) (oi := ?oT105) ?hiT105 ?hdT105 (by kernel_rfl) (by kernel_rfl) (by kernel_rfl) (fun _ _ _ h => h) ?hwT105 hHeld ?_
                    case hiT105 => (simp only [List.getElem?_toArray, List.getElem?_cons_succ, List.getElem?_cons_zero]; with_reducible rfl)
                    case hdT105 => rfl
                    case hwT105 => rfl
                    try simp only [Act.put]
                    try simp only [List.setIfInBounds_toArray, List.set_cons_zero, List.set_cons_succ]
                    refine takeU 27 (some 153) (oi := ?oT106) ?hiT106 ?hdT106 (by kernel_rfl) (by kernel_rfl) (by kernel_rfl) (fun _ _ _ h => h) ?hwT106 hHeld ?_
                    case hiT106 => (simp only [List.getElem?_toArray, List.getElem?_cons_succ, List.getElem?_cons_zero]; with_reducible rfl)
                    case hdT106 => rfl
                    case hwT106 => rfl
                    try simp only [Act.put]
                    try simp only [List.setIfInBounds_toArray, List.set_cons_zero, List.set_cons_succ]
                    refine takeU 28 (some 154) (oi := ?oT107) ?hiT107 ?hdT107 (by kernel_rfl) (by kernel_rfl) (by kernel_rfl) (fun _ _ _ h => h) ?hwT107 hHeld ?_
                    case hiT107 => (simp only [List.getElem?_toArray, List.getElem?_cons_succ, List.getElem?_cons_zero]; with_reducible rfl)
                    case hdT107 => rfl
                    case hwT107 => rfl
                    try simp only [Act.put]
                    try simp only [List.setIfInBounds_toArray, List.set_cons_zero, List.set_cons_succ]
                    refine takeU 29 (some 155) (oi := ?oT108) ?hiT108 ?hdT108 (by kernel_rfl) (by kernel_rfl) (by kernel_rfl) (fun _ _ _ h => h) ?hwT108 hHeld ?_
                    case hiT108 => (simp only [List.getElem?_toArray, List.getElem?_cons_succ, List.getElem?_cons_zero]; with_reducible rfl)
                    case hdT108 => rfl
                    case hwT108 => rfl
                    try simp only [Act.put]
                    try simp only [List.setIfInBounds_toArray, List.set_cons_zero, List.set_cons_succ]
                    refine takeU 30 (some 156) (oi := ?oT109) ?hiT109 ?hdT109 (by kernel_rfl) (by kernel_rfl) (by kernel_rfl) (fun _ _ _ h => h) ?hwT109 hHeld ?_
                    case hiT109 => (simp only [List.getElem?_toArray, List.getElem?_cons_succ, List.getElem?_cons_zero]; with_reducible rfl)
                    case hdT109 => rfl
                    case hwT109 => rfl
                    try simp only [Act.put]
                    try simp only [List.setIfInBounds_toArray, List.set_cons_zero, List.set_cons_succ]
                    refine takeU 31 (some 157) (oi := ?oT110) ?hiT110 ?hdT110 (by kernel_rfl) (by kernel_rfl) (by kernel_rfl) (fun _ _ _ h => h) ?hwT110 hHeld ?_
                    case hiT110 => (simp only [List.getElem?_toArray, List.getElem?_cons_succ, List.getElem?_cons_zero]; with_reducible rfl)
                    case hdT110 => rfl
                    case hwT110 => rfl
                    try simp only [Act.put]
                    try simp only [List.setIfInBounds_toArray, List.set_cons_zero, List.set_cons_succ]
                    refine takeU 32 (some 158) (oi := ?oT111) ?hiT111 ?hdT111 (by kernel_rfl) (by kernel_rfl) (by kernel_rfl) (fun _ _ _ h => h) ?hwT111 hHeld ?_
                    case hiT111 => (simp only [List.getElem?_toArray, List.getElem?_cons_succ, List.getElem?_cons_zero]; with_reducible rfl)
                    case hdT111 => rfl
                    case hwT111 => rfl
                    try simp only [Act.put]
                    try simp only [List.setIfInBounds_toArray, List.set_cons_zero, List.set_cons_succ]
                    refine takeW 33 (some 159) (oi := ?oT112) (v := ?vT112) ?hiT112 ?hdT112 (by kernel_rfl) (by kernel_rfl) (by kernel_rfl) (fun _ _ _ h => h) ?hwT112 ?hyT112 hHeld ?_
                    case hiT112 => (simp only [List.getElem?_toArray, List.getElem?_cons_succ, List.getElem?_cons_zero]; with_reducible rfl)
                    case hdT112 => rfl
                    case hwT112 => rfl
                    case hyT112 => (intro w hSw; (try dsimp only at hSw); go_simp; first | done | with_reducible rfl)
                    try simp only [Act.put]
                    try simp only [List.setIfInBounds_toArray, List.set_cons_zero, List.set_cons_succ]
                    refine takeW 34 (some 160) (oi := ?oT113) (v := ?vT113) ?hiT113 ?hdT113 (by kernel_rfl) (by kernel_rfl) (by kernel_rfl) (fun _ _ _ h => h) ?hwT113 ?hyT113 hHeld ?_
                    case hiT113 => (simp only [List.getElem?_toArray, List.getElem?_cons_succ, List.getElem?_cons_zero]; with_reducible rfl)
                    case hdT113 => rfl
                    case hwT113 => rfl
                    case hyT113 => (intro w hSw; (try dsimp only at hSw); go_simp; first | done | with_reducible rfl)
                    try simp only [Act.put]
                    try simp only [List.setIfInBounds_toArray, List.set_cons_zero, List.set_cons_succ]
                    refine takeW 35 (some 161) (oi := ?oT114) (v := ?vT114) ?hiT114 ?hdT114 (by kernel_rfl) (by kernel_rfl) (by kernel_rfl) (fun _ _ _ h => h) ?hwT114 ?hyT114 hHeld ?_
                    case hiT114 => (simp only [List.getElem?_toArray, List.getElem?_cons_succ, List.getElem?_cons_zero]; with_reducible rfl)
                    case hdT114 => rfl
                    case hwT114 => rfl
                    case hyT114 => (intro w hSw; (try dsimp only at hSw); go_simp; first | done | with_reducible rfl)
                    try simp only [Act.put]
                    try simp only [List.setIfInBounds_toArray, List.set_cons_zero, List.set_cons_succ]
                    refine stepOne 36 (o := ?oT115) ?hiT115 (by kernel_rfl) ?hwT115 (fun K hK => ?_)
                    case hiT115 => (simp only [List.getElem?_toArray, List.getElem?_cons_succ, List.getElem?_cons_zero]; with_reducible rfl)
                    case hwT115 => rfl
                    go_simp
                    go_at_call 9
                    refine (lawake_any _ (HT.out.under HBX.out)).mono ?_
                    rintro e w15 ⟨rfl, hb15⟩
                    have HB15 := Lib.hid hb15
                    clear hb15
                    refine hK.out _ _ ?_ (fun hHeld => ?_)
                    · exact HSB.out _ ((Below.refl w14.heap.size w14).drew.trans (HB15.out.mono (Below.refl w14.heap.size w14).drew.size))
                    clear hK K
                    try simp only [Act.put]
                    try simp only [List.setIfInBounds_toArray, List.set_cons_zero, List.set_cons_succ]
                    refine takeW 37 (some 163) (oi := ?oT116) (v := ?vT116) ?hiT116 ?hdT116 (by kernel_rfl) (by kernel_rfl) (by kernel_rfl) (fun _ _ _ h => h) ?hwT116 ?hyT116 hHeld ?_
                    case hiT116 => (simp only [List.getElem?_toArray, List.getElem?_cons_succ, List.getElem?_cons_zero]; with_reducible rfl)
                    case hdT116 => rfl
                    case hwT116 => rfl
                    case hyT116 => (intro w hSw; (try dsimp only at hSw); go_simp; first | done | with_reducible rfl)
                    try simp only [Act.put]
                    try simp only [List.setIfInBounds_toArray, List.set_cons_zero, List.set_cons_succ]
                    refine takeW 38 (some 6) (oi := ?oT117) (v := ?vT117) ?hiT117 ?hdT117 (by kernel_rfl) (by kernel_rfl) (by kernel_rfl) (fun _ _ _ h => h) ?hwT117 ?hyT117 hHeld ?_
                    case hiT117 => (simp only [List.getElem?_toArray, List.getElem?_cons_succ, List.getElem?_cons_zero]; with_reducible rfl)
                    case hdT117 => rfl
                    case hwT117 => rfl
                    case hyT117 => (intro w hSw; (try dsimp only at hSw); go_simp; first | done | with_reducible rfl)
                    try simp only [Act.put]
                    try simp only [List.setIfInBounds_toArray, List.set_cons_zero, List.set_cons_succ]
                    refine wpAnyH_done (by kernel_rfl) ?_ _
                    refine NoPanic.normal ?_
                    skip
                    go_wp2
                    go_ret
                    exact ⟨rfl, HBX.out.trans (HB15.out.mono HBX.out.size)⟩
end Go.Proofs.YtlopabmndliggaaDoor
