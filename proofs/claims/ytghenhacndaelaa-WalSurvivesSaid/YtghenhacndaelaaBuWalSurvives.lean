/- WalSurvives returns true for every list of lives, and leaves memory that was there as it was; nothing else is assumed beyond the statement itself. -/
import Derived.Test.YtghenhacndaelaaBu43
import Derived.Test.YtghenhacndaelaaBu01
import Derived.Deep.CutRange
set_option linter.unusedSimpArgs false
set_option linter.unusedVariables false
set_option maxRecDepth 100000
set_option maxHeartbeats 16000000
namespace Go.Proofs.Ytghenhacndaelaa
open Go.ChangeShapes Go.WideShapes Go.ChangeAt Go.RowKit
open Wal
theorem Try.lifeAgg (w : World) : (isAgg 36).run Try.prog w = .ok true w := by kernel_rfl
theorem Try.lifeSize (w : World) : (sizeOf 36).run Try.prog w = .ok 3 w := by kernel_rfl
theorem Try.lgIsNil (g : Nat) (w : World) : Sem.run Try.prog (binOp BinOp.eql 29 (Value.pointer (some ⟨g, 0, none⟩)) (Value.pointer none)) w = Result.ok (Value.bool false) w := by kernel_rfl
theorem wsurv_out (A : Option Addr) (n c : Nat) (w : World) (h : 12 < n) :
    Calls Try.prog 3 #[.slice A n c] w fun e w' => e = .returned (.bool true) ∧ Below w.heap.size w w' := by
  have HAw := Lib.hid awake13_any
  have HB : Hid (∀ W, Calls Try.prog 5 #[.int .i64 16] W fun e w' => ∃ g F, e = .returned (.tuple #[.pointer (some ⟨g, 0, none⟩), .int .i64 0]) ∧ GivesDisk (Dk.blank 16) W w' g F) := fun W => blank_any 16 W (by omega) (by omega)
  have e1 : decide ((n : Int) > 12) = true := decide_eq_true (by omega)
  have e2 : decide ((12 : Int) < (n : Int)) = true := decide_eq_true (by omega)
  have e3 : decide (12 < n) = true := decide_eq_true h
  have z0 := fun g w' => Try.dIsNil g w'
  go_enter Try.func3, Try.ntmps3
  go_wp2_with (first
    | (go_at_call 5; (with_reducible refine (HB.out _).mono ?_); rintro e w1 ⟨g, F0, rfl, hG⟩)
    | (go_at_call 6; (with_reducible refine (HAw.out _).mono ?_); rintro e w3 ⟨rfl, hb3⟩))
  go_ret
  exact ⟨rfl, chain7 hG.2.1 hb3⟩
theorem wsurv_in (l : List Lf) (A : Option Addr) (n c : Nat) (w : World) (hD : LL13 w w.heap.size A l) (hn : n = l.length) (h : n ≤ 12) :
    Calls Try.prog 3 #[.slice A n c] w fun e w' => e = .returned (.bool true) ∧ Below w.heap.size w w' := by
  have HAw := Lib.hid awake13_any
  have HB : Hid (∀ W, Calls Try.prog 5 #[.int .i64 16] W fun e w' => ∃ g F, e = .returned (.tuple #[.pointer (some ⟨g, 0, none⟩), .int .i64 0]) ∧ GivesDisk (Dk.blank 16) W w' g F) := fun W => blank_any 16 W (by omega) (by omega)
  have e1 : decide ((n : Int) > 12) = false := decide_eq_false (by omega)
  have e2 : decide ((12 : Int) < (n : Int)) = false := decide_eq_false (by omega)
  have e3 : decide (12 < n) = false := decide_eq_false (by omega)
  have z0 := fun g w' => Try.dIsNil g w'
  have z1 := fun g w' => Try.lgIsNil g w'
  have n0 := fun w' => Try.notFalse w'
  have n1 := fun w' => Try.notTrue w'
  have Hn := Lib.hid hn
  have HD := Lib.hid hD
  clear hD hn
  go_enter Try.func3, Try.ntmps3
  go_wp2_with (first
    | (go_at_call 5; (with_reducible refine (HB.out _).mono ?_); rintro e w1 ⟨g, F0, rfl, hG⟩))
  have hS := Lib.hid (svA_start hG)
  clear hG HB
  go_loopw [5, 6, 7] (fun v x y wr => ∃ (i n5 c5 n6 c6 : Nat) (A5 A6 : Option Addr), i ≤ n ∧ v = .slice A5 n5 c5 ∧ x = .slice A6 n6 c6 ∧ y = .int .i64 (i : Int) ∧ Hid (SvA w wr g i n5 A5 n6 A6)) (fun _ _ y _ => n + 1 - (intOf y).toNat)
  case atStart => exact ⟨0, 0, 0, 0, 0, none, none, by omega, rfl, rfl, rfl, hS.out⟩
  case round =>
    clear hS
    obtain ⟨i, n5, c5, n6, c6, A5, A6, hi, rfl, rfl, rfl, HS⟩ := hrel
    obtain ⟨F, d, all, last, R, hAt, hcase⟩ := HS.out
    obtain ⟨wo, rfl⟩ : ∃ wo : World, wo = wr := ⟨_, rfl⟩
    have d0 : decide ((i : Int) ≤ (n : Int)) = true := decide_eq_true (by omega)
    have d1 : decide (i ≤ n) = true := decide_eq_true hi
    have y7 : IntKind.i64.wrap ((i : Int) + 1) = (i : Int) + 1 := IntWalk.i64_in _ (by omega)
    have ei : ((i + 1 : Nat) : Int) = (i : Int) + 1 := by omega
    have hO0 := sv_open hAt (by omega)
    rw [ei] at hO0
    have hR16 := left_few hAt.left (by omega)
    have he5 := hAt.e5
    have he6 := hAt.e6
    obtain ⟨m, hm⟩ : ∃ m, m = R.length := ⟨_, rfl⟩
    rw [← hm] at hO0
    have HO := Lib.hid hO0
    have HF : Hid (n5 = all.length ∧ n6 = last.length ∧ m = R.length ∧ R.length ≤ 16 ∧ (R = all ∨ ∃ t, R = all ++ [t] ∧ last = R)) := ⟨he5, he6, hm, hR16, hcase⟩
    have hm16 : m ≤ 16 := by omega
    clear hO0 HS hAt he5 he6 hm hR16 hcase
    go_upto_region 9 with (first
      | (go_at_call 7; (with_reducible refine HO.out.mono ?_); rintro e w2 ⟨lg, A9, c9, rfl, hO⟩; have hO1 := Lib.hid hO.out.1; clear HO))
    go_cut [66] from 28 to 167 (fun s66 wx => s66 = .bool false ∧ Hid (SvO w wx g lg i m A9 c9 R))
    case first =>
      obtain ⟨e5, e6, em, h16, hcase⟩ := HF.out
      have hcp := hO1.out.cap
      rcases hcase with hc | ⟨t, hc, hc2⟩
      · subst hc
        have em5 : m = n5 := by omega
        subst em5
        have g0 : decide ((m : Int) > (m : Int)) = false := decide_eq_false (by omega)
        have g1 : decide ((m : Int) < (m : Int)) = false := decide_eq_false (by omega)
        have g2 : decide (m < m) = false := decide_eq_false (by omega)
        have hBg := Lib.hid (sv_begins (c5 := c5) e5 h16 hcp hO.out.2.1 hO.out.2.2.1)
        clear hO e5 e6 em h16 hcp HF
        go_wp2_with (first
          | (go_at_call 8; (with_reducible refine hBg.out.mono ?_); rintro e w3 ⟨rfl, b3⟩; have hO3 := Lib.hid (hO1.out.up b3)))
        go_meet
        exact ⟨rfl, hO3.out⟩
      · subst hc2
        subst hc
        have em5 : m = n5 + 1 := by rw [em, e5]; simp
        have em6 : n6 = m := by omega
        subst em6
        have g0 : decide ((n6 : Int) > (n5 : Int)) = true := decide_eq_true (by omega)
        have g1 : decide ((n5 : Int) < (n6 : Int)) = true := decide_eq_true (by omega)
        have g2 : decide (n5 < n6) = true := decide_eq_true (by omega)
        have hBg := Lib.hid (sv_begins1 (c5 := c5) e5 em h16 hcp hO.out.2.1 hO.out.2.2.1)
        have hOa := Lib.hid hO.out.2.1
        have hOb := Lib.hid hO.out.2.2.2
        have hN : Hid (∀ W (P P' : Nat → Prop), BLw W P A9 (all ++ [t]) → BLw W P' A6 (all ++ [t]) → Calls Try.prog 9 #[.slice A9 n6 c9, .slice A6 n6 c6] W fun e w' => e = .returned (.bool true) ∧ Below W.heap.size W w') := fun W P P' h1 h2 => rbytesw_yes (all ++ [t]) n6 A9 A6 c9 c6 W P P' em (by omega) h1 h2
        clear hO e5 e6 em h16 hcp HF em5
        go_wp2_with (first
          | (go_at_call 8; (with_reducible refine hBg.out.mono ?_); rintro e w3 ⟨rfl, b3⟩; have hO3 := Lib.hid (hO1.out.up b3); have hBy := Lib.hid (hN.out _ _ _ (hOa.out.up b3) (hOb.out.up b3)))
          | (go_at_call 9; (with_reducible refine hBy.out.mono ?_); rintro e w4 ⟨rfl, b4⟩; have hO4 := Lib.hid (hO3.out.up b4)))
        go_meet
        exact ⟨rfl, hO4.out⟩
    case rest =>
      obtain ⟨rfl, hO3⟩ := hcut
      have Hm : Hid (m = R.length) := HF.out.2.2.1
      clear HF hO1 hO
      have hCl : Hid (Calls Try.prog 10 #[.pointer (some ⟨g, 0, none⟩)] wc fun e w' => ∃ g2, e = .returned (.pointer (some ⟨g2, 0, none⟩)) ∧ Hid (SvC w w' g lg g2 i m A9 c9 R)) := sv_clone hO3.out (by omega)
      have HO2 : Hid (∀ W g2, SvC w W g lg g2 i m A9 c9 R → Calls Try.prog 7 #[.pointer (some ⟨g2, 0, none⟩), .int .i64 2, .int .i64 4, .int .i64 1, .int .i64 ((i : Int) + 1)] W fun e w' => ∃ (lg2 : Nat) (A2 : Option Addr) (c2 : Nat), e = .returned (.tuple #[.pointer (some ⟨lg2, 0, none⟩), .slice A2 m c2, .int .i64 0]) ∧ Hid (SvI w w' g lg i 0 m A9 c9 ∧ BLw w' (fun _ => True) A9 R ∧ BLw w' (fun _ => True) A2 R)) := fun W g2 h => by
        have h5 := sv_open2 h (by omega)
        rw [ei] at h5
        exact h5
      clear hO3
      go_upto_region 15 with (first
        | (go_at_call 10; (with_reducible refine hCl.out.mono ?_); rintro e w4 ⟨g2, rfl, hC4⟩; clear hCl)
        | (go_at_call 7; (with_reducible refine (HO2.out _ _ hC4.out).mono ?_); rintro e w5 ⟨lg2, A12, c12, rfl, hO5⟩; have hBy : Hid (Calls Try.prog 9 #[.slice A9 m c9, .slice A12 m c12] w5 fun e w' => e = .returned (.bool true) ∧ Below w5.heap.size w5 w') := rbytesw_yes R m A9 A12 c9 c12 w5 _ _ Hm.out (by omega) hO5.out.2.1 hO5.out.2.2; clear hC4)
        | (go_at_call 9; (with_reducible refine hBy.out.mono ?_); rintro e w6 ⟨rfl, b6⟩; have hI := Lib.hid (hO5.out.1.up b6); clear hO5 hBy b6))
      clear HO2
      by_cases hlt : i < n
      · have d2 : decide ((i : Int) = (n : Int)) = false := decide_eq_false (by omega)
        have d3 : decide (i = n) = false := decide_eq_false (by omega)
        have hi2 : i < l.length := by have := Hn.out; omega
        obtain ⟨b, off, rfl, hbb, hcc⟩ := HD.out (by omega)
        obtain ⟨tA, tc, mA, mc, hV, k0, k1, k2⟩ := hcc i hi2
        obtain ⟨st, hst⟩ : ∃ x, x = l[i].stop := ⟨_, rfl⟩
        obtain ⟨nt, hnt⟩ : ∃ x, x = l[i].texts.length := ⟨_, rfl⟩
        obtain ⟨nm, hnm⟩ : ∃ x, x = l[i].masks.length := ⟨_, rfl⟩
        rw [← hst] at k0
        rw [← hnt] at k1
        rw [← hnm] at k2
        have HC : Hid (∀ W, Below w.heap.size w W → W.cell? ⟨b, off + i * 3, none⟩ = some (.int .i64 st) ∧ W.cell? ⟨b, off + i * 3 + 1, none⟩ = some (.slice tA nt tc) ∧ W.cell? ⟨b, off + i * 3 + 2, none⟩ = some (.slice mA nm mc)) := fun W hW => ⟨(hW.cell (p := ⟨b, off + i * 3, none⟩) hbb).trans k0, (hW.cell (p := ⟨b, off + i * 3 + 1, none⟩) hbb).trans k1, (hW.cell (p := ⟨b, off + i * 3 + 2, none⟩) hbb).trans k2⟩
        have HV := Lib.hid hV
        have HSi : Hid (InI st) := by
          have h1 : InI l[i].stop := hV.2.2.1
          rwa [← hst] at h1
        have HX : Hid (st = l[i].stop ∧ nt = l[i].texts.length ∧ nm = l[i].masks.length) := ⟨hst, hnt, hnm⟩
        have a22 := fun w' => Try.lifeAgg w'
        have s22 := fun w' => Try.lifeSize w'
        clear hcc k0 k1 k2 hV hst hnt hnm hbb
        obtain ⟨v0, v1, v2⟩ := HC.out w6 hI.out.below
        by_cases h10 : 10 < nt
        · have d4 : decide ((nt : Int) > 10) = true := decide_eq_true (by omega)
          have d5 : decide ((10 : Int) < (nt : Int)) = true := decide_eq_true (by omega)
          have d6 : decide (10 < nt) = true := decide_eq_true h10
          go_wp2_with (first
            | (go_at_call 6; (with_reducible refine (HAw.out _).mono ?_); rintro e w7 ⟨rfl, hb7⟩))
          go_ret
          exact ⟨rfl, chain7 hI.out.below hb7⟩
        · have d4 : decide ((nt : Int) > 10) = false := decide_eq_false (by omega)
          have d5 : decide ((10 : Int) < (nt : Int)) = false := decide_eq_false (by omega)
          have d6 : decide (10 < nt) = false := decide_eq_false h10
          go_upto_if 103 with (fail)
          go_cut [110] from 28 to 167 (fun _ wx => Hid (SvI w wx g lg i 0 m A9 c9))
          case first =>
            by_cases hst0 : 0 ≤ st
            · have d7 : decide (st ≥ 0) = true := decide_eq_true hst0
              have d8 : decide ((0 : Int) ≤ st) = true := decide_eq_true hst0
              go_wp2_with (first
                | (go_at_call 11; (with_reducible refine (sv_stop hI.out st HSi.out).mono ?_); rintro e w7 ⟨x7, rfl, hI7⟩))
              go_meet
              exact hI7
            · have d7 : decide (st ≥ 0) = false := decide_eq_false hst0
              have d8 : decide ((0 : Int) ≤ st) = false := decide_eq_false hst0
              go_wp2_with (fail)
              go_meet
              exact hI
          case rest =>
            clear hI v0 v1 v2 Hm
            go_wp2
            go_loopw [5, 6, 14] (fun v x y wr => ∃ (k m cc : Nat) (AA : Option Addr), k ≤ nt ∧ v = .slice AA m cc ∧ x = .slice AA m cc ∧ y = .int .i64 (k : Int) ∧ Hid (SvI w wr g lg i k m AA cc)) (fun _ _ y _ => nt - (intOf y).toNat)
            case atStart => exact ⟨0, m, c9, A9, by omega, rfl, rfl, rfl, hcut.out⟩
            case round =>
              clear hcut
              obtain ⟨k, m, cc, AA, hk, rfl, rfl, rfl, HI⟩ := hrel
              obtain ⟨v0, v1, v2⟩ := HC.out wr HI.out.below
              by_cases hkn : k < nt
              · have f0 : decide ((k : Int) < (nt : Int)) = true := decide_eq_true (by omega)
                have f1 : decide (k < nt) = true := decide_eq_true hkn
                have hk2 : k < l[i].texts.length := by have := HX.out.2.1; omega
                obtain ⟨bt, ot, rfl, hbt, htt⟩ := HV.out.1 (by omega)
                obtain ⟨Ti, ci, q1, q2, q3, q4⟩ := htt k hk2
                obtain ⟨tx, htx⟩ : ∃ x, x = l[i].texts[k] := ⟨_, rfl⟩
                rw [← htx] at q1 q2 q3
                obtain ⟨lt, hlt2⟩ : ∃ x, x = tx.length := ⟨_, rfl⟩
                rw [← hlt2] at q1 q3
                have HU : Hid (∀ W, Below w.heap.size w W → W.cell? ⟨bt, ot + k, none⟩ = some (.slice Ti lt ci)) := fun W hW => (hW.cell (p := ⟨bt, ot + k, none⟩) hbt).trans q1
                have u0 := HU.out wr HI.out.below
                by_cases h900 : 900 < lt
                · have f2 : decide ((lt : Int) > 900) = true := decide_eq_true (by omega)
                  have f3 : decide ((900 : Int) < (lt : Int)) = true := decide_eq_true (by omega)
                  have f4 : decide (900 < lt) = true := decide_eq_true h900
                  clear q1 q2 q3 q4 htt htx hlt2
                  go_wp2_with (first
                    | (go_at_call 6; (with_reducible refine (HAw.out _).mono ?_); rintro e wz ⟨rfl, hbz⟩))
                  go_ret
                  exact ⟨rfl, chain7 HI.out.below hbz⟩
                · have f2 : decide ((lt : Int) > 900) = false := decide_eq_false (by omega)
                  have f3 : decide ((900 : Int) < (lt : Int)) = false := decide_eq_false (by omega)
                  have f4 : decide (900 < lt) = false := decide_eq_false h900
                  have HT : Hid (lt = tx.length ∧ RB w w.heap.size Ti tx ∧ lt ≤ ci ∧ ci ≤ maxLen) := ⟨hlt2, q2, q3, q4⟩
                  clear q1 q2 q3 q4 htt htx hlt2
                  go_upto_region 25 with (fail)
                  go_cut [6] from 111 to 160 (fun s6 wx => ∃ A6 c6, s6 = .slice A6 (m + 1) c6 ∧ Hid (SvL w wx g lg i k m AA cc A6 c6 tx))
                  case first =>
                    obtain ⟨news, hRd, hone, hEnd⟩ := HI.out.reads
                    have HRd := Lib.hid hRd
                    have Hone := Lib.hid hone
                    have HEnd := Lib.hid hEnd
                    have hfew := HI.out.few
                    have hm17 : m ≤ 16 := hfew.1
                    have hIn : Hid (i < n ∧ k < nt) := ⟨hlt, hkn⟩
                    have HS : Hid (∀ W, Below wr.heap.size wr W → W.cell? ⟨b, off + i * 3 + 1, none⟩ = some (.slice (some ⟨bt, ot, none⟩) nt tc) ∧ W.cell? ⟨bt, ot + k, none⟩ = some (.slice Ti lt ci)) := fun W hW => by
                      have hb := HI.out.below.trans (hW.mono HI.out.below.size)
                      exact ⟨(HC.out W hb).2.1, HU.out W hb⟩
                    obtain ⟨i0, hi0, hz0, hz1, hz2⟩ := info_parts Try.textsInfo13
                    clear hRd hone hEnd hfew u0 v0 v1 v2 f0 f1 f2 f3 f4 d0 d1 d2 d3 d4 d5 d6 y7 a22 s22 z0 z1 n0 n1
                    have hV0 : Below wr.heap.size wr wr.drew := (Below.refl _ _).drew
                    have hS0 := HS.out _ hV0
                    refine region_T (fun V => V.cell? ⟨b, off + i * 3 + 1, none⟩ = some (.slice (some ⟨bt, ot, none⟩) nt tc) ∧ V.cell? ⟨bt, ot + k, none⟩ = some (.slice Ti lt ci)) (fun k => decide (13 ≤ k)) (by kernel_rfl) ?_
                    refine any_asT rfl (listed' := #[false, false, false, false, false, false, false, false, false, false, false, false, false, false]) (by kernel_rfl) ?_
                    refine take_d (i := 1) (.slice AA m cc) 133 rfl (by kernel_rfl) (by kernel_rfl) (by kernel_rfl) (by kernel_rfl) rfl (by kernel_rfl) (by kernel_rfl) (fun V hV => by kernel_rfl) hS0 (fun _ _ _ h => h) ?_
                    simp only [Act.put, List.setIfInBounds_toArray, List.set_cons_zero, List.set_cons_succ]
                    refine take_d (i := 3) (.slice (some ⟨b, off, none⟩) n c) 135 rfl (by kernel_rfl) (by kernel_rfl) (by kernel_rfl) (by kernel_rfl) rfl (by kernel_rfl) (by kernel_rfl) (fun V hV => by kernel_rfl) hS0 (fun _ _ _ h => h) ?_
                    simp only [Act.put, List.setIfInBounds_toArray, List.set_cons_zero, List.set_cons_succ]
                    refine take_d (i := 4) (.int .i64 (i : Int)) 136 rfl (by kernel_rfl) (by kernel_rfl) (by kernel_rfl) (by kernel_rfl) rfl (by kernel_rfl) (by kernel_rfl) (fun V hV => by kernel_rfl) hS0 (fun _ _ _ h => h) ?_
                    simp only [Act.put, List.setIfInBounds_toArray, List.set_cons_zero, List.set_cons_succ]
                    refine take_d (i := 5) (.pointer (some ⟨b, off + i * 3, none⟩)) 137 rfl (by kernel_rfl) (by kernel_rfl) (by kernel_rfl) (by kernel_rfl) rfl (by kernel_rfl) (by kernel_rfl) (fun V hV => lidx_run (.tmp 135) (.tmp 136) b off n c i (by kernel_rfl) (by kernel_rfl) (by kernel_rfl) hIn.out.1) hS0 (fun _ _ _ h => h) ?_
                    simp only [Act.put, List.setIfInBounds_toArray, List.set_cons_zero, List.set_cons_succ]
                    refine take_d (i := 6) (.pointer (some ⟨b, off + i * 3 + 1, none⟩)) 138 rfl (by kernel_rfl) (by kernel_rfl) (by kernel_rfl) (by kernel_rfl) rfl (by kernel_rfl) (by kernel_rfl) (fun V hV => lfld_run (.tmp 137) b (off + i * 3) (by kernel_rfl) (by kernel_rfl)) hS0 (fun _ _ _ h => h) ?_
                    simp only [Act.put, List.setIfInBounds_toArray, List.set_cons_zero, List.set_cons_succ]
                    refine take_d (i := 7) (.slice (some ⟨bt, ot, none⟩) nt tc) 139 rfl (by kernel_rfl) (by kernel_rfl) (by kernel_rfl) (by kernel_rfl) rfl (by kernel_rfl) (by kernel_rfl) (fun V hV => cell_run 28 (.tmp 138) ⟨b, off + i * 3 + 1, none⟩ (.slice (some ⟨bt, ot, none⟩) nt tc) _ (by kernel_rfl) (by kernel_rfl) hV.1 Try.underlying28 rfl (by kernel_rfl)) hS0 (fun _ _ _ h => h) ?_
                    simp only [Act.put, List.setIfInBounds_toArray, List.set_cons_zero, List.set_cons_succ]
                    refine take_d (i := 8) (.int .i64 (k : Int)) 140 rfl (by kernel_rfl) (by kernel_rfl) (by kernel_rfl) (by kernel_rfl) rfl (by kernel_rfl) (by kernel_rfl) (fun V hV => by kernel_rfl) hS0 (fun _ _ _ h => h) ?_
                    simp only [Act.put, List.setIfInBounds_toArray, List.set_cons_zero, List.set_cons_succ]
                    refine take_d (i := 9) (.pointer (some ⟨bt, ot + k, none⟩)) 141 rfl (by kernel_rfl) (by kernel_rfl) (by kernel_rfl) (by kernel_rfl) rfl (by kernel_rfl) (by kernel_rfl) (fun V hV => tidx_run (.tmp 139) (.tmp 140) bt ot nt tc k (by kernel_rfl) (by kernel_rfl) (by kernel_rfl) hIn.out.2) hS0 (fun _ _ _ h => h) ?_
                    simp only [Act.put, List.setIfInBounds_toArray, List.set_cons_zero, List.set_cons_succ]
                    refine take_d (i := 10) (.slice Ti lt ci) 142 rfl (by kernel_rfl) (by kernel_rfl) (by kernel_rfl) (by kernel_rfl) rfl (by kernel_rfl) (by kernel_rfl) (fun V hV => cell_run 38 (.tmp 141) ⟨bt, ot + k, none⟩ (.slice Ti lt ci) _ (by kernel_rfl) (by kernel_rfl) hV.2 Try.underlying38 rfl (by kernel_rfl)) hS0 (fun _ _ _ h => h) ?_
                    simp only [Act.put, List.setIfInBounds_toArray, List.set_cons_zero, List.set_cons_succ]
                    refine any_twoT (i := 0) (j := 11) (by kernel_rfl) ?_ ?_
                    · have BA : Below wr.heap.size wr (World.alloc wr.drew (.cells #[] 38)) := hV0.alloc hV0.size _
                      refine op_valueL (.slice (some ⟨(wr.drew).heap.size, 0, none⟩) 0 0) 132 rfl rfl (by kernel_rfl) (w' := (World.alloc wr.drew (.cells #[] 38))) (by kernel_rfl) ⟨HS.out _ BA, ?_⟩
                      simp only [Act.put, List.setIfInBounds_toArray, List.set_cons_zero, List.set_cons_succ]
                      have OA := (World.ownsRow_made wr.drew #[] 0 (Nat.le_refl _) (by simp [maxLen]) rfl : (World.alloc wr.drew (.cells #[] 38)).ownsRow wr.heap.size 38 1 (.slice (some ⟨wr.heap.size, 0, none⟩) 0 0) 0 [])
                      refine any_twoT (i := 2) (j := 11) (by kernel_rfl) ?_ ?_
                      · refine op_append rfl (by kernel_rfl) (.tmp 132) (.tmp 133) 28 rfl wr.heap.size 38 i0 _ 1 24 Try.underlying28 hi0 hz0 hz1 hz2 rfl (by omega) (.slice (some ⟨wr.heap.size, 0, none⟩) 0 0) 0 [] (by kernel_rfl) OA wr.heap.size AA m cc news (by kernel_rfl) (HRd.out.below BA) Hone.out (by unfold maxLen; omega) (by omega) BA.size ?_
                        intro v9 w9 ho9 hg9 hat9
                        rw [List.nil_append, Nat.zero_add] at ho9
                        have B9 : Below wr.heap.size wr w9 := BA.grown hg9 BA.size (fun j hj => (OA.lt j hj).1)
                        obtain ⟨A9', c9', rfl⟩ := own_slice13 ho9
                        refine ⟨HS.out _ B9, ?_⟩
                        simp only [Act.put, List.setIfInBounds_toArray, List.set_cons_zero, List.set_cons_succ]
                        have BB : Below wr.heap.size wr (World.alloc w9 (.cells #[.slice Ti lt ci] 38)) := B9.alloc B9.size _
                        refine any_comes (i := 11) (by kernel_rfl) (op_valueL (.slice (some ⟨(w9).heap.size, 0, none⟩) 1 1) 143 rfl rfl (by kernel_rfl) (w' := (World.alloc w9 (.cells #[.slice Ti lt ci] 38))) (by kernel_rfl) ⟨HS.out _ BB, ?_⟩)
                        simp only [Act.put, List.setIfInBounds_toArray, List.set_cons_zero, List.set_cons_succ]
                        have OB := row_kept13 ho9 ((Below.refl _ w9).alloc (Nat.le_refl _) (.cells #[.slice Ti lt ci] 38))
                        refine any_comes (i := 12) (by kernel_rfl) (op_append rfl (by kernel_rfl) (.tmp 134) (.tmp 143) 28 rfl wr.heap.size 38 i0 _ 1 24 Try.underlying28 hi0 hz0 hz1 hz2 rfl (by omega) (.slice A9' m c9') m news (by kernel_rfl) OB (w9.heap.size + 1) (some ⟨w9.heap.size, 0, none⟩) 1 1 [.slice Ti lt ci] (by kernel_rfl) (text_src w9 (.slice Ti lt ci) 38) (rowT_one Ti lt ci) (by unfold maxLen; omega) (by omega) BB.size ?_)
                        intro va wa hoa hga hata
                        have Ba : Below wr.heap.size wr wa := BB.grown hga BB.size (fun j hj => (OB.lt j hj).1)
                        obtain ⟨Aa, ca, rfl, hLa⟩ := HEnd.out wa va Ti tx lt ci Ba hoa HT.out.1 HT.out.2.1
                        refine ⟨HS.out _ Ba, ?_⟩
                        simp only [Act.put, List.setIfInBounds_toArray, List.set_cons_zero, List.set_cons_succ]
                        refine any_left (by kernel_rfl) ?_
                        refine wpAny_tail 13 (by kernel_rfl) (by kernel_rfl) ?_
                        clear hS0 hV0 ho9 hoa hg9 hat9 hga hata B9 Ba
                        go_wp2_with (fail)
                        go_meet
                        exact ⟨Aa, ca, rfl, hLa⟩
                      · have BB : Below wr.heap.size wr (World.alloc (World.alloc wr.drew (.cells #[] 38)) (.cells #[.slice Ti lt ci] 38)) := BA.alloc BA.size _
                        refine op_valueL (.slice (some ⟨((World.alloc wr.drew (.cells #[] 38))).heap.size, 0, none⟩) 1 1) 143 rfl rfl (by kernel_rfl) (w' := (World.alloc (World.alloc wr.drew (.cells #[] 38)) (.cells #[.slice Ti lt ci] 38))) (by kernel_rfl) ⟨HS.out _ BB, ?_⟩
                        simp only [Act.put, List.setIfInBounds_toArray, List.set_cons_zero, List.set_cons_succ]
                        have OB := row_kept13 OA ((Below.refl _ (World.alloc wr.drew (.cells #[] 38))).alloc (Nat.le_refl _) (.cells #[.slice Ti lt ci] 38))
                        have hcT : ((World.alloc (World.alloc wr.drew (.cells #[] 38)) (.cells #[.slice Ti lt ci] 38))).cell? ⟨(World.alloc wr.drew (.cells #[] 38)).heap.size, 0, none⟩ = some (.slice Ti lt ci) := (Blk.new (World.alloc wr.drew (.cells #[] 38)) 38 #[.slice Ti lt ci]).cell 0
                        refine any_comes (i := 2) (by kernel_rfl) (op_append rfl (by kernel_rfl) (.tmp 132) (.tmp 133) 28 rfl wr.heap.size 38 i0 _ 1 24 Try.underlying28 hi0 hz0 hz1 hz2 rfl (by omega) (.slice (some ⟨wr.heap.size, 0, none⟩) 0 0) 0 [] (by kernel_rfl) OB wr.heap.size AA m cc news (by kernel_rfl) (HRd.out.below BB) Hone.out (by unfold maxLen; omega) (by omega) BB.size ?_)
                        intro v9 w9 ho9 hg9 hat9
                        rw [List.nil_append, Nat.zero_add] at ho9
                        have B9 : Below wr.heap.size wr w9 := BB.grown hg9 BB.size (fun j hj => (OB.lt j hj).1)
                        obtain ⟨A9', c9', rfl⟩ := own_slice13 ho9
                        refine ⟨HS.out _ B9, ?_⟩
                        simp only [Act.put, List.setIfInBounds_toArray, List.set_cons_zero, List.set_cons_succ]
                        have hRT := text_grown (w1 := w9) hcT hg9 (by simp [Value.ownBlock])
                        refine any_comes (i := 12) (by kernel_rfl) (op_append rfl (by kernel_rfl) (.tmp 134) (.tmp 143) 28 rfl wr.heap.size 38 i0 _ 1 24 Try.underlying28 hi0 hz0 hz1 hz2 rfl (by omega) (.slice A9' m c9') m news (by kernel_rfl) ho9 ((World.alloc wr.drew (.cells #[] 38)).heap.size + 1) (some ⟨(World.alloc wr.drew (.cells #[] 38)).heap.size, 0, none⟩) 1 1 [.slice Ti lt ci] (by kernel_rfl) hRT (rowT_one Ti lt ci) (by unfold maxLen; omega) (by omega) B9.size ?_)
                        intro va wa hoa hga hata
                        have Ba : Below wr.heap.size wr wa := B9.grown hga B9.size (fun j hj => (ho9.lt j hj).1)
                        obtain ⟨Aa, ca, rfl, hLa⟩ := HEnd.out wa va Ti tx lt ci Ba hoa HT.out.1 HT.out.2.1
                        refine ⟨HS.out _ Ba, ?_⟩
                        simp only [Act.put, List.setIfInBounds_toArray, List.set_cons_zero, List.set_cons_succ]
                        refine any_left (by kernel_rfl) ?_
                        refine wpAny_tail 13 (by kernel_rfl) (by kernel_rfl) ?_
                        clear hS0 hV0 ho9 hoa hg9 hat9 hga hata B9 Ba
                        go_wp2_with (fail)
                        go_meet
                        exact ⟨Aa, ca, rfl, hLa⟩
                    · have BA : Below wr.heap.size wr (World.alloc wr.drew (.cells #[.slice Ti lt ci] 38)) := hV0.alloc hV0.size _
                      refine op_valueL (.slice (some ⟨(wr.drew).heap.size, 0, none⟩) 1 1) 143 rfl rfl (by kernel_rfl) (w' := (World.alloc wr.drew (.cells #[.slice Ti lt ci] 38))) (by kernel_rfl) ⟨HS.out _ BA, ?_⟩
                      simp only [Act.put, List.setIfInBounds_toArray, List.set_cons_zero, List.set_cons_succ]
                      have BB : Below wr.heap.size wr (World.alloc (World.alloc wr.drew (.cells #[.slice Ti lt ci] 38)) (.cells #[] 38)) := BA.alloc BA.size _
                      refine any_comes (i := 0) (by kernel_rfl) (op_valueL (.slice (some ⟨((World.alloc wr.drew (.cells #[.slice Ti lt ci] 38))).heap.size, 0, none⟩) 0 0) 132 rfl rfl (by kernel_rfl) (w' := (World.alloc (World.alloc wr.drew (.cells #[.slice Ti lt ci] 38)) (.cells #[] 38))) (by kernel_rfl) ⟨HS.out _ BB, ?_⟩)
                      simp only [Act.put, List.setIfInBounds_toArray, List.set_cons_zero, List.set_cons_succ]
                      have OB : ((World.alloc (World.alloc wr.drew (.cells #[.slice Ti lt ci] 38)) (.cells #[] 38))).ownsRow wr.heap.size 38 1 (.slice (some ⟨((World.alloc wr.drew (.cells #[.slice Ti lt ci] 38))).heap.size, 0, none⟩) 0 0) 0 [] := World.ownsRow_made (World.alloc wr.drew (.cells #[.slice Ti lt ci] 38)) #[] 0 BA.size (by simp [maxLen]) rfl
                      have hcT : ((World.alloc (World.alloc wr.drew (.cells #[.slice Ti lt ci] 38)) (.cells #[] 38))).cell? ⟨wr.heap.size, 0, none⟩ = some (.slice Ti lt ci) := (((Below.refl _ (World.alloc wr.drew (.cells #[.slice Ti lt ci] 38))).alloc (Nat.le_refl _) (.cells #[] 38)).cell (p := ⟨wr.heap.size, 0, none⟩) (by simp)).trans ((Blk.new wr.drew 38 #[.slice Ti lt ci]).cell 0)
                      refine any_comes (i := 2) (by kernel_rfl) (op_append rfl (by kernel_rfl) (.tmp 132) (.tmp 133) 28 rfl wr.heap.size 38 i0 _ 1 24 Try.underlying28 hi0 hz0 hz1 hz2 rfl (by omega) (.slice (some ⟨((World.alloc wr.drew (.cells #[.slice Ti lt ci] 38))).heap.size, 0, none⟩) 0 0) 0 [] (by kernel_rfl) OB wr.heap.size AA m cc news (by kernel_rfl) (HRd.out.below BB) Hone.out (by unfold maxLen; omega) (by omega) BB.size ?_)
                      intro v9 w9 ho9 hg9 hat9
                      rw [List.nil_append, Nat.zero_add] at ho9
                      have B9 : Below wr.heap.size wr w9 := BB.grown hg9 BB.size (fun j hj => (OB.lt j hj).1)
                      obtain ⟨A9', c9', rfl⟩ := own_slice13 ho9
                      refine ⟨HS.out _ B9, ?_⟩
                      simp only [Act.put, List.setIfInBounds_toArray, List.set_cons_zero, List.set_cons_succ]
                      have hRT := text_grown (w1 := w9) hcT hg9 (by simp [Value.ownBlock])
                      refine any_comes (i := 12) (by kernel_rfl) (op_append rfl (by kernel_rfl) (.tmp 134) (.tmp 143) 28 rfl wr.heap.size 38 i0 _ 1 24 Try.underlying28 hi0 hz0 hz1 hz2 rfl (by omega) (.slice A9' m c9') m news (by kernel_rfl) ho9 (wr.heap.size + 1) (some ⟨wr.heap.size, 0, none⟩) 1 1 [.slice Ti lt ci] (by kernel_rfl) hRT (rowT_one Ti lt ci) (by unfold maxLen; omega) (by omega) B9.size ?_)
                      intro va wa hoa hga hata
                      have Ba : Below wr.heap.size wr wa := B9.grown hga B9.size (fun j hj => (ho9.lt j hj).1)
                      obtain ⟨Aa, ca, rfl, hLa⟩ := HEnd.out wa va Ti tx lt ci Ba hoa HT.out.1 HT.out.2.1
                      refine ⟨HS.out _ Ba, ?_⟩
                      simp only [Act.put, List.setIfInBounds_toArray, List.set_cons_zero, List.set_cons_succ]
                      refine any_left (by kernel_rfl) ?_
                      refine wpAny_tail 13 (by kernel_rfl) (by kernel_rfl) ?_
                      clear hS0 hV0 ho9 hoa hg9 hat9 hga hata B9 Ba
                      go_wp2_with (fail)
                      go_meet
                      exact ⟨Aa, ca, rfl, hLa⟩
                  case rest =>
                    clear u0 v0 v1 v2
                    obtain ⟨A6', c6', rfl, hL⟩ := hcut
                    have hbL : Below w.heap.size w wc := by
                      obtain ⟨F, E, d, l0, all0, h1, _⟩ := hL.out
                      exact h1.has.below
                    obtain ⟨v0, v1, v2⟩ := HC.out wc hbL
                    have u0 := HU.out wc hbL
                    have yk : IntKind.i64.wrap ((k : Int) + 1) = (k : Int) + 1 := IntWalk.i64_in _ (by omega)
                    have hAp := Lib.hid (sv_append hL.out (by omega) (by omega) Ti lt ci HT.out.1 (by omega) HT.out.2.1 HT.out.2.2.1 (by have := HT.out.2.2.2; unfold maxLen at this; omega))
                    clear hL hbL HI
                    go_upto_region 27 with (first
                      | (go_at_call 12; (with_reducible refine hAp.out.mono ?_); intro e w8 hh; rcases hh with ⟨⟨code, hcode, rfl⟩, hI8⟩ | ⟨rfl, hI8⟩ | ⟨rfl, hE8⟩))
                    · have p0 : decide (code = 9) = false := decide_eq_false (by omega)
                      have p1 : decide (code = 0) = false := decide_eq_false (by omega)
                      clear hAp v0 v1 v2 u0
                      go_wp2_with (fail)
                      go_roundw
                      case rel => exact ⟨k + 1, m, cc, AA, by omega, rfl, rfl, by go_num, hI8.out⟩
                      case measure => simp [intOf]; omega
                    · clear hAp v0 v1 v2 u0
                      go_wp2_with (fail)
                      go_roundw
                      case rel => exact ⟨k + 1, m + 1, c6', A6', by omega, rfl, rfl, by go_num, hI8.out⟩
                      case measure => simp [intOf]; omega
                    · clear hAp v0 v1 v2 u0
                      have hbE := hE8.out.below
                      obtain ⟨v0, v1, v2⟩ := HC.out w8 hbE
                      have hCr := Lib.hid (sv_crash hE8.out mA l[i].masks nm mc HX.out.2.2 HV.out.2.1)
                      clear hbE
                      go_wp2_with (first
                        | (go_at_call 13; (with_reducible refine hCr.out.mono ?_); rintro e w9 ⟨rfl, hA9⟩))
                      go_roundw
                      case rel => exact ⟨i + 1, m, cc, m + 1, c6', AA, A6', by omega, rfl, rfl, by go_num, hA9.out⟩
                      case measure => simp [intOf]; omega
              · have f0 : decide ((k : Int) < (nt : Int)) = false := decide_eq_false (by omega)
                have f1 : decide (k < nt) = false := decide_eq_false hkn
                have hE := Lib.hid (HI.out.end_ (by omega))
                have hCr := Lib.hid (sv_crash hE.out mA l[i].masks nm mc HX.out.2.2 HV.out.2.1)
                go_wp2_with (first
                  | (go_at_call 13; (with_reducible refine hCr.out.mono ?_); rintro e w8 ⟨rfl, hA8⟩))
                go_roundw
                case rel => exact ⟨i + 1, m, cc, m, cc, AA, AA, by omega, rfl, rfl, by go_num, hA8.out⟩
                case measure => simp [intOf]; omega
      · have d2 : decide ((i : Int) = (n : Int)) = true := decide_eq_true (by omega)
        have d3 : decide (i = n) = true := decide_eq_true (by omega)
        go_wp2_with (first
          | (go_at_call 6; (with_reducible refine (HAw.out _).mono ?_); rintro e w7 ⟨rfl, hb7⟩))
        go_ret
        exact ⟨rfl, chain7 hI.out.below hb7⟩
theorem wsurv_any (l : List Lf) (A : Option Addr) (c : Nat) (w : World) (hD : LL13 w w.heap.size A l) :
    Calls Try.prog 3 #[.slice A l.length c] w fun e w' => e = .returned (.bool true) ∧ Below w.heap.size w w' := by
  by_cases h : l.length ≤ 12
  · exact wsurv_in l A _ c w hD rfl h
  · exact wsurv_out A _ c w (by omega)
theorem Try.cellsLifeS : Try.prog.cellsOf 36 = 3 := by kernel_rfl
theorem Try.cellsIntS : Try.prog.cellsOf 3 = 1 := by kernel_rfl
theorem Try.cellsTxtS : Try.prog.cellsOf 28 = 1 := by kernel_rfl
theorem Try.cellsIntsS : Try.prog.cellsOf 34 = 1 := by kernel_rfl
theorem Try.cellsByS : Try.prog.cellsOf 38 = 1 := by kernel_rfl
theorem Try.cellsB1S : Try.prog.cellsOf 5 = 1 := by kernel_rfl
theorem open_ll13 {H : Type} {enc : TypeId × Value → H} {W : World} {base : Nat} {v : Value} {d : DataW H} {ps : List MemPlace} (hv : Value.okWide Try.prog W .any base 22 v) (h : DataW.Trod enc Try.prog W 0 (fun _ => true) true 22 v d ps) :
    ∃ (A : Option Addr) (D : List Lf) (c : Nat), v = .slice A D.length c ∧ LL13 W W.heap.size A D ∧ D.length ≤ c ∧ c ≤ 9223372036854775807 := by
  obtain ⟨a0, len, cap, rfl⟩ := okWide_slice Try.underlying22 hv
  obtain ⟨fuel, hf⟩ := h
  exact open_lives (fuel := fuel) Try.underlying22 Try.underlying36 Try.cellsLifeS rfl rfl rfl Try.cellsIntS Try.cellsTxtS Try.cellsIntsS Try.underlying3 Try.underlying28 Try.underlying34 Try.underlying38 Try.cellsByS Try.underlying5 Try.cellsB1S Try.underlying3 Try.cellsIntS (by simpa [Value.cells] using hf)
theorem wsurv_lifted (os : Os) (started : os.Started) (H : Type) (enc : TypeId × Value → H) :
    ReturnsInHanded {} Try.checked os 3 .any (Rows.walSurvivesSpec.pre6 enc Try.prog Try.f3 Rows.walSurvivesRow.domain false) (Rows.walSurvivesSpec.post enc Try.prog Try.f3 false true false false) := by
  refine returnsInHanded_of_change_sized (C := Try.checked) Try.own started (by kernel_rfl) Try.func3
    (ChangeSpec.witness6 (enc := enc) (C := Try.checked) false ⟨#[], #[.slice none 0 0], []⟩ 8 (by kernel_rfl) (by kernel_rfl) (by kernel_rfl) (by kernel_rfl)) ?_
  intro W base args ds gs before hval0 hW hcnd hsz0 _
  have hval : ∀ (j : Nat) t v, Try.f3.params[j]? = some t → args[j]? = some v → Value.okWide Try.prog W .any base t v := hval0
  have hW' : DataW.Whole enc Try.prog Try.f3.params.toList Rows.walSurvivesSpec.vars false W args.toList ds gs before := hW
  have hWk := hW'
  clear hsz0 hval0
  obtain ⟨p, q, hA, hV, rfl, hfz, hnd⟩ := hW'
  rw [Try.params3] at hA hval
  obtain ⟨v0, d0, rfl, rfl, h0⟩ := trodAll_one hA
  obtain ⟨rfl, rfl⟩ := trodVars_none hV
  obtain ⟨A, D, c, rfl, hD, _, _⟩ := open_ll13 (hval 0 22 v0 rfl rfl) h0
  refine (wsurv_any D A c W hD).mono fun e W' ⟨he, hb⟩ => ⟨_, he, ?_⟩
  exact law_post Try.laidOut hWk rfl rfl rfl rfl rfl Try.underlying4 (by kernel_rfl) hb
theorem wsurv_holds : Rows.WalSurvivesSaid :=
  OpenClaim.holds_of_wide 3 Try.f3 rfl rfl rfl rfl rfl rfl rfl ⟨rfl, rfl, rfl, rfl, rfl⟩ rfl rfl rfl rfl rfl (by kernel_rfl) Try.func3 (by kernel_rfl)
    (of_decide_eq_true (by kernel_rfl)) (by unfold Func.isWrapper; first | (rw [if_pos (by decide +kernel)]; kernel_rfl) | (rw [if_neg (by decide +kernel)]; exact ⟨rfl, rfl⟩))
    (fun os started H enc _ => wsurv_lifted os started H enc)
end Go.Proofs.Ytghenhacndaelaa
