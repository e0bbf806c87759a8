/- Lemmas under the proofs of this place: DagAddsA. No statement is proved here. -/
import Derived.Test.YtbeihiokjhfepaaBu33
import Derived.Test.YtbeihiokjhfepaaBu34
import Derived.Test.YtbeihiokjhfepaaBu12
set_option linter.unusedSimpArgs false
set_option linter.unusedVariables false
set_option maxRecDepth 100000
set_option maxHeartbeats 16000000
namespace Go.Proofs.Ytbeihiokjhfepaa
open Go.RowKit
theorem eneqf_run {o : Oper} {a : Act} {W : World} (x y : Operand) (v : Int) (ho : o.op = .binOp .neq 30 x y 30) (hx : a.eval x = .int .i64 v) (hy : a.eval y = .int .i64 v) : (execOp a.eval o).run Try.prog W = .ok (.value (.bool false)) W := by
  have hv : (binOp .neq 30 (.int .i64 v) (.int .i64 v)).run Try.prog W = .ok (.bool false) W := by simp [go_sem]
  have hg : (eqGuard .neq 30 x y (.int .i64 v) (.int .i64 v)).run Try.prog W = .ok () W := by unfold eqGuard; rfl
  unfold execOp
  simp only [ho, hx, hy, Sem.run_bind, hg, Result.andThen_ok, hv, Sem.run_pure]
theorem dagadds_any {w : World} (l : Gr) (A : Option Addr) (n c : Nat) (hn : n = l.length) (h : NL w w.heap.size A l) (hAw : ∀ W, Calls Try.prog 10 #[] W fun e w' => e = .returned (.bool true) ∧ Below W.heap.size W w') :
    Calls Try.prog 3 #[.slice A n c] w fun e w' => e = .returned (.bool true) ∧ Below w.heap.size w w' := by
  have HL : Hid (0 < l.length → ∃ b off, A = some ⟨b, off, none⟩ ∧ b < w.heap.size ∧ ∀ i, i < l.length → ∃ pA pc, SS w w.heap.size pA (l.getD i nd0).preds ∧ ((l.getD i nd0).preds.length ≤ pc ∧ pc ≤ 9223372036854775807) ∧ w.cell? ⟨b, off + i * 2, none⟩ = some (.string (text (l.getD i nd0).id)) ∧ w.cell? ⟨b, off + i * 2 + 1, none⟩ = some (.slice pA (l.getD i nd0).preds.length pc)) := fun hh => h.at_ hh
  have HN := Lib.hid hn
  have HFe : Hid (∀ W, Below w.heap.size w W → Calls Try.prog 9 #[.slice A n c] W fun e w' => ∃ b, e = .returned (.bool b) ∧ Hid (b = true → fewG l) ∧ Hid (Below W.heap.size W w')) := fun W hW => few_any l A n c W hn (h.up hW)
  have HAw := Lib.hid hAw
  clear hn h hAw
  have a27 := fun w' => Try.dagAgg w'
  have s27 := fun w' => Try.dagSize w'
  have nbz := fun w' => Try.dagZero w'
  have HEm : Hid (∀ W, Calls Try.prog 8 #[] W fun e w' => ∃ (p : Nat) (F : Nat → Prop), e = .returned (.pointer (some ⟨p, 0, none⟩)) ∧ Hid (PDag w' p F []) ∧ Hid (∀ k, F k → W.heap.size ≤ k) ∧ Hid (Below W.heap.size W w')) := fun W => dagempty_any W
  go_enter Try.func3, Try.ntmps3
  go_upto_region 2 with (go_at_call 8; (with_reducible refine (HEm.out _).mono ?_); rintro e w1 ⟨p, F, rfl, hP1, hF1, hb1⟩)
  have hS0 : Hid (AV w (w1.alloc (.cells #[.slice none 0 0] 27)) w1.heap.size p F none 0 0 []) := AV.begin hP1.out hF1.out hb1.out
  obtain ⟨R4, hR4⟩ : ∃ x, x = w1.heap.size := ⟨_, rfl⟩
  obtain ⟨wm, hwm⟩ : ∃ x, x = w1.alloc (.cells #[.slice none 0 0] 27) := ⟨_, rfl⟩
  rw [← hwm, ← hR4] at hS0 ⊢
  clear hwm hR4 hP1 hF1 hb1 HEm
  go_upto_region 4 with (first
    | (go_at_call 9; (with_reducible refine (HFe.out _ hS0.out.dh.below).mono ?_); rintro e w2 ⟨b, rfl, hb, b2⟩; have hS1 := Lib.hid (AV.up hS0.out b2.out); rcases b with _ | _)
    | (go_at_call 10; (with_reducible refine (HAw.out _).mono ?_); rintro e w3 ⟨rfl, b3⟩))
  · go_ret
    exact ⟨rfl, hS1.out.dh.below.trans (b3.mono hS1.out.dh.below.size)⟩
  have HFw := Lib.hid (hb.out trivial)
  clear hS0 b2 hb
  go_wp2
  go_loopw [5] (fun v wr => ∃ (k : Nat) (F : Nat → Prop) (A' : Option Addr) (n' c' : Nat), k ≤ n ∧ v = .int .i64 (k : Int) ∧ Hid (AV w wr R4 p F A' n' c' (makeK l k))) (fun v _ => n - (intOf v).toNat)
  case atStart => exact ⟨0, F, none, 0, 0, Nat.zero_le _, rfl, hS1.out⟩
  case round =>
    obtain ⟨k, F, A', n', c', hk, rfl, hS⟩ := hrel
    clear hS1
    by_cases hlt : k < n
    · have d0 : decide ((k : Int) < (n : Int)) = true := decide_eq_true (by omega)
      have hkl : k < l.length := by have := HN.out; omega
      have HN30 : Hid (n = l.length ∧ n ≤ 1000) := ⟨HN.out, by have := HN.out; have := HFw.out.1; omega⟩
      obtain ⟨b, off, rfl, hb, hc⟩ := HL.out (by omega)
      obtain ⟨pA, pc, hs, hcap, hc0, hc1⟩ := hc k hkl
      obtain ⟨f1, f2, f3⟩ := HFw.out.2 k hkl
      have hMk : makeK l (k + 1) = (addG (makeK l k) (l.getD k nd0).id (l.getD k nd0).preds).1 := rfl
      have hpl : Hid (∀ j, j < (makeK l (k + 1)).length → ((makeK l (k + 1)).getD j nd0).preds.length ≤ 1000) := makeK_preds HFw.out (k + 1)
      have hok1 : GrOk (makeK l (k + 1)) := makeK_ok l (k + 1)
      have hgl1 : (makeK l (k + 1)).length ≤ 1000 := by have := makeK_len l (k + 1); have := HN30.out; omega
      obtain ⟨x, hx⟩ : ∃ x, x = (l.getD k nd0).id := ⟨_, rfl⟩
      obtain ⟨ps, hps⟩ : ∃ x, x = (l.getD k nd0).preds := ⟨_, rfl⟩
      rw [← hx] at hc0 f1 hMk
      rw [← hps] at hs hcap hc1 f2 hMk
      obtain ⟨t, ht⟩ : ∃ t, t = text x := ⟨_, rfl⟩
      obtain ⟨m, hm⟩ : ∃ m, m = ps.length := ⟨_, rfl⟩
      rw [← ht] at hc0
      rw [← hm] at hc1 hcap f2
      have HSt : Hid (∀ W, Below w.heap.size w W → W.cell? ⟨b, off + k * 2, none⟩ = some (.string t) ∧ W.cell? ⟨b, off + k * 2 + 1, none⟩ = some (.slice pA m pc)) := fun W hW => ⟨(hW.cell (p := ⟨b, off + k * 2, none⟩) hb).trans hc0, (hW.cell (p := ⟨b, off + k * 2 + 1, none⟩) hb).trans hc1⟩
      obtain ⟨g, hg⟩ : ∃ g, g = makeK l k := ⟨_, rfl⟩
      have hok : GrOk g := by rw [hg]; exact makeK_ok l k
      have hgl : g.length ≤ 1000 := by have := makeK_len l k; have := HN30.out; rw [hg]; omega
      obtain ⟨g2, hg2⟩ : ∃ g, g = makeK l (k + 1) := ⟨_, rfl⟩
      rw [← hg2] at hok1 hgl1 hpl
      rw [← hg] at hMk hS
      rw [← hg2] at hMk
      obtain ⟨er, her⟩ : ∃ y, y = (addG g x ps).2 := ⟨_, rfl⟩
      have HRA : Hid (∀ (W : World), DH w W p F g → RH w W F A' n' g → Calls Try.prog 11 #[.agg #[.slice A' n' c'], .string t, .slice pA m pc] W fun e w' => ∃ (A2 : Option Addr) (n2 c2 : Nat), e = .returned (.tuple #[.agg #[.slice A2 n2 c2], .int .i64 er]) ∧ Hid (RH w w' F A2 n2 g2) ∧ Hid (Below W.heap.size W w')) := fun W hd hr => by
        rw [ht, her, hMk]
        refine (radds_any hr hd.below hd.flt hgl c' x ps pA m pc hm hs (by omega) hcap.1 hcap.2).mono fun e w' hh => ?_
        obtain ⟨A2, n2, c2, q1, q2, q3⟩ := hh
        exact ⟨A2, n2, c2, q1, q2, q3⟩
      have HAdd : Hid (∀ (W : World) (A2 : Option Addr) (n2 c2 : Nat), AT w W R4 p F A2 n2 c2 g g2 → Calls Try.prog 12 #[.pointer (some ⟨p, 0, none⟩), .string t, .slice pA m pc] W fun e w' => ∃ (F' : Nat → Prop), e = .returned (.int .i64 er) ∧ Hid (AV w w' R4 p F' A2 n2 c2 g2)) := fun W A2 n2 c2 hW => by
        rw [ht, her]
        refine (dagadd_any hW.dh.dag hok hgl x ps pA m pc (by omega) hm ((hs.below hW.dh.below).more hW.dh.below.size) (fun h0 ad e hf => ?_) (by omega) hcap.1 hcap.2).mono fun e w' hh => ?_
        · obtain ⟨pb, po, e2, h2, -⟩ := hs.at_ (by omega)
          rw [e2] at e
          injection e with e
          have h3 := hW.dh.own _ hf
          rw [← e] at h3
          have h3 : w.heap.size ≤ pb := h3
          omega
        · obtain ⟨q1, F', q2, q3⟩ := hh
          exact ⟨F', q1, hW.turned (by rw [hMk]; exact q2.out) q3.out⟩
      have HAl : Hid (∀ (W : World) (F' : Nat → Prop) (A2 : Option Addr) (n2 c2 : Nat), AV w W R4 p F' A2 n2 c2 g2 → Calls Try.prog 13 #[.pointer (some ⟨p, 0, none⟩), .agg #[.slice A2 n2 c2]] W fun e w' => e = .returned (.bool true) ∧ Below W.heap.size W w') := fun W F' A2 n2 c2 hW => alike_any hW.dh hW.v.rh hok1 hgl1 hpl.out c2
      have HMk := Lib.hid hg2
      clear hx hps ht hm hs hcap hc0 hc1 hc hb hkl f1 f2 f3 hMk hg hg2 her hok hgl hok1 hgl1 hpl
      go_wp2
      have P0 : AV w wr.drew R4 p F A' n' c' g := hS.out.up ⟨rfl, rfl, rfl, Nat.le_refl _, fun _ _ => rfl⟩
      have S0 : (Below w.heap.size w wr.drew ∧ wr.drew.cell? ⟨R4, 0, none⟩ = some (.slice A' n' c')) := ⟨P0.dh.below, P0.v.xv.cell 0⟩
      refine region_T (fun W => (Below w.heap.size w W ∧ W.cell? ⟨R4, 0, none⟩ = some (.slice A' n' c'))) (fun j => Nat.beq j 13 || Nat.beq j 14 || Nat.beq j 16 || Nat.beq j 17) (by kernel_rfl) ?_
      refine any_asT rfl (listed' := #[false, false, false, false, false, false, false, false, false, false, false, false, false, false, false, false, false, false]) (by kernel_rfl) ?_
      refine take_c (i := 0) (.agg #[.slice A' n' c']) 25 rfl (by kernel_rfl) (by kernel_rfl) (by kernel_rfl) (by kernel_rfl) (by kernel_rfl) rfl (by kernel_rfl) (by kernel_rfl) (fun W hW => dagload_run (.tmp 4) R4 A' n' c' (by kernel_rfl) (by kernel_rfl) hW.2) S0 (fun _ _ _ h => h) ?_
      simp only [Act.put, List.setIfInBounds_toArray, List.set_cons_zero, List.set_cons_succ]
      refine take_c (i := 1) (.slice (some ⟨b, off, none⟩) n c) 26 rfl (by kernel_rfl) (by kernel_rfl) (by kernel_rfl) (by kernel_rfl) (by kernel_rfl) rfl (by kernel_rfl) (by kernel_rfl) (fun W hW => by kernel_rfl) S0 (fun _ _ _ h => h) ?_
      simp only [Act.put, List.setIfInBounds_toArray, List.set_cons_zero, List.set_cons_succ]
      refine take_c (i := 2) (.int .i64 (k : Int)) 27 rfl (by kernel_rfl) (by kernel_rfl) (by kernel_rfl) (by kernel_rfl) (by kernel_rfl) rfl (by kernel_rfl) (by kernel_rfl) (fun W hW => by kernel_rfl) S0 (fun _ _ _ h => h) ?_
      simp only [Act.put, List.setIfInBounds_toArray, List.set_cons_zero, List.set_cons_succ]
      refine take_c (i := 3) (.pointer (some ⟨b, off + k * 2, none⟩)) 28 rfl (by kernel_rfl) (by kernel_rfl) (by kernel_rfl) (by kernel_rfl) (by kernel_rfl) rfl (by kernel_rfl) (by kernel_rfl) (fun W hW => nidx_run (.tmp 26) (.tmp 27) b off n c k (by kernel_rfl) (by kernel_rfl) (by kernel_rfl) hlt) S0 (fun _ _ _ h => h) ?_
      simp only [Act.put, List.setIfInBounds_toArray, List.set_cons_zero, List.set_cons_succ]
      refine take_c (i := 4) (.pointer (some ⟨b, off + k * 2, none⟩)) 29 rfl (by kernel_rfl) (by kernel_rfl) (by kernel_rfl) (by kernel_rfl) (by kernel_rfl) rfl (by kernel_rfl) (by kernel_rfl) (fun W hW => nfld0_run (.tmp 28) b (off + k * 2) (by kernel_rfl) (by kernel_rfl)) S0 (fun _ _ _ h => h) ?_
      simp only [Act.put, List.setIfInBounds_toArray, List.set_cons_zero, List.set_cons_succ]
      refine take_c (i := 5) (.string t) 30 rfl (by kernel_rfl) (by kernel_rfl) (by kernel_rfl) (by kernel_rfl) (by kernel_rfl) rfl (by kernel_rfl) (by kernel_rfl) (fun W hW => cell_run 9 (.tmp 29) ⟨b, off + k * 2, none⟩ (.string t) _ (by kernel_rfl) (by kernel_rfl) (HSt.out W hW.1).1 Try.underlying9 rfl (by kernel_rfl)) S0 (fun _ _ _ h => h) ?_
      simp only [Act.put, List.setIfInBounds_toArray, List.set_cons_zero, List.set_cons_succ]
      refine take_c (i := 6) (.slice (some ⟨b, off, none⟩) n c) 31 rfl (by kernel_rfl) (by kernel_rfl) (by kernel_rfl) (by kernel_rfl) (by kernel_rfl) rfl (by kernel_rfl) (by kernel_rfl) (fun W hW => by kernel_rfl) S0 (fun _ _ _ h => h) ?_
      simp only [Act.put, List.setIfInBounds_toArray, List.set_cons_zero, List.set_cons_succ]
      refine take_c (i := 7) (.int .i64 (k : Int)) 32 rfl (by kernel_rfl) (by kernel_rfl) (by kernel_rfl) (by kernel_rfl) (by kernel_rfl) rfl (by kernel_rfl) (by kernel_rfl) (fun W hW => by kernel_rfl) S0 (fun _ _ _ h => h) ?_
      simp only [Act.put, List.setIfInBounds_toArray, List.set_cons_zero, List.set_cons_succ]
      refine take_c (i := 8) (.pointer (some ⟨b, off + k * 2, none⟩)) 33 rfl (by kernel_rfl) (by kernel_rfl) (by kernel_rfl) (by kernel_rfl) (by kernel_rfl) rfl (by kernel_rfl) (by kernel_rfl) (fun W hW => nidx_run (.tmp 31) (.tmp 32) b off n c k (by kernel_rfl) (by kernel_rfl) (by kernel_rfl) hlt) S0 (fun _ _ _ h => h) ?_
      simp only [Act.put, List.setIfInBounds_toArray, List.set_cons_zero, List.set_cons_succ]
      refine take_c (i := 9) (.pointer (some ⟨b, off + k * 2 + 1, none⟩)) 34 rfl (by kernel_rfl) (by kernel_rfl) (by kernel_rfl) (by kernel_rfl) (by kernel_rfl) rfl (by kernel_rfl) (by kernel_rfl) (fun W hW => nfld1_run (.tmp 33) b (off + k * 2) (by kernel_rfl) (by kernel_rfl)) S0 (fun _ _ _ h => h) ?_
      simp only [Act.put, List.setIfInBounds_toArray, List.set_cons_zero, List.set_cons_succ]
      refine take_c (i := 10) (.slice pA m pc) 35 rfl (by kernel_rfl) (by kernel_rfl) (by kernel_rfl) (by kernel_rfl) (by kernel_rfl) rfl (by kernel_rfl) (by kernel_rfl) (fun W hW => cell_run 33 (.tmp 34) ⟨b, off + k * 2 + 1, none⟩ (.slice pA m pc) _ (by kernel_rfl) (by kernel_rfl) (HSt.out W hW.1).2 Try.underlying33 rfl (by kernel_rfl)) S0 (fun _ _ _ h => h) ?_
      simp only [Act.put, List.setIfInBounds_toArray, List.set_cons_zero, List.set_cons_succ]
      refine any_twoC (i := 11) (j := 15) (by kernel_rfl) ?_ ?_
      · refine op_enter 11 #[.agg #[.slice A' n' c'], .string t, .slice pA m pc] (some 36) rfl (by kernel_rfl) (by kernel_rfl) (by kernel_rfl) ((HRA.out _ P0.dh P0.v.rh).mono ?_)
        rintro e z2 ⟨A2, n2, c2, rfl, q2, b2⟩
        have P1 : AV w z2 R4 p F A' n' c' g := P0.up b2.out
        have S1 : (Below w.heap.size w z2 ∧ z2.cell? ⟨R4, 0, none⟩ = some (.slice A' n' c')) := ⟨P1.dh.below, P1.v.xv.cell 0⟩
        refine ⟨_, rfl, S1, ?_⟩
        simp only [Act.put, List.setIfInBounds_toArray, List.set_cons_zero, List.set_cons_succ]
        refine take_c (i := 12) (.tuple #[.agg #[.slice A2 n2 c2], .int .i64 er]) 24 rfl (by kernel_rfl) (by kernel_rfl) (by kernel_rfl) (by kernel_rfl) (by kernel_rfl) rfl (by kernel_rfl) (by kernel_rfl) (fun W hW => by kernel_rfl) S1 (fun _ _ _ h => h) ?_
        simp only [Act.put, List.setIfInBounds_toArray, List.set_cons_zero, List.set_cons_succ]
        refine take_q (i := 13) (.agg #[.slice A2 n2 c2]) 37 rfl (by kernel_rfl) (by kernel_rfl) (by kernel_rfl) (by kernel_rfl) (by kernel_rfl) (by kernel_rfl) (fun W => by kernel_rfl) (fun _ _ _ h => h) ?_
        simp only [Act.put, List.setIfInBounds_toArray, List.set_cons_zero, List.set_cons_succ]
        refine take_q (i := 14) (.int .i64 er) 38 rfl (by kernel_rfl) (by kernel_rfl) (by kernel_rfl) (by kernel_rfl) (by kernel_rfl) (by kernel_rfl) (fun W => by kernel_rfl) (fun _ _ _ h => h) ?_
        simp only [Act.put, List.setIfInBounds_toArray, List.set_cons_zero, List.set_cons_succ]
        have P2 := AV.alloc P1
        have S2 : (Below w.heap.size w (z2.alloc (.cells #[.slice none 0 0] 27)) ∧ (z2.alloc (.cells #[.slice none 0 0] 27)).cell? ⟨R4, 0, none⟩ = some (.slice A' n' c')) := ⟨P2.dh.below, P2.v.xv.cell 0⟩
        refine any_comes (i := 15) (by kernel_rfl) (op_value (.pointer (some ⟨z2.heap.size, 0, none⟩)) rfl (by kernel_rfl) (w' := z2.alloc (.cells #[.slice none 0 0] 27)) (by kernel_rfl) rfl ⟨S2, ?_⟩)
        simp only [Act.put, List.setIfInBounds_toArray, List.set_cons_zero, List.set_cons_succ]
        have r2 := RH.up q2.out P1.dh.below.size (show Below z2.heap.size z2 (z2.alloc (.cells #[.slice none 0 0] 27)) from (Below.refl _ _).alloc (Nat.le_refl _) _)
        obtain ⟨R6, hR6⟩ : ∃ x, x = z2.heap.size := ⟨_, rfl⟩
        obtain ⟨W2, hW2⟩ : ∃ x, x = z2.alloc (.cells #[.slice none 0 0] 27) := ⟨_, rfl⟩
        rw [← hR6, ← hW2] at P2 ⊢
        rw [← hW2] at r2
        have hY := Lib.hid P2
        have hR := Lib.hid r2
        clear P2 S2 P1 S1 P0 S0 q2 b2 r2 hR6 hW2 hS HRA
        refine any_left (by kernel_rfl) ?_
        have y6 := hY.out.y.cell 0
        have y6f := hY.out.y.frozen 0
        have y6l := hY.out.y.lt
        have y4 := hY.out.v.xv.cell 0
        have y4f := hY.out.v.xv.frozen 0
        have y4l := hY.out.v.xv.lt
        have yne := hY.out.ne
        refine wpAny_tail 16 (by kernel_rfl) (by kernel_rfl) ?_
        simp only [List.append, List.append_eq, List.drop_succ_cons, List.drop_zero, List.drop_nil]
        go_wp2
        have HT : Hid (AT w _ R4 p F A2 n2 c2 g g2) := AY.stored hY.out hR.out
        obtain ⟨wb, hwb⟩ : ∃ x, x = (W2.setCell ⟨R6, 0, none⟩ (.slice A2 n2 c2)).setCell ⟨R4, 0, none⟩ (.slice A2 n2 c2) := ⟨_, rfl⟩
        rw [← hwb] at HT ⊢
        clear hwb hY hR y6 y6f y6l y4 y4f y4l yne
        have P0 : AT w wb.drew R4 p F A2 n2 c2 g g2 := HT.out.up ⟨rfl, rfl, rfl, Nat.le_refl _, fun _ _ => rfl⟩
        have S0 : (Below w.heap.size w wb.drew ∧ wb.drew.cell? ⟨R4, 0, none⟩ = some (.slice A2 n2 c2)) := ⟨P0.dh.below, P0.v.xv.cell 0⟩
        refine region_T (fun W => (Below w.heap.size w W ∧ W.cell? ⟨R4, 0, none⟩ = some (.slice A2 n2 c2))) (fun j => decide (19 ≤ j)) (by kernel_rfl) ?_
        refine any_asT rfl (listed' := #[false, false, false, false, false, false, false, false, false, false, false, false, false, false, false, false, false, false, false, false]) (by kernel_rfl) ?_
        refine take_c (i := 0) (.pointer (some ⟨p, 0, none⟩)) 40 rfl (by kernel_rfl) (by kernel_rfl) (by kernel_rfl) (by kernel_rfl) (by kernel_rfl) rfl (by kernel_rfl) (by kernel_rfl) (fun W hW => by kernel_rfl) S0 (fun _ _ _ h => h) ?_
        simp only [Act.put, List.setIfInBounds_toArray, List.set_cons_zero, List.set_cons_succ]
        refine take_c (i := 1) (.slice (some ⟨b, off, none⟩) n c) 41 rfl (by kernel_rfl) (by kernel_rfl) (by kernel_rfl) (by kernel_rfl) (by kernel_rfl) rfl (by kernel_rfl) (by kernel_rfl) (fun W hW => by kernel_rfl) S0 (fun _ _ _ h => h) ?_
        simp only [Act.put, List.setIfInBounds_toArray, List.set_cons_zero, List.set_cons_succ]
        refine take_c (i := 2) (.int .i64 (k : Int)) 42 rfl (by kernel_rfl) (by kernel_rfl) (by kernel_rfl) (by kernel_rfl) (by kernel_rfl) rfl (by kernel_rfl) (by kernel_rfl) (fun W hW => by kernel_rfl) S0 (fun _ _ _ h => h) ?_
        simp only [Act.put, List.setIfInBounds_toArray, List.set_cons_zero, List.set_cons_succ]
        refine take_c (i := 3) (.pointer (some ⟨b, off + k * 2, none⟩)) 43 rfl (by kernel_rfl) (by kernel_rfl) (by kernel_rfl) (by kernel_rfl) (by kernel_rfl) rfl (by kernel_rfl) (by kernel_rfl) (fun W hW => nidx_run (.tmp 41) (.tmp 42) b off n c k (by kernel_rfl) (by kernel_rfl) (by kernel_rfl) hlt) S0 (fun _ _ _ h => h) ?_
        simp only [Act.put, List.setIfInBounds_toArray, List.set_cons_zero, List.set_cons_succ]
        refine take_c (i := 4) (.pointer (some ⟨b, off + k * 2, none⟩)) 44 rfl (by kernel_rfl) (by kernel_rfl) (by kernel_rfl) (by kernel_rfl) (by kernel_rfl) rfl (by kernel_rfl) (by kernel_rfl) (fun W hW => nfld0_run (.tmp 43) b (off + k * 2) (by kernel_rfl) (by kernel_rfl)) S0 (fun _ _ _ h => h) ?_
        simp only [Act.put, List.setIfInBounds_toArray, List.set_cons_zero, List.set_cons_succ]
        refine take_c (i := 5) (.string t) 45 rfl (by kernel_rfl) (by kernel_rfl) (by kernel_rfl) (by kernel_rfl) (by kernel_rfl) rfl (by kernel_rfl) (by kernel_rfl) (fun W hW => cell_run 9 (.tmp 44) ⟨b, off + k * 2, none⟩ (.string t) _ (by kernel_rfl) (by kernel_rfl) (HSt.out W hW.1).1 Try.underlying9 rfl (by kernel_rfl)) S0 (fun _ _ _ h => h) ?_
        simp only [Act.put, List.setIfInBounds_toArray, List.set_cons_zero, List.set_cons_succ]
        refine take_c (i := 6) (.slice (some ⟨b, off, none⟩) n c) 46 rfl (by kernel_rfl) (by kernel_rfl) (by kernel_rfl) (by kernel_rfl) (by kernel_rfl) rfl (by kernel_rfl) (by kernel_rfl) (fun W hW => by kernel_rfl) S0 (fun _ _ _ h => h) ?_
        simp only [Act.put, List.setIfInBounds_toArray, List.set_cons_zero, List.set_cons_succ]
        refine take_c (i := 7) (.int .i64 (k : Int)) 47 rfl (by kernel_rfl) (by kernel_rfl) (by kernel_rfl) (by kernel_rfl) (by kernel_rfl) rfl (by kernel_rfl) (by kernel_rfl) (fun W hW => by kernel_rfl) S0 (fun _ _ _ h => h) ?_
        simp only [Act.put, List.setIfInBounds_toArray, List.set_cons_zero, List.set_cons_succ]
        refine take_c (i := 8) (.pointer (some ⟨b, off + k * 2, none⟩)) 48 rfl (by kernel_rfl) (by kernel_rfl) (by kernel_rfl) (by kernel_rfl) (by kernel_rfl) rfl (by kernel_rfl) (by kernel_rfl) (fun W hW => nidx_run (.tmp 46) (.tmp 47) b off n c k (by kernel_rfl) (by kernel_rfl) (by kernel_rfl) hlt) S0 (fun _ _ _ h => h) ?_
        simp only [Act.put, List.setIfInBounds_toArray, List.set_cons_zero, List.set_cons_succ]
        refine take_c (i := 9) (.pointer (some ⟨b, off + k * 2 + 1, none⟩)) 49 rfl (by kernel_rfl) (by kernel_rfl) (by kernel_rfl) (by kernel_rfl) (by kernel_rfl) rfl (by kernel_rfl) (by kernel_rfl) (fun W hW => nfld1_run (.tmp 48) b (off + k * 2) (by kernel_rfl) (by kernel_rfl)) S0 (fun _ _ _ h => h) ?_
        simp only [Act.put, List.setIfInBounds_toArray, List.set_cons_zero, List.set_cons_succ]
        refine take_c (i := 10) (.slice pA m pc) 50 rfl (by kernel_rfl) (by kernel_rfl) (by kernel_rfl) (by kernel_rfl) (by kernel_rfl) rfl (by kernel_rfl) (by kernel_rfl) (fun W hW => cell_run 33 (.tmp 49) ⟨b, off + k * 2 + 1, none⟩ (.slice pA m pc) _ (by kernel_rfl) (by kernel_rfl) (HSt.out W hW.1).2 Try.underlying33 rfl (by kernel_rfl)) S0 (fun _ _ _ h => h) ?_
        simp only [Act.put, List.setIfInBounds_toArray, List.set_cons_zero, List.set_cons_succ]
        refine take_c (i := 12) (.int .i64 er) 52 rfl (by kernel_rfl) (by kernel_rfl) (by kernel_rfl) (by kernel_rfl) (by kernel_rfl) rfl (by kernel_rfl) (by kernel_rfl) (fun W hW => by kernel_rfl) S0 (fun _ _ _ h => h) ?_
        simp only [Act.put, List.setIfInBounds_toArray, List.set_cons_zero, List.set_cons_succ]
        refine any_comes (i := 11) (by kernel_rfl) (op_enter 12 #[.pointer (some ⟨p, 0, none⟩), .string t, .slice pA m pc] (some 51) rfl (by kernel_rfl) (by kernel_rfl) (by kernel_rfl) ((HAdd.out _ A2 n2 c2 P0).mono ?_))
        rintro e z1 ⟨F', rfl, hT1⟩
        have S1 : (Below w.heap.size w z1 ∧ z1.cell? ⟨R4, 0, none⟩ = some (.slice A2 n2 c2)) := ⟨hT1.out.dh.below, hT1.out.v.xv.cell 0⟩
        refine ⟨_, rfl, S1, ?_⟩
        simp only [Act.put, List.setIfInBounds_toArray, List.set_cons_zero, List.set_cons_succ]
        refine take_c (i := 13) (.bool false) 53 rfl (by kernel_rfl) (by kernel_rfl) (by kernel_rfl) (by kernel_rfl) (by kernel_rfl) rfl (by kernel_rfl) (by kernel_rfl) (fun W hW => eneqf_run (.tmp 51) (.tmp 52) er (by kernel_rfl) (by kernel_rfl) (by kernel_rfl)) S1 (fun _ _ _ h => h) ?_
        simp only [Act.put, List.setIfInBounds_toArray, List.set_cons_zero, List.set_cons_succ]
        refine take_c (i := 14) (.bool false) 54 rfl (by kernel_rfl) (by kernel_rfl) (by kernel_rfl) (by kernel_rfl) (by kernel_rfl) rfl (by kernel_rfl) (by kernel_rfl) (fun W hW => by kernel_rfl) S1 (fun _ _ _ h => h) ?_
        simp only [Act.put, List.setIfInBounds_toArray, List.set_cons_zero, List.set_cons_succ]
        refine take_c (i := 15) (.pointer (some ⟨p, 0, none⟩)) 55 rfl (by kernel_rfl) (by kernel_rfl) (by kernel_rfl) (by kernel_rfl) (by kernel_rfl) rfl (by kernel_rfl) (by kernel_rfl) (fun W hW => by kernel_rfl) S1 (fun _ _ _ h => h) ?_
        simp only [Act.put, List.setIfInBounds_toArray, List.set_cons_zero, List.set_cons_succ]
        refine take_c (i := 16) (.agg #[.slice A2 n2 c2]) 56 rfl (by kernel_rfl) (by kernel_rfl) (by kernel_rfl) (by kernel_rfl) (by kernel_rfl) rfl (by kernel_rfl) (by kernel_rfl) (fun W hW => dagload_run (.tmp 4) R4 A2 n2 c2 (by kernel_rfl) (by kernel_rfl) hW.2) S1 (fun _ _ _ h => h) ?_
        simp only [Act.put, List.setIfInBounds_toArray, List.set_cons_zero, List.set_cons_succ]
        refine any_comes (i := 17) (by kernel_rfl) (op_enter 13 #[.pointer (some ⟨p, 0, none⟩), .agg #[.slice A2 n2 c2]] (some 57) rfl (by kernel_rfl) (by kernel_rfl) (by kernel_rfl) ((HAl.out _ F' A2 n2 c2 hT1.out).mono ?_))
        rintro e z3 ⟨rfl, b3⟩
        have P3 := Lib.hid (AV.up hT1.out b3)
        have S3 : (Below w.heap.size w z3 ∧ z3.cell? ⟨R4, 0, none⟩ = some (.slice A2 n2 c2)) := ⟨P3.out.dh.below, P3.out.v.xv.cell 0⟩
        refine ⟨_, rfl, S3, ?_⟩
        simp only [Act.put, List.setIfInBounds_toArray, List.set_cons_zero, List.set_cons_succ]
        refine take_c (i := 18) (.bool false) 58 rfl (by kernel_rfl) (by kernel_rfl) (by kernel_rfl) (by kernel_rfl) (by kernel_rfl) rfl (by kernel_rfl) (by kernel_rfl) (fun W hW => by kernel_rfl) S3 (fun _ _ _ h => h) ?_
        simp only [Act.put, List.setIfInBounds_toArray, List.set_cons_zero, List.set_cons_succ]
        refine any_left (by kernel_rfl) ?_
        refine wpAny_tail 19 (by kernel_rfl) (by kernel_rfl) ?_
        simp only [List.append, List.append_eq, List.drop_succ_cons, List.drop_zero, List.drop_nil]
        go_wp2
        go_roundw
        case rel => exact ⟨k + 1, F', A2, n2, c2, hlt, congrArg (Value.int .i64) (next64 hlt HN30.out), by rw [← HMk.out]; exact P3.out⟩
        case measure => exact less64 hlt HN30.out
      · have P2 := AV.alloc P0
        have S2 : (Below w.heap.size w (wr.drew.alloc (.cells #[.slice none 0 0] 27)) ∧ (wr.drew.alloc (.cells #[.slice none 0 0] 27)).cell? ⟨R4, 0, none⟩ = some (.slice A' n' c')) := ⟨P2.dh.below, P2.v.xv.cell 0⟩
        refine op_value (.pointer (some ⟨wr.heap.size, 0, none⟩)) rfl (by kernel_rfl) (w' := wr.drew.alloc (.cells #[.slice none 0 0] 27)) (by kernel_rfl) rfl ⟨S2, ?_⟩
        simp only [Act.put, List.setIfInBounds_toArray, List.set_cons_zero, List.set_cons_succ]
        refine any_comes (i := 11) (by kernel_rfl) (op_enter 11 #[.agg #[.slice A' n' c'], .string t, .slice pA m pc] (some 36) rfl (by kernel_rfl) (by kernel_rfl) (by kernel_rfl) ((HRA.out _ P2.dh P2.v.rh).mono ?_))
        rintro e z2 ⟨A2, n2, c2, rfl, q2, b2⟩
        have P3 : AY w z2 R4 wr.heap.size p F A' n' c' g := P2.up b2.out
        have S3 : (Below w.heap.size w z2 ∧ z2.cell? ⟨R4, 0, none⟩ = some (.slice A' n' c')) := ⟨P3.dh.below, P3.v.xv.cell 0⟩
        refine ⟨_, rfl, S3, ?_⟩
        simp only [Act.put, List.setIfInBounds_toArray, List.set_cons_zero, List.set_cons_succ]
        refine take_c (i := 12) (.tuple #[.agg #[.slice A2 n2 c2], .int .i64 er]) 24 rfl (by kernel_rfl) (by kernel_rfl) (by kernel_rfl) (by kernel_rfl) (by kernel_rfl) rfl (by kernel_rfl) (by kernel_rfl) (fun W hW => by kernel_rfl) S3 (fun _ _ _ h => h) ?_
        simp only [Act.put, List.setIfInBounds_toArray, List.set_cons_zero, List.set_cons_succ]
        refine take_q (i := 13) (.agg #[.slice A2 n2 c2]) 37 rfl (by kernel_rfl) (by kernel_rfl) (by kernel_rfl) (by kernel_rfl) (by kernel_rfl) (by kernel_rfl) (fun W => by kernel_rfl) (fun _ _ _ h => h) ?_
        simp only [Act.put, List.setIfInBounds_toArray, List.set_cons_zero, List.set_cons_succ]
        refine take_q (i := 14) (.int .i64 er) 38 rfl (by kernel_rfl) (by kernel_rfl) (by kernel_rfl) (by kernel_rfl) (by kernel_rfl) (by kernel_rfl) (fun W => by kernel_rfl) (fun _ _ _ h => h) ?_
        simp only [Act.put, List.setIfInBounds_toArray, List.set_cons_zero, List.set_cons_succ]
        obtain ⟨R6, hR6⟩ : ∃ x, x = wr.heap.size := ⟨_, rfl⟩
        obtain ⟨W2, hW2⟩ : ∃ x, x = z2 := ⟨_, rfl⟩
        rw [← hR6, ← hW2] at P3 ⊢
        rw [← hW2] at q2
        have hY := Lib.hid P3
        have hR := q2
        clear P2 S2 P3 S3 P0 S0 q2 b2 hR6 hW2 hS HRA
        refine any_left (by kernel_rfl) ?_
        have y6 := hY.out.y.cell 0
        have y6f := hY.out.y.frozen 0
        have y6l := hY.out.y.lt
        have y4 := hY.out.v.xv.cell 0
        have y4f := hY.out.v.xv.frozen 0
        have y4l := hY.out.v.xv.lt
        have yne := hY.out.ne
        refine wpAny_tail 16 (by kernel_rfl) (by kernel_rfl) ?_
        simp only [List.append, List.append_eq, List.drop_succ_cons, List.drop_zero, List.drop_nil]
        go_wp2
        have HT : Hid (AT w _ R4 p F A2 n2 c2 g g2) := AY.stored hY.out hR.out
        obtain ⟨wb, hwb⟩ : ∃ x, x = (W2.setCell ⟨R6, 0, none⟩ (.slice A2 n2 c2)).setCell ⟨R4, 0, none⟩ (.slice A2 n2 c2) := ⟨_, rfl⟩
        rw [← hwb] at HT ⊢
        clear hwb hY hR y6 y6f y6l y4 y4f y4l yne
        have P0 : AT w wb.drew R4 p F A2 n2 c2 g g2 := HT.out.up ⟨rfl, rfl, rfl, Nat.le_refl _, fun _ _ => rfl⟩
        have S0 : (Below w.heap.size w wb.drew ∧ wb.drew.cell? ⟨R4, 0, none⟩ = some (.slice A2 n2 c2)) := ⟨P0.dh.below, P0.v.xv.cell 0⟩
        refine region_T (fun W => (Below w.heap.size w W ∧ W.cell? ⟨R4, 0, none⟩ = some (.slice A2 n2 c2))) (fun j => decide (19 ≤ j)) (by kernel_rfl) ?_
        refine any_asT rfl (listed' := #[false, false, false, false, false, false, false, false, false, false, false, false, false, false, false, false, false, false, false, false]) (by kernel_rfl) ?_
        refine take_c (i := 0) (.pointer (some ⟨p, 0, none⟩)) 40 rfl (by kernel_rfl) (by kernel_rfl) (by kernel_rfl) (by kernel_rfl) (by kernel_rfl) rfl (by kernel_rfl) (by kernel_rfl) (fun W hW => by kernel_rfl) S0 (fun _ _ _ h => h) ?_
        simp only [Act.put, List.setIfInBounds_toArray, List.set_cons_zero, List.set_cons_succ]
        refine take_c (i := 1) (.slice (some ⟨b, off, none⟩) n c) 41 rfl (by kernel_rfl) (by kernel_rfl) (by kernel_rfl) (by kernel_rfl) (by kernel_rfl) rfl (by kernel_rfl) (by kernel_rfl) (fun W hW => by kernel_rfl) S0 (fun _ _ _ h => h) ?_
        simp only [Act.put, List.setIfInBounds_toArray, List.set_cons_zero, List.set_cons_succ]
        refine take_c (i := 2) (.int .i64 (k : Int)) 42 rfl (by kernel_rfl) (by kernel_rfl) (by kernel_rfl) (by kernel_rfl) (by kernel_rfl) rfl (by kernel_rfl) (by kernel_rfl) (fun W hW => by kernel_rfl) S0 (fun _ _ _ h => h) ?_
        simp only [Act.put, List.setIfInBounds_toArray, List.set_cons_zero, List.set_cons_succ]
        refine take_c (i := 3) (.pointer (some ⟨b, off + k * 2, none⟩)) 43 rfl (by kernel_rfl) (by kernel_rfl) (by kernel_rfl) (by kernel_rfl) (by kernel_rfl) rfl (by kernel_rfl) (by kernel_rfl) (fun W hW => nidx_run (.tmp 41) (.tmp 42) b off n c k (by kernel_rfl) (by kernel_rfl) (by kernel_rfl) hlt) S0 (fun _ _ _ h => h) ?_
        simp only [Act.put, List.setIfInBounds_toArray, List.set_cons_zero, List.set_cons_succ]
        refine take_c (i := 4) (.pointer (some ⟨b, off + k * 2, none⟩)) 44 rfl (by kernel_rfl) (by kernel_rfl) (by kernel_rfl) (by kernel_rfl) (by kernel_rfl) rfl (by kernel_rfl) (by kernel_rfl) (fun W hW => nfld0_run (.tmp 43) b (off + k * 2) (by kernel_rfl) (by kernel_rfl)) S0 (fun _ _ _ h => h) ?_
        simp only [Act.put, List.setIfInBounds_toArray, List.set_cons_zero, List.set_cons_succ]
        refine take_c (i := 5) (.string t) 45 rfl (by kernel_rfl) (by kernel_rfl) (by kernel_rfl) (by kernel_rfl) (by kernel_rfl) rfl (by kernel_rfl) (by kernel_rfl) (fun W hW => cell_run 9 (.tmp 44) ⟨b, off + k * 2, none⟩ (.string t) _ (by kernel_rfl) (by kernel_rfl) (HSt.out W hW.1).1 Try.underlying9 rfl (by kernel_rfl)) S0 (fun _ _ _ h => h) ?_
        simp only [Act.put, List.setIfInBounds_toArray, List.set_cons_zero, List.set_cons_succ]
        refine take_c (i := 6) (.slice (some ⟨b, off, none⟩) n c) 46 rfl (by kernel_rfl) (by kernel_rfl) (by kernel_rfl) (by kernel_rfl) (by kernel_rfl) rfl (by kernel_rfl) (by kernel_rfl) (fun W hW => by kernel_rfl) S0 (fun _ _ _ h => h) ?_
        simp only [Act.put, List.setIfInBounds_toArray, List.set_cons_zero, List.set_cons_succ]
        refine take_c (i := 7) (.int .i64 (k : Int)) 47 rfl (by kernel_rfl) (by kernel_rfl) (by kernel_rfl) (by kernel_rfl) (by kernel_rfl) rfl (by kernel_rfl) (by kernel_rfl) (fun W hW => by kernel_rfl) S0 (fun _ _ _ h => h) ?_
        simp only [Act.put, List.setIfInBounds_toArray, List.set_cons_zero, List.set_cons_succ]
        refine take_c (i := 8) (.pointer (some ⟨b, off + k * 2, none⟩)) 48 rfl (by kernel_rfl) (by kernel_rfl) (by kernel_rfl) (by kernel_rfl) (by kernel_rfl) rfl (by kernel_rfl) (by kernel_rfl) (fun W hW => nidx_run (.tmp 46) (.tmp 47) b off n c k (by kernel_rfl) (by kernel_rfl) (by kernel_rfl) hlt) S0 (fun _ _ _ h => h) ?_
        simp only [Act.put, List.setIfInBounds_toArray, List.set_cons_zero, List.set_cons_succ]
        refine take_c (i := 9) (.pointer (some ⟨b, off + k * 2 + 1, none⟩)) 49 rfl (by kernel_rfl) (by kernel_rfl) (by kernel_rfl) (by kernel_rfl) (by kernel_rfl) rfl (by kernel_rfl) (by kernel_rfl) (fun W hW => nfld1_run (.tmp 48) b (off + k * 2) (by kernel_rfl) (by kernel_rfl)) S0 (fun _ _ _ h => h) ?_
        simp only [Act.put, List.setIfInBounds_toArray, List.set_cons_zero, List.set_cons_succ]
        refine take_c (i := 10) (.slice pA m pc) 50 rfl (by kernel_rfl) (by kernel_rfl) (by kernel_rfl) (by kernel_rfl) (by kernel_rfl) rfl (by kernel_rfl) (by kernel_rfl) (fun W hW => cell_run 33 (.tmp 49) ⟨b, off + k * 2 + 1, none⟩ (.slice pA m pc) _ (by kernel_rfl) (by kernel_rfl) (HSt.out W hW.1).2 Try.underlying33 rfl (by kernel_rfl)) S0 (fun _ _ _ h => h) ?_
        simp only [Act.put, List.setIfInBounds_toArray, List.set_cons_zero, List.set_cons_succ]
        refine take_c (i := 12) (.int .i64 er) 52 rfl (by kernel_rfl) (by kernel_rfl) (by kernel_rfl) (by kernel_rfl) (by kernel_rfl) rfl (by kernel_rfl) (by kernel_rfl) (fun W hW => by kernel_rfl) S0 (fun _ _ _ h => h) ?_
        simp only [Act.put, List.setIfInBounds_toArray, List.set_cons_zero, List.set_cons_succ]
        refine any_comes (i := 11) (by kernel_rfl) (op_enter 12 #[.pointer (some ⟨p, 0, none⟩), .string t, .slice pA m pc] (some 51) rfl (by kernel_rfl) (by kernel_rfl) (by kernel_rfl) ((HAdd.out _ A2 n2 c2 P0).mono ?_))
        rintro e z1 ⟨F', rfl, hT1⟩
        have S1 : (Below w.heap.size w z1 ∧ z1.cell? ⟨R4, 0, none⟩ = some (.slice A2 n2 c2)) := ⟨hT1.out.dh.below, hT1.out.v.xv.cell 0⟩
        refine ⟨_, rfl, S1, ?_⟩
        simp only [Act.put, List.setIfInBounds_toArray, List.set_cons_zero, List.set_cons_succ]
        refine take_c (i := 13) (.bool false) 53 rfl (by kernel_rfl) (by kernel_rfl) (by kernel_rfl) (by kernel_rfl) (by kernel_rfl) rfl (by kernel_rfl) (by kernel_rfl) (fun W hW => eneqf_run (.tmp 51) (.tmp 52) er (by kernel_rfl) (by kernel_rfl) (by kernel_rfl)) S1 (fun _ _ _ h => h) ?_
        simp only [Act.put, List.setIfInBounds_toArray, List.set_cons_zero, List.set_cons_succ]
        refine take_c (i := 14) (.bool false) 54 rfl (by kernel_rfl) (by kernel_rfl) (by kernel_rfl) (by kernel_rfl) (by kernel_rfl) rfl (by kernel_rfl) (by kernel_rfl) (fun W hW => by kernel_rfl) S1 (fun _ _ _ h => h) ?_
        simp only [Act.put, List.setIfInBounds_toArray, List.set_cons_zero, List.set_cons_succ]
        refine take_c (i := 15) (.pointer (some ⟨p, 0, none⟩)) 55 rfl (by kernel_rfl) (by kernel_rfl) (by kernel_rfl) (by kernel_rfl) (by kernel_rfl) rfl (by kernel_rfl) (by kernel_rfl) (fun W hW => by kernel_rfl) S1 (fun _ _ _ h => h) ?_
        simp only [Act.put, List.setIfInBounds_toArray, List.set_cons_zero, List.set_cons_succ]
        refine take_c (i := 16) (.agg #[.slice A2 n2 c2]) 56 rfl (by kernel_rfl) (by kernel_rfl) (by kernel_rfl) (by kernel_rfl) (by kernel_rfl) rfl (by kernel_rfl) (by kernel_rfl) (fun W hW => dagload_run (.tmp 4) R4 A2 n2 c2 (by kernel_rfl) (by kernel_rfl) hW.2) S1 (fun _ _ _ h => h) ?_
        simp only [Act.put, List.setIfInBounds_toArray, List.set_cons_zero, List.set_cons_succ]
        refine any_comes (i := 17) (by kernel_rfl) (op_enter 13 #[.pointer (some ⟨p, 0, none⟩), .agg #[.slice A2 n2 c2]] (some 57) rfl (by kernel_rfl) (by kernel_rfl) (by kernel_rfl) ((HAl.out _ F' A2 n2 c2 hT1.out).mono ?_))
        rintro e z3 ⟨rfl, b3⟩
        have P3 := Lib.hid (AV.up hT1.out b3)
        have S3 : (Below w.heap.size w z3 ∧ z3.cell? ⟨R4, 0, none⟩ = some (.slice A2 n2 c2)) := ⟨P3.out.dh.below, P3.out.v.xv.cell 0⟩
        refine ⟨_, rfl, S3, ?_⟩
        simp only [Act.put, List.setIfInBounds_toArray, List.set_cons_zero, List.set_cons_succ]
        refine take_c (i := 18) (.bool false) 58 rfl (by kernel_rfl) (by kernel_rfl) (by kernel_rfl) (by kernel_rfl) (by kernel_rfl) rfl (by kernel_rfl) (by kernel_rfl) (fun W hW => by kernel_rfl) S3 (fun _ _ _ h => h) ?_
        simp only [Act.put, List.setIfInBounds_toArray, List.set_cons_zero, List.set_cons_succ]
        refine any_left (by kernel_rfl) ?_
        refine wpAny_tail 19 (by kernel_rfl) (by kernel_rfl) ?_
        simp only [List.append, List.append_eq, List.drop_succ_cons, List.drop_zero, List.drop_nil]
        go_wp2
        go_roundw
        case rel => exact ⟨k + 1, F', A2, n2, c2, hlt, congrArg (Value.int .i64) (next64 hlt HN30.out), by rw [← HMk.out]; exact P3.out⟩
        case measure => exact less64 hlt HN30.out
    · have d0 : decide ((k : Int) < (n : Int)) = false := decide_eq_false (by omega)
      go_wp2_with (go_at_call 10; (with_reducible refine (HAw.out _).mono ?_); rintro e w3 ⟨rfl, b3⟩)
      go_ret
      exact ⟨rfl, hS.out.dh.below.trans (b3.mono hS.out.dh.below.size)⟩
end Go.Proofs.Ytbeihiokjhfepaa
