/- CellCuts returns true for every owner, all places and every text, and leaves memory that was there as it was; nothing else is assumed beyond the statement itself. -/
import Derived.Test.YtpedgkghfehkjaaBu24
import Derived.Test.YtpedgkghfehkjaaBu16
import Derived.Test.YtpedgkghfehkjaaBu17
set_option linter.unusedVariables false
namespace Go.Proofs.Ytpedgkghfehkjaa
open Go.ChangeShapes Go.WideShapes Go.ChangeAt Go.RowKit
theorem cut_may {o : Int} {ps : List Int} {t : List UInt8} : ∀ x ∈ (cutC o ps t).1, x.may = true := by
  intro x hx
  by_cases h0 : (cutC o ps t).2 = 0
  · obtain ⟨h1, h2, h3, h4, h5⟩ := cutC_inv h0
    rw [h5] at hx
    obtain ⟨i, hi, rfl⟩ := List.mem_map.1 hx
    have := h4 i (List.mem_range.1 hi)
    unfold cutOk at this
    rw [Bool.and_eq_true] at this
    exact this.1
  · rw [cutC_no h0] at hx; cases hx
theorem cut_len {o : Int} {ps : List Int} {t : List UInt8} : (cutC o ps t).1.length ≤ ps.length := by
  by_cases h0 : (cutC o ps t).2 = 0
  · obtain ⟨h1, h2, h3, h4, h5⟩ := cutC_inv h0
    rw [h5]; simp
  · rw [cutC_no h0]; simp
set_option maxRecDepth 100000 in
set_option maxHeartbeats 4000000 in
theorem ccuts_out (o : Int) (p q : Nat) (A B : Option Addr) (cA cB : Nat) (w : World) (h : 2000 < q ∨ 20 < p) :
    Calls Try.prog 5 #[.int .i64 o, .slice A p cA, .slice B q cB] w fun e w' => e = .returned (.bool true) ∧ Below w.heap.size w w' := by
  have HAw := Lib.hid awake9_any
  by_cases h1 : 2000 < q
  · have d0 : decide ((2000 : Int) < (q : Int)) = true := decide_eq_true (by omega)
    have d1 : decide ((q : Int) > 2000) = true := decide_eq_true (by omega)
    have d2 : decide (2000 < q) = true := decide_eq_true h1
    clear h
    go_enter Try.func5, Try.ntmps5
    go_wp2_with (first
      | (go_at_call 6; (with_reducible refine (HAw.out _).mono ?_); rintro e w1 ⟨rfl, hb1⟩))
    go_ret
    exact ⟨rfl, hb1⟩
  · have d0 : decide ((2000 : Int) < (q : Int)) = false := decide_eq_false (by omega)
    have d1 : decide ((q : Int) > 2000) = false := decide_eq_false (by omega)
    have d2 : decide (2000 < q) = false := decide_eq_false h1
    have e0 : decide ((20 : Int) < (p : Int)) = true := decide_eq_true (by omega)
    have e1 : decide ((p : Int) > 20) = true := decide_eq_true (by omega)
    have e2 : decide (20 < p) = true := decide_eq_true (by omega)
    clear h
    go_enter Try.func5, Try.ntmps5
    go_wp2_with (first
      | (go_at_call 6; (with_reducible refine (HAw.out _).mono ?_); rintro e w1 ⟨rfl, hb1⟩))
    go_ret
    exact ⟨rfl, hb1⟩
set_option maxRecDepth 100000 in
set_option maxHeartbeats 4000000 in
theorem ccuts_in (o : Int) (ps : List Int) (t : List UInt8) (p q : Nat) (A B : Option Addr) (cA cB : Nat) (w : World) (ho : -9223372036854775808 ≤ o ∧ o ≤ 9223372036854775807) (hps : ∀ p ∈ ps, -9223372036854775808 ≤ p ∧ p ≤ 9223372036854775807) (hp : p = ps.length) (hq : q = t.length)
    (hA : RI w w.heap.size A ps) (hpa : p ≤ cA) (hpm : cA ≤ 9223372036854775807) (hr : RB w w.heap.size B t) (hc : q ≤ cB) (hcm : cB ≤ 9223372036854775807) (h1 : ¬ 2000 < q) (h2 : ¬ 20 < p) :
    Calls Try.prog 5 #[.int .i64 o, .slice A p cA, .slice B q cB] w fun e w' => e = .returned (.bool true) ∧ Below w.heap.size w w' := by
  have HAw := Lib.hid awake9_any
  obtain ⟨r, hrr⟩ : ∃ r, r = (cutC o ps t).1 := ⟨_, rfl⟩
  obtain ⟨z, hz⟩ : ∃ z, z = (cutC o ps t).2 := ⟨_, rfl⟩
  obtain ⟨r0, hr0⟩ : ∃ n, n = r.length := ⟨_, rfl⟩
  obtain ⟨N, hN⟩ : ∃ N, N = needC q := ⟨_, rfl⟩
  have hrm : ∀ x ∈ r, x.may = true := by rw [hrr]; exact cut_may
  have hrl : r0 ≤ 20 := by have := cut_len (o := o) (ps := ps) (t := t); rw [← hrr, ← hr0] at this; omega
  have HP : Hid (∀ W, Below w.heap.size w W → Calls Try.prog 12 #[.int .i64 o, .slice A p cA, .slice B q cB] W fun e w' => ∃ A' c', e = .returned (.tuple #[.slice A' r0 c', .int .i64 z]) ∧ Hid (CL w' w'.heap.size A' r) ∧ Below W.heap.size W w') := fun W hb => by
    have h : Calls Try.prog 12 #[.int .i64 o, .slice A p cA, .slice B q cB] W (GivesCL (cutC o ps t) W) := by rw [hq, hp]; exact ccut_any o ps t A B cA cB W (by omega) (by omega) ho hps (ri_up9 hA hb) (by omega) hpm (rb_up7 hr hb) (by omega) hcm
    refine h.mono fun e w' hh => ?_
    obtain ⟨A', c', he, hs, hb⟩ := hh
    rw [← hz, ← hrr, ← hr0] at he
    rw [← hrr] at hs
    exact ⟨A', c', he, hs, hb⟩
  have HR : Hid (∀ W, Below w.heap.size w W → Calls Try.prog 13 #[.int .i64 o, .slice A p cA, .slice B q cB] W fun e w' => ∃ A' c', e = .returned (.tuple #[.slice A' r0 c', .int .i64 z]) ∧ Hid (CL w' w'.heap.size A' r) ∧ Below W.heap.size W w') := fun W hb => by
    have h : Calls Try.prog 13 #[.int .i64 o, .slice A p cA, .slice B q cB] W (GivesCL (cutC o ps t) W) := by rw [hq, hp]; exact rccut_any o ps t A B cA cB W (by omega) (ri_up9 hA hb) (rb_up7 hr hb) (by omega) hcm
    refine h.mono fun e w' hh => ?_
    obtain ⟨A', c', he, hs, hb⟩ := hh
    rw [← hz, ← hrr, ← hr0] at he
    rw [← hrr] at hs
    exact ⟨A', c', he, hs, hb⟩
  have HJ : Hid (∀ W (A' : Option Addr) (c' : Nat), CL W W.heap.size A' r → Calls Try.prog 14 #[.slice A' r0 c'] W fun e w' => ∃ A c, e = .returned (.tuple #[.slice A ((joinC r).getD []).length c, .bool (joinC r).isSome]) ∧ Hid (RB w' w'.heap.size A ((joinC r).getD [])) ∧ Below W.heap.size W w') := fun W A' c' hs => by
    have h := cjoin_any r A' c' W hs (by omega) hrm
    rw [← hr0] at h
    exact h
  have HA : Hid (∀ W (A A' : Option Addr) (c c' : Nat), CL W W.heap.size A r → CL W W.heap.size A' r → Calls Try.prog 15 #[.slice A r0 c, .slice A' r0 c'] W fun e w' => e = .returned (.bool true) ∧ Below W.heap.size W w') := fun W A A' c c' h1 h2 => rcall_yes r r0 A A' c c' W hr0 (by omega) h1 h2
  have HN : Hid (∀ W, Calls Try.prog 16 #[.int .i64 (q : Int)] W fun e w' => e = .returned (.int .i64 (N : Int)) ∧ W = w') := fun W => by rw [hN]; exact cneed_any q (by omega) W
  have HM : Hid (∀ W, Calls Try.prog 17 #[.int .i64 (q : Int)] W fun e w' => e = .returned (.int .i64 (N : Int)) ∧ W = w') := fun W => by rw [hN]; exact rcneed_any q (by omega) W
  have d0 : decide ((2000 : Int) < (q : Int)) = false := decide_eq_false (by omega)
  have d1 : decide ((q : Int) > 2000) = false := decide_eq_false (by omega)
  have d2 : decide (2000 < q) = false := decide_eq_false h1
  have e0 : decide ((20 : Int) < (p : Int)) = false := decide_eq_false (by omega)
  have e1 : decide ((p : Int) > 20) = false := decide_eq_false (by omega)
  have e2 : decide (20 < p) = false := decide_eq_false h2
  have e3 : ((N : Int) == (N : Int)) = true := by simp
  have y0 := fun w' => Try.notFalse w'
  have y1 := fun w' => Try.notTrue w'
  have HSb : Hid (∀ W, Below w.heap.size w W → RB W W.heap.size B t) := fun W hb => rb_up7 hr hb
  by_cases h0 : z = 0
  · have hj : joinC r = some t := by rw [hrr]; exact join_cut (by rw [← hz]; exact h0)
    rw [hj] at HJ
    simp only [Option.getD_some, Option.isSome_some] at HJ
    rw [← hq] at HJ
    have HSp : Hid (∀ W (A' : Option Addr) (c' : Nat), RB W W.heap.size A' t → (convert 22 9 (.slice A' q c')).run Try.prog W = .ok (.string ⟨t.toArray⟩) W) := fun W A' c' h => aw_str h q c' hq
    subst h0
    clear hrr hz hr0 hN hrm hrl hj hp hq hA hpa hpm hr hc hcm h1 h2 ho hps
    go_enter Try.func5, Try.ntmps5
    go_wp2_with (first
      | (go_at_call 12; (with_reducible refine (HP.out _ (Below.refl _ _)).mono ?_); rintro e w1 ⟨A1, c1, rfl, r1, hb1⟩)
      | (go_at_call 13; (with_reducible refine (HR.out _ hb1).mono ?_); rintro e w2 ⟨A2, c2, rfl, r2, hb2⟩; have b2 := chain7 hb1 hb2; have q1 := r1.out.up hb2; have q2 := r2.out)
      | (go_at_call 14; (with_reducible refine (HJ.out _ _ _ q1).mono ?_); rintro e w3 ⟨A3, c3, rfl, r3, hb3⟩; have b3 := chain7 b2 hb3; have x1 := q1.up hb3; have x2 := q2.up hb3)
      | (go_at_call 15; (with_reducible refine (HA.out _ _ _ _ _ x1 x2).mono ?_); rintro e w4 ⟨rfl, hb4⟩; have b4 := chain7 b3 hb4; have s1 := HSp.out _ _ c3 (rb_up7 r3.out hb4); have s2 := HSp.out _ _ cB (HSb.out _ b4))
      | (go_at_call 16; (with_reducible refine (HN.out _).mono ?_); rintro e w6 ⟨rfl, rfl⟩)
      | (go_at_call 17; (with_reducible refine (HM.out _).mono ?_); rintro e w6 ⟨rfl, rfl⟩)
      | (go_at_call 6; (with_reducible refine (HAw.out _).mono ?_); rintro e w5 ⟨rfl, hb5⟩))
    go_ret
    exact ⟨rfl, chain7 b4 hb5⟩
  · have hnil : r = [] := by rw [hrr]; exact cutC_no (by rw [← hz]; exact h0)
    have hj : joinC r = none := by rw [hnil]; rfl
    rw [hj] at HJ
    simp only [Option.getD_none, Option.isSome_none, List.length_nil] at HJ
    have z0 : (z == 0) = false := by simpa using h0
    have z1 : (z != 0) = true := by simpa using h0
    have z2 : (z == z) = true := by simp
    clear hrr hz hr0 hN hrm hrl hj hp hq hA hpa hpm hr hc hcm h1 h2 ho hps hnil h0
    go_enter Try.func5, Try.ntmps5
    go_wp2_with (first
      | (go_at_call 12; (with_reducible refine (HP.out _ (Below.refl _ _)).mono ?_); rintro e w1 ⟨A1, c1, rfl, r1, hb1⟩)
      | (go_at_call 13; (with_reducible refine (HR.out _ hb1).mono ?_); rintro e w2 ⟨A2, c2, rfl, r2, hb2⟩; have b2 := chain7 hb1 hb2; have q1 := r1.out.up hb2; have q2 := r2.out)
      | (go_at_call 14; (with_reducible refine (HJ.out _ _ _ q1).mono ?_); rintro e w3 ⟨A3, c3, rfl, r3, hb3⟩; have b3 := chain7 b2 hb3; have x1 := q1.up hb3; have x2 := q2.up hb3)
      | (go_at_call 15; (with_reducible refine (HA.out _ _ _ _ _ x1 x2).mono ?_); rintro e w4 ⟨rfl, hb4⟩; have b4 := chain7 b3 hb4)
      | (go_at_call 16; (with_reducible refine (HN.out _).mono ?_); rintro e w6 ⟨rfl, rfl⟩)
      | (go_at_call 17; (with_reducible refine (HM.out _).mono ?_); rintro e w6 ⟨rfl, rfl⟩)
      | (go_at_call 6; (with_reducible refine (HAw.out _).mono ?_); rintro e w5 ⟨rfl, hb5⟩))
    go_ret
    exact ⟨rfl, chain7 b4 hb5⟩
theorem ccuts_any (o : Int) (ps : List Int) (t : List UInt8) (A B : Option Addr) (cA cB : Nat) (w : World) (ho : -9223372036854775808 ≤ o ∧ o ≤ 9223372036854775807) (hps : ∀ p ∈ ps, -9223372036854775808 ≤ p ∧ p ≤ 9223372036854775807)
    (hA : RI w w.heap.size A ps) (hpa : ps.length ≤ cA) (hpm : cA ≤ 9223372036854775807) (hr : RB w w.heap.size B t) (hc : t.length ≤ cB) (hcm : cB ≤ 9223372036854775807) :
    Calls Try.prog 5 #[.int .i64 o, .slice A ps.length cA, .slice B t.length cB] w fun e w' => e = .returned (.bool true) ∧ Below w.heap.size w w' := by
  by_cases h : 2000 < t.length ∨ 20 < ps.length
  · exact ccuts_out o _ _ A B cA cB w h
  · exact ccuts_in o ps t _ _ A B cA cB w ho hps rfl rfl hA hpa hpm hr hc hcm (by omega) (by omega)
set_option maxRecDepth 100000 in
theorem ccuts_lifted (os : Os) (started : os.Started) (H : Type) (enc : TypeId × Value → H) :
    ReturnsInHanded {} Try.checked os 5 .any (Rows.cellCutsSpec.pre6 enc Try.prog Try.f5 Rows.cellCutsRow.domain false) (Rows.cellCutsSpec.post enc Try.prog Try.f5 false true false false) := by
  refine returnsInHanded_of_change_sized (C := Try.checked) Try.own started (by kernel_rfl) Try.func5
    (ChangeSpec.witness6 (enc := enc) (C := Try.checked) false ⟨#[], #[.int .i64 0, .slice none 0 0, .slice none 0 0], []⟩ 8 (by kernel_rfl) (by kernel_rfl) (by kernel_rfl) (by kernel_rfl)) ?_
  intro W base args ds gs before hval0 hW hcnd hsz0 _
  have hval : ∀ (j : Nat) t v, Try.f5.params[j]? = some t → args[j]? = some v → Value.okWide Try.prog W .any base t v := hval0
  have hW' : DataW.Whole enc Try.prog Try.f5.params.toList Rows.cellCutsSpec.vars false W args.toList ds gs before := hW
  have hWk := hW'
  clear hsz0 hval0
  obtain ⟨p, q, hA, hV, rfl, hfz, hnd⟩ := hW'
  rw [Try.params5] at hA hval
  obtain ⟨v0, v1, v2, d0, d1, d2, p0, p1, p2, rfl, rfl, rfl, h0, h1, h2⟩ := trodAll_three hA
  obtain ⟨rfl, rfl⟩ := trodVars_none hV
  obtain ⟨o, rfl, rfl, rfl, wo⟩ := open_int Try.underlying3 (hval 0 3 v0 rfl rfl) h0
  obtain ⟨A, Z, cA, rfl, hi, hzc, hzm, hwz⟩ := open_intl Try.underlying34 Try.underlying3 Try.cellsI7 (hval 1 34 v1 rfl rfl) h1
  obtain ⟨B, L, cB, rfl, hr, hlc, hcm⟩ := open_bytes Try.underlying22 Try.underlying5 Try.cellsB7 (hval 2 22 v2 rfl rfl) h2
  refine (ccuts_any o Z L A B cA cB W (wf7 wo) (fun z hz => wf7 (hwz z hz)) hi hzc (by unfold maxLen at hzm; omega) hr hlc (by unfold maxLen at hcm; omega)).mono fun e W' ⟨he, hb⟩ => ⟨_, he, ?_⟩
  exact law_post Try.laidOut hWk rfl rfl rfl rfl rfl Try.underlying4 (by kernel_rfl) hb
theorem ccuts_holds : Rows.CellCutsSaid :=
  OpenClaim.holds_of_wide 5 Try.f5 rfl rfl rfl rfl rfl rfl rfl ⟨rfl, rfl, rfl, rfl, rfl⟩ rfl rfl rfl rfl rfl (by kernel_rfl) Try.func5 (by kernel_rfl)
    (of_decide_eq_true (by kernel_rfl)) (by unfold Func.isWrapper; first | (rw [if_pos (by decide +kernel)]; kernel_rfl) | (rw [if_neg (by decide +kernel)]; exact ⟨rfl, rfl⟩))
    (fun os started H enc _ => ccuts_lifted os started H enc)
end Go.Proofs.Ytpedgkghfehkjaa
