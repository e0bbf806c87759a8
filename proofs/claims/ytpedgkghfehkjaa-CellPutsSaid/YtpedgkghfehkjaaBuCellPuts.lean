/- CellPuts returns true for every cell, and leaves memory that was there as it was; nothing else is assumed beyond the statement itself. -/
import Derived.Test.YtpedgkghfehkjaaBu24
set_option linter.unusedVariables false
namespace Go.Proofs.Ytpedgkghfehkjaa
open Go.ChangeShapes Go.WideShapes Go.ChangeAt Go.RowKit
set_option maxRecDepth 100000 in
set_option maxHeartbeats 4000000 in
theorem cputs_out (s : Ce) (A : Option Addr) (c : Nat) (w : World) (h : 400 < s.data.length) :
    Calls Try.prog 3 #[ceV s A c] w fun e w' => e = .returned (.bool true) ∧ Below w.heap.size w w' := by
  obtain ⟨o, n, x, D⟩ := s
  obtain ⟨m, hm⟩ : ∃ m, m = D.length := ⟨_, rfl⟩
  simp only at h
  unfold ceV
  simp only
  rw [← hm] at h ⊢
  have d0 : decide ((400 : Int) < (m : Int)) = true := decide_eq_true (by omega)
  have d1 : decide ((m : Int) > 400) = true := decide_eq_true (by omega)
  have d2 : decide (400 < m) = true := decide_eq_true h
  have a24 := fun w' => Try.aggCell w'
  have s24 := fun w' => Try.sizeCell w'
  have HAw := Lib.hid awake9_any
  have HB : Hid (Below w.heap.size w (w.alloc (.cells #[.int .i64 o, .int .i64 n, .int .i64 x, .slice A m c] 24))) := (Below.refl _ _).alloc (Nat.le_refl _) _
  have HC : Hid (∀ W, Below (w.alloc (.cells #[.int .i64 o, .int .i64 n, .int .i64 x, .slice A m c] 24)).heap.size (w.alloc (.cells #[.int .i64 o, .int .i64 n, .int .i64 x, .slice A m c] 24)) W → W.cell? ⟨w.heap.size, 0, none⟩ = some (.int .i64 o) ∧ W.cell? ⟨w.heap.size, 1, none⟩ = some (.int .i64 n) ∧ W.cell? ⟨w.heap.size, 2, none⟩ = some (.int .i64 x) ∧ W.cell? ⟨w.heap.size, 3, none⟩ = some (.slice A m c)) := fun W hb => cell_at w W o n x A m c hb
  clear hm h
  go_enter Try.func3, Try.ntmps3
  go_wp2_with (first
    | (go_at_call 6; (with_reducible refine (HAw.out _).mono ?_); rintro e w1 ⟨rfl, hb1⟩))
  go_ret
  exact ⟨rfl, chain7 HB.out hb1⟩
set_option maxRecDepth 100000 in
set_option maxHeartbeats 4000000 in
theorem cputs_no (s : Ce) (A : Option Addr) (c : Nat) (w : World) (hr : RB w w.heap.size A s.data) (h : ¬ 400 < s.data.length) (hv : s.may = false) :
    Calls Try.prog 3 #[ceV s A c] w fun e w' => e = .returned (.bool true) ∧ Below w.heap.size w w' := by
  have HP : Hid (∀ W, Below w.heap.size w W → Calls Try.prog 7 #[ceV s A c] W fun e w' => e = .returned (.tuple #[.slice none 0 0, .int .i64 1]) ∧ Below W.heap.size W w') := fun W hb => (cput_any s A c W (rb_up7 hr hb) (by omega)).mono fun e w' hh => hh.2 hv
  have HR : Hid (∀ W, Calls Try.prog 8 #[ceV s A c] W fun e w' => e = .returned (.tuple #[.slice none 0 0, .int .i64 1]) ∧ Below W.heap.size W w') := fun W => rcput_no s A c W hv
  have HG : Hid (∀ W, Calls Try.prog 9 #[.slice none 0 0] W fun e w' => (∃ A c, e = .returned (.tuple #[.agg #[.int .i64 0, .int .i64 0, .int .i64 0, .slice A 0 c], .int .i64 11])) ∧ Below W.heap.size W w') := fun W => by
    have h1 := cget_any [] none 0 W (RB.none_ _ _) (by simp) (by omega) (by simp)
    rw [getC_size (by simp)] at h1
    refine h1.mono fun e w' hh => ?_
    obtain ⟨A', c, he, hr, hb⟩ := hh
    exact ⟨⟨A', c, he⟩, hb⟩
  have s0 : ∀ W, (convert 22 9 (.slice none 0 0)).run Try.prog W = .ok (.string ⟨([] : List UInt8).toArray⟩) W := fun W => aw_str (RB.none_ _ _) 0 0 rfl
  obtain ⟨o, n, x, D⟩ := s
  obtain ⟨m, hm⟩ : ∃ m, m = D.length := ⟨_, rfl⟩
  simp only at h
  unfold ceV at HP HR ⊢
  simp only at HP HR ⊢
  rw [← hm] at h HP HR ⊢
  have d0 : decide ((400 : Int) < (m : Int)) = false := decide_eq_false (by omega)
  have d1 : decide ((m : Int) > 400) = false := decide_eq_false (by omega)
  have d2 : decide (400 < m) = false := decide_eq_false h
  have a24 := fun w' => Try.aggCell w'
  have s24 := fun w' => Try.sizeCell w'
  have HAw := Lib.hid awake9_any
  have HB : Hid (Below w.heap.size w (w.alloc (.cells #[.int .i64 o, .int .i64 n, .int .i64 x, .slice A m c] 24))) := (Below.refl _ _).alloc (Nat.le_refl _) _
  have HC : Hid (∀ W, Below (w.alloc (.cells #[.int .i64 o, .int .i64 n, .int .i64 x, .slice A m c] 24)).heap.size (w.alloc (.cells #[.int .i64 o, .int .i64 n, .int .i64 x, .slice A m c] 24)) W → W.cell? ⟨w.heap.size, 0, none⟩ = some (.int .i64 o) ∧ W.cell? ⟨w.heap.size, 1, none⟩ = some (.int .i64 n) ∧ W.cell? ⟨w.heap.size, 2, none⟩ = some (.int .i64 x) ∧ W.cell? ⟨w.heap.size, 3, none⟩ = some (.slice A m c)) := fun W hb => cell_at w W o n x A m c hb
  clear hm h hr hv
  go_enter Try.func3, Try.ntmps3
  go_wp2_with (first
    | (go_at_call 7; (with_reducible refine (HP.out _ HB.out).mono ?_); rintro e w1 ⟨rfl, hb1⟩; have b1 := chain7 HB.out hb1; obtain ⟨p0, p1, p2, p3⟩ := HC.out _ hb1)
    | (go_at_call 8; (with_reducible refine (HR.out _).mono ?_); rintro e w2 ⟨rfl, hb2⟩; have b2 := chain7 b1 hb2)
    | (go_at_call 9; (with_reducible refine (HG.out _).mono ?_); rintro e w3 ⟨⟨A3, c3, rfl⟩, hb3⟩; have b3 := chain7 b2 hb3)
    | (go_at_call 6; (with_reducible refine (HAw.out _).mono ?_); rintro e w4 ⟨rfl, hb4⟩))
  go_ret
  exact ⟨rfl, chain7 (b3.alloc b3.size _) hb4⟩
set_option maxRecDepth 100000 in
set_option maxHeartbeats 4000000 in
theorem cputs_yes (s : Ce) (A : Option Addr) (c : Nat) (w : World) (hr : RB w w.heap.size A s.data) (hv : s.may = true) :
    Calls Try.prog 3 #[ceV s A c] w fun e w' => e = .returned (.bool true) ∧ Below w.heap.size w w' := by
  have h242 := ((Ce.may_iff _).1 hv).2.2.2.2.2.2.2
  have h64 := Ce.bytes_length s h242
  obtain ⟨S, hS⟩ : ∃ S, S = s.bytes := ⟨_, rfl⟩
  have hS64 : S.length = 256 := by rw [hS]; exact h64
  have HP : Hid (∀ W, Below w.heap.size w W → Calls Try.prog 7 #[ceV s A c] W fun e w' => ∃ A c, e = .returned (.tuple #[.slice A 256 c, .int .i64 0]) ∧ Hid (RBc w' A S c) ∧ Below W.heap.size W w') := fun W hb => (cput_any s A c W (rb_up7 hr hb) (by omega)).mono fun e w' hh => by
    obtain ⟨A', c', he, ho, hb⟩ := hh.1 hv
    rw [← hS] at he ho
    rw [hS64] at he
    exact ⟨A', c', he, own_cap7 ho, hb⟩
  have HR : Hid (∀ W, Below w.heap.size w W → Calls Try.prog 8 #[ceV s A c] W fun e w' => ∃ A c, e = .returned (.tuple #[.slice A 256 c, .int .i64 0]) ∧ Hid (RBc w' A S c) ∧ Below W.heap.size W w') := fun W hb => (rcput_yes s A c W hv (rb_up7 hr hb)).mono fun e w' hh => by
    obtain ⟨A', c', he, ho, hb⟩ := hh
    rw [← hS] at he ho
    rw [hS64] at he
    exact ⟨A', c', he, own_cap7 ho, hb⟩
  have HG : Hid (∀ W (A : Option Addr) (c : Nat), RBc W A S c → Calls Try.prog 9 #[.slice A 256 c] W fun e w' => ∃ A c, e = .returned (.tuple #[ceV s A c, .int .i64 0]) ∧ Hid (RB w' w'.heap.size A s.data) ∧ Below W.heap.size W w') := fun W A c hr => by
    have h1 := cget_any S A c W hr.1 hr.2.1 hr.2.2 (by omega)
    rw [hS64, hS, getC_put s hv] at h1
    exact h1
  have HSm : Hid (∀ W (A' : Option Addr) (c' : Nat), Below w.heap.size w W → RB W W.heap.size A' s.data → Calls Try.prog 10 #[ceV s A c, ceV s A' c'] W fun e w' => e = .returned (.bool true) ∧ Below W.heap.size W w') := fun W A' c' hb h2 => rcsame_yes s A A' c c' W (rb_up7 hr hb) h2
  have HSt : Hid (∀ W (A : Option Addr) (c : Nat), RBc W A S c → ∀ W', Below W.heap.size W W' → (convert 22 9 (.slice A 256 c)).run Try.prog W' = .ok (.string ⟨S.toArray⟩) W') := fun W A c hr W' hb => aw_str (rb_up7 hr.1 hb) 256 c hS64.symm
  obtain ⟨o, n, x, D⟩ := s
  obtain ⟨m, hm⟩ : ∃ m, m = D.length := ⟨_, rfl⟩
  simp only at h242 hr
  unfold ceV at HP HR HG HSm ⊢
  simp only at HP HR HG HSm ⊢
  rw [← hm] at h242 HP HR HG HSm ⊢
  have d0 : decide ((400 : Int) < (m : Int)) = false := decide_eq_false (by omega)
  have d1 : decide ((m : Int) > 400) = false := decide_eq_false (by omega)
  have d2 : decide (400 < m) = false := decide_eq_false (by omega)
  have a24 := fun w' => Try.aggCell w'
  have s24 := fun w' => Try.sizeCell w'
  have HAw := Lib.hid awake9_any
  have HB : Hid (Below w.heap.size w (w.alloc (.cells #[.int .i64 o, .int .i64 n, .int .i64 x, .slice A m c] 24))) := (Below.refl _ _).alloc (Nat.le_refl _) _
  have HC : Hid (∀ W, Below (w.alloc (.cells #[.int .i64 o, .int .i64 n, .int .i64 x, .slice A m c] 24)).heap.size (w.alloc (.cells #[.int .i64 o, .int .i64 n, .int .i64 x, .slice A m c] 24)) W → W.cell? ⟨w.heap.size, 0, none⟩ = some (.int .i64 o) ∧ W.cell? ⟨w.heap.size, 1, none⟩ = some (.int .i64 n) ∧ W.cell? ⟨w.heap.size, 2, none⟩ = some (.int .i64 x) ∧ W.cell? ⟨w.heap.size, 3, none⟩ = some (.slice A m c)) := fun W hb => cell_at w W o n x A m c hb
  clear hm h242 h64 hS hS64 hr hv
  go_enter Try.func3, Try.ntmps3
  go_wp2_with (first
    | (go_at_call 7; (with_reducible refine (HP.out _ HB.out).mono ?_); rintro e w1 ⟨A1, c1, rfl, r1, hb1⟩; have b1 := chain7 HB.out hb1; obtain ⟨p0, p1, p2, p3⟩ := HC.out _ hb1)
    | (go_at_call 8; (with_reducible refine (HR.out _ b1).mono ?_); rintro e w2 ⟨A2, c2, rfl, r2, hb2⟩; have b2 := chain7 b1 hb2; have k12 := hb2; have q2 : RBc w2 A1 S c1 := ⟨rb_up7 r1.out.1 hb2, r1.out.2⟩)
    | (go_at_call 9; (with_reducible refine (HG.out _ _ _ q2).mono ?_); rintro e w3 ⟨A3, c3, rfl, r3, hb3⟩; have b3 := chain7 b2 hb3; have hv3 : Below w3.heap.size w3 (w3.alloc (.cells #[.int .i64 o, .int .i64 n, .int .i64 x, .slice A3 m c3] 24)) := (Below.refl _ _).alloc (Nat.le_refl _) _; have bv := chain7 b3 hv3; have s1 := HSt.out _ _ _ r1.out _ (chain7 hb2 (chain7 hb3 hv3)); have s2 := HSt.out _ _ _ r2.out _ (chain7 hb3 hv3); clear p0 p1 p2 p3; obtain ⟨p0, p1, p2, p3⟩ := HC.out _ (chain7 hb1 (chain7 hb2 (chain7 hb3 hv3))); have r3v := rb_up7 r3.out hv3)
    | (go_at_call 10; (with_reducible refine (HSm.out _ _ _ bv r3v).mono ?_); rintro e w4 ⟨rfl, hb4⟩; have b4 := chain7 bv hb4)
    | (go_at_call 6; (with_reducible refine (HAw.out _).mono ?_); rintro e w5 ⟨rfl, hb5⟩))
  go_ret
  exact ⟨rfl, chain7 b4 hb5⟩
theorem cputs_any (s : Ce) (A : Option Addr) (c : Nat) (w : World) (hr : RB w w.heap.size A s.data) :
    Calls Try.prog 3 #[ceV s A c] w fun e w' => e = .returned (.bool true) ∧ Below w.heap.size w w' := by
  cases hv : s.may with
  | true => exact cputs_yes s A c w hr hv
  | false =>
    by_cases h : 400 < s.data.length
    · exact cputs_out s A c w h
    · exact cputs_no s A c w hr h hv
set_option maxRecDepth 100000 in
theorem cputs_lifted (os : Os) (started : os.Started) (H : Type) (enc : TypeId × Value → H) :
    ReturnsInHanded {} Try.checked os 3 .any (Rows.cellPutsSpec.pre6 enc Try.prog Try.f3 Rows.cellPutsRow.domain false) (Rows.cellPutsSpec.post enc Try.prog Try.f3 false true false false) := by
  refine returnsInHanded_of_change_sized (C := Try.checked) Try.own started (by kernel_rfl) Try.func3
    (ChangeSpec.witness6 (enc := enc) (C := Try.checked) false ⟨#[], #[.agg #[.int .i64 0, .int .i64 0, .int .i64 0, .slice none 0 0]], []⟩ 8 (by kernel_rfl) (by kernel_rfl) (by kernel_rfl) (by kernel_rfl)) ?_
  intro W base args ds gs before hval0 hW hcnd hsz0 _
  have hval : ∀ (j : Nat) t v, Try.f3.params[j]? = some t → args[j]? = some v → Value.okWide Try.prog W .any base t v := hval0
  have hW' : DataW.Whole enc Try.prog Try.f3.params.toList Rows.cellPutsSpec.vars false W args.toList ds gs before := hW
  have hWk := hW'
  clear hsz0 hval0
  obtain ⟨p, q, hA, hV, rfl, hfz, hnd⟩ := hW'
  rw [Try.params3] at hA hval
  obtain ⟨v0, d0, rfl, rfl, h0⟩ := trodAll_one hA
  obtain ⟨rfl, rfl⟩ := trodVars_none hV
  obtain ⟨s, A, c, rfl, hr, hlc, hcm⟩ := open_cell (hval 0 24 v0 rfl rfl) h0
  refine (cputs_any s A c W hr).mono fun e W' ⟨he, hb⟩ => ⟨_, he, ?_⟩
  exact law_post Try.laidOut hWk rfl rfl rfl rfl rfl Try.underlying4 (by kernel_rfl) hb
theorem cputs_holds : Rows.CellPutsSaid :=
  OpenClaim.holds_of_wide 3 Try.f3 rfl rfl rfl rfl rfl rfl rfl ⟨rfl, rfl, rfl, rfl, rfl⟩ rfl rfl rfl rfl rfl (by kernel_rfl) Try.func3 (by kernel_rfl)
    (of_decide_eq_true (by kernel_rfl)) (by unfold Func.isWrapper; first | (rw [if_pos (by decide +kernel)]; kernel_rfl) | (rw [if_neg (by decide +kernel)]; exact ⟨rfl, rfl⟩))
    (fun os started H enc _ => cputs_lifted os started H enc)
end Go.Proofs.Ytpedgkghfehkjaa
