/- SuperPuts returns true for every super, and leaves memory that was there as it was; nothing else is assumed beyond the statement itself. -/
import Derived.Test.YtkockhggnbfahaaBu36
import Derived.Test.YtkockhggnbfahaaBu19
set_option linter.unusedVariables false
namespace Go.Proofs.Ytkockhggnbfahaa
open Go.ChangeShapes Go.WideShapes Go.ChangeAt Go.RowKit
theorem nil_str8 (W : World) : (convert 26 9 (.slice none 0 0)).run Try.prog W = .ok (.string ⟨([] : List UInt8).toArray⟩) W := aw_str (RB.none_ _ _) 0 0 rfl
set_option maxRecDepth 100000 in
set_option maxHeartbeats 4000000 in
theorem supputs_no (s : Pu) (w : World) (hv : s.may = false) :
    Calls Try.prog 3 #[supV s] w fun e w' => e = .returned (.bool true) ∧ Below w.heap.size w w' := by
  have HP : Hid (∀ W, Calls Try.prog 7 #[supV s] W fun e w' => e = .returned (.tuple #[.slice none 0 0, .int .i64 1]) ∧ Below W.heap.size W w') := fun W => (supput_any s W).mono fun e w' hh => hh.2 hv
  have HR : Hid (∀ W, Calls Try.prog 8 #[supV s] W fun e w' => e = .returned (.tuple #[.slice none 0 0, .int .i64 1]) ∧ Below W.heap.size W w') := fun W => rsput_no s W hv
  have HG : Hid (∀ W, Calls Try.prog 9 #[.slice none 0 0] W fun e w' => e = .returned (.tuple #[.agg #[.int .i64 0, .int .i64 0, .int .i64 0, .int .i64 0, .int .i64 0, .int .i64 0], .int .i64 11]) ∧ Below W.heap.size W w') := fun W => by
    have h1 := supget_any [] none 0 W (RB.none_ _ _) (by simp) (by omega) (by simp)
    have hg : getS [] = (.zero, 11) := getS_size (by simp)
    have hu := getU_err (b := []) (by rw [hg]; decide)
    rw [hg] at hu
    rw [hu] at h1
    exact h1
  have HCk : Hid (∀ W, Calls Try.prog 10 #[supV s] W fun e w' => e = .returned (.int .i64 1) ∧ Below W.heap.size W w') := fun W => by
    have h1 := scheck_any s W
    rw [if_neg (by rw [hv]; decide)] at h1
    exact h1
  have s0 := fun W => nil_str8 W
  obtain ⟨k, n, l, f, z, o⟩ := s
  unfold supV at HP HR HCk ⊢
  have a24 := fun w' => Try.aggSup w'
  have s24 := fun w' => Try.sizeSup w'
  have q25 := fun a b c d e f w' => Try.supEq a b c d e f w'
  have HAw := Lib.hid awake8_any
  have HB : Hid (Below w.heap.size w (w.alloc (.cells #[.int .i64 k, .int .i64 n, .int .i64 l, .int .i64 f, .int .i64 z, .int .i64 o] 25))) := (Below.refl _ _).alloc (Nat.le_refl _) _
  have HC : Hid (∀ W, Below (w.alloc (.cells #[.int .i64 k, .int .i64 n, .int .i64 l, .int .i64 f, .int .i64 z, .int .i64 o] 25)).heap.size (w.alloc (.cells #[.int .i64 k, .int .i64 n, .int .i64 l, .int .i64 f, .int .i64 z, .int .i64 o] 25)) W → W.cell? ⟨w.heap.size, 0, none⟩ = some (.int .i64 k) ∧ W.cell? ⟨w.heap.size, 1, none⟩ = some (.int .i64 n) ∧ W.cell? ⟨w.heap.size, 2, none⟩ = some (.int .i64 l) ∧ W.cell? ⟨w.heap.size, 3, none⟩ = some (.int .i64 f) ∧ W.cell? ⟨w.heap.size, 4, none⟩ = some (.int .i64 z) ∧ W.cell? ⟨w.heap.size, 5, none⟩ = some (.int .i64 o)) := fun W hb => super_at w W k n l f z o hb
  clear hv
  go_enter Try.func3, Try.ntmps3
  go_wp2_with (first
    | (go_at_call 7; (with_reducible refine (HP.out _).mono ?_); rintro e w1 ⟨rfl, hb1⟩; have b1 := chain7 HB.out hb1; obtain ⟨p0, p1, p2, p3, p4, p5⟩ := HC.out _ hb1)
    | (go_at_call 8; (with_reducible refine (HR.out _).mono ?_); rintro e w2 ⟨rfl, hb2⟩; have b2 := chain7 b1 hb2)
    | (go_at_call 9; (with_reducible refine (HG.out _).mono ?_); rintro e w3 ⟨rfl, hb3⟩; have hv3 : Below w3.heap.size w3 (w3.alloc (.cells #[.int .i64 0, .int .i64 0, .int .i64 0, .int .i64 0, .int .i64 0, .int .i64 0] 25)) := (Below.refl _ _).alloc (Nat.le_refl _) _; have b3 := chain7 (chain7 b2 hb3) hv3; obtain ⟨r0, r1, r2, r3, r4, r5⟩ := HC.out _ (chain7 hb1 (chain7 hb2 (chain7 hb3 hv3))))
    | (go_at_call 10; (with_reducible refine (HCk.out _).mono ?_); rintro e w4 ⟨rfl, hb4⟩; have b4 := chain7 b3 hb4)
    | (go_at_call 11; (with_reducible refine (HAw.out _).mono ?_); rintro e w5 ⟨rfl, hb5⟩))
  go_ret
  exact ⟨rfl, chain7 b4 hb5⟩
set_option maxRecDepth 100000 in
set_option maxHeartbeats 4000000 in
theorem supputs_yes (s : Pu) (w : World) (hv : s.may = true) :
    Calls Try.prog 3 #[supV s] w fun e w' => e = .returned (.bool true) ∧ Below w.heap.size w w' := by
  obtain ⟨S, hS⟩ : ∃ S, S = s.bytes := ⟨_, rfl⟩
  have hS64 : S.length = 64 := by rw [hS]; exact s.bytes_length
  have HP : Hid (∀ W, Calls Try.prog 7 #[supV s] W fun e w' => ∃ A c, e = .returned (.tuple #[.slice A 64 c, .int .i64 0]) ∧ Hid (RBc w' A S c) ∧ Below W.heap.size W w') := fun W => (supput_any s W).mono fun e w' hh => by
    obtain ⟨A', c', he, ho, hb⟩ := hh.1 hv
    rw [← hS] at he ho
    rw [hS64] at he
    exact ⟨A', c', he, own_cap7 ho, hb⟩
  have HR : Hid (∀ W, Calls Try.prog 8 #[supV s] W fun e w' => ∃ A c, e = .returned (.tuple #[.slice A 64 c, .int .i64 0]) ∧ Hid (RBc w' A S c) ∧ Below W.heap.size W w') := fun W => (rsput_yes s W hv).mono fun e w' hh => by
    obtain ⟨A', c', he, ho, hb⟩ := hh
    rw [← hS] at he ho
    rw [hS64] at he
    exact ⟨A', c', he, own_cap7 ho, hb⟩
  have HG : Hid (∀ W (A : Option Addr) (c : Nat), RBc W A S c → Calls Try.prog 9 #[.slice A 64 c] W fun e w' => e = .returned (.tuple #[supV s, .int .i64 0]) ∧ Below W.heap.size W w') := fun W A c hr => by
    have h1 := supget_any S A c W hr.1 hr.2.1 hr.2.2 (by omega)
    rw [hS64, hS, getU_put s hv] at h1
    exact h1
  have HCk : Hid (∀ W, Calls Try.prog 10 #[supV s] W fun e w' => e = .returned (.int .i64 0) ∧ Below W.heap.size W w') := fun W => by
    have h1 := scheck_any s W
    rw [if_pos hv] at h1
    exact h1
  have HSt : Hid (∀ W (A : Option Addr) (c : Nat), RBc W A S c → ∀ W', Below W.heap.size W W' → (convert 26 9 (.slice A 64 c)).run Try.prog W' = .ok (.string ⟨S.toArray⟩) W') := fun W A c hr W' hb => aw_str (rb_up7 hr.1 hb) 64 c hS64.symm
  obtain ⟨k, n, l, f, z, o⟩ := s
  unfold supV at HP HR HG HCk ⊢
  have a24 := fun w' => Try.aggSup w'
  have s24 := fun w' => Try.sizeSup w'
  have q25 := fun a b c d e f w' => Try.supEq a b c d e f w'
  have HAw := Lib.hid awake8_any
  have HB : Hid (Below w.heap.size w (w.alloc (.cells #[.int .i64 k, .int .i64 n, .int .i64 l, .int .i64 f, .int .i64 z, .int .i64 o] 25))) := (Below.refl _ _).alloc (Nat.le_refl _) _
  have HC : Hid (∀ W, Below (w.alloc (.cells #[.int .i64 k, .int .i64 n, .int .i64 l, .int .i64 f, .int .i64 z, .int .i64 o] 25)).heap.size (w.alloc (.cells #[.int .i64 k, .int .i64 n, .int .i64 l, .int .i64 f, .int .i64 z, .int .i64 o] 25)) W → W.cell? ⟨w.heap.size, 0, none⟩ = some (.int .i64 k) ∧ W.cell? ⟨w.heap.size, 1, none⟩ = some (.int .i64 n) ∧ W.cell? ⟨w.heap.size, 2, none⟩ = some (.int .i64 l) ∧ W.cell? ⟨w.heap.size, 3, none⟩ = some (.int .i64 f) ∧ W.cell? ⟨w.heap.size, 4, none⟩ = some (.int .i64 z) ∧ W.cell? ⟨w.heap.size, 5, none⟩ = some (.int .i64 o)) := fun W hb => super_at w W k n l f z o hb
  clear hv hS hS64
  go_enter Try.func3, Try.ntmps3
  go_wp2_with (first
    | (go_at_call 7; (with_reducible refine (HP.out _).mono ?_); rintro e w1 ⟨A1, c1, rfl, r1, hb1⟩; have b1 := chain7 HB.out hb1; obtain ⟨p0, p1, p2, p3, p4, p5⟩ := HC.out _ hb1)
    | (go_at_call 8; (with_reducible refine (HR.out _).mono ?_); rintro e w2 ⟨A2, c2, rfl, r2, hb2⟩; have b2 := chain7 b1 hb2; have q2 : RBc w2 A1 S c1 := ⟨rb_up7 r1.out.1 hb2, r1.out.2⟩)
    | (go_at_call 9; (with_reducible refine (HG.out _ _ _ q2).mono ?_); rintro e w3 ⟨rfl, hb3⟩; have hv3 : Below w3.heap.size w3 (w3.alloc (.cells #[.int .i64 k, .int .i64 n, .int .i64 l, .int .i64 f, .int .i64 z, .int .i64 o] 25)) := (Below.refl _ _).alloc (Nat.le_refl _) _; have b3 := chain7 (chain7 b2 hb3) hv3; have s1 := HSt.out _ _ _ r1.out _ (chain7 hb2 (chain7 hb3 hv3)); have s2 := HSt.out _ _ _ r2.out _ (chain7 hb3 hv3); obtain ⟨t0, t1, t2, t3, t4, t5⟩ := HC.out _ (chain7 hb1 (chain7 hb2 (chain7 hb3 hv3))))
    | (go_at_call 10; (with_reducible refine (HCk.out _).mono ?_); rintro e w4 ⟨rfl, hb4⟩; have b4 := chain7 b3 hb4; obtain ⟨x0, x1, x2, x3, x4, x5⟩ := HC.out _ (chain7 hb1 (chain7 hb2 (chain7 hb3 (chain7 hv3 hb4)))); obtain ⟨y0, y1, y2, y3, y4, y5⟩ := super_at w3 w4 k n l f z o hb4)
    | (go_at_call 11; (with_reducible refine (HAw.out _).mono ?_); rintro e w5 ⟨rfl, hb5⟩))
  go_ret
  exact ⟨rfl, chain7 b4 hb5⟩
theorem supputs_any (s : Pu) (w : World) :
    Calls Try.prog 3 #[supV s] w fun e w' => e = .returned (.bool true) ∧ Below w.heap.size w w' := by
  cases hv : s.may with
  | true => exact supputs_yes s w hv
  | false => exact supputs_no s w hv
set_option maxRecDepth 100000 in
theorem supputs_lifted (os : Os) (started : os.Started) (H : Type) (enc : TypeId × Value → H) :
    ReturnsInHanded {} Try.checked os 3 .any (Rows.superPutsSpec.pre6 enc Try.prog Try.f3 Rows.superPutsRow.domain false) (Rows.superPutsSpec.post enc Try.prog Try.f3 false true false false) := by
  refine returnsInHanded_of_change_sized (C := Try.checked) Try.own started (by kernel_rfl) Try.func3
    (ChangeSpec.witness6 (enc := enc) (C := Try.checked) false ⟨#[], #[.agg #[.int .i64 0, .int .i64 0, .int .i64 0, .int .i64 0, .int .i64 0, .int .i64 0]], []⟩ 8 (by kernel_rfl) (by kernel_rfl) (by kernel_rfl) (by kernel_rfl)) ?_
  intro W base args ds gs before hval0 hW hcnd hsz0 _
  have hval : ∀ (j : Nat) t v, Try.f3.params[j]? = some t → args[j]? = some v → Value.okWide Try.prog W .any base t v := hval0
  have hW' : DataW.Whole enc Try.prog Try.f3.params.toList Rows.superPutsSpec.vars false W args.toList ds gs before := hW
  have hWk := hW'
  clear hsz0 hval0
  obtain ⟨p, q, hA, hV, rfl, hfz, hnd⟩ := hW'
  rw [Try.params3] at hA hval
  obtain ⟨v0, d0, rfl, rfl, h0⟩ := trodAll_one hA
  obtain ⟨rfl, rfl⟩ := trodVars_none hV
  obtain ⟨s, rfl⟩ := open_sup (hval 0 25 v0 rfl rfl) h0
  refine (supputs_any s W).mono fun e W' ⟨he, hb⟩ => ⟨_, he, ?_⟩
  exact law_post Try.laidOut hWk rfl rfl rfl rfl rfl Try.underlying4 (by kernel_rfl) hb
theorem supputs_holds : Rows.SuperPutsSaid :=
  OpenClaim.holds_of_wide 3 Try.f3 rfl rfl rfl rfl rfl rfl rfl ⟨rfl, rfl, rfl, rfl, rfl⟩ rfl rfl rfl rfl rfl (by kernel_rfl) Try.func3 (by kernel_rfl)
    (of_decide_eq_true (by kernel_rfl)) (by unfold Func.isWrapper; first | (rw [if_pos (by decide +kernel)]; kernel_rfl) | (rw [if_neg (by decide +kernel)]; exact ⟨rfl, rfl⟩))
    (fun os started H enc _ => supputs_lifted os started H enc)
end Go.Proofs.Ytkockhggnbfahaa
