/- SuperGets returns true for every slice of bytes, and leaves memory that was there as it was; nothing else is assumed beyond the statement itself. -/
import Derived.Test.YtkockhggnbfahaaBu36
import Derived.Test.YtkockhggnbfahaaBu26
set_option linter.unusedVariables false
namespace Go.Proofs.Ytkockhggnbfahaa
open Go.ChangeShapes Go.WideShapes Go.ChangeAt Go.RowKit
set_option maxRecDepth 100000 in
set_option maxHeartbeats 4000000 in
theorem supgets_out (q : Nat) (A : Option Addr) (c : Nat) (w : World) (h : 200 < q) :
    Calls Try.prog 4 #[.slice A q c] w fun e w' => e = .returned (.bool true) ∧ Below w.heap.size w w' := by
  have d0 : decide ((200 : Int) < (q : Int)) = true := decide_eq_true (by omega)
  have d1 : decide ((q : Int) > 200) = true := decide_eq_true (by omega)
  have d2 : decide (200 < q) = true := decide_eq_true h
  have HAw := Lib.hid awake8_any
  go_enter Try.func4, Try.ntmps4
  go_wp2_with (first
    | (go_at_call 11; (with_reducible refine (HAw.out _).mono ?_); rintro e w1 ⟨rfl, hb1⟩))
  go_ret
  exact ⟨rfl, hb1⟩
set_option maxRecDepth 100000 in
set_option maxHeartbeats 4000000 in
theorem supgets_in (b : List UInt8) (q : Nat) (A : Option Addr) (c : Nat) (w : World) (hq : q = b.length) (hr : RB w w.heap.size A b) (hc : q ≤ c) (hcm : c ≤ 9223372036854775807) (h200 : ¬ 200 < q) :
    Calls Try.prog 4 #[.slice A q c] w fun e w' => e = .returned (.bool true) ∧ Below w.heap.size w w' := by
  obtain ⟨s, hs⟩ : ∃ s, s = (getU b).1 := ⟨_, rfl⟩
  obtain ⟨ze, hze⟩ : ∃ z, z = (getU b).2 := ⟨_, rfl⟩
  have HG : Hid (∀ W, Below w.heap.size w W → Calls Try.prog 9 #[.slice A q c] W fun e w' => e = .returned (.tuple #[supV s, .int .i64 ze]) ∧ Below W.heap.size W w') := fun W hb => by
    have h1 := supget_any b A c W (rb_up7 hr hb) (by omega) hcm (by omega)
    rw [← hq] at h1
    rw [hs, hze]
    exact h1
  have HR : Hid (∀ W, Below w.heap.size w W → Calls Try.prog 12 #[.slice A q c] W fun e w' => e = .returned (.tuple #[supV s, .int .i64 ze]) ∧ Below W.heap.size W w') := fun W hb => by
    have h1 := rsget_any b A c W (rb_up7 hr hb) (by omega) hcm
    rw [← hq] at h1
    rw [hs, hze]
    exact h1
  have d0 : decide ((200 : Int) < (q : Int)) = false := decide_eq_false (by omega)
  have d1 : decide ((q : Int) > 200) = false := decide_eq_false (by omega)
  have d2 : decide (200 < q) = false := decide_eq_false h200
  have z2 : (ze == ze) = true := by simp
  by_cases hz : (getU b).2 = 0
  · obtain ⟨hmay, hby⟩ := getU_bytes hz
    rw [← hs] at hmay hby
    have hb64 : q = 64 := by rw [hq, ← hby, s.bytes_length]
    have HP : Hid (∀ W, Calls Try.prog 7 #[supV s] W fun e w' => ∃ A c, e = .returned (.tuple #[.slice A 64 c, .int .i64 0]) ∧ Hid (RB w' w'.heap.size A b) ∧ Below W.heap.size W w') := fun W => (supput_any s W).mono fun e w' hh => by
      obtain ⟨A', c', he, ho, hb⟩ := hh.1 hmay
      rw [s.bytes_length] at he
      rw [hby] at ho
      exact ⟨A', c', he, own_rb ho, hb⟩
    have HSb : Hid (∀ W (A : Option Addr) (c : Nat), RB W W.heap.size A b → (convert 26 9 (.slice A 64 c)).run Try.prog W = .ok (.string ⟨b.toArray⟩) W) := fun W A c h => aw_str h 64 c (by omega)
    have HRb : Hid (∀ W, Below w.heap.size w W → RB W W.heap.size A b) := fun W hb => rb_up7 hr hb
    have hze0 : ze = 0 := by rw [hze]; exact hz
    subst hze0
    subst hb64
    obtain ⟨k, n, l, f, z, o⟩ := s
    unfold supV at HG HR HP
    have a24 := fun w' => Try.aggSup w'
    have s24 := fun w' => Try.sizeSup w'
    have q25 := fun a b c d e f w' => Try.supEq a b c d e f w'
    have HAw := Lib.hid awake8_any
    have HV : Hid (∀ W, Below W.heap.size W (W.alloc (.cells #[.int .i64 k, .int .i64 n, .int .i64 l, .int .i64 f, .int .i64 z, .int .i64 o] 25))) := fun W => (Below.refl _ _).alloc (Nat.le_refl _) _
    clear hs hze hz hmay hby hq hr hc hcm h200
    go_enter Try.func4, Try.ntmps4
    go_wp2_with (first
      | (go_at_call 9; (with_reducible refine (HG.out _ (Below.refl _ _)).mono ?_); rintro e w1 ⟨rfl, hb1⟩; have b1 := chain7 hb1 (HV.out w1))
      | (go_at_call 12; (with_reducible refine (HR.out _ b1).mono ?_); rintro e w2 ⟨rfl, hb2⟩; have b2 := chain7 (chain7 b1 hb2) (HV.out w2); obtain ⟨p0, p1, p2, p3, p4, p5⟩ := super_at w1 _ k n l f z o (chain7 hb2 (HV.out w2)))
      | (go_at_call 7; (with_reducible refine (HP.out _).mono ?_); rintro e w3 ⟨A3, c3, rfl, r3, hb3⟩; have b3 := chain7 b2 hb3; have s1 := HSb.out _ _ c3 r3.out; have s2 := HSb.out _ _ c (HRb.out _ b3); obtain ⟨x0, x1, x2, x3, x4, x5⟩ := super_at w1 w3 k n l f z o (chain7 hb2 (chain7 (HV.out w2) hb3)); obtain ⟨y0, y1, y2, y3, y4, y5⟩ := super_at w2 w3 k n l f z o hb3)
      | (go_at_call 11; (with_reducible refine (HAw.out _).mono ?_); rintro e w5 ⟨rfl, hb5⟩))
    go_ret
    exact ⟨rfl, chain7 b3 hb5⟩
  · have hz0 : (getU b).1 = .zero := (getU_cases b).resolve_left hz |>.1
    have HP : Hid (∀ W, Calls Try.prog 7 #[supV s] W fun e w' => e = .returned (.tuple #[.slice none 0 0, .int .i64 1]) ∧ Below W.heap.size W w') := fun W => (supput_any s W).mono fun e w' hh => hh.2 (by rw [hs, hz0]; exact zero_may)
    have z0 : (ze == 0) = false := by rw [hze]; simpa using hz
    have z1 : (ze != 0) = true := by rw [hze]; simpa using hz
    obtain ⟨k, n, l, f, z, o⟩ := s
    unfold supV at HG HR HP
    have a24 := fun w' => Try.aggSup w'
    have s24 := fun w' => Try.sizeSup w'
    have q25 := fun a b c d e f w' => Try.supEq a b c d e f w'
    have HAw := Lib.hid awake8_any
    have HV : Hid (∀ W, Below W.heap.size W (W.alloc (.cells #[.int .i64 k, .int .i64 n, .int .i64 l, .int .i64 f, .int .i64 z, .int .i64 o] 25))) := fun W => (Below.refl _ _).alloc (Nat.le_refl _) _
    clear hs hze hz hz0 hq hr hc hcm h200
    go_enter Try.func4, Try.ntmps4
    go_wp2_with (first
      | (go_at_call 9; (with_reducible refine (HG.out _ (Below.refl _ _)).mono ?_); rintro e w1 ⟨rfl, hb1⟩; have b1 := chain7 hb1 (HV.out w1))
      | (go_at_call 12; (with_reducible refine (HR.out _ b1).mono ?_); rintro e w2 ⟨rfl, hb2⟩; have b2 := chain7 (chain7 b1 hb2) (HV.out w2); obtain ⟨p0, p1, p2, p3, p4, p5⟩ := super_at w1 _ k n l f z o (chain7 hb2 (HV.out w2)))
      | (go_at_call 7; (with_reducible refine (HP.out _).mono ?_); rintro e w3 ⟨rfl, hb3⟩; have b3 := chain7 b2 hb3; obtain ⟨x0, x1, x2, x3, x4, x5⟩ := super_at w1 w3 k n l f z o (chain7 hb2 (chain7 (HV.out w2) hb3)); obtain ⟨y0, y1, y2, y3, y4, y5⟩ := super_at w2 w3 k n l f z o hb3)
      | (go_at_call 11; (with_reducible refine (HAw.out _).mono ?_); rintro e w5 ⟨rfl, hb5⟩))
    go_ret
    exact ⟨rfl, chain7 b3 hb5⟩
theorem supgets_any (b : List UInt8) (A : Option Addr) (c : Nat) (w : World) (hr : RB w w.heap.size A b) (hc : b.length ≤ c) (hcm : c ≤ 9223372036854775807) :
    Calls Try.prog 4 #[.slice A b.length c] w fun e w' => e = .returned (.bool true) ∧ Below w.heap.size w w' := by
  by_cases h : 200 < b.length
  · exact supgets_out _ A c w h
  · exact supgets_in b _ A c w rfl hr hc hcm h
set_option maxRecDepth 100000 in
theorem supgets_lifted (os : Os) (started : os.Started) (H : Type) (enc : TypeId × Value → H) :
    ReturnsInHanded {} Try.checked os 4 .any (Rows.superGetsSpec.pre6 enc Try.prog Try.f4 Rows.superGetsRow.domain false) (Rows.superGetsSpec.post enc Try.prog Try.f4 false true false false) := by
  refine returnsInHanded_of_change_sized (C := Try.checked) Try.own started (by kernel_rfl) Try.func4
    (ChangeSpec.witness6 (enc := enc) (C := Try.checked) false ⟨#[], #[.slice none 0 0], []⟩ 8 (by kernel_rfl) (by kernel_rfl) (by kernel_rfl) (by kernel_rfl)) ?_
  intro W base args ds gs before hval0 hW hcnd hsz0 _
  have hval : ∀ (j : Nat) t v, Try.f4.params[j]? = some t → args[j]? = some v → Value.okWide Try.prog W .any base t v := hval0
  have hW' : DataW.Whole enc Try.prog Try.f4.params.toList Rows.superGetsSpec.vars false W args.toList ds gs before := hW
  have hWk := hW'
  clear hsz0 hval0
  obtain ⟨p, q, hA, hV, rfl, hfz, hnd⟩ := hW'
  rw [Try.params4] at hA hval
  obtain ⟨v0, d0, rfl, rfl, h0⟩ := trodAll_one hA
  obtain ⟨rfl, rfl⟩ := trodVars_none hV
  obtain ⟨B, L, cB, rfl, hr, hlc, hcm⟩ := open_bytes Try.underlying26 Try.underlying5 Try.cellsB8 (hval 0 26 v0 rfl rfl) h0
  refine (supgets_any L B cB W hr hlc (by unfold maxLen at hcm; omega)).mono fun e W' ⟨he, hb⟩ => ⟨_, he, ?_⟩
  exact law_post Try.laidOut hWk rfl rfl rfl rfl rfl Try.underlying4 (by kernel_rfl) hb
theorem supgets_holds : Rows.SuperGetsSaid :=
  OpenClaim.holds_of_wide 4 Try.f4 rfl rfl rfl rfl rfl rfl rfl ⟨rfl, rfl, rfl, rfl, rfl⟩ rfl rfl rfl rfl rfl (by kernel_rfl) Try.func4 (by kernel_rfl)
    (of_decide_eq_true (by kernel_rfl)) (by unfold Func.isWrapper; first | (rw [if_pos (by decide +kernel)]; kernel_rfl) | (rw [if_neg (by decide +kernel)]; exact ⟨rfl, rfl⟩))
    (fun os started H enc _ => supgets_lifted os started H enc)
end Go.Proofs.Ytkockhggnbfahaa
