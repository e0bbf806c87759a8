/- CellGets returns true for every slice of bytes, and leaves memory that was there as it was; nothing else is assumed beyond the statement itself. -/
import Derived.Test.YtpedgkghfehkjaaBu24
import Derived.Test.YtpedgkghfehkjaaBu20
set_option linter.unusedVariables false
namespace Go.Proofs.Ytpedgkghfehkjaa
open Go.ChangeShapes Go.WideShapes Go.ChangeAt Go.RowKit
theorem rcgetw_any (b : List UInt8) (A : Option Addr) (c : Nat) (w : World) (hr : RB w w.heap.size A b) (hc : b.length ≤ c) (hcm : c ≤ 9223372036854775807) :
    Calls Try.prog 11 #[.slice A b.length c] w (GivesC (getC b) w) := (rcget_any b A c w hr hc hcm).mono fun e w' h => by
  obtain ⟨A, c, he, hr, hb⟩ := h
  exact ⟨A, c, he, hr.1, hb⟩
theorem getC_cases (b : List UInt8) : (getC b).2 = 0 ∨ ((getC b).1 = .zero ∧ (getC b).2 ≠ 0) := by
  by_cases h64 : b.length = 256
  · cases ho : openL b with
    | none => rw [getC_sum h64 ho]; exact .inr ⟨rfl, by decide⟩
    | some c =>
      by_cases hf : FormedC c
      · rw [getC_ok h64 ho hf]; exact .inl rfl
      · rw [getC_form h64 ho hf]; exact .inr ⟨rfl, by decide⟩
  · rw [getC_size h64]; exact .inr ⟨rfl, by decide⟩
theorem getC_len (b : List UInt8) (h : (getC b).2 = 0) : b.length = 256 := by
  by_cases h64 : b.length = 256
  · exact h64
  · rw [getC_size h64] at h; simp at h
set_option maxRecDepth 100000 in
set_option maxHeartbeats 4000000 in
theorem cgets_out (q : Nat) (A : Option Addr) (c : Nat) (w : World) (h : 400 < q) :
    Calls Try.prog 4 #[.slice A q c] w fun e w' => e = .returned (.bool true) ∧ Below w.heap.size w w' := by
  have HAw := Lib.hid awake9_any
  have d0 : decide ((400 : Int) < (q : Int)) = true := decide_eq_true (by omega)
  have d1 : decide ((q : Int) > 400) = true := decide_eq_true (by omega)
  have d2 : decide (400 < q) = true := decide_eq_true h
  clear h
  go_enter Try.func4, Try.ntmps4
  go_wp2_with (first
    | (go_at_call 6; (with_reducible refine (HAw.out _).mono ?_); rintro e w1 ⟨rfl, hb1⟩))
  go_ret
  exact ⟨rfl, hb1⟩
set_option maxRecDepth 100000 in
set_option maxHeartbeats 4000000 in
theorem cgets_ok (b : List UInt8) (q : Nat) (A : Option Addr) (c : Nat) (w : World) (hq : q = b.length) (hr : RB w w.heap.size A b) (hc : q ≤ c) (hcm : c ≤ 9223372036854775807) (h400 : ¬ 400 < q) (h0 : (getC b).2 = 0) :
    Calls Try.prog 4 #[.slice A q c] w fun e w' => e = .returned (.bool true) ∧ Below w.heap.size w w' := by
  obtain ⟨s, hs⟩ : ∃ s, s = (getC b).1 := ⟨_, rfl⟩
  obtain ⟨hm0, hb0⟩ := getC_bytes h0
  have hq64 : b.length = 256 := getC_len b h0
  rw [← hs] at hm0 hb0
  have HP : Hid (∀ W (A' : Option Addr) (c' : Nat), RB W W.heap.size A' s.data → Calls Try.prog 7 #[ceV s A' c'] W fun e w' => ∃ A c, e = .returned (.tuple #[.slice A 256 c, .int .i64 0]) ∧ Hid (RB w' w'.heap.size A b) ∧ Below W.heap.size W w') := fun W A' c' hr => (cput_any s A' c' W hr (by have := ((Ce.may_iff _).1 hm0).2.2.2.2.2.2.2; omega)).mono fun e w' hh => by
    obtain ⟨A', c', he, ho, hb⟩ := hh.1 hm0
    rw [hb0] at he ho
    rw [hq64] at he
    exact ⟨A', c', he, own_rb ho, hb⟩
  have HSp : Hid (∀ W (A' : Option Addr) (c' : Nat), RB W W.heap.size A' b → (convert 22 9 (.slice A' 256 c')).run Try.prog W = .ok (.string ⟨b.toArray⟩) W) := fun W A' c' h => aw_str h 256 c' hq64.symm
  have HSb : Hid (∀ W, Below w.heap.size w W → (convert 22 9 (.slice A q c)).run Try.prog W = .ok (.string ⟨b.toArray⟩) W) := fun W hb => aw_str (rb_up7 hr hb) q c hq
  have HG : Hid (∀ W, Below w.heap.size w W → Calls Try.prog 9 #[.slice A q c] W fun e w' => ∃ A' c', e = .returned (.tuple #[ceV s A' c', .int .i64 0]) ∧ Hid (RB w' w'.heap.size A' s.data) ∧ Below W.heap.size W w') := fun W hb => by
    have h := (by rw [hq]; exact cget_any b A c W (rb_up7 hr hb) (by omega) hcm (by omega) : Calls Try.prog 9 #[.slice A q c] W (GivesC (getC b) W))
    refine h.mono fun e w' hh => ?_
    obtain ⟨A', c', he, hr, hb⟩ := hh
    rw [h0, ← hs] at he
    rw [← hs] at hr
    exact ⟨A', c', he, hr, hb⟩
  have HR : Hid (∀ W, Below w.heap.size w W → Calls Try.prog 11 #[.slice A q c] W fun e w' => ∃ A' c', e = .returned (.tuple #[ceV s A' c', .int .i64 0]) ∧ Hid (RB w' w'.heap.size A' s.data) ∧ Below W.heap.size W w') := fun W hb => by
    have h := (by rw [hq]; exact rcgetw_any b A c W (rb_up7 hr hb) (by omega) hcm : Calls Try.prog 11 #[.slice A q c] W (GivesC (getC b) W))
    refine h.mono fun e w' hh => ?_
    obtain ⟨A', c', he, hr, hb⟩ := hh
    rw [h0, ← hs] at he
    rw [← hs] at hr
    exact ⟨A', c', he, hr, hb⟩
  have HSm : Hid (∀ W (A A' : Option Addr) (c c' : Nat), RB W W.heap.size A s.data → RB W W.heap.size A' s.data → Calls Try.prog 10 #[ceV s A c, ceV s A' c'] W fun e w' => e = .returned (.bool true) ∧ Below W.heap.size W w') := fun W A A' c c' h1 h2 => rcsame_yes s A A' c c' W h1 h2
  have HAw := Lib.hid awake9_any
  have a24 := fun w' => Try.aggCell w'
  have s24 := fun w' => Try.sizeCell w'
  have d0 : decide ((400 : Int) < (q : Int)) = false := decide_eq_false (by omega)
  have d1 : decide ((q : Int) > 400) = false := decide_eq_false (by omega)
  have d2 : decide (400 < q) = false := decide_eq_false h400
  clear hs hq hr hc hcm h400 h0 hm0 hb0 hq64
  obtain ⟨o, n, x, D⟩ := s
  obtain ⟨m, hm⟩ : ∃ m, m = D.length := ⟨_, rfl⟩
  unfold ceV at HP HG HR HSm
  simp only at HP HG HR HSm
  rw [← hm] at HP HG HR HSm
  clear hm
  go_enter Try.func4, Try.ntmps4
  go_wp2_with (first
    | (go_at_call 9; (with_reducible refine (HG.out _ (Below.refl _ _)).mono ?_); rintro e w1 ⟨A1, c1, rfl, r1, hb1⟩; have i1 : Below w1.heap.size w1 (w1.alloc (.cells #[.int .i64 o, .int .i64 n, .int .i64 x, .slice A1 m c1] 24)) := (Below.refl _ _).alloc (Nat.le_refl _) _; have b1 := chain7 hb1 i1)
    | (go_at_call 11; (with_reducible refine (HR.out _ b1).mono ?_); rintro e w2 ⟨A2, c2, rfl, r2, hb2⟩; have i2 : Below w2.heap.size w2 (w2.alloc (.cells #[.int .i64 o, .int .i64 n, .int .i64 x, .slice A2 m c2] 24)) := (Below.refl _ _).alloc (Nat.le_refl _) _; have b2 := chain7 b1 (chain7 hb2 i2); obtain ⟨p0, p1, p2, p3⟩ := cell_at w1 _ o n x A1 m c1 (chain7 hb2 i2); have q1 := rb_up7 r1.out (chain7 i1 (chain7 hb2 i2)); have q2 := rb_up7 r2.out i2)
    | (go_at_call 7; (with_reducible refine (HP.out _ _ _ q1).mono ?_); rintro e w3 ⟨A3, c3, rfl, r3, hb3⟩; have b3 := chain7 b2 hb3; clear p0 p1 p2 p3; obtain ⟨p0, p1, p2, p3⟩ := cell_at w1 _ o n x A1 m c1 (chain7 (chain7 hb2 i2) hb3); obtain ⟨t0, t1, t2, t3⟩ := cell_at w2 _ o n x A2 m c2 hb3; have y1 := rb_up7 q1 hb3; have y2 := rb_up7 q2 hb3)
    | (go_at_call 10; (with_reducible refine (HSm.out _ _ _ _ _ y1 y2).mono ?_); rintro e w4 ⟨rfl, hb4⟩; have b4 := chain7 b3 hb4; have s1 := HSp.out _ _ c3 (rb_up7 r3.out hb4); have s2 := HSb.out _ b4)
    | (go_at_call 6; (with_reducible refine (HAw.out _).mono ?_); rintro e w5 ⟨rfl, hb5⟩))
  go_ret
  exact ⟨rfl, chain7 b4 hb5⟩
set_option maxRecDepth 100000 in
set_option maxHeartbeats 4000000 in
theorem cgets_bad (b : List UInt8) (q : Nat) (A : Option Addr) (c : Nat) (w : World) (hq : q = b.length) (hr : RB w w.heap.size A b) (hc : q ≤ c) (hcm : c ≤ 9223372036854775807) (h400 : ¬ 400 < q) (h0 : (getC b).1 = .zero) (h1 : (getC b).2 ≠ 0) :
    Calls Try.prog 4 #[.slice A q c] w fun e w' => e = .returned (.bool true) ∧ Below w.heap.size w w' := by
  obtain ⟨s, hs⟩ : ∃ s, s = (getC b).1 := ⟨_, rfl⟩
  obtain ⟨z, hz⟩ : ∃ z, z = (getC b).2 := ⟨_, rfl⟩
  have z0 : (z == 0) = false := by rw [hz]; simpa using h1
  have z1 : (z != 0) = true := by rw [hz]; simpa using h1
  have z2 : (z == z) = true := by simp
  have HP : Hid (∀ W (A' : Option Addr) (c' : Nat), RB W W.heap.size A' s.data → Calls Try.prog 7 #[ceV s A' c'] W fun e w' => e = .returned (.tuple #[.slice none 0 0, .int .i64 1]) ∧ Below W.heap.size W w') := fun W A' c' hr => (cput_any s A' c' W hr (by rw [hs, h0]; simp [Ce.zero])).mono fun e w' hh => hh.2 (by rw [hs, h0]; exact (by rfl))
  have HG : Hid (∀ W, Below w.heap.size w W → Calls Try.prog 9 #[.slice A q c] W fun e w' => ∃ A' c', e = .returned (.tuple #[ceV s A' c', .int .i64 z]) ∧ Hid (RB w' w'.heap.size A' s.data) ∧ Below W.heap.size W w') := fun W hb => by
    have h := (by rw [hq]; exact cget_any b A c W (rb_up7 hr hb) (by omega) hcm (by omega) : Calls Try.prog 9 #[.slice A q c] W (GivesC (getC b) W))
    refine h.mono fun e w' hh => ?_
    obtain ⟨A', c', he, hr, hb⟩ := hh
    rw [← hz, ← hs] at he
    rw [← hs] at hr
    exact ⟨A', c', he, hr, hb⟩
  have HR : Hid (∀ W, Below w.heap.size w W → Calls Try.prog 11 #[.slice A q c] W fun e w' => ∃ A' c', e = .returned (.tuple #[ceV s A' c', .int .i64 z]) ∧ Hid (RB w' w'.heap.size A' s.data) ∧ Below W.heap.size W w') := fun W hb => by
    have h := (by rw [hq]; exact rcgetw_any b A c W (rb_up7 hr hb) (by omega) hcm : Calls Try.prog 11 #[.slice A q c] W (GivesC (getC b) W))
    refine h.mono fun e w' hh => ?_
    obtain ⟨A', c', he, hr, hb⟩ := hh
    rw [← hz, ← hs] at he
    rw [← hs] at hr
    exact ⟨A', c', he, hr, hb⟩
  have HSm : Hid (∀ W (A A' : Option Addr) (c c' : Nat), RB W W.heap.size A s.data → RB W W.heap.size A' s.data → Calls Try.prog 10 #[ceV s A c, ceV s A' c'] W fun e w' => e = .returned (.bool true) ∧ Below W.heap.size W w') := fun W A A' c c' h1 h2 => rcsame_yes s A A' c c' W h1 h2
  have HAw := Lib.hid awake9_any
  have a24 := fun w' => Try.aggCell w'
  have s24 := fun w' => Try.sizeCell w'
  have d0 : decide ((400 : Int) < (q : Int)) = false := decide_eq_false (by omega)
  have d1 : decide ((q : Int) > 400) = false := decide_eq_false (by omega)
  have d2 : decide (400 < q) = false := decide_eq_false h400
  clear hs hq hr hc hcm h400 h0 h1 hz
  obtain ⟨o, n, x, D⟩ := s
  obtain ⟨m, hm⟩ : ∃ m, m = D.length := ⟨_, rfl⟩
  unfold ceV at HP HG HR HSm
  simp only at HP HG HR HSm
  rw [← hm] at HP HG HR HSm
  clear hm
  go_enter Try.func4, Try.ntmps4
  go_wp2_with (first
    | (go_at_call 9; (with_reducible refine (HG.out _ (Below.refl _ _)).mono ?_); rintro e w1 ⟨A1, c1, rfl, r1, hb1⟩; have i1 : Below w1.heap.size w1 (w1.alloc (.cells #[.int .i64 o, .int .i64 n, .int .i64 x, .slice A1 m c1] 24)) := (Below.refl _ _).alloc (Nat.le_refl _) _; have b1 := chain7 hb1 i1)
    | (go_at_call 11; (with_reducible refine (HR.out _ b1).mono ?_); rintro e w2 ⟨A2, c2, rfl, r2, hb2⟩; have i2 : Below w2.heap.size w2 (w2.alloc (.cells #[.int .i64 o, .int .i64 n, .int .i64 x, .slice A2 m c2] 24)) := (Below.refl _ _).alloc (Nat.le_refl _) _; have b2 := chain7 b1 (chain7 hb2 i2); obtain ⟨p0, p1, p2, p3⟩ := cell_at w1 _ o n x A1 m c1 (chain7 hb2 i2); have q1 := rb_up7 r1.out (chain7 i1 (chain7 hb2 i2)); have q2 := rb_up7 r2.out i2)
    | (go_at_call 7; (with_reducible refine (HP.out _ _ _ q1).mono ?_); rintro e w3 ⟨rfl, hb3⟩; have b3 := chain7 b2 hb3; clear p0 p1 p2 p3; obtain ⟨p0, p1, p2, p3⟩ := cell_at w1 _ o n x A1 m c1 (chain7 (chain7 hb2 i2) hb3); obtain ⟨t0, t1, t2, t3⟩ := cell_at w2 _ o n x A2 m c2 hb3; have y1 := rb_up7 q1 hb3; have y2 := rb_up7 q2 hb3)
    | (go_at_call 10; (with_reducible refine (HSm.out _ _ _ _ _ y1 y2).mono ?_); rintro e w4 ⟨rfl, hb4⟩; have b4 := chain7 b3 hb4)
    | (go_at_call 6; (with_reducible refine (HAw.out _).mono ?_); rintro e w5 ⟨rfl, hb5⟩))
  go_ret
  exact ⟨rfl, chain7 b4 hb5⟩
theorem cgets_any (b : List UInt8) (A : Option Addr) (c : Nat) (w : World) (hr : RB w w.heap.size A b) (hc : b.length ≤ c) (hcm : c ≤ 9223372036854775807) :
    Calls Try.prog 4 #[.slice A b.length c] w fun e w' => e = .returned (.bool true) ∧ Below w.heap.size w w' := by
  by_cases h : 400 < b.length
  · exact cgets_out _ A c w h
  · rcases getC_cases b with h0 | ⟨h0, h1⟩
    · exact cgets_ok b _ A c w rfl hr hc hcm h h0
    · exact cgets_bad b _ A c w rfl hr hc hcm h h0 h1
set_option maxRecDepth 100000 in
theorem cgets_lifted (os : Os) (started : os.Started) (H : Type) (enc : TypeId × Value → H) :
    ReturnsInHanded {} Try.checked os 4 .any (Rows.cellGetsSpec.pre6 enc Try.prog Try.f4 Rows.cellGetsRow.domain false) (Rows.cellGetsSpec.post enc Try.prog Try.f4 false true false false) := by
  refine returnsInHanded_of_change_sized (C := Try.checked) Try.own started (by kernel_rfl) Try.func4
    (ChangeSpec.witness6 (enc := enc) (C := Try.checked) false ⟨#[], #[.slice none 0 0], []⟩ 8 (by kernel_rfl) (by kernel_rfl) (by kernel_rfl) (by kernel_rfl)) ?_
  intro W base args ds gs before hval0 hW hcnd hsz0 _
  have hval : ∀ (j : Nat) t v, Try.f4.params[j]? = some t → args[j]? = some v → Value.okWide Try.prog W .any base t v := hval0
  have hW' : DataW.Whole enc Try.prog Try.f4.params.toList Rows.cellGetsSpec.vars false W args.toList ds gs before := hW
  have hWk := hW'
  clear hsz0 hval0
  obtain ⟨p, q, hA, hV, rfl, hfz, hnd⟩ := hW'
  rw [Try.params4] at hA hval
  obtain ⟨v0, d0, rfl, rfl, h0⟩ := trodAll_one hA
  obtain ⟨rfl, rfl⟩ := trodVars_none hV
  obtain ⟨A, L, c, rfl, hr, hlc, hcm⟩ := open_bytes Try.underlying22 Try.underlying5 Try.cellsB7 (hval 0 22 v0 rfl rfl) h0
  refine (cgets_any L A c W hr hlc (by unfold maxLen at hcm; omega)).mono fun e W' ⟨he, hb⟩ => ⟨_, he, ?_⟩
  exact law_post Try.laidOut hWk rfl rfl rfl rfl rfl Try.underlying4 (by kernel_rfl) hb
theorem cgets_holds : Rows.CellGetsSaid :=
  OpenClaim.holds_of_wide 4 Try.f4 rfl rfl rfl rfl rfl rfl rfl ⟨rfl, rfl, rfl, rfl, rfl⟩ rfl rfl rfl rfl rfl (by kernel_rfl) Try.func4 (by kernel_rfl)
    (of_decide_eq_true (by kernel_rfl)) (by unfold Func.isWrapper; first | (rw [if_pos (by decide +kernel)]; kernel_rfl) | (rw [if_neg (by decide +kernel)]; exact ⟨rfl, rfl⟩))
    (fun os started H enc _ => cgets_lifted os started H enc)
end Go.Proofs.Ytpedgkghfehkjaa
