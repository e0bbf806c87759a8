/- ManifestGets returns true for every slice of bytes, sealed or as they are, and leaves memory that was there as it was; nothing else is assumed beyond the statement itself. -/
import Derived.Test.YtnmcohdlogepdaaBu25
import Derived.Test.YtnmcohdlogepdaaBu02
set_option linter.unusedVariables false
set_option linter.unusedSimpArgs false
namespace Go.Proofs.Ytnmcohdlogepdaa
open Go.ChangeShapes Go.WideShapes Go.ChangeAt Go.RowKit
set_option maxRecDepth 100000 in
set_option maxHeartbeats 4000000 in
theorem mgets_out (q : Nat) (A : Option Addr) (c : Nat) (sl : Bool) (w : World) (h : 800 < q) :
    Calls Try.prog 3 #[.slice A q c, .bool sl] w fun e w' => e = .returned (.bool true) ∧ Below w.heap.size w w' := by
  have HAw := Lib.hid awake12_any
  have d0 : decide ((800 : Int) < (q : Int)) = true := decide_eq_true (by omega)
  have d1 : decide ((q : Int) > 800) = true := decide_eq_true (by omega)
  have d2 : decide (800 < q) = true := decide_eq_true h
  clear h
  go_enter Try.func3, Try.ntmps3
  go_wp2_with (first
    | (go_at_call 4; (with_reducible refine (HAw.out _).mono ?_); rintro e w1 ⟨rfl, hb1⟩))
  go_ret
  exact ⟨rfl, hb1⟩
set_option maxRecDepth 100000 in
set_option maxHeartbeats 4000000 in
theorem mgets_pok (b0 : List UInt8) (q0 : Nat) (A : Option Addr) (c : Nat) (w : World) (hq0 : q0 = b0.length) (hr : RB w w.heap.size A b0) (hc : q0 ≤ c) (hcm : c ≤ 9223372036854775807) (h800 : ¬ 800 < q0) (h0 : (Mf.get b0).2 = 0) :
    Calls Try.prog 3 #[.slice A q0 c, .bool false] w fun e w' => e = .returned (.bool true) ∧ Below w.heap.size w w' := by
  obtain ⟨b, hb⟩ : ∃ b, b = b0 := ⟨_, rfl⟩
  obtain ⟨q, hqq⟩ : ∃ q, q = q0 := ⟨_, rfl⟩
  have hq : q = b.length := by rw [hqq, hb]; exact hq0
  have hq9 : q ≤ 1000 := by rw [hq, hb]; omega
  rw [← hb] at h0
  obtain ⟨s, hs⟩ : ∃ s, s = (Mf.get b).1 := ⟨_, rfl⟩
  obtain ⟨z, hz⟩ : ∃ z : Int, z = 0 := ⟨_, rfl⟩
  have hg : Mf.get b = (s, z) := by rw [hs, hz, ← h0]
  obtain ⟨pb, hpb⟩ : ∃ x, x = b := ⟨_, rfl⟩
  obtain ⟨pl, hpl⟩ : ∃ x, x = pb.length := ⟨_, rfl⟩
  obtain ⟨pe, hpe⟩ : ∃ x : Int, x = 0 := ⟨_, rfl⟩
  have hp : Mf.put s = (pb, pe) := by
    rcases Mf.get_cases b with ⟨_, h2⟩ | ⟨h1, _⟩
    · rw [hs, h2, hpb, hpe]
    · exact absurd h0 h1
  have HP : Hid (∀ W (A' : Option Addr) (c' : Nat), MfAt W s A' c' → Calls Try.prog 8 #[mfV s A' c'] W fun e w' => ∃ A c, e = .returned (.tuple #[.slice A pl c, .int .i64 pe]) ∧ Hid (RB w' w'.heap.size A pb) ∧ Below W.heap.size W w') := fun W A' c' h => (mput_any s A' c' W h).mono fun e w' hh => by
    obtain ⟨A, c, he, ho, hb⟩ := hh
    rw [hp] at he ho
    rw [← hpl] at he
    exact ⟨A, c, he, ho, hb⟩
  have HG : Hid (∀ W (A' : Option Addr) (c' : Nat), RB W W.heap.size A' b ∧ q ≤ c' ∧ c' ≤ 9223372036854775807 → Calls Try.prog 6 #[.slice A' q c'] W fun e w' => ∃ A c, e = .returned (.tuple #[mfV s A c, .int .i64 z]) ∧ Hid (MfAt w' s A c) ∧ Below W.heap.size W w') := fun W A' c' h => (by rw [hq]; exact mget_any b A' c' W h.1 (by omega) h.2.2 (by omega) : Calls Try.prog 6 #[.slice A' q c'] W (GivesMf (Mf.get b) W)).mono fun e w' hh => by
    obtain ⟨A, c, he, hr, hb⟩ := hh
    rw [hg] at he hr
    exact ⟨A, c, he, hr, hb⟩
  have HR : Hid (∀ W (A' : Option Addr) (c' : Nat), RB W W.heap.size A' b ∧ q ≤ c' ∧ c' ≤ 9223372036854775807 → Calls Try.prog 7 #[.slice A' q c'] W fun e w' => ∃ A c, e = .returned (.tuple #[mfV s A c, .int .i64 z]) ∧ Hid (MfAt w' s A c) ∧ Below W.heap.size W w') := fun W A' c' h => (by rw [hq]; exact rmget_any b A' c' W h.1 (by omega) h.2.2 (by omega) : Calls Try.prog 7 #[.slice A' q c'] W (GivesMf (Mf.get b) W)).mono fun e w' hh => by
    obtain ⟨A, c, he, hr, hb⟩ := hh
    rw [hg] at he hr
    exact ⟨A, c, he, hr, hb⟩
  have HSm : Hid (∀ W (A A' : Option Addr) (c c' : Nat), MfAt W s A c → MfAt W s A' c' → Calls Try.prog 9 #[mfV s A c, mfV s A' c'] W fun e w' => e = .returned (.bool true) ∧ Below W.heap.size W w') := fun W A A' c c' h1 h2 => rmsame_yes s A A' c c' W h1 h2
  have HSp : Hid (∀ W (A' : Option Addr) (c' : Nat), RB W W.heap.size A' pb → (convert 22 9 (.slice A' pl c')).run Try.prog W = .ok (.string ⟨pb.toArray⟩) W) := fun W A' c' h => aw_str h pl c' hpl
  have HSb : Hid (∀ W (A' : Option Addr) (c' : Nat), RB W W.heap.size A' b → (convert 22 9 (.slice A' q c')).run Try.prog W = .ok (.string ⟨b.toArray⟩) W) := fun W A' c' h => aw_str h q c' hq
  have HAw := Lib.hid awake12_any
  have a24 := fun w' => Try.manAgg w'
  have s24 := fun w' => Try.manSize w'
  have HRb : Hid (RB w w.heap.size A b ∧ q ≤ c ∧ c ≤ 9223372036854775807) := ⟨by rw [hb]; exact hr, by omega, hcm⟩
  have d0 : decide ((800 : Int) < (q0 : Int)) = false := decide_eq_false (by omega)
  have d1 : decide ((q0 : Int) > 800) = false := decide_eq_false (by omega)
  have d2 : decide (800 < q0) = false := decide_eq_false h800
  rw [← hqq] at d0 d1 d2 ⊢
  clear hs hq hr hc hcm h800 hg hp hpl hq9 hq0
  clear hqq
  subst hpe
  subst hz
  clear h0
  subst hpb
  clear hb
  unfold mfV at HP HG HR HSm
  obtain ⟨sg, sn⟩ := s
  obtain ⟨f, sz, o⟩ := sn
  obtain ⟨k, hk⟩ : ∃ k, k = sg.length := ⟨_, rfl⟩
  simp only at HP HG HR HSm
  rw [← hk] at HP HG HR HSm
  clear hk
  go_enter Try.func3, Try.ntmps3
  go_wp2_with (first
    | (go_at_call 6; (with_reducible refine (HG.out _ _ _ HRb.out).mono ?_); rintro e w1 ⟨A1, c1, rfl, r1, hb1⟩; have i1 : Below w1.heap.size w1 (w1.alloc (.cells #[.slice A1 k c1, .int .i64 f, .int .i64 sz, .int .i64 o] 29)) := (Below.refl _ _).alloc (Nat.le_refl _) _; have b1 := chainM hb1 i1; have rb1 := Lib.hid (rb_upM HRb.out.1 (chainM hb1 i1)))
    | (go_at_call 7; (with_reducible refine (HR.out _ _ _ ⟨rb1.out, HRb.out.2⟩).mono ?_); rintro e w2 ⟨A2, c2, rfl, r2, hb2⟩; have i2 : Below w2.heap.size w2 (w2.alloc (.cells #[.slice A2 k c2, .int .i64 f, .int .i64 sz, .int .i64 o] 29)) := (Below.refl _ _).alloc (Nat.le_refl _) _; have b2 := chainM b1 (chainM hb2 i2); obtain ⟨p0, p1, p2, p3⟩ := man_at w1 _ A1 k c1 f sz o (chainM hb2 i2); have q1 := Lib.hid ((r1.out.up i1).up (chainM hb2 i2)); have q2 := Lib.hid (r2.out.up i2); have rb2 := Lib.hid (rb_upM rb1.out (chainM hb2 i2)))
    | (go_at_call 8; (with_reducible refine (HP.out _ _ _ q1.out).mono ?_); rintro e w3 ⟨A3, c3, rfl, r3, hb3⟩; have b3 := chainM b2 hb3; clear p0 p1 p2 p3; obtain ⟨p0, p1, p2, p3⟩ := man_at w1 _ A1 k c1 f sz o (chainM (chainM hb2 i2) hb3); obtain ⟨t0, t1, t2, t3⟩ := man_at w2 _ A2 k c2 f sz o hb3; have y1 := Lib.hid (q1.out.up hb3); have y2 := Lib.hid (q2.out.up hb3); have rb3 := Lib.hid (rb_upM rb2.out hb3))
    | (go_at_call 9; (with_reducible refine (HSm.out _ _ _ _ _ y1.out y2.out).mono ?_); rintro e w4 ⟨rfl, hb4⟩; have b4 := chainM b3 hb4; have s1 := HSp.out _ _ c3 (rb_upM r3.out hb4); have s2 := HSb.out _ A c (rb_upM rb3.out hb4))
    | (go_at_call 4; (with_reducible refine (HAw.out _).mono ?_); rintro e w5 ⟨rfl, hb5⟩))
  go_ret
  exact ⟨rfl, chainM b4 hb5⟩
set_option maxRecDepth 100000 in
set_option maxHeartbeats 4000000 in
theorem mgets_pbad (b0 : List UInt8) (q0 : Nat) (A : Option Addr) (c : Nat) (w : World) (hq0 : q0 = b0.length) (hr : RB w w.heap.size A b0) (hc : q0 ≤ c) (hcm : c ≤ 9223372036854775807) (h800 : ¬ 800 < q0) (h0 : (Mf.get b0).2 ≠ 0) :
    Calls Try.prog 3 #[.slice A q0 c, .bool false] w fun e w' => e = .returned (.bool true) ∧ Below w.heap.size w w' := by
  obtain ⟨b, hb⟩ : ∃ b, b = b0 := ⟨_, rfl⟩
  obtain ⟨q, hqq⟩ : ∃ q, q = q0 := ⟨_, rfl⟩
  have hq : q = b.length := by rw [hqq, hb]; exact hq0
  have hq9 : q ≤ 1000 := by rw [hq, hb]; omega
  rw [← hb] at h0
  obtain ⟨s, hs⟩ : ∃ s, s = (Mf.get b).1 := ⟨_, rfl⟩
  obtain ⟨z, hz⟩ : ∃ z, z = (Mf.get b).2 := ⟨_, rfl⟩
  have hg : Mf.get b = (s, z) := by rw [hs, hz]
  have z0 : (z == 0) = false := by rw [hz]; simpa using h0
  have z1 : (z != 0) = true := by rw [hz]; simpa using h0
  have z2 : (z == z) = true := by simp
  obtain ⟨pb, hpb⟩ : ∃ x, x = (Mf.put s).1 := ⟨_, rfl⟩
  obtain ⟨pl, hpl⟩ : ∃ x, x = pb.length := ⟨_, rfl⟩
  obtain ⟨pe, hpe⟩ : ∃ x, x = (Mf.put s).2 := ⟨_, rfl⟩
  have hp : Mf.put s = (pb, pe) := by rw [hpb, hpe]
  have HP : Hid (∀ W (A' : Option Addr) (c' : Nat), MfAt W s A' c' → Calls Try.prog 8 #[mfV s A' c'] W fun e w' => ∃ A c, e = .returned (.tuple #[.slice A pl c, .int .i64 pe]) ∧ Hid (RB w' w'.heap.size A pb) ∧ Below W.heap.size W w') := fun W A' c' h => (mput_any s A' c' W h).mono fun e w' hh => by
    obtain ⟨A, c, he, ho, hb⟩ := hh
    rw [hp] at he ho
    rw [← hpl] at he
    exact ⟨A, c, he, ho, hb⟩
  have HG : Hid (∀ W (A' : Option Addr) (c' : Nat), RB W W.heap.size A' b ∧ q ≤ c' ∧ c' ≤ 9223372036854775807 → Calls Try.prog 6 #[.slice A' q c'] W fun e w' => ∃ A c, e = .returned (.tuple #[mfV s A c, .int .i64 z]) ∧ Hid (MfAt w' s A c) ∧ Below W.heap.size W w') := fun W A' c' h => (by rw [hq]; exact mget_any b A' c' W h.1 (by omega) h.2.2 (by omega) : Calls Try.prog 6 #[.slice A' q c'] W (GivesMf (Mf.get b) W)).mono fun e w' hh => by
    obtain ⟨A, c, he, hr, hb⟩ := hh
    rw [hg] at he hr
    exact ⟨A, c, he, hr, hb⟩
  have HR : Hid (∀ W (A' : Option Addr) (c' : Nat), RB W W.heap.size A' b ∧ q ≤ c' ∧ c' ≤ 9223372036854775807 → Calls Try.prog 7 #[.slice A' q c'] W fun e w' => ∃ A c, e = .returned (.tuple #[mfV s A c, .int .i64 z]) ∧ Hid (MfAt w' s A c) ∧ Below W.heap.size W w') := fun W A' c' h => (by rw [hq]; exact rmget_any b A' c' W h.1 (by omega) h.2.2 (by omega) : Calls Try.prog 7 #[.slice A' q c'] W (GivesMf (Mf.get b) W)).mono fun e w' hh => by
    obtain ⟨A, c, he, hr, hb⟩ := hh
    rw [hg] at he hr
    exact ⟨A, c, he, hr, hb⟩
  have HSm : Hid (∀ W (A A' : Option Addr) (c c' : Nat), MfAt W s A c → MfAt W s A' c' → Calls Try.prog 9 #[mfV s A c, mfV s A' c'] W fun e w' => e = .returned (.bool true) ∧ Below W.heap.size W w') := fun W A A' c c' h1 h2 => rmsame_yes s A A' c c' W h1 h2
  have HSp : Hid (∀ W (A' : Option Addr) (c' : Nat), RB W W.heap.size A' pb → (convert 22 9 (.slice A' pl c')).run Try.prog W = .ok (.string ⟨pb.toArray⟩) W) := fun W A' c' h => aw_str h pl c' hpl
  have HSb : Hid (∀ W (A' : Option Addr) (c' : Nat), RB W W.heap.size A' b → (convert 22 9 (.slice A' q c')).run Try.prog W = .ok (.string ⟨b.toArray⟩) W) := fun W A' c' h => aw_str h q c' hq
  have HAw := Lib.hid awake12_any
  have a24 := fun w' => Try.manAgg w'
  have s24 := fun w' => Try.manSize w'
  have HRb : Hid (RB w w.heap.size A b ∧ q ≤ c ∧ c ≤ 9223372036854775807) := ⟨by rw [hb]; exact hr, by omega, hcm⟩
  have d0 : decide ((800 : Int) < (q0 : Int)) = false := decide_eq_false (by omega)
  have d1 : decide ((q0 : Int) > 800) = false := decide_eq_false (by omega)
  have d2 : decide (800 < q0) = false := decide_eq_false h800
  rw [← hqq] at d0 d1 d2 ⊢
  clear hs hq hr hc hcm h800 hg hp hpl hq9 hq0
  clear hqq
  clear hpb hpe hz h0
  clear hb
  unfold mfV at HP HG HR HSm
  obtain ⟨sg, sn⟩ := s
  obtain ⟨f, sz, o⟩ := sn
  obtain ⟨k, hk⟩ : ∃ k, k = sg.length := ⟨_, rfl⟩
  simp only at HP HG HR HSm
  rw [← hk] at HP HG HR HSm
  clear hk
  go_enter Try.func3, Try.ntmps3
  go_wp2_with (first
    | (go_at_call 6; (with_reducible refine (HG.out _ _ _ HRb.out).mono ?_); rintro e w1 ⟨A1, c1, rfl, r1, hb1⟩; have i1 : Below w1.heap.size w1 (w1.alloc (.cells #[.slice A1 k c1, .int .i64 f, .int .i64 sz, .int .i64 o] 29)) := (Below.refl _ _).alloc (Nat.le_refl _) _; have b1 := chainM hb1 i1; have rb1 := Lib.hid (rb_upM HRb.out.1 (chainM hb1 i1)))
    | (go_at_call 7; (with_reducible refine (HR.out _ _ _ ⟨rb1.out, HRb.out.2⟩).mono ?_); rintro e w2 ⟨A2, c2, rfl, r2, hb2⟩; have i2 : Below w2.heap.size w2 (w2.alloc (.cells #[.slice A2 k c2, .int .i64 f, .int .i64 sz, .int .i64 o] 29)) := (Below.refl _ _).alloc (Nat.le_refl _) _; have b2 := chainM b1 (chainM hb2 i2); obtain ⟨p0, p1, p2, p3⟩ := man_at w1 _ A1 k c1 f sz o (chainM hb2 i2); have q1 := Lib.hid ((r1.out.up i1).up (chainM hb2 i2)); have q2 := Lib.hid (r2.out.up i2); have rb2 := Lib.hid (rb_upM rb1.out (chainM hb2 i2)))
    | (go_at_call 8; (with_reducible refine (HP.out _ _ _ q1.out).mono ?_); rintro e w3 ⟨A3, c3, rfl, r3, hb3⟩; have b3 := chainM b2 hb3; clear p0 p1 p2 p3; obtain ⟨p0, p1, p2, p3⟩ := man_at w1 _ A1 k c1 f sz o (chainM (chainM hb2 i2) hb3); obtain ⟨t0, t1, t2, t3⟩ := man_at w2 _ A2 k c2 f sz o hb3; have y1 := Lib.hid (q1.out.up hb3); have y2 := Lib.hid (q2.out.up hb3); have rb3 := Lib.hid (rb_upM rb2.out hb3))
    | (go_at_call 9; (with_reducible refine (HSm.out _ _ _ _ _ y1.out y2.out).mono ?_); rintro e w4 ⟨rfl, hb4⟩; have b4 := chainM b3 hb4; have s1 := HSp.out _ _ c3 (rb_upM r3.out hb4); have s2 := HSb.out _ A c (rb_upM rb3.out hb4))
    | (go_at_call 4; (with_reducible refine (HAw.out _).mono ?_); rintro e w5 ⟨rfl, hb5⟩))
  go_ret
  exact ⟨rfl, chainM b4 hb5⟩
set_option maxRecDepth 100000 in
set_option maxHeartbeats 4000000 in
theorem mgets_sok (b0 : List UInt8) (q0 : Nat) (A : Option Addr) (c : Nat) (w : World) (hq0 : q0 = b0.length) (hr : RB w w.heap.size A b0) (hc : q0 ≤ c) (hcm : c ≤ 9223372036854775807) (h800 : ¬ 800 < q0) (h0 : (Mf.get (sealL b0)).2 = 0) :
    Calls Try.prog 3 #[.slice A q0 c, .bool true] w fun e w' => e = .returned (.bool true) ∧ Below w.heap.size w w' := by
  obtain ⟨b, hb⟩ : ∃ b, b = sealL b0 := ⟨_, rfl⟩
  obtain ⟨q, hq⟩ : ∃ q, q = b.length := ⟨_, rfl⟩
  have hq9 : q ≤ 1000 := by rw [hq, hb]; rw [sealL_length]; omega
  rw [← hb] at h0
  obtain ⟨s, hs⟩ : ∃ s, s = (Mf.get b).1 := ⟨_, rfl⟩
  obtain ⟨z, hz⟩ : ∃ z : Int, z = 0 := ⟨_, rfl⟩
  have hg : Mf.get b = (s, z) := by rw [hs, hz, ← h0]
  obtain ⟨pb, hpb⟩ : ∃ x, x = b := ⟨_, rfl⟩
  obtain ⟨pl, hpl⟩ : ∃ x, x = pb.length := ⟨_, rfl⟩
  obtain ⟨pe, hpe⟩ : ∃ x : Int, x = 0 := ⟨_, rfl⟩
  have hp : Mf.put s = (pb, pe) := by
    rcases Mf.get_cases b with ⟨_, h2⟩ | ⟨h1, _⟩
    · rw [hs, h2, hpb, hpe]
    · exact absurd h0 h1
  have HP : Hid (∀ W (A' : Option Addr) (c' : Nat), MfAt W s A' c' → Calls Try.prog 8 #[mfV s A' c'] W fun e w' => ∃ A c, e = .returned (.tuple #[.slice A pl c, .int .i64 pe]) ∧ Hid (RB w' w'.heap.size A pb) ∧ Below W.heap.size W w') := fun W A' c' h => (mput_any s A' c' W h).mono fun e w' hh => by
    obtain ⟨A, c, he, ho, hb⟩ := hh
    rw [hp] at he ho
    rw [← hpl] at he
    exact ⟨A, c, he, ho, hb⟩
  have HG : Hid (∀ W (A' : Option Addr) (c' : Nat), RB W W.heap.size A' b ∧ q ≤ c' ∧ c' ≤ 9223372036854775807 → Calls Try.prog 6 #[.slice A' q c'] W fun e w' => ∃ A c, e = .returned (.tuple #[mfV s A c, .int .i64 z]) ∧ Hid (MfAt w' s A c) ∧ Below W.heap.size W w') := fun W A' c' h => (by rw [hq]; exact mget_any b A' c' W h.1 (by omega) h.2.2 (by omega) : Calls Try.prog 6 #[.slice A' q c'] W (GivesMf (Mf.get b) W)).mono fun e w' hh => by
    obtain ⟨A, c, he, hr, hb⟩ := hh
    rw [hg] at he hr
    exact ⟨A, c, he, hr, hb⟩
  have HR : Hid (∀ W (A' : Option Addr) (c' : Nat), RB W W.heap.size A' b ∧ q ≤ c' ∧ c' ≤ 9223372036854775807 → Calls Try.prog 7 #[.slice A' q c'] W fun e w' => ∃ A c, e = .returned (.tuple #[mfV s A c, .int .i64 z]) ∧ Hid (MfAt w' s A c) ∧ Below W.heap.size W w') := fun W A' c' h => (by rw [hq]; exact rmget_any b A' c' W h.1 (by omega) h.2.2 (by omega) : Calls Try.prog 7 #[.slice A' q c'] W (GivesMf (Mf.get b) W)).mono fun e w' hh => by
    obtain ⟨A, c, he, hr, hb⟩ := hh
    rw [hg] at he hr
    exact ⟨A, c, he, hr, hb⟩
  have HSm : Hid (∀ W (A A' : Option Addr) (c c' : Nat), MfAt W s A c → MfAt W s A' c' → Calls Try.prog 9 #[mfV s A c, mfV s A' c'] W fun e w' => e = .returned (.bool true) ∧ Below W.heap.size W w') := fun W A A' c c' h1 h2 => rmsame_yes s A A' c c' W h1 h2
  have HSp : Hid (∀ W (A' : Option Addr) (c' : Nat), RB W W.heap.size A' pb → (convert 22 9 (.slice A' pl c')).run Try.prog W = .ok (.string ⟨pb.toArray⟩) W) := fun W A' c' h => aw_str h pl c' hpl
  have HSb : Hid (∀ W (A' : Option Addr) (c' : Nat), RB W W.heap.size A' b → (convert 22 9 (.slice A' q c')).run Try.prog W = .ok (.string ⟨b.toArray⟩) W) := fun W A' c' h => aw_str h q c' hq
  have HAw := Lib.hid awake12_any
  have a24 := fun w' => Try.manAgg w'
  have s24 := fun w' => Try.manSize w'
  have HSeal : Hid (∀ W, Below w.heap.size w W → Calls Try.prog 5 #[.slice A q0 c] W fun e w' => ∃ B d, e = .returned (.slice B q d) ∧ Hid (RB w' w'.heap.size B b ∧ q ≤ d ∧ d ≤ 9223372036854775807) ∧ Below W.heap.size W w') := fun W hb0 => (by rw [hq0]; exact mseal_any b0 A c W (rb_upM hr hb0) (by omega) : Calls Try.prog 5 #[.slice A q0 c] W _).mono fun e w' hh => by
    obtain ⟨B, d, he, h1, h2, h3⟩ := hh
    rw [← hb] at he h1 h2
    rw [← hq] at he h2
    exact ⟨B, d, he, ⟨h1, h2⟩, h3⟩
  have d0 : decide ((800 : Int) < (q0 : Int)) = false := decide_eq_false (by omega)
  have d1 : decide ((q0 : Int) > 800) = false := decide_eq_false (by omega)
  have d2 : decide (800 < q0) = false := decide_eq_false h800
  clear hs hq hr hc hcm h800 hg hp hpl hq9 hq0
  subst hpe
  subst hz
  clear h0
  subst hpb
  clear hb
  unfold mfV at HP HG HR HSm
  obtain ⟨sg, sn⟩ := s
  obtain ⟨f, sz, o⟩ := sn
  obtain ⟨k, hk⟩ : ∃ k, k = sg.length := ⟨_, rfl⟩
  simp only at HP HG HR HSm
  rw [← hk] at HP HG HR HSm
  clear hk
  go_enter Try.func3, Try.ntmps3
  go_wp2_with (first
    | (go_at_call 5; (with_reducible refine (HSeal.out _ (Below.refl _ _)).mono ?_); rintro e w0 ⟨B0, c0, rfl, r0, hb0⟩)
    | (go_at_call 6; (with_reducible refine (HG.out _ _ _ r0.out).mono ?_); rintro e w1 ⟨A1, c1, rfl, r1, hb1⟩; have i1 : Below w1.heap.size w1 (w1.alloc (.cells #[.slice A1 k c1, .int .i64 f, .int .i64 sz, .int .i64 o] 29)) := (Below.refl _ _).alloc (Nat.le_refl _) _; have b1 := chainM hb0 (chainM hb1 i1); have rb1 := Lib.hid (rb_upM r0.out.1 (chainM hb1 i1)))
    | (go_at_call 7; (with_reducible refine (HR.out _ _ _ ⟨rb1.out, r0.out.2⟩).mono ?_); rintro e w2 ⟨A2, c2, rfl, r2, hb2⟩; have i2 : Below w2.heap.size w2 (w2.alloc (.cells #[.slice A2 k c2, .int .i64 f, .int .i64 sz, .int .i64 o] 29)) := (Below.refl _ _).alloc (Nat.le_refl _) _; have b2 := chainM b1 (chainM hb2 i2); obtain ⟨p0, p1, p2, p3⟩ := man_at w1 _ A1 k c1 f sz o (chainM hb2 i2); have q1 := Lib.hid ((r1.out.up i1).up (chainM hb2 i2)); have q2 := Lib.hid (r2.out.up i2); have rb2 := Lib.hid (rb_upM rb1.out (chainM hb2 i2)))
    | (go_at_call 8; (with_reducible refine (HP.out _ _ _ q1.out).mono ?_); rintro e w3 ⟨A3, c3, rfl, r3, hb3⟩; have b3 := chainM b2 hb3; clear p0 p1 p2 p3; obtain ⟨p0, p1, p2, p3⟩ := man_at w1 _ A1 k c1 f sz o (chainM (chainM hb2 i2) hb3); obtain ⟨t0, t1, t2, t3⟩ := man_at w2 _ A2 k c2 f sz o hb3; have y1 := Lib.hid (q1.out.up hb3); have y2 := Lib.hid (q2.out.up hb3); have rb3 := Lib.hid (rb_upM rb2.out hb3))
    | (go_at_call 9; (with_reducible refine (HSm.out _ _ _ _ _ y1.out y2.out).mono ?_); rintro e w4 ⟨rfl, hb4⟩; have b4 := chainM b3 hb4; have s1 := HSp.out _ _ c3 (rb_upM r3.out hb4); have s2 := HSb.out _ B0 c0 (rb_upM rb3.out hb4))
    | (go_at_call 4; (with_reducible refine (HAw.out _).mono ?_); rintro e w5 ⟨rfl, hb5⟩))
  go_ret
  exact ⟨rfl, chainM b4 hb5⟩
set_option maxRecDepth 100000 in
set_option maxHeartbeats 4000000 in
theorem mgets_sbad (b0 : List UInt8) (q0 : Nat) (A : Option Addr) (c : Nat) (w : World) (hq0 : q0 = b0.length) (hr : RB w w.heap.size A b0) (hc : q0 ≤ c) (hcm : c ≤ 9223372036854775807) (h800 : ¬ 800 < q0) (h0 : (Mf.get (sealL b0)).2 ≠ 0) :
    Calls Try.prog 3 #[.slice A q0 c, .bool true] w fun e w' => e = .returned (.bool true) ∧ Below w.heap.size w w' := by
  obtain ⟨b, hb⟩ : ∃ b, b = sealL b0 := ⟨_, rfl⟩
  obtain ⟨q, hq⟩ : ∃ q, q = b.length := ⟨_, rfl⟩
  have hq9 : q ≤ 1000 := by rw [hq, hb]; rw [sealL_length]; omega
  rw [← hb] at h0
  obtain ⟨s, hs⟩ : ∃ s, s = (Mf.get b).1 := ⟨_, rfl⟩
  obtain ⟨z, hz⟩ : ∃ z, z = (Mf.get b).2 := ⟨_, rfl⟩
  have hg : Mf.get b = (s, z) := by rw [hs, hz]
  have z0 : (z == 0) = false := by rw [hz]; simpa using h0
  have z1 : (z != 0) = true := by rw [hz]; simpa using h0
  have z2 : (z == z) = true := by simp
  obtain ⟨pb, hpb⟩ : ∃ x, x = (Mf.put s).1 := ⟨_, rfl⟩
  obtain ⟨pl, hpl⟩ : ∃ x, x = pb.length := ⟨_, rfl⟩
  obtain ⟨pe, hpe⟩ : ∃ x, x = (Mf.put s).2 := ⟨_, rfl⟩
  have hp : Mf.put s = (pb, pe) := by rw [hpb, hpe]
  have HP : Hid (∀ W (A' : Option Addr) (c' : Nat), MfAt W s A' c' → Calls Try.prog 8 #[mfV s A' c'] W fun e w' => ∃ A c, e = .returned (.tuple #[.slice A pl c, .int .i64 pe]) ∧ Hid (RB w' w'.heap.size A pb) ∧ Below W.heap.size W w') := fun W A' c' h => (mput_any s A' c' W h).mono fun e w' hh => by
    obtain ⟨A, c, he, ho, hb⟩ := hh
    rw [hp] at he ho
    rw [← hpl] at he
    exact ⟨A, c, he, ho, hb⟩
  have HG : Hid (∀ W (A' : Option Addr) (c' : Nat), RB W W.heap.size A' b ∧ q ≤ c' ∧ c' ≤ 9223372036854775807 → Calls Try.prog 6 #[.slice A' q c'] W fun e w' => ∃ A c, e = .returned (.tuple #[mfV s A c, .int .i64 z]) ∧ Hid (MfAt w' s A c) ∧ Below W.heap.size W w') := fun W A' c' h => (by rw [hq]; exact mget_any b A' c' W h.1 (by omega) h.2.2 (by omega) : Calls Try.prog 6 #[.slice A' q c'] W (GivesMf (Mf.get b) W)).mono fun e w' hh => by
    obtain ⟨A, c, he, hr, hb⟩ := hh
    rw [hg] at he hr
    exact ⟨A, c, he, hr, hb⟩
  have HR : Hid (∀ W (A' : Option Addr) (c' : Nat), RB W W.heap.size A' b ∧ q ≤ c' ∧ c' ≤ 9223372036854775807 → Calls Try.prog 7 #[.slice A' q c'] W fun e w' => ∃ A c, e = .returned (.tuple #[mfV s A c, .int .i64 z]) ∧ Hid (MfAt w' s A c) ∧ Below W.heap.size W w') := fun W A' c' h => (by rw [hq]; exact rmget_any b A' c' W h.1 (by omega) h.2.2 (by omega) : Calls Try.prog 7 #[.slice A' q c'] W (GivesMf (Mf.get b) W)).mono fun e w' hh => by
    obtain ⟨A, c, he, hr, hb⟩ := hh
    rw [hg] at he hr
    exact ⟨A, c, he, hr, hb⟩
  have HSm : Hid (∀ W (A A' : Option Addr) (c c' : Nat), MfAt W s A c → MfAt W s A' c' → Calls Try.prog 9 #[mfV s A c, mfV s A' c'] W fun e w' => e = .returned (.bool true) ∧ Below W.heap.size W w') := fun W A A' c c' h1 h2 => rmsame_yes s A A' c c' W h1 h2
  have HSp : Hid (∀ W (A' : Option Addr) (c' : Nat), RB W W.heap.size A' pb → (convert 22 9 (.slice A' pl c')).run Try.prog W = .ok (.string ⟨pb.toArray⟩) W) := fun W A' c' h => aw_str h pl c' hpl
  have HSb : Hid (∀ W (A' : Option Addr) (c' : Nat), RB W W.heap.size A' b → (convert 22 9 (.slice A' q c')).run Try.prog W = .ok (.string ⟨b.toArray⟩) W) := fun W A' c' h => aw_str h q c' hq
  have HAw := Lib.hid awake12_any
  have a24 := fun w' => Try.manAgg w'
  have s24 := fun w' => Try.manSize w'
  have HSeal : Hid (∀ W, Below w.heap.size w W → Calls Try.prog 5 #[.slice A q0 c] W fun e w' => ∃ B d, e = .returned (.slice B q d) ∧ Hid (RB w' w'.heap.size B b ∧ q ≤ d ∧ d ≤ 9223372036854775807) ∧ Below W.heap.size W w') := fun W hb0 => (by rw [hq0]; exact mseal_any b0 A c W (rb_upM hr hb0) (by omega) : Calls Try.prog 5 #[.slice A q0 c] W _).mono fun e w' hh => by
    obtain ⟨B, d, he, h1, h2, h3⟩ := hh
    rw [← hb] at he h1 h2
    rw [← hq] at he h2
    exact ⟨B, d, he, ⟨h1, h2⟩, h3⟩
  have d0 : decide ((800 : Int) < (q0 : Int)) = false := decide_eq_false (by omega)
  have d1 : decide ((q0 : Int) > 800) = false := decide_eq_false (by omega)
  have d2 : decide (800 < q0) = false := decide_eq_false h800
  clear hs hq hr hc hcm h800 hg hp hpl hq9 hq0
  clear hpb hpe hz h0
  clear hb
  unfold mfV at HP HG HR HSm
  obtain ⟨sg, sn⟩ := s
  obtain ⟨f, sz, o⟩ := sn
  obtain ⟨k, hk⟩ : ∃ k, k = sg.length := ⟨_, rfl⟩
  simp only at HP HG HR HSm
  rw [← hk] at HP HG HR HSm
  clear hk
  go_enter Try.func3, Try.ntmps3
  go_wp2_with (first
    | (go_at_call 5; (with_reducible refine (HSeal.out _ (Below.refl _ _)).mono ?_); rintro e w0 ⟨B0, c0, rfl, r0, hb0⟩)
    | (go_at_call 6; (with_reducible refine (HG.out _ _ _ r0.out).mono ?_); rintro e w1 ⟨A1, c1, rfl, r1, hb1⟩; have i1 : Below w1.heap.size w1 (w1.alloc (.cells #[.slice A1 k c1, .int .i64 f, .int .i64 sz, .int .i64 o] 29)) := (Below.refl _ _).alloc (Nat.le_refl _) _; have b1 := chainM hb0 (chainM hb1 i1); have rb1 := Lib.hid (rb_upM r0.out.1 (chainM hb1 i1)))
    | (go_at_call 7; (with_reducible refine (HR.out _ _ _ ⟨rb1.out, r0.out.2⟩).mono ?_); rintro e w2 ⟨A2, c2, rfl, r2, hb2⟩; have i2 : Below w2.heap.size w2 (w2.alloc (.cells #[.slice A2 k c2, .int .i64 f, .int .i64 sz, .int .i64 o] 29)) := (Below.refl _ _).alloc (Nat.le_refl _) _; have b2 := chainM b1 (chainM hb2 i2); obtain ⟨p0, p1, p2, p3⟩ := man_at w1 _ A1 k c1 f sz o (chainM hb2 i2); have q1 := Lib.hid ((r1.out.up i1).up (chainM hb2 i2)); have q2 := Lib.hid (r2.out.up i2); have rb2 := Lib.hid (rb_upM rb1.out (chainM hb2 i2)))
    | (go_at_call 8; (with_reducible refine (HP.out _ _ _ q1.out).mono ?_); rintro e w3 ⟨A3, c3, rfl, r3, hb3⟩; have b3 := chainM b2 hb3; clear p0 p1 p2 p3; obtain ⟨p0, p1, p2, p3⟩ := man_at w1 _ A1 k c1 f sz o (chainM (chainM hb2 i2) hb3); obtain ⟨t0, t1, t2, t3⟩ := man_at w2 _ A2 k c2 f sz o hb3; have y1 := Lib.hid (q1.out.up hb3); have y2 := Lib.hid (q2.out.up hb3); have rb3 := Lib.hid (rb_upM rb2.out hb3))
    | (go_at_call 9; (with_reducible refine (HSm.out _ _ _ _ _ y1.out y2.out).mono ?_); rintro e w4 ⟨rfl, hb4⟩; have b4 := chainM b3 hb4; have s1 := HSp.out _ _ c3 (rb_upM r3.out hb4); have s2 := HSb.out _ B0 c0 (rb_upM rb3.out hb4))
    | (go_at_call 4; (with_reducible refine (HAw.out _).mono ?_); rintro e w5 ⟨rfl, hb5⟩))
  go_ret
  exact ⟨rfl, chainM b4 hb5⟩
theorem mgets_any (b : List UInt8) (A : Option Addr) (c : Nat) (sl : Bool) (w : World) (hr : RB w w.heap.size A b) (hc : b.length ≤ c) (hcm : c ≤ 9223372036854775807) :
    Calls Try.prog 3 #[.slice A b.length c, .bool sl] w fun e w' => e = .returned (.bool true) ∧ Below w.heap.size w w' := by
  by_cases h8 : 800 < b.length
  · exact mgets_out _ A c sl w h8
  · cases sl with
    | false =>
      by_cases h0 : (Mf.get b).2 = 0
      · exact mgets_pok b _ A c w rfl hr hc hcm h8 h0
      · exact mgets_pbad b _ A c w rfl hr hc hcm h8 h0
    | true =>
      by_cases h0 : (Mf.get (sealL b)).2 = 0
      · exact mgets_sok b _ A c w rfl hr hc hcm h8 h0
      · exact mgets_sbad b _ A c w rfl hr hc hcm h8 h0
set_option maxRecDepth 100000 in
theorem mgets_lifted (os : Os) (started : os.Started) (H : Type) (enc : TypeId × Value → H) :
    ReturnsInHanded {} Try.checked os 3 .any (Rows.manifestGetsSpec.pre6 enc Try.prog Try.f3 Rows.manifestGetsRow.domain false) (Rows.manifestGetsSpec.post enc Try.prog Try.f3 false true false false) := by
  refine returnsInHanded_of_change (C := Try.checked) Try.own started (by kernel_rfl) Try.func3
    (ChangeSpec.witness6 (enc := enc) (C := Try.checked) false ⟨#[], #[.slice none 0 0, .bool false], []⟩ 8 (by kernel_rfl) (by kernel_rfl) (by kernel_rfl) (by kernel_rfl)) ?_
  intro W base args ds gs before hval0 hW hcnd _
  have hval : ∀ (j : Nat) t v, Try.f3.params[j]? = some t → args[j]? = some v → Value.okWide Try.prog W .any base t v := hval0
  have hW' : DataW.Whole enc Try.prog Try.f3.params.toList Rows.manifestGetsSpec.vars false W args.toList ds gs before := hW
  have hWk := hW'
  obtain ⟨p, q, hA, hV, rfl, hfz, hnd⟩ := hW'
  rw [Try.params3] at hA hval
  obtain ⟨v0, v1, d0, d1, p0, p1, rfl, rfl, rfl, h0, h1⟩ := trodAll_two hA
  obtain ⟨rfl, rfl⟩ := trodVars_none hV
  obtain ⟨A, L, c, rfl, hr, hlc, hcm⟩ := open_bytes Try.underlying22 Try.underlying5 (by kernel_rfl : Try.prog.cellsOf 5 = 1) (hval 0 22 v0 rfl rfl) h0
  obtain ⟨sl, rfl, rfl, rfl⟩ := open_bool Try.underlying4 (hval 1 4 v1 rfl rfl) h1
  refine (mgets_any L A c sl W hr hlc hcm).mono fun e W' ⟨he, hb⟩ => ⟨_, he, ?_⟩
  exact law_post Try.laidOut hWk rfl rfl rfl rfl rfl Try.underlying4 (by kernel_rfl) hb
theorem mgets_holds : Rows.ManifestGetsSaid :=
  OpenClaim.holds_of_wide 3 Try.f3 rfl rfl rfl rfl rfl rfl rfl ⟨rfl, rfl, rfl, rfl, rfl⟩ rfl rfl rfl rfl rfl (by kernel_rfl) Try.func3 (by kernel_rfl)
    (of_decide_eq_true (by kernel_rfl)) (by unfold Func.isWrapper; first | (rw [if_pos (by decide +kernel)]; kernel_rfl) | (rw [if_neg (by decide +kernel)]; exact ⟨rfl, rfl⟩))
    (fun os started H enc _ => mgets_lifted os started H enc)
end Go.Proofs.Ytnmcohdlogepdaa
