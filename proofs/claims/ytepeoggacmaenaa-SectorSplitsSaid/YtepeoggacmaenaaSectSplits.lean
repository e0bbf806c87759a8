/- SectorSplits returns true for every sector and every slice of bytes, and leaves memory that was there as it was; nothing else is assumed beyond the statement itself. -/
import Derived.Test.YtepeoggacmaenaaSectOpen
import Derived.Test.YtepeoggacmaenaaSectRSplit
import Derived.Test.YtepeoggacmaenaaSectRAll
set_option linter.unusedVariables false
namespace Go.Proofs.Ytepeoggacmaenaa
open Go.ChangeShapes Go.WideShapes Go.ChangeAt Go.RowKit

set_option maxRecDepth 100000 in
set_option maxHeartbeats 4000000 in
theorem ssplits_out (s : Sd) (A : Option Addr) (c : Nat) (q : Nat) (B : Option Addr) (cB : Nat) (w : World) (h : 600 < q) :
    Calls Try.prog 5 #[secV s A c, .slice B q cB] w fun e w' => e = .returned (.bool true) ∧ Below w.heap.size w w' := by
  obtain ⟨k, ep, n, l, D⟩ := s
  obtain ⟨m, hm⟩ : ∃ m, m = D.length := ⟨_, rfl⟩
  unfold secV
  simp only
  rw [← hm]
  have d0 : decide ((600 : Int) < (q : Int)) = true := decide_eq_true (by omega)
  have d1 : decide ((q : Int) > 600) = true := decide_eq_true (by omega)
  have d2 : decide (600 < q) = true := decide_eq_true h
  have a24 := fun w' => Try.aggSec w'
  have s24 := fun w' => Try.sizeSec w'
  have HAw := Lib.hid awake7_any
  have HB : Hid (Below w.heap.size w (w.alloc (.cells #[.int .i64 k, .int .i64 ep, .int .i64 n, .int .i64 l, .slice A m c] 24))) := (Below.refl _ _).alloc (Nat.le_refl _) _
  have HC : Hid (∀ W, Below (w.alloc (.cells #[.int .i64 k, .int .i64 ep, .int .i64 n, .int .i64 l, .slice A m c] 24)).heap.size (w.alloc (.cells #[.int .i64 k, .int .i64 ep, .int .i64 n, .int .i64 l, .slice A m c] 24)) W → W.cell? ⟨w.heap.size, 0, none⟩ = some (.int .i64 k) ∧ W.cell? ⟨w.heap.size, 1, none⟩ = some (.int .i64 ep) ∧ W.cell? ⟨w.heap.size, 2, none⟩ = some (.int .i64 n) ∧ W.cell? ⟨w.heap.size, 3, none⟩ = some (.int .i64 l) ∧ W.cell? ⟨w.heap.size, 4, none⟩ = some (.slice A m c)) := fun W hb => var_at w W k ep n l A m c hb
  clear hm h
  go_enter Try.func5, Try.ntmps5
  go_wp2_with (first
    | (go_at_call 7; (with_reducible refine (HAw.out _).mono ?_); rintro e w1 ⟨rfl, hb1⟩))
  go_ret
  exact ⟨rfl, chain7 HB.out hb1⟩
set_option maxRecDepth 100000 in
set_option maxHeartbeats 4000000 in
theorem ssplits_ok (s : Sd) (A : Option Addr) (c : Nat) (t : List UInt8) (q : Nat) (B : Option Addr) (cB : Nat) (w : World) (hzn : -9223372036854775808 ≤ s.number ∧ s.number ≤ 9223372036854775807) (hq : q = t.length) (hr : RB w w.heap.size B t) (hc : q ≤ cB) (hcm : cB ≤ 9223372036854775807) (h600 : ¬ 600 < q) (h0 : (splitS s t).2 = 0) :
    Calls Try.prog 5 #[secV s A c, .slice B q cB] w fun e w' => e = .returned (.bool true) ∧ Below w.heap.size w w' := by
  obtain ⟨r, hrr⟩ : ∃ r, r = (splitS s t).1 := ⟨_, rfl⟩
  obtain ⟨r0, hr0⟩ : ∃ n, n = r.length := ⟨_, rfl⟩
  obtain ⟨N, hN⟩ : ∃ N, N = needN q := ⟨_, rfl⟩
  have hsl := split_len s t
  rw [← hrr, ← hr0, ← hq, ← hN] at hsl
  have hN2 : N = (q + 47) / 48 := hN
  have hj := join_split s t h0
  rw [← hrr] at hj
  have HP : Hid (∀ W, Below w.heap.size w W → Calls Try.prog 13 #[secV s A c, .slice B q cB] W fun e w' => ∃ A' c', e = .returned (.tuple #[.slice A' r0 c', .int .i64 0]) ∧ Hid (SL w' w'.heap.size A' r) ∧ Below W.heap.size W w') := fun W hb => by
    have h : Calls Try.prog 13 #[secV s A c, .slice B q cB] W (GivesSL (splitS s t) W) := by rw [hq]; exact ssplit_any s A c t B cB W (by omega) (rb_up7 hr hb) (by omega) hcm hzn
    refine h.mono fun e w' hh => ?_
    obtain ⟨A', c', he, hs, hb⟩ := hh
    rw [h0, ← hrr, ← hr0] at he
    rw [← hrr] at hs
    exact ⟨A', c', he, hs, hb⟩
  have HR : Hid (∀ W, Below w.heap.size w W → Calls Try.prog 14 #[secV s A c, .slice B q cB] W fun e w' => ∃ A' c', e = .returned (.tuple #[.slice A' r0 c', .int .i64 0]) ∧ Hid (SL w' w'.heap.size A' r) ∧ Below W.heap.size W w') := fun W hb => by
    have h : Calls Try.prog 14 #[secV s A c, .slice B q cB] W (GivesSL (splitS s t) W) := by rw [hq]; exact rsplit_any s A c t B cB W (by omega) (rb_up7 hr hb) (by omega) hcm
    refine h.mono fun e w' hh => ?_
    obtain ⟨A', c', he, hs, hb⟩ := hh
    rw [h0, ← hrr, ← hr0] at he
    rw [← hrr] at hs
    exact ⟨A', c', he, hs, hb⟩
  have HJ : Hid (∀ W (A' : Option Addr) (c' : Nat), SL W W.heap.size A' r → Calls Try.prog 15 #[.slice A' r0 c'] W fun e w' => ∃ A c, e = .returned (.tuple #[.slice A q c, .bool true]) ∧ Hid (RB w' w'.heap.size A t) ∧ Below W.heap.size W w') := fun W A' c' hs => by
    have h := sjoin_any r A' c' W hs (by rw [← hr0]; omega) (fun x hx => Nat.le_trans (hsl.2 x hx) (by omega))
    rw [hj, ← hr0] at h
    refine h.mono fun e w' hh => ?_
    obtain ⟨A', c', he, hs, hb⟩ := hh
    rw [← hq] at he
    exact ⟨A', c', he, hs, hb⟩
  have HA : Hid (∀ W (A A' : Option Addr) (c c' : Nat), SL W W.heap.size A r → SL W W.heap.size A' r → Calls Try.prog 16 #[.slice A r0 c, .slice A' r0 c'] W fun e w' => e = .returned (.bool true) ∧ Below W.heap.size W w') := fun W A A' c c' h1 h2 => rall_yes r r0 A A' c c' W hr0 (by omega) h1 h2
  have HN : Hid (∀ W, Calls Try.prog 17 #[.int .i64 (q : Int)] W fun e w' => e = .returned (.int .i64 (N : Int)) ∧ W = w') := fun W => by rw [hN]; exact sneed_any q (by omega) W
  have HM : Hid (∀ W, Calls Try.prog 18 #[.int .i64 (q : Int)] W fun e w' => e = .returned (.int .i64 (N : Int)) ∧ W = w') := fun W => by rw [hN]; exact rneed_any q (by omega) W
  have HSp : Hid (∀ W (A' : Option Addr) (c' : Nat), RB W W.heap.size A' t → (convert 22 9 (.slice A' q c')).run Try.prog W = .ok (.string ⟨t.toArray⟩) W) := fun W A' c' h => aw_str h q c' hq
  have HSb : Hid (∀ W, Below w.heap.size w W → RB W W.heap.size B t) := fun W hb => rb_up7 hr hb
  have d0 : decide ((600 : Int) < (q : Int)) = false := decide_eq_false (by omega)
  have d1 : decide ((q : Int) > 600) = false := decide_eq_false (by omega)
  have d2 : decide (600 < q) = false := decide_eq_false h600
  have e0 : decide ((r0 : Int) ≤ (N : Int)) = true := decide_eq_true (by omega)
  have e1 : decide (r0 ≤ N) = true := decide_eq_true hsl.1
  have e3 : ((N : Int) == (N : Int)) = true := by simp
  have y0 := fun w' => Try.notFalse w'
  have y1 := fun w' => Try.notTrue w'
  clear hrr hr0 hN hsl hN2 hj h0 hq hr hc hcm h600
  obtain ⟨k, ep, n, l, D⟩ := s
  obtain ⟨m, hm⟩ : ∃ m, m = D.length := ⟨_, rfl⟩
  unfold secV at HP HR ⊢
  simp only at HP HR ⊢
  rw [← hm] at HP HR ⊢
  have a24 := fun w' => Try.aggSec w'
  have s24 := fun w' => Try.sizeSec w'
  have HAw := Lib.hid awake7_any
  have HB : Hid (Below w.heap.size w (w.alloc (.cells #[.int .i64 k, .int .i64 ep, .int .i64 n, .int .i64 l, .slice A m c] 24))) := (Below.refl _ _).alloc (Nat.le_refl _) _
  have HC : Hid (∀ W, Below (w.alloc (.cells #[.int .i64 k, .int .i64 ep, .int .i64 n, .int .i64 l, .slice A m c] 24)).heap.size (w.alloc (.cells #[.int .i64 k, .int .i64 ep, .int .i64 n, .int .i64 l, .slice A m c] 24)) W → W.cell? ⟨w.heap.size, 0, none⟩ = some (.int .i64 k) ∧ W.cell? ⟨w.heap.size, 1, none⟩ = some (.int .i64 ep) ∧ W.cell? ⟨w.heap.size, 2, none⟩ = some (.int .i64 n) ∧ W.cell? ⟨w.heap.size, 3, none⟩ = some (.int .i64 l) ∧ W.cell? ⟨w.heap.size, 4, none⟩ = some (.slice A m c)) := fun W hb => var_at w W k ep n l A m c hb
  clear hm
  go_enter Try.func5, Try.ntmps5
  go_wp2_with (first
    | (go_at_call 13; (with_reducible refine (HP.out _ HB.out).mono ?_); rintro e w1 ⟨A1, c1, rfl, r1, hb1⟩; have b1 := chain7 HB.out hb1; obtain ⟨p0, p1, p2, p3, p4⟩ := HC.out _ hb1)
    | (go_at_call 14; (with_reducible refine (HR.out _ b1).mono ?_); rintro e w2 ⟨A2, c2, rfl, r2, hb2⟩; have b2 := chain7 b1 hb2; have q1 := r1.out.up hb2; have q2 := r2.out)
    | (go_at_call 15; (with_reducible refine (HJ.out _ _ _ q1).mono ?_); rintro e w3 ⟨A3, c3, rfl, r3, hb3⟩; have b3 := chain7 b2 hb3; have x1 := q1.up hb3; have x2 := q2.up hb3)
    | (go_at_call 16; (with_reducible refine (HA.out _ _ _ _ _ x1 x2).mono ?_); rintro e w4 ⟨rfl, hb4⟩; have b4 := chain7 b3 hb4; have s1 := HSp.out _ _ c3 (rb_up7 r3.out hb4); have s2 := HSp.out _ _ cB (HSb.out _ b4))
    | (go_at_call 17; (with_reducible refine (HN.out _).mono ?_); rintro e w6 ⟨rfl, rfl⟩)
    | (go_at_call 18; (with_reducible refine (HM.out _).mono ?_); rintro e w6 ⟨rfl, rfl⟩)
    | (go_at_call 7; (with_reducible refine (HAw.out _).mono ?_); rintro e w5 ⟨rfl, hb5⟩))
  go_ret
  exact ⟨rfl, chain7 b4 hb5⟩
set_option maxRecDepth 100000 in
set_option maxHeartbeats 4000000 in
theorem ssplits_bad (s : Sd) (A : Option Addr) (c : Nat) (t : List UInt8) (q : Nat) (B : Option Addr) (cB : Nat) (w : World) (hzn : -9223372036854775808 ≤ s.number ∧ s.number ≤ 9223372036854775807) (hq : q = t.length) (hr : RB w w.heap.size B t) (hc : q ≤ cB) (hcm : cB ≤ 9223372036854775807) (h600 : ¬ 600 < q) (h0 : (splitS s t).2 ≠ 0) :
    Calls Try.prog 5 #[secV s A c, .slice B q cB] w fun e w' => e = .returned (.bool true) ∧ Below w.heap.size w w' := by
  obtain ⟨r, hrr⟩ : ∃ r, r = (splitS s t).1 := ⟨_, rfl⟩
  obtain ⟨r0, hr0⟩ : ∃ n, n = r.length := ⟨_, rfl⟩
  obtain ⟨N, hN⟩ : ∃ N, N = needN q := ⟨_, rfl⟩
  have hsl := split_len s t
  rw [← hrr, ← hr0, ← hq, ← hN] at hsl
  have hN2 : N = (q + 47) / 48 := hN
  obtain ⟨hnil, hj⟩ := join_bad s t h0
  rw [← hrr] at hj
  obtain ⟨z, hz⟩ : ∃ z, z = (splitS s t).2 := ⟨_, rfl⟩
  have z0 : (z == 0) = false := by rw [hz]; simpa using h0
  have z1 : (z != 0) = true := by rw [hz]; simpa using h0
  have z2 : (z == z) = true := by simp
  have HP : Hid (∀ W, Below w.heap.size w W → Calls Try.prog 13 #[secV s A c, .slice B q cB] W fun e w' => ∃ A' c', e = .returned (.tuple #[.slice A' r0 c', .int .i64 z]) ∧ Hid (SL w' w'.heap.size A' r) ∧ Below W.heap.size W w') := fun W hb => by
    have h : Calls Try.prog 13 #[secV s A c, .slice B q cB] W (GivesSL (splitS s t) W) := by rw [hq]; exact ssplit_any s A c t B cB W (by omega) (rb_up7 hr hb) (by omega) hcm hzn
    refine h.mono fun e w' hh => ?_
    obtain ⟨A', c', he, hs, hb⟩ := hh
    rw [← hz, ← hrr, ← hr0] at he
    rw [← hrr] at hs
    exact ⟨A', c', he, hs, hb⟩
  have HR : Hid (∀ W, Below w.heap.size w W → Calls Try.prog 14 #[secV s A c, .slice B q cB] W fun e w' => ∃ A' c', e = .returned (.tuple #[.slice A' r0 c', .int .i64 z]) ∧ Hid (SL w' w'.heap.size A' r) ∧ Below W.heap.size W w') := fun W hb => by
    have h : Calls Try.prog 14 #[secV s A c, .slice B q cB] W (GivesSL (splitS s t) W) := by rw [hq]; exact rsplit_any s A c t B cB W (by omega) (rb_up7 hr hb) (by omega) hcm
    refine h.mono fun e w' hh => ?_
    obtain ⟨A', c', he, hs, hb⟩ := hh
    rw [← hz, ← hrr, ← hr0] at he
    rw [← hrr] at hs
    exact ⟨A', c', he, hs, hb⟩
  have HJ : Hid (∀ W (A' : Option Addr) (c' : Nat), SL W W.heap.size A' r → Calls Try.prog 15 #[.slice A' r0 c'] W fun e w' => ∃ A c, e = .returned (.tuple #[.slice A 0 c, .bool false]) ∧ Below W.heap.size W w') := fun W A' c' hs => by
    have h := sjoin_any r A' c' W hs (by rw [← hr0]; omega) (fun x hx => Nat.le_trans (hsl.2 x hx) (by omega))
    rw [hj, ← hr0] at h
    refine h.mono fun e w' hh => ?_
    obtain ⟨A', c', he, hs, hb⟩ := hh
    skip
    exact ⟨A', c', he, hb⟩
  have HA : Hid (∀ W (A A' : Option Addr) (c c' : Nat), SL W W.heap.size A r → SL W W.heap.size A' r → Calls Try.prog 16 #[.slice A r0 c, .slice A' r0 c'] W fun e w' => e = .returned (.bool true) ∧ Below W.heap.size W w') := fun W A A' c c' h1 h2 => rall_yes r r0 A A' c c' W hr0 (by omega) h1 h2
  have HN : Hid (∀ W, Calls Try.prog 17 #[.int .i64 (q : Int)] W fun e w' => e = .returned (.int .i64 (N : Int)) ∧ W = w') := fun W => by rw [hN]; exact sneed_any q (by omega) W
  have HM : Hid (∀ W, Calls Try.prog 18 #[.int .i64 (q : Int)] W fun e w' => e = .returned (.int .i64 (N : Int)) ∧ W = w') := fun W => by rw [hN]; exact rneed_any q (by omega) W
  have d0 : decide ((600 : Int) < (q : Int)) = false := decide_eq_false (by omega)
  have d1 : decide ((q : Int) > 600) = false := decide_eq_false (by omega)
  have d2 : decide (600 < q) = false := decide_eq_false h600
  have e0 : decide ((r0 : Int) ≤ (N : Int)) = true := decide_eq_true (by omega)
  have e1 : decide (r0 ≤ N) = true := decide_eq_true hsl.1
  have e3 : ((N : Int) == (N : Int)) = true := by simp
  have y0 := fun w' => Try.notFalse w'
  have y1 := fun w' => Try.notTrue w'
  clear hrr hr0 hN hsl hN2 hj h0 hq hr hc hcm h600 hnil hz
  obtain ⟨k, ep, n, l, D⟩ := s
  obtain ⟨m, hm⟩ : ∃ m, m = D.length := ⟨_, rfl⟩
  unfold secV at HP HR ⊢
  simp only at HP HR ⊢
  rw [← hm] at HP HR ⊢
  have a24 := fun w' => Try.aggSec w'
  have s24 := fun w' => Try.sizeSec w'
  have HAw := Lib.hid awake7_any
  have HB : Hid (Below w.heap.size w (w.alloc (.cells #[.int .i64 k, .int .i64 ep, .int .i64 n, .int .i64 l, .slice A m c] 24))) := (Below.refl _ _).alloc (Nat.le_refl _) _
  have HC : Hid (∀ W, Below (w.alloc (.cells #[.int .i64 k, .int .i64 ep, .int .i64 n, .int .i64 l, .slice A m c] 24)).heap.size (w.alloc (.cells #[.int .i64 k, .int .i64 ep, .int .i64 n, .int .i64 l, .slice A m c] 24)) W → W.cell? ⟨w.heap.size, 0, none⟩ = some (.int .i64 k) ∧ W.cell? ⟨w.heap.size, 1, none⟩ = some (.int .i64 ep) ∧ W.cell? ⟨w.heap.size, 2, none⟩ = some (.int .i64 n) ∧ W.cell? ⟨w.heap.size, 3, none⟩ = some (.int .i64 l) ∧ W.cell? ⟨w.heap.size, 4, none⟩ = some (.slice A m c)) := fun W hb => var_at w W k ep n l A m c hb
  clear hm
  go_enter Try.func5, Try.ntmps5
  go_wp2_with (first
    | (go_at_call 13; (with_reducible refine (HP.out _ HB.out).mono ?_); rintro e w1 ⟨A1, c1, rfl, r1, hb1⟩; have b1 := chain7 HB.out hb1; obtain ⟨p0, p1, p2, p3, p4⟩ := HC.out _ hb1)
    | (go_at_call 14; (with_reducible refine (HR.out _ b1).mono ?_); rintro e w2 ⟨A2, c2, rfl, r2, hb2⟩; have b2 := chain7 b1 hb2; have q1 := r1.out.up hb2; have q2 := r2.out)
    | (go_at_call 15; (with_reducible refine (HJ.out _ _ _ q1).mono ?_); rintro e w3 ⟨A3, c3, rfl, hb3⟩; have b3 := chain7 b2 hb3; have x1 := q1.up hb3; have x2 := q2.up hb3)
    | (go_at_call 16; (with_reducible refine (HA.out _ _ _ _ _ x1 x2).mono ?_); rintro e w4 ⟨rfl, hb4⟩; have b4 := chain7 b3 hb4)
    | (go_at_call 17; (with_reducible refine (HN.out _).mono ?_); rintro e w6 ⟨rfl, rfl⟩)
    | (go_at_call 18; (with_reducible refine (HM.out _).mono ?_); rintro e w6 ⟨rfl, rfl⟩)
    | (go_at_call 7; (with_reducible refine (HAw.out _).mono ?_); rintro e w5 ⟨rfl, hb5⟩))
  go_ret
  exact ⟨rfl, chain7 b4 hb5⟩
theorem ssplits_any (s : Sd) (A : Option Addr) (c : Nat) (t : List UInt8) (B : Option Addr) (cB : Nat) (w : World) (hzn : -9223372036854775808 ≤ s.number ∧ s.number ≤ 9223372036854775807) (hr : RB w w.heap.size B t) (hc : t.length ≤ cB) (hcm : cB ≤ 9223372036854775807) :
    Calls Try.prog 5 #[secV s A c, .slice B t.length cB] w fun e w' => e = .returned (.bool true) ∧ Below w.heap.size w w' := by
  by_cases h : 600 < t.length
  · exact ssplits_out s A c _ B cB w h
  · by_cases h0 : (splitS s t).2 = 0
    · exact ssplits_ok s A c t _ B cB w hzn rfl hr hc hcm h h0
    · exact ssplits_bad s A c t _ B cB w hzn rfl hr hc hcm h h0
set_option maxRecDepth 100000 in
theorem ssplits_lifted (os : Os) (started : os.Started) (H : Type) (enc : TypeId × Value → H) :
    ReturnsInHanded {} Try.checked os 5 .any (Rows.sectorSplitsSpec.pre6 enc Try.prog Try.f5 Rows.sectorSplitsRow.domain false) (Rows.sectorSplitsSpec.post enc Try.prog Try.f5 false true false false) := by
  refine returnsInHanded_of_change_sized (C := Try.checked) Try.own started (by kernel_rfl) Try.func5
    (ChangeSpec.witness6 (enc := enc) (C := Try.checked) false ⟨#[], #[.agg #[.int .i64 0, .int .i64 0, .int .i64 0, .int .i64 0, .slice none 0 0], .slice none 0 0], []⟩ 8 (by kernel_rfl) (by kernel_rfl) (by kernel_rfl) (by kernel_rfl)) ?_
  intro W base args ds gs before hval0 hW hcnd hsz0 _
  have hval : ∀ (j : Nat) t v, Try.f5.params[j]? = some t → args[j]? = some v → Value.okWide Try.prog W .any base t v := hval0
  have hW' : DataW.Whole enc Try.prog Try.f5.params.toList Rows.sectorSplitsSpec.vars false W args.toList ds gs before := hW
  have hWk := hW'
  clear hsz0 hval0
  obtain ⟨p, q, hA, hV, rfl, hfz, hnd⟩ := hW'
  rw [Try.params5] at hA hval
  obtain ⟨v0, v1, d0, d1, p0, p1, rfl, rfl, rfl, h0, h1⟩ := trodAll_two hA
  obtain ⟨rfl, rfl⟩ := trodVars_none hV
  obtain ⟨s, A, c, rfl, _, _, _, hzn⟩ := open_sec (hval 0 24 v0 rfl rfl) h0
  obtain ⟨B, L, cB, rfl, hr, hlc, hcm⟩ := open_bytes Try.underlying22 Try.underlying5 Try.cellsB7 (hval 1 22 v1 rfl rfl) h1
  refine (ssplits_any s A c L B cB W hzn hr hlc (by unfold maxLen at hcm; omega)).mono fun e W' ⟨he, hb⟩ => ⟨_, he, ?_⟩
  exact law_post Try.laidOut hWk rfl rfl rfl rfl rfl Try.underlying4 (by kernel_rfl) hb
theorem ssplits_holds : Rows.SectorSplitsSaid :=
  OpenClaim.holds_of_wide 5 Try.f5 rfl rfl rfl rfl rfl rfl rfl ⟨rfl, rfl, rfl, rfl, rfl⟩ rfl rfl rfl rfl rfl (by kernel_rfl) Try.func5 (by kernel_rfl)
    (of_decide_eq_true (by kernel_rfl)) (by unfold Func.isWrapper; first | (rw [if_pos (by decide +kernel)]; kernel_rfl) | (rw [if_neg (by decide +kernel)]; exact ⟨rfl, rfl⟩))
    (fun os started H enc _ => ssplits_lifted os started H enc)
end Go.Proofs.Ytepeoggacmaenaa
