/- Lemmas under the proofs of this place: CellRNeed, CellPMay, CrcRSeal. No statement is proved here. -/
import Derived.Test.YtpedgkghfehkjaaBu11
import Derived.Test.YtpedgkghfehkjaaBu05
section
set_option linter.unusedVariables false
namespace Go.Proofs.Ytpedgkghfehkjaa
open Go.RowKit
set_option maxRecDepth 100000 in
set_option maxHeartbeats 1000000 in
theorem rcneed_any (n : Nat) (hn : n ≤ 1000000000) (w : World) : Calls Try.prog 17 #[.int .i64 (n : Int)] w fun e w' => e = .returned (.int .i64 (needC n : Int)) ∧ w = w' := by
  by_cases h : n = 0
  · subst h
    have d0 : decide (((0 : Nat) : Int) ≤ 0) = true := by decide
    go_enter Try.func17, Try.ntmps17
    go_wp2
    go_ret
    exact ⟨rfl, rfl⟩
  · have d0 : decide ((n : Int) ≤ 0) = false := decide_eq_false (by omega)
    have d1 : decide (n = 0) = false := decide_eq_false h
    have d2 : decide (n ≤ 0) = false := decide_eq_false (by omega)
    have u0 : (0 : Int) ≤ (n : Int) - 1 := by omega
    have e1 : IntKind.i64.wrap ((n : Int) - 1) = (n : Int) - 1 := IntWalk.i64_in _ (by omega)
    have e2 : ((n : Int) - 1).tdiv 242 = ((n : Int) - 1) / 242 := Int.tdiv_eq_ediv_of_nonneg u0
    have e4 : ((n : Int) - 1) / 242 + 1 = (needC n : Int) := by unfold needC; omega
    have e3 : IntKind.i64.wrap (((n : Int) - 1) / 242 + 1) = (needC n : Int) := by rw [IntWalk.i64_in _ (by omega), e4]
    have HE := Lib.hid e4
    clear e4
    go_enter Try.func17, Try.ntmps17
    go_wp2
    go_ret
    exact ⟨by first | rfl | rw [← HE.out], rfl⟩
end Go.Proofs.Ytpedgkghfehkjaa
end
section
set_option linter.unusedVariables false
set_option linter.unusedSimpArgs false
namespace Go.Proofs.Ytpedgkghfehkjaa
open Go.RowKit
theorem cwithin_gives (n a b : Int) (v : Bool) (hv : (decide (a ≤ n) && decide (n ≤ b)) = v) (w : World) : Calls Try.prog 36 #[.int .i64 n, .int .i64 a, .int .i64 b] w fun e w' => e = .returned (.bool v) ∧ w = w' := by
  by_cases h : a ≤ n
  · have d : decide (a ≤ n) = true := decide_eq_true h
    rw [d, Bool.true_and] at hv
    subst hv
    go_enter Try.func36, Try.ntmps36
    go_wp2
    go_ret
    exact ⟨rfl, rfl⟩
  · have d : decide (a ≤ n) = false := decide_eq_false h
    rw [d, Bool.false_and] at hv
    subst hv
    go_enter Try.func36, Try.ntmps36
    go_wp2
    go_ret
    exact ⟨rfl, rfl⟩
theorem cwithin_yes {n a b : Int} (h : a ≤ n ∧ n ≤ b) (w : World) : Calls Try.prog 36 #[.int .i64 n, .int .i64 a, .int .i64 b] w fun e w' => e = .returned (.bool true) ∧ w = w' :=
  cwithin_gives n a b true (by rw [decide_eq_true h.1, decide_eq_true h.2]; rfl) w
theorem cwithin_no {n a b : Int} (h : ¬ (a ≤ n ∧ n ≤ b)) (w : World) : Calls Try.prog 36 #[.int .i64 n, .int .i64 a, .int .i64 b] w fun e w' => e = .returned (.bool false) ∧ w = w' :=
  cwithin_gives n a b false (by
    by_cases h1 : a ≤ n
    · rw [decide_eq_true h1, decide_eq_false (fun h2 => h ⟨h1, h2⟩)]; rfl
    · rw [decide_eq_false h1]; rfl) w
theorem cnoplace_gives (n : Int) (v : Bool) (hv : placeOk n = v) (w : World) : Calls Try.prog 31 #[.int .i64 n] w fun e w' => e = .returned (.bool (!v)) ∧ w = w' := by
  have nf := fun w' => Try.notFalse w'
  have nt := fun w' => Try.notTrue w'
  have H0 : Hid (∀ W, Calls Try.prog 36 #[.int .i64 n, .int .i64 1, .int .i64 65535] W fun e w' => e = .returned (.bool v) ∧ W = w') := fun W => cwithin_gives n 1 65535 v hv W
  clear hv
  cases v with
  | true =>
    go_enter Try.func31, Try.ntmps31
    go_wp2_with (go_at_call 36; (with_reducible refine (H0.out _).mono ?_); rintro e w1 ⟨rfl, rfl⟩)
    go_ret
    exact ⟨rfl, rfl⟩
  | false =>
    go_enter Try.func31, Try.ntmps31
    go_wp2_with (go_at_call 36; (with_reducible refine (H0.out _).mono ?_); rintro e w1 ⟨rfl, rfl⟩)
    go_ret
    exact ⟨rfl, rfl⟩
theorem cneed_any (n : Nat) (hn : n ≤ 1000000000) (w : World) : Calls Try.prog 16 #[.int .i64 (n : Int)] w fun e w' => e = .returned (.int .i64 (needC n : Int)) ∧ w = w' := by
  by_cases h : n = 0
  · subst h
    have d0 : decide (((0 : Nat) : Int) ≤ 0) = true := by decide
    go_enter Try.func16, Try.ntmps16
    go_wp2
    go_ret
    exact ⟨rfl, rfl⟩
  · have d0 : decide ((n : Int) ≤ 0) = false := decide_eq_false (by omega)
    have d1 : decide (n = 0) = false := decide_eq_false h
    have d2 : decide (n ≤ 0) = false := decide_eq_false (by omega)
    have u0 : (0 : Int) ≤ (n : Int) - 1 := by omega
    have e1 : IntKind.i64.wrap ((n : Int) - 1) = (n : Int) - 1 := IntWalk.i64_in _ (by omega)
    have e2 : ((n : Int) - 1).tdiv 242 = ((n : Int) - 1) / 242 := Int.tdiv_eq_ediv_of_nonneg u0
    have e4 : ((n : Int) - 1) / 242 + 1 = (needC n : Int) := by unfold needC; omega
    have e3 : IntKind.i64.wrap (((n : Int) - 1) / 242 + 1) = (needC n : Int) := by rw [IntWalk.i64_in _ (by omega), e4]
    have HE := Lib.hid e4
    clear e4
    go_enter Try.func16, Try.ntmps16
    go_wp2
    go_ret
    exact ⟨by first | rfl | rw [← HE.out], rfl⟩
set_option maxRecDepth 100000 in
set_option maxHeartbeats 2000000 in
theorem cmaybe_any (s : Ce) (A : Option Addr) (c : Nat) (w : World) : Calls Try.prog 18 #[ceV s A c] w fun e w' => e = .returned (.bool s.may) ∧ Below w.heap.size w w' := by
  obtain ⟨o, n, x, D⟩ := s
  unfold ceV
  obtain ⟨m, hm⟩ : ∃ m, m = D.length := ⟨_, rfl⟩
  have HS : Hid (Ce.may ⟨o, n, x, D⟩ = (decide (1 ≤ o) && (decide (o ≤ 2147483647) && (decide (0 ≤ n) && (decide (n ≤ 65535) && (decide (0 ≤ x) && (decide (x ≤ 65535) && (decide (1 ≤ m) && (decide (m ≤ 242)))))))))) := by show _ = _; rw [hm]; rfl
  simp only
  rw [← hm]
  have HB : Hid (Below w.heap.size w (w.alloc (.cells #[.int .i64 o, .int .i64 n, .int .i64 x, .slice A m c] 24))) := (Below.refl _ _).alloc (Nat.le_refl _) _
  clear hm
  by_cases h0 : 1 ≤ o ∧ o ≤ 2147483647
  rotate_left
  · have HM : Hid (Ce.may ⟨o, n, x, D⟩ = false) := by show _ = _; rw [HS.out]; simp; omega
    have H0 : Hid (∀ W, Calls Try.prog 36 #[.int .i64 o, .int .i64 1, .int .i64 2147483647] W fun e w' => e = .returned (.bool false) ∧ W = w') := fun W => cwithin_no h0 W
    clear HS h0
    go_enter Try.func18, Try.ntmps18
    go_wp2_with (first
      | (go_at_call 36; (with_reducible refine (H0.out _).mono ?_); rintro e w1 ⟨rfl, rfl⟩))
    go_ret
    rw [HM.out]
    exact ⟨rfl, HB.out⟩
  have H0 : Hid (∀ W, Calls Try.prog 36 #[.int .i64 o, .int .i64 1, .int .i64 2147483647] W fun e w' => e = .returned (.bool true) ∧ W = w') := fun W => cwithin_yes h0 W
  by_cases h1 : 0 ≤ n ∧ n ≤ 65535
  rotate_left
  · have HM : Hid (Ce.may ⟨o, n, x, D⟩ = false) := by show _ = _; rw [HS.out]; simp; omega
    have H1 : Hid (∀ W, Calls Try.prog 36 #[.int .i64 n, .int .i64 0, .int .i64 65535] W fun e w' => e = .returned (.bool false) ∧ W = w') := fun W => cwithin_no h1 W
    clear HS h0 h1
    go_enter Try.func18, Try.ntmps18
    go_wp2_with (first
      | (go_at_call 36; (with_reducible refine (H0.out _).mono ?_); rintro e w1 ⟨rfl, rfl⟩)
      | (go_at_call 36; (with_reducible refine (H1.out _).mono ?_); rintro e w1 ⟨rfl, rfl⟩))
    go_ret
    rw [HM.out]
    exact ⟨rfl, HB.out⟩
  have H1 : Hid (∀ W, Calls Try.prog 36 #[.int .i64 n, .int .i64 0, .int .i64 65535] W fun e w' => e = .returned (.bool true) ∧ W = w') := fun W => cwithin_yes h1 W
  by_cases h2 : 0 ≤ x ∧ x ≤ 65535
  rotate_left
  · have HM : Hid (Ce.may ⟨o, n, x, D⟩ = false) := by show _ = _; rw [HS.out]; simp; omega
    have H2 : Hid (∀ W, Calls Try.prog 36 #[.int .i64 x, .int .i64 0, .int .i64 65535] W fun e w' => e = .returned (.bool false) ∧ W = w') := fun W => cwithin_no h2 W
    clear HS h0 h1 h2
    go_enter Try.func18, Try.ntmps18
    go_wp2_with (first
      | (go_at_call 36; (with_reducible refine (H0.out _).mono ?_); rintro e w1 ⟨rfl, rfl⟩)
      | (go_at_call 36; (with_reducible refine (H1.out _).mono ?_); rintro e w1 ⟨rfl, rfl⟩)
      | (go_at_call 36; (with_reducible refine (H2.out _).mono ?_); rintro e w1 ⟨rfl, rfl⟩))
    go_ret
    rw [HM.out]
    exact ⟨rfl, HB.out⟩
  have H2 : Hid (∀ W, Calls Try.prog 36 #[.int .i64 x, .int .i64 0, .int .i64 65535] W fun e w' => e = .returned (.bool true) ∧ W = w') := fun W => cwithin_yes h2 W
  obtain ⟨v, hv⟩ : ∃ v, v = (decide (1 ≤ (m : Int)) && decide ((m : Int) ≤ 242)) := ⟨_, rfl⟩
  have H3 : Hid (∀ W, Calls Try.prog 36 #[.int .i64 (m : Int), .int .i64 1, .int .i64 242] W fun e w' => e = .returned (.bool v) ∧ W = w') := fun W => cwithin_gives _ _ _ v hv.symm W
  have HM : Hid (Ce.may ⟨o, n, x, D⟩ = v) := by
    show _ = _
    rw [HS.out, decide_eq_true h0.1, decide_eq_true h0.2, decide_eq_true h1.1, decide_eq_true h1.2, decide_eq_true h2.1, decide_eq_true h2.2, hv]
    simp only [Bool.true_and]
    congr 1
    · rw [decide_eq_decide]; omega
    · rw [decide_eq_decide]; omega
  clear HS h0 h1 h2 hv
  go_enter Try.func18, Try.ntmps18
  go_wp2_with (first
      | (go_at_call 36; (with_reducible refine (H0.out _).mono ?_); rintro e w1 ⟨rfl, rfl⟩)
      | (go_at_call 36; (with_reducible refine (H1.out _).mono ?_); rintro e w1 ⟨rfl, rfl⟩)
      | (go_at_call 36; (with_reducible refine (H2.out _).mono ?_); rintro e w1 ⟨rfl, rfl⟩)
      | (go_at_call 36; (with_reducible refine (H3.out _).mono ?_); rintro e w1 ⟨rfl, rfl⟩))
  go_ret
  rw [HM.out]
  exact ⟨rfl, HB.out⟩
def Ce.fits (s : Ce) (last : Bool) : Bool := if last then decide (s.next = 0) else decide (s.next ≠ 0) && decide (s.data.length = 242)
set_option maxRecDepth 100000 in
set_option maxHeartbeats 2000000 in
theorem cfits_any (s : Ce) (A : Option Addr) (c : Nat) (last : Bool) (w : World) : Calls Try.prog 35 #[ceV s A c, .bool last] w fun e w' => e = .returned (.bool (s.fits last)) ∧ Below w.heap.size w w' := by
  obtain ⟨o, n, x, D⟩ := s
  unfold ceV Ce.fits
  obtain ⟨m, hm⟩ : ∃ m, m = D.length := ⟨_, rfl⟩
  simp only
  rw [← hm]
  have HB : Hid (Below w.heap.size w (w.alloc (.cells #[.int .i64 o, .int .i64 n, .int .i64 x, .slice A m c] 24))) := (Below.refl _ _).alloc (Nat.le_refl _) _
  clear hm
  cases last with
  | true =>
    by_cases h : x = 0
    · subst h
      go_enter Try.func35, Try.ntmps35
      go_wp2
      go_ret
      exact ⟨rfl, HB.out⟩
    · have d0 : (x == 0) = false := by simp; exact h
      have HM : Hid ((if true = true then decide (x = 0) else decide (x ≠ 0) && decide (m = 242)) = false) := by show _ = _; rw [if_pos rfl]; exact decide_eq_false h
      rw [HM.out]
      clear h
      go_enter Try.func35, Try.ntmps35
      go_wp2
      go_ret
      exact ⟨rfl, HB.out⟩
  | false =>
    by_cases h : x = 0
    · subst h
      have HM : Hid ((if false = true then decide ((0 : Int) = 0) else decide ((0 : Int) ≠ 0) && decide (m = 242)) = false) := by show _ = _; rw [if_neg (by decide)]; simp
      rw [HM.out]
      go_enter Try.func35, Try.ntmps35
      go_wp2
      go_ret
      exact ⟨rfl, HB.out⟩
    · have d0 : (x == 0) = false := by simp; exact h
      have d1 : (x != 0) = true := by simp; exact h
      by_cases h2 : m = 242
      · have HM : Hid ((if false = true then decide (x = 0) else decide (x ≠ 0) && decide (m = 242)) = true) := by show _ = _; rw [if_neg (by decide)]; simp [h, h2]
        have d2 : ((m : Int) == 242) = true := by simp; omega
        rw [HM.out]
        clear h h2
        go_enter Try.func35, Try.ntmps35
        go_wp2
        go_ret
        exact ⟨rfl, HB.out⟩
      · have HM : Hid ((if false = true then decide (x = 0) else decide (x ≠ 0) && decide (m = 242)) = false) := by show _ = _; rw [if_neg (by decide)]; simp [h2]
        have d2 : ((m : Int) == 242) = false := by simp; omega
        rw [HM.out]
        clear h h2
        go_enter Try.func35, Try.ntmps35
        go_wp2
        go_ret
        exact ⟨rfl, HB.out⟩
end Go.Proofs.Ytpedgkghfehkjaa
end
section
set_option linter.unusedVariables false
namespace Go.Proofs.Ytpedgkghfehkjaa
open Go.RowKit
theorem le4_cells (n : Nat) (h : n < 4294967296) : (#[.int .u8 ((n : Int) % 256), .int .u8 ((n : Int) / 256 % 256), .int .u8 ((n : Int) / 65536 % 256), .int .u8 ((n : Int) / 16777216)] : Array Value) = (cells (le4 n)).toArray := by
  have e1 : ((n : Int) % 256) = ((UInt8.ofNat (n % 256)).toNat : Int) := by rw [ofNat_toNat _ (by omega)]; omega
  have e2 : ((n : Int) / 256 % 256) = ((UInt8.ofNat (n / 256 % 256)).toNat : Int) := by rw [ofNat_toNat _ (by omega)]; omega
  have e3 : ((n : Int) / 65536 % 256) = ((UInt8.ofNat (n / 65536 % 256)).toNat : Int) := by rw [ofNat_toNat _ (by omega)]; omega
  have e4 : ((n : Int) / 16777216) = ((UInt8.ofNat (n / 16777216)).toNat : Int) := by rw [ofNat_toNat _ (by omega)]; omega
  rw [e1, e2, e3, e4]
  rfl
theorem le4_new (n : Nat) (w : World) (h : n < 4294967296) : RB (w.alloc (.cells #[.int .u8 ((n : Int) % 256), .int .u8 ((n : Int) / 256 % 256), .int .u8 ((n : Int) / 65536 % 256), .int .u8 ((n : Int) / 16777216)] 5)) (w.heap.size + 1) (some ⟨w.heap.size, 0, none⟩) (le4 n) := by
  rw [le4_cells n h]
  exact rb_new w (le4 n)
set_option maxRecDepth 100000 in
set_option maxHeartbeats 1000000 in
theorem refSeal_any (L : List UInt8) (A : Option Addr) (c B : Nat) (w : World) (hr : RB w B A L) (hl : L.length ≤ 140737488351232) :
    Calls Try.prog 24 #[.slice A L.length c] w (GivesOne (sealL L) w) := by
  obtain ⟨i0, hi0, hz0, hz1, hz2⟩ := info_parts Try.info5
  have hr := rb_lt hr
  have hs := sumL_lt L
  have HS : ∀ W E, RB W E A L → Calls Try.prog 40 #[.slice A L.length c] W fun e w' => e = .returned (.int .u32 (sumL L : Int)) ∧ W = w' := fun W E h => refSum_any L A c E W h (by omega)
  obtain ⟨n, hn⟩ : ∃ n, n = sumL L := ⟨_, rfl⟩
  rw [← hn] at HS hs
  have HN : Hid (n = sumL L) := hn
  have HS2 := Lib.hid HS
  obtain ⟨M, hM⟩ : ∃ M, M = le4 n := ⟨_, rfl⟩
  have HM : Hid (L ++ M = sealL L) := by show _ = _; rw [hM, hn]; rfl
  have HF : Hid (∀ W : World, RB (W.alloc (.cells #[.int .u8 ((n : Int) % 256), .int .u8 ((n : Int) / 256 % 256), .int .u8 ((n : Int) / 65536 % 256), .int .u8 ((n : Int) / 16777216)] 5)) (W.heap.size + 1) (some ⟨W.heap.size, 0, none⟩) M) := by
    rw [hM]; exact fun W => le4_new n W hs
  have HM4 : Hid (∀ x : Option Addr, Value.slice x 4 4 = .slice x M.length 4) := by show ∀ x, _; intro x; rw [hM]; rfl
  have hm4 : M.length ≤ 4 := by rw [hM]; exact Nat.le_refl _
  clear hM
  clear hn HS
  go_enter Try.func24, Try.ntmps24
  go_wp2_with (first
    | (go_at_call 40; (with_reducible refine (HS2.out _ _ hr).mono ?_); rintro e w' ⟨rfl, rfl⟩)
    | (at_builtin; refine wpList_append_any _ rfl (.tmp 6) (.tmp 7) _ rfl w.heap.size 5 i0 _ 1 1 Try.underlying22 hi0 hz0 hz1 hz2 rfl (by omega) (.slice (some ⟨w.heap.size, 0, none⟩) 0 0) 0 [] rfl (World.ownsRow_made w #[] 0 (Nat.le_refl _) (by decide) rfl) w.heap.size A L.length c (cells L) rfl (hr.alloc (Nat.le_refl _) _) (cells_one _) (by simp only [maxLen]; omega) (by omega) (by simp) ?_; intro v5 w5 ho5 hg5 hat5; simp only [Nat.zero_add, List.nil_append] at ho5; have hb5 : Below w.heap.size w w5 := ((Below.refl _ _).alloc (Nat.le_refl _) _).grown hg5 (by simp) (by simp [Value.ownBlock]))
    | (at_builtin; refine wpList_append_any _ rfl (.tmp 8) (.tmp 23) _ rfl w.heap.size 5 i0 _ 1 1 Try.underlying22 hi0 hz0 hz1 hz2 rfl (by omega) _ L.length (cells L) rfl (ho5.alloc _) (w5.heap.size + 1) (some ⟨w5.heap.size, 0, none⟩) M.length 4 (cells M) (HM4.out _) (HF.out w5) (cells_one _) (by simp only [maxLen]; omega) (by omega) (by have := hb5.size; simp; omega) ?_; intro v6 w6 ho6 hg6 hat6; have hb6 : Below w.heap.size w w6 := (hb5.alloc hb5.size _).grown hg6 (by have := hb5.size; simp; omega) (fun k hk => (ho5.lt k hk).1)))
  rw [← cells_append, ← List.length_append, HM.out] at ho6
  obtain ⟨A6, c6, hv⟩ := own_form ho6
  go_ret
  exact ⟨A6, c6, by rw [hv]; rfl, by rw [hv] at ho6; exact ho6, hb6⟩
end Go.Proofs.Ytpedgkghfehkjaa
end
