/- The walks of the program's small functions on sectors: within, mayBe, Need, at, sameHead, fills (layer 7). -/
import Derived.Test.YtepeoggacmaenaaSectRMay
import Derived.Test.YtepeoggacmaenaaNots
set_option linter.unusedVariables false
set_option linter.unusedSimpArgs false
namespace Go.Proofs.Ytepeoggacmaenaa
open Go.RowKit

theorem within_gives (n a b : Int) (v : Bool) (hv : (decide (a ≤ n) && decide (n ≤ b)) = v) (w : World) : Calls Try.prog 36 #[.int .i64 n, .int .i64 a, .int .i64 b] w fun e w' => e = .returned (.bool v) ∧ w = w' := by
  by_cases h : a ≤ n
  · have d : decide (a ≤ n) = true := decide_eq_true h
    rw [d, Bool.true_and] at hv
    subst hv
    go_enter Try.func36, Try.ntmps36
    go_wp2
    go_ret
    exact ⟨rfl, rfl⟩
  · have d : decide (a ≤ n) = false := decide_eq_false h
    rw [d, Bool.false_and] at hv
    subst hv
    go_enter Try.func36, Try.ntmps36
    go_wp2
    go_ret
    exact ⟨rfl, rfl⟩
theorem within_yes {n a b : Int} (h : a ≤ n ∧ n ≤ b) (w : World) : Calls Try.prog 36 #[.int .i64 n, .int .i64 a, .int .i64 b] w fun e w' => e = .returned (.bool true) ∧ w = w' :=
  within_gives n a b true (by rw [decide_eq_true h.1, decide_eq_true h.2]; rfl) w
theorem within_no {n a b : Int} (h : ¬ (a ≤ n ∧ n ≤ b)) (w : World) : Calls Try.prog 36 #[.int .i64 n, .int .i64 a, .int .i64 b] w fun e w' => e = .returned (.bool false) ∧ w = w' :=
  within_gives n a b false (by
    by_cases h1 : a ≤ n
    · rw [decide_eq_true h1, decide_eq_false (fun h2 => h ⟨h1, h2⟩)]; rfl
    · rw [decide_eq_false h1]; rfl) w
set_option maxRecDepth 100000 in
set_option maxHeartbeats 2000000 in
theorem maybe_any (s : Sd) (A : Option Addr) (c : Nat) (w : World) : Calls Try.prog 19 #[secV s A c] w fun e w' => e = .returned (.bool s.may) ∧ Below w.heap.size w w' := by
  obtain ⟨k, ep, n, l, D⟩ := s
  unfold secV
  obtain ⟨m, hm⟩ : ∃ m, m = D.length := ⟨_, rfl⟩
  have HS : Hid (Sd.may ⟨k, ep, n, l, D⟩ = (decide (1 ≤ k) && (decide (k ≤ 255) && (decide (0 ≤ ep) && (decide (ep ≤ 2147483647) && (decide (0 ≤ n) && (decide (n ≤ 2147483647) && (decide (0 ≤ l) && (decide (l ≤ 65535) && decide (m ≤ 48)))))))))) := by show _ = _; rw [hm]; rfl
  simp only
  rw [← hm]
  have HB : Hid (Below w.heap.size w (w.alloc (.cells #[.int .i64 k, .int .i64 ep, .int .i64 n, .int .i64 l, .slice A m c] 24))) := (Below.refl _ _).alloc (Nat.le_refl _) _
  clear hm
  by_cases h0 : 1 ≤ k ∧ k ≤ 255
  rotate_left
  · have HM : Hid (Sd.may ⟨k, ep, n, l, D⟩ = false) := by show _ = _; rw [HS.out]; simp; omega
    have H0 : Hid (∀ W, Calls Try.prog 36 #[.int .i64 k, .int .i64 1, .int .i64 255] W fun e w' => e = .returned (.bool false) ∧ W = w') := fun W => within_no h0 W
    clear HS h0
    go_enter Try.func19, Try.ntmps19
    go_wp2_with (first | (go_at_call 36; (with_reducible refine (H0.out _).mono ?_); rintro e w1 ⟨rfl, rfl⟩))
    go_ret
    rw [HM.out]
    exact ⟨rfl, HB.out⟩
  have H0 : Hid (∀ W, Calls Try.prog 36 #[.int .i64 k, .int .i64 1, .int .i64 255] W fun e w' => e = .returned (.bool true) ∧ W = w') := fun W => within_yes h0 W
  by_cases h1 : 0 ≤ ep ∧ ep ≤ 2147483647
  rotate_left
  · have HM : Hid (Sd.may ⟨k, ep, n, l, D⟩ = false) := by show _ = _; rw [HS.out]; simp; omega
    have H1 : Hid (∀ W, Calls Try.prog 36 #[.int .i64 ep, .int .i64 0, .int .i64 2147483647] W fun e w' => e = .returned (.bool false) ∧ W = w') := fun W => within_no h1 W
    clear HS h0 h1
    go_enter Try.func19, Try.ntmps19
    go_wp2_with (first
      | (go_at_call 36; (with_reducible refine (H0.out _).mono ?_); rintro e w1 ⟨rfl, rfl⟩)
      | (go_at_call 36; (with_reducible refine (H1.out _).mono ?_); rintro e w1 ⟨rfl, rfl⟩))
    go_ret
    rw [HM.out]
    exact ⟨rfl, HB.out⟩
  have H1 : Hid (∀ W, Calls Try.prog 36 #[.int .i64 ep, .int .i64 0, .int .i64 2147483647] W fun e w' => e = .returned (.bool true) ∧ W = w') := fun W => within_yes h1 W
  by_cases h2 : 0 ≤ n ∧ n ≤ 2147483647
  rotate_left
  · have HM : Hid (Sd.may ⟨k, ep, n, l, D⟩ = false) := by show _ = _; rw [HS.out]; simp; omega
    have H2 : Hid (∀ W, Calls Try.prog 36 #[.int .i64 n, .int .i64 0, .int .i64 2147483647] W fun e w' => e = .returned (.bool false) ∧ W = w') := fun W => within_no h2 W
    clear HS h0 h1 h2
    go_enter Try.func19, Try.ntmps19
    go_wp2_with (first
      | (go_at_call 36; (with_reducible refine (H0.out _).mono ?_); rintro e w1 ⟨rfl, rfl⟩)
      | (go_at_call 36; (with_reducible refine (H1.out _).mono ?_); rintro e w1 ⟨rfl, rfl⟩)
      | (go_at_call 36; (with_reducible refine (H2.out _).mono ?_); rintro e w1 ⟨rfl, rfl⟩))
    go_ret
    rw [HM.out]
    exact ⟨rfl, HB.out⟩
  have H2 : Hid (∀ W, Calls Try.prog 36 #[.int .i64 n, .int .i64 0, .int .i64 2147483647] W fun e w' => e = .returned (.bool true) ∧ W = w') := fun W => within_yes h2 W
  by_cases h3 : 0 ≤ l ∧ l ≤ 65535
  rotate_left
  · have HM : Hid (Sd.may ⟨k, ep, n, l, D⟩ = false) := by show _ = _; rw [HS.out]; simp; omega
    have H3 : Hid (∀ W, Calls Try.prog 36 #[.int .i64 l, .int .i64 0, .int .i64 65535] W fun e w' => e = .returned (.bool false) ∧ W = w') := fun W => within_no h3 W
    clear HS h0 h1 h2 h3
    go_enter Try.func19, Try.ntmps19
    go_wp2_with (first
      | (go_at_call 36; (with_reducible refine (H0.out _).mono ?_); rintro e w1 ⟨rfl, rfl⟩)
      | (go_at_call 36; (with_reducible refine (H1.out _).mono ?_); rintro e w1 ⟨rfl, rfl⟩)
      | (go_at_call 36; (with_reducible refine (H2.out _).mono ?_); rintro e w1 ⟨rfl, rfl⟩)
      | (go_at_call 36; (with_reducible refine (H3.out _).mono ?_); rintro e w1 ⟨rfl, rfl⟩))
    go_ret
    rw [HM.out]
    exact ⟨rfl, HB.out⟩
  have H3 : Hid (∀ W, Calls Try.prog 36 #[.int .i64 l, .int .i64 0, .int .i64 65535] W fun e w' => e = .returned (.bool true) ∧ W = w') := fun W => within_yes h3 W
  have HM : Hid (Sd.may ⟨k, ep, n, l, D⟩ = decide (m ≤ 48)) := by
    show _ = _
    rw [HS.out, decide_eq_true h0.1, decide_eq_true h0.2, decide_eq_true h1.1, decide_eq_true h1.2, decide_eq_true h2.1, decide_eq_true h2.2, decide_eq_true h3.1, decide_eq_true h3.2]
    rfl
  clear HS h0 h1 h2 h3
  by_cases h4 : m ≤ 48
  · have d4 : decide (m ≤ 48) = true := decide_eq_true h4
    have d5 : decide ((m : Int) ≤ 48) = true := decide_eq_true (by omega)
    go_enter Try.func19, Try.ntmps19
    go_wp2_with (first
      | (go_at_call 36; (with_reducible refine (H0.out _).mono ?_); rintro e w1 ⟨rfl, rfl⟩)
      | (go_at_call 36; (with_reducible refine (H1.out _).mono ?_); rintro e w1 ⟨rfl, rfl⟩)
      | (go_at_call 36; (with_reducible refine (H2.out _).mono ?_); rintro e w1 ⟨rfl, rfl⟩)
      | (go_at_call 36; (with_reducible refine (H3.out _).mono ?_); rintro e w1 ⟨rfl, rfl⟩))
    go_ret
    rw [HM.out, d4]
    exact ⟨rfl, HB.out⟩
  · have d4 : decide (m ≤ 48) = false := decide_eq_false h4
    have d5 : decide ((m : Int) ≤ 48) = false := decide_eq_false (by omega)
    go_enter Try.func19, Try.ntmps19
    go_wp2_with (first
      | (go_at_call 36; (with_reducible refine (H0.out _).mono ?_); rintro e w1 ⟨rfl, rfl⟩)
      | (go_at_call 36; (with_reducible refine (H1.out _).mono ?_); rintro e w1 ⟨rfl, rfl⟩)
      | (go_at_call 36; (with_reducible refine (H2.out _).mono ?_); rintro e w1 ⟨rfl, rfl⟩)
      | (go_at_call 36; (with_reducible refine (H3.out _).mono ?_); rintro e w1 ⟨rfl, rfl⟩))
    go_ret
    rw [HM.out, d4]
    exact ⟨rfl, HB.out⟩
theorem sneed_any (n : Nat) (hn : n ≤ 1000000000) (w : World) : Calls Try.prog 17 #[.int .i64 (n : Int)] w fun e w' => e = .returned (.int .i64 (needN n : Int)) ∧ w = w' := by
  by_cases h : n = 0
  · subst h
    have d0 : decide (((0 : Nat) : Int) ≤ 0) = true := by decide
    go_enter Try.func17, Try.ntmps17
    go_wp2
    go_ret
    exact ⟨rfl, rfl⟩
  · have d0 : decide ((n : Int) ≤ 0) = false := decide_eq_false (by omega)
    have d1 : decide (n = 0) = false := decide_eq_false h
    have d2 : decide (n ≤ 0) = false := decide_eq_false (by omega)
    have u0 : (0 : Int) ≤ (n : Int) - 1 := by omega
    have e1 : IntKind.i64.wrap ((n : Int) - 1) = (n : Int) - 1 := IntWalk.i64_in _ (by omega)
    have e2 : ((n : Int) - 1).tdiv 48 = ((n : Int) - 1) / 48 := Int.tdiv_eq_ediv_of_nonneg u0
    have e4 : ((n : Int) - 1) / 48 + 1 = (needN n : Int) := by unfold needN; omega
    have e3 : IntKind.i64.wrap (((n : Int) - 1) / 48 + 1) = (needN n : Int) := by rw [IntWalk.i64_in _ (by omega), e4]
    have HE := Lib.hid e4
    clear e4
    go_enter Try.func17, Try.ntmps17
    go_wp2
    go_ret
    exact ⟨by first | rfl | rw [← HE.out], rfl⟩
/-- A sector at a place of a text, without its bytes. -/
def Sd.headAt (s : Sd) (n i : Nat) : Sd := ⟨if i = 0 then s.kind else s.kind + 1, s.epoch, s.number + (i : Int), ((n - 1 - i : Nat) : Int), []⟩
theorem Try.secBuild4 (k e n l : Int) (w : World) : Sem.run Try.prog (Instr.build 24 #[(0, .int .i64 k), (1, .int .i64 e), (2, .int .i64 n), (3, .int .i64 l)]) w = .ok (.agg #[.int .i64 k, .int .i64 e, .int .i64 n, .int .i64 l, .slice none 0 0]) w := by kernel_rfl
set_option maxRecDepth 100000 in
set_option maxHeartbeats 2000000 in
theorem at_any (s : Sd) (A : Option Addr) (c : Nat) (n i : Nat) (w : World) (hi : i < n) (hn : n ≤ 1000000) (hnu : IntKind.i64.wrap (s.number + (i : Int)) = s.number + (i : Int)) (hk : i ≠ 0 → IntKind.i64.wrap (s.kind + 1) = s.kind + 1) :
    Calls Try.prog 31 #[secV s A c, .int .i64 (i : Int), .int .i64 (n : Int)] w fun e w' => e = .returned (secV (s.headAt n i) none 0) ∧ Below w.heap.size w w' := by
  obtain ⟨k, ep, nu, l, D⟩ := s
  obtain ⟨m, hm⟩ : ∃ m, m = D.length := ⟨_, rfl⟩
  simp only at hnu hk
  unfold secV Sd.headAt
  simp only
  rw [← hm]
  obtain ⟨nz, hnz⟩ : ∃ z : Int, z = nu + (i : Int) := ⟨_, rfl⟩
  obtain ⟨lz, hlz⟩ : ∃ q, q = n - 1 - i := ⟨_, rfl⟩
  rw [← hnz] at hnu
  rw [← hnz, ← hlz]
  have y0 : IntKind.i64.wrap (nu + (i : Int)) = nz := by rw [← hnz]; exact hnu
  have y1 : IntKind.i64.wrap ((n : Int) - 1) = (n : Int) - 1 := IntWalk.i64_in _ (by omega)
  have y2 : IntKind.i64.wrap ((n : Int) - 1 - (i : Int)) = (lz : Int) := by rw [IntWalk.i64_in _ (by omega)]; omega
  have b4 := fun k w' => Try.secBuild4 k ep nz (lz : Int) w'
  clear hm hnz hlz hnu
  by_cases hz : i = 0
  · have HZ := Lib.hid hz
    have d0 : decide ((0 : Int) < (i : Int)) = false := decide_eq_false (by omega)
    have d1 : decide ((i : Int) > 0) = false := decide_eq_false (by omega)
    have d2 : decide (0 < i) = false := decide_eq_false (by omega)
    clear hk hz
    go_enter Try.func31, Try.ntmps31
    go_wp2
    refine bodyPost_ret (v := .agg #[.int .i64 k, .int .i64 ep, .int .i64 nz, .int .i64 (lz : Int), .slice none 0 0]) (by simp [results, Try.results31, go_sem]) rfl ⟨rfl, ?_⟩
    exact (((Below.refl _ _).alloc (Nat.le_refl _) _).alloc (by simp) _).alloc (by simp; omega) _
  · have HZ := Lib.hid hz
    have y3 : IntKind.i64.wrap (k + 1) = k + 1 := hk hz
    have d0 : decide ((0 : Int) < (i : Int)) = true := decide_eq_true (by omega)
    have d1 : decide ((i : Int) > 0) = true := decide_eq_true (by omega)
    have d2 : decide (0 < i) = true := decide_eq_true (by omega)
    clear hk hz
    go_enter Try.func31, Try.ntmps31
    go_wp2
    refine bodyPost_ret (v := .agg #[.int .i64 (k + 1), .int .i64 ep, .int .i64 nz, .int .i64 (lz : Int), .slice none 0 0]) (by simp [results, Try.results31, go_sem]) rfl ⟨rfl, ?_⟩
    exact (((Below.refl _ _).alloc (Nat.le_refl _) _).alloc (by simp) _).alloc (by simp; omega) _
/-- Whether two sectors differ in nothing but their bytes. -/
def Sd.same (a b : Sd) : Bool := decide (a.kind = b.kind) && (decide (a.epoch = b.epoch) && (decide (a.number = b.number) && decide (a.left = b.left)))
set_option maxRecDepth 100000 in
set_option maxHeartbeats 2000000 in
theorem same_any (a b : Sd) (A A' : Option Addr) (c c' : Nat) (w : World) : Calls Try.prog 34 #[secV a A c, secV b A' c'] w fun e w' => e = .returned (.bool (a.same b)) ∧ Below w.heap.size w w' := by
  obtain ⟨k, ep, n, l, D⟩ := a
  obtain ⟨k', ep', n', l', D'⟩ := b
  obtain ⟨m, hm⟩ : ∃ m, m = D.length := ⟨_, rfl⟩
  obtain ⟨m', hm'⟩ : ∃ m, m = D'.length := ⟨_, rfl⟩
  unfold secV Sd.same
  simp only
  rw [← hm, ← hm']
  have HB : Hid (Below w.heap.size w ((w.alloc (.cells #[.int .i64 k, .int .i64 ep, .int .i64 n, .int .i64 l, .slice A m c] 24)).alloc (.cells #[.int .i64 k', .int .i64 ep', .int .i64 n', .int .i64 l', .slice A' m' c'] 24))) := ((Below.refl _ _).alloc (Nat.le_refl _) _).alloc (by simp) _
  clear hm hm'
  by_cases h0 : k = k'
  rotate_left
  · have HM : Hid ((decide (k = k') && (decide (ep = ep') && (decide (n = n') && decide (l = l')))) = false) := by show _ = _; simp; omega
    have d0 : decide (k = k') = false := decide_eq_false h0
    have e0 : (k == k') = false := by simp; exact h0
    rw [HM.out]
    clear h0
    go_enter Try.func34, Try.ntmps34
    go_wp2
    go_ret
    exact ⟨rfl, HB.out⟩
  subst h0
  by_cases h1 : ep = ep'
  rotate_left
  · have HM : Hid ((decide (k = k) && (decide (ep = ep') && (decide (n = n') && decide (l = l')))) = false) := by show _ = _; simp; omega
    have d1 : decide (ep = ep') = false := decide_eq_false h1
    have e1 : (ep == ep') = false := by simp; exact h1
    rw [HM.out]
    clear h1
    go_enter Try.func34, Try.ntmps34
    go_wp2
    go_ret
    exact ⟨rfl, HB.out⟩
  subst h1
  by_cases h2 : n = n'
  rotate_left
  · have HM : Hid ((decide (k = k) && (decide (ep = ep) && (decide (n = n') && decide (l = l')))) = false) := by show _ = _; simp; omega
    have d2 : decide (n = n') = false := decide_eq_false h2
    have e2 : (n == n') = false := by simp; exact h2
    rw [HM.out]
    clear h2
    go_enter Try.func34, Try.ntmps34
    go_wp2
    go_ret
    exact ⟨rfl, HB.out⟩
  subst h2
  by_cases h3 : l = l'
  rotate_left
  · have HM : Hid ((decide (k = k) && (decide (ep = ep) && (decide (n = n) && decide (l = l')))) = false) := by show _ = _; simp; omega
    have d3 : decide (l = l') = false := decide_eq_false h3
    have e3 : (l == l') = false := by simp; exact h3
    rw [HM.out]
    clear h3
    go_enter Try.func34, Try.ntmps34
    go_wp2
    go_ret
    exact ⟨rfl, HB.out⟩
  subst h3
  have HM : Hid ((decide (k = k) && (decide (ep = ep) && (decide (n = n) && decide (l = l)))) = true) := by show _ = _; simp
  rw [HM.out]
  go_enter Try.func34, Try.ntmps34
  go_wp2
  go_ret
  exact ⟨rfl, HB.out⟩
/-- Whether a sector has as many bytes as its place asks for. -/
def Sd.fills (s : Sd) : Bool := if 0 < s.left then decide (s.data.length = 48) else decide (0 < s.data.length)
set_option maxRecDepth 100000 in
set_option maxHeartbeats 2000000 in
theorem fills_any (s : Sd) (A : Option Addr) (c : Nat) (w : World) : Calls Try.prog 35 #[secV s A c] w fun e w' => e = .returned (.bool s.fills) ∧ Below w.heap.size w w' := by
  obtain ⟨k, ep, n, l, D⟩ := s
  obtain ⟨m, hm⟩ : ∃ m, m = D.length := ⟨_, rfl⟩
  unfold secV Sd.fills
  simp only
  rw [← hm]
  have HB : Hid (Below w.heap.size w (w.alloc (.cells #[.int .i64 k, .int .i64 ep, .int .i64 n, .int .i64 l, .slice A m c] 24))) := (Below.refl _ _).alloc (Nat.le_refl _) _
  clear hm
  by_cases h0 : 0 < l
  · rw [if_pos h0]
    have d0 : decide (0 < l) = true := decide_eq_true h0
    have d1 : decide (l > 0) = true := decide_eq_true h0
    by_cases h1 : m = 48
    · have HM : Hid (decide (m = 48) = true) := decide_eq_true h1
      have e1 : ((m : Int) == 48) = true := by simp; omega
      rw [HM.out]
      clear h1
      go_enter Try.func35, Try.ntmps35
      go_wp2
      go_ret
      exact ⟨rfl, HB.out⟩
    · have HM : Hid (decide (m = 48) = false) := decide_eq_false h1
      have e1 : ((m : Int) == 48) = false := by simp; omega
      rw [HM.out]
      clear h1
      go_enter Try.func35, Try.ntmps35
      go_wp2
      go_ret
      exact ⟨rfl, HB.out⟩
  · rw [if_neg h0]
    have d0 : decide (0 < l) = false := decide_eq_false h0
    have d1 : decide (l > 0) = false := decide_eq_false h0
    by_cases h1 : 0 < m
    · have HM : Hid (decide (0 < m) = true) := decide_eq_true h1
      have e1 : decide ((0 : Int) < (m : Int)) = true := decide_eq_true (by omega)
      have e2 : decide ((m : Int) > 0) = true := decide_eq_true (by omega)
      rw [HM.out]
      go_enter Try.func35, Try.ntmps35
      go_wp2
      go_ret
      exact ⟨rfl, HB.out⟩
    · have HM : Hid (decide (0 < m) = false) := decide_eq_false h1
      have e1 : decide ((0 : Int) < (m : Int)) = false := decide_eq_false (by omega)
      have e2 : decide ((m : Int) > 0) = false := decide_eq_false (by omega)
      rw [HM.out]
      go_enter Try.func35, Try.ntmps35
      go_wp2
      go_ret
      exact ⟨rfl, HB.out⟩
end Go.Proofs.Ytepeoggacmaenaa
