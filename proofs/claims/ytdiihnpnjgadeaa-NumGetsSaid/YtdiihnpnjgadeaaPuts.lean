/- NumPuts returns true for every two ints and every slice of bytes, and leaves memory that was there as it was; nothing is assumed beyond the statement itself. -/
import Derived.Test.YtdiihnpnjgadeaaLong
namespace Go.Proofs.Ytdiihnpnjgadeaa
open Go.ChangeShapes Go.WideShapes Go.ChangeAt Go.RowKit

/-- What Put gives: the bytes, and the error's number. -/
def putR (n : Int) : List UInt8 × Nat := if 0 ≤ n ∧ n ≤ 2147483647 then (putL n.toNat, 0) else ([], 1)
def fixR (n wide : Int) : List UInt8 × Nat := if 1 ≤ wide ∧ wide ≤ 4 ∧ 0 ≤ n ∧ n ≤ 2147483647 ∧ n.toNat < 256 ^ wide.toNat then (fixL wide.toNat n.toNat, 0) else ([], 1)

/-- A call that gives bytes in memory of its own, and a number. -/
def GivesR (r : List UInt8 × Nat) (w : World) (e : Ending) (w' : World) : Prop :=
  ∃ A c, e = .returned (.tuple #[.slice A r.1.length c, .int .i64 (r.2 : Int)]) ∧ RB w' w'.heap.size A r.1 ∧ Below w.heap.size w w'

theorem GivesR.bytes {L : List UInt8} {w w' : World} {e : Ending} (h : GivesBytes L w e w') : GivesR (L, 0) w e w' := by
  obtain ⟨A, c, he, ho, hb⟩ := h
  exact ⟨A, c, he, own_rb ho, hb⟩
theorem GivesR.err {w w' : World} {e : Ending} (he : e = .returned (.tuple #[.slice none 0 0, .int .i64 1])) (hb : Below w.heap.size w w') : GivesR ([], 1) w e w' :=
  ⟨none, 0, he, RB.none_ _ _, hb⟩

theorem putR_any (n : Int) (w : World) : Calls Try.prog 8 #[.int .i64 n] w (GivesR (putR n) w) := by
  unfold putR
  by_cases h : 0 ≤ n ∧ n ≤ 2147483647
  · rw [if_pos h]
    obtain ⟨k, rfl⟩ : ∃ k : Nat, n = (k : Int) := ⟨n.toNat, by omega⟩
    exact (put_yes k w (by omega)).mono fun e w' h => GivesR.bytes h
  · rw [if_neg h]
    refine (put_no n w (by omega)).mono fun e w' h => ?_
    obtain ⟨he, rfl⟩ := h
    exact GivesR.err he (Below.refl _ _)
theorem refPutR_any (n : Int) (w : World) : Calls Try.prog 9 #[.int .i64 n] w (GivesR (putR n) w) := by
  unfold putR
  by_cases h : 0 ≤ n ∧ n ≤ 2147483647
  · rw [if_pos h]
    obtain ⟨k, rfl⟩ : ∃ k : Nat, n = (k : Int) := ⟨n.toNat, by omega⟩
    exact (refPut_yes k w (by omega)).mono fun e w' h => GivesR.bytes h
  · rw [if_neg h]
    refine (refPut_no n w (by omega)).mono fun e w' h => ?_
    obtain ⟨he, rfl⟩ := h
    exact GivesR.err he (Below.refl _ _)
theorem fixR_any (n wide : Int) (w : World) : Calls Try.prog 10 #[.int .i64 n, .int .i64 wide] w (GivesR (fixR n wide) w) := by
  unfold fixR
  by_cases h : 1 ≤ wide ∧ wide ≤ 4 ∧ 0 ≤ n ∧ n ≤ 2147483647 ∧ n.toNat < 256 ^ wide.toNat
  · rw [if_pos h]
    obtain ⟨h1, h2, h3, h4, h5⟩ := h
    obtain ⟨m, rfl⟩ : ∃ m : Nat, n = (m : Int) := ⟨n.toNat, by omega⟩
    obtain ⟨k, rfl⟩ : ∃ k : Nat, wide = (k : Int) := ⟨wide.toNat, by omega⟩
    exact (fix_yes m k w (by omega) (by omega) (by omega) (by simpa using h5)).mono fun e w' h => GivesR.bytes h
  · rw [if_neg h]
    refine (fix_no n wide w ?_).mono fun e w' h => ?_
    · by_cases h1 : wide < 1
      · exact .inl h1
      by_cases h2 : 4 < wide
      · exact .inr (.inl h2)
      by_cases h3 : n < 0
      · exact .inr (.inr (.inl h3))
      by_cases h4 : 2147483647 < n
      · exact .inr (.inr (.inr (.inl h4)))
      refine .inr (.inr (.inr (.inr ?_)))
      have h5 : ¬ n.toNat < 256 ^ wide.toNat := fun h5 => h ⟨by omega, by omega, by omega, by omega, h5⟩
      have hc : ((256 ^ wide.toNat : Nat) : Int) = (256 : Int) ^ wide.toNat := by simp
      omega
    · obtain ⟨he, rfl⟩ := h
      exact GivesR.err he (Below.refl _ _)
theorem refFixR_any (n wide : Int) (w : World) : Calls Try.prog 11 #[.int .i64 n, .int .i64 wide] w (GivesR (fixR n wide) w) := by
  unfold fixR
  by_cases h0 : 1 ≤ wide ∧ wide ≤ 4 ∧ 0 ≤ n ∧ n ≤ 2147483647
  · obtain ⟨h1, h2, h3, h4⟩ := h0
    obtain ⟨m, rfl⟩ : ∃ m : Nat, n = (m : Int) := ⟨n.toNat, by omega⟩
    obtain ⟨k, rfl⟩ : ∃ k : Nat, wide = (k : Int) := ⟨wide.toNat, by omega⟩
    refine (refFix_any m k w (by omega) (by omega) (by omega)).mono fun e w' h => ?_
    by_cases h5 : m < 256 ^ k
    · rw [if_pos ⟨h1, h2, h3, h4, by simpa using h5⟩]
      exact GivesR.bytes (h.1 h5)
    · rw [if_neg (fun hx => h5 (by simpa using hx.2.2.2.2))]
      exact GivesR.err (h.2 h5).1 (h.2 h5).2
  · rw [if_neg (fun hx => h0 ⟨hx.1, hx.2.1, hx.2.2.1, hx.2.2.2.1⟩)]
    refine (refFix_no n wide w (by omega)).mono fun e w' h => ?_
    obtain ⟨he, rfl⟩ := h
    exact GivesR.err he (Below.refl _ _)

/-- What Put gives is got again, whatever stands behind. -/
theorem putR_got (n : Int) (behind : List UInt8) (h : (putR n).2 = 0) : getL ((putR n).1 ++ behind) = some (n.toNat, (putR n).1.length) ∧ 0 ≤ n := by
  unfold putR at h ⊢
  by_cases hn : 0 ≤ n ∧ n ≤ 2147483647
  · rw [if_pos hn] at h ⊢
    exact ⟨getL_put _ _ (by omega), hn.1⟩
  · rw [if_neg hn] at h; cases h
theorem fixR_got (n wide : Int) (h : (fixR n wide).2 = 0) : unfixR (fixR n wide).1 = (n.toNat, 0) ∧ 0 ≤ n := by
  unfold fixR at h ⊢
  by_cases hn : 1 ≤ wide ∧ wide ≤ 4 ∧ 0 ≤ n ∧ n ≤ 2147483647 ∧ n.toNat < 256 ^ wide.toNat
  · rw [if_pos hn] at h ⊢
    refine ⟨?_, hn.2.2.1⟩
    unfold unfixR
    rw [fixL_length, if_neg (by omega), unfix_fix _ _ hn.2.2.2.2, if_neg (by omega)]
  · rw [if_neg hn] at h; cases h
theorem putR_len (n : Int) : (putR n).1.length ≤ 5 := by
  unfold putR
  by_cases hn : 0 ≤ n ∧ n ≤ 2147483647
  · rw [if_pos hn]; exact putL_len5 _ (by omega)
  · rw [if_neg hn]; simp
theorem putR_err (n : Int) : (putR n).2 = 0 ∨ (putR n).2 = 1 := by
  unfold putR
  by_cases hn : 0 ≤ n ∧ n ≤ 2147483647
  · rw [if_pos hn]; exact .inl rfl
  · rw [if_neg hn]; exact .inr rfl
theorem fixR_len (n wide : Int) : (fixR n wide).1.length ≤ 4 := by
  unfold fixR
  by_cases hn : 1 ≤ wide ∧ wide ≤ 4 ∧ 0 ≤ n ∧ n ≤ 2147483647 ∧ n.toNat < 256 ^ wide.toNat
  · rw [if_pos hn, fixL_length]; omega
  · rw [if_neg hn]; simp
theorem fixR_err (n wide : Int) : (fixR n wide).2 = 0 ∨ (fixR n wide).2 = 1 := by
  unfold fixR
  by_cases hn : 1 ≤ wide ∧ wide ≤ 4 ∧ 0 ≤ n ∧ n ≤ 2147483647 ∧ n.toNat < 256 ^ wide.toNat
  · rw [if_pos hn]; exact .inl rfl
  · rw [if_neg hn]; exact .inr rfl

/-- A slice value that reads as L. -/
def RBv (w : World) (v : Value) (L : List UInt8) : Prop := ∃ A c, v = .slice A L.length c ∧ RB w w.heap.size A L
theorem own_rbv {w : World} {base : Nat} {v : Value} {L : List UInt8} (h : w.ownsRow base 5 1 v L.length (cells L)) : RBv w v L := by
  obtain ⟨A, c, rfl⟩ := own_form h
  exact ⟨A, c, rfl, own_rb h⟩

/-- What Get answers, as three numbers. -/
def getV : Option (Nat × Nat) → Nat × Nat × Nat
  | some (n, k) => (n, k, 0)
  | none => (0, 0, 5)
theorem getV_any (L : List UInt8) (v : Value) (w : World) (h : RBv w v L) (hl : L.length ≤ 1048576) :
    Calls Try.prog 12 #[v] w fun e w' => e = .returned (.tuple #[.int .i64 ((getV (getL L)).1 : Int), .int .i64 ((getV (getL L)).2.1 : Int), .int .i64 ((getV (getL L)).2.2 : Int)]) ∧ w = w' := by
  obtain ⟨A, c, rfl, hr⟩ := h
  refine (get_any L A c _ w hr hl).mono fun e w' ⟨he, hw⟩ => ⟨?_, hw⟩
  rcases hg : getL L with _ | ⟨n, k⟩
  · rw [hg] at he; exact he
  · rw [hg] at he; exact he

set_option maxRecDepth 100000 in
set_option maxHeartbeats 2000000 in
theorem puts_core (n wide : Int) (A : Option Addr) (c : Nat) (L P Q : List UInt8) (ep eq : Nat) (v1 v2 v3 u1 u2 : Int) (w : World) (hr : RB w w.heap.size A L) (hl : ¬ 300 < L.length) (hP : P.length ≤ 5) (hQ : Q.length ≤ 4)
    (HC8 : Hid (∀ W, Calls Try.prog 8 #[.int .i64 n] W (GivesR (P, ep) W))) (HC9 : Hid (∀ W, Calls Try.prog 9 #[.int .i64 n] W (GivesR (P, ep) W)))
    (HC10 : Hid (∀ W, Calls Try.prog 10 #[.int .i64 n, .int .i64 wide] W (GivesR (Q, eq) W))) (HC11 : Hid (∀ W, Calls Try.prog 11 #[.int .i64 n, .int .i64 wide] W (GivesR (Q, eq) W)))
    (HC12 : Hid (∀ W v, RBv W v (P ++ L) → Calls Try.prog 12 #[v] W fun e w' => e = .returned (.tuple #[.int .i64 v1, .int .i64 v2, .int .i64 v3]) ∧ W = w'))
    (HC13 : Hid (∀ W A c, RB W W.heap.size A Q → Calls Try.prog 13 #[.slice A Q.length c] W fun e w' => e = .returned (.tuple #[.int .i64 u1, .int .i64 u2]) ∧ W = w'))
    (h1 : (ep = 0 ∧ v1 = n ∧ v2 = (P.length : Int) ∧ v3 = 0) ∨ ep = 1) (h2 : (eq = 0 ∧ u1 = n ∧ u2 = 0) ∨ eq = 1) :
    Calls Try.prog 3 #[.int .i64 n, .int .i64 wide, .slice A L.length c] w fun e w' => e = .returned (.bool true) ∧ Below w.heap.size w w' := by
  obtain ⟨i0, hi0, hz0, hz1, hz2⟩ := info_parts Try.info5
  rcases h1 with ⟨rfl, rfl, rfl, rfl⟩ | rfl <;> rcases h2 with ⟨rfl, rfl, rfl⟩ | rfl
  all_goals
    go_enter Try.func3, Try.ntmps3
    go_wp2_with (first
      | (go_at_call 8; (with_reducible refine (HC8.out _).mono ?_); rintro e w1 ⟨A1, c1, rfl, hr1, hb1⟩)
      | (go_at_call 9; (with_reducible refine (HC9.out _).mono ?_); rintro e w2 ⟨A2, c2, rfl, hr2, hb2⟩)
      | (go_at_call 10; (with_reducible refine (HC10.out _).mono ?_); rintro e w3 ⟨A3, c3, rfl, hr3, hb3⟩)
      | (go_at_call 11; (with_reducible refine (HC11.out _).mono ?_); rintro e w4 ⟨A4, c4, rfl, hr4, hb4⟩; have z1 := hb1.size; have z2 := hb2.size; have z3 := hb3.size; have z4 := hb4.size; have f1 : RB w4 w4.heap.size A1 P := (((hr1.below hb2).more z2).below (hb3.trans (hb4.mono z3))).more (by omega); have f2 : RB w4 w4.heap.size A2 P := (hr2.below (hb3.trans (hb4.mono z3))).more (by omega); have f3 : RB w4 w4.heap.size A3 Q := (hr3.below hb4).more z4; have e1 := aw_str f1 P.length c1 rfl; have e2 := aw_str f2 P.length c2 rfl; have e3 := aw_str f3 Q.length c3 rfl; have e4 := aw_str hr4 Q.length c4 rfl; have hbw : Below w.heap.size w w4 := ((hb1.trans (hb2.mono z1)).trans (hb3.mono (by omega))).trans (hb4.mono (by omega)); have f0 : RB w4 w4.heap.size A L := (hr.below hbw).more (by omega))
      | (at_builtin; refine wpList_append_any _ rfl (.tmp 69) (.tmp 70) _ rfl w4.heap.size 5 i0 _ 1 1 Try.underlying22 hi0 hz0 hz1 hz2 rfl (by omega) (.slice (some ⟨w4.heap.size, 0, none⟩) 0 0) 0 [] rfl (World.ownsRow_made w4 #[] 0 (Nat.le_refl _) (by decide) rfl) w4.heap.size A1 P.length c1 (cells P) rfl (f1.alloc (Nat.le_refl _) _) (cells_one _) (by simp only [maxLen]; omega) (by omega) (by simp) ?_; intro v5 w5 ho5 hg5 hat5; simp only [Nat.zero_add, List.nil_append] at ho5; have hb5 : Below w4.heap.size w4 w5 := ((Below.refl _ _).alloc (Nat.le_refl _) _).grown hg5 (by simp) (by simp [Value.ownBlock]); have z5 := hb5.size)
      | (at_builtin; refine wpList_append_any _ rfl (.tmp 71) (.tmp 72) _ rfl w4.heap.size 5 i0 _ 1 1 Try.underlying22 hi0 hz0 hz1 hz2 rfl (by omega) _ P.length (cells P) rfl ho5 w4.heap.size A L.length c (cells L) rfl (f0.below hb5) (cells_one _) (by simp only [maxLen]; omega) (by omega) z5 ?_; intro v6 w6 ho6 hg6 hat6; have hb6 : Below w4.heap.size w4 w6 := hb5.grown hg6 z5 (fun k hk => (ho5.lt k hk).1); have z6 := hb6.size; rw [← List.length_append, ← cells_append] at ho6; have hv6 := own_rbv ho6; have f36 : RB w6 w6.heap.size A3 Q := (f3.below hb6).more z6)
      | (go_at_call 12; (with_reducible refine (HC12.out _ _ hv6).mono ?_); rintro e w' ⟨rfl, rfl⟩)
      | (go_at_call 13; (with_reducible refine (HC13.out _ _ _ f36).mono ?_); rintro e w' ⟨rfl, rfl⟩)
      | (go_at_call 7; refine (awake_any _).mono ?_; rintro e w7 ⟨rfl, hb7⟩))
    go_ret
    exact ⟨rfl, (hbw.trans (hb6.mono (by omega))).trans (hb7.mono (by omega))⟩

theorem puts_any (n wide : Int) (A : Option Addr) (c : Nat) (L : List UInt8) (w : World) (hr : RB w w.heap.size A L) :
    Calls Try.prog 3 #[.int .i64 n, .int .i64 wide, .slice A L.length c] w fun e w' => e = .returned (.bool true) ∧ Below w.heap.size w w' := by
  by_cases hl : 300 < L.length
  · have hl' : (300 : Int) < (L.length : Int) := by omega
    go_enter Try.func3, Try.ntmps3
    go_wp2_with (go_at_call 7; refine (awake_any _).mono ?_; rintro e w' ⟨rfl, hb⟩)
    go_ret
    exact ⟨rfl, hb⟩
  · have hp := putR_len n
    have hq := fixR_len n wide
    refine puts_core n wide A c L (putR n).1 (fixR n wide).1 (putR n).2 (fixR n wide).2 _ _ _ _ _ w hr hl hp hq (putR_any n) (refPutR_any n) (fixR_any n wide) (refFixR_any n wide)
      (fun W v h => getV_any _ v W h (by rw [List.length_append]; omega)) (fun W A' c' h => unfix_any _ A' c' _ W h (by omega)) ?_ ?_
    · rcases putR_err n with h | h
      · obtain ⟨hg, hn⟩ := putR_got n L h
        rw [hg]
        exact .inl ⟨h, by simp only [getV]; omega, rfl, rfl⟩
      · exact .inr h
    · rcases fixR_err n wide with h | h
      · obtain ⟨hg, hn⟩ := fixR_got n wide h
        rw [hg]
        exact .inl ⟨h, by show ((n.toNat : Nat) : Int) = n; omega, rfl⟩
      · exact .inr h

theorem Try.cells5 : Try.prog.cellsOf 5 = 1 := by kernel_rfl

set_option maxRecDepth 100000 in
theorem puts_lifted (os : Os) (started : os.Started) (H : Type) (enc : TypeId × Value → H) :
    ReturnsInHanded {} Try.checked os 3 .any (Rows.numPutsSpec.pre6 enc Try.prog Try.f3 Rows.numPutsRow.domain false) (Rows.numPutsSpec.post enc Try.prog Try.f3 false true false false) := by
  refine returnsInHanded_of_change (C := Try.checked) Try.own started (by kernel_rfl) Try.func3
    (ChangeSpec.witness6 (enc := enc) (C := Try.checked) false ⟨#[], #[.int .i64 0, .int .i64 0, .slice none 0 0], []⟩ 8 (by kernel_rfl) (by kernel_rfl) (by kernel_rfl) (by kernel_rfl)) ?_
  intro W base args ds gs before hval0 hW hcnd _
  have hval : ∀ (j : Nat) t v, Try.f3.params[j]? = some t → args[j]? = some v → Value.okWide Try.prog W .any base t v := hval0
  have hW' : DataW.Whole enc Try.prog Try.f3.params.toList Rows.numPutsSpec.vars false W args.toList ds gs before := hW
  have hWk := hW'
  obtain ⟨p, q, hA, hV, rfl, hfz, hnd⟩ := hW'
  rw [Try.params3] at hA hval
  obtain ⟨v0, v1, v2, d0, d1, d2, p0, p1, p2, rfl, rfl, rfl, h0, h1, h2⟩ := trodAll_three hA
  obtain ⟨rfl, rfl⟩ := trodVars_none hV
  obtain ⟨n, rfl, rfl, rfl, wn⟩ := open_int Try.underlying3 (hval 0 3 v0 rfl rfl) h0
  obtain ⟨m, rfl, rfl, rfl, wm⟩ := open_int Try.underlying3 (hval 1 3 v1 rfl rfl) h1
  obtain ⟨A, L, c, rfl, hr, hlc, hcm⟩ := open_bytes Try.underlying22 Try.underlying5 Try.cells5 (hval 2 22 v2 rfl rfl) h2
  refine (puts_any n m A c L W hr).mono fun e W' ⟨he, hb⟩ => ⟨_, he, ?_⟩
  exact law_post Try.laidOut hWk rfl rfl rfl rfl rfl Try.underlying4 (by kernel_rfl) hb

theorem puts_holds : Rows.NumPutsSaid :=
  OpenClaim.holds_of_wide 3 Try.f3 rfl rfl rfl rfl rfl rfl rfl ⟨rfl, rfl, rfl, rfl, rfl⟩ rfl rfl rfl rfl rfl (by kernel_rfl) Try.func3 (by kernel_rfl)
    (of_decide_eq_true (by kernel_rfl)) (by unfold Func.isWrapper; first | (rw [if_pos (by decide +kernel)]; kernel_rfl) | (rw [if_neg (by decide +kernel)]; exact ⟨rfl, rfl⟩))
    (fun os started H enc _ => puts_lifted os started H enc)

end Go.Proofs.Ytdiihnpnjgadeaa
