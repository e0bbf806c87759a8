/- CrcSums returns true for every two slices of bytes and every uint32, and leaves memory that was there as it was; nothing is assumed beyond the statement itself. -/
import Derived.Test.YtmmoenglnaphdaaAwake
import Derived.Test.YtmmoenglnaphdaaLaw
set_option linter.unusedVariables false
namespace Go.Proofs.Ytmmoenglnaphdaa
open Go.ChangeShapes Go.WideShapes Go.ChangeAt Go.RowKit

set_option maxRecDepth 100000 in
set_option maxHeartbeats 2000000 in
theorem sums_core (L M : List UInt8) (A C : Option Addr) (c d : Nat) (s x y z : Nat) (w : World) (hr : RB w w.heap.size A L) (hr2 : RB w w.heap.size C M) (hl : ¬ 2000 < L.length) (hm : ¬ 2000 < M.length)
    (HC8 : Hid (∀ W B, RB W B A L → Calls Try.prog 8 #[.slice A L.length c] W fun e w' => e = .returned (.int .u32 (x : Int)) ∧ W = w'))
    (HC9 : Hid (∀ W B, RB W B A L → Calls Try.prog 9 #[.slice A L.length c] W fun e w' => e = .returned (.int .u32 (x : Int)) ∧ W = w'))
    (HC10 : Hid (∀ W B, RB W B C M → Calls Try.prog 10 #[.int .u32 (x : Int), .slice C M.length d] W fun e w' => e = .returned (.int .u32 (y : Int)) ∧ W = w'))
    (HC8b : Hid (∀ W v, RBv W v (L ++ M) → Calls Try.prog 8 #[v] W fun e w' => e = .returned (.int .u32 (y : Int)) ∧ W = w'))
    (HC10b : Hid (∀ W B, RB W B C M → Calls Try.prog 10 #[.int .u32 (s : Int), .slice C M.length d] W fun e w' => e = .returned (.int .u32 (z : Int)) ∧ W = w'))
    (HC11 : Hid (∀ W B, RB W B C M → Calls Try.prog 11 #[.int .u32 (s : Int), .slice C M.length d] W fun e w' => e = .returned (.int .u32 (z : Int)) ∧ W = w')) :
    Calls Try.prog 3 #[.slice A L.length c, .slice C M.length d, .int .u32 (s : Int)] w fun e w' => e = .returned (.bool true) ∧ Below w.heap.size w w' := by
  obtain ⟨i0, hi0, hz0, hz1, hz2⟩ := info_parts Try.info5
  go_enter Try.func3, Try.ntmps3
  go_wp2_with (first
    | (go_at_call 8; (with_reducible refine (HC8.out _ _ hr).mono ?_); rintro e w' ⟨rfl, rfl⟩)
    | (go_at_call 9; (with_reducible refine (HC9.out _ _ hr).mono ?_); rintro e w' ⟨rfl, rfl⟩)
    | (go_at_call 10; (with_reducible refine (HC10.out _ _ hr2).mono ?_); rintro e w' ⟨rfl, rfl⟩)
    | (at_builtin; refine wpList_append_yes _ (by kernel_rfl) (.tmp 27) (.tmp 28) _ rfl w.heap.size 5 i0 _ 1 1 Try.underlying22 hi0 hz0 hz1 hz2 rfl (by omega) (.slice (some ⟨w.heap.size, 0, none⟩) 0 0) 0 [] rfl (World.ownsRow_made w #[] 0 (Nat.le_refl _) (by decide) rfl) w.heap.size A L.length c (cells L) rfl (hr.alloc (Nat.le_refl _) _) (cells_one _) (by simp only [maxLen]; omega) (by omega) (by simp) ?_; intro v5 w5 ho5 hg5 hat5; simp only [Nat.zero_add, List.nil_append] at ho5; have hb5 : Below w.heap.size w w5 := ((Below.refl _ _).alloc (Nat.le_refl _) _).grown hg5 (by simp) (by simp [Value.ownBlock]); have z5 := hb5.size)
    | (at_builtin; refine wpList_append_yes _ (by kernel_rfl) (.tmp 29) (.tmp 30) _ rfl w.heap.size 5 i0 _ 1 1 Try.underlying22 hi0 hz0 hz1 hz2 rfl (by omega) _ L.length (cells L) rfl ho5 w.heap.size C M.length d (cells M) rfl (hr2.below hb5) (cells_one _) (by simp only [maxLen]; omega) (by omega) z5 ?_; intro v6 w6 ho6 hg6 hat6; have hb6 : Below w.heap.size w w6 := hb5.grown hg6 z5 (fun k hk => (ho5.lt k hk).1); have z6 := hb6.size; rw [← List.length_append, ← cells_append] at ho6; have hv6 := own_rbv ho6; have f6 := hr2.below hb6)
    | (go_at_call 8; (with_reducible refine (HC8b.out _ _ hv6).mono ?_); rintro e w' ⟨rfl, rfl⟩)
    | (go_at_call 10; (with_reducible refine (HC10b.out _ _ f6).mono ?_); rintro e w' ⟨rfl, rfl⟩)
    | (go_at_call 11; (with_reducible refine (HC11.out _ _ f6).mono ?_); rintro e w' ⟨rfl, rfl⟩)
    | (go_at_call 7; refine (awake_any _).mono ?_; rintro e w7 ⟨rfl, hb7⟩))
  go_ret
  exact ⟨rfl, hb6.trans (hb7.mono z6)⟩

theorem sums_any (L M : List UInt8) (A C : Option Addr) (c d : Nat) (s : Nat) (w : World) (hs : s < 4294967296) (hr : RB w w.heap.size A L) (hr2 : RB w w.heap.size C M) :
    Calls Try.prog 3 #[.slice A L.length c, .slice C M.length d, .int .u32 (s : Int)] w fun e w' => e = .returned (.bool true) ∧ Below w.heap.size w w' := by
  by_cases hl : 2000 < L.length
  · have hl' : (2000 : Int) < (L.length : Int) := by omega
    go_enter Try.func3, Try.ntmps3
    go_wp2_with (go_at_call 7; refine (awake_any _).mono ?_; rintro e w' ⟨rfl, hb⟩)
    go_ret
    exact ⟨rfl, hb⟩
  by_cases hm : 2000 < M.length
  · have hm' : (2000 : Int) < (M.length : Int) := by omega
    go_enter Try.func3, Try.ntmps3
    go_wp2_with (go_at_call 7; refine (awake_any _).mono ?_; rintro e w' ⟨rfl, hb⟩)
    go_ret
    exact ⟨rfl, hb⟩
  refine sums_core L M A C c d s (sumL L) (sumL (L ++ M)) (moreL s M) w hr hr2 hl hm (fun W B h => sum_any L A c B W h (by omega)) (fun W B h => refSum_any L A c B W h (by omega)) (fun W B h => ?_) (fun W v h => ?_)
    (fun W B h => more_any s M C d B W hs h (by omega)) (fun W B h => refMore_any s M C d B W hs h (by omega))
  · have := more_any (sumL L) M C d B W (sumL_lt L) h (by omega)
    rwa [sum_more] at this
  · obtain ⟨A', c', rfl, h⟩ := h
    exact sum_any (L ++ M) A' c' _ W h (by rw [List.length_append]; omega)

theorem Try.cells5 : Try.prog.cellsOf 5 = 1 := by kernel_rfl

set_option maxRecDepth 100000 in
theorem sums_lifted (os : Os) (started : os.Started) (H : Type) (enc : TypeId × Value → H) :
    ReturnsInHanded {} Try.checked os 3 .any (Rows.crcSumsSpec.pre6 enc Try.prog Try.f3 Rows.crcSumsRow.domain false) (Rows.crcSumsSpec.post enc Try.prog Try.f3 false true false false) := by
  refine returnsInHanded_of_change (C := Try.checked) Try.own started (by kernel_rfl) Try.func3
    (ChangeSpec.witness6 (enc := enc) (C := Try.checked) false ⟨#[], #[.slice none 0 0, .slice none 0 0, .int .u32 0], []⟩ 8 (by kernel_rfl) (by kernel_rfl) (by kernel_rfl) (by kernel_rfl)) ?_
  intro W base args ds gs before hval0 hW hcnd _
  have hval : ∀ (j : Nat) t v, Try.f3.params[j]? = some t → args[j]? = some v → Value.okWide Try.prog W .any base t v := hval0
  have hW' : DataW.Whole enc Try.prog Try.f3.params.toList Rows.crcSumsSpec.vars false W args.toList ds gs before := hW
  have hWk := hW'
  obtain ⟨p, q, hA, hV, rfl, hfz, hnd⟩ := hW'
  rw [Try.params3] at hA hval
  obtain ⟨v0, v1, v2, d0, d1, d2, p0, p1, p2, rfl, rfl, rfl, h0, h1, h2⟩ := trodAll_three hA
  obtain ⟨rfl, rfl⟩ := trodVars_none hV
  obtain ⟨A, L, c, rfl, hr, hlc, hcm⟩ := open_bytes Try.underlying22 Try.underlying5 Try.cells5 (hval 0 22 v0 rfl rfl) h0
  obtain ⟨C, M, d, rfl, hr2, hmd, hdm⟩ := open_bytes Try.underlying22 Try.underlying5 Try.cells5 (hval 1 22 v1 rfl rfl) h1
  obtain ⟨n, rfl, rfl, rfl, wn⟩ := open_int Try.underlying23 (hval 2 23 v2 rfl rfl) h2
  have hn := bounds_u32 wn
  obtain ⟨s, rfl⟩ : ∃ s : Nat, n = (s : Int) := ⟨n.toNat, by omega⟩
  refine (sums_any L M A C c d s W (by omega) hr hr2).mono fun e W' ⟨he, hb⟩ => ⟨_, he, ?_⟩
  exact law_post Try.laidOut hWk rfl rfl rfl rfl rfl Try.underlying4 (by kernel_rfl) hb

theorem sums_holds : Rows.CrcSumsSaid :=
  OpenClaim.holds_of_wide 3 Try.f3 rfl rfl rfl rfl rfl rfl rfl ⟨rfl, rfl, rfl, rfl, rfl⟩ rfl rfl rfl rfl rfl (by kernel_rfl) Try.func3 (by kernel_rfl)
    (of_decide_eq_true (by kernel_rfl)) (by unfold Func.isWrapper; first | (rw [if_pos (by decide +kernel)]; kernel_rfl) | (rw [if_neg (by decide +kernel)]; exact ⟨rfl, rfl⟩))
    (fun os started H enc _ => sums_lifted os started H enc)

end Go.Proofs.Ytmmoenglnaphdaa
