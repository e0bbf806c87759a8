/- NumGets returns true for every slice of bytes, and leaves memory that was there as it was; nothing is assumed beyond the statement itself. -/
import Derived.Test.YtdiihnpnjgadeaaPuts
import Derived.Test.YtdiihnpnjgadeaaRef
import Derived.StillTailTactics
namespace Go.Proofs.Ytdiihnpnjgadeaa
open Go.ChangeShapes Go.WideShapes Go.ChangeAt Go.RowKit

theorem textR_any (L : List UInt8) (A : Option Addr) (c : Nat) (w : World) (hr : RB w w.heap.size A L) (hl : L.length ≤ 262144) : Calls Try.prog 16 #[.slice A L.length c] w (GivesR (putL L.length ++ L, 0) w) :=
  (text_yes L A c 0 w hr hl).mono fun e w' h => GivesR.bytes h
theorem refTextR_any (L : List UInt8) (A : Option Addr) (c : Nat) (w : World) (hr : RB w w.heap.size A L) (hl : L.length ≤ 262144) : Calls Try.prog 17 #[.slice A L.length c] w (GivesR (putL L.length ++ L, 0) w) :=
  (refText_yes L A c 0 w hr hl).mono fun e w' h => GivesR.bytes h

theorem wpStill_skip {P : Program} {ops : Array Oper} {w : World} {Q : Act → Prop} {a : Act} {o : Oper} {rest : List Oper} (hw : Region.wanted o (yielded ops a.tmps) = false) (h : wpStill P ops w Q rest (a.put o.dst undef)) : wpStill P ops w Q (o :: rest) a :=
  wpStill_step fun K hK => by rw [if_neg (by rw [hw]; exact Bool.false_ne_true)]; exact hK _ h

set_option maxRecDepth 100000 in
set_option maxHeartbeats 2000000 in
theorem gets_core (A : Option Addr) (c : Nat) (L P T : List UInt8) (v1 v2 v3 u1 u2 : Int) (w : World) (hr : RB w w.heap.size A L) (hlc : L.length ≤ c) (hl : ¬ 1000 < L.length)
    (HC12 : Hid (∀ W, RB W W.heap.size A L → Calls Try.prog 12 #[.slice A L.length c] W fun e w' => e = .returned (.tuple #[.int .i64 v1, .int .i64 v2, .int .i64 v3]) ∧ W = w'))
    (HC14 : Hid (∀ W, RB W W.heap.size A L → Calls Try.prog 14 #[.slice A L.length c] W fun e w' => e = .returned (.tuple #[.int .i64 v1, .int .i64 v2, .int .i64 v3]) ∧ W = w'))
    (HC13 : Hid (∀ W, RB W W.heap.size A L → Calls Try.prog 13 #[.slice A L.length c] W fun e w' => e = .returned (.tuple #[.int .i64 u1, .int .i64 u2]) ∧ W = w'))
    (HC15 : Hid (∀ W, RB W W.heap.size A L → Calls Try.prog 15 #[.slice A L.length c] W fun e w' => e = .returned (.tuple #[.int .i64 u1, .int .i64 u2]) ∧ W = w'))
    (HC16 : Hid (∀ W, RB W W.heap.size A L → Calls Try.prog 16 #[.slice A L.length c] W (GivesR (T, 0) W))) (HC17 : Hid (∀ W, RB W W.heap.size A L → Calls Try.prog 17 #[.slice A L.length c] W (GivesR (T, 0) W)))
    (HC8 : Hid (∀ W, Calls Try.prog 8 #[.int .i64 v1] W (GivesR (P, 0) W)))
    (h1 : (v3 = 0 ∧ v2 = (P.length : Int) ∧ P.length ≤ L.length ∧ Hid (L.take P.length = P)) ∨ v3 = 5) :
    Calls Try.prog 4 #[.slice A L.length c] w fun e w' => e = .returned (.bool true) ∧ Below w.heap.size w w' := by
  rcases h1 with ⟨rfl, rfl, hpl, HP⟩ | rfl
  · have hpc : (P.length : Int) ≤ (c : Int) := by omega
    have hp0 : (0 : Int) ≤ (P.length : Int) := by omega
    have hplI : (P.length : Int) ≤ (L.length : Int) := by omega
    go_enter Try.func4, Try.ntmps4
    go_wp2_with (first
      | (go_at_call 12; (with_reducible refine (HC12.out _ hr).mono ?_); rintro e w' ⟨rfl, rfl⟩)
      | (go_at_call 14; (with_reducible refine (HC14.out _ hr).mono ?_); rintro e w' ⟨rfl, rfl⟩)
      | (go_at_call 13; (with_reducible refine (HC13.out _ hr).mono ?_); rintro e w' ⟨rfl, rfl⟩)
      | (go_at_call 15; (with_reducible refine (HC15.out _ hr).mono ?_); rintro e w' ⟨rfl, rfl⟩)
      | (go_at_call 16; (with_reducible refine (HC16.out _ hr).mono ?_); rintro e w1 ⟨A1, c1, rfl, hr1, hb1⟩; have z1 := hb1.size; have f1 := (hr.below hb1).more z1)
      | (go_at_call 17; (with_reducible refine (HC17.out _ f1).mono ?_); rintro e w2 ⟨A2, c2, rfl, hr2, hb2⟩; have z2 := hb2.size; have f2 := (f1.below hb2).more z2; have f3 := (hr1.below hb2).more z2; have e1 := aw_str f3 T.length c1 rfl; have e2 := aw_str hr2 T.length c2 rfl)
      | (go_at_call 8; go_loud ((with_reducible refine (HC8.out _).mono ?_); rintro e w3 ⟨A3, c3, rfl, hr3, hb3⟩; have z3 := hb3.size; have f4 := rb_take ((f2.below hb3).more z3) P.length hpl; rw [HP.out] at f4; have e3 := aw_str (w := { w3 with drawn := w3.drawn + 1 }) (RB.drew hr3) P.length c3 rfl; have e4 := aw_str (w := { w3 with drawn := w3.drawn + 1 }) (RB.drew f4) P.length c rfl; have e5 := aw_str (w := w3.drew) (RB.drew hr3) P.length c3 rfl; have e6 := aw_str (w := w3.drew) (RB.drew f4) P.length c rfl)))
    go_still_tail 22, (by kernel_rfl)
    change wpList _ _ _ _ _ w3.drew
    go_wp2_with (go_at_call 7; refine (awake_any _).mono ?_; rintro e w4 ⟨rfl, hb4⟩)
    go_ret
    exact ⟨rfl, (((hb1.trans (hb2.mono z1)).trans (hb3.mono (by omega))).drew).trans (hb4.mono (show w.heap.size ≤ w3.heap.size by omega))⟩
  · go_enter Try.func4, Try.ntmps4
    go_wp2_with (first
      | (go_at_call 12; (with_reducible refine (HC12.out _ hr).mono ?_); rintro e w' ⟨rfl, rfl⟩)
      | (go_at_call 14; (with_reducible refine (HC14.out _ hr).mono ?_); rintro e w' ⟨rfl, rfl⟩)
      | (go_at_call 13; (with_reducible refine (HC13.out _ hr).mono ?_); rintro e w' ⟨rfl, rfl⟩)
      | (go_at_call 15; (with_reducible refine (HC15.out _ hr).mono ?_); rintro e w' ⟨rfl, rfl⟩)
      | (go_at_call 16; (with_reducible refine (HC16.out _ hr).mono ?_); rintro e w1 ⟨A1, c1, rfl, hr1, hb1⟩; have z1 := hb1.size; have f1 := (hr.below hb1).more z1)
      | (go_at_call 17; (with_reducible refine (HC17.out _ f1).mono ?_); rintro e w2 ⟨A2, c2, rfl, hr2, hb2⟩; have z2 := hb2.size; have f2 := (f1.below hb2).more z2; have f3 := (hr1.below hb2).more z2; have e1 := aw_str f3 T.length c1 rfl; have e2 := aw_str hr2 T.length c2 rfl)
      | (go_at_call 8; go_loud ((with_reducible refine (HC8.out _).mono ?_); rintro e w3 ⟨A3, c3, rfl, hr3, hb3⟩; have z3 := hb3.size)))
    refine wp_region_still_tail 22 (by kernel_rfl) (by kernel_rfl) ?_
    simp only [List.take_succ_cons, List.take_zero, List.drop_succ_cons, List.drop_zero]
    (with_reducible refine wpStill_step (fun K hK => ?_)); go_simp; (with_reducible refine hK _ ?_); clear hK K
    (with_reducible refine wpStill_step (fun K hK => ?_)); go_simp; (with_reducible refine hK _ ?_); clear hK K
    (with_reducible refine wpStill_step (fun K hK => ?_)); go_simp; (with_reducible refine hK _ ?_); clear hK K
    iterate 17 (with_reducible refine wpStill_skip (by kernel_rfl) ?_)
    (with_reducible refine wpStill_step (fun K hK => ?_)); go_simp; (with_reducible refine hK _ ?_); clear hK K
    (with_reducible refine wpStill_step (fun K hK => ?_)); go_simp; (with_reducible refine hK _ ?_); clear hK K
    with_reducible refine wpStill_nil ?_
    change wpList _ _ _ _ _ w3.drew
    go_wp2_with (go_at_call 7; refine (awake_any _).mono ?_; rintro e w4 ⟨rfl, hb4⟩)
    go_ret
    exact ⟨rfl, (((hb1.trans (hb2.mono z1)).trans (hb3.mono (by omega))).drew).trans (hb4.mono (show w.heap.size ≤ w3.heap.size by omega))⟩

theorem gets_any (A : Option Addr) (c : Nat) (L : List UInt8) (w : World) (hr : RB w w.heap.size A L) (hlc : L.length ≤ c) :
    Calls Try.prog 4 #[.slice A L.length c] w fun e w' => e = .returned (.bool true) ∧ Below w.heap.size w w' := by
  by_cases hl : 1000 < L.length
  · have hl' : (1000 : Int) < (L.length : Int) := by omega
    go_enter Try.func4, Try.ntmps4
    go_wp2_with (go_at_call 7; refine (awake_any _).mono ?_; rintro e w' ⟨rfl, hb⟩)
    go_ret
    exact ⟨rfl, hb⟩
  · have hll : L.length ≤ 1048576 := by omega
    have h13 : ∀ W, RB W W.heap.size A L → Calls Try.prog 13 #[.slice A L.length c] W fun e w' => e = .returned (.tuple #[.int .i64 ((unfixR L).1 : Int), .int .i64 ((unfixR L).2 : Int)]) ∧ W = w' := fun W h => unfix_any L A c _ W h hll
    have h15 : ∀ W, RB W W.heap.size A L → Calls Try.prog 15 #[.slice A L.length c] W fun e w' => e = .returned (.tuple #[.int .i64 ((unfixR L).1 : Int), .int .i64 ((unfixR L).2 : Int)]) ∧ W = w' := fun W h => refUnfix_any L A c _ W h hll
    have h16 := fun W h => textR_any L A c W h (by omega)
    have h17 := fun W h => refTextR_any L A c W h (by omega)
    rcases hg : getL L with _ | ⟨n, k⟩
    · refine gets_core A c L [0] (putL L.length ++ L) 0 0 5 _ _ w hr hlc hl (fun W h => ?_) (fun W h => ?_) h13 h15 h16 h17 (fun W => ?_) (.inr rfl)
      · have := get_any L A c _ W h hll
        rw [hg] at this; exact this
      · have := refGet_any L A c _ W h hll
        rw [hg] at this; exact this
      · have := putR_any 0 W
        have e : putR 0 = ([0], 0) := by
          show (if _ then _ else _) = _
          rw [if_pos (by decide)]
          show (putL 0, 0) = _
          rw [putL_small 0 (by decide)]; rfl
        rwa [e] at this
    · obtain ⟨hn, hk, hkl, hp⟩ := getL_some L n k hg
      have hlen : (putL n).length = k := hk.symm
      refine gets_core A c L (putL n) (putL L.length ++ L) n (putL n).length 0 _ _ w hr hlc hl (fun W h => ?_) (fun W h => ?_) h13 h15 h16 h17 (fun W => ?_) (.inl ⟨rfl, rfl, by rw [hlen]; exact hkl, by show L.take (putL n).length = putL n; rw [hlen]; exact hp.symm⟩)
      · have := get_any L A c _ W h hll
        rw [hg] at this; rw [hlen]; exact this
      · have := refGet_any L A c _ W h hll
        rw [hg] at this; rw [hlen]; exact this
      · have := putR_any n W
        have e : putR n = (putL n, 0) := by
          show (if _ then _ else _) = _
          rw [if_pos (by omega)]; simp
        rwa [e] at this

set_option maxRecDepth 100000 in
theorem gets_lifted (os : Os) (started : os.Started) (H : Type) (enc : TypeId × Value → H) :
    ReturnsInHanded {} Try.checked os 4 .any (Rows.numGetsSpec.pre6 enc Try.prog Try.f4 Rows.numGetsRow.domain false) (Rows.numGetsSpec.post enc Try.prog Try.f4 false true false false) := by
  refine returnsInHanded_of_change (C := Try.checked) Try.own started (by kernel_rfl) Try.func4
    (ChangeSpec.witness6 (enc := enc) (C := Try.checked) false ⟨#[], #[.slice none 0 0], []⟩ 8 (by kernel_rfl) (by kernel_rfl) (by kernel_rfl) (by kernel_rfl)) ?_
  intro W base args ds gs before hval0 hW hcnd _
  have hval : ∀ (j : Nat) t v, Try.f4.params[j]? = some t → args[j]? = some v → Value.okWide Try.prog W .any base t v := hval0
  have hW' : DataW.Whole enc Try.prog Try.f4.params.toList Rows.numGetsSpec.vars false W args.toList ds gs before := hW
  have hWk := hW'
  obtain ⟨p, q, hA, hV, rfl, hfz, hnd⟩ := hW'
  rw [Try.params4] at hA hval
  obtain ⟨v0, d0, rfl, rfl, h0⟩ := trodAll_one hA
  obtain ⟨rfl, rfl⟩ := trodVars_none hV
  obtain ⟨A, L, c, rfl, hr, hlc, hcm⟩ := open_bytes Try.underlying22 Try.underlying5 Try.cells5 (hval 0 22 v0 rfl rfl) h0
  refine (gets_any A c L W hr hlc).mono fun e W' ⟨he, hb⟩ => ⟨_, he, ?_⟩
  exact law_post Try.laidOut hWk rfl rfl rfl rfl rfl Try.underlying4 (by kernel_rfl) hb

theorem gets_holds : Rows.NumGetsSaid :=
  OpenClaim.holds_of_wide 4 Try.f4 rfl rfl rfl rfl rfl rfl rfl ⟨rfl, rfl, rfl, rfl, rfl⟩ rfl rfl rfl rfl rfl (by kernel_rfl) Try.func4 (by kernel_rfl)
    (of_decide_eq_true (by kernel_rfl)) (by unfold Func.isWrapper; first | (rw [if_pos (by decide +kernel)]; kernel_rfl) | (rw [if_neg (by decide +kernel)]; exact ⟨rfl, rfl⟩))
    (fun os started H enc _ => gets_lifted os started H enc)

end Go.Proofs.Ytdiihnpnjgadeaa
