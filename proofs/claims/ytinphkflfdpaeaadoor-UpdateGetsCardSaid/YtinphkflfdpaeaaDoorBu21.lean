/- Lemmas under the proofs of this place: NumAt, RefT, IdsRefA. No statement is proved here. -/
import Derived.Test.YtinphkflfdpaeaaDoorBu15
import Derived.Test.YtinphkflfdpaeaaDoorBu13
import Derived.Test.YtinphkflfdpaeaaDoorBu06
import Derived.Test.YtinphkflfdpaeaaDoorBu18
import Derived.Test.YtinphkflfdpaeaaDoorBu05
set_option linter.unusedSimpArgs false
set_option linter.unusedVariables false
set_option maxRecDepth 100000
set_option maxHeartbeats 16000000
namespace Go.Proofs.YtinphkflfdpaeaaDoor
section
open Go.RowKit
theorem num_at (B g : Nat) (st : St) (w : World) (h0 : CurB B w g st) (hB : B ≤ w.heap.size) :
    Calls Tryd.prog 87 #[.pointer (some ⟨g, 0, none⟩)] w fun e w' => e = .returned (.int .i64 ((stepNum st).2 : Int)) ∧ CurB B w' g (stepNum st).1 ∧ Only w w' g := by
  have h := h0.cur hB
  have hb := bad_any g _ w h
  have hfl := fail_any g _ w h
  rcases st with _ | L
  · have h' := Lib.hid h0
    clear h h0
    go_enter Tryd.func87, Tryd.ntmps87
    go_wp2_with (go_at_call 53; refine hb.mono ?_; rintro e w' ⟨rfl, rfl⟩)
    go_ret
    exact ⟨rfl, h'.out, only_refl _ _⟩
  · obtain ⟨A, c, hg, hr, hc, hl⟩ := h0
    have hgt := get_any L A c _ w (hr.more hB) hl
    have hc0 : w.cell? ⟨g, 0, none⟩ = some (.slice A L.length c) := (blk_cell hg 0).1
    have hf0 : w.frozen? ⟨g, 0, none⟩ = false := (blk_cell hg 0).2
    have HG := Lib.hid hg
    clear hg h
    rcases hs : getL L with _ | ⟨n, k⟩
    · rw [hs] at hgt
      have HS : Hid (stepNum (some L) = (none, 0)) := by show _ = _; simp [stepNum, hs]
      clear hs
      go_enter Tryd.func87, Tryd.ntmps87
      go_wp2_with (first
        | (go_at_call 53; refine hb.mono ?_; rintro e w' ⟨rfl, rfl⟩)
        | (go_at_call 93; refine hgt.mono ?_; rintro e w' ⟨rfl, rfl⟩)
        | (go_at_call 54; refine hfl.mono ?_; rintro e w' ⟨rfl, hcur, honly, hsz⟩))
      go_ret
      rw [HS.out]
      exact ⟨rfl, hcur, honly⟩
    · rw [hs] at hgt
      have hkl := (getL_some L n k hs).2.2.1
      have HS : Hid (stepNum (some L) = (some (L.drop k), n)) := by show _ = _; simp [stepNum, hs]
      clear hs
      go_enter Tryd.func87, Tryd.ntmps87
      go_wp2_with (first
        | (go_at_call 53; refine hb.mono ?_; rintro e w' ⟨rfl, rfl⟩)
        | (go_at_call 93; refine hgt.mono ?_; rintro e w' ⟨rfl, rfl⟩))
      all_goals
        go_ret
        rw [HS.out]
        exact ⟨rfl, cur_cutB HG hr hc hl hkl _ _ (fun hx => by first | rfl | (exact absurd hx (by assumption))) (fun hx => by first | rfl | (exact absurd (by assumption) hx)) (by omega), only_set _ _ _ _⟩
end
section
open Go.RowKit
theorem refv_parts {A : Option Addr} {M : List UInt8} {c : Nat} {y0 y1 y2 : Value} {st : St} (h : RefV A M c (.agg #[y0, y1, y2]) st) :
    ∃ A0 n0 c0 k b, y0 = .slice A0 n0 c0 ∧ y1 = .int .i64 ((k : Nat) : Int) ∧ y2 = .bool b := by
  rcases st with _ | L
  · have h' : Value.agg #[y0, y1, y2] = .agg #[.slice none 0 0, .int .i64 0, .bool true] := h
    simp only [Value.agg.injEq, Array.mk.injEq, List.cons.injEq, and_true] at h'
    exact ⟨none, 0, 0, 0, true, h'.1, h'.2.1, h'.2.2⟩
  · obtain ⟨k, h', _⟩ := h
    simp only [Value.agg.injEq, Array.mk.injEq, List.cons.injEq, and_true] at h'
    exact ⟨_, _, _, k, false, h'.1, h'.2.1, h'.2.2⟩
theorem refTakeText_any (A : Option Addr) (M : List UInt8) (c B : Nat) (v : Value) (st : St) (w : World) (h : RefV A M c v st) (hr : RB w B A M) (hB : B ≤ w.heap.size) (hc : M.length ≤ c) (hl : M.length ≤ 1048576) :
    Calls Tryd.prog 63 #[v] w (GivesRefB A M c B (stepText st) w) := by
  obtain ⟨r, hr'⟩ : ∃ r, r = stepNum st := ⟨_, rfl⟩
  have HS : Hid (stepText st = if 262144 < r.2 then (none, []) else stepTake r.2 r.1) := by show _ = _; rw [hr']; rfl
  have HT := fun W (hrW : RB W B A M) (hBW : B ≤ W.heap.size) => refNum_any A M c B v st W h hrW hBW hc hl
  rw [← hr'] at HT
  have HT' := Lib.hid HT
  have hf := refv_form h
  clear HT hr'
  obtain ⟨x0, x1, x2, rfl⟩ := hf
  obtain ⟨X0, n0, m0, k0, b0, rfl, rfl, rfl⟩ := refv_parts h
  clear h
  obtain ⟨st', n⟩ := r
  rcases st' with _ | L'
  · have HS2 : Hid (stepText st = (none, [])) := by
      show _ = _
      rw [HS.out]
      by_cases h : 262144 < n
      · rw [if_pos h]
      · rw [if_neg h]; rfl
    go_enter Tryd.func63, Tryd.ntmps63
    go_wp2_with (first
      | (go_at_call 80; refine (HT'.out _ ((hr.alloc hB _).alloc (by simp; omega) _) (by simp; omega)).mono ?_; rintro e w1 ⟨y0, y1, y2, he, hv1, hb1⟩; simp only [RefV, Value.agg.injEq, Array.mk.injEq, List.cons.injEq, and_true] at hv1; obtain ⟨rfl, rfl, rfl⟩ := hv1; subst he; obtain ⟨hc1, hf1⟩ := bcell hb1; have hz1 : w.heap.size + 1 < w1.heap.size := (by have := hb1.size; simp at this; omega); have hz0 : w.heap.size < w1.heap.size := (by omega))
      | (go_at_call 62; refine (spoilt_any _ _ _ _).mono ?_; rintro e w2 ⟨rfl, hb2⟩; obtain ⟨hc2, hf2⟩ := bcell hb2; have hz2 : w1.heap.size < w2.heap.size := (by have := hb2.size; simp at this; omega); have hz3 : w.heap.size + 1 < w1.heap.size + 1 := (by omega)))
    refine bodyPost_ret (v := .tuple #[.agg #[.slice none 0 0, .int .i64 0, .bool true], .slice none 0 0]) (by simp [results, Tryd.results63, go_sem, hc1, hc2, hz1, hz2, hz3]) rfl ?_
    rw [HS2.out]
    exact ⟨_, _, _, none, 0, rfl, rfl, RB.none_ _ _, below3 (((two_then hb1).alloc (by omega) _).trans (hb2.mono (by simp; omega))) (by omega) _ _ _⟩
  · by_cases hn : 262144 < n
    · have hd : decide (262144 < (n : Int)) = true := by simp; omega
      have HS2 : Hid (stepText st = (none, [])) := by show _ = _; rw [HS.out, if_pos hn]
      go_enter Tryd.func63, Tryd.ntmps63
      go_wp2_with (first
        | (go_at_call 80; refine (HT'.out _ ((hr.alloc hB _).alloc (by simp; omega) _) (by simp; omega)).mono ?_; rintro e w1 ⟨y0, y1, y2, he, hv1, hb1⟩; simp only [RefV, Value.agg.injEq, Array.mk.injEq, List.cons.injEq, and_true] at hv1; obtain ⟨k, ⟨rfl, rfl, rfl⟩, hk, hL⟩ := hv1; have HLd := Lib.hid hL; clear hL; subst he; obtain ⟨hc1, hf1⟩ := bcell hb1; have hz1 : w.heap.size + 1 < w1.heap.size := (by have := hb1.size; simp at this; omega); have hz0 : w.heap.size < w1.heap.size := (by omega))
        | (go_at_call 62; refine (spoilt_any _ _ _ _).mono ?_; rintro e w2 ⟨rfl, hb2⟩; obtain ⟨hc2, hf2⟩ := bcell hb2; have hz2 : w1.heap.size < w2.heap.size := (by have := hb2.size; simp at this; omega); have hz3 : w.heap.size + 1 < w1.heap.size + 1 := (by omega)))
      refine bodyPost_ret (v := .tuple #[.agg #[.slice none 0 0, .int .i64 0, .bool true], .slice none 0 0]) (by simp [results, Tryd.results63, go_sem, hc1, hc2, hz1, hz2, hz3]) rfl ?_
      rw [HS2.out]
      exact ⟨_, _, _, none, 0, rfl, rfl, RB.none_ _ _, below3 (((two_then hb1).alloc (by omega) _).trans (hb2.mono (by simp; omega))) (by omega) _ _ _⟩
    · have hd : decide (262144 < (n : Int)) = false := by simp; omega
      obtain ⟨r2, hr2⟩ : ∃ r2, r2 = stepTake (n : Int) (some L') := ⟨_, rfl⟩
      have HS2 : Hid (stepText st = r2) := by show _ = _; rw [HS.out, if_neg hn, hr2]
      have HT2 := fun W v (hv : RefV A M c v (some L')) (hrW : RB W B A M) (hBW : B ≤ W.heap.size) => refTake_any A M c B v (n : Int) (some L') W hv hrW hBW hc hl
      rw [← hr2] at HT2
      have HT2' := Lib.hid HT2
      clear HT2 hr2
      obtain ⟨st2, l2⟩ := r2
      go_enter Tryd.func63, Tryd.ntmps63
      go_wp2_with (first
        | (go_at_call 80; refine (HT'.out _ ((hr.alloc hB _).alloc (by simp; omega) _) (by simp; omega)).mono ?_; rintro e w1 ⟨y0, y1, y2, he, hv1, hb1⟩; have hV := Lib.hid hv1; simp only [RefV, Value.agg.injEq, Array.mk.injEq, List.cons.injEq, and_true] at hv1; obtain ⟨k, ⟨rfl, rfl, rfl⟩, hk, hL⟩ := hv1; clear hL; subst he; obtain ⟨hc1, hf1⟩ := bcell hb1; have hz1 : w.heap.size + 1 < w1.heap.size := (by have := hb1.size; simp at this; omega); have hz0 : w.heap.size < w1.heap.size := (by omega); have hr1 := hr.below ((two_then hb1).mono hB))
        | (go_at_call 36; refine (HT2'.out _ _ hV.out (hr1.alloc (by omega) _) (by simp; omega)).mono ?_; rintro e w2 ⟨z0, z1, z2, A2, c2, he, hv2, hrb2, hb2⟩; obtain ⟨Z0, n2, m2, k2, b2, rfl, rfl, rfl⟩ := refv_parts hv2; subst he; obtain ⟨hc2, hf2⟩ := bcell hb2; have hz2 : w1.heap.size < w2.heap.size := (by have := hb2.size; simp at this; omega); have hz3 : w.heap.size + 1 < w1.heap.size + 1 := (by omega)))
      refine bodyPost_ret (v := .tuple #[.agg #[.slice Z0 n2 m2, .int .i64 (k2 : Int), .bool b2], .slice A2 l2.length c2]) (by simp [results, Tryd.results63, go_sem, hc1, hc2, hz1, hz2, hz3]) rfl ?_
      rw [HS2.out]
      refine ⟨_, _, _, A2, c2, rfl, hv2, ?_, below3 (((two_then hb1).alloc (by omega) _).trans (hb2.mono (by simp; omega))) (by omega) _ _ _⟩
      exact RB.below hrb2 (below3 (Below.refl _ _) (by omega) _ _ _)
end
section
open Go.RowKit
theorem refRight_any (L : Bs) (w : World) : Calls Tryd.prog 70 #[.string (text L)] w fun e w' => e = .returned (.bool (rightB L)) ∧ w = w' := by
  have hs := text_size L
  obtain ⟨t, ht⟩ : ∃ t, t = text L := ⟨_, rfl⟩
  rw [← ht] at hs ⊢
  have HB : Hid (rightB L = decide ((L.length : Int) = 32)) := by
    show _ = _
    unfold rightB
    rw [Bool.eq_iff_iff]; simp; omega
  clear ht
  go_enter Tryd.func70, Tryd.ntmps70
  go_wp2
  go_ret
  refine ⟨?_, rfl⟩
  rw [HB.out]
  rfl
theorem texts_any (Ls Ms : List Bs) (A C : Option Addr) (n c m d B : Nat) (w : World) (HN : Hid (n = Ls.length)) (HM : Hid (m = Ms.length)) (hr : SS w B A Ls) (hr2 : SS w B C Ms) (hn : n ≤ 1000000) (hm : m ≤ 1000000) :
    Calls Tryd.prog 32 #[.slice A n c, .slice C m d] w fun e w' => e = .returned (.bool (decide (Ls = Ms))) ∧ Below w.heap.size w w' := by
  have HR : Hid (0 < Ls.length → ∃ b off, A = some ⟨b, off, none⟩ ∧ b < B ∧ ∀ k, k < Ls.length → w.cell? ⟨b, off + k, none⟩ = some (.string (text (Ls.getD k [])))) := fun h => hr.at_ h
  have HR2 : Hid (0 < Ms.length → ∃ b off, C = some ⟨b, off, none⟩ ∧ b < B ∧ ∀ k, k < Ms.length → w.cell? ⟨b, off + k, none⟩ = some (.string (text (Ms.getD k [])))) := fun h => hr2.at_ h
  clear hr hr2
  by_cases hnm : n = m
  · subst hnm
    go_enter Tryd.func32, Tryd.ntmps32
    go_wp2
    go_loopw [5] (fun i wr => ∃ k : Nat, k ≤ n ∧ i = .int .i64 (k : Int) ∧ Hid (∀ j, j < k → Ls.getD j [] = Ms.getD j []) ∧ Hid (∀ p, wr.cell? p = w.cell? p) ∧ Below w.heap.size w wr) (fun i _ => n - (intOf i).toNat)
    case atStart => exact ⟨0, by omega, rfl, by intro j hj; omega, fun _ => rfl, Below.refl _ _⟩
    case round =>
      obtain ⟨k, hk, rfl, HF, hw, hb⟩ := hrel
      by_cases hlt : k < n
      · have hkL : k < Ls.length := by have := HN.out; omega
        have hkM : k < Ms.length := by have := HM.out; omega
        obtain ⟨b, off, rfl, _, hc⟩ := HR.out (by omega)
        obtain ⟨b2, off2, rfl, _, hc2⟩ := HR2.out (by omega)
        obtain ⟨s, hs⟩ : ∃ s, s = text (Ls.getD k []) := ⟨_, rfl⟩
        obtain ⟨t, ht⟩ : ∃ t, t = text (Ms.getD k []) := ⟨_, rfl⟩
        have hck := hc k hkL
        have hck2 := hc2 k hkM
        rw [← hs, ← hw.out] at hck
        rw [← ht, ← hw.out] at hck2
        have u0 : (0 : Int) ≤ (k : Int) := by omega
        have u1 : (k : Int) < (n : Int) := by omega
        by_cases he : Ls.getD k [] = Ms.getD k []
        · have heq : (s.toList == t.toList) = true := by rw [hs, ht, text_eq]; exact decide_eq_true he
          have HH : Hid (∀ j, j < k + 1 → Ls.getD j [] = Ms.getD j []) := fun j hj => by
            rcases Nat.lt_or_ge j k with h | h
            · exact HF.out j h
            · rw [show j = k by omega]; exact he
          clear hs ht hc hc2 HR HR2 he HF hkL hkM
          go_wp2
          go_quiet (fail)
          go_wp2
          refine ⟨⟨k + 1, by omega, by go_num, HH, fun p => hw.out p, ⟨hb.os, hb.tape, hb.output, hb.size, hb.block⟩⟩, ?_⟩
          simp [intOf]; omega
        · have heq : (s.toList == t.toList) = false := by rw [hs, ht, text_eq]; exact decide_eq_false he
          have HH : Hid (decide (Ls = Ms) = false) := by
            show _ = _
            exact decide_eq_false fun e => he (by rw [e])
          clear hs ht hc hc2 HR HR2 he HF hkL hkM
          go_wp2
          go_quiet (fail)
          go_wp2
          go_ret
          exact ⟨by rw [HH.out]; rfl, ⟨hb.os, hb.tape, hb.output, hb.size, hb.block⟩⟩
      · have HH : Hid (decide (Ls = Ms) = true) := by
          show _ = _
          refine decide_eq_true (List.ext_getElem (by have := HN.out; have := HM.out; omega) fun j h1 h2 => ?_)
          have := HF.out j (by have := HN.out; omega)
          rw [List.getD, List.getElem?_eq_getElem h1, List.getD, List.getElem?_eq_getElem h2] at this
          exact this
        clear HF HR HR2
        go_wp2
        go_ret
        exact ⟨by rw [HH.out]; rfl, hb⟩
  · have hne : (n : Int) ≠ (m : Int) := by omega
    have HH : Hid (decide (Ls = Ms) = false) := by
      show _ = _
      exact decide_eq_false fun e => hnm (by rw [HN.out, HM.out, e])
    go_enter Tryd.func32, Tryd.ntmps32
    go_wp2
    go_ret
    exact ⟨by rw [HH.out]; rfl, Below.refl _ _⟩
theorem risesK_stop (l : List Bs) (k : Nat) (h : k ≤ l.length) (hf : risesK l k = false) : risesL l = false := by
  cases hb : risesL l with
  | false => rfl
  | true =>
    have h1 := (risesL_iff l).1 hb
    have : risesK l k = true := (risesK_all l k h).2 ⟨fun x hx => h1.1 x (List.mem_of_mem_take hx), List.Pairwise.sublist (List.take_sublist _ _) h1.2⟩
    rw [hf] at this; cases this
theorem refRising_any (Ls : List Bs) (A : Option Addr) (n c B : Nat) (w : World) (HN : Hid (n = Ls.length)) (hr : SS w B A Ls) (hn : n ≤ 1000000) :
    Calls Tryd.prog 43 #[.slice A n c] w fun e w' => e = .returned (.bool (risesL Ls)) ∧ Below w.heap.size w w' := by
  have HR : Hid (0 < Ls.length → ∃ b off, A = some ⟨b, off, none⟩ ∧ b < B ∧ ∀ k, k < Ls.length → w.cell? ⟨b, off + k, none⟩ = some (.string (text (Ls.getD k [])))) := fun h => hr.at_ h
  clear hr
  go_enter Tryd.func43, Tryd.ntmps43
  go_wp2
  go_loopw [3] (fun i wr => ∃ k : Nat, k ≤ n ∧ i = .int .i64 (k : Int) ∧ Hid (risesK Ls k = true) ∧ Hid (∀ p, wr.cell? p = w.cell? p) ∧ Below w.heap.size w wr) (fun i _ => n - (intOf i).toNat)
  case atStart => exact ⟨0, by omega, rfl, rfl, fun _ => rfl, Below.refl _ _⟩
  case round =>
    obtain ⟨k, hk, rfl, HF, hw, hb⟩ := hrel
    by_cases hlt : k < n
    · have hkL : k < Ls.length := by have := HN.out; omega
      obtain ⟨b, off, rfl, _, hc⟩ := HR.out (by omega)
      obtain ⟨y, hy⟩ : ∃ y, y = Ls.getD k [] := ⟨_, rfl⟩
      obtain ⟨s, hs⟩ : ∃ s, s = text y := ⟨_, rfl⟩
      have hck := hc k hkL
      rw [← hy, ← hs, ← hw.out] at hck
      have HRt : Hid (∀ V, Calls Tryd.prog 70 #[.string s] V fun e w' => e = .returned (.bool (rightB y)) ∧ V = w') := fun V => by rw [hs]; exact refRight_any y V
      have u0 : (0 : Int) ≤ (k : Int) := by omega
      have u1 : (k : Int) < (n : Int) := by omega
      have HS : Hid (risesK Ls (k + 1) = (rightB y && (k == 0 || Op.bytesLess (Ls.getD (k - 1) []) y))) := by show _ = _; rw [risesK, HF.out, ← hy, Bool.true_and]
      cases hrt : rightB y with
      | false =>
        have HH : Hid (risesL Ls = false) := risesK_stop Ls (k + 1) (by omega) (by rw [HS.out, hrt]; rfl)
        rw [hrt] at HRt
        clear hy hs hc HR hrt hkL HF
        go_wp2
        go_quiet (with_reducible exact quiet_same HRt)
        go_wp2
        go_ret
        exact ⟨by rw [HH.out]; rfl, ⟨hb.os, hb.tape, hb.output, hb.size, hb.block⟩⟩
      | true =>
        rw [hrt] at HRt
        by_cases hk0 : k = 0
        · have HH : Hid (risesK Ls (k + 1) = true) := by show _ = _; rw [HS.out, hrt, hk0]; rfl
          have d0 : decide (0 < (k : Int)) = false := decide_eq_false (by omega)
          have d1 : decide (0 < k) = false := decide_eq_false (by omega)
          clear hy hs hc HR hrt hkL HF hk0
          go_wp2
          go_quiet (with_reducible exact quiet_same HRt)
          go_wp2
          refine ⟨⟨k + 1, by omega, by go_num, HH, fun p => hw.out p, ⟨hb.os, hb.tape, hb.output, hb.size, hb.block⟩⟩, ?_⟩
          simp [intOf]; omega
        · obtain ⟨z, hz⟩ : ∃ z, z = Ls.getD (k - 1) [] := ⟨_, rfl⟩
          obtain ⟨t, ht⟩ : ∃ t, t = text z := ⟨_, rfl⟩
          have hcp := hc (k - 1) (by omega)
          rw [← hz, ← ht, ← hw.out] at hcp
          have ek : IntKind.i64.wrap ((k : Int) - 1) = ((k - 1 : Nat) : Int) := (IntWalk.i64_in _ (by omega)).trans (by omega)
          have u2 : ((k - 1 : Nat) : Int) < (n : Int) := by omega
          have u3 : (0 : Int) < (k : Int) := by omega
          have d0 : decide (0 < (k : Int)) = true := decide_eq_true (by omega)
          have d1 : decide (0 < k) = true := decide_eq_true (by omega)
          cases hls : Op.bytesLess z y with
          | false =>
            have HH : Hid (risesL Ls = false) := risesK_stop Ls (k + 1) (by omega) (by rw [HS.out, hrt, ← hz, hls]; simp [hk0])
            have hge : ∀ ty, binOp .geq ty (.string t) (.string s) = pure (.bool true) := fun ty => by simp [binOp, Op.stringOp, ht, hs, text_toList, hls]
            clear hy hs hz ht hc HR hrt hkL HF hls
            go_wp2
            go_quiet (with_reducible exact quiet_same HRt)
            go_wp2
            go_ret
            exact ⟨by rw [HH.out]; rfl, ⟨hb.os, hb.tape, hb.output, hb.size, hb.block⟩⟩
          | true =>
            have HH : Hid (risesK Ls (k + 1) = true) := by show _ = _; rw [HS.out, hrt, ← hz, hls]; simp
            have hge : ∀ ty, binOp .geq ty (.string t) (.string s) = pure (.bool false) := fun ty => by simp [binOp, Op.stringOp, ht, hs, text_toList, hls]
            clear hy hs hz ht hc HR hrt hkL HF hls
            go_wp2
            go_quiet (with_reducible exact quiet_same HRt)
            go_wp2
            refine ⟨⟨k + 1, by omega, by go_num, HH, fun p => hw.out p, ⟨hb.os, hb.tape, hb.output, hb.size, hb.block⟩⟩, ?_⟩
            simp [intOf]; omega
    · have HH : Hid (risesL Ls = true) := by
        show _ = _
        have := HF.out
        rwa [show k = Ls.length by have := HN.out; omega] at this
      clear HF HR
      go_wp2
      go_ret
      exact ⟨by rw [HH.out]; rfl, hb⟩
end
end Go.Proofs.YtinphkflfdpaeaaDoor
