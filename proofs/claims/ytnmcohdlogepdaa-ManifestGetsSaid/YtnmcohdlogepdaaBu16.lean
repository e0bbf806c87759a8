/- Lemmas under the proofs of this place: RefT, CrcROpen. No statement is proved here. -/
import Derived.Test.YtnmcohdlogepdaaBu14
import Derived.Deep.RegionHeldLaw
section
set_option linter.unusedVariables false
set_option linter.unusedSimpArgs false
namespace Go.Proofs.Ytnmcohdlogepdaa
open Go.RowKit
theorem refv_parts {A : Option Addr} {M : List UInt8} {c : Nat} {y0 y1 y2 : Value} {st : St} (h : RefV A M c (.agg #[y0, y1, y2]) st) :
    ∃ A0 n0 c0 k b, y0 = .slice A0 n0 c0 ∧ y1 = .int .i64 ((k : Nat) : Int) ∧ y2 = .bool b := by
  rcases st with _ | L
  · have h' : Value.agg #[y0, y1, y2] = .agg #[.slice none 0 0, .int .i64 0, .bool true] := h
    simp only [Value.agg.injEq, Array.mk.injEq, List.cons.injEq, and_true] at h'
    exact ⟨none, 0, 0, 0, true, h'.1, h'.2.1, h'.2.2⟩
  · obtain ⟨k, h', _⟩ := h
    simp only [Value.agg.injEq, Array.mk.injEq, List.cons.injEq, and_true] at h'
    exact ⟨_, _, _, k, false, h'.1, h'.2.1, h'.2.2⟩
set_option maxHeartbeats 1000000 in
theorem refTakeText_any (A : Option Addr) (M : List UInt8) (c B : Nat) (v : Value) (st : St) (w : World) (h : RefV A M c v st) (hr : RB w B A M) (hB : B ≤ w.heap.size) (hc : M.length ≤ c) (hl : M.length ≤ 1048576) :
    Calls Try.prog 23 #[v] w (GivesRefB A M c B (stepText st) w) := by
  obtain ⟨r, hr'⟩ : ∃ r, r = stepNum st := ⟨_, rfl⟩
  have HS : Hid (stepText st = if 262144 < r.2 then (none, []) else stepTake r.2 r.1) := by show _ = _; rw [hr']; rfl
  have HT := fun W (hrW : RB W B A M) (hBW : B ≤ W.heap.size) => refNum_any A M c B v st W h hrW hBW hc hl
  rw [← hr'] at HT
  have HT' := Lib.hid HT
  have hf := refv_form h
  clear HT hr'
  obtain ⟨x0, x1, x2, rfl⟩ := hf
  obtain ⟨X0, n0, m0, k0, b0, rfl, rfl, rfl⟩ := refv_parts h
  clear h
  obtain ⟨st', n⟩ := r
  rcases st' with _ | L'
  · have HS2 : Hid (stepText st = (none, [])) := by
      show _ = _
      rw [HS.out]
      by_cases h : 262144 < n
      · rw [if_pos h]
      · rw [if_neg h]; rfl
    go_enter Try.func23, Try.ntmps23
    go_wp2_with (first
      | (go_at_call 25; refine (HT'.out _ ((hr.alloc hB _).alloc (by simp; omega) _) (by simp; omega)).mono ?_; rintro e w1 ⟨y0, y1, y2, he, hv1, hb1⟩; simp only [RefV, Value.agg.injEq, Array.mk.injEq, List.cons.injEq, and_true] at hv1; obtain ⟨rfl, rfl, rfl⟩ := hv1; subst he; obtain ⟨hc1, hf1⟩ := bcell hb1; have hz1 : w.heap.size + 1 < w1.heap.size := (by have := hb1.size; simp at this; omega); have hz0 : w.heap.size < w1.heap.size := (by omega))
      | (go_at_call 44; refine (spoilt_any _ _ _ _).mono ?_; rintro e w2 ⟨rfl, hb2⟩; obtain ⟨hc2, hf2⟩ := bcell hb2; have hz2 : w1.heap.size < w2.heap.size := (by have := hb2.size; simp at this; omega); have hz3 : w.heap.size + 1 < w1.heap.size + 1 := (by omega)))
    refine bodyPost_ret (v := .tuple #[.agg #[.slice none 0 0, .int .i64 0, .bool true], .slice none 0 0]) (by simp [results, Try.results23, go_sem, hc1, hc2, hz1, hz2, hz3]) rfl ?_
    rw [HS2.out]
    exact ⟨_, _, _, none, 0, rfl, rfl, RB.none_ _ _, below3 (((two_then hb1).alloc (by omega) _).trans (hb2.mono (by simp; omega))) (by omega) _ _ _⟩
  · by_cases hn : 262144 < n
    · have hd : decide (262144 < (n : Int)) = true := by simp; omega
      have HS2 : Hid (stepText st = (none, [])) := by show _ = _; rw [HS.out, if_pos hn]
      go_enter Try.func23, Try.ntmps23
      go_wp2_with (first
        | (go_at_call 25; refine (HT'.out _ ((hr.alloc hB _).alloc (by simp; omega) _) (by simp; omega)).mono ?_; rintro e w1 ⟨y0, y1, y2, he, hv1, hb1⟩; simp only [RefV, Value.agg.injEq, Array.mk.injEq, List.cons.injEq, and_true] at hv1; obtain ⟨k, ⟨rfl, rfl, rfl⟩, hk, hL⟩ := hv1; have HLd := Lib.hid hL; clear hL; subst he; obtain ⟨hc1, hf1⟩ := bcell hb1; have hz1 : w.heap.size + 1 < w1.heap.size := (by have := hb1.size; simp at this; omega); have hz0 : w.heap.size < w1.heap.size := (by omega))
        | (go_at_call 44; refine (spoilt_any _ _ _ _).mono ?_; rintro e w2 ⟨rfl, hb2⟩; obtain ⟨hc2, hf2⟩ := bcell hb2; have hz2 : w1.heap.size < w2.heap.size := (by have := hb2.size; simp at this; omega); have hz3 : w.heap.size + 1 < w1.heap.size + 1 := (by omega)))
      refine bodyPost_ret (v := .tuple #[.agg #[.slice none 0 0, .int .i64 0, .bool true], .slice none 0 0]) (by simp [results, Try.results23, go_sem, hc1, hc2, hz1, hz2, hz3]) rfl ?_
      rw [HS2.out]
      exact ⟨_, _, _, none, 0, rfl, rfl, RB.none_ _ _, below3 (((two_then hb1).alloc (by omega) _).trans (hb2.mono (by simp; omega))) (by omega) _ _ _⟩
    · have hd : decide (262144 < (n : Int)) = false := by simp; omega
      obtain ⟨r2, hr2⟩ : ∃ r2, r2 = stepTake (n : Int) (some L') := ⟨_, rfl⟩
      have HS2 : Hid (stepText st = r2) := by show _ = _; rw [HS.out, if_neg hn, hr2]
      have HT2 := fun W v (hv : RefV A M c v (some L')) (hrW : RB W B A M) (hBW : B ≤ W.heap.size) => refTake_any A M c B v (n : Int) (some L') W hv hrW hBW hc hl
      rw [← hr2] at HT2
      have HT2' := Lib.hid HT2
      clear HT2 hr2
      obtain ⟨st2, l2⟩ := r2
      go_enter Try.func23, Try.ntmps23
      go_wp2_with (first
        | (go_at_call 25; refine (HT'.out _ ((hr.alloc hB _).alloc (by simp; omega) _) (by simp; omega)).mono ?_; rintro e w1 ⟨y0, y1, y2, he, hv1, hb1⟩; have hV := Lib.hid hv1; simp only [RefV, Value.agg.injEq, Array.mk.injEq, List.cons.injEq, and_true] at hv1; obtain ⟨k, ⟨rfl, rfl, rfl⟩, hk, hL⟩ := hv1; clear hL; subst he; obtain ⟨hc1, hf1⟩ := bcell hb1; have hz1 : w.heap.size + 1 < w1.heap.size := (by have := hb1.size; simp at this; omega); have hz0 : w.heap.size < w1.heap.size := (by omega); have hr1 := hr.below ((two_then hb1).mono hB))
        | (go_at_call 45; refine (HT2'.out _ _ hV.out (hr1.alloc (by omega) _) (by simp; omega)).mono ?_; rintro e w2 ⟨z0, z1, z2, A2, c2, he, hv2, hrb2, hb2⟩; obtain ⟨Z0, n2, m2, k2, b2, rfl, rfl, rfl⟩ := refv_parts hv2; subst he; obtain ⟨hc2, hf2⟩ := bcell hb2; have hz2 : w1.heap.size < w2.heap.size := (by have := hb2.size; simp at this; omega); have hz3 : w.heap.size + 1 < w1.heap.size + 1 := (by omega)))
      refine bodyPost_ret (v := .tuple #[.agg #[.slice Z0 n2 m2, .int .i64 (k2 : Int), .bool b2], .slice A2 l2.length c2]) (by simp [results, Try.results23, go_sem, hc1, hc2, hz1, hz2, hz3]) rfl ?_
      rw [HS2.out]
      refine ⟨_, _, _, A2, c2, rfl, hv2, ?_, below3 (((two_then hb1).alloc (by omega) _).trans (hb2.mono (by simp; omega))) (by omega) _ _ _⟩
      exact RB.below hrb2 (below3 (Below.refl _ _) (by omega) _ _ _)
end Go.Proofs.Ytnmcohdlogepdaa
end
section
set_option linter.unusedVariables false
namespace Go.Proofs.Ytnmcohdlogepdaa
open Go.RowKit
def GivesView : Option (List UInt8) → World → Ending → World → Prop
  | some M, w, e, w' => ∃ A c, e = .returned (.tuple #[.slice A M.length c, .int .i64 0]) ∧ RB w' w'.heap.size A M ∧ Below w.heap.size w w'
  | none, w, e, w' => e = .returned (.tuple #[.slice none 0 0, .int .i64 12]) ∧ Below w.heap.size w w'
set_option maxRecDepth 100000 in
set_option maxHeartbeats 1000000 in
theorem refOpen_short (N : Nat) (A : Option Addr) (c : Nat) (w : World) (hl : N < 4) :
    Calls Try.prog 22 #[.slice A N c] w (GivesView none w) := by
  have hd2 : decide ((N : Int) - 4 < 0) = true := by simp; omega
  go_enter Try.func22, Try.ntmps22
  go_wp2
  go_quiet (fail)
  go_wp2
  go_ret2
  exact ⟨rfl, ⟨rfl, rfl, rfl, Nat.le_refl _, fun _ _ => rfl⟩⟩
set_option maxRecDepth 100000 in
set_option maxHeartbeats 1000000 in
theorem refOpen_core (n : Nat) (A : Option Addr) (c : Nat) (L S : List UInt8) (w : World) (hc : n + 4 ≤ c) (hcap : c ≤ 9223372036854775807) (b : Bool) (hr : RB w w.heap.size A L) (HL : Hid (n + 4 = L.length)) (R : World → Ending → World → Prop)
    (HS : Hid (∀ W, Below w.heap.size w W → Calls Try.prog 5 #[.slice A n c] W (GivesOne S W)))
    (hb : (S == L) = b)
    (HR : Hid (b = true → ∀ w', Below w.heap.size w w' → R w (.returned (.tuple #[.slice A n c, .int .i64 0])) w')) (HR2 : Hid (b = false → ∀ w', Below w.heap.size w w' → R w (.returned (.tuple #[.slice none 0 0, .int .i64 12])) w')) :
    Calls Try.prog 22 #[.slice A (n + 4) c] w (R w) := by
  have hd2 : decide ((n : Int) < 0) = false := by simp
  have hnc : (n : Int) ≤ (c : Int) := by omega
  have e1 := aw_str (w := w.drew) hr.drew (n + 4) c HL.out
  rcases b with _ | _
  all_goals
    go_enter Try.func22, Try.ntmps22
    go_wp2
    go_region_held_law (fun w' => (convert 22 9 (.slice A (n + 4) c)).run Try.prog w' = .ok (.string ⟨L.toArray⟩) w') (assumption) (first | (go_at_call 5; (with_reducible refine (HS.out _ (Below.refl _ _).drew).mono ?_); rintro e w1 ⟨A1, c1, rfl, ho1, hb1⟩; have hb2 : Below w.heap.size w w1 := below_drew hb1; have e2 := aw_str (own_rb ho1) S.length c1 rfl; have e3 := aw_str ((hr.below hb2).more hb2.size) (n + 4) c HL.out))
    all_goals
      go_wp2
      first | exact HR.out (by trivial) _ hb2 | exact HR2.out (by trivial) _ hb2
theorem refOpen_any (L : List UInt8) (A : Option Addr) (c B : Nat) (w : World) (hr : RB w B A L) (hlc : L.length ≤ c) (hc : c ≤ 9223372036854775807) (hl : L.length ≤ 1048576) :
    Calls Try.prog 22 #[.slice A L.length c] w (GivesView (openL L) w) := by
  have hr := rb_lt hr
  by_cases h4 : L.length < 4
  · have e : openL L = none := by unfold openL; rw [if_neg (by omega)]
    rw [e]
    exact refOpen_short _ A c w h4
  · obtain ⟨n, hn⟩ : ∃ n, n = L.length - 4 := ⟨_, rfl⟩
    have hn4 : L.length = n + 4 := by omega
    have hp : (L.take n).length = n := by rw [List.length_take]; omega
    have hrp : RB w w.heap.size A (L.take n) := rb_take hr n (by omega)
    have hop : openL L = if sealL (L.take n) = L then some (L.take n) else none := by
      unfold openL
      rw [← hn]
      by_cases hy : sealL (L.take n) = L
      · rw [if_pos ⟨by omega, hy⟩, if_pos hy]
      · rw [if_neg (fun h => hy h.2), if_neg hy]
    rw [hn4]
    refine refOpen_core n A c L (sealL (L.take n)) w (by omega) hc (sealL (L.take n) == L) hr hn4.symm (GivesView (openL L)) (fun W hb => ?_) rfl (fun hb w' h => ?_) (fun hb w' h => ?_)
    · have := refSeal_any (L.take n) A c _ W (hrp.below hb) (by omega)
      rwa [hp] at this
    · rw [hop, if_pos (by simpa using hb)]
      exact ⟨A, c, by rw [hp], (hrp.below h).more h.size, h⟩
    · rw [hop, if_neg (by simpa using hb)]
      exact ⟨rfl, h⟩
end Go.Proofs.Ytnmcohdlogepdaa
end
