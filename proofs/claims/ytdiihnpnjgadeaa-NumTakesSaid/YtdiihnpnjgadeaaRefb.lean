/- The walks of the reference's cursor: Byte, TakeText. -/
import Derived.Test.YtdiihnpnjgadeaaRef
namespace Go.Proofs.Ytdiihnpnjgadeaa
open Go.RowKit

theorem refv_parts {A : Option Addr} {M : List UInt8} {c : Nat} {y0 y1 y2 : Value} {st : St} (h : RefV A M c (.agg #[y0, y1, y2]) st) :
    ∃ A0 n0 c0 k b, y0 = .slice A0 n0 c0 ∧ y1 = .int .i64 ((k : Nat) : Int) ∧ y2 = .bool b := by
  rcases st with _ | L
  · have h' : Value.agg #[y0, y1, y2] = .agg #[.slice none 0 0, .int .i64 0, .bool true] := h
    simp only [Value.agg.injEq, Array.mk.injEq, List.cons.injEq, and_true] at h'
    exact ⟨none, 0, 0, 0, true, h'.1, h'.2.1, h'.2.2⟩
  · obtain ⟨k, h', _⟩ := h
    simp only [Value.agg.injEq, Array.mk.injEq, List.cons.injEq, and_true] at h'
    exact ⟨_, _, _, k, false, h'.1, h'.2.1, h'.2.2⟩

set_option maxHeartbeats 1000000 in
theorem refByte_any (A : Option Addr) (M : List UInt8) (c B : Nat) (v : Value) (st : St) (w : World) (h : RefV A M c v st) (hr : RB w B A M) (hB : B ≤ w.heap.size) (hc : M.length ≤ c) (hl : M.length ≤ 1048576) :
    Calls Try.prog 25 #[v] w (GivesRefN A M c (stepByte st) w) := by
  obtain ⟨r, hr'⟩ : ∃ r, r = stepTake 1 st := ⟨_, rfl⟩
  have HS : Hid (stepByte st = (r.1, headN r.2)) := by show _ = _; rw [hr']; rfl
  have HT := fun W (hrW : RB W B A M) (hBW : B ≤ W.heap.size) => refTake_any A M c B v 1 st W h hrW hBW hc hl
  rw [← hr'] at HT
  have HT' := Lib.hid HT
  have hf := refv_form h
  clear HT hr'
  obtain ⟨x0, x1, x2, rfl⟩ := hf
  obtain ⟨X0, n0, m0, k0, b0, rfl, rfl, rfl⟩ := refv_parts h
  clear h
  obtain ⟨st', l⟩ := r
  rcases l with _ | ⟨b, l⟩
  · go_enter Try.func25, Try.ntmps25
    go_wp2_with (go_at_call 28; refine (HT'.out _ ((hr.alloc hB _).alloc (by simp; omega) _) (by simp; omega)).mono ?_; rintro e w1 ⟨y0, y1, y2, A1, c1, he, hv1, hrb1, hb1⟩; obtain ⟨Y0, n1, m1, k1, b1, rfl, rfl, rfl⟩ := refv_parts hv1; subst he; obtain ⟨hc1, hf1⟩ := bcell hb1; have hz1 : w.heap.size + 1 < w1.heap.size := by have := hb1.size; simp at this; omega)
    refine bodyPost_ret (v := .tuple #[.agg #[.slice Y0 n1 m1, .int .i64 (k1 : Int), .bool b1], .int .i64 0]) (by simp [results, Try.results25, go_sem, hc1, hz1]) rfl ?_
    rw [HS.out]
    exact ⟨_, _, _, rfl, hv1, (below3 (two_then hb1) (by omega) _ _ _).alloc (by simp [World.setCell]; omega) _⟩
  · have hb256 := byte_lt b
    have hne : ((((b :: l).length : Nat) : Int) == 0) = false := by simp; omega
    go_enter Try.func25, Try.ntmps25
    go_wp2_with (go_at_call 28; refine (HT'.out _ ((hr.alloc hB _).alloc (by simp; omega) _) (by simp; omega)).mono ?_; rintro e w1 ⟨y0, y1, y2, A1, c1, he, hv1, hrb1, hb1⟩; obtain ⟨Y0, n1, m1, k1, b1, rfl, rfl, rfl⟩ := refv_parts hv1; subst he; obtain ⟨hc1, hf1⟩ := bcell hb1; have hz1 : w.heap.size + 1 < w1.heap.size := (by have := hb1.size; simp at this; omega); have hz0 : w.heap.size < w1.heap.size := (by omega); obtain ⟨bb, off, rfl, hbb, hcc⟩ := hrb1.at_ (by simp); have hc0 := hcc 0 (by simp); rw [Nat.add_zero] at hc0; simp only [List.getElem_cons_zero] at hc0; clear hcc; have hbb1 : bb < w1.heap.size := by omega)
    go_region
    go_wp2
    refine bodyPost_ret (v := .tuple #[.agg #[.slice Y0 n1 m1, .int .i64 (k1 : Int), .bool b1], .int .i64 (b.toNat : Int)]) (by simp [results, Try.results25, go_sem, hc1, hz1]) rfl ?_
    rw [HS.out]
    exact ⟨_, _, _, rfl, hv1, ((below3 (two_then hb1) (by omega) _ _ _).alloc (by simp [World.setCell]; omega) _).drew⟩

set_option maxHeartbeats 1000000 in
theorem refTakeText_any (A : Option Addr) (M : List UInt8) (c B : Nat) (v : Value) (st : St) (w : World) (h : RefV A M c v st) (hr : RB w B A M) (hB : B ≤ w.heap.size) (hc : M.length ≤ c) (hl : M.length ≤ 1048576) :
    Calls Try.prog 27 #[v] w (GivesRefB A M c B (stepText st) w) := by
  obtain ⟨r, hr'⟩ : ∃ r, r = stepNum st := ⟨_, rfl⟩
  have HS : Hid (stepText st = if 262144 < r.2 then (none, []) else stepTake r.2 r.1) := by show _ = _; rw [hr']; rfl
  have HT := fun W (hrW : RB W B A M) (hBW : B ≤ W.heap.size) => refNum_any A M c B v st W h hrW hBW hc hl
  rw [← hr'] at HT
  have HT' := Lib.hid HT
  have hf := refv_form h
  clear HT hr'
  obtain ⟨x0, x1, x2, rfl⟩ := hf
  obtain ⟨X0, n0, m0, k0, b0, rfl, rfl, rfl⟩ := refv_parts h
  clear h
  obtain ⟨st', n⟩ := r
  rcases st' with _ | L'
  · have HS2 : Hid (stepText st = (none, [])) := by
      show _ = _
      rw [HS.out]
      by_cases h : 262144 < n
      · rw [if_pos h]
      · rw [if_neg h]; rfl
    go_enter Try.func27, Try.ntmps27
    go_wp2_with (first
      | (go_at_call 23; refine (HT'.out _ ((hr.alloc hB _).alloc (by simp; omega) _) (by simp; omega)).mono ?_; rintro e w1 ⟨y0, y1, y2, he, hv1, hb1⟩; simp only [RefV, Value.agg.injEq, Array.mk.injEq, List.cons.injEq, and_true] at hv1; obtain ⟨rfl, rfl, rfl⟩ := hv1; subst he; obtain ⟨hc1, hf1⟩ := bcell hb1; have hz1 : w.heap.size + 1 < w1.heap.size := (by have := hb1.size; simp at this; omega); have hz0 : w.heap.size < w1.heap.size := (by omega))
      | (go_at_call 34; refine (spoilt_any _ _ _ _).mono ?_; rintro e w2 ⟨rfl, hb2⟩; obtain ⟨hc2, hf2⟩ := bcell hb2; have hz2 : w1.heap.size < w2.heap.size := (by have := hb2.size; simp at this; omega); have hz3 : w.heap.size + 1 < w1.heap.size + 1 := (by omega)))
    refine bodyPost_ret (v := .tuple #[.agg #[.slice none 0 0, .int .i64 0, .bool true], .slice none 0 0]) (by simp [results, Try.results27, go_sem, hc1, hc2, hz1, hz2, hz3]) rfl ?_
    rw [HS2.out]
    exact ⟨_, _, _, none, 0, rfl, rfl, RB.none_ _ _, below3 (((two_then hb1).alloc (by omega) _).trans (hb2.mono (by simp; omega))) (by omega) _ _ _⟩
  · by_cases hn : 262144 < n
    · have hd : decide (262144 < (n : Int)) = true := by simp; omega
      have HS2 : Hid (stepText st = (none, [])) := by show _ = _; rw [HS.out, if_pos hn]
      go_enter Try.func27, Try.ntmps27
      go_wp2_with (first
        | (go_at_call 23; refine (HT'.out _ ((hr.alloc hB _).alloc (by simp; omega) _) (by simp; omega)).mono ?_; rintro e w1 ⟨y0, y1, y2, he, hv1, hb1⟩; simp only [RefV, Value.agg.injEq, Array.mk.injEq, List.cons.injEq, and_true] at hv1; obtain ⟨k, ⟨rfl, rfl, rfl⟩, hk, hL⟩ := hv1; have HLd := Lib.hid hL; clear hL; subst he; obtain ⟨hc1, hf1⟩ := bcell hb1; have hz1 : w.heap.size + 1 < w1.heap.size := (by have := hb1.size; simp at this; omega); have hz0 : w.heap.size < w1.heap.size := (by omega))
        | (go_at_call 34; refine (spoilt_any _ _ _ _).mono ?_; rintro e w2 ⟨rfl, hb2⟩; obtain ⟨hc2, hf2⟩ := bcell hb2; have hz2 : w1.heap.size < w2.heap.size := (by have := hb2.size; simp at this; omega); have hz3 : w.heap.size + 1 < w1.heap.size + 1 := (by omega)))
      refine bodyPost_ret (v := .tuple #[.agg #[.slice none 0 0, .int .i64 0, .bool true], .slice none 0 0]) (by simp [results, Try.results27, go_sem, hc1, hc2, hz1, hz2, hz3]) rfl ?_
      rw [HS2.out]
      exact ⟨_, _, _, none, 0, rfl, rfl, RB.none_ _ _, below3 (((two_then hb1).alloc (by omega) _).trans (hb2.mono (by simp; omega))) (by omega) _ _ _⟩
    · have hd : decide (262144 < (n : Int)) = false := by simp; omega
      obtain ⟨r2, hr2⟩ : ∃ r2, r2 = stepTake (n : Int) (some L') := ⟨_, rfl⟩
      have HS2 : Hid (stepText st = r2) := by show _ = _; rw [HS.out, if_neg hn, hr2]
      have HT2 := fun W v (hv : RefV A M c v (some L')) (hrW : RB W B A M) (hBW : B ≤ W.heap.size) => refTake_any A M c B v (n : Int) (some L') W hv hrW hBW hc hl
      rw [← hr2] at HT2
      have HT2' := Lib.hid HT2
      clear HT2 hr2
      obtain ⟨st2, l2⟩ := r2
      go_enter Try.func27, Try.ntmps27
      go_wp2_with (first
        | (go_at_call 23; refine (HT'.out _ ((hr.alloc hB _).alloc (by simp; omega) _) (by simp; omega)).mono ?_; rintro e w1 ⟨y0, y1, y2, he, hv1, hb1⟩; have hV := Lib.hid hv1; simp only [RefV, Value.agg.injEq, Array.mk.injEq, List.cons.injEq, and_true] at hv1; obtain ⟨k, ⟨rfl, rfl, rfl⟩, hk, hL⟩ := hv1; clear hL; subst he; obtain ⟨hc1, hf1⟩ := bcell hb1; have hz1 : w.heap.size + 1 < w1.heap.size := (by have := hb1.size; simp at this; omega); have hz0 : w.heap.size < w1.heap.size := (by omega); have hr1 := hr.below ((two_then hb1).mono hB))
        | (go_at_call 28; refine (HT2'.out _ _ hV.out (hr1.alloc (by omega) _) (by simp; omega)).mono ?_; rintro e w2 ⟨z0, z1, z2, A2, c2, he, hv2, hrb2, hb2⟩; obtain ⟨Z0, n2, m2, k2, b2, rfl, rfl, rfl⟩ := refv_parts hv2; subst he; obtain ⟨hc2, hf2⟩ := bcell hb2; have hz2 : w1.heap.size < w2.heap.size := (by have := hb2.size; simp at this; omega); have hz3 : w.heap.size + 1 < w1.heap.size + 1 := (by omega)))
      refine bodyPost_ret (v := .tuple #[.agg #[.slice Z0 n2 m2, .int .i64 (k2 : Int), .bool b2], .slice A2 l2.length c2]) (by simp [results, Try.results27, go_sem, hc1, hc2, hz1, hz2, hz3]) rfl ?_
      rw [HS2.out]
      refine ⟨_, _, _, A2, c2, rfl, hv2, ?_, below3 (((two_then hb1).alloc (by omega) _).trans (hb2.mono (by simp; omega))) (by omega) _ _ _⟩
      exact RB.below hrb2 (below3 (Below.refl _ _) (by omega) _ _ _)

end Go.Proofs.Ytdiihnpnjgadeaa
