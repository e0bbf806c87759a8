/- Lemmas under the proofs of this place: OpRDig, NumAt, RefT. No statement is proved here. -/
import Derived.Test.YtpcopmpmcjkamaaDoorBu15
import Derived.Test.YtpcopmpmcjkamaaDoorBu14
import Derived.Test.YtpcopmpmcjkamaaDoorBu12
import Derived.Test.YtpcopmpmcjkamaaDoorBu06
import Derived.Test.YtpcopmpmcjkamaaDoorBu16
set_option linter.unusedSimpArgs false
set_option linter.unusedVariables false
set_option maxRecDepth 100000
set_option maxHeartbeats 16000000
namespace Go.Proofs.YtpcopmpmcjkamaaDoor
section
open Go.RowKit
def tenD : List UInt8 := [48, 49, 50, 51, 52, 53, 54, 55, 56, 57]
theorem tenD_text : text tenD = { data := #[48, 49, 50, 51, 52, 53, 54, 55, 56, 57] } := rfl
theorem ten_at : ∀ r : Fin 10, (text tenD).extract r.1 (r.1 + 1) = text [UInt8.ofNat (48 + r.1)] := by decide +kernel
theorem ten_slice (r : Nat) (hr : r < 10) (j : Int) (hj : j = (r : Int) + 1) (V : World) : (Instr.sliceAt 9 (.string { data := #[48, 49, 50, 51, 52, 53, 54, 55, 56, 57] }) (some (.int .i64 (r : Int))) (some (.int .i64 j)) none).run Tryd.prog V = .ok (.string (text [UInt8.ofNat (48 + r)])) V := by
  subst hj
  rw [← tenD_text, run_sliceAt_string _ _ _ _ _ _ Tryd.underlying9]
  have hs : (text tenD).size = 10 := rfl
  rw [run_slice_string _ _ _ _ _ _ _ Tryd.underlying9 (by omega) (by omega) (by omega)]
  have := ten_at ⟨r, hr⟩
  simp only at this
  rw [show ((r : Int) + 1).toNat = r + 1 by omega, show ((r : Int)).toNat = r by omega]
  first | rw [this] | (simp only [this])
def digsL (m : Nat) (s : List UInt8) : List UInt8 := if m = 0 ∧ s ≠ [] then s else decL m ++ s
theorem digs_next (m : Nat) (s : List UInt8) (h : 0 < m ∨ s = []) : digsL (m / 10) (UInt8.ofNat (48 + m % 10) :: s) = digsL m s := by
  unfold digsL
  rw [if_neg (show ¬ (m = 0 ∧ s ≠ []) by rintro ⟨h1, h2⟩; rcases h with h | h; omega; exact h2 h)]
  by_cases hm : m < 10
  · rw [if_pos ⟨by omega, by simp⟩]
    have e : decL m = [UInt8.ofNat (48 + m)] := by rw [decL, dif_pos hm]
    rw [e, Nat.mod_eq_of_lt hm]
    rfl
  · rw [if_neg (by omega)]
    have e : decL m = decL (m / 10) ++ [UInt8.ofNat (48 + m % 10)] := by rw [decL, dif_neg hm]
    rw [e]
    simp
theorem dec_len (n : Nat) : (decL n).length ≤ n + 1 := by
  induction n using Nat.strongRecOn with
  | ind n ih =>
    rw [decL]
    split
    · simp
    · have := ih (n / 10) (by omega)
      rw [List.length_append]
      simp
      omega
theorem digs_len {m n : Nat} {l : List UInt8} (h : digsL m l = decL n) : l.length ≤ n + 1 := by
  have h1 := dec_len n
  have h2 := congrArg List.length h
  unfold digsL at h2
  split at h2
  · omega
  · rw [List.length_append] at h2
    omega
def emptyS : Value → Nat
  | .string t => if t.size = 0 then 1 else 0
  | _ => 0
theorem empty_no (b : UInt8) (l : List UInt8) : emptyS (.string (text (b :: l))) = 0 := by
  show (if (text (b :: l)).size = 0 then 1 else 0) = 0
  rw [text_size, if_neg (by simp)]
theorem text_cat (a b : List UInt8) : text a ++ text b = text (a ++ b) := by
  apply ByteArray.ext
  simp [text]
theorem refDigits_nat (n : Nat) (w : World) (h : n ≤ 2147483647) :
    Calls Tryd.prog 35 #[.int .i64 (n : Int)] w fun e w' => e = .returned (.string (text (decL n))) ∧ Below w.heap.size w w' := by
  have d0 : decide ((n : Int) < 0) = false := decide_eq_false (by omega)
  have HT : Hid (∀ (r : Nat), r < 10 → ∀ (j : Int), j = (r : Int) + 1 → ∀ V, (Instr.sliceAt 9 (.string { data := #[48, 49, 50, 51, 52, 53, 54, 55, 56, 57] }) (some (.int .i64 (r : Int))) (some (.int .i64 j)) none).run Tryd.prog V = .ok (.string (text [UInt8.ofNat (48 + r)])) V) := fun r hr j hj V => ten_slice r hr j hj V
  go_enter Tryd.func35, Tryd.ntmps35
  go_wp2
  go_loopw [0, 3] (fun a s wr => ∃ (m : Nat) (l : List UInt8) (t : ByteArray), m ≤ n ∧ a = .int .i64 (m : Int) ∧ s = .string t ∧ Hid (t = text l ∧ digsL m l = decL n) ∧ Hid (Below w.heap.size w wr)) (fun a s _ => 2 * (intOf a).toNat + emptyS s)
  case atStart => exact ⟨n, [], text [], Nat.le_refl _, rfl, rfl, ⟨rfl, by simp [digsL]⟩, Below.refl _ _⟩
  case round =>
    obtain ⟨m, l, t, hm, rfl, rfl, HL, HB⟩ := hrel
    obtain ⟨k, hk⟩ : ∃ k, k = l.length := ⟨_, rfl⟩
    have hts : t.size = k := by rw [HL.out.1, hk]; exact text_size l
    have htl : t.toList = l := by rw [HL.out.1]; exact text_toList l
    obtain ⟨q, hq⟩ : ∃ q, q = m / 10 := ⟨_, rfl⟩
    obtain ⟨r, hr⟩ : ∃ r, r = m % 10 := ⟨_, rfl⟩
    have e1 : (m : Int) / 10 = (q : Int) := by omega
    have e2 : (m : Int) % 10 = (r : Int) := by omega
    have e3 : (m : Int).tdiv 10 = (q : Int) := by rw [Int.tdiv_eq_ediv_of_nonneg (by omega)]; exact e1
    have e4 : (m : Int).tmod 10 = (r : Int) := by rw [Int.tmod_eq_emod_of_nonneg (by omega)]; exact e2
    have wq : IntKind.i64.wrap (q : Int) = (q : Int) := IntWalk.i64_in _ (by omega)
    have wr' : IntKind.i64.wrap (r : Int) = (r : Int) := IntWalk.i64_in _ (by omega)
    have wr1 : IntKind.i64.wrap ((r : Int) + 1) = (r : Int) + 1 := IntWalk.i64_in _ (by omega)
    have hcut := fun V => HT.out r (by omega) ((r : Int) + 1) rfl V
    have hk9 : k ≤ 2147483648 := by have := digs_len HL.out.2; omega
    obtain ⟨b, hb⟩ : ∃ b, b = UInt8.ofNat (48 + r) := ⟨_, rfl⟩
    have hs1 : (text [b]).size = 1 := rfl
    rw [← hb] at hcut
    have HQ : Hid (q = m / 10 ∧ r = m % 10 ∧ b = UInt8.ofNat (48 + r)) := ⟨hq, hr, hb⟩
    have HE : Hid (0 < m ∨ l = [] → text [b] ++ t = text (b :: l) ∧ digsL q (b :: l) = decL n) := fun h0 => by
      refine ⟨by rw [HL.out.1, text_cat]; rfl, ?_⟩
      rw [hq, hb, hr, digs_next m l h0]
      exact HL.out.2
    clear hq hr hk hb e1 e2
    by_cases c1 : 0 < m
    · have d1 : decide ((m : Int) > 0) = true := decide_eq_true (by omega)
      have d2 : decide ((0 : Int) < (m : Int)) = true := decide_eq_true (by omega)
      go_wp2
      obtain ⟨g1, g2⟩ := HE.out (.inl c1)
      refine ⟨⟨q, b :: l, _, by have := HQ.out; omega, rfl, rfl, ⟨g1, g2⟩, HB.out⟩, ?_⟩
      rw [g1, empty_no]
      have := HQ.out
      simp [intOf]
      omega
    · have d1 : decide ((m : Int) > 0) = false := decide_eq_false (by omega)
      have d2 : decide ((0 : Int) < (m : Int)) = false := decide_eq_false (by omega)
      by_cases c2 : l = []
      · obtain ⟨g1, g2⟩ := HE.out (.inr c2)
        have g3 : emptyS (.string t) = 1 := by rw [HL.out.1, c2]; rfl
        have H1 := Lib.hid g1
        have H2 := Lib.hid g2
        have H3 := Lib.hid g3
        clear g1 g2 g3 HE
        have htl2 : t.toList = [] := by rw [htl, c2]
        go_wp2
        refine ⟨⟨q, b :: l, _, by have := HQ.out; omega, rfl, rfl, ⟨H1.out, H2.out⟩, HB.out⟩, ?_⟩
        rw [H1.out, empty_no, H3.out]
        have := HQ.out
        simp [intOf]
        omega
      · have c3 : l.isEmpty = false := by simpa using c2
        have H9 : Hid (decL n = l) := by
          have := HL.out.2
          unfold digsL at this
          rw [if_pos ⟨by omega, c2⟩] at this
          exact this.symm
        go_wp2
        go_ret
        have hm0 : m = 0 := by omega
        have h9 : l = decL n := by
          have := HL.out.2
          unfold digsL at this
          rwa [if_pos ⟨hm0, c2⟩] at this
        exact ⟨by rw [HL.out.1, h9]; rfl, HB.out⟩
theorem refDigits_any (z : Int) (w : World) (h : -2147483647 ≤ z ∧ z ≤ 2147483647) :
    Calls Tryd.prog 35 #[.int .i64 z] w fun e w' => e = .returned (.string (text (decZ z))) ∧ Below w.heap.size w w' := by
  by_cases hz : 0 ≤ z
  · obtain ⟨n, rfl⟩ : ∃ n : Nat, z = (n : Int) := ⟨z.toNat, by omega⟩
    have e : decZ (n : Int) = decL n := by unfold decZ; rw [if_neg (by omega)]; rfl
    rw [e]
    exact refDigits_nat n w (by omega)
  · obtain ⟨n, hn⟩ : ∃ n : Nat, n = z.natAbs := ⟨_, rfl⟩
    have e : decZ z = 45 :: decL n := by unfold decZ; rw [if_pos (by omega), hn]
    rw [e]
    have d0 : decide (z < 0) = true := decide_eq_true (by omega)
    have y0 : IntKind.i64.wrap (-z) = (n : Int) := by rw [IntWalk.i64_in _ (by omega)]; omega
    have HR : Hid (∀ W, Calls Tryd.prog 35 #[.int .i64 (n : Int)] W fun e w' => e = .returned (.string (text (decL n))) ∧ Below W.heap.size W w') := fun W => refDigits_nat n W (by omega)
    obtain ⟨t, ht⟩ : ∃ t, t = text (decL n) := ⟨_, rfl⟩
    obtain ⟨k, hk⟩ : ∃ k, k = (decL n).length := ⟨_, rfl⟩
    have hts : t.size = k := by rw [ht, hk]; exact text_size _
    have hk9 : k ≤ 2147483648 := by have := dec_len n; omega
    have HT := Lib.hid ht
    rw [← ht] at HR
    clear ht hk hn e
    go_enter Tryd.func35, Tryd.ntmps35
    go_wp2_with (first
      | (go_at_call 35; (with_reducible refine (HR.out _).mono ?_); rintro e w1 ⟨rfl, b1⟩))
    go_ret
    refine ⟨?_, b1⟩
    have e9 : ({ data := #[45] } : ByteArray) ++ t = text (45 :: decL n) := by
      rw [HT.out]
      exact text_cat [45] (decL n)
    first | exact congrArg (fun x => Ending.returned (Value.string x)) e9 | (simp only [e9]; rfl)
end
section
open Go.RowKit
theorem num_at (B g : Nat) (st : St) (w : World) (h0 : CurB B w g st) (hB : B ≤ w.heap.size) :
    Calls Tryd.prog 60 #[.pointer (some ⟨g, 0, none⟩)] w fun e w' => e = .returned (.int .i64 ((stepNum st).2 : Int)) ∧ CurB B w' g (stepNum st).1 ∧ Only w w' g := by
  have h := h0.cur hB
  have hb := bad_any g _ w h
  have hfl := fail_any g _ w h
  rcases st with _ | L
  · have h' := Lib.hid h0
    clear h h0
    go_enter Tryd.func60, Tryd.ntmps60
    go_wp2_with (go_at_call 65; refine hb.mono ?_; rintro e w' ⟨rfl, rfl⟩)
    go_ret
    exact ⟨rfl, h'.out, only_refl _ _⟩
  · obtain ⟨A, c, hg, hr, hc, hl⟩ := h0
    have hgt := get_any L A c _ w (hr.more hB) hl
    have hc0 : w.cell? ⟨g, 0, none⟩ = some (.slice A L.length c) := (blk_cell hg 0).1
    have hf0 : w.frozen? ⟨g, 0, none⟩ = false := (blk_cell hg 0).2
    have HG := Lib.hid hg
    clear hg h
    rcases hs : getL L with _ | ⟨n, k⟩
    · rw [hs] at hgt
      have HS : Hid (stepNum (some L) = (none, 0)) := by show _ = _; simp [stepNum, hs]
      clear hs
      go_enter Tryd.func60, Tryd.ntmps60
      go_wp2_with (first
        | (go_at_call 65; refine hb.mono ?_; rintro e w' ⟨rfl, rfl⟩)
        | (go_at_call 66; refine hgt.mono ?_; rintro e w' ⟨rfl, rfl⟩)
        | (go_at_call 61; refine hfl.mono ?_; rintro e w' ⟨rfl, hcur, honly, hsz⟩))
      go_ret
      rw [HS.out]
      exact ⟨rfl, hcur, honly⟩
    · rw [hs] at hgt
      have hkl := (getL_some L n k hs).2.2.1
      have HS : Hid (stepNum (some L) = (some (L.drop k), n)) := by show _ = _; simp [stepNum, hs]
      clear hs
      go_enter Tryd.func60, Tryd.ntmps60
      go_wp2_with (first
        | (go_at_call 65; refine hb.mono ?_; rintro e w' ⟨rfl, rfl⟩)
        | (go_at_call 66; refine hgt.mono ?_; rintro e w' ⟨rfl, rfl⟩))
      all_goals
        go_ret
        rw [HS.out]
        exact ⟨rfl, cur_cutB HG hr hc hl hkl _ _ (fun hx => by first | rfl | (exact absurd hx (by assumption))) (fun hx => by first | rfl | (exact absurd (by assumption) hx)) (by omega), only_set _ _ _ _⟩
end
section
open Go.RowKit
theorem refv_parts {A : Option Addr} {M : List UInt8} {c : Nat} {y0 y1 y2 : Value} {st : St} (h : RefV A M c (.agg #[y0, y1, y2]) st) :
    ∃ A0 n0 c0 k b, y0 = .slice A0 n0 c0 ∧ y1 = .int .i64 ((k : Nat) : Int) ∧ y2 = .bool b := by
  rcases st with _ | L
  · have h' : Value.agg #[y0, y1, y2] = .agg #[.slice none 0 0, .int .i64 0, .bool true] := h
    simp only [Value.agg.injEq, Array.mk.injEq, List.cons.injEq, and_true] at h'
    exact ⟨none, 0, 0, 0, true, h'.1, h'.2.1, h'.2.2⟩
  · obtain ⟨k, h', _⟩ := h
    simp only [Value.agg.injEq, Array.mk.injEq, List.cons.injEq, and_true] at h'
    exact ⟨_, _, _, k, false, h'.1, h'.2.1, h'.2.2⟩
theorem refTakeText_any (A : Option Addr) (M : List UInt8) (c B : Nat) (v : Value) (st : St) (w : World) (h : RefV A M c v st) (hr : RB w B A M) (hB : B ≤ w.heap.size) (hc : M.length ≤ c) (hl : M.length ≤ 1048576) :
    Calls Tryd.prog 38 #[v] w (GivesRefB A M c B (stepText st) w) := by
  obtain ⟨r, hr'⟩ : ∃ r, r = stepNum st := ⟨_, rfl⟩
  have HS : Hid (stepText st = if 262144 < r.2 then (none, []) else stepTake r.2 r.1) := by show _ = _; rw [hr']; rfl
  have HT := fun W (hrW : RB W B A M) (hBW : B ≤ W.heap.size) => refNum_any A M c B v st W h hrW hBW hc hl
  rw [← hr'] at HT
  have HT' := Lib.hid HT
  have hf := refv_form h
  clear HT hr'
  obtain ⟨x0, x1, x2, rfl⟩ := hf
  obtain ⟨X0, n0, m0, k0, b0, rfl, rfl, rfl⟩ := refv_parts h
  clear h
  obtain ⟨st', n⟩ := r
  rcases st' with _ | L'
  · have HS2 : Hid (stepText st = (none, [])) := by
      show _ = _
      rw [HS.out]
      by_cases h : 262144 < n
      · rw [if_pos h]
      · rw [if_neg h]; rfl
    go_enter Tryd.func38, Tryd.ntmps38
    go_wp2_with (first
      | (go_at_call 55; refine (HT'.out _ ((hr.alloc hB _).alloc (by simp; omega) _) (by simp; omega)).mono ?_; rintro e w1 ⟨y0, y1, y2, he, hv1, hb1⟩; simp only [RefV, Value.agg.injEq, Array.mk.injEq, List.cons.injEq, and_true] at hv1; obtain ⟨rfl, rfl, rfl⟩ := hv1; subst he; obtain ⟨hc1, hf1⟩ := bcell hb1; have hz1 : w.heap.size + 1 < w1.heap.size := (by have := hb1.size; simp at this; omega); have hz0 : w.heap.size < w1.heap.size := (by omega))
      | (go_at_call 56; refine (spoilt_any _ _ _ _).mono ?_; rintro e w2 ⟨rfl, hb2⟩; obtain ⟨hc2, hf2⟩ := bcell hb2; have hz2 : w1.heap.size < w2.heap.size := (by have := hb2.size; simp at this; omega); have hz3 : w.heap.size + 1 < w1.heap.size + 1 := (by omega)))
    refine bodyPost_ret (v := .tuple #[.agg #[.slice none 0 0, .int .i64 0, .bool true], .slice none 0 0]) (by simp [results, Tryd.results38, go_sem, hc1, hc2, hz1, hz2, hz3]) rfl ?_
    rw [HS2.out]
    exact ⟨_, _, _, none, 0, rfl, rfl, RB.none_ _ _, below3 (((two_then hb1).alloc (by omega) _).trans (hb2.mono (by simp; omega))) (by omega) _ _ _⟩
  · by_cases hn : 262144 < n
    · have hd : decide (262144 < (n : Int)) = true := by simp; omega
      have HS2 : Hid (stepText st = (none, [])) := by show _ = _; rw [HS.out, if_pos hn]
      go_enter Tryd.func38, Tryd.ntmps38
      go_wp2_with (first
        | (go_at_call 55; refine (HT'.out _ ((hr.alloc hB _).alloc (by simp; omega) _) (by simp; omega)).mono ?_; rintro e w1 ⟨y0, y1, y2, he, hv1, hb1⟩; simp only [RefV, Value.agg.injEq, Array.mk.injEq, List.cons.injEq, and_true] at hv1; obtain ⟨k, ⟨rfl, rfl, rfl⟩, hk, hL⟩ := hv1; have HLd := Lib.hid hL; clear hL; subst he; obtain ⟨hc1, hf1⟩ := bcell hb1; have hz1 : w.heap.size + 1 < w1.heap.size := (by have := hb1.size; simp at this; omega); have hz0 : w.heap.size < w1.heap.size := (by omega))
        | (go_at_call 56; refine (spoilt_any _ _ _ _).mono ?_; rintro e w2 ⟨rfl, hb2⟩; obtain ⟨hc2, hf2⟩ := bcell hb2; have hz2 : w1.heap.size < w2.heap.size := (by have := hb2.size; simp at this; omega); have hz3 : w.heap.size + 1 < w1.heap.size + 1 := (by omega)))
      refine bodyPost_ret (v := .tuple #[.agg #[.slice none 0 0, .int .i64 0, .bool true], .slice none 0 0]) (by simp [results, Tryd.results38, go_sem, hc1, hc2, hz1, hz2, hz3]) rfl ?_
      rw [HS2.out]
      exact ⟨_, _, _, none, 0, rfl, rfl, RB.none_ _ _, below3 (((two_then hb1).alloc (by omega) _).trans (hb2.mono (by simp; omega))) (by omega) _ _ _⟩
    · have hd : decide (262144 < (n : Int)) = false := by simp; omega
      obtain ⟨r2, hr2⟩ : ∃ r2, r2 = stepTake (n : Int) (some L') := ⟨_, rfl⟩
      have HS2 : Hid (stepText st = r2) := by show _ = _; rw [HS.out, if_neg hn, hr2]
      have HT2 := fun W v (hv : RefV A M c v (some L')) (hrW : RB W B A M) (hBW : B ≤ W.heap.size) => refTake_any A M c B v (n : Int) (some L') W hv hrW hBW hc hl
      rw [← hr2] at HT2
      have HT2' := Lib.hid HT2
      clear HT2 hr2
      obtain ⟨st2, l2⟩ := r2
      go_enter Tryd.func38, Tryd.ntmps38
      go_wp2_with (first
        | (go_at_call 55; refine (HT'.out _ ((hr.alloc hB _).alloc (by simp; omega) _) (by simp; omega)).mono ?_; rintro e w1 ⟨y0, y1, y2, he, hv1, hb1⟩; have hV := Lib.hid hv1; simp only [RefV, Value.agg.injEq, Array.mk.injEq, List.cons.injEq, and_true] at hv1; obtain ⟨k, ⟨rfl, rfl, rfl⟩, hk, hL⟩ := hv1; clear hL; subst he; obtain ⟨hc1, hf1⟩ := bcell hb1; have hz1 : w.heap.size + 1 < w1.heap.size := (by have := hb1.size; simp at this; omega); have hz0 : w.heap.size < w1.heap.size := (by omega); have hr1 := hr.below ((two_then hb1).mono hB))
        | (go_at_call 39; refine (HT2'.out _ _ hV.out (hr1.alloc (by omega) _) (by simp; omega)).mono ?_; rintro e w2 ⟨z0, z1, z2, A2, c2, he, hv2, hrb2, hb2⟩; obtain ⟨Z0, n2, m2, k2, b2, rfl, rfl, rfl⟩ := refv_parts hv2; subst he; obtain ⟨hc2, hf2⟩ := bcell hb2; have hz2 : w1.heap.size < w2.heap.size := (by have := hb2.size; simp at this; omega); have hz3 : w.heap.size + 1 < w1.heap.size + 1 := (by omega)))
      refine bodyPost_ret (v := .tuple #[.agg #[.slice Z0 n2 m2, .int .i64 (k2 : Int), .bool b2], .slice A2 l2.length c2]) (by simp [results, Tryd.results38, go_sem, hc1, hc2, hz1, hz2, hz3]) rfl ?_
      rw [HS2.out]
      refine ⟨_, _, _, A2, c2, rfl, hv2, ?_, below3 (((two_then hb1).alloc (by omega) _).trans (hb2.mono (by simp; omega))) (by omega) _ _ _⟩
      exact RB.below hrb2 (below3 (Below.refl _ _) (by omega) _ _ _)
end
end Go.Proofs.YtpcopmpmcjkamaaDoor
