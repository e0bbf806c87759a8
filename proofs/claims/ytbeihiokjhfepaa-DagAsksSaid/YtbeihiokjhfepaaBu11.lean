/- Lemmas under the proofs of this place: IdsRef, StrApp, IdsPRight. No statement is proved here. -/
import Derived.Test.YtbeihiokjhfepaaBu07
import Derived.Test.YtbeihiokjhfepaaBu06
import Derived.Test.YtbeihiokjhfepaaBu02
import Derived.Test.YtbeihiokjhfepaaBu08
set_option linter.unusedSimpArgs false
set_option linter.unusedVariables false
set_option maxRecDepth 100000
set_option maxHeartbeats 16000000
namespace Go.Proofs.Ytbeihiokjhfepaa
section
open Go.RowKit
theorem hasL_step (Ls : List Bs) (x : Bs) (k : Nat) (hk : k < Ls.length) : hasL (Ls.take (k + 1)) x = (hasL (Ls.take k) x || decide (Ls.getD k [] = x)) := by
  rw [List.take_succ_eq_append_getElem hk]
  have e : Ls.getD k [] = Ls[k] := by rw [List.getD, List.getElem?_eq_getElem hk]; rfl
  rw [e]
  unfold hasL
  rw [List.any_append, Bool.eq_iff_iff]
  simp
theorem refHas_any (Ls : List Bs) (x : Bs) (A : Option Addr) (n c B : Nat) (w : World) (HN : Hid (n = Ls.length)) (hr : SS w B A Ls) (hn : n ≤ 1000000) :
    Calls Try.prog 29 #[.slice A n c, .string (text x)] w fun e w' => e = .returned (.bool (hasL Ls x)) ∧ w = w' := by
  obtain ⟨t, ht⟩ : ∃ t, t = text x := ⟨_, rfl⟩
  have Ht := Lib.hid ht
  have HR : Hid (0 < Ls.length → ∃ b off, A = some ⟨b, off, none⟩ ∧ b < B ∧ ∀ k, k < Ls.length → w.cell? ⟨b, off + k, none⟩ = some (.string (text (Ls.getD k [])))) := fun h => hr.at_ h
  rw [← ht]
  clear ht hr
  go_enter Try.func29, Try.ntmps29
  go_wp2
  go_loopw [5] (fun i wr => ∃ k : Nat, k ≤ n ∧ i = .int .i64 (k : Int) ∧ Hid (hasL (Ls.take k) x = false) ∧ wr = w) (fun i _ => n - (intOf i).toNat)
  case atStart => exact ⟨0, by omega, rfl, by show _ = _; rfl, rfl⟩
  case round =>
    obtain ⟨k, hk, rfl, HF, rfl⟩ := hrel
    by_cases hlt : k < n
    · have hkL : k < Ls.length := by have := HN.out; omega
      obtain ⟨b, off, rfl, hb, hc⟩ := HR.out (by omega)
      obtain ⟨s, hs⟩ : ∃ s, s = text (Ls.getD k []) := ⟨_, rfl⟩
      have hck := hc k hkL
      rw [← hs] at hck
      have u0 : (0 : Int) ≤ (k : Int) := by omega
      have u1 : (k : Int) < (n : Int) := by omega
      by_cases he : Ls.getD k [] = x
      · have heq : (s.toList == t.toList) = true := by rw [hs, Ht.out, text_eq]; exact decide_eq_true he
        have HH : Hid (hasL Ls x = true) := by
          show _ = _
          rw [hasL_iff, ← he, List.getD, List.getElem?_eq_getElem hkL]
          exact List.getElem_mem _
        clear hs hc HR HF he
        go_wp2
        go_ret
        exact ⟨by rw [HH.out]; rfl, rfl⟩
      · have heq : (s.toList == t.toList) = false := by rw [hs, Ht.out, text_eq]; exact decide_eq_false he
        have HH : Hid (hasL (Ls.take (k + 1)) x = false) := by
          show _ = _
          rw [hasL_step _ _ _ hkL, HF.out, Bool.false_or]; exact decide_eq_false he
        clear hs hc HR HF he
        go_wp2
        refine ⟨⟨k + 1, by omega, by go_num, HH, by trivial⟩, ?_⟩
        simp [intOf]; omega
    · have hkn : k = Ls.length := by have := HN.out; omega
      have HH : Hid (hasL Ls x = false) := by
        show _ = _
        have := HF.out
        rwa [hkn, List.take_of_length_le (Nat.le_refl _)] at this
      clear HF HR hkn
      go_wp2
      go_ret
      exact ⟨by rw [HH.out]; rfl, rfl⟩
end
section
open Go.RowKit
theorem append_sone {ops : Array Oper} {rest : List Oper} {o : Oper} {a : Act} {Q : Exit → Act → World → Prop} (hgd : o.guard = none) (s x : Operand)
    (ho : o.op = .call { callee := .builtin .append, args := #[s, x], argTypes := #[33, 33] })
    {wr : World} {A : Option Addr} {q c B : Nat} {Ls : List Bs} {L : Bs} {t : ByteArray} (hs : a.eval s = .slice A q c) (hS : wr.ownsRow B 9 1 (.slice A q c) q (scells Ls)) (ht : t = text L) (hx : a.eval x = .slice (some ⟨wr.heap.size, 0, none⟩) 1 1) (hlen : q + 1 ≤ 100000) (hB : B ≤ wr.heap.size)
    (h : ∀ A' c' w1, Hid (w1.ownsRow B 9 1 (.slice A' (q + 1) c') (q + 1) (scells (Ls ++ [L]))) → Hid (Below B wr w1) → wpList Try.prog ops Q rest (a.put o.dst (.slice A' (q + 1) c')) w1) :
    wpList Try.prog ops Q (o :: rest) a (wr.alloc (.cells #[.string t] 9)) := by
  obtain ⟨i0, hi0, hz0, hz1, hz2⟩ := info_parts Try.infoStr
  have hb0 : Below B wr (wr.alloc (.cells #[.string t] 9)) := (Below.refl _ _).alloc hB _
  refine wpList_append_own _ hgd s x 33 ho B 9 i0 _ 1 16 Try.underlying33 hi0 hz0 hz1 hz2 rfl (by omega) _ q (scells Ls) hs (hS.alloc _) ⟨wr.heap.size, 0, none⟩ 1 1 [Value.string t] hx rfl (cell_one_new _ _ _) (by intro u hu; rw [List.mem_singleton] at hu; subst hu; rfl) (by simp only [maxLen]; omega) (by omega) (by simp; omega) ?_
  intro v' w1 ho1 hg1 _
  obtain ⟨A', c', rfl⟩ := sown_form ho1
  refine h A' c' w1 ?_ (hb0.grown hg1 (by simp; omega) fun k hk => (hS.lt k hk).1)
  show w1.ownsRow _ _ _ _ _ _
  rw [scells_append]
  subst ht
  exact ho1
theorem sown_far {w : World} {base n g i : Nat} {v u : Value} {xs : List Value} (h : w.ownsRow base 9 1 v n xs) (hg : g < base) : (w.setCell ⟨g, i, none⟩ u).ownsRow base 9 1 v n xs := by
  refine ⟨h.1, ?_⟩
  rcases h.2 with h0 | ⟨k, cap, cur, h1, h2, h3, h4⟩
  · exact .inl h0
  · exact .inr ⟨k, cap, cur, h1, h2, (Below.heap_setCell w ⟨g, i, none⟩ u k (fun e => by have e2 : k = g := e; omega)).trans h3, h4⟩
theorem append_sall {ops : Array Oper} {rest : List Oper} {o : Oper} {a : Act} {Q : Exit → Act → World → Prop} (hgd : o.guard = none) (s x : Operand)
    (ho : o.op = .call { callee := .builtin .append, args := #[s, x], argTypes := #[33, 33] })
    {wr : World} {A C : Option Addr} {q c m d B : Nat} {Ls Ms : List Bs} (hs : a.eval s = .slice A q c) (hS : wr.ownsRow B 9 1 (.slice A q c) q (scells Ls)) (hx : a.eval x = .slice C m d) (hm : m = Ms.length) (hM : SS wr wr.heap.size C Ms) (hlen : q + m ≤ 100000) (hB : B ≤ wr.heap.size)
    (h : ∀ A' c' w1, Hid (w1.ownsRow B 9 1 (.slice A' (q + m) c') (q + m) (scells (Ls ++ Ms))) → Hid (Below B wr w1) → wpList Try.prog ops Q rest (a.put o.dst (.slice A' (q + m) c')) w1) :
    wpList Try.prog ops Q (o :: rest) a wr := by
  obtain ⟨i0, hi0, hz0, hz1, hz2⟩ := info_parts Try.infoStr
  have hM2 : Reads wr wr.heap.size 1 C m (scells Ms) := by rw [hm]; exact hM
  refine wpList_append_any _ hgd s x 33 ho B 9 i0 _ 1 16 Try.underlying33 hi0 hz0 hz1 hz2 rfl (by omega) _ q (scells Ls) hs hS _ C m d (scells Ms) hx hM2 (scells_one _) (by simp only [maxLen]; omega) (by omega) hB ?_
  intro v' w1 ho1 hg1 _
  obtain ⟨A', c', rfl⟩ := sown_form ho1
  refine h A' c' w1 ?_ ((Below.refl _ _).grown hg1 hB fun k hk => (hS.lt k hk).1)
  show w1.ownsRow _ _ _ _ _ _
  rw [scells_append]
  exact ho1
end
section
open Go.RowKit
theorem leq_of_less (y z : Bs) : (Op.bytesLess y z || y == z) = !Op.bytesLess z y := by
  cases h : Op.bytesLess z y with
  | true => rw [less_asymm h]; simp [(less_ne h).symm]
  | false =>
    by_cases e : y = z
    · simp [e]
    · rcases less_total y z e with h2 | h2
      · simp [h2]
      · rw [h] at h2; cases h2
theorem rises_stop (l : List Bs) (k : Nat) (h : k ≤ l.length) (hf : risesK l k = false) : risesL l = false := by
  cases hb : risesL l with
  | false => rfl
  | true =>
    have h1 := (risesL_iff l).1 hb
    have : risesK l k = true := (risesK_all l k h).2 ⟨fun x hx => h1.1 x (List.mem_of_mem_take hx), List.Pairwise.sublist (List.take_sublist _ _) h1.2⟩
    rw [hf] at this; cases this
theorem idsRising_at (Ls : List Bs) (A : Option Addr) (n c B : Nat) (w : World) (HN : Hid (n = Ls.length)) (hr : SS w B A Ls) (hn : n ≤ 1000000) :
    Calls Try.prog 38 #[.slice A n c] w fun e w' => e = .returned (.bool (risesL Ls)) ∧ Below w.heap.size w w' := by
  have HR : Hid (0 < Ls.length → ∃ b off, A = some ⟨b, off, none⟩ ∧ b < B ∧ ∀ k, k < Ls.length → w.cell? ⟨b, off + k, none⟩ = some (.string (text (Ls.getD k [])))) := fun h => hr.at_ h
  clear hr
  go_enter Try.func38, Try.ntmps38
  go_wp2
  go_loopw [3, 4, 7] (fun x3 x4 i wr => ∃ k : Nat, k ≤ n ∧ i = .int .i64 (k : Int) ∧ Hid (risesK Ls k = true) ∧ Hid (∀ p, wr.cell? p = w.cell? p) ∧ Below w.heap.size w wr) (fun _ _ i _ => n - (intOf i).toNat)
  case atStart => exact ⟨0, by omega, rfl, rfl, fun _ => rfl, Below.refl _ _⟩
  case round =>
    obtain ⟨k, hk, rfl, HF, hw, hb⟩ := hrel
    by_cases hlt : k < n
    · have hkL : k < Ls.length := by have := HN.out; omega
      obtain ⟨b, off, rfl, _, hc⟩ := HR.out (by omega)
      obtain ⟨y, hy⟩ : ∃ y, y = Ls.getD k [] := ⟨_, rfl⟩
      obtain ⟨s, hs⟩ : ∃ s, s = text y := ⟨_, rfl⟩
      have hck := hc k hkL
      rw [← hy, ← hs, ← hw.out] at hck
      have HRt : Hid (∀ V, Calls Try.prog 37 #[.string s] V fun e w' => e = .returned (.bool (rightB y)) ∧ V = w') := fun V => by rw [hs]; exact idsRight_at y V
      have u0 : (0 : Int) ≤ (k : Int) := by omega
      have u1 : (k : Int) < (n : Int) := by omega
      have HS : Hid (risesK Ls (k + 1) = (rightB y && (k == 0 || Op.bytesLess (Ls.getD (k - 1) []) y))) := by show _ = _; rw [risesK, HF.out, ← hy, Bool.true_and]
      cases hrt : rightB y with
      | false =>
        have HH : Hid (risesL Ls = false) := rises_stop Ls (k + 1) (by omega) (by rw [HS.out, hrt]; rfl)
        rw [hrt] at HRt
        clear hy hs hc HR hrt hkL HF
        go_wp2_with (first
          | (go_at_call 37; (with_reducible refine (HRt.out _).mono ?_); rintro e w' ⟨rfl, rfl⟩))
        go_ret
        exact ⟨by rw [HH.out]; rfl, ⟨hb.os, hb.tape, hb.output, hb.size, hb.block⟩⟩
      | true =>
        rw [hrt] at HRt
        by_cases hk0 : k = 0
        · have HH : Hid (risesK Ls (k + 1) = true) := by show _ = _; rw [HS.out, hrt, hk0]; rfl
          have d0 : decide (0 < (k : Int)) = false := decide_eq_false (by omega)
          have d1 : decide (0 < k) = false := decide_eq_false (by omega)
          clear hy hs hc HR hrt hkL HF hk0
          go_wp2_with (first
            | (go_at_call 37; (with_reducible refine (HRt.out _).mono ?_); rintro e w' ⟨rfl, rfl⟩))
          refine ⟨⟨k + 1, by omega, by go_num, HH, fun p => hw.out p, ⟨hb.os, hb.tape, hb.output, hb.size, hb.block⟩⟩, ?_⟩
          simp [intOf]; omega
        · obtain ⟨z, hz⟩ : ∃ z, z = Ls.getD (k - 1) [] := ⟨_, rfl⟩
          obtain ⟨t, ht⟩ : ∃ t, t = text z := ⟨_, rfl⟩
          have hcp := hc (k - 1) (by omega)
          rw [← hz, ← ht, ← hw.out] at hcp
          have ek : IntKind.i64.wrap ((k : Int) - 1) = ((k - 1 : Nat) : Int) := (IntWalk.i64_in _ (by omega)).trans (by omega)
          have u2 : ((k - 1 : Nat) : Int) < (n : Int) := by omega
          have u3 : (0 : Int) < (k : Int) := by omega
          have d0 : decide (0 < (k : Int)) = true := decide_eq_true (by omega)
          have d1 : decide (0 < k) = true := decide_eq_true (by omega)
          cases hls : Op.bytesLess z y with
          | false =>
            have HH : Hid (risesL Ls = false) := rises_stop Ls (k + 1) (by omega) (by rw [HS.out, hrt, ← hz, hls]; simp [hk0])
            have hge : ∀ ty, binOp .leq ty (.string s) (.string t) = pure (.bool true) := fun ty => by simp only [binOp, Op.stringOp, ht, hs, text_toList, leq_of_less, hls]; rfl
            clear hy hs hz ht hc HR hrt hkL HF hls
            go_wp2_with (first
              | (go_at_call 37; (with_reducible refine (HRt.out _).mono ?_); rintro e w' ⟨rfl, rfl⟩))
            go_ret
            exact ⟨by rw [HH.out]; rfl, ⟨hb.os, hb.tape, hb.output, hb.size, hb.block⟩⟩
          | true =>
            have HH : Hid (risesK Ls (k + 1) = true) := by show _ = _; rw [HS.out, hrt, ← hz, hls]; simp
            have hge : ∀ ty, binOp .leq ty (.string s) (.string t) = pure (.bool false) := fun ty => by simp only [binOp, Op.stringOp, ht, hs, text_toList, leq_of_less, hls]; rfl
            clear hy hs hz ht hc HR hrt hkL HF hls
            go_wp2_with (first
              | (go_at_call 37; (with_reducible refine (HRt.out _).mono ?_); rintro e w' ⟨rfl, rfl⟩))
            refine ⟨⟨k + 1, by omega, by go_num, HH, fun p => hw.out p, ⟨hb.os, hb.tape, hb.output, hb.size, hb.block⟩⟩, ?_⟩
            simp [intOf]; omega
    · have HH : Hid (risesL Ls = true) := by
        show _ = _
        have := HF.out
        rwa [show k = Ls.length by have := HN.out; omega] at this
      clear HF HR
      go_wp2
      go_ret
      exact ⟨by rw [HH.out]; rfl, hb⟩
end
end Go.Proofs.Ytbeihiokjhfepaa
