/- The walks of the program's Right and Rising (layer 4). -/
import Derived.Test.YtmmilgjdngdnfaaDoorStrs
set_option linter.unusedVariables false
namespace Go.Proofs.YtmmilgjdngdnfaaDoor
open Go.RowKit

set_option maxRecDepth 100000 in
theorem idsRight_at (L : Bs) (w : World) : Calls Tryd.prog 18 #[.string (text L)] w fun e w' => e = .returned (.bool (rightB L)) ∧ w = w' := by
  have hs := text_size L
  obtain ⟨t, ht⟩ : ∃ t, t = text L := ⟨_, rfl⟩
  rw [← ht] at hs ⊢
  have HB : Hid (rightB L = decide ((L.length : Int) = 32)) := by
    show _ = _
    unfold rightB
    rw [Bool.eq_iff_iff]; simp; omega
  clear ht
  go_enter Tryd.func18, Tryd.ntmps18
  go_wp2
  go_ret
  refine ⟨?_, rfl⟩
  rw [HB.out]
  rfl
theorem idsRight_any (L : Bs) (w : World) : Calls Tryd.prog 18 #[.string (text L)] w fun e w' => e = .returned (.bool (rightB L)) ∧ Below w.heap.size w w' :=
  (idsRight_at L w).mono fun e w' h => ⟨h.1, by rw [← h.2]; exact Below.refl _ _⟩

theorem leq_of_less (y z : Bs) : (Op.bytesLess y z || y == z) = !Op.bytesLess z y := by
  cases h : Op.bytesLess z y with
  | true => rw [less_asymm h]; simp [(less_ne h).symm]
  | false =>
    by_cases e : y = z
    · simp [e]
    · rcases less_total y z e with h2 | h2
      · simp [h2]
      · rw [h] at h2; cases h2
theorem rises_stop (l : List Bs) (k : Nat) (h : k ≤ l.length) (hf : risesK l k = false) : risesL l = false := by
  cases hb : risesL l with
  | false => rfl
  | true =>
    have h1 := (risesL_iff l).1 hb
    have : risesK l k = true := (risesK_all l k h).2 ⟨fun x hx => h1.1 x (List.mem_of_mem_take hx), List.Pairwise.sublist (List.take_sublist _ _) h1.2⟩
    rw [hf] at this; cases this

set_option maxRecDepth 100000 in
set_option maxHeartbeats 1000000 in
theorem idsRising_at (Ls : List Bs) (A : Option Addr) (n c B : Nat) (w : World) (HN : Hid (n = Ls.length)) (hr : SS w B A Ls) (hn : n ≤ 1000000) :
    Calls Tryd.prog 11 #[.slice A n c] w fun e w' => e = .returned (.bool (risesL Ls)) ∧ Below w.heap.size w w' := by
  have HR : Hid (0 < Ls.length → ∃ b off, A = some ⟨b, off, none⟩ ∧ b < B ∧ ∀ k, k < Ls.length → w.cell? ⟨b, off + k, none⟩ = some (.string (text (Ls.getD k [])))) := fun h => hr.at_ h
  clear hr
  go_enter Tryd.func11, Tryd.ntmps11
  go_wp2
  go_loopw [3, 4, 7] (fun x3 x4 i wr => ∃ k : Nat, k ≤ n ∧ i = .int .i64 (k : Int) ∧ Hid (risesK Ls k = true) ∧ Hid (∀ p, wr.cell? p = w.cell? p) ∧ Below w.heap.size w wr) (fun _ _ i _ => n - (intOf i).toNat)
  case atStart => exact ⟨0, by omega, rfl, rfl, fun _ => rfl, Below.refl _ _⟩
  case round =>
    obtain ⟨k, hk, rfl, HF, hw, hb⟩ := hrel
    by_cases hlt : k < n
    · have hkL : k < Ls.length := by have := HN.out; omega
      obtain ⟨b, off, rfl, _, hc⟩ := HR.out (by omega)
      obtain ⟨y, hy⟩ : ∃ y, y = Ls.getD k [] := ⟨_, rfl⟩
      obtain ⟨s, hs⟩ : ∃ s, s = text y := ⟨_, rfl⟩
      have hck := hc k hkL
      rw [← hy, ← hs, ← hw.out] at hck
      have HRt : Hid (∀ V, Calls Tryd.prog 18 #[.string s] V fun e w' => e = .returned (.bool (rightB y)) ∧ V = w') := fun V => by rw [hs]; exact idsRight_at y V
      have u0 : (0 : Int) ≤ (k : Int) := by omega
      have u1 : (k : Int) < (n : Int) := by omega
      have HS : Hid (risesK Ls (k + 1) = (rightB y && (k == 0 || Op.bytesLess (Ls.getD (k - 1) []) y))) := by show _ = _; rw [risesK, HF.out, ← hy, Bool.true_and]
      cases hrt : rightB y with
      | false =>
        have HH : Hid (risesL Ls = false) := rises_stop Ls (k + 1) (by omega) (by rw [HS.out, hrt]; rfl)
        rw [hrt] at HRt
        clear hy hs hc HR hrt hkL HF
        go_wp2_with (first
          | (go_at_call 18; (with_reducible refine (HRt.out _).mono ?_); rintro e w' ⟨rfl, rfl⟩))
        go_ret
        exact ⟨by rw [HH.out]; rfl, ⟨hb.os, hb.tape, hb.output, hb.size, hb.block⟩⟩
      | true =>
        rw [hrt] at HRt
        by_cases hk0 : k = 0
        · have HH : Hid (risesK Ls (k + 1) = true) := by show _ = _; rw [HS.out, hrt, hk0]; rfl
          have d0 : decide (0 < (k : Int)) = false := decide_eq_false (by omega)
          have d1 : decide (0 < k) = false := decide_eq_false (by omega)
          clear hy hs hc HR hrt hkL HF hk0
          go_wp2_with (first
            | (go_at_call 18; (with_reducible refine (HRt.out _).mono ?_); rintro e w' ⟨rfl, rfl⟩))
          refine ⟨⟨k + 1, by omega, by go_num, HH, fun p => hw.out p, ⟨hb.os, hb.tape, hb.output, hb.size, hb.block⟩⟩, ?_⟩
          simp [intOf]; omega
        · obtain ⟨z, hz⟩ : ∃ z, z = Ls.getD (k - 1) [] := ⟨_, rfl⟩
          obtain ⟨t, ht⟩ : ∃ t, t = text z := ⟨_, rfl⟩
          have hcp := hc (k - 1) (by omega)
          rw [← hz, ← ht, ← hw.out] at hcp
          have ek : IntKind.i64.wrap ((k : Int) - 1) = ((k - 1 : Nat) : Int) := (IntWalk.i64_in _ (by omega)).trans (by omega)
          have u2 : ((k - 1 : Nat) : Int) < (n : Int) := by omega
          have u3 : (0 : Int) < (k : Int) := by omega
          have d0 : decide (0 < (k : Int)) = true := decide_eq_true (by omega)
          have d1 : decide (0 < k) = true := decide_eq_true (by omega)
          cases hls : Op.bytesLess z y with
          | false =>
            have HH : Hid (risesL Ls = false) := rises_stop Ls (k + 1) (by omega) (by rw [HS.out, hrt, ← hz, hls]; simp [hk0])
            have hge : ∀ ty, binOp .leq ty (.string s) (.string t) = pure (.bool true) := fun ty => by simp only [binOp, Op.stringOp, ht, hs, text_toList, leq_of_less, hls]; rfl
            clear hy hs hz ht hc HR hrt hkL HF hls
            go_wp2_with (first
              | (go_at_call 18; (with_reducible refine (HRt.out _).mono ?_); rintro e w' ⟨rfl, rfl⟩))
            go_ret
            exact ⟨by rw [HH.out]; rfl, ⟨hb.os, hb.tape, hb.output, hb.size, hb.block⟩⟩
          | true =>
            have HH : Hid (risesK Ls (k + 1) = true) := by show _ = _; rw [HS.out, hrt, ← hz, hls]; simp
            have hge : ∀ ty, binOp .leq ty (.string s) (.string t) = pure (.bool false) := fun ty => by simp only [binOp, Op.stringOp, ht, hs, text_toList, leq_of_less, hls]; rfl
            clear hy hs hz ht hc HR hrt hkL HF hls
            go_wp2_with (first
              | (go_at_call 18; (with_reducible refine (HRt.out _).mono ?_); rintro e w' ⟨rfl, rfl⟩))
            refine ⟨⟨k + 1, by omega, by go_num, HH, fun p => hw.out p, ⟨hb.os, hb.tape, hb.output, hb.size, hb.block⟩⟩, ?_⟩
            simp [intOf]; omega
    · have HH : Hid (risesL Ls = true) := by
        show _ = _
        have := HF.out
        rwa [show k = Ls.length by have := HN.out; omega] at this
      clear HF HR
      go_wp2
      go_ret
      exact ⟨by rw [HH.out]; rfl, hb⟩
theorem idsRising_any (Ls : List Bs) (A : Option Addr) (n c B : Nat) (w : World) (HN : Hid (n = Ls.length)) (hr : SS w B A Ls) (hn : n ≤ 1000) (hc : n ≤ c) (hcm : c ≤ 9223372036854775807) :
    Calls Tryd.prog 11 #[.slice A n c] w fun e w' => e = .returned (.bool (risesL Ls)) ∧ Below w.heap.size w w' := idsRising_at Ls A n c B w HN hr (by omega)

end Go.Proofs.YtmmilgjdngdnfaaDoor
