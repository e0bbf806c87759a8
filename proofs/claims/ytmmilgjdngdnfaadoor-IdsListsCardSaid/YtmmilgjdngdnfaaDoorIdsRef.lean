/- The walks of the reference's Right, Has, Rising, and of Texts (layer 4). -/
import Derived.Test.YtmmilgjdngdnfaaDoorStrs
import Derived.Test.YtmmilgjdngdnfaaDoorShaPMix
set_option linter.unusedVariables false
namespace Go.Proofs.YtmmilgjdngdnfaaDoor
open Go.RowKit

set_option maxRecDepth 100000 in
theorem refRight_any (L : Bs) (w : World) : Calls Tryd.prog 19 #[.string (text L)] w fun e w' => e = .returned (.bool (rightB L)) ∧ w = w' := by
  have hs := text_size L
  obtain ⟨t, ht⟩ : ∃ t, t = text L := ⟨_, rfl⟩
  rw [← ht] at hs ⊢
  have HB : Hid (rightB L = decide ((L.length : Int) = 32)) := by
    show _ = _
    unfold rightB
    rw [Bool.eq_iff_iff]; simp; omega
  clear ht
  go_enter Tryd.func19, Tryd.ntmps19
  go_wp2
  go_ret
  refine ⟨?_, rfl⟩
  rw [HB.out]
  rfl

theorem hasL_step (Ls : List Bs) (x : Bs) (k : Nat) (hk : k < Ls.length) : hasL (Ls.take (k + 1)) x = (hasL (Ls.take k) x || decide (Ls.getD k [] = x)) := by
  rw [List.take_succ_eq_append_getElem hk]
  have e : Ls.getD k [] = Ls[k] := by rw [List.getD, List.getElem?_eq_getElem hk]; rfl
  rw [e]
  unfold hasL
  rw [List.any_append, Bool.eq_iff_iff]
  simp

set_option maxRecDepth 100000 in
set_option maxHeartbeats 1000000 in
theorem refHas_any (Ls : List Bs) (x : Bs) (A : Option Addr) (n c B : Nat) (w : World) (HN : Hid (n = Ls.length)) (hr : SS w B A Ls) (hn : n ≤ 1000000) :
    Calls Tryd.prog 17 #[.slice A n c, .string (text x)] w fun e w' => e = .returned (.bool (hasL Ls x)) ∧ w = w' := by
  obtain ⟨t, ht⟩ : ∃ t, t = text x := ⟨_, rfl⟩
  have Ht := Lib.hid ht
  have HR : Hid (0 < Ls.length → ∃ b off, A = some ⟨b, off, none⟩ ∧ b < B ∧ ∀ k, k < Ls.length → w.cell? ⟨b, off + k, none⟩ = some (.string (text (Ls.getD k [])))) := fun h => hr.at_ h
  rw [← ht]
  clear ht hr
  go_enter Tryd.func17, Tryd.ntmps17
  go_wp2
  go_loopw [5] (fun i wr => ∃ k : Nat, k ≤ n ∧ i = .int .i64 (k : Int) ∧ Hid (hasL (Ls.take k) x = false) ∧ wr = w) (fun i _ => n - (intOf i).toNat)
  case atStart => exact ⟨0, by omega, rfl, by show _ = _; rfl, rfl⟩
  case round =>
    obtain ⟨k, hk, rfl, HF, rfl⟩ := hrel
    by_cases hlt : k < n
    · have hkL : k < Ls.length := by have := HN.out; omega
      obtain ⟨b, off, rfl, hb, hc⟩ := HR.out (by omega)
      obtain ⟨s, hs⟩ : ∃ s, s = text (Ls.getD k []) := ⟨_, rfl⟩
      have hck := hc k hkL
      rw [← hs] at hck
      have u0 : (0 : Int) ≤ (k : Int) := by omega
      have u1 : (k : Int) < (n : Int) := by omega
      by_cases he : Ls.getD k [] = x
      · have heq : (s.toList == t.toList) = true := by rw [hs, Ht.out, text_eq]; exact decide_eq_true he
        have HH : Hid (hasL Ls x = true) := by
          show _ = _
          rw [hasL_iff, ← he, List.getD, List.getElem?_eq_getElem hkL]
          exact List.getElem_mem _
        clear hs hc HR HF he
        go_wp2
        go_ret
        exact ⟨by rw [HH.out]; rfl, rfl⟩
      · have heq : (s.toList == t.toList) = false := by rw [hs, Ht.out, text_eq]; exact decide_eq_false he
        have HH : Hid (hasL (Ls.take (k + 1)) x = false) := by
          show _ = _
          rw [hasL_step _ _ _ hkL, HF.out, Bool.false_or]; exact decide_eq_false he
        clear hs hc HR HF he
        go_wp2
        refine ⟨⟨k + 1, by omega, by go_num, HH, by trivial⟩, ?_⟩
        simp [intOf]; omega
    · have hkn : k = Ls.length := by have := HN.out; omega
      have HH : Hid (hasL Ls x = false) := by
        show _ = _
        have := HF.out
        rwa [hkn, List.take_of_length_le (Nat.le_refl _)] at this
      clear HF HR hkn
      go_wp2
      go_ret
      exact ⟨by rw [HH.out]; rfl, rfl⟩

set_option maxRecDepth 100000 in
set_option maxHeartbeats 1000000 in
/-- The comparison of two lists of texts. -/
theorem texts_any (Ls Ms : List Bs) (A C : Option Addr) (n c m d B : Nat) (w : World) (HN : Hid (n = Ls.length)) (HM : Hid (m = Ms.length)) (hr : SS w B A Ls) (hr2 : SS w B C Ms) (hn : n ≤ 1000000) (hm : m ≤ 1000000) :
    Calls Tryd.prog 13 #[.slice A n c, .slice C m d] w fun e w' => e = .returned (.bool (decide (Ls = Ms))) ∧ Below w.heap.size w w' := by
  have HR : Hid (0 < Ls.length → ∃ b off, A = some ⟨b, off, none⟩ ∧ b < B ∧ ∀ k, k < Ls.length → w.cell? ⟨b, off + k, none⟩ = some (.string (text (Ls.getD k [])))) := fun h => hr.at_ h
  have HR2 : Hid (0 < Ms.length → ∃ b off, C = some ⟨b, off, none⟩ ∧ b < B ∧ ∀ k, k < Ms.length → w.cell? ⟨b, off + k, none⟩ = some (.string (text (Ms.getD k [])))) := fun h => hr2.at_ h
  clear hr hr2
  by_cases hnm : n = m
  · subst hnm
    go_enter Tryd.func13, Tryd.ntmps13
    go_wp2
    go_loopw [5] (fun i wr => ∃ k : Nat, k ≤ n ∧ i = .int .i64 (k : Int) ∧ Hid (∀ j, j < k → Ls.getD j [] = Ms.getD j []) ∧ Hid (∀ p, wr.cell? p = w.cell? p) ∧ Below w.heap.size w wr) (fun i _ => n - (intOf i).toNat)
    case atStart => exact ⟨0, by omega, rfl, by intro j hj; omega, fun _ => rfl, Below.refl _ _⟩
    case round =>
      obtain ⟨k, hk, rfl, HF, hw, hb⟩ := hrel
      by_cases hlt : k < n
      · have hkL : k < Ls.length := by have := HN.out; omega
        have hkM : k < Ms.length := by have := HM.out; omega
        obtain ⟨b, off, rfl, _, hc⟩ := HR.out (by omega)
        obtain ⟨b2, off2, rfl, _, hc2⟩ := HR2.out (by omega)
        obtain ⟨s, hs⟩ : ∃ s, s = text (Ls.getD k []) := ⟨_, rfl⟩
        obtain ⟨t, ht⟩ : ∃ t, t = text (Ms.getD k []) := ⟨_, rfl⟩
        have hck := hc k hkL
        have hck2 := hc2 k hkM
        rw [← hs, ← hw.out] at hck
        rw [← ht, ← hw.out] at hck2
        have u0 : (0 : Int) ≤ (k : Int) := by omega
        have u1 : (k : Int) < (n : Int) := by omega
        by_cases he : Ls.getD k [] = Ms.getD k []
        · have heq : (s.toList == t.toList) = true := by rw [hs, ht, text_eq]; exact decide_eq_true he
          have HH : Hid (∀ j, j < k + 1 → Ls.getD j [] = Ms.getD j []) := fun j hj => by
            rcases Nat.lt_or_ge j k with h | h
            · exact HF.out j h
            · rw [show j = k by omega]; exact he
          clear hs ht hc hc2 HR HR2 he HF hkL hkM
          go_wp2
          go_quiet (fail)
          go_wp2
          refine ⟨⟨k + 1, by omega, by go_num, HH, fun p => hw.out p, ⟨hb.os, hb.tape, hb.output, hb.size, hb.block⟩⟩, ?_⟩
          simp [intOf]; omega
        · have heq : (s.toList == t.toList) = false := by rw [hs, ht, text_eq]; exact decide_eq_false he
          have HH : Hid (decide (Ls = Ms) = false) := by
            show _ = _
            exact decide_eq_false fun e => he (by rw [e])
          clear hs ht hc hc2 HR HR2 he HF hkL hkM
          go_wp2
          go_quiet (fail)
          go_wp2
          go_ret
          exact ⟨by rw [HH.out]; rfl, ⟨hb.os, hb.tape, hb.output, hb.size, hb.block⟩⟩
      · have HH : Hid (decide (Ls = Ms) = true) := by
          show _ = _
          refine decide_eq_true (List.ext_getElem (by have := HN.out; have := HM.out; omega) fun j h1 h2 => ?_)
          have := HF.out j (by have := HN.out; omega)
          rw [List.getD, List.getElem?_eq_getElem h1, List.getD, List.getElem?_eq_getElem h2] at this
          exact this
        clear HF HR HR2
        go_wp2
        go_ret
        exact ⟨by rw [HH.out]; rfl, hb⟩
  · have hne : (n : Int) ≠ (m : Int) := by omega
    have HH : Hid (decide (Ls = Ms) = false) := by
      show _ = _
      exact decide_eq_false fun e => hnm (by rw [HN.out, HM.out, e])
    go_enter Tryd.func13, Tryd.ntmps13
    go_wp2
    go_ret
    exact ⟨by rw [HH.out]; rfl, Below.refl _ _⟩

theorem risesK_stop (l : List Bs) (k : Nat) (h : k ≤ l.length) (hf : risesK l k = false) : risesL l = false := by
  cases hb : risesL l with
  | false => rfl
  | true =>
    have h1 := (risesL_iff l).1 hb
    have : risesK l k = true := (risesK_all l k h).2 ⟨fun x hx => h1.1 x (List.mem_of_mem_take hx), List.Pairwise.sublist (List.take_sublist _ _) h1.2⟩
    rw [hf] at this; cases this

set_option maxRecDepth 100000 in
set_option maxHeartbeats 1000000 in
theorem refRising_any (Ls : List Bs) (A : Option Addr) (n c B : Nat) (w : World) (HN : Hid (n = Ls.length)) (hr : SS w B A Ls) (hn : n ≤ 1000000) :
    Calls Tryd.prog 12 #[.slice A n c] w fun e w' => e = .returned (.bool (risesL Ls)) ∧ Below w.heap.size w w' := by
  have HR : Hid (0 < Ls.length → ∃ b off, A = some ⟨b, off, none⟩ ∧ b < B ∧ ∀ k, k < Ls.length → w.cell? ⟨b, off + k, none⟩ = some (.string (text (Ls.getD k [])))) := fun h => hr.at_ h
  clear hr
  go_enter Tryd.func12, Tryd.ntmps12
  go_wp2
  go_loopw [3] (fun i wr => ∃ k : Nat, k ≤ n ∧ i = .int .i64 (k : Int) ∧ Hid (risesK Ls k = true) ∧ Hid (∀ p, wr.cell? p = w.cell? p) ∧ Below w.heap.size w wr) (fun i _ => n - (intOf i).toNat)
  case atStart => exact ⟨0, by omega, rfl, rfl, fun _ => rfl, Below.refl _ _⟩
  case round =>
    obtain ⟨k, hk, rfl, HF, hw, hb⟩ := hrel
    by_cases hlt : k < n
    · have hkL : k < Ls.length := by have := HN.out; omega
      obtain ⟨b, off, rfl, _, hc⟩ := HR.out (by omega)
      obtain ⟨y, hy⟩ : ∃ y, y = Ls.getD k [] := ⟨_, rfl⟩
      obtain ⟨s, hs⟩ : ∃ s, s = text y := ⟨_, rfl⟩
      have hck := hc k hkL
      rw [← hy, ← hs, ← hw.out] at hck
      have HRt : Hid (∀ V, Calls Tryd.prog 19 #[.string s] V fun e w' => e = .returned (.bool (rightB y)) ∧ V = w') := fun V => by rw [hs]; exact refRight_any y V
      have u0 : (0 : Int) ≤ (k : Int) := by omega
      have u1 : (k : Int) < (n : Int) := by omega
      have HS : Hid (risesK Ls (k + 1) = (rightB y && (k == 0 || Op.bytesLess (Ls.getD (k - 1) []) y))) := by show _ = _; rw [risesK, HF.out, ← hy, Bool.true_and]
      cases hrt : rightB y with
      | false =>
        have HH : Hid (risesL Ls = false) := risesK_stop Ls (k + 1) (by omega) (by rw [HS.out, hrt]; rfl)
        rw [hrt] at HRt
        clear hy hs hc HR hrt hkL HF
        go_wp2
        go_quiet (with_reducible exact quiet_same HRt)
        go_wp2
        go_ret
        exact ⟨by rw [HH.out]; rfl, ⟨hb.os, hb.tape, hb.output, hb.size, hb.block⟩⟩
      | true =>
        rw [hrt] at HRt
        by_cases hk0 : k = 0
        · have HH : Hid (risesK Ls (k + 1) = true) := by show _ = _; rw [HS.out, hrt, hk0]; rfl
          have d0 : decide (0 < (k : Int)) = false := decide_eq_false (by omega)
          have d1 : decide (0 < k) = false := decide_eq_false (by omega)
          clear hy hs hc HR hrt hkL HF hk0
          go_wp2
          go_quiet (with_reducible exact quiet_same HRt)
          go_wp2
          refine ⟨⟨k + 1, by omega, by go_num, HH, fun p => hw.out p, ⟨hb.os, hb.tape, hb.output, hb.size, hb.block⟩⟩, ?_⟩
          simp [intOf]; omega
        · obtain ⟨z, hz⟩ : ∃ z, z = Ls.getD (k - 1) [] := ⟨_, rfl⟩
          obtain ⟨t, ht⟩ : ∃ t, t = text z := ⟨_, rfl⟩
          have hcp := hc (k - 1) (by omega)
          rw [← hz, ← ht, ← hw.out] at hcp
          have ek : IntKind.i64.wrap ((k : Int) - 1) = ((k - 1 : Nat) : Int) := (IntWalk.i64_in _ (by omega)).trans (by omega)
          have u2 : ((k - 1 : Nat) : Int) < (n : Int) := by omega
          have u3 : (0 : Int) < (k : Int) := by omega
          have d0 : decide (0 < (k : Int)) = true := decide_eq_true (by omega)
          have d1 : decide (0 < k) = true := decide_eq_true (by omega)
          cases hls : Op.bytesLess z y with
          | false =>
            have HH : Hid (risesL Ls = false) := risesK_stop Ls (k + 1) (by omega) (by rw [HS.out, hrt, ← hz, hls]; simp [hk0])
            have hge : ∀ ty, binOp .geq ty (.string t) (.string s) = pure (.bool true) := fun ty => by simp [binOp, Op.stringOp, ht, hs, text_toList, hls]
            clear hy hs hz ht hc HR hrt hkL HF hls
            go_wp2
            go_quiet (with_reducible exact quiet_same HRt)
            go_wp2
            go_ret
            exact ⟨by rw [HH.out]; rfl, ⟨hb.os, hb.tape, hb.output, hb.size, hb.block⟩⟩
          | true =>
            have HH : Hid (risesK Ls (k + 1) = true) := by show _ = _; rw [HS.out, hrt, ← hz, hls]; simp
            have hge : ∀ ty, binOp .geq ty (.string t) (.string s) = pure (.bool false) := fun ty => by simp [binOp, Op.stringOp, ht, hs, text_toList, hls]
            clear hy hs hz ht hc HR hrt hkL HF hls
            go_wp2
            go_quiet (with_reducible exact quiet_same HRt)
            go_wp2
            refine ⟨⟨k + 1, by omega, by go_num, HH, fun p => hw.out p, ⟨hb.os, hb.tape, hb.output, hb.size, hb.block⟩⟩, ?_⟩
            simp [intOf]; omega
    · have HH : Hid (risesL Ls = true) := by
        show _ = _
        have := HF.out
        rwa [show k = Ls.length by have := HN.out; omega] at this
      clear HF HR
      go_wp2
      go_ret
      exact ⟨by rw [HH.out]; rfl, hb⟩

end Go.Proofs.YtmmilgjdngdnfaaDoor
