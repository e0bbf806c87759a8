/- What the laws of layer 5 use: the comparison of lists of numbers, a deed's number. -/
import Derived.Test.YtppjeakgabakeaaDoorBitsAdd
import Derived.Test.YtppjeakgabakeaaDoorOpenDeeds
import Derived.Deep.QuietTactic
import Derived.BigQuiet
set_option linter.unusedVariables false
namespace Go.Proofs.YtppjeakgabakeaaDoor
open Go.RowKit

set_option maxRecDepth 100000 in
set_option maxHeartbeats 1000000 in
/-- The comparison of two lists of numbers. -/
theorem ints_any (Ls Ms : List Nat) (A C : Option Addr) (n c m d B : Nat) (w : World) (HN : Hid (n = Ls.length)) (HM : Hid (m = Ms.length)) (hr : IS w B A Ls) (hr2 : IS w B C Ms) (hn : n ≤ 1000000) (hm : m ≤ 1000000) :
    Calls Tryd.prog 20 #[.slice A n c, .slice C m d] w fun e w' => e = .returned (.bool (decide (Ls = Ms))) ∧ Below w.heap.size w w' := by
  have HR : Hid (0 < Ls.length → ∃ b off, A = some ⟨b, off, none⟩ ∧ b < B ∧ ∀ k, k < Ls.length → w.cell? ⟨b, off + k, none⟩ = some (.int .i64 ((Ls.getD k 0 : Nat) : Int))) := fun h => hr.at_ h
  have HR2 : Hid (0 < Ms.length → ∃ b off, C = some ⟨b, off, none⟩ ∧ b < B ∧ ∀ k, k < Ms.length → w.cell? ⟨b, off + k, none⟩ = some (.int .i64 ((Ms.getD k 0 : Nat) : Int))) := fun h => hr2.at_ h
  clear hr hr2
  by_cases hnm : n = m
  · subst hnm
    go_enter Tryd.func20, Tryd.ntmps20
    go_wp2
    go_loopw [5] (fun i wr => ∃ k : Nat, k ≤ n ∧ i = .int .i64 (k : Int) ∧ Hid (∀ j, j < k → Ls.getD j 0 = Ms.getD j 0) ∧ Hid (∀ p, wr.cell? p = w.cell? p) ∧ Below w.heap.size w wr) (fun i _ => n - (intOf i).toNat)
    case atStart => exact ⟨0, by omega, rfl, by intro j hj; omega, fun _ => rfl, Below.refl _ _⟩
    case round =>
      obtain ⟨k, hk, rfl, HF, hw, hb⟩ := hrel
      by_cases hlt : k < n
      · have hkL : k < Ls.length := by have := HN.out; omega
        have hkM : k < Ms.length := by have := HM.out; omega
        obtain ⟨b, off, rfl, _, hc⟩ := HR.out (by omega)
        obtain ⟨b2, off2, rfl, _, hc2⟩ := HR2.out (by omega)
        obtain ⟨s, hs⟩ : ∃ s, s = Ls.getD k 0 := ⟨_, rfl⟩
        obtain ⟨t, ht⟩ : ∃ t, t = Ms.getD k 0 := ⟨_, rfl⟩
        have hck := hc k hkL
        have hck2 := hc2 k hkM
        rw [← hs, ← hw.out] at hck
        rw [← ht, ← hw.out] at hck2
        have u0 : (0 : Int) ≤ (k : Int) := by omega
        have u1 : (k : Int) < (n : Int) := by omega
        by_cases he : Ls.getD k 0 = Ms.getD k 0
        · have e2 : s = t := by rw [hs, ht]; exact he
          have HH : Hid (∀ j, j < k + 1 → Ls.getD j 0 = Ms.getD j 0) := fun j hj => by
            rcases Nat.lt_or_ge j k with h | h
            · exact HF.out j h
            · rw [show j = k by omega]; exact he
          subst e2
          clear hs ht hc hc2 HR HR2 he HF hkL hkM
          go_wp2
          go_quiet (fail)
          go_wp2
          refine ⟨⟨k + 1, by omega, by go_num, HH, fun p => hw.out p, ⟨hb.os, hb.tape, hb.output, hb.size, hb.block⟩⟩, ?_⟩
          simp [intOf]; omega
        · have hne : s ≠ t := by rw [hs, ht]; exact he
          have g1 : decide ((s : Int) = (t : Int)) = false := decide_eq_false (by omega)
          have g2 : ((s : Int) == (t : Int)) = false := by rw [beq_eq_false_iff_ne]; omega
          have g3 : decide (s = t) = false := decide_eq_false hne
          have g4 : (s == t) = false := by rw [beq_eq_false_iff_ne]; exact hne
          have g5 : ((s : Int) != (t : Int)) = true := by rw [bne_iff_ne]; omega
          have HH : Hid (decide (Ls = Ms) = false) := by
            show _ = _
            exact decide_eq_false fun e => he (by rw [e])
          clear hs ht hc hc2 HR HR2 he HF hkL hkM
          go_wp2
          go_quiet (fail)
          go_wp2
          go_ret
          exact ⟨by rw [HH.out]; rfl, ⟨hb.os, hb.tape, hb.output, hb.size, hb.block⟩⟩
      · have HH : Hid (decide (Ls = Ms) = true) := by
          show _ = _
          refine decide_eq_true (List.ext_getElem (by have := HN.out; have := HM.out; omega) fun j h1 h2 => ?_)
          have := HF.out j (by have := HN.out; omega)
          rw [List.getD, List.getElem?_eq_getElem h1, List.getD, List.getElem?_eq_getElem h2] at this
          exact this
        clear HF HR HR2
        go_wp2
        go_ret
        exact ⟨by rw [HH.out]; rfl, hb⟩
  · have hne : (n : Int) ≠ (m : Int) := by omega
    have HH : Hid (decide (Ls = Ms) = false) := by
      show _ = _
      exact decide_eq_false fun e => hnm (by rw [HN.out, HM.out, e])
    go_enter Tryd.func20, Tryd.ntmps20
    go_wp2
    go_ret
    exact ⟨by rw [HH.out]; rfl, Below.refl _ _⟩

/-- A deed's number; 0 without one. -/
def l2L (D : List (Int × Int)) (i : Nat) : Int := (D.getD i (0, 0)).2
set_option maxRecDepth 100000 in
set_option maxHeartbeats 1000000 in
theorem l2_any (D : List (Int × Int)) (A : Option Addr) (n c B : Nat) (i : Nat) (w : World) (HN : Hid (n = D.length)) (hr : DS w B A D) (hn : n ≤ 1000000) (hi : i ≤ 1000000) :
    Calls Tryd.prog 23 #[.slice A n c, .int .i64 (i : Int)] w fun e w' => e = .returned (.int .i64 (l2L D i)) ∧ Below w.heap.size w w' := by
  have u0 : (0 : Int) ≤ (i : Int) := by omega
  by_cases h : i < n
  · have hL : i < D.length := by have := HN.out; omega
    obtain ⟨b, off, rfl, hb, hc⟩ := hr (by omega)
    have hck := (hc i hL).2
    have HV : Hid (l2L D i = D[i].2) := by show _ = _; unfold l2L; rw [List.getD, List.getElem?_eq_getElem hL]; rfl
    obtain ⟨z, hz⟩ : ∃ z, z = D[i].2 := ⟨_, rfl⟩
    rw [← hz] at hck HV
    have u1 : (i : Int) < (n : Int) := by omega
    clear hz hc hr
    go_enter Tryd.func23, Tryd.ntmps23
    go_wp2
    go_ret
    exact ⟨by rw [HV.out]; rfl, Below.refl _ _⟩
  · have HV : Hid (l2L D i = 0) := by show _ = _; unfold l2L; rw [List.getD, List.getElem?_eq_none (by have := HN.out; omega)]; rfl
    have u1 : ¬ (i : Int) < (n : Int) := by omega
    clear hr
    go_enter Tryd.func23, Tryd.ntmps23
    go_wp2
    go_ret
    exact ⟨by rw [HV.out]; rfl, Below.refl _ _⟩

end Go.Proofs.YtppjeakgabakeaaDoor
