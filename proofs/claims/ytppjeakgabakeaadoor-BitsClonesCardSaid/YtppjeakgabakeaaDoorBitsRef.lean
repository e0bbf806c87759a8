/- The walks of the reference's Has and First (layer 5). -/
import Derived.Test.YtppjeakgabakeaaDoorBitsMem
set_option linter.unusedVariables false
namespace Go.Proofs.YtppjeakgabakeaaDoor
open Go.RowKit

set_option maxRecDepth 100000 in
set_option maxHeartbeats 1000000 in
theorem refHas_any (l : List Bool) (A : Option Addr) (n c B : Nat) (i : Int) (w : World) (HN : Hid (n = l.length)) (hr : BS w B A l) (hn : n ≤ 1000000) :
    Calls Tryd.prog 15 #[.agg #[.slice A n c], .int .i64 i] w fun e w' => e = .returned (.bool (inB l i)) ∧ Below w.heap.size w w' := by
  have HR : Hid (0 < l.length → ∃ b off, A = some ⟨b, off, none⟩ ∧ b < w.heap.size ∧ ∀ k, k < l.length → w.cell? ⟨b, off + k, none⟩ = some (.bool (l.getD k false))) := fun h => hr.lt.at_ h
  clear hr
  by_cases h0 : 0 ≤ i
  · obtain ⟨k, rfl⟩ : ∃ k : Nat, i = (k : Int) := ⟨i.toNat, by omega⟩
    by_cases h1 : k < n
    · have hkL : k < l.length := by have := HN.out; omega
      obtain ⟨b, off, rfl, hb, hc⟩ := HR.out (by omega)
      obtain ⟨x, hx⟩ : ∃ x, x = l.getD k false := ⟨_, rfl⟩
      have HV : Hid (inB l (k : Int) = x) := by
        show _ = _
        unfold inB
        rw [decide_eq_true (by omega), Bool.true_and, hx]
        simp
      have hck := hc k hkL
      rw [← hx] at hck
      have u1 : (k : Int) < (n : Int) := by omega
      have d0 : decide ((k : Int) ≥ 0) = true := decide_eq_true (by omega)
      have d1 : decide ((0 : Int) ≤ (k : Int)) = true := decide_eq_true (by omega)
      have d2 : decide ((k : Int) < (n : Int)) = true := decide_eq_true u1
      have d3 : decide (k < n) = true := decide_eq_true h1
      clear hx hc HR hkL
      go_enter Tryd.func15, Tryd.ntmps15
      go_wp2
      go_ret
      exact ⟨by rw [HV.out]; rfl, (Below.refl _ _).alloc (Nat.le_refl _) _⟩
    · have HV : Hid (inB l (k : Int) = false) := by
        show _ = _
        have := HN.out
        unfold inB
        rw [List.getD, List.getElem?_eq_none (by omega)]
        simp
      have u1 : ¬ (k : Int) < (n : Int) := by omega
      have d0 : decide ((k : Int) ≥ 0) = true := decide_eq_true (by omega)
      have d2 : decide ((k : Int) < (n : Int)) = false := decide_eq_false u1
      clear HR
      go_enter Tryd.func15, Tryd.ntmps15
      go_wp2
      go_ret
      exact ⟨by rw [HV.out]; rfl, (Below.refl _ _).alloc (Nat.le_refl _) _⟩
  · have HV : Hid (inB l i = false) := by
      show _ = _
      unfold inB
      rw [decide_eq_false (fun h => h0 h.1), Bool.false_and]
    have d0 : decide (i ≥ 0) = false := decide_eq_false h0
    have d1 : decide ((0 : Int) ≤ i) = false := decide_eq_false h0
    clear HR
    go_enter Tryd.func15, Tryd.ntmps15
    go_wp2
    go_ret
    exact ⟨by rw [HV.out]; rfl, (Below.refl _ _).alloc (Nat.le_refl _) _⟩

set_option maxRecDepth 100000 in
set_option maxHeartbeats 1000000 in
theorem refFirst_any (l : List Bool) (A : Option Addr) (n c B : Nat) (a : Int) (q : Bool) (w : World) (HN : Hid (n = l.length)) (hr : BS w B A l) (hn : n ≤ 1000000) :
    Calls Tryd.prog 17 #[.agg #[.slice A n c], .int .i64 a, .bool q] w fun e w' => e = .returned (.int .i64 (firstB l a q)) ∧ Below w.heap.size w w' := by
  have HR : Hid (0 < l.length → ∃ b off, A = some ⟨b, off, none⟩ ∧ b < w.heap.size ∧ ∀ k, k < l.length → w.cell? ⟨b, off + k, none⟩ = some (.bool (l.getD k false))) := fun h => hr.lt.at_ h
  clear hr
  go_enter Tryd.func17, Tryd.ntmps17
  go_wp2
  go_loopw [7] (fun i wr => ∃ k : Nat, k ≤ n ∧ i = .int .i64 (k : Int) ∧ Hid (firstK l a q k = none) ∧ wr = w.alloc (.cells #[.slice A n c] 29)) (fun i _ => n - (intOf i).toNat)
  case atStart => exact ⟨0, by omega, rfl, by show _ = _; rfl, rfl⟩
  case round =>
    obtain ⟨k, hk, rfl, HF, rfl⟩ := hrel
    by_cases hlt : k < n
    · have hkL : k < l.length := by have := HN.out; omega
      obtain ⟨b, off, rfl, hb, hc⟩ := HR.out (by omega)
      obtain ⟨x, hx⟩ : ∃ x, x = l.getD k false := ⟨_, rfl⟩
      have hck := hc k hkL
      rw [← hx] at hck
      have u0 : (0 : Int) ≤ (k : Int) := by omega
      have u1 : (k : Int) < (n : Int) := by omega
      have d1 : decide ((k : Int) < (n : Int)) = true := decide_eq_true u1
      by_cases ha : a ≤ (k : Int)
      · have d0 : decide ((k : Int) ≥ a) = true := decide_eq_true ha
        by_cases hq : x = q
        · have dq : (x == q) = true := by simp [hq]
          have HH : Hid (firstB l a q = (k : Int)) := by
            show _ = _
            unfold firstB
            rw [(firstK_some l a q k l.length).2 ⟨hkL, ha, by rw [← hx]; exact hq, fun i hi hb' => (firstK_none l a q k).1 HF.out i hi hb'⟩]
          clear hx hc HR HF hq
          go_wp2
          go_ret
          exact ⟨by rw [HH.out]; rfl, (Below.refl _ _).alloc (Nat.le_refl _) _⟩
        · have dq : (x == q) = false := by simp [hq]
          have HH : Hid (firstK l a q (k + 1) = none) := by
            show _ = _
            rw [firstK, HF.out]
            exact if_neg (fun h => hq (by rw [hx]; exact h.2))
          clear hx hc HR HF hq
          go_wp2
          refine ⟨⟨k + 1, by omega, by go_num, HH, by trivial⟩, ?_⟩
          simp [intOf]; omega
      · have d0 : decide ((k : Int) ≥ a) = false := decide_eq_false ha
        have HH : Hid (firstK l a q (k + 1) = none) := by
          show _ = _
          rw [firstK, HF.out]
          exact if_neg (fun h => ha h.1)
        clear hx hc HR HF
        go_wp2
        refine ⟨⟨k + 1, by omega, by go_num, HH, by trivial⟩, ?_⟩
        simp [intOf]; omega
    · have hkn : k = l.length := by have := HN.out; omega
      have u1 : ¬ (k : Int) < (n : Int) := by omega
      have d1 : decide ((k : Int) < (n : Int)) = false := decide_eq_false u1
      have HH : Hid (firstB l a q = -1) := by
        show _ = _
        have := HF.out
        unfold firstB
        rw [← hkn, this]
      clear HF HR hkn
      go_wp2
      go_ret
      exact ⟨by rw [HH.out]; rfl, (Below.refl _ _).alloc (Nat.le_refl _) _⟩

end Go.Proofs.YtppjeakgabakeaaDoor
