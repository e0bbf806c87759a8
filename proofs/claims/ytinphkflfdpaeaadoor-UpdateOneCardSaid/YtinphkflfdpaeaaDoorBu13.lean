/- Lemmas under the proofs of this place: OpRName, Steps, CurB. No statement is proved here. -/
import Derived.Test.YtinphkflfdpaeaaDoorBu05
import Derived.Test.YtinphkflfdpaeaaDoorBu08
import Derived.Deep.CutRange
set_option linter.unusedSimpArgs false
set_option linter.unusedVariables false
set_option maxRecDepth 100000
set_option maxHeartbeats 16000000
namespace Go.Proofs.YtinphkflfdpaeaaDoor
section
open Go.RowKit
theorem refName_any (L : List UInt8) (w : World) (hl : L.length ≤ 1000000) :
    Calls Tryd.prog 71 #[.string (text L)] w fun e w' => e = .returned (.bool (nameOk L)) ∧ Below w.heap.size w w' := by
  obtain ⟨t, ht⟩ : ∃ t, t = text L := ⟨_, rfl⟩
  obtain ⟨n, hn⟩ : ∃ n, n = L.length := ⟨_, rfl⟩
  have hts : t.size = n := by rw [ht, hn]; exact text_size L
  have HI : Hid (∀ k, k < n → ∀ V, (Instr.index 9 (.string t) (.int .i64 (k : Int))).run Tryd.prog V = .ok (.int .u8 ((L.getD k 0).toNat : Int)) V) := fun k hk V => by
    rw [ht]; exact index_text L .i64 k V (by omega)
  have HN := Lib.hid hn
  have hn1 : n ≤ 1000000 := by omega
  rw [← ht]
  clear ht hn
  go_enter Tryd.func71, Tryd.ntmps71
  go_wp2
  go_loopw [3] (fun i wr => ∃ k : Nat, k ≤ n ∧ i = .int .i64 (k : Int) ∧ Hid ((L.take k).all nameB = true) ∧ Hid (Below w.heap.size w wr)) (fun i _ => n - (intOf i).toNat)
  case atStart => exact ⟨0, by omega, rfl, rfl, Below.refl _ _⟩
  case round =>
    obtain ⟨k, hk, rfl, HA, HB⟩ := hrel
    by_cases hlt : k < n
    · have d0 : decide ((k : Int) < (n : Int)) = true := decide_eq_true (by omega)
      have d1 : decide (k < n) = true := decide_eq_true hlt
      have hi := HI.out k hlt
      obtain ⟨b, hb⟩ : ∃ b, b = L.getD k 0 := ⟨_, rfl⟩
      rw [← hb] at hi
      obtain ⟨m, hm⟩ : ∃ m, m = b.toNat := ⟨_, rfl⟩
      rw [← hm] at hi
      have HS : Hid ((L.take (k + 1)).all nameB = nameB b) := by
        show _ = _
        have hkL : k < L.length := by have := HN.out; omega
        have e : L[k] = b := by rw [hb, List.getD, List.getElem?_eq_getElem hkL]; rfl
        have h0 := HA.out
        rw [List.take_succ_eq_append_getElem hkL, List.all_append, h0, e]
        simp
      have HM := Lib.hid hm
      have y7 : IntKind.i64.wrap ((k : Int) + 1) = (k : Int) + 1 := IntWalk.i64_in _ (by omega)
      clear hb hm
      go_upto_region 5 with (fail)
      go_cut [32] from 5 to 32 (fun s32 wx => s32 = .bool (!nameB b) ∧ wx = wr)
      case first =>
        have hN : nameB b = ((decide (97 ≤ m) && decide (m ≤ 122)) || (decide (48 ≤ m) && decide (m ≤ 57)) || decide (m = 45)) := by rw [HM.out]; rfl
        by_cases c1 : 97 ≤ m
        · have e1 : decide ((m : Int) ≥ 97) = true := decide_eq_true (by omega)
          have e1' : decide ((97 : Int) ≤ (m : Int)) = true := decide_eq_true (by omega)
          by_cases c2 : m ≤ 122
          · have e2 : decide ((m : Int) ≤ 122) = true := decide_eq_true (by omega)
            go_wp2
            go_meet
            exact ⟨by rw [hN, decide_eq_true c1, decide_eq_true c2]; rfl, rfl⟩
          · have e2 : decide ((m : Int) ≤ 122) = false := decide_eq_false (by omega)
            have e3 : decide ((m : Int) ≥ 48) = true := decide_eq_true (by omega)
            have e3' : decide ((48 : Int) ≤ (m : Int)) = true := decide_eq_true (by omega)
            have e4 : decide ((m : Int) ≤ 57) = false := decide_eq_false (by omega)
            have e5 : decide ((m : Int) = 45) = false := decide_eq_false (by omega)
            go_wp2
            go_meet
            exact ⟨by rw [hN, decide_eq_false c2, decide_eq_false (show ¬ m ≤ 57 by omega), decide_eq_false (show ¬ m = 45 by omega)]; simp; omega, rfl⟩
        · have e1 : decide ((m : Int) ≥ 97) = false := decide_eq_false (by omega)
          have e1' : decide ((97 : Int) ≤ (m : Int)) = false := decide_eq_false (by omega)
          by_cases c2 : 48 ≤ m
          · have e3 : decide ((m : Int) ≥ 48) = true := decide_eq_true (by omega)
            have e3' : decide ((48 : Int) ≤ (m : Int)) = true := decide_eq_true (by omega)
            by_cases c3 : m ≤ 57
            · have e4 : decide ((m : Int) ≤ 57) = true := decide_eq_true (by omega)
              go_wp2
              go_meet
              exact ⟨by rw [hN, decide_eq_true c2, decide_eq_true c3]; simp, rfl⟩
            · have e4 : decide ((m : Int) ≤ 57) = false := decide_eq_false (by omega)
              have e5 : decide ((m : Int) = 45) = false := decide_eq_false (by omega)
              go_wp2
              go_meet
              exact ⟨by rw [hN, decide_eq_false c1, decide_eq_false c3, decide_eq_false (show ¬ m = 45 by omega)]; simp; omega, rfl⟩
          · have e3 : decide ((m : Int) ≥ 48) = false := decide_eq_false (by omega)
            have e3' : decide ((48 : Int) ≤ (m : Int)) = false := decide_eq_false (by omega)
            by_cases c3 : m = 45
            · have e5 : decide ((m : Int) = 45) = true := decide_eq_true (by omega)
              go_wp2
              go_meet
              exact ⟨by rw [hN, decide_eq_true c3]; simp, rfl⟩
            · have e5 : decide ((m : Int) = 45) = false := decide_eq_false (by omega)
              go_wp2
              go_meet
              exact ⟨by rw [hN, decide_eq_false c1, decide_eq_false c2, decide_eq_false c3]; simp; try omega, rfl⟩
      case rest =>
        obtain ⟨rfl, hw⟩ := hcut
        subst hw
        cases hnb : nameB b with
        | false =>
          have hno : nameOk L = false := by
            have h0 := HS.out
            rw [hnb] at h0
            have : L.all nameB = false := by
              rw [← List.take_append_drop (k + 1) L, List.all_append, h0]
              rfl
            simp [nameOk, this]
          simp only [hnb, Bool.not_false]
          go_wp2
          go_ret
          exact ⟨by rw [hno]; rfl, HB.out⟩
        | true =>
          simp only [hnb, Bool.not_true]
          go_wp2
          go_roundw
          case rel => exact ⟨k + 1, by omega, by go_num, by show _ = _; rw [HS.out]; exact hnb, HB.out⟩
          case measure => simp [intOf]; omega
    · have d0 : decide ((k : Int) < (n : Int)) = false := decide_eq_false (by omega)
      have d1 : decide (k < n) = false := decide_eq_false hlt
      have hall : L.all nameB = true := by
        have h0 := HA.out
        rwa [List.take_of_length_le (by have := HN.out; omega)] at h0
      have hN : nameOk L = (decide (1 ≤ n) && decide (n ≤ 12)) := by rw [HN.out]; simp [nameOk, hall]
      clear hall HI
      by_cases c1 : 1 ≤ n
      · have e1 : decide ((n : Int) ≥ 1) = true := decide_eq_true (by omega)
        have e1' : decide ((1 : Int) ≤ (n : Int)) = true := decide_eq_true (by omega)
        by_cases c2 : n ≤ 12
        · have e2 : decide ((n : Int) ≤ 12) = true := decide_eq_true (by omega)
          go_wp2
          go_ret
          exact ⟨by rw [hN, decide_eq_true c1, decide_eq_true c2]; rfl, HB.out⟩
        · have e2 : decide ((n : Int) ≤ 12) = false := decide_eq_false (by omega)
          go_wp2
          go_ret
          exact ⟨by rw [hN, decide_eq_false c2]; simp, HB.out⟩
      · have e1 : decide ((n : Int) ≥ 1) = false := decide_eq_false (by omega)
        have e1' : decide ((1 : Int) ≤ (n : Int)) = false := decide_eq_false (by omega)
        go_wp2
        go_ret
        exact ⟨by rw [hN, decide_eq_false c1]; simp, HB.out⟩
end
section
def stepNum : St → St × Nat
  | none => (none, 0)
  | some L => match getL L with
    | some (n, k) => (some (L.drop k), n)
    | none => (none, 0)
def stepText (st : St) : St × List UInt8 :=
  if 262144 < (stepNum st).2 then (none, []) else stepTake (stepNum st).2 (stepNum st).1
end
section
open Go.RowKit
def headN : List UInt8 → Nat
  | [] => 0
  | b :: _ => b.toNat
def stepByte (st : St) : St × Nat := ((stepTake 1 st).1, headN (stepTake 1 st).2)
end
end Go.Proofs.YtinphkflfdpaeaaDoor
