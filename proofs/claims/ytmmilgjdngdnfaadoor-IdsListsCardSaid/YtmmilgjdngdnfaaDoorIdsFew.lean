/- The walks of the law's few and id; a slice of texts as an argument, opened (layer 4). -/
import Derived.Test.YtmmilgjdngdnfaaDoorIdsRef
import Derived.Test.YtmmilgjdngdnfaaDoorShaPText
import Derived.Test.YtmmilgjdngdnfaaDoorLaw
import Derived.Deep.Strs
set_option linter.unusedVariables false
namespace Go.Proofs.YtmmilgjdngdnfaaDoor
open Go.RowKit

def fewK (Ls : List Bs) (k : Nat) : Bool := (Ls.take k).all fun x => decide (x.length ≤ 100)
def fewL (Ls : List Bs) : Bool := decide (Ls.length ≤ 60) && Ls.all fun x => decide (x.length ≤ 100)

set_option maxRecDepth 100000 in
set_option maxHeartbeats 1000000 in
theorem few_any (Ls : List Bs) (A : Option Addr) (n c B : Nat) (w : World) (HN : Hid (n = Ls.length)) (hr : SS w B A Ls) :
    Calls Tryd.prog 7 #[.slice A n c] w fun e w' => e = .returned (.bool (fewL Ls)) ∧ w = w' := by
  have HR : Hid (0 < Ls.length → ∃ b off, A = some ⟨b, off, none⟩ ∧ b < B ∧ ∀ k, k < Ls.length → w.cell? ⟨b, off + k, none⟩ = some (.string (text (Ls.getD k [])))) := fun h => hr.at_ h
  clear hr
  by_cases h60 : n ≤ 60
  · have d0 : ¬ ((60 : Int) < (n : Int)) := by omega
    go_enter Tryd.func7, Tryd.ntmps7
    go_wp2
    go_loopw [3] (fun i wr => ∃ k : Nat, k ≤ n ∧ i = .int .i64 (k : Int) ∧ Hid (fewK Ls k = true) ∧ w = wr) (fun i _ => n - (intOf i).toNat)
    case atStart => exact ⟨0, by omega, rfl, rfl, by trivial⟩
    case round =>
      obtain ⟨k, hk, rfl, HF, rfl⟩ := hrel
      have u0 : (0 : Int) ≤ (k : Int) := by omega
      by_cases hlt : k < n
      · have hkL : k < Ls.length := by have := HN.out; omega
        obtain ⟨b, off, rfl, _, hcc⟩ := HR.out (by omega)
        obtain ⟨x, hx⟩ : ∃ x, x = Ls.getD k [] := ⟨_, rfl⟩
        obtain ⟨s, hs⟩ : ∃ s, s = text x := ⟨_, rfl⟩
        have hck := hcc k hkL
        rw [← hx, ← hs] at hck
        obtain ⟨m, hm⟩ : ∃ m, m = x.length := ⟨_, rfl⟩
        have hsm : s.size = m := by rw [hs, text_size, hm]
        have u1 : (k : Int) < (n : Int) := by omega
        have e : x = Ls[k] := by rw [hx, List.getD, List.getElem?_eq_getElem hkL]; rfl
        by_cases h100 : m ≤ 100
        · have d1 : ¬ ((100 : Int) < (m : Int)) := by omega
          have HH : Hid (fewK Ls (k + 1) = true) := by
            show _ = _
            unfold fewK
            rw [List.take_succ_eq_append_getElem hkL, List.all_append]
            have h1 : (Ls.take k).all (fun x => decide (x.length ≤ 100)) = true := HF.out
            rw [h1, ← e]
            simp; omega
          clear hx hs hcc HR HF hm e hkL
          go_wp2
          refine ⟨⟨k + 1, by omega, by go_num, HH, by trivial⟩, ?_⟩
          simp [intOf]; omega
        · have d1 : (100 : Int) < (m : Int) := by omega
          have HH : Hid (fewL Ls = false) := by
            show _ = _
            unfold fewL
            rw [Bool.and_eq_false_iff]
            right
            rw [List.all_eq_false]
            exact ⟨x, by rw [e]; exact List.getElem_mem _, by simp; omega⟩
          clear hx hs hcc HR HF hm e hkL
          go_wp2
          go_ret
          exact ⟨by rw [HH.out]; rfl, rfl⟩
      · have HH : Hid (fewL Ls = true) := by
          show _ = _
          have := HF.out
          unfold fewK at this
          rw [List.take_of_length_le (by have := HN.out; omega)] at this
          unfold fewL
          rw [this, Bool.and_true]
          exact decide_eq_true (by have := HN.out; omega)
        clear HF HR
        go_wp2
        go_ret
        exact ⟨by rw [HH.out]; rfl, rfl⟩
  · have d0 : (60 : Int) < (n : Int) := by omega
    have HH : Hid (fewL Ls = false) := by
      show _ = _
      unfold fewL
      rw [Bool.and_eq_false_iff]
      left
      exact decide_eq_false (by have := HN.out; omega)
    clear HR
    go_enter Tryd.func7, Tryd.ntmps7
    go_wp2
    go_ret
    exact ⟨by rw [HH.out]; rfl, rfl⟩

set_option maxRecDepth 100000 in
set_option maxHeartbeats 1000000 in
theorem lawId_any (c : UInt8) (w : World) : Calls Tryd.prog 30 #[.int .u8 (c.toNat : Int)] w fun e w' => e = .returned (.string (text (List.replicate 32 c))) ∧ Below w.heap.size w w' := by
  go_enter Tryd.func30, Tryd.ntmps30
  go_wp2
  go_loopw [3, 4] (fun v i wr => ∃ k : Nat, k ≤ 32 ∧ i = .int .i64 (k : Int) ∧ wr.ownsRow w.heap.size 5 1 v k (cells (List.replicate k c)) ∧ Below w.heap.size w wr) (fun _ i _ => 32 - (intOf i).toNat)
  case atStart => exact ⟨0, by omega, rfl, World.ownsRow_nil _ _ _ _, Below.refl _ _⟩
  case round =>
    obtain ⟨k, hk, rfl, hown, hb⟩ := hrel
    have u0 : (0 : Int) ≤ (k : Int) := by omega
    by_cases hlt : k < 32
    · have u1 : (k : Int) < 32 := by omega
      have HC : Hid ((#[.int .u8 (c.toNat : Int)] : Array Value) = (cells [c]).toArray) := rfl
      go_wp2_with (at_builtin; refine append_many rfl (.tmp 9) (.tmp 11) rfl k [c] _ 1 rfl hown hb (Nat.le_refl _) HC.out rfl rfl (by omega) ?_; intro v9 w9 ho9 hb9; clear hown hb)
      rw [← List.replicate_succ'] at ho9
      refine ⟨⟨k + 1, by omega, by go_num, ho9, hb9⟩, ?_⟩
      simp [intOf]; omega
    · have hk32 : k = 32 := by omega
      rw [hk32] at hown
      obtain ⟨A8, c8, rfl⟩ := own_form hown
      have hfr : RB wr wr.heap.size A8 (List.replicate 32 c) := Reads.of_own (base := w.heap.size) (e := 5) (c := c8) hown
      have est := aw_str hfr 32 c8 (by simp)
      clear hown hfr hk32
      go_wp2
      go_ret
      exact ⟨rfl, hb⟩

end Go.Proofs.YtmmilgjdngdnfaaDoor
