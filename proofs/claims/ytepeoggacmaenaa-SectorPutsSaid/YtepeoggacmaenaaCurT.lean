/- The walk of num's cursor: Take. -/
import Derived.Test.YtepeoggacmaenaaCur
set_option linter.unusedVariables false
set_option linter.unusedSimpArgs false
namespace Go.Proofs.Ytepeoggacmaenaa
open Go.RowKit

abbrev St := Option (List UInt8)
def stepTake (n : Int) : St → St × List UInt8
  | none => (none, [])
  | some L => if n < 0 ∨ (L.length : Int) < n then (none, []) else (some (L.drop n.toNat), L.take n.toNat)
theorem cur_cut {w : World} {g : Nat} {A : Option Addr} {L : List UInt8} {c k : Nat} (HG : Hid (w.heap[g]? = some (.cells #[.slice A L.length c, .bool false] 66 (0, 0)))) (hr : RB w w.heap.size A L) (hc : L.length ≤ c) (hl : L.length ≤ 1048576)
    (hk : k ≤ L.length) (A' : Option Addr) (c' : Nat) (h1 : c = k → A' = A) (h2 : c ≠ k → A' = A.map (·.add k)) (hc' : c' = c - k) :
    Cur (w.setCell ⟨g, 0, none⟩ (.slice A' (L.length - k) c')) g (some (L.drop k)) := by
  subst hc'
  have hA : A' = if c = k then A else A.map (·.add (k * 1)) := by
    rw [Nat.mul_one]
    by_cases h : c = k
    · rw [if_pos h]; exact h1 h
    · rw [if_neg h]; exact h2 h
  have hz : ∀ u, (w.setCell ⟨g, 0, none⟩ u).heap.size = w.heap.size := fun u => by simp [World.setCell]
  refine ⟨A', c - k, ?_, ?_, by rw [List.length_drop]; omega, by rw [List.length_drop]; omega⟩
  · rw [List.length_drop]
    exact Blk.set_ HG.out 0 (.slice A' (L.length - k) (c - k))
  · rw [hz, hA]
    exact rb_far (rb_cut hr hk hc) HG.out (cur_cells _ _ _ _) _
/-- A call on a cursor that gives bytes. -/
def GivesCur (g : Nat) (r : St × List UInt8) (w : World) (e : Ending) (w' : World) : Prop :=
  ∃ A c, e = .returned (.slice A r.2.length c) ∧ RB w' w'.heap.size A r.2 ∧ Cur w' g r.1 ∧ Only w w' g
set_option maxHeartbeats 1000000 in
theorem take_any (g : Nat) (n : Int) (st : St) (w : World) (h : Cur w g st) :
    Calls Try.prog 32 #[.pointer (some ⟨g, 0, none⟩), .int .i64 n] w (GivesCur g (stepTake n st) w) := by
  have hb := bad_any g _ w h
  have hfl := fail_any g _ w h
  rcases st with _ | L
  · have h' := Lib.hid h
    clear h
    go_enter Try.func32, Try.ntmps32
    go_wp2_with (go_at_call 44; refine hb.mono ?_; rintro e w' ⟨rfl, rfl⟩)
    go_ret
    exact ⟨none, 0, rfl, RB.none_ _ _, h'.out, only_refl _ _⟩
  · obtain ⟨A, c, hg, hr, hc, hl⟩ := h
    have hc0 : w.cell? ⟨g, 0, none⟩ = some (.slice A L.length c) := (blk_cell hg 0).1
    have hf0 : w.frozen? ⟨g, 0, none⟩ = false := (blk_cell hg 0).2
    have HG := Lib.hid hg
    clear hg
    by_cases hn : n < 0 ∨ (L.length : Int) < n
    · have HS : Hid (stepTake n (some L) = (none, [])) := by show _ = _; simp only [stepTake]; rw [if_pos hn]
      rcases hn with hn | hn
      · have hd : decide (n < 0) = true := by simp [hn]
        go_enter Try.func32, Try.ntmps32
        go_wp2_with (first
          | (go_at_call 44; refine hb.mono ?_; rintro e w' ⟨rfl, rfl⟩)
          | (go_at_call 46; refine hfl.mono ?_; rintro e w' ⟨rfl, hcur, honly, hsz⟩))
        go_ret
        rw [HS.out]
        exact ⟨none, 0, rfl, RB.none_ _ _, hcur, honly⟩
      · have hd : decide (n < 0) = false := by simp; omega
        have hd2 : decide ((L.length : Int) < n) = true := by simp [hn]
        go_enter Try.func32, Try.ntmps32
        go_wp2_with (first
          | (go_at_call 44; refine hb.mono ?_; rintro e w' ⟨rfl, rfl⟩)
          | (go_at_call 46; refine hfl.mono ?_; rintro e w' ⟨rfl, hcur, honly, hsz⟩))
        go_ret
        rw [HS.out]
        exact ⟨none, 0, rfl, RB.none_ _ _, hcur, honly⟩
    · have hd : decide (n < 0) = false := by simp; omega
      have hd2 : decide ((L.length : Int) < n) = false := by simp; omega
      obtain ⟨k, rfl⟩ : ∃ k : Nat, n = (k : Int) := ⟨n.toNat, by omega⟩
      have hkl : k ≤ L.length := by omega
      have HS : Hid (stepTake (k : Int) (some L) = (some (L.drop k), L.take k)) := by show _ = _; simp only [stepTake]; rw [if_neg hn]; simp
      clear hn
      go_enter Try.func32, Try.ntmps32
      have hlt : g < w.heap.size := Blk.lt HG.out
      have HLK : Hid ((L.take k).length = k) := by show _ = _; rw [List.length_take]; omega
      have hrt : RB w w.heap.size A (L.take k) := by
        refine ⟨by rw [cells_length]; simp, fun h0 => ?_⟩
        obtain ⟨ad, e, hb', hcc⟩ := hr.2 (by rw [List.length_take] at h0; omega)
        refine ⟨ad, e, hb', fun j u hu => hcc j u ?_⟩
        rw [← cells_take, List.getElem?_take] at hu
        split at hu
        · exact hu
        · cases hu
      go_wp2_with (first
        | (go_at_call 44; refine hb.mono ?_; rintro e w' ⟨rfl, rfl⟩)
        | (go_at_call 45; refine (copied_any (L.take k) k _ _ _ (by rw [List.length_take]; omega) hrt (by rw [List.length_take]; omega)).mono ?_; rintro e w1 ⟨A1, c1, he1, hown1, hb1⟩; rw [HLK.out] at he1; subst he1; have hc1 := (hb1.cell (p := ⟨g, 0, none⟩) hlt).trans hc0; have hf1 := (hb1.frozen (p := ⟨g, 0, none⟩) hlt).trans hf0))
      all_goals
        have HG1 : Hid (w1.heap[g]? = some (.cells #[.slice A L.length c, .bool false] 66 (0, 0))) := Blk.below HG.out hb1 hlt
        have hr1 : RB w1 w1.heap.size A L := (hr.below hb1).more hb1.size
        have hcur := fun A' c' a b d => cur_cut HG1 hr1 hc hl hkl A' c' a b d
        have ho1 : RB w1 w1.heap.size A1 (L.take k) := own_rb hown1
        go_ret
        rw [HS.out]
        refine ⟨A1, c1, by show _ = Ending.returned (.slice A1 (L.take k).length c1); rw [HLK.out]; rfl, ?_, hcur _ _ (fun hx => by first | rfl | (exact absurd hx (by assumption))) (fun hx => by first | rfl | (exact absurd (by assumption) hx)) (by omega), only_trans (only_below hb1 g) (only_set _ _ _ _)⟩
        have hz : ∀ u, (w1.setCell ⟨g, 0, none⟩ u).heap.size = w1.heap.size := fun u => by simp [World.setCell]
        rw [hz]
        exact rb_far ho1 HG1.out (cur_cells _ _ _ _) _
theorem take_nil (n : Int) (w : World) : Calls Try.prog 32 #[.pointer none, .int .i64 n] w fun e w' => e = .returned (.slice none 0 0) ∧ w = w' := by
  go_enter Try.func32, Try.ntmps32
  go_wp2_with (go_at_call 44; refine (bad_nil _).mono ?_; rintro e w' ⟨rfl, rfl⟩)
  go_ret
  exact ⟨rfl, rfl⟩
end Go.Proofs.Ytepeoggacmaenaa
