/- The walk of the reference's List (layer 5). -/
import Derived.Test.YtppjeakgabakeaaDoorBitsRef
import Derived.Test.YtppjeakgabakeaaDoorBitsInts
set_option linter.unusedVariables false
namespace Go.Proofs.YtppjeakgabakeaaDoor
open Go.RowKit

set_option maxRecDepth 100000 in
set_option maxHeartbeats 1000000 in
theorem refList_any (l : List Bool) (A : Option Addr) (n c B : Nat) (w : World) (HN : Hid (n = l.length)) (hr : BS w B A l) (hn : n ≤ 1000000) :
    Calls Tryd.prog 13 #[.agg #[.slice A n c]] w (GivesInts (listB l) w) := by
  obtain ⟨i0, hi0, hz0, hz1, hz2⟩ := info_parts Tryd.infoInt
  have HR : Hid (0 < l.length → ∃ b off, A = some ⟨b, off, none⟩ ∧ b < w.heap.size ∧ ∀ k, k < l.length → w.cell? ⟨b, off + k, none⟩ = some (.bool (l.getD k false))) := fun h => hr.lt.at_ h
  clear hr
  go_enter Tryd.func13, Tryd.ntmps13
  go_wp2
  obtain ⟨w1, hw1⟩ : ∃ w1, w1 = w.alloc (.cells #[.slice A n c] 29) := ⟨_, rfl⟩
  obtain ⟨g, hg⟩ : ∃ g, g = w.heap.size := ⟨_, rfl⟩
  have B1 : Below g w w1 := by rw [hw1, hg]; exact (Below.refl _ _).alloc (Nat.le_refl _) _
  have HW : Hid (Below w.heap.size w w1) := by show Below _ _ _; rw [← hg]; exact B1
  have K1 : w1.cell? ⟨g, 0, none⟩ = some (.slice A n c) := by rw [hw1, hg]; exact (Blk.new _ _ _).cell 0
  have G1 : g < w1.heap.size := by rw [hw1, hg]; exact (Blk.new _ _ _).lt
  have HR1 : Hid (0 < l.length → ∃ b off, A = some ⟨b, off, none⟩ ∧ b < w1.heap.size ∧ ∀ k, k < l.length → w1.cell? ⟨b, off + k, none⟩ = some (.bool (l.getD k false))) := by
    intro h
    obtain ⟨b, off, e, hb, hc⟩ := HR.out h
    exact ⟨b, off, e, by omega, fun k hk => (B1.cell (p := ⟨b, off + k, none⟩) (by rw [hg]; exact hb)).trans (hc k hk)⟩
  rw [← hw1, ← hg]
  have S1 : w.heap.size ≤ w1.heap.size := by omega
  clear hw1 HR B1 hg
  go_loopw [3, 4] (fun v i wr => ∃ (k y : Nat), k ≤ n ∧ i = .int .i64 (k : Int) ∧ y ≤ k ∧ Hid (y = (listK l k).length) ∧ wr.ownsRow w1.heap.size 3 1 v y (icells (listK l k)) ∧ Below w1.heap.size w1 wr) (fun _ i _ => n - (intOf i).toNat)
  case atStart => exact ⟨0, 0, by omega, rfl, by omega, rfl, World.ownsRow_nil _ _ _ _, Below.refl _ _⟩
  case round =>
    obtain ⟨k, y, hk, rfl, hyk, HY, hown, hb⟩ := hrel
    have hset := (hb.cell (p := ⟨g, 0, none⟩) G1).trans K1
    have u0 : (0 : Int) ≤ (k : Int) := by omega
    by_cases hlt : k < n
    · have hkL : k < l.length := by have := HN.out; omega
      obtain ⟨b, off, rfl, hbb, hcc⟩ := HR1.out (by omega)
      obtain ⟨x, hx⟩ : ∃ x, x = l.getD k false := ⟨_, rfl⟩
      have hck := hcc k hkL
      rw [← hx, ← hb.cell (p := ⟨b, off + k, none⟩) hbb] at hck
      have u1 : (k : Int) < (n : Int) := by omega
      have d1 : decide ((k : Int) < (n : Int)) = true := decide_eq_true u1
      cases x with
      | true =>
        have HE : Hid (listK l (k + 1) = listK l k ++ [k]) := by
          show _ = _
          rw [listK, if_pos hx.symm]
        clear hx hcc HR1 hkL
        go_wp2_with (first
          | (at_builtin; refine wpList_append_own _ rfl (.tmp 17) (.tmp 19) _ rfl w1.heap.size 3 i0 _ 1 8 Tryd.underlying37 hi0 hz0 hz1 hz2 rfl (by omega) _ y (icells (listK l k)) rfl (hown.alloc _) ⟨wr.heap.size, 0, none⟩ 1 1 [Value.int .i64 (k : Int)] rfl rfl (cell_one_new _ _ _) (by intro u hu; rw [List.mem_singleton] at hu; subst hu; rfl) (by simp only [maxLen]; omega) (by omega) (by have := hb.size; simp; omega) ?_; intro v2 w2 ho2 hg2 hat2; have b2 : Below w1.heap.size w1 w2 := (hb.alloc hb.size _).grown hg2 (by have := hb.size; simp; omega) (fun q hq => (hown.lt q hq).1)))
        have e2 : icells (listK l k) ++ [Value.int .i64 (k : Int)] = icells (listK l (k + 1)) := by rw [HE.out, icells_append]; rfl
        rw [e2] at ho2
        refine ⟨⟨k + 1, y + 1, by omega, by go_num, by omega, by show _ = _; rw [HE.out, HY.out, List.length_append]; rfl, ho2, b2⟩, ?_⟩
        simp [intOf]; omega
      | false =>
        have HE : Hid (listK l (k + 1) = listK l k) := by
          show _ = _
          rw [listK, if_neg (by rw [← hx]; decide)]
        clear hx hcc HR1 hkL
        go_wp2
        refine ⟨⟨k + 1, y, by omega, by go_num, by omega, by show _ = _; rw [HE.out]; exact HY.out, by rw [HE.out]; exact hown, hb⟩, ?_⟩
        simp [intOf]; omega
    · have e : listK l k = listB l := by unfold listB; congr 1; have := HN.out; omega
      rw [e] at HY hown
      have u1 : ¬ (k : Int) < (n : Int) := by omega
      have d1 : decide ((k : Int) < (n : Int)) = false := decide_eq_false u1
      have HO := Lib.hid hown
      clear HR1 e hown
      go_wp2
      go_ret
      refine GivesInts.own (base := w1.heap.size) ?_ (HW.out.trans (hb.mono S1))
      rw [← HY.out]; exact HO.out

end Go.Proofs.YtppjeakgabakeaaDoor
