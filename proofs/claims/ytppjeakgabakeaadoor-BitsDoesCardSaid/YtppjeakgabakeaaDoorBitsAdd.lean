/- The walks of the reference's Add, Drop (layer 5). -/
import Derived.Test.YtppjeakgabakeaaDoorBitsPut
set_option linter.unusedVariables false
namespace Go.Proofs.YtppjeakgabakeaaDoor
open Go.RowKit

/-- A call that gives a set and a number. -/
def GivesSet (r : List Bool × Int) (n : Nat) (A0 : Option Addr) (w : World) (e : Ending) (w' : World) : Prop := ∃ A c, e = .returned (.tuple #[.agg #[.slice A n c], .int .i64 r.2]) ∧ BS w' w'.heap.size A r.1 ∧ n ≤ c ∧ c ≤ 9223372036854775807 ∧ Below w.heap.size w w' ∧ (A = A0 ∨ ∃ g, A = some ⟨g, 0, none⟩ ∧ w.heap.size ≤ g)
theorem Tryd.notFalse (w : World) : Sem.run Tryd.prog (Op.unary UnOp.not (Value.bool false)) w = Result.ok (Value.bool true) w := rfl
theorem Tryd.notTrue (w : World) : Sem.run Tryd.prog (Op.unary UnOp.not (Value.bool true)) w = Result.ok (Value.bool false) w := rfl

set_option maxRecDepth 100000 in
set_option maxHeartbeats 1000000 in
theorem refAdd_any (l : List Bool) (A : Option Addr) (n c B : Nat) (i : Int) (w : World) (HN : Hid (n = l.length)) (hr : BS w B A l) (hn : n ≤ 1000000) (hc : n ≤ c) (hcm : c ≤ 9223372036854775807) :
    Calls Tryd.prog 10 #[.agg #[.slice A n c], .int .i64 i] w (GivesSet (addB l i) n A w) := by
  have HS : Hid (BS w w.heap.size A l) := hr.lt
  have HR : Hid (0 < l.length → ∃ b off, A = some ⟨b, off, none⟩ ∧ b < w.heap.size ∧ ∀ k, k < l.length → w.cell? ⟨b, off + k, none⟩ = some (.bool (l.getD k false))) := fun h => hr.lt.at_ h
  have HP := Lib.hid (fun (k : Nat) (w1 : World) (hk : k < n) (h1 : Below w.heap.size w w1) => refPut_any l A n c w.heap.size k true w1 HN (HS.out.below h1) hn hk)
  have B2 : Hid (Below w.heap.size w ((w.alloc (.cells #[.slice A n c] 29)).alloc (.cells #[.slice none 0 0] 29))) := by
    show Below _ _ _
    exact ((Below.refl w.heap.size w).alloc (Nat.le_refl _) _).alloc (by simp) _
  have K2 : Hid (Blk ((w.alloc (.cells #[.slice A n c] 29)).alloc (.cells #[.slice none 0 0] 29)) (w.heap.size + 1) 29 #[.slice none 0 0]) := by
    show Blk _ _ _ _
    have h := Blk.new (w.alloc (.cells #[.slice A n c] 29)) 29 #[.slice none 0 0]
    have e : (w.alloc (.cells #[.slice A n c] 29)).heap.size = w.heap.size + 1 := by simp
    rwa [e] at h
  have n0 := fun w' => Tryd.notFalse w'
  have n1 := fun w' => Tryd.notTrue w'
  have HBd := fun A' c' w' => Tryd.buildSet _ w' A' n c' rfl
  have q0 := K2.out.cell 0
  have q1 := K2.out.frozen 0
  clear hr
  by_cases h0 : 0 ≤ i
  · obtain ⟨k, rfl⟩ : ∃ k : Nat, i = (k : Int) := ⟨i.toNat, by omega⟩
    by_cases h1 : k < n
    · have hkL : k < l.length := by have := HN.out; omega
      obtain ⟨b, off, rfl, hb, hcc⟩ := HR.out (by omega)
      obtain ⟨x, hx⟩ : ∃ x, x = l.getD k false := ⟨_, rfl⟩
      have hck := hcc k hkL
      rw [← hx] at hck
      have hck2 := (B2.out.cell (p := ⟨b, off + k, none⟩) hb).trans hck
      have u0 : (0 : Int) ≤ (k : Int) := by omega
      have u1 : (k : Int) < (n : Int) := by omega
      have d0 : decide ((k : Int) < 0) = false := decide_eq_false (by omega)
      have d2 : decide ((k : Int) ≥ (n : Int)) = false := decide_eq_false (by omega)
      have d3 : decide ((n : Int) ≤ (k : Int)) = false := decide_eq_false (by omega)
      have d4 : decide (n ≤ k) = false := decide_eq_false (by omega)
      cases x with
      | true =>
        have HV : Hid (addB l (k : Int) = (l, 7)) := by
          show _ = _
          unfold addB
          rw [if_pos (by omega), Int.toNat_natCast, ← hx]; rfl
        clear hx hcc HR hkL HP
        go_enter Tryd.func10, Tryd.ntmps10
        go_wp2
        have K4 := K2.out.set_ 0 (.slice (some ⟨b, off, none⟩) n c)
        have k4 := K4.cell 0
        have b2 : Below w.heap.size w _ := B2.out.setCell (p := ⟨w.heap.size + 1, 0, none⟩) (show w.heap.size ≤ w.heap.size + 1 by omega) (.slice (some ⟨b, off, none⟩) n c)
        refine bodyPost_ret (v := .tuple #[.agg #[.slice (some ⟨b, off, none⟩) n c], .int .i64 7]) (by simp [results, Tryd.results10, go_sem, k4]) rfl ⟨(some ⟨b, off, none⟩), c, by rw [HV.out], ?_, hc, hcm, b2, .inl rfl⟩
        rw [HV.out]
        exact (HS.out.below b2).more b2.size
      | false =>
        have HV : Hid (addB l (k : Int) = (l.set k true, 0)) := by
          show _ = _
          unfold addB
          rw [if_pos (by omega), Int.toNat_natCast, ← hx]; rfl
        have HC := Lib.hid (HP.out k _ h1 B2.out)
        clear hx hcc HR hkL
        go_enter Tryd.func10, Tryd.ntmps10
        go_wp2_with (first
          | (go_at_call 26; (with_reducible refine HC.out.mono ?_); rintro e w1 ⟨g, c', rfl, hgw, hS1, hl1, hm1, hb1⟩; have K3 := K2.out.below hb1 K2.out.lt; have k0 := K3.cell 0; have k1 := K3.frozen 0))
        have K4 := K3.set_ 0 (.slice (some ⟨g, 0, none⟩) n c')
        have k4 := K4.cell 0
        have b2 : Below w.heap.size w w1 := B2.out.trans (hb1.mono B2.out.size)
        have b3 := b2.setCell (p := ⟨w.heap.size + 1, 0, none⟩) (show w.heap.size ≤ w.heap.size + 1 by omega) (.slice (some ⟨g, 0, none⟩) n c')
        refine bodyPost_ret (v := .tuple #[.agg #[.slice (some ⟨g, 0, none⟩) n c'], .int .i64 0]) (by simp [results, Tryd.results10, go_sem, k4]) rfl ⟨_, c', by rw [HV.out], ?_, hl1, hm1, b3, .inr ⟨g, rfl, by have := B2.out.size; omega⟩⟩
        rw [HV.out]
        exact (bs_far hS1 (p := ⟨w.heap.size + 1, 0, none⟩) (by have := K2.out.lt; show g ≠ w.heap.size + 1; omega) _).more (by simp [World.setCell])
    · have HV : Hid (addB l (k : Int) = (l, 10)) := by
        show _ = _
        unfold addB
        rw [if_neg (by have := HN.out; omega)]
      have u1 : ¬ (k : Int) < (n : Int) := by omega
      have d0 : decide ((k : Int) < 0) = false := decide_eq_false (by omega)
      have d2 : decide ((k : Int) ≥ (n : Int)) = true := decide_eq_true (by omega)
      have d3 : decide ((n : Int) ≤ (k : Int)) = true := decide_eq_true (by omega)
      have d4 : decide (n ≤ k) = true := decide_eq_true (by omega)
      clear HR HP
      go_enter Tryd.func10, Tryd.ntmps10
      go_wp2
      have K4 := K2.out.set_ 0 (.slice A n c)
      have k4 := K4.cell 0
      have b2 : Below w.heap.size w _ := B2.out.setCell (p := ⟨w.heap.size + 1, 0, none⟩) (show w.heap.size ≤ w.heap.size + 1 by omega) (.slice A n c)
      refine bodyPost_ret (v := .tuple #[.agg #[.slice A n c], .int .i64 10]) (by simp [results, Tryd.results10, go_sem, k4]) rfl ⟨A, c, by rw [HV.out], ?_, hc, hcm, b2, .inl rfl⟩
      rw [HV.out]
      exact (HS.out.below b2).more b2.size
  · have HV : Hid (addB l i = (l, 10)) := by
      show _ = _
      unfold addB
      rw [if_neg (by omega)]
    have d0 : decide (i < 0) = true := decide_eq_true (by omega)
    clear HR HP
    go_enter Tryd.func10, Tryd.ntmps10
    go_wp2
    have K4 := K2.out.set_ 0 (.slice A n c)
    have k4 := K4.cell 0
    have b2 : Below w.heap.size w _ := B2.out.setCell (p := ⟨w.heap.size + 1, 0, none⟩) (show w.heap.size ≤ w.heap.size + 1 by omega) (.slice A n c)
    refine bodyPost_ret (v := .tuple #[.agg #[.slice A n c], .int .i64 10]) (by simp [results, Tryd.results10, go_sem, k4]) rfl ⟨A, c, by rw [HV.out], ?_, hc, hcm, b2, .inl rfl⟩
    rw [HV.out]
    exact (HS.out.below b2).more b2.size

set_option maxRecDepth 100000 in
set_option maxHeartbeats 1000000 in
theorem refDrop_any (l : List Bool) (A : Option Addr) (n c B : Nat) (i : Int) (w : World) (HN : Hid (n = l.length)) (hr : BS w B A l) (hn : n ≤ 1000000) (hc : n ≤ c) (hcm : c ≤ 9223372036854775807) :
    Calls Tryd.prog 12 #[.agg #[.slice A n c], .int .i64 i] w (GivesSet (dropB l i) n A w) := by
  have HS : Hid (BS w w.heap.size A l) := hr.lt
  have HR : Hid (0 < l.length → ∃ b off, A = some ⟨b, off, none⟩ ∧ b < w.heap.size ∧ ∀ k, k < l.length → w.cell? ⟨b, off + k, none⟩ = some (.bool (l.getD k false))) := fun h => hr.lt.at_ h
  have HP := Lib.hid (fun (k : Nat) (w1 : World) (hk : k < n) (h1 : Below w.heap.size w w1) => refPut_any l A n c w.heap.size k false w1 HN (HS.out.below h1) hn hk)
  have B2 : Hid (Below w.heap.size w ((w.alloc (.cells #[.slice A n c] 29)).alloc (.cells #[.slice none 0 0] 29))) := by
    show Below _ _ _
    exact ((Below.refl w.heap.size w).alloc (Nat.le_refl _) _).alloc (by simp) _
  have K2 : Hid (Blk ((w.alloc (.cells #[.slice A n c] 29)).alloc (.cells #[.slice none 0 0] 29)) (w.heap.size + 1) 29 #[.slice none 0 0]) := by
    show Blk _ _ _ _
    have h := Blk.new (w.alloc (.cells #[.slice A n c] 29)) 29 #[.slice none 0 0]
    have e : (w.alloc (.cells #[.slice A n c] 29)).heap.size = w.heap.size + 1 := by simp
    rwa [e] at h
  have n0 := fun w' => Tryd.notFalse w'
  have n1 := fun w' => Tryd.notTrue w'
  have HBd := fun A' c' w' => Tryd.buildSet _ w' A' n c' rfl
  have q0 := K2.out.cell 0
  have q1 := K2.out.frozen 0
  clear hr
  by_cases h0 : 0 ≤ i
  · obtain ⟨k, rfl⟩ : ∃ k : Nat, i = (k : Int) := ⟨i.toNat, by omega⟩
    by_cases h1 : k < n
    · have hkL : k < l.length := by have := HN.out; omega
      obtain ⟨b, off, rfl, hb, hcc⟩ := HR.out (by omega)
      obtain ⟨x, hx⟩ : ∃ x, x = l.getD k false := ⟨_, rfl⟩
      have hck := hcc k hkL
      rw [← hx] at hck
      have hck2 := (B2.out.cell (p := ⟨b, off + k, none⟩) hb).trans hck
      have u0 : (0 : Int) ≤ (k : Int) := by omega
      have u1 : (k : Int) < (n : Int) := by omega
      have d0 : decide ((k : Int) < 0) = false := decide_eq_false (by omega)
      have d2 : decide ((k : Int) ≥ (n : Int)) = false := decide_eq_false (by omega)
      have d3 : decide ((n : Int) ≤ (k : Int)) = false := decide_eq_false (by omega)
      have d4 : decide (n ≤ k) = false := decide_eq_false (by omega)
      cases x with
      | false =>
        have HV : Hid (dropB l (k : Int) = (l, 6)) := by
          show _ = _
          unfold dropB
          rw [if_pos (by omega), Int.toNat_natCast, ← hx]; rfl
        clear hx hcc HR hkL HP
        go_enter Tryd.func12, Tryd.ntmps12
        go_wp2
        have K4 := K2.out.set_ 0 (.slice (some ⟨b, off, none⟩) n c)
        have k4 := K4.cell 0
        have b2 : Below w.heap.size w _ := B2.out.setCell (p := ⟨w.heap.size + 1, 0, none⟩) (show w.heap.size ≤ w.heap.size + 1 by omega) (.slice (some ⟨b, off, none⟩) n c)
        refine bodyPost_ret (v := .tuple #[.agg #[.slice (some ⟨b, off, none⟩) n c], .int .i64 6]) (by simp [results, Tryd.results12, go_sem, k4]) rfl ⟨(some ⟨b, off, none⟩), c, by rw [HV.out], ?_, hc, hcm, b2, .inl rfl⟩
        rw [HV.out]
        exact (HS.out.below b2).more b2.size
      | true =>
        have HV : Hid (dropB l (k : Int) = (l.set k false, 0)) := by
          show _ = _
          unfold dropB
          rw [if_pos (by omega), Int.toNat_natCast, ← hx]; rfl
        have HC := Lib.hid (HP.out k _ h1 B2.out)
        clear hx hcc HR hkL
        go_enter Tryd.func12, Tryd.ntmps12
        go_wp2_with (first
          | (go_at_call 26; (with_reducible refine HC.out.mono ?_); rintro e w1 ⟨g, c', rfl, hgw, hS1, hl1, hm1, hb1⟩; have K3 := K2.out.below hb1 K2.out.lt; have k0 := K3.cell 0; have k1 := K3.frozen 0))
        have K4 := K3.set_ 0 (.slice (some ⟨g, 0, none⟩) n c')
        have k4 := K4.cell 0
        have b2 : Below w.heap.size w w1 := B2.out.trans (hb1.mono B2.out.size)
        have b3 := b2.setCell (p := ⟨w.heap.size + 1, 0, none⟩) (show w.heap.size ≤ w.heap.size + 1 by omega) (.slice (some ⟨g, 0, none⟩) n c')
        refine bodyPost_ret (v := .tuple #[.agg #[.slice (some ⟨g, 0, none⟩) n c'], .int .i64 0]) (by simp [results, Tryd.results12, go_sem, k4]) rfl ⟨_, c', by rw [HV.out], ?_, hl1, hm1, b3, .inr ⟨g, rfl, by have := B2.out.size; omega⟩⟩
        rw [HV.out]
        exact (bs_far hS1 (p := ⟨w.heap.size + 1, 0, none⟩) (by have := K2.out.lt; show g ≠ w.heap.size + 1; omega) _).more (by simp [World.setCell])
    · have HV : Hid (dropB l (k : Int) = (l, 10)) := by
        show _ = _
        unfold dropB
        rw [if_neg (by have := HN.out; omega)]
      have u1 : ¬ (k : Int) < (n : Int) := by omega
      have d0 : decide ((k : Int) < 0) = false := decide_eq_false (by omega)
      have d2 : decide ((k : Int) ≥ (n : Int)) = true := decide_eq_true (by omega)
      have d3 : decide ((n : Int) ≤ (k : Int)) = true := decide_eq_true (by omega)
      have d4 : decide (n ≤ k) = true := decide_eq_true (by omega)
      clear HR HP
      go_enter Tryd.func12, Tryd.ntmps12
      go_wp2
      have K4 := K2.out.set_ 0 (.slice A n c)
      have k4 := K4.cell 0
      have b2 : Below w.heap.size w _ := B2.out.setCell (p := ⟨w.heap.size + 1, 0, none⟩) (show w.heap.size ≤ w.heap.size + 1 by omega) (.slice A n c)
      refine bodyPost_ret (v := .tuple #[.agg #[.slice A n c], .int .i64 10]) (by simp [results, Tryd.results12, go_sem, k4]) rfl ⟨A, c, by rw [HV.out], ?_, hc, hcm, b2, .inl rfl⟩
      rw [HV.out]
      exact (HS.out.below b2).more b2.size
  · have HV : Hid (dropB l i = (l, 10)) := by
      show _ = _
      unfold dropB
      rw [if_neg (by omega)]
    have d0 : decide (i < 0) = true := decide_eq_true (by omega)
    clear HR HP
    go_enter Tryd.func12, Tryd.ntmps12
    go_wp2
    have K4 := K2.out.set_ 0 (.slice A n c)
    have k4 := K4.cell 0
    have b2 : Below w.heap.size w _ := B2.out.setCell (p := ⟨w.heap.size + 1, 0, none⟩) (show w.heap.size ≤ w.heap.size + 1 by omega) (.slice A n c)
    refine bodyPost_ret (v := .tuple #[.agg #[.slice A n c], .int .i64 10]) (by simp [results, Tryd.results12, go_sem, k4]) rfl ⟨A, c, by rw [HV.out], ?_, hc, hcm, b2, .inl rfl⟩
    rw [HV.out]
    exact (HS.out.below b2).more b2.size

end Go.Proofs.YtppjeakgabakeaaDoor
