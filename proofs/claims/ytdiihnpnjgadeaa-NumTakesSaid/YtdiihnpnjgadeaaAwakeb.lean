/- The walk of awake. -/
import Derived.Test.YtdiihnpnjgadeaaAwake
namespace Go.Proofs.Ytdiihnpnjgadeaa
open Go.RowKit Go.Joins

theorem below_only {B g : Nat} {a w w' : World} (h : Below B a w) (k : Only w w' g) (hg : B ≤ g) (hB : B ≤ w.heap.size) : Below B a w' :=
  h.trans ⟨k.os, k.tape, k.output, k.size, fun i hi => k.block i (by omega) (by simp; omega)⟩

theorem rb_only {w w' : World} {B g : Nat} {A : Option Addr} {L : List UInt8} {st : St} (h : RB w B A L) (hB : B ≤ w.heap.size) (hc : Cur w g st) (ho : Only w w' g) : RB w' B A L := by
  have hx : ∃ A n c b, w.heap[g]? = some (.cells #[.slice A n c, .bool b] 55 (0, 0)) := by
    rcases st with _ | L
    · exact ⟨_, _, _, _, hc⟩
    · obtain ⟨A, c, h, _⟩ := hc
      exact ⟨_, _, _, _, h⟩
  obtain ⟨A', n, c, b', hg⟩ := hx
  refine ⟨h.1, fun hn => ?_⟩
  obtain ⟨b, off, rfl, hb, hcc⟩ := RB.at_ h hn
  have hne : b ≠ g := by
    rintro rfl
    have h0 := hcc 0 hn
    rw [Nat.add_zero, (blk_cell hg off).1] at h0
    exact cur_cells _ _ _ _ _ _ _ h0
  obtain ⟨ad, e, hb', hc'⟩ := h.2 hn
  injection e with e
  subst e
  refine ⟨_, rfl, hb', fun j v hv => ?_⟩
  rw [World.cell?_of_block (ho.block _ (by rw [block_of_add]; show b < _; omega) (by rw [block_of_add]; simpa using hne))]
  exact hc' j v hv

theorem aw_facts {w w1 w2 w3 w4 w5 w6 w7 : World} {o1 o2 o3 o4 o5 : Obj} {g c1 c2 c3 : Nat} {A1 A2 A3 A5 : Option Addr} {L1 L2 L3 L5 : List UInt8} {s4 s5 s6 : St}
    (ho1 : Own w1 w.heap.size A1 L1 c1) (hb1 : Below w.heap.size w w1)
    (ho2 : Own w2 (((w1.alloc o1).alloc o2).alloc o3).heap.size A2 L2 c2) (hb2 : Below (((w1.alloc o1).alloc o2).alloc o3).heap.size (((w1.alloc o1).alloc o2).alloc o3) w2)
    (ho3 : Own w3 w2.heap.size A3 L3 c3) (hb3 : Below w2.heap.size w2 w3)
    (hg4 : (w3.alloc o4).heap.size + 1 ≤ g) (hcur4 : Cur w4 g s4) (hb4 : Below ((w3.alloc o4).heap.size + 1) ((w3.alloc o4).alloc o5) w4)
    (hr5 : RB w5 w5.heap.size A5 L5) (hcur5 : Cur w5 g s5) (hon5 : Only w4 w5 g) (hcur6 : Cur w6 g s6) (hon6 : Only w5 w6 g) (hon7 : Only w6 w7 g) :
    RB w7 w7.heap.size A1 L1 ∧ RB w7 w7.heap.size A2 L2 ∧ RB w7 w7.heap.size A3 L3 ∧ RB w7 w7.heap.size A5 L5 ∧ Below w.heap.size w w7 := by
  have z12 : w1.heap.size ≤ w2.heap.size := by have := hb2.size; simp at this; omega
  have z23 := hb3.size
  have z34 : w3.heap.size + 2 ≤ w4.heap.size := by have := hb4.size; simp at this; omega
  have z01 := hb1.size
  have z45 := hon5.size
  have z56 := hon6.size
  have z67 := hon7.size
  have hg : w3.heap.size + 2 ≤ g := by simp at hg4; omega
  have h12 : Below w1.heap.size w1 w2 := ((((Below.refl _ _).alloc (Nat.le_refl _) o1).alloc (by simp) o2).alloc (by simp; omega) o3).trans (hb2.mono (by simp; omega))
  have h34 : Below w3.heap.size w3 w4 := (((Below.refl _ _).alloc (Nat.le_refl _) o4).alloc (by simp) o5).trans (hb4.mono (by simp; omega))
  have h24 : Below w2.heap.size w2 w4 := hb3.trans (h34.mono z23)
  have h14 : Below w1.heap.size w1 w4 := h12.trans (h24.mono z12)
  have r : ∀ {B A L}, B ≤ w3.heap.size → RB w4 B A L → RB w7 w7.heap.size A L := fun {B A L} hB h =>
    (rb_only (rb_only (rb_only h (by omega) hcur4 hon5) (by omega) hcur5 hon6) (by omega) hcur6 hon7).more (by omega)
  refine ⟨r (by omega) ((own_rb ho1).below h14), r z23 ((own_rb ho2).below h24), r (Nat.le_refl _) ((own_rb ho3).below h34), (rb_only (rb_only hr5 (Nat.le_refl _) hcur5 hon6) (by omega) hcur6 hon7).more (by omega), ?_⟩
  exact below_only (below_only (below_only (hb1.trans (h14.mono z01)) hon5 (by omega) (by omega)) hon6 (by omega) (by omega)) hon7 (by omega) (by omega)

/-- What the texts of four slices are, as equations for the walk. -/
theorem aw_str {w : World} {A : Option Addr} {L : List UInt8} (h : RB w w.heap.size A L) (n c : Nat) (hn : n = L.length) : (convert 22 9 (.slice A n c)).run Try.prog w = .ok (.string ⟨L.toArray⟩) w :=
  run_str 22 5 9 Try.underlying22 Try.underlying5 Try.underlying9 h n c hn

set_option maxRecDepth 100000 in
set_option maxHeartbeats 1000000 in
theorem awake_any (w : World) : Calls Try.prog 7 #[] w fun e w' => e = .returned (.bool true) ∧ Below w.heap.size w w' := by
  have hcv : ∀ (W : World) (g n c : Nat) (C : Array Value), g = W.heap.size → (convert 22 22 (.slice (some ⟨g, 0, none⟩) n c)).run Try.prog (W.alloc (.cells C 5)) = .ok (.slice (some ⟨g, 0, none⟩) n c) (W.alloc (.cells C 5 (C.size, C.size + 1))) := fun W g n c C h => run_convert_bytes_const_at W 22 5 C n c g h Try.underlying22 Try.underlying5
  go_enter Try.func7, Try.ntmps7
  go_wp2_with (first
    | (go_at_call 8; (with_reducible refine (aw_put _).mono ?_); rintro e w1 ⟨A1, c1, rfl, ho1, hb1⟩)
    | (go_at_call 12; (with_reducible refine (aw_get3 _ _ (by simp)).mono ?_); rintro e w' ⟨rfl, rfl⟩)
    | (go_at_call 12; (with_reducible refine (aw_get2 _ _ (by simp)).mono ?_); rintro e w' ⟨rfl, rfl⟩)
    | (go_at_call 16; (with_reducible refine (aw_text _ _ (by simp)).mono ?_); rintro e w2 ⟨A2, c2, rfl, ho2, hb2⟩)
    | (go_at_call 10; (with_reducible refine (aw_fix2 _).mono ?_); rintro e w3 ⟨A3, c3, rfl, ho3, hb3⟩)
    | (go_at_call 10; (with_reducible refine (aw_fix1 _).mono ?_); rintro e w' ⟨rfl, rfl⟩)
    | (go_at_call 13; (with_reducible refine (aw_unfix _ _ (by simp)).mono ?_); rintro e w' ⟨rfl, rfl⟩)
    | (go_at_call 18; (with_reducible refine (aw_from _ _ (by simp)).mono ?_); rintro e w4 ⟨g, rfl, hg4, hcur4, hb4⟩)
    | (go_at_call 19; (with_reducible refine (aw_ctext _ _ hcur4).mono ?_); rintro e w5 ⟨A5, c5, rfl, hr5, hcur5, hon5⟩)
    | (go_at_call 26; (with_reducible refine (aw_byte _ _ hcur5).mono ?_); rintro e w6 ⟨rfl, hcur6, hon6⟩)
    | (go_at_call 29; (with_reducible refine (aw_take _ _ hcur6).mono ?_); rintro e w7 ⟨A7, c7, rfl, hr7, hcur7, hon7⟩; obtain ⟨f1, f2, f3, f5, hb7⟩ := aw_facts ho1 hb1 ho2 hb2 ho3 hb3 hg4 hcur4 hb4 hr5 hcur5 hon5 hcur6 hon6 hon7; have e1 := aw_str f1 2 c1 rfl; have e2 := aw_str f2 3 c2 rfl; have e3 := aw_str f3 2 c3 rfl; have e5 := aw_str f5 2 c5 rfl)
    | (go_at_call 21; (with_reducible refine (aw_bad _ _ hcur7).mono ?_); rintro e w' ⟨rfl, rfl⟩)
    | (go_at_call 20; (with_reducible refine (aw_left _ _ hcur7).mono ?_); rintro e w' ⟨rfl, rfl⟩))
  go_ret
  exact ⟨rfl, hb7⟩

end Go.Proofs.Ytdiihnpnjgadeaa
