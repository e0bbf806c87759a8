/- The walk of the program's Stat (layer 6). -/
import Derived.Test.YthaljnnkpfeooaaDiskPCrash
import Derived.StillTailTactics
set_option linter.unusedVariables false
namespace Go.Proofs.Ythaljnnkpfeooaa
open Go.RowKit

/-- The counts, by value. -/
def statV (d : Dk) : Value := .agg #[.int .i64 (d.reads : Int), .int .i64 (d.writes : Int), .int .i64 (d.flushes : Int)]
set_option maxRecDepth 100000 in
set_option maxHeartbeats 1000000 in
theorem stat_any {w : World} {g : Nat} {F : Nat → Prop} {d : Dk} (h : PDisk w g F d) :
    Calls Try.prog 14 #[.pointer (some ⟨g, 0, none⟩)] w fun e w' => e = .returned (statV d) ∧ Below w.heap.size w w' := by
  have z0 := fun w' => Try.dIsNil g w'
  obtain ⟨a, ca, b, cb, n, V, ends, lf, h⟩ := h
  obtain ⟨x, hx⟩ : ∃ x : Int, x = (d.reads : Int) := ⟨_, rfl⟩
  obtain ⟨y, hy⟩ : ∃ y : Int, y = (d.writes : Int) := ⟨_, rfl⟩
  obtain ⟨z, hz⟩ : ∃ z : Int, z = (d.flushes : Int) := ⟨_, rfl⟩
  have HV : Hid (statV d = .agg #[.int .i64 x, .int .i64 y, .int .i64 z]) := by show _ = _; rw [hx, hy, hz]; rfl
  have hp : Below w.heap.size w ((w.alloc (.cells #[.int .i64 0, .int .i64 0, .int .i64 0] 39)).drew) := ((Below.refl _ _).alloc (Nat.le_refl _) _).drew
  have hP : PD ((w.alloc (.cells #[.int .i64 0, .int .i64 0, .int .i64 0] 39)).drew) g F d a ca b cb n V ends lf := h.turns (Turns.of_below hp (fun _ => False)) (fun _ _ h => h)
  have H6 := Lib.hid (aload_any g 6 _ _ hP.c6)
  have H7 := Lib.hid (aload_any g 7 _ _ hP.c7)
  have H8 := Lib.hid (aload_any g 8 _ _ hP.c8)
  have K0 := Blk.new w 39 #[.int .i64 0, .int .i64 0, .int .i64 0]
  rw [← hx] at H6
  rw [← hy] at H7
  rw [← hz] at H8
  clear hP h hx hy hz hp
  go_enter Try.func14, Try.ntmps14
  go_wp2
  refine wp_region_still_tail 13 (by kernel_rfl) (by kernel_rfl) ?_
  simp only [List.take_succ_cons, List.take_zero, List.drop_succ_cons, List.drop_zero]
  iterate 3 still_step
  still_call (H6.out.mono fun _ _ h => ⟨h.1, h.2.symm⟩)
  iterate 3 still_step
  still_call (H7.out.mono fun _ _ h => ⟨h.1, h.2.symm⟩)
  iterate 3 still_step
  still_call (H8.out.mono fun _ _ h => ⟨h.1, h.2.symm⟩)
  still_step
  refine wpStill_nil ?_
  change wpList _ _ _ _ _ ((w.alloc (.cells #[.int .i64 0, .int .i64 0, .int .i64 0] 39)).drew)
  have b1 : Below w.heap.size w ((w.alloc (.cells #[.int .i64 0, .int .i64 0, .int .i64 0] 39)).drew) := ((Below.refl _ _).alloc (Nat.le_refl _) _).drew
  have K1 : Blk ((w.alloc (.cells #[.int .i64 0, .int .i64 0, .int .i64 0] 39)).drew) w.heap.size 39 #[.int .i64 0, .int .i64 0, .int .i64 0] := K0
  clear H6 H7 H8 K0
  generalize (w.alloc (.cells #[.int .i64 0, .int .i64 0, .int .i64 0] 39)).drew = W at b1 K1 ⊢
  obtain ⟨g2, hg2⟩ : ∃ g2, g2 = w.heap.size := ⟨_, rfl⟩
  rw [← hg2] at K1 ⊢
  have HG := Lib.hid hg2
  clear hg2
  have k0 := K1.cell 0
  have k1 := K1.cell 1
  have k2 := K1.cell 2
  have f0 := K1.frozen 0
  have f1 := K1.frozen 1
  have f2 := K1.frozen 2
  have K2 := ((K1.set_ 0 (.int .i64 x)).set_ 1 (.int .i64 y)).set_ 2 (.int .i64 z)
  have q0 := K2.cell 0
  have q1 := K2.cell 1
  have q2 := K2.cell 2
  simp at k0 k1 k2 q0 q1 q2
  go_wp2
  have hg3 : w.heap.size ≤ g2 := by have := HG.out; omega
  refine bodyPost_ret (v := .agg #[.int .i64 x, .int .i64 y, .int .i64 z]) (by simp [results, Try.results14, go_sem, q0, q1, q2]) rfl ?_
  rw [HV.out]
  exact ⟨rfl, ((b1.setCell hg3 _).setCell hg3 _).setCell hg3 _⟩
set_option maxRecDepth 100000 in
theorem stat_none (w : World) : Calls Try.prog 14 #[.pointer none] w fun e w' => e = .returned (.agg #[.int .i64 0, .int .i64 0, .int .i64 0]) ∧ Below w.heap.size w w' := by
  have z0 := fun w' => Try.dNilIs w'
  have K0 := Blk.new w 39 #[.int .i64 0, .int .i64 0, .int .i64 0]
  have b1 : Below w.heap.size w (w.alloc (.cells #[.int .i64 0, .int .i64 0, .int .i64 0] 39)) := (Below.refl _ _).alloc (Nat.le_refl _) _
  go_enter Try.func14, Try.ntmps14
  go_wp2_with (refine wpList_store_rowTo rfl 39 _ _ rfl rfl w.heap.size #[.int .i64 0, .int .i64 0, .int .i64 0] rfl rfl _ _ K0 (by kernel_rfl) rfl (by rfl) ?_)
  exact bodyPost_ret (v := .agg #[.int .i64 0, .int .i64 0, .int .i64 0]) (by simp [results, Try.results14, go_sem]) rfl ⟨rfl, b1⟩

end Go.Proofs.Ythaljnnkpfeooaa
