/- The walks of the reference's Of, Add, Drop (layer 5). -/
import Derived.Test.YtppjeakgabakeaaDoorBitsList
set_option linter.unusedVariables false
namespace Go.Proofs.YtppjeakgabakeaaDoor
open Go.RowKit

theorem Tryd.infoBool : (Tryd.prog.info? 4).map (fun i => (i.zero, i.size, i.bytes)) = some (some (.bool false), 1, 1) := by kernel_rfl
theorem own_bs {w : World} {base : Nat} {A : Option Addr} {l : List Bool} {c : Nat} (h : w.ownsRow base 4 1 (.slice A l.length c) l.length (bcells l)) : BS w w.heap.size A l := Reads.of_own h
theorem made_bs {w w1 : World} {n : Nat} (hown : w1.ownsRow w.heap.size 4 1 (.slice (some ⟨w.heap.size, 0, none⟩) n n) n (madeCells (Value.bool false).cells (n * 1)).toList) :
    w1.ownsRow w.heap.size 4 1 (.slice (some ⟨w.heap.size, 0, none⟩) n n) n (bcells (List.replicate n false)) := by
  have e : (madeCells (Value.bool false).cells (n * 1)).toList = bcells (List.replicate n false) := by
    rw [Nat.mul_one, show (Value.bool false).cells = #[Value.bool false] from rfl, toList_madeCells_one]
    simp [bcells]
  rwa [e] at hown

theorem Tryd.buildNone (w : World) : Sem.run Tryd.prog (Instr.build 29 #[]) w = Result.ok (Value.agg #[.slice none 0 0]) w := by
  first | kernel_rfl | rfl | simp [go_sem]

theorem Tryd.buildSet (v : Value) (w : World) (A : Option Addr) (n c : Nat) (hv : v = .slice A n c) : Sem.run Tryd.prog (Instr.build 29 #[(0, v)]) w = Result.ok (Value.agg #[v]) w := by
  subst hv
  first | kernel_rfl | rfl | simp [go_sem]

set_option maxRecDepth 100000 in
set_option maxHeartbeats 1000000 in
theorem refOf_any (n : Nat) (w : World) (h0 : n ≤ 4096) :
    Calls Tryd.prog 7 #[.int .i64 (n : Int)] w fun e w' => ∃ A, e = .returned (.tuple #[.agg #[.slice A n n], .int .i64 0]) ∧ BS w' w'.heap.size A (List.replicate n false) ∧ Below w.heap.size w w' ∧ ∀ ad, A = some ad → w.heap.size ≤ ad.block ∧ ad.block < w'.heap.size := by
  obtain ⟨i0, hi0, hz0, hz1, hz2⟩ := info_parts Tryd.infoBool
  have hby : i0.bytes = 1 := hz2
  have d0 : decide ((n : Int) < 0) = false := decide_eq_false (by omega)
  have d1 : decide (4096 < (n : Int)) = false := decide_eq_false (by omega)
  have u0 : (0 : Int) ≤ (n : Int) := by omega
  have HBd := fun w' => Tryd.buildSet _ w' (some ⟨w.heap.size + 1, 0, none⟩) n n rfl
  go_enter Tryd.func7, Tryd.ntmps7
  go_wp2_with (first
    | (at_make; refine wpList_make_full _ rfl _ _ 27 rfl (w.heap.size + 1) 4 i0 _ 1 Tryd.underlying27 hi0 hz0 hz1 .i64 .i64 _ _ n rfl rfl rfl rfl (by rw [hby]; omega) (by unfold maxLen; omega) (by simp) ?_; intro w1 ho1 hg1; have hK : Blk w1 w.heap.size 29 #[.slice none 0 0] := (Blk.new _ _ _).grown hg1 (by simp); have k0 := hK.cell 0; have k1 := hK.frozen 0)
    | (refine wpList_buildTo rfl 29 _ rfl (some 13) rfl #[.slice (some ⟨w.heap.size + 1, 0, none⟩) n n] (by kernel_rfl) ?_)
    | (refine wpList_store_rowTo rfl 29 _ _ rfl rfl w.heap.size #[.slice (some ⟨w.heap.size + 1, 0, none⟩) n n] rfl rfl _ _ hK (by kernel_rfl) rfl (by rfl) ?_))
  have hw : (w.alloc (.cells #[.slice none 0 0] 29)).heap.size = w.heap.size + 1 := by simp
  have k2 : Blk (w1.setCell ⟨w.heap.size, 0, none⟩ (.slice (some ⟨w.heap.size + 1, 0, none⟩) n n)) w.heap.size 29 #[.slice (some ⟨w.heap.size + 1, 0, none⟩) n n] := hK.set_ 0 _
  have k3 := k2.cell 0
  have b1 : Below w.heap.size w w1 := ((Below.refl _ _).alloc (Nat.le_refl _) _).grown hg1 (by simp) (by simp)
  have z1 := hK.lt
  have hlt1 : w.heap.size + 1 < (w1.setCell ⟨w.heap.size, 0, none⟩ (.slice (some ⟨w.heap.size + 1, 0, none⟩) n n)).heap.size := by
    have := (World.ownsRow.lt ho1 _ rfl).2
    rw [hw] at this
    simpa [World.setCell] using this
  refine bodyPost_ret (v := .tuple #[.agg #[.slice (some ⟨w.heap.size + 1, 0, none⟩) n n], .int .i64 0]) (by simp [results, Tryd.results7, go_sem, k3]) rfl ⟨_, rfl, ?_, ?_, fun ad e => by injection e with e; subst e; exact ⟨show w.heap.size ≤ w.heap.size + 1 by omega, hlt1⟩⟩
  · have h3 : w1.ownsRow (w.heap.size + 1) 4 1 (.slice (some ⟨w.heap.size + 1, 0, none⟩) n n) n (bcells (List.replicate n false)) := by
      have := made_bs (w := w.alloc (.cells #[.slice none 0 0] 29)) (w1 := w1) (n := n) (by rw [hw]; simpa using ho1)
      rwa [hw] at this
    have h4 := ownsRow_setCell_below h3 (a := ⟨w.heap.size, 0, none⟩) (show w.heap.size < w.heap.size + 1 by omega) (.slice (some ⟨w.heap.size + 1, 0, none⟩) n n)
    refine own_bs (base := w.heap.size + 1) (c := n) ?_
    rw [List.length_replicate]
    exact h4
  · exact b1.setCell (Nat.le_refl _) _

set_option maxRecDepth 100000 in
set_option maxHeartbeats 1000000 in
theorem refOf_bad (i : Int) (w : World) (h : i < 0 ∨ 4096 < i) :
    Calls Tryd.prog 7 #[.int .i64 i] w fun e w' => e = .returned (.tuple #[.agg #[.slice none 0 0], .int .i64 1]) ∧ Below w.heap.size w w' := by
  have fin : ∀ (w1 : World), w1 = (w.alloc (.cells #[.slice none 0 0] 29)) → Below w.heap.size w (w1.setCell ⟨w.heap.size, 0, none⟩ (.slice none 0 0)) := by
    rintro _ rfl
    exact ((Below.refl w.heap.size w).alloc (Nat.le_refl _) _).setCell (p := ⟨w.heap.size, 0, none⟩) (Nat.le_refl _) _
  have HBn := fun w' => Tryd.buildNone w'
  have K0 := Blk.new w 29 #[.slice none 0 0]
  have k0 := K0.cell 0
  have k1 := K0.frozen 0
  have K4 := K0.set_ 0 (.slice none 0 0)
  have k4 := K4.cell 0
  by_cases h0 : i < 0
  · have d0 : decide (i < 0) = true := decide_eq_true h0
    go_enter Tryd.func7, Tryd.ntmps7
    go_wp2
    exact bodyPost_ret (v := .tuple #[.agg #[.slice none 0 0], .int .i64 1]) (by simp [results, Tryd.results7, go_sem, k4]) rfl ⟨rfl, fin _ rfl⟩
  · have d0 : decide (i < 0) = false := decide_eq_false h0
    have d1 : decide (4096 < i) = true := decide_eq_true (by omega)
    go_enter Tryd.func7, Tryd.ntmps7
    go_wp2
    exact bodyPost_ret (v := .tuple #[.agg #[.slice none 0 0], .int .i64 1]) (by simp [results, Tryd.results7, go_sem, k4]) rfl ⟨rfl, fin _ rfl⟩

end Go.Proofs.YtppjeakgabakeaaDoor
