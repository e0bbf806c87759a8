/- What layer 6's laws on deeds need. Plain lemmas. -/
import Derived.Test.YthaljnnkpfeooaaDiskDeeds
import Derived.Test.YthaljnnkpfeooaaDiskTears
set_option linter.unusedVariables false
namespace Go.Proofs.Ythaljnnkpfeooaa
open Go.ChangeShapes Go.WideShapes Go.ChangeAt Go.RowKit

theorem deed_load (d : Dk) : d.deed.1.load = d.load := by
  unfold Dk.deed
  split
  · rfl
  · split
    · rfl
    · rfl
theorem step_load (d : Dk) (x : Dd) : (stepD d x).load ≤ d.load + 2 := by
  unfold stepD Dk.step
  split
  · exact Nat.le_succ_of_le (read_load d x.n)
  split
  · unfold Dk.write
    split
    · exact Nat.le_add_right _ _
    split
    · exact Nat.le_add_right _ _
    split
    · exact Nat.le_add_right _ _
    have h := deed_load { d with waits := d.waits ++ [(x.n.toNat, dataL x)] }
    have h2 : ({ d with waits := d.waits ++ [(x.n.toNat, dataL x)] } : Dk).load = d.load + 1 := by unfold Dk.load; simp; omega
    split
    · rename_i e he
      rw [he] at h
      show e.load ≤ _
      have h' : e.load = _ := h
      omega
    · rename_i e he
      rw [he] at h
      have h' : e.load = _ := h
      show e.reads + (e.writes + 1) + e.flushes + e.waits.length ≤ _
      unfold Dk.load at h' h2 ⊢
      omega
  split
  · unfold Dk.flush
    split
    · exact Nat.le_add_right _ _
    have h := deed_load d
    split
    · rename_i e he
      rw [he] at h
      have h' : e.load = _ := h
      show e.load ≤ _
      omega
    · rename_i e he
      rw [he] at h
      have h' : e.load = _ := h
      show e.reads + e.writes + (e.flushes + 1) + 0 ≤ _
      unfold Dk.load at h' ⊢
      omega
  split
  · unfold Dk.stop
    split
    · exact Nat.le_add_right _ _
    · exact Nat.le_add_right _ _
  split
  · show d.reads + d.writes + d.flushes + 0 ≤ _
    unfold Dk.load
    omega
  · exact Nat.le_add_right _ _
/-- A disk behind some deeds. -/
def playsD (d : Dk) (l : List Dd) (i : Nat) : Dk := (l.take i).foldl stepD d
theorem plays_zero (d : Dk) (l : List Dd) : playsD d l 0 = d := rfl
theorem plays_succ (d : Dk) (l : List Dd) (i : Nat) (hi : i < l.length) : playsD d l (i + 1) = stepD (playsD d l i) l[i] := by
  unfold playsD
  rw [List.take_succ_eq_append_getElem hi, List.foldl_append]
  rfl
theorem plays_load (d : Dk) (l : List Dd) : ∀ i, i ≤ l.length → (playsD d l i).load ≤ d.load + 2 * i
  | 0, _ => Nat.le_refl _
  | i + 1, h => by
    rw [plays_succ d l i (by omega)]
    have h1 := plays_load d l i (by omega)
    have h2 := step_load (playsD d l i) l[i]
    omega
theorem blank_load (m : Nat) : (Dk.blank m).load = 0 := rfl
theorem Two.gives {D : Dk} {w0 w w1 w2 : World} {g q : Nat} {F G B : Nat → Prop} (hb : Below w0.heap.size w0 w) (hp : GivesDisk D w w1 g F) (hr : GivesRef D w1 w2 q G B) : Two [] w0 w2 g F D q G B D := by
  have h1 := Has.gives hb hp
  have hs := h1.below.size
  refine ⟨h1.more hr.2.1, hr.1, fun k hk => ?_, fun k hk hg => ?_, fun k hk hg => ?_, fun x hx => by cases hx⟩
  · have := hr.2.2.1 k hk; omega
  · have := hr.2.2.1 k hg; have := h1.flt k hk; omega
  · have := hr.2.2.2 k hg; have := h1.flt k hk; omega
theorem fewL_all {l : List Dd} (h : fewL l = true) : l.length ≤ 40 ∧ ∀ i (hi : i < l.length), l[i].data.length ≤ 600 := by
  unfold fewL at h
  simp only [Bool.and_eq_true, decide_eq_true_eq, List.all_eq_true] at h
  exact ⟨h.1, fun i hi => h.2 _ (List.getElem_mem hi)⟩
theorem Try.agg36 (w : World) : (isAgg 36).run Try.prog w = .ok true w := by kernel_rfl
theorem Try.size36 (w : World) : (sizeOf 36).run Try.prog w = .ok 5 w := by kernel_rfl
theorem Try.agg39 (w : World) : (isAgg 39).run Try.prog w = .ok true w := by kernel_rfl
theorem Try.size39 (w : World) : (sizeOf 39).run Try.prog w = .ok 3 w := by kernel_rfl
/-- The reference's counts. -/
theorem RDisk.counts {w : World} {q : Nat} {G B : Nat → Prop} {d : Dk} (h : RDisk w q G B d) : w.cell? ⟨q, 4, none⟩ = some (.int .i64 (d.reads : Int)) ∧ w.cell? ⟨q, 5, none⟩ = some (.int .i64 (d.writes : Int)) ∧ w.cell? ⟨q, 6, none⟩ = some (.int .i64 (d.flushes : Int)) := by
  obtain ⟨s, cs, V, hs, hv, h⟩ := h
  exact ⟨by rw [Blk.cell h.blk]; rfl, by rw [Blk.cell h.blk]; rfl, by rw [Blk.cell h.blk]; rfl⟩
theorem Try.rNotNil (g : Nat) (w : World) : Sem.run Try.prog (binOp BinOp.neq 29 (Value.pointer (some ⟨g, 0, none⟩)) (Value.pointer none)) w = Result.ok (Value.bool true) w := by kernel_rfl
theorem Try.rNilNot (w : World) : Sem.run Try.prog (binOp BinOp.neq 29 (Value.pointer none) (Value.pointer none)) w = Result.ok (Value.bool false) w := by kernel_rfl
theorem Try.statNeq (a b c : Int) (W : World) : Sem.run Try.prog (binOp .neq 39 (.agg #[.int .i64 a, .int .i64 b, .int .i64 c]) (.agg #[.int .i64 a, .int .i64 b, .int .i64 c])) W = .ok (.bool false) W := by
  simp [go_sem]

theorem Try.rIsNil (g : Nat) (w : World) : Sem.run Try.prog (binOp BinOp.eql 29 (Value.pointer (some ⟨g, 0, none⟩)) (Value.pointer none)) w = Result.ok (Value.bool false) w := by kernel_rfl
theorem Try.rNilIs (w : World) : Sem.run Try.prog (binOp BinOp.eql 29 (Value.pointer none) (Value.pointer none)) w = Result.ok (Value.bool true) w := by kernel_rfl
theorem image_sure {L : List UInt8} (h : Dk.mayL L) : (Dk.ofImage L).sure = L := Dk.chunks_flatten (L.length / 256) L (by have := h.1; omega)
theorem Try.cells36 : Try.prog.cellsOf 36 = 5 := by kernel_rfl
theorem Try.cells4 : Try.prog.cellsOf 4 = 1 := by kernel_rfl
theorem Try.cells34 : Try.prog.cellsOf 34 = 1 := by kernel_rfl
theorem open_dl {H : Type} {enc : TypeId × Value → H} {W : World} {base : Nat} {v : Value} {d : DataW H} {ps : List MemPlace} (hv : Value.okWide Try.prog W .any base 22 v) (h : DataW.Trod enc Try.prog W 0 (fun _ => true) true 22 v d ps) :
    ∃ (A : Option Addr) (D : List Dd) (c : Nat), v = .slice A D.length c ∧ DL W W.heap.size A D ∧ D.length ≤ c ∧ c ≤ 9223372036854775807 := by
  obtain ⟨a0, len, cap, rfl⟩ := okWide_slice Try.underlying22 hv
  obtain ⟨fuel, hf⟩ := h
  exact open_deedl (fuel := fuel) Try.underlying22 Try.underlying36 Try.cells36 rfl rfl rfl rfl rfl Try.cells3 Try.cells3 Try.cells33 Try.cells4 Try.cells34 Try.underlying3 Try.underlying3 Try.underlying33 Try.underlying4 Try.underlying34 Try.underlying5 Try.cells5 Try.underlying3 Try.cells3 (by simpa [Value.cells] using hf)
end Go.Proofs.Ythaljnnkpfeooaa
