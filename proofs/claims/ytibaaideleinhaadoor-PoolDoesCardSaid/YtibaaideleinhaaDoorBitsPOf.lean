/- The walks of the program's Of, Clone (layer 5). -/
import Derived.Test.YtibaaideleinhaaDoorBitsPHas
import Derived.Laws.CopyOwn
import Derived.Laws.Tables
set_option linter.unusedVariables false
namespace Go.Proofs.YtibaaideleinhaaDoor
open Go.RowKit

theorem Tryd.setSize : (Tryd.prog.info? 69).map (·.size) = some 65 := by kernel_rfl
theorem Tryd.setZero : (Tryd.prog.info? 69).map (fun i => (i.zero, i.size)) = some (some (.agg (setCells_ 0 (List.replicate 64 0)).toArray), (setCells_ 0 (List.replicate 64 0)).toArray.size) := by kernel_rfl
theorem Tryd.setRow_ : (match Tryd.prog.underlying 69 with | some d => d.isRow | none => false) = true := by kernel_rfl
theorem Tryd.built (n : Int) : Tryd.prog.built 69 [(0, .int .i64 n)] = some ((Value.int .i64 n :: (List.replicate 64 0).map fun (x : Nat) => Value.int .u64 (x : Int)).toArray) := by kernel_rfl

set_option maxRecDepth 100000 in
set_option maxHeartbeats 1000000 in
theorem bitsOf_any (n : Nat) (w : World) (h : n ≤ 4096) (hT : Tz w) :
    Calls Tryd.prog 19 #[.int .i64 (n : Int)] w fun e w' => ∃ g, e = .returned (.tuple #[.pointer (some ⟨g, 0, none⟩), .int .i64 0]) ∧ Hid (w.heap.size ≤ g) ∧ Hid (SetAt w' g (List.replicate n false)) ∧ Below w.heap.size w w' := by
  obtain ⟨HA, hHA⟩ : ∃ HA, HA = (setCells_ n (List.replicate 64 0)).toArray := ⟨_, rfl⟩
  have HHA := Lib.hid hHA
  have HBd : Hid (Tryd.prog.built 69 [(0, .int .i64 (n : Int))] = some HA) := by
    show _ = _
    rw [Tryd.built, hHA, setCells_]
  have HT := Lib.hid hT
  have d0 : decide ((n : Int) < 0) = false := decide_eq_false (by omega)
  have d1 : decide ((n : Int) > 4096) = false := decide_eq_false (by omega)
  have d2 : decide (4096 < (n : Int)) = false := decide_eq_false (by omega)
  clear hHA hT
  go_enter Tryd.func19, Tryd.ntmps19
  go_wp2_with (first
    | (refine wpList_buildTo rfl 69 _ rfl (some 11) rfl HA (Eq.trans (b := Tryd.prog.built 69 [(0, .int .i64 (n : Int))]) (by kernel_rfl) HBd.out) ?_)
    | (refine wpList_box_letter rfl 69 _ rfl (some 12) rfl HA rfl ?_; intro g1 w1 hw1 hg1))
  have b1 : Below w.heap.size w w1 := letter_below hw1 (Below.refl _ _) (Nat.le_refl _)
  have k1 : Blk w1 g1 69 (setCells_ n (List.replicate 64 0)).toArray := by rw [← HHA.out]; exact letter_blk hw1 hg1
  go_ret2
  refine ⟨g1, rfl, Lib.hid (by have := hg1.out; omega), Lib.hid ⟨HT.out.below b1 HT.out.lt, by have := HT.out.lt; have := hg1.out; omega, List.replicate 64 0, SW.none_ n, ?_, by simp⟩, b1⟩
  rw [List.length_replicate]; exact k1
set_option maxRecDepth 100000 in
theorem bitsOf_bad (i : Int) (w : World) (hi : InI i) (h : i < 0 ∨ 4096 < i) :
    Calls Tryd.prog 19 #[.int .i64 i] w fun e w' => e = .returned (.tuple #[.pointer none, .int .i64 1]) ∧ Below w.heap.size w w' := by
  by_cases h0 : i < 0
  · have d0 : decide (i < 0) = true := decide_eq_true h0
    go_enter Tryd.func19, Tryd.ntmps19
    go_wp2
    go_ret2
    exact ⟨rfl, Below.refl _ _⟩
  · have d0 : decide (i < 0) = false := decide_eq_false h0
    have d1 : decide (i > 4096) = true := decide_eq_true (by omega)
    have d2 : decide (4096 < i) = true := decide_eq_true (by omega)
    go_enter Tryd.func19, Tryd.ntmps19
    go_wp2
    go_ret2
    exact ⟨rfl, Below.refl _ _⟩

set_option maxRecDepth 100000 in
set_option maxHeartbeats 2000000 in
theorem bitsClone_any (l : List Bool) (g : Nat) (w : World) (h : SetAt w g l) (hl : l.length ≤ 4096) :
    Calls Tryd.prog 29 #[.pointer (some ⟨g, 0, none⟩)] w fun e w' => ∃ k, e = .returned (.pointer (some ⟨k, 0, none⟩)) ∧ Hid (w.heap.size ≤ k) ∧ Hid (SetAt w' k l) ∧ Below w.heap.size w w' := by
  have hg := h.lt
  obtain ⟨hT, hp, ws, hW, hS⟩ := h
  obtain ⟨HA, hHA⟩ : ∃ HA, HA = (setCells_ l.length ws).toArray := ⟨_, rfl⟩
  obtain ⟨ZA, hZA⟩ : ∃ ZA, ZA = (setCells_ 0 (List.replicate 64 0)).toArray := ⟨_, rfl⟩
  have sH : HA.size = 65 := by rw [hHA]; simp [setCells_length, hS.2]
  have sZ : ZA.size = 65 := by rw [hZA]; simp [setCells_length]
  have hz : (Tryd.prog.info? 69).map (fun i => (i.zero, i.size)) = some (some (.agg ZA), ZA.size) := by rw [hZA]; exact Tryd.setZero
  have h1 : HA.all (·.oneCell') = true := by rw [hHA]; exact all_oneCell_toArray (setCells_one _ _)
  have kB : Blk w g 69 HA := by rw [hHA]; exact hS.1
  obtain ⟨d, hd, hd2⟩ : ∃ d, Tryd.prog.underlying 69 = some d ∧ d.isRow = true := by
    have := Tryd.setRow_
    cases hq : Tryd.prog.underlying 69 with
    | none => simp [hq] at this
    | some d => exact ⟨d, rfl, by simpa [hq] using this⟩
  have HHA := Lib.hid hHA
  have HT := Lib.hid hT
  have HW := Lib.hid hW
  have HL := Lib.hid hS.2
  have z0 := fun w' => Tryd.isNil g w'
  clear hHA hZA hT hW hS
  go_enter Tryd.func29, Tryd.ntmps29
  have HStep : Hid (∀ (g1 : Nat) (w1 : World), Hid (w1 = w.alloc (.cells ZA 69)) → Hid (g1 = w.heap.size) → Below w.heap.size w (w1.setRow g1 HA) ∧ Hid (SetAt (w1.setRow g1 HA) g1 l)) := by
    intro g1 w1 hw1 hg1
    have b1 : Below w.heap.size w w1 := letter_below hw1 (Below.refl _ _) (Nat.le_refl _)
    have b2 : Below w.heap.size w (w1.setRow g1 HA) := below_setRow b1 (by have := hg1.out; omega) _
    refine ⟨b2, HT.out.below b2 HT.out.lt, by have := HT.out.lt; have := hg1.out; omega, ws, HW.out, ?_, HL.out⟩
    rw [← HHA.out]; exact setRow_heap _ _ _ _ _ _ (letter_blk hw1 hg1)
  go_wp2_with (first
    | (refine wpList_load_row rfl 69 _ rfl g rfl _ _ _ _ kB hd (by cases d <;> simp_all) (by rw [sH]; exact Tryd.setSize) ?_)
    | (refine wpList_alloc_letter rfl 69 rfl (some 3) rfl ZA hz ?_; intro g1 w1 hw1 hg1)
    | (refine wpList_store_rowTo rfl 69 _ _ rfl rfl g1 HA rfl rfl _ _ (letter_blk hw1 hg1) (by rw [sH]; exact Tryd.setSize) (by rw [sZ, sH]) h1 ?_; obtain ⟨b2, HK2⟩ := HStep.out g1 w1 hw1 hg1; generalize w1.setRow g1 HA = w2 at b2 HK2 ⊢))
  go_ret
  exact ⟨g1, rfl, Lib.hid (by have := hg1.out; omega), HK2, b2⟩
set_option maxRecDepth 100000 in
theorem bitsClone_none (w : World) : Calls Tryd.prog 29 #[.pointer none] w fun e w' => e = .returned (.pointer none) ∧ Below w.heap.size w w' := by
  have n0 := fun w' => Tryd.nilIs w'
  go_enter Tryd.func29, Tryd.ntmps29
  go_wp2
  go_ret
  exact ⟨rfl, Below.refl _ _⟩

end Go.Proofs.YtibaaideleinhaaDoor
