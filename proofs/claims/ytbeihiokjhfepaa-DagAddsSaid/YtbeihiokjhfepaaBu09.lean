/- Lemmas under the proofs of this place: OpenStrs. No statement is proved here. -/
import Derived.Test.YtbeihiokjhfepaaBu03
import Derived.Test.YtbeihiokjhfepaaBu06
import Derived.Deep.Strs
set_option linter.unusedVariables false
namespace Go.Proofs.Ytbeihiokjhfepaa
open Go.ChangeShapes Go.WideShapes Go.ChangeAt Go.RowKit
section
variable {H : Type} {enc : TypeId × Value → H} {P : Program}
theorem open_texts {W : World} {base : Nat} {t e : TypeId} {v : Value} {d : DataW H} {ps : List MemPlace} (ht : P.underlying t = some (.slice e)) (he : P.underlying e = some .string) (ce : P.cellsOf e = 1)
    (hv : Value.okWide P W .any base t v) (h : DataW.Trod enc P W 0 (fun _ => true) true t v d ps) :
    ∃ (A : Option Addr) (Ls : List Bs) (c : Nat), v = .slice A Ls.length c ∧ SS W W.heap.size A Ls ∧ Ls.length ≤ c ∧ c ≤ 9223372036854775807 := by
  obtain ⟨a0, len, cap, rfl⟩ := okWide_slice ht hv
  obtain ⟨fuel, hf⟩ := h
  rcases Deep.open_strs ht he ce hf with ⟨hcs, hx⟩ | ⟨a, len', cap', m, Sx, hcs, _, hl, hm, hmm, hx, hr⟩
  · simp [Value.cells] at hcs
    obtain ⟨rfl, rfl, rfl⟩ := hcs
    exact ⟨none, [], 0, rfl, SS.nil _ _ _, Nat.le_refl _, by omega⟩
  · simp [Value.cells] at hcs
    obtain ⟨rfl, rfl, rfl⟩ := hcs
    have hml : len ≤ m := by rw [hmm]; split <;> omega
    refine ⟨some a, (List.range len).map fun i => (Sx i).data.toList, cap, by simp, ⟨by simp [scells], fun hn => ?_⟩, by simpa using hl, hm⟩
    simp only [List.length_map, List.length_range] at hn
    have h0 := (hr 0 (by omega)).1
    have hblk := World.block_lt_of_cell? W _ h0
    rw [block_of_add] at hblk
    refine ⟨a, rfl, hblk, fun j u hu => ?_⟩
    have hj : j < len := by
      have := (List.getElem?_eq_some_iff.1 hu).1
      simpa [scells] using this
    rw [scells_get _ _ (by simpa using hj)] at hu
    rw [(hr j (by omega)).1, ← hu]
    congr 2
    simp [List.getD, hj, text]
end
end Go.Proofs.Ytbeihiokjhfepaa
