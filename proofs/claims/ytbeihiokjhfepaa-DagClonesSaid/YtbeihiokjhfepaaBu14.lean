/- Lemmas under the proofs of this place: DagOpen. No statement is proved here. -/
import Derived.Test.YtbeihiokjhfepaaBu10
import Derived.Test.YtbeihiokjhfepaaBu09
import Derived.Deep.Slices
import Derived.Deep.SlicePairs
set_option linter.unusedVariables false
set_option maxRecDepth 100000
set_option maxHeartbeats 16000000
namespace Go.Proofs.Ytbeihiokjhfepaa
open Go.ChangeShapes Go.WideShapes Go.ChangeAt Go.RowKit
instance : Inhabited Nd := ⟨nd0⟩
section
variable {H : Type} {enc : TypeId × Value → H} {P : Program}
theorem texts_of16 {W : World} {t e : TypeId} {fuel : Nat} {v : Value} {x : DataW H × List MemPlace} (ht : P.underlying t = some (.slice e)) (he : P.underlying e = some .string) (ce : P.cellsOf e = 1)
    (hf : DataW.trod enc P W 0 (fun _ => true) true fuel t [v] = some x) :
    ∃ (A : Option Addr) (Ls : List Bs) (c : Nat), v = .slice A Ls.length c ∧ SS W W.heap.size A Ls ∧ Ls.length ≤ c ∧ c ≤ 9223372036854775807 := by
  rcases Deep.open_strs ht he ce hf with ⟨hcs, hx⟩ | ⟨a, len, cap, m, Sx, hcs, _, hl, hm, hmm, hx, hr⟩
  · simp at hcs
    subst hcs
    exact ⟨none, [], 0, rfl, SS.nil _ _ _, Nat.le_refl _, by omega⟩
  · simp at hcs
    subst hcs
    have hml : len ≤ m := by rw [hmm]; split <;> omega
    refine ⟨some a, (List.range len).map fun i => (Sx i).data.toList, cap, by simp, ⟨by simp [scells], fun hn => ?_⟩, by simpa using hl, hm⟩
    simp only [List.length_map, List.length_range] at hn
    have h0 := (hr 0 (by omega)).1
    have hblk := World.block_lt_of_cell? W _ h0
    rw [block_of_add] at hblk
    refine ⟨a, rfl, hblk, fun j u hu => ?_⟩
    have hj : j < len := by
      have := (List.getElem?_eq_some_iff.1 hu).1
      simpa [scells] using this
    rw [scells_get _ _ (by simpa using hj)] at hu
    rw [(hr j (by omega)).1, ← hu]
    congr 2
    simp [List.getD, hj, text]
theorem open_nodesl {W : World} {fuel : Nat} {t e : TypeId} {f0 f1 : Field} {r : TypeId} {v : Value} {x : DataW H × List MemPlace} (ht : P.underlying t = some (.slice e)) (he : P.underlying e = some (.struct #[f0, f1]))
    (ce : P.cellsOf e = 2) (o0 : f0.offset = 0) (o1 : f1.offset = 1) (c0 : P.cellsOf f0.type = 1) (c1 : P.cellsOf f1.type = 1)
    (k0 : P.underlying f0.type = some .string) (k1 : P.underlying f1.type = some (.slice r)) (hr : P.underlying r = some .string) (cr : P.cellsOf r = 1)
    (hf : DataW.trod enc P W 0 (fun _ => true) true fuel t [v] = some x) :
    ∃ (A : Option Addr) (g : Gr) (c : Nat), v = .slice A g.length c ∧ NL W W.heap.size A g := by
  rcases Deep.open_slice ht hf with ⟨hcs, hx⟩ | ⟨a, len, cap, m, n, D, Pl', hcs, _, hl, hm, hmm, hx, hel⟩
  · simp at hcs
    exact ⟨none, [], 0, hcs, [], rfl, ⟨rfl, fun h => absurd h (by simp)⟩, fun x hx => by cases hx⟩
  · simp at hcs
    have hml : len ≤ m := by rw [hmm]; split <;> omega
    have each : ∀ i, i < len → ∃ z : NdA, (SS W W.heap.size z.2.1 z.1.preds ∧ z.1.preds.length ≤ z.2.2 ∧ z.2.2 ≤ 9223372036854775807) ∧
        W.cell? (a.add (i * 2)) = some (.string (text z.1.id)) ∧ W.cell? (a.add (i * 2 + 1)) = some (.slice z.2.1 z.1.preds.length z.2.2) := by
      intro i hi
      obtain ⟨cs', h1, h2⟩ := hel i (by omega)
      rw [ce] at h1
      obtain ⟨_, hlen, hcell⟩ := World.cells?_some h1
      obtain ⟨xs, k, hk, hxy, _, hxl, hff⟩ := DataW.trod_struct he h2
      match xs, hxl, cs', hlen with
      | [y0, y1], _, [v0, v1], _ =>
        have g0 := hff 0 f0 rfl
        have g1 := hff 1 f1 rfl
        simp [o0, o1, c0, c1] at g0 g1
        have e0 := hcell 0 (by omega)
        have e1 := hcell 1 (by omega)
        rw [Deep.add_add] at e0 e1
        obtain ⟨s, hs, _, _⟩ := DataW.trod_string k0 g0
        obtain ⟨pA, pL, pc, rfl, hp1, hp2, hp3⟩ := texts_of16 k1 hr cr g1
        simp only [List.cons.injEq, and_true] at hs
        subst hs
        refine ⟨(⟨s.data.toList, pL⟩, pA, pc), ⟨hp1, hp2, hp3⟩, ?_, ?_⟩
        · simpa [text] using e0
        · simpa using e1
    obtain ⟨z, hz⟩ := Deep.choose_lt each
    refine ⟨some a, ((List.range len).map z).map (·.1), cap, by simpa using hcs, (List.range len).map z, rfl, ⟨by rw [rowN_length], fun hn => ?_⟩, fun x hx => ?_⟩
    · simp only [List.length_map, List.length_range] at hn
      have h0 := (hz 0 (by omega)).2.1
      have hblk := World.block_lt_of_cell? W _ h0
      rw [block_of_add] at hblk
      refine ⟨a, rfl, hblk, fun j u hu => ?_⟩
      have hj : j < len * 2 := by
        have := (List.getElem?_eq_some_iff.1 hu).1
        rw [rowN_length] at this
        simpa using this
      have hq : j / 2 < len := by omega
      have hg := rowN_get ((List.range len).map z) (j / 2) (by simpa using hq)
      have hc := hz (j / 2) hq
      rcases Nat.mod_two_eq_zero_or_one j with h2 | h2
      · have e : j = j / 2 * 2 := by omega
        rw [e] at hu ⊢
        rw [hg.1] at hu
        rw [hc.2.1, ← hu]
        simp
      · have e : j = j / 2 * 2 + 1 := by omega
        rw [e] at hu ⊢
        rw [hg.2] at hu
        rw [hc.2.2, ← hu]
        simp
    · obtain ⟨i, hi, rfl⟩ := List.mem_map.1 hx
      exact (hz i (List.mem_range.1 hi)).1
end
theorem open_nodes {H : Type} {enc : TypeId × Value → H} {W : World} {base : Nat} {v : Value} {d : DataW H} {ps : List MemPlace} (hv : Value.okWide Try.prog W .any base 22 v) (h : DataW.Trod enc Try.prog W 0 (fun _ => true) true 22 v d ps) :
    ∃ (A : Option Addr) (g : Gr) (c : Nat), v = .slice A g.length c ∧ NL W W.heap.size A g := by
  obtain ⟨a0, len, cap, rfl⟩ := okWide_slice Try.underlying22 hv
  obtain ⟨fuel, hf⟩ := h
  exact open_nodesl (fuel := fuel) Try.underlying22 Try.underlying35 (by kernel_rfl) rfl rfl (by kernel_rfl) (by kernel_rfl) Try.underlying9 Try.underlying33 Try.underlying9 (by kernel_rfl) (by simpa [Value.cells] using hf)
end Go.Proofs.Ytbeihiokjhfepaa
