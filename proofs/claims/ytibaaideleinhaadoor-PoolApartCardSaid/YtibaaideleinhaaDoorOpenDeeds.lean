/- An argument that is a slice of pairs of numbers, opened. Plain lemmas; no statement is proved here. -/
import Derived.Test.YtibaaideleinhaaDoorLaw
import Derived.Deep.SlicePairs
set_option linter.unusedVariables false
namespace Go.Proofs.YtibaaideleinhaaDoor
open Go.ChangeShapes Go.WideShapes Go.ChangeAt Go.RowKit

/-- Pairs of numbers: the slice value of address A reads as D, and lies below block B. -/
def DS (w : World) (B : Nat) (A : Option Addr) (D : List (Int × Int)) : Prop :=
  0 < D.length → ∃ b off, A = some ⟨b, off, none⟩ ∧ b < B ∧ ∀ k (hk : k < D.length), w.cell? ⟨b, off + k * 2, none⟩ = some (.int .i64 D[k].1) ∧ w.cell? ⟨b, off + k * 2 + 1, none⟩ = some (.int .i64 D[k].2)
theorem DS.below {w w' : World} {B : Nat} {A : Option Addr} {D : List (Int × Int)} (h : DS w B A D) (hb : Below B w w') : DS w' B A D := fun hn => by
  obtain ⟨b, off, e, hlt, hc⟩ := h hn
  exact ⟨b, off, e, hlt, fun k hk => ⟨(hb.cell (p := ⟨b, off + k * 2, none⟩) hlt).trans (hc k hk).1, (hb.cell (p := ⟨b, off + k * 2 + 1, none⟩) hlt).trans (hc k hk).2⟩⟩
theorem addr_add (b off j : Nat) : (⟨b, off, none⟩ : Addr).add j = ⟨b, off + j, none⟩ := by unfold Addr.add; split <;> simp_all
/-- A number that an int holds. -/
def InI (z : Int) : Prop := -9223372036854775808 ≤ z ∧ z ≤ 9223372036854775807
theorem ini_of_wf {z : Int} (h : (Lit.int .i64 z).wf = true) : InI z := by
  simpa [InI, Lit.wf, IntKind.min, IntKind.max, IntKind.signed, IntKind.bits] using h

section
variable {H : Type} {enc : TypeId × Value → H} {P : Program}
theorem open_deeds {W : World} {base : Nat} {t e : TypeId} {f0 f1 : Field} {v : Value} {d : DataW H} {ps : List MemPlace} (ht : P.underlying t = some (.slice e)) (he : P.underlying e = some (.struct #[f0, f1]))
    (ce : P.cellsOf e = 2) (o0 : f0.offset = 0) (o1 : f1.offset = 1) (c0 : P.cellsOf f0.type = 1) (c1 : P.cellsOf f1.type = 1) (k0 : P.underlying f0.type = some (.int .i64)) (k1 : P.underlying f1.type = some (.int .i64))
    (hv : Value.okWide P W .any base t v) (h : DataW.Trod enc P W 0 (fun _ => true) true t v d ps) :
    ∃ (A : Option Addr) (D : List (Int × Int)) (c : Nat), v = .slice A D.length c ∧ DS W W.heap.size A D ∧ D.length ≤ c ∧ c ≤ 9223372036854775807 ∧ ∀ x ∈ D, InI x.1 ∧ InI x.2 := by
  obtain ⟨a0, len, cap, rfl⟩ := okWide_slice ht hv
  obtain ⟨fuel, hf⟩ := h
  rcases Deep.open_slice_pairs ht he ce o0 o1 c0 c1 hf with ⟨hcs, hx⟩ | ⟨a, len', cap', m, n, V0, V1, D0, D1, P0, P1, hcs, _, hl, hm, hmm, hx, hr⟩
  · simp [Value.cells] at hcs
    obtain ⟨rfl, rfl, rfl⟩ := hcs
    exact ⟨none, [], 0, rfl, fun h => absurd h (by simp), Nat.le_refl _, by omega, by simp⟩
  · simp [Value.cells] at hcs
    obtain ⟨rfl, rfl, rfl⟩ := hcs
    have hml : len ≤ m := by rw [hmm]; split <;> omega
    have g0 : ∀ i, i < m → ∃ z, V0 i = .int .i64 z ∧ (Lit.int .i64 z).wf = true := fun i hi => by
      obtain ⟨z, hz, _, hw⟩ := DataW.trod_int k0 (hr i hi).2.2.1
      simp at hz
      exact ⟨z, hz, hw⟩
    have g1 : ∀ i, i < m → ∃ z, V1 i = .int .i64 z ∧ (Lit.int .i64 z).wf = true := fun i hi => by
      obtain ⟨z, hz, _, hw⟩ := DataW.trod_int k1 (hr i hi).2.2.2
      simp at hz
      exact ⟨z, hz, hw⟩
    let num : Value → Int := fun v => match v with | .int _ z => z | _ => 0
    have e0 : ∀ i, i < m → V0 i = .int .i64 (num (V0 i)) ∧ InI (num (V0 i)) := fun i hi => by
      obtain ⟨z, hz, hw⟩ := g0 i hi
      rw [hz]; exact ⟨rfl, ini_of_wf hw⟩
    have e1 : ∀ i, i < m → V1 i = .int .i64 (num (V1 i)) ∧ InI (num (V1 i)) := fun i hi => by
      obtain ⟨z, hz, hw⟩ := g1 i hi
      rw [hz]; exact ⟨rfl, ini_of_wf hw⟩
    refine ⟨some a, (List.range len).map fun i => (num (V0 i), num (V1 i)), cap, by simp, fun hn => ?_, by simpa using hl, hm, fun x hx => ?_⟩
    · simp only [List.length_map, List.length_range] at hn
      obtain ⟨b, off, p⟩ := a
      have h0 := (hr 0 (by omega)).1
      have e00 : (⟨b, off, p⟩ : Addr).add (0 * 2) = ⟨b, off, p⟩ := by simp [Addr.add]
      rw [e00] at h0
      have hp : p = none := World.cell?_spot h0
      subst hp
      have hblk := World.block_lt_of_cell? W _ h0
      refine ⟨b, off, rfl, hblk, fun k hk => ?_⟩
      simp only [List.length_map, List.length_range] at hk
      have ea := addr_add b off
      have hc := hr k (by omega)
      rw [ea, ea] at hc
      simp only [List.getElem_map, List.getElem_range]
      rw [← (e0 k (by omega)).1, ← (e1 k (by omega)).1]
      exact ⟨hc.1, hc.2.1⟩
    · obtain ⟨i, hi, rfl⟩ := List.mem_map.1 hx
      rw [List.mem_range] at hi
      exact ⟨(e0 i (by omega)).2, (e1 i (by omega)).2⟩
end

end Go.Proofs.YtibaaideleinhaaDoor
