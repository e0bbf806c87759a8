/- An argument that is a slice of slices of bytes, opened. Plain lemmas; no statement is proved here. -/
import Derived.Test.YtepeoggacmaenaaLaw
import Derived.Deep.Matrix
set_option linter.unusedVariables false
namespace Go.Proofs.Ytepeoggacmaenaa
open Go.ChangeShapes Go.WideShapes Go.ChangeAt Go.RowKit

/-- Ints of a byte's kind, as bytes. -/
def bytesOfInts (zs : List Int) : List UInt8 := zs.map fun z => UInt8.ofNat z.toNat
theorem cells_of_ints (zs : List Int) (h : ∀ n ∈ zs, (Lit.int .u8 n).wf = true) : cells (bytesOfInts zs) = zs.map (Value.int .u8) := by
  unfold cells bytesOfInts
  rw [List.map_map]
  apply List.map_congr_left
  intro z hz'
  have hw := h z hz'
  have hb : 0 ≤ z ∧ z ≤ 255 := by simpa [Lit.wf, IntKind.min, IntKind.max, IntKind.signed, IntKind.bits] using hw
  show Value.int .u8 _ = Value.int .u8 z
  rw [ofNat_toNat _ (by omega)]
  congr 1
  omega
/-- Bytes that lie at an address as ints. -/
theorem rb_of_ints {W : World} {A : Option Addr} {zs : List Int} (len : Nat) (hl : len ≤ zs.length) (hw : ∀ n ∈ zs, (Lit.int .u8 n).wf = true)
    (hA : A = none → zs.length = 0) (hc : ∀ a, A = some a → ∀ c, c < zs.length → W.cell? (a.add c) = some (.int .u8 (zs.getD c 0))) : RB W W.heap.size A (bytesOfInts (zs.take len)) := by
  have hlen : (zs.take len).length = len := by rw [List.length_take]; omega
  unfold RB
  rw [cells_of_ints _ (fun n hn => hw n (List.mem_of_mem_take hn))]
  refine ⟨by simp [bytesOfInts], fun hn => ?_⟩
  have hn' : 0 < len := by simp [bytesOfInts] at hn; omega
  rcases A with _ | a
  · have := hA rfl; omega
  · have h0 := hc a rfl 0 (by omega)
    have hblk := World.block_lt_of_cell? W _ h0
    refine ⟨a, rfl, by rw [block_of_add] at hblk; exact hblk, fun j u hu => ?_⟩
    rw [List.getElem?_map, List.getElem?_take] at hu
    split at hu
    · rename_i hj
      rw [hc a rfl j (by omega)]
      rw [List.getElem?_eq_getElem (by omega)] at hu
      simp only [Option.map_some, Option.some.injEq] at hu
      rw [← hu]
      simp [List.getD, List.getElem?_eq_getElem (show j < zs.length by omega)]
    · cases hu

/-- Slices of bytes: the slice value of address A reads as Ls, and all of it lies below block B. -/
def Parts (w : World) (B : Nat) (A : Option Addr) (Ls : List (List UInt8)) : Prop :=
  0 < Ls.length → ∃ b off, A = some ⟨b, off, none⟩ ∧ b < B ∧ ∀ i (hi : i < Ls.length), ∃ (Ai : Option Addr) (ci : Nat), w.cell? ⟨b, off + i, none⟩ = some (.slice Ai Ls[i].length ci) ∧ RB w B Ai Ls[i] ∧ Ls[i].length ≤ ci ∧ ci ≤ maxLen
theorem Parts.below {w w' : World} {B : Nat} {A : Option Addr} {Ls : List (List UInt8)} (h : Parts w B A Ls) (hb : Below B w w') : Parts w' B A Ls := fun hn => by
  obtain ⟨b, off, e, hlt, hc⟩ := h hn
  refine ⟨b, off, e, hlt, fun i hi => ?_⟩
  obtain ⟨Ai, ci, h1, h2, h3, h4⟩ := hc i hi
  exact ⟨Ai, ci, (hb.cell (p := ⟨b, off + i, none⟩) hlt).trans h1, h2.below hb, h3, h4⟩

section
variable {H : Type} {enc : TypeId × Value → H} {P : Program}
theorem open_parts {W : World} {base : Nat} {t e q : TypeId} {v : Value} {d : DataW H} {ps : List MemPlace} (ht : P.underlying t = some (.slice e)) (he : P.underlying e = some (.slice q)) (hq : P.underlying q = some (.int .u8)) (ce : P.cellsOf e = 1) (cq : P.cellsOf q = 1)
    (hv : Value.okWide P W .any base t v) (h : DataW.Trod enc P W 0 (fun _ => true) true t v d ps) :
    ∃ (A : Option Addr) (Ls : List (List UInt8)) (c : Nat), v = .slice A Ls.length c ∧ Parts W W.heap.size A Ls ∧ Ls.length ≤ c ∧ c ≤ maxLen := by
  obtain ⟨a0, len, cap, rfl⟩ := okWide_slice ht hv
  obtain ⟨fuel, hf⟩ := h
  rcases Deep.open_int_rows ht he hq ce cq hf with ⟨hcs, hx⟩ | ⟨a, len', cap', A, L, C, Z, hcs, _, hl, hm, hx, hr⟩
  · simp [Value.cells] at hcs
    obtain ⟨rfl, rfl, rfl⟩ := hcs
    exact ⟨none, [], 0, rfl, fun h => absurd h (by simp), Nat.le_refl _, Nat.zero_le _⟩
  · simp [Value.cells] at hcs
    obtain ⟨rfl, rfl, rfl⟩ := hcs
    refine ⟨some a, (List.range len).map fun r => bytesOfInts ((Z r).take (L r)), cap, by simp, fun hn => ?_, by simpa using hl, hm⟩
    simp only [List.length_map, List.length_range] at hn
    obtain ⟨b, off, p⟩ := a
    have h0 := (hr 0 (by omega)).1
    have e0 : (⟨b, off, p⟩ : Addr).add 0 = ⟨b, off, p⟩ := by simp [Addr.add]
    rw [e0] at h0
    have hp : p = none := World.cell?_spot h0
    subst hp
    have hblk := World.block_lt_of_cell? W _ h0
    refine ⟨b, off, rfl, hblk, fun i hi => ?_⟩
    simp only [List.length_map, List.length_range] at hi
    obtain ⟨hc, hlc, hcm, hz, hw, hA, hcell⟩ := hr i (by omega)
    have ea : (⟨b, off, none⟩ : Addr).add i = ⟨b, off + i, none⟩ := by unfold Addr.add; split <;> simp_all
    rw [ea] at hc
    have hli : ((Z i).take (L i)).length = L i := by rw [List.length_take]; omega
    have hgi : ((List.range len).map fun r => bytesOfInts ((Z r).take (L r)))[i]'(by simpa using hi) = bytesOfInts ((Z i).take (L i)) := by simp
    have hll : (bytesOfInts ((Z i).take (L i))).length = L i := by simp [bytesOfInts]; omega
    refine ⟨A i, C i, ?_, ?_, ?_, hcm⟩
    · rw [hgi, hll]; exact hc
    · rw [hgi]
      exact rb_of_ints (L i) (by omega) hw (fun h => by have := hA h; omega) (fun a' ha c' hc' => (hcell a' ha).2 c' (by omega))
    · rw [hgi, hll]; exact hlc
end

end Go.Proofs.Ytepeoggacmaenaa
