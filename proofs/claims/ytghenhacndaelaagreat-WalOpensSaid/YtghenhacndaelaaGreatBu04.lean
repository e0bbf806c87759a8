/- Lemmas under the proofs of this place: OpenParts. No statement is proved here. -/
import Derived.Test.YtghenhacndaelaaGreatBu01
import Derived.Deep.Matrix
set_option linter.unusedVariables false
namespace Go.Proofs.YtghenhacndaelaaGreat
open Go.ChangeShapes Go.WideShapes Go.ChangeAt Go.RowKit
def bytesOfInts (zs : List Int) : List UInt8 := zs.map fun z => UInt8.ofNat z.toNat
theorem cells_of_ints (zs : List Int) (h : ∀ n ∈ zs, (Lit.int .u8 n).wf = true) : cells (bytesOfInts zs) = zs.map (Value.int .u8) := by
  unfold cells bytesOfInts
  rw [List.map_map]
  apply List.map_congr_left
  intro z hz'
  have hw := h z hz'
  have hb : 0 ≤ z ∧ z ≤ 255 := by simpa [Lit.wf, IntKind.min, IntKind.max, IntKind.signed, IntKind.bits] using hw
  show Value.int .u8 _ = Value.int .u8 z
  rw [ofNat_toNat _ (by omega)]
  congr 1
  omega
theorem rb_of_ints {W : World} {A : Option Addr} {zs : List Int} (len : Nat) (hl : len ≤ zs.length) (hw : ∀ n ∈ zs, (Lit.int .u8 n).wf = true)
    (hA : A = none → zs.length = 0) (hc : ∀ a, A = some a → ∀ c, c < zs.length → W.cell? (a.add c) = some (.int .u8 (zs.getD c 0))) : RB W W.heap.size A (bytesOfInts (zs.take len)) := by
  have hlen : (zs.take len).length = len := by rw [List.length_take]; omega
  unfold RB
  rw [cells_of_ints _ (fun n hn => hw n (List.mem_of_mem_take hn))]
  refine ⟨by simp [bytesOfInts], fun hn => ?_⟩
  have hn' : 0 < len := by simp [bytesOfInts] at hn; omega
  rcases A with _ | a
  · have := hA rfl; omega
  · have h0 := hc a rfl 0 (by omega)
    have hblk := World.block_lt_of_cell? W _ h0
    refine ⟨a, rfl, by rw [block_of_add] at hblk; exact hblk, fun j u hu => ?_⟩
    rw [List.getElem?_map, List.getElem?_take] at hu
    split at hu
    · rename_i hj
      rw [hc a rfl j (by omega)]
      rw [List.getElem?_eq_getElem (by omega)] at hu
      simp only [Option.map_some, Option.some.injEq] at hu
      rw [← hu]
      simp [List.getD, List.getElem?_eq_getElem (show j < zs.length by omega)]
    · cases hu
end Go.Proofs.YtghenhacndaelaaGreat
