/- Slices of bools in memory (layer 5). Plain lemmas; no statement is proved here. -/
import Derived.Test.YtibaaideleinhaaDoorBase
import Derived.Test.YtibaaideleinhaaDoorGuard
import Derived.Test.YtibaaideleinhaaDoorLaw
import Derived.Test.YtibaaideleinhaaDoorBitsPlain
import Derived.Deep.QuietTactic
import Derived.BigQuiet
import Derived.IntWalk
import Derived.Lib.Hide
set_option linter.unusedVariables false
namespace Go.Proofs.YtibaaideleinhaaDoor
open Go.RowKit

def bcells (l : List Bool) : List Value := l.map Value.bool
theorem bcells_length (l : List Bool) : (bcells l).length = l.length := by simp [bcells]
theorem bcells_one (l : List Bool) : ∀ u ∈ bcells l, u.oneCell' = true := by
  intro u hu
  simp only [bcells, List.mem_map] at hu
  obtain ⟨b, _, rfl⟩ := hu
  rfl
theorem bcells_get (l : List Bool) (k : Nat) (h : k < l.length) : (bcells l)[k]? = some (.bool (l.getD k false)) := by
  simp [bcells, List.getD, List.getElem?_eq_getElem h]
/-- Bools: the slice value of address A reads as l, and lies below block B. -/
def BS (w : World) (B : Nat) (A : Option Addr) (l : List Bool) : Prop := Reads w B 1 A l.length (bcells l)
theorem BS.at_ {w : World} {B : Nat} {A : Option Addr} {l : List Bool} (h : BS w B A l) (hn : 0 < l.length) : ∃ b off, A = some ⟨b, off, none⟩ ∧ b < B ∧ ∀ k, k < l.length → w.cell? ⟨b, off + k, none⟩ = some (.bool (l.getD k false)) := by
  obtain ⟨ad, e, hb, hc⟩ := h.2 hn
  have h0 := hc 0 _ (bcells_get l 0 hn)
  obtain ⟨b, off, p⟩ := ad
  have e0 : (⟨b, off, p⟩ : Addr).add 0 = ⟨b, off, p⟩ := by simp [Addr.add]
  rw [e0] at h0
  have hp : p = none := World.cell?_spot h0
  subst hp
  refine ⟨b, off, e, hb, fun k hk => ?_⟩
  have := hc k _ (bcells_get l k hk)
  have ea : (⟨b, off, none⟩ : Addr).add k = ⟨b, off + k, none⟩ := by unfold Addr.add; split <;> simp_all
  rwa [ea] at this
theorem BS.below {w w' : World} {B : Nat} {A : Option Addr} {l : List Bool} (h : BS w B A l) (hb : Below B w w') : BS w' B A l := Reads.below h hb
theorem BS.more {w : World} {B B' : Nat} {A : Option Addr} {l : List Bool} (h : BS w B A l) (hB : B ≤ B') : BS w B' A l := Reads.more h hB
theorem BS.lt {w : World} {B : Nat} {A : Option Addr} {l : List Bool} (h : BS w B A l) : BS w w.heap.size A l := by
  refine ⟨h.1, fun hn => ?_⟩
  obtain ⟨ad, e, hb, hc⟩ := h.2 hn
  refine ⟨ad, e, ?_, hc⟩
  have h0 := hc 0 _ (bcells_get l 0 hn)
  have := World.block_lt_of_cell? w _ h0
  rwa [block_of_add] at this

end Go.Proofs.YtibaaideleinhaaDoor
