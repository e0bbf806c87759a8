/- What layer 6's DiskClones needs. Plain lemmas. -/
import Derived.Test.YthaljnnkpfeooaaDiskDoesM
import Derived.Test.YthaljnnkpfeooaaDiskRClone
set_option linter.unusedVariables false
namespace Go.Proofs.Ythaljnnkpfeooaa
open Go.RowKit

/-- Both clones, behind the world ahead of them. -/
theorem Two.cloned {D : Dk} {wo w1 w2 : World} {g q : Nat} {F G B : Nat → Prop} (hB : ∀ k, B k → k < wo.heap.size) (hp : GivesDisk D wo w1 g F) (hr : GivesCl D w1 w2 q G B) : Two [] wo w2 g F D q G B D := by
  have h1 := Has.gives (Below.refl _ wo) hp
  have hs := h1.below.size
  refine ⟨h1.more hr.2.1, hr.1, fun k hk => ?_, fun k hk hg => ?_, fun k hk hb => ?_, fun x hx => by cases hx⟩
  · have := hr.2.2 k hk; omega
  · have := hr.2.2 k hg; have := h1.flt k hk; omega
  · have := hB k hb; have := h1.own k hk; omega
theorem ri_up {w w' : World} {A : Option Addr} {Z : List Int} (h : RI w w.heap.size A Z) (hb : Below w.heap.size w w') : RI w' w'.heap.size A Z := fun h0 => by
  obtain ⟨b, off, e, hlt, hc⟩ := h h0
  exact ⟨b, off, e, Nat.lt_of_lt_of_le hlt hb.size, fun k hk => (hb.cell (p := ⟨b, off + k, none⟩) hlt).trans (hc k hk)⟩
theorem DV.up {w w' : World} {x : Dd} {dA mA : Option Addr} {dc mc : Nat} (h : DV w x dA dc mA mc) (hb : Below w.heap.size w w') : DV w' x dA dc mA mc :=
  ⟨(h.rb.below hb).more hb.size, ri_up h.ri hb, h.dlen, h.kin, h.nin⟩
theorem Try.statEql (a b c : Int) (W : World) : Sem.run Try.prog (binOp .eql 39 (.agg #[.int .i64 a, .int .i64 b, .int .i64 c]) (.agg #[.int .i64 a, .int .i64 b, .int .i64 c])) W = .ok (.bool true) W := by
  simp [go_sem]
theorem Try.statZero (W : World) : Sem.run Try.prog (Instr.build 39 #[]) W = .ok (.agg #[.int .i64 0, .int .i64 0, .int .i64 0]) W := by kernel_rfl
end Go.Proofs.Ythaljnnkpfeooaa
