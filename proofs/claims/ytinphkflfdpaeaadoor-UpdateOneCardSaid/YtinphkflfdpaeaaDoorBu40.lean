/- Lemmas under the proofs of this place: UpAwM. No statement is proved here. -/
import Derived.Test.YtinphkflfdpaeaaDoorBu32
import Derived.Test.YtinphkflfdpaeaaDoorBu19
import Derived.Test.YtinphkflfdpaeaaDoorBu33
import Derived.Test.YtinphkflfdpaeaaDoorBu34
import Derived.Test.YtinphkflfdpaeaaDoorBu39
import Derived.Test.YtinphkflfdpaeaaDoorBu36
set_option linter.unusedSimpArgs false
set_option linter.unusedVariables false
namespace Go.Proofs.YtinphkflfdpaeaaDoor
open Go.RowKit
def awO7 : Opn := ⟨7, [], [], 0, []⟩
def awU : Upd := ⟨3, [], awO7⟩
def awU256 : Upd := ⟨256, [], Opn.zero⟩
def awU9 : Upd := ⟨0, List.replicate 9 [], Opn.zero⟩
theorem aw_ucheck : awU.check = 0 := by decide +kernel
theorem aw_ubytes : awU.bytes = [3, 0, 7] := by decide +kernel
theorem aw_uout : awU.out = [3, 0, 7] := by
  unfold Upd.out
  rw [if_pos aw_ucheck, aw_ubytes]
theorem aw_uidw : awU.idw = idL [3, 0, 7] := by
  unfold Upd.idw
  rw [if_pos aw_ucheck, aw_uout]
theorem aw_c256 : awU256.check = 1 := by decide +kernel
theorem aw_c9 : awU9.check = 4 := by decide +kernel
theorem aw_uget : GetsU [3, 0, 7] (some awU) := getsU_yes aw_ucheck aw_ubytes
theorem aw_uget385 : GetsU (List.replicate 385 0) none := getsU_long (by rw [List.length_replicate]; omega)
theorem aw_uget4 : GetsU [3, 0, 7, 7] none := by
  have h : readU [3, 0, 7, 7] = (some [7, 7], 3, []) := by decide +kernel
  have hr : GetsO [7, 7] (some (awO7, 1)) := by
    have h2 := Begins.put (o := awO7) ((mayB_iff _).1 (by decide +kernel)) [7]
    exact h2
  exact getsU_no h hr (.inr (by decide +kernel))
theorem upget_known (b : List UInt8) (r : Option Upd) (h : GetsU b r) (n : Nat) (A : Option Addr) (c : Nat) (w : World) (hn : n = b.length) (hr : RB w w.heap.size A b) (hc : n ≤ c) (hcm : c ≤ 9223372036854775807) (hl : n ≤ 1000) :
    Calls Tryd.prog 10 #[.slice A n c] w fun e w' => ∃ A c, e = .returned (.tuple #[updV (r.getD Upd.zero) A c, .int .i64 (errGU b r)]) ∧ Hid (SS w' w'.heap.size A (r.getD Upd.zero).preds) ∧ (r.getD Upd.zero).preds.length ≤ c ∧ c ≤ 9223372036854775807 ∧ Below w.heap.size w w' :=
  (upget_any b n A c w hn hr hc hcm hl).mono fun e w' hh => by
    obtain ⟨s, A', c', h1, h2⟩ := hh
    rw [GetsU.one h h1]
    exact ⟨A', c', h2⟩
theorem Tryd.opBuild7 (w : World) : Sem.run Tryd.prog (Instr.build 24 #[(0, .int .i64 7)]) w = .ok (.agg #[.int .i64 7, .string { data := #[] }, .string { data := #[] }, .int .i64 0, .string { data := #[] }]) w := by kernel_rfl
theorem Tryd.updBuild3 (w : World) : Sem.run Tryd.prog (Instr.build 26 #[(0, .int .i64 3), (2, .agg #[.int .i64 7, .string { data := #[] }, .string { data := #[] }, .int .i64 0, .string { data := #[] }])]) w = .ok (.agg #[.int .i64 3, .slice none 0 0, .int .i64 7, .string { data := #[] }, .string { data := #[] }, .int .i64 0, .string { data := #[] }]) w := by kernel_rfl
theorem Tryd.updBuild1 (A : Option Addr) (n c : Nat) (w : World) : Sem.run Tryd.prog (Instr.build 26 #[(1, .slice A n c)]) w = .ok (.agg #[.int .i64 0, .slice A n c, .int .i64 0, .string { data := #[] }, .string { data := #[] }, .int .i64 0, .string { data := #[] }]) w := by kernel_rfl
end Go.Proofs.YtinphkflfdpaeaaDoor
