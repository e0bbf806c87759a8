/- Slice expressions over bytes, as run equations. Plain lemmas; no statement is proved here. -/
import Derived.Test.YtepeoggacmaenaaMem
set_option linter.unusedVariables false
namespace Go.Proofs.Ytepeoggacmaenaa
open Go.RowKit

theorem add_at (a off s : Nat) : (⟨a, off, none⟩ : Addr).add s = ⟨a, off + s, none⟩ := by unfold Addr.add; split <;> simp_all
/-- 's[i:]'. -/
theorem sl_from (a off n c s : Nat) (i : Int) (hi : i = (s : Int)) (h1 : s ≤ n) (h2 : s < c) (W : World) :
    (Instr.sliceAt 22 (.slice (some ⟨a, off, none⟩) n c) (some (.int .i64 i)) none none).run Try.prog W = .ok (.slice (some ⟨a, off + s, none⟩) (n - s) (c - s)) W := by
  subst hi
  have hu : Try.prog.underlying 22 = some (.slice (Try.prog.elem 22)) := by kernel_rfl
  have he : Try.prog.elem 22 = 5 := by kernel_rfl
  have hsz : (sizeOf 5).run Try.prog W = .ok 1 W := by kernel_rfl
  have e : (s : Int).toNat = s := by omega
  rw [run_sliceAt_slice _ _ _ _ _ _ hu, run_slice_l _ _ _ _ _ hu .i64 (s : Int) (by omega) (by omega), he, hsz]
  simp only [Result.andThen_ok, e, sliced]
  rw [if_neg (show ¬ c = s by omega)]
  simp only [Option.map_some, Nat.mul_one, add_at]
/-- 's[:j]'. -/
theorem sl_to (a off n c h : Nat) (j : Int) (hj : j = (h : Int)) (h1 : h ≤ c) (h0 : 0 < c) (W : World) :
    (Instr.sliceAt 22 (.slice (some ⟨a, off, none⟩) n c) none (some (.int .i64 j)) none).run Try.prog W = .ok (.slice (some ⟨a, off, none⟩) h c) W := by
  subst hj
  have hu : Try.prog.underlying 22 = some (.slice (Try.prog.elem 22)) := by kernel_rfl
  have he : Try.prog.elem 22 = 5 := by kernel_rfl
  have hsz : (sizeOf 5).run Try.prog W = .ok 1 W := by kernel_rfl
  have e : (h : Int).toNat = h := by omega
  rw [run_sliceAt_slice _ _ _ _ _ _ hu, run_slice_h _ _ _ _ _ hu .i64 (h : Int) (by omega) (by omega), he, hsz]
  simp only [Result.andThen_ok, e, sliced]
  rw [if_neg (show ¬ c = 0 by omega)]
  simp only [Option.map_some, Nat.zero_mul, add_at, Nat.add_zero, Nat.sub_zero]
/-- 's[i:j]'. -/
theorem sl_both (a off n c s h : Nat) (i j : Int) (hi : i = (s : Int)) (hj : j = (h : Int)) (h1 : s ≤ h) (h2 : h ≤ c) (h3 : s < c) (W : World) :
    (Instr.sliceAt 22 (.slice (some ⟨a, off, none⟩) n c) (some (.int .i64 i)) (some (.int .i64 j)) none).run Try.prog W = .ok (.slice (some ⟨a, off + s, none⟩) (h - s) (c - s)) W := by
  subst hi hj
  have hu : Try.prog.underlying 22 = some (.slice (Try.prog.elem 22)) := by kernel_rfl
  have he : Try.prog.elem 22 = 5 := by kernel_rfl
  have hsz : (sizeOf 5).run Try.prog W = .ok 1 W := by kernel_rfl
  have e : (h : Int).toNat = h := by omega
  have e2 : (s : Int).toNat = s := by omega
  rw [run_sliceAt_slice _ _ _ _ _ _ hu, run_slice_lh _ _ _ _ _ hu .i64 .i64 (s : Int) (h : Int) (by omega) (by omega) (by omega), he, hsz]
  simp only [Result.andThen_ok, e, e2, sliced]
  rw [if_neg (show ¬ c = s by omega)]
  simp only [Option.map_some, Nat.mul_one, add_at]
end Go.Proofs.Ytepeoggacmaenaa
