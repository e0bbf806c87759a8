/- What sha's functions give, as callers ask it (layer 3); slices cut at the front and at the back. -/
import Derived.Test.YtmmilgjdngdnfaaDoorShaPSum
set_option linter.unusedVariables false
namespace Go.Proofs.YtmmilgjdngdnfaaDoor
open Go.RowKit

theorem add_lies (L M : List UInt8) (g B n : Nat) (A : Option Addr) (c : Nat) (w : World) (h : HashAt w g L) (hg : g ≠ 0) (hT : Tab w) (hr : RB w B A M) (hB : B ≤ g) (hn : n = M.length)
    (hl : L.length + M.length ≤ 1000000) (hc : M.length ≤ c) (hcm : c ≤ 9223372036854775807) :
    Calls Tryd.prog 32 #[.pointer (some ⟨g, 0, none⟩), .slice A n c] w fun e w' => e = .returned (.tuple #[]) ∧ HashAt w' g (L ++ M) ∧ Only w w' g := by
  subst hn
  exact add_below L M g B A c w h hg hT hr hB hl hc hcm
theorem begin_gives (w : World) : Calls Tryd.prog 31 #[] w fun e w' => ∃ g, e = .returned (.pointer (some ⟨g, 0, none⟩)) ∧ Hid (g = w.heap.size) ∧ Hid (HashAt w' g []) ∧ Below w.heap.size w w' := by
  refine (begin_any w).mono ?_
  rintro e w' ⟨rfl, h1, h2⟩
  exact ⟨_, rfl, rfl, h1, h2⟩
theorem sum_gives (L : List UInt8) (g : Nat) (w : World) (t : ByteArray) (h : HashAt w g L) (hT : Tab w) (hl : L.length ≤ 100000) (ht : text (idL L) = t) :
    Calls Tryd.prog 33 #[.pointer (some ⟨g, 0, none⟩)] w fun e w' => e = .returned (.string t) ∧ Below w.heap.size w w' := by
  rw [← ht]
  exact sum_any L g w h hT hl
theorem slice_front (A : Option Addr) (n c k : Nat) (W : World) (hk : k ≤ c) : (Instr.sliceAt 39 (.slice A n c) none (some (.int .i64 (k : Int))) none).run Tryd.prog W = .ok (.slice A k c) W := by
  have hu : Tryd.prog.underlying 39 = some (.slice (Tryd.prog.elem 39)) := by kernel_rfl
  have he : Tryd.prog.elem 39 = 5 := by kernel_rfl
  have hs : (sizeOf 5).run Tryd.prog W = .ok 1 W := by kernel_rfl
  have e : (k : Int).toNat = k := by omega
  have e0 : Option.map (fun x : Addr => x.add (0 * 1)) A = A := by
    rcases A with _ | x
    · rfl
    · simp [Addr.add]
  rw [run_sliceAt_slice _ _ _ _ _ _ hu, run_slice_h _ _ _ _ _ hu .i64 (k : Int) (by omega) (by omega), he, hs]
  simp only [Result.andThen_ok, e, sliced, e0]
  simp
theorem slice_back (A : Option Addr) (n c k : Nat) (W : World) (hk : k ≤ n) : (Instr.sliceAt 39 (.slice A n c) (some (.int .i64 (k : Int))) none none).run Tryd.prog W = .ok (.slice (if c = k then A else A.map (fun x => x.add (k * 1))) (n - k) (c - k)) W := by
  have hu : Tryd.prog.underlying 39 = some (.slice (Tryd.prog.elem 39)) := by kernel_rfl
  have he : Tryd.prog.elem 39 = 5 := by kernel_rfl
  have hs : (sizeOf 5).run Tryd.prog W = .ok 1 W := by kernel_rfl
  have e : (k : Int).toNat = k := by omega
  rw [run_sliceAt_slice _ _ _ _ _ _ hu, run_slice_l _ _ _ _ _ hu .i64 (k : Int) (by omega) (by omega), he, hs]
  simp only [Result.andThen_ok, e, sliced]

end Go.Proofs.YtmmilgjdngdnfaaDoor
