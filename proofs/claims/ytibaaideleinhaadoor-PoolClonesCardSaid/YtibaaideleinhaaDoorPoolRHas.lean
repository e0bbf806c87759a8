/- The walks of the reference's there, Has (layer 11). -/
import Derived.Test.YtibaaideleinhaaDoorPoolMem
import Derived.Test.YtibaaideleinhaaDoorGuard
import Derived.Deep.QuietTactic
import Derived.BigQuiet
set_option linter.unusedVariables false
namespace Go.Proofs.YtibaaideleinhaaDoor
open Go.RowKit

set_option maxRecDepth 100000 in
set_option maxHeartbeats 1000000 in
theorem rpthere_any (p : Pl) (A : Option Addr) (c : Nat) (b : Int) (w : World) (hs : p.small) (hb : InZ b) : Calls Tryd.prog 38 #[plV p A c, .int .i64 b] w fun e w' => e = .returned (.bool (p.th b)) ∧ Below w.heap.size w w' := by
  obtain ⟨n, hn⟩ : ∃ n, n = p.tk.length := ⟨_, rfl⟩
  obtain ⟨lo, hlo⟩ : ∃ n, n = p.lo := ⟨_, rfl⟩
  have hn4 : n ≤ 1024 := by have := hs.2; omega
  have hl4 : 0 ≤ lo ∧ lo ≤ 1024 := by have := hs.1; omega
  unfold InZ at hb
  have HT : Hid (p.th b = (decide (lo ≤ b) && decide (b - lo < (n : Int)))) := by show _ = _; unfold Pl.th; rw [hn, hlo]
  unfold plV
  rw [← hn, ← hlo]
  have hb0 : Below w.heap.size w (w.alloc (.cells #[.int .i64 lo, .slice A n c] 29)) := (Below.refl _ _).alloc (Nat.le_refl _) _
  clear hn hlo hs
  by_cases h1 : lo ≤ b
  · have d0 : decide (lo ≤ b) = true := decide_eq_true h1
    have d1 : decide (b ≥ lo) = true := decide_eq_true h1
    have y7 : IntKind.i64.wrap (b - lo) = b - lo := IntWalk.i64_in _ (by omega)
    go_enter Tryd.func38, Tryd.ntmps38
    go_wp2
    go_ret
    exact ⟨by rw [HT.out, d0]; rfl, hb0⟩
  · have d0 : decide (lo ≤ b) = false := decide_eq_false h1
    have d1 : decide (b ≥ lo) = false := decide_eq_false h1
    go_enter Tryd.func38, Tryd.ntmps38
    go_wp2
    go_ret
    exact ⟨by rw [HT.out, d0]; rfl, hb0⟩
set_option maxRecDepth 100000 in
set_option maxHeartbeats 1000000 in
theorem rphas_any (p : Pl) (A : Option Addr) (c : Nat) (b : Int) (w : World) (h : PlAt w p A c) (hb : InZ b) : Calls Tryd.prog 24 #[plV p A c, .int .i64 b] w fun e w' => e = .returned (.bool (p.has b)) ∧ Below w.heap.size w w' := by
  have a0 := fun w' => Tryd.poolAgg w'
  have s0 := fun w' => Tryd.poolSize w'
  have HT : Hid (∀ W, Calls Tryd.prog 38 #[.agg #[.int .i64 p.lo, .slice A p.tk.length c], .int .i64 b] W fun e w' => e = .returned (.bool (p.th b)) ∧ Below W.heap.size W w') := fun W => rpthere_any p A c b W h.small hb
  cases ht : p.th b with
  | false =>
    have hv : p.has b = false := by unfold Pl.has; rw [ht]; rfl
    rw [hv]
    rw [ht] at HT
    unfold plV
    have hb0 : Below w.heap.size w (w.alloc (.cells #[.int .i64 p.lo, .slice A p.tk.length c] 29)) := (Below.refl _ _).alloc (Nat.le_refl _) _
    clear h ht hv hb
    go_enter Tryd.func24, Tryd.ntmps24
    go_wp2_with (go_at_call 38; (with_reducible refine (HT.out _).mono ?_); rintro e w1 ⟨rfl, b1⟩)
    go_ret
    exact ⟨rfl, hb0.trans (b1.mono hb0.size)⟩
  | true =>
    have ht2 := Pl.th_iff.1 ht
    obtain ⟨j, hj⟩ : ∃ j : Nat, b = p.lo + (j : Int) := ⟨(b - p.lo).toNat, by omega⟩
    have hjl : j < p.tk.length := by omega
    have hv : p.has b = p.tk.getD j false := by unfold Pl.has; rw [ht, show (b - p.lo).toNat = j by omega]; rfl
    obtain ⟨B, off, e, hbb, hcc⟩ := h.bs.at_ (show 0 < p.tk.length by omega)
    subst e
    have hck := hcc j hjl
    rw [hv]
    rw [ht] at HT
    have HS : Hid p.small := h.small
    obtain ⟨x, hx⟩ : ∃ x, x = p.tk.getD j false := ⟨_, rfl⟩
    obtain ⟨n, hn⟩ : ∃ n, n = p.tk.length := ⟨_, rfl⟩
    obtain ⟨lo, hlo⟩ : ∃ n, n = p.lo := ⟨_, rfl⟩
    have hn4 : n ≤ 1024 := by have := h.small.2; omega
    have hl4 : 0 ≤ lo ∧ lo ≤ 1024 := by have := h.small.1; omega
    unfold plV
    rw [← hx] at hck ⊢
    rw [← hn, ← hlo]
    rw [← hn, ← hlo] at HT
    rw [← hlo] at hj
    subst hj
    have hjn : j < n := by omega
    have hb0 : Below w.heap.size w (w.alloc (.cells #[.int .i64 lo, .slice (some ⟨B, off, none⟩) n c] 29)) := (Below.refl _ _).alloc (Nat.le_refl _) _
    have y7 : IntKind.i64.wrap (lo + (j : Int) - lo) = (j : Int) := by rw [show lo + (j : Int) - lo = (j : Int) by omega]; exact IntWalk.i64_in _ (by omega)
    have u0 : (0 : Int) ≤ (j : Int) := by omega
    have u1 : (j : Int) < (n : Int) := by omega
    have HK := Lib.hid hck
    have HG : Hid (Blk (w.alloc (.cells #[.int .i64 lo, .slice (some ⟨B, off, none⟩) n c] 29)) w.heap.size 29 #[.int .i64 lo, .slice (some ⟨B, off, none⟩) n c]) := Blk.new _ _ _
    clear h ht ht2 hv hb hcc hx hn hlo hck hjl
    go_enter Tryd.func24, Tryd.ntmps24
    go_wp2_with (go_at_call 38; (with_reducible refine (HT.out _).mono ?_); rintro e w1 ⟨rfl, b1⟩; have k1 := (hb0.trans (b1.mono hb0.size)); have c0 := (k1.cell (p := ⟨B, off + j, none⟩) hbb).trans HK.out; have G1 := Blk.below HG.out b1 HG.out.lt; have g0 : w1.cell? ⟨w.heap.size, 0, none⟩ = some (.int .i64 lo) := G1.cell 0; have g1 : w1.cell? ⟨w.heap.size, 1, none⟩ = some (.slice (some ⟨B, off, none⟩) n c) := G1.cell 1; clear G1)
    go_ret
    exact ⟨rfl, k1⟩
end Go.Proofs.YtibaaideleinhaaDoor
