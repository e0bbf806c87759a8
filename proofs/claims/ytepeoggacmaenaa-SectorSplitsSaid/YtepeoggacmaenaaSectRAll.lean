/- The walk of the reference's SameAll of sectors (layer 7). -/
import Derived.Test.YtepeoggacmaenaaSectRSame
import Derived.Deep.RegionWith
set_option linter.unusedVariables false
namespace Go.Proofs.Ytepeoggacmaenaa
open Go.RowKit

set_option maxRecDepth 100000 in
set_option maxHeartbeats 4000000 in
/-- SameAll of two lists that are the same. -/
theorem rall_yes (l : List Sd) (n : Nat) (A A' : Option Addr) (c c' : Nat) (w : World) (hn : n = l.length) (hl : n ≤ 1000000) (h1 : SL w w.heap.size A l) (h2 : SL w w.heap.size A' l) :
    Calls Try.prog 16 #[.slice A n c, .slice A' n c'] w fun e w' => e = .returned (.bool true) ∧ Below w.heap.size w w' := by
  have H1 := Lib.hid h1
  have H2 := Lib.hid h2
  have Hn := Lib.hid hn
  have a24 := fun w' => Try.aggSec w'
  have s24 := fun w' => Try.sizeSec w'
  have y0 := fun w' => Try.notTrue w'
  have y1 := fun w' => Try.notFalse w'
  clear h1 h2 hn
  go_enter Try.func16, Try.ntmps16
  go_wp2
  go_loopw [5] (fun x wr => ∃ i : Nat, i ≤ n ∧ x = .int .i64 (i : Int) ∧ Hid (Below w.heap.size w wr)) (fun x _ => n - (intOf x).toNat)
  case atStart => exact ⟨0, by omega, rfl, Below.refl _ _⟩
  case round =>
    obtain ⟨i, hi, rfl, hb⟩ := hrel
    by_cases hlt : i < n
    · have hi2 : i < l.length := by have := Hn.out; omega
      obtain ⟨b1, o1, rfl, hb1, hc1⟩ := H1.out (by omega)
      obtain ⟨b2, o2, rfl, hb2, hc2⟩ := H2.out (by omega)
      obtain ⟨dA, dc, r1, k0, k1, k2, k3, k4⟩ := hc1 i hi2
      obtain ⟨dB, db, r2, j0, j1, j2, j3, j4⟩ := hc2 i hi2
      obtain ⟨kd, hkd⟩ : ∃ x, x = l[i].kind := ⟨_, rfl⟩
      obtain ⟨ep, hep⟩ : ∃ x, x = l[i].epoch := ⟨_, rfl⟩
      obtain ⟨nu, hnu⟩ : ∃ x, x = l[i].number := ⟨_, rfl⟩
      obtain ⟨lf, hlf⟩ : ∃ x, x = l[i].left := ⟨_, rfl⟩
      obtain ⟨dl, hdl⟩ : ∃ x, x = l[i].data.length := ⟨_, rfl⟩
      have hbo := hb.out
      have HSm : Hid (∀ W, Below w.heap.size w W → Calls Try.prog 11 #[.agg #[.int .i64 kd, .int .i64 ep, .int .i64 nu, .int .i64 lf, .slice dA dl dc], .agg #[.int .i64 kd, .int .i64 ep, .int .i64 nu, .int .i64 lf, .slice dB dl db]] W fun e w' => e = .returned (.bool true) ∧ Hid (Below w.heap.size w w')) := fun W hW => by
        rw [hkd, hep, hnu, hlf, hdl]
        exact (rsame_yes l[i] dA dB dc db W ((r1.below hW).more hW.size) ((r2.below hW).more hW.size)).mono fun e w' hh => ⟨hh.1, chain7 hW hh.2⟩
      have v0 : wr.cell? ⟨b1, o1 + i * 5, none⟩ = some (.int .i64 kd) := by rw [hkd]; exact (hbo.cell (p := ⟨b1, o1 + i * 5, none⟩) hb1).trans k0
      have v1 : wr.cell? ⟨b1, o1 + i * 5 + 1, none⟩ = some (.int .i64 ep) := by rw [hep]; exact (hbo.cell (p := ⟨b1, o1 + i * 5 + 1, none⟩) hb1).trans k1
      have v2 : wr.cell? ⟨b1, o1 + i * 5 + 2, none⟩ = some (.int .i64 nu) := by rw [hnu]; exact (hbo.cell (p := ⟨b1, o1 + i * 5 + 2, none⟩) hb1).trans k2
      have v3 : wr.cell? ⟨b1, o1 + i * 5 + 3, none⟩ = some (.int .i64 lf) := by rw [hlf]; exact (hbo.cell (p := ⟨b1, o1 + i * 5 + 3, none⟩) hb1).trans k3
      have v4 : wr.cell? ⟨b1, o1 + i * 5 + 4, none⟩ = some (.slice dA dl dc) := by rw [hdl]; exact (hbo.cell (p := ⟨b1, o1 + i * 5 + 4, none⟩) hb1).trans k4
      have x0 : wr.cell? ⟨b2, o2 + i * 5, none⟩ = some (.int .i64 kd) := by rw [hkd]; exact (hbo.cell (p := ⟨b2, o2 + i * 5, none⟩) hb2).trans j0
      have x1 : wr.cell? ⟨b2, o2 + i * 5 + 1, none⟩ = some (.int .i64 ep) := by rw [hep]; exact (hbo.cell (p := ⟨b2, o2 + i * 5 + 1, none⟩) hb2).trans j1
      have x2 : wr.cell? ⟨b2, o2 + i * 5 + 2, none⟩ = some (.int .i64 nu) := by rw [hnu]; exact (hbo.cell (p := ⟨b2, o2 + i * 5 + 2, none⟩) hb2).trans j2
      have x3 : wr.cell? ⟨b2, o2 + i * 5 + 3, none⟩ = some (.int .i64 lf) := by rw [hlf]; exact (hbo.cell (p := ⟨b2, o2 + i * 5 + 3, none⟩) hb2).trans j3
      have x4 : wr.cell? ⟨b2, o2 + i * 5 + 4, none⟩ = some (.slice dB dl db) := by rw [hdl]; exact (hbo.cell (p := ⟨b2, o2 + i * 5 + 4, none⟩) hb2).trans j4
      have d0 : decide ((i : Int) < (n : Int)) = true := decide_eq_true (by omega)
      have d1 : decide (i < n) = true := decide_eq_true hlt
      have hbd : Below w.heap.size w wr.drew := hbo.drew
      clear hc1 hc2 r1 r2 k0 k1 k2 k3 k4 j0 j1 j2 j3 j4 hkd hep hnu hlf hdl hbo hb1 hb2
      go_wp2
      go_region_with (go_at_call 11; (with_reducible refine (HSm.out _ hbd).mono ?_); rintro e w1 ⟨rfl, t1⟩)
      all_goals
        go_wp2
        refine ⟨⟨i + 1, by omega, by go_num, t1⟩, ?_⟩
        simp [intOf]; omega
    · have d0 : decide ((i : Int) < (n : Int)) = false := decide_eq_false (by omega)
      have d1 : decide (i < n) = false := decide_eq_false hlt
      go_wp2
      go_ret
      exact ⟨rfl, hb.out⟩
end Go.Proofs.Ytepeoggacmaenaa
