/- The walk of the reference's Of (layer 11). -/
import Derived.Test.YtibaaideleinhaaDoorPoolRTake
set_option linter.unusedVariables false
namespace Go.Proofs.YtibaaideleinhaaDoor
open Go.RowKit

theorem made_bsP {w w1 : World} {n : Nat} (hown : w1.ownsRow w.heap.size 4 1 (.slice (some ⟨w.heap.size, 0, none⟩) n n) n (madeCells (Value.bool false).cells (n * 1)).toList) :
    w1.ownsRow w.heap.size 4 1 (.slice (some ⟨w.heap.size, 0, none⟩) n n) n (bcells (List.replicate n false)) := by
  have e : (madeCells (Value.bool false).cells (n * 1)).toList = bcells (List.replicate n false) := by
    rw [Nat.mul_one, show (Value.bool false).cells = #[Value.bool false] from rfl, toList_madeCells_one]
    simp [bcells]
  rwa [e] at hown
theorem own_bsP {w : World} {base n : Nat} {A : Option Addr} {l : List Bool} {c : Nat} (hn : n = l.length) (h : w.ownsRow base 4 1 (.slice A n c) n (bcells l)) : BS w w.heap.size A l := by
  subst hn
  exact Reads.of_own h
/-- What Of answers. -/
theorem made_small {a b : Int} (h : Pl.ofOk a b = true) : (Pl.made a b).small ∧ (0 ≤ a ∧ a ≤ b ∧ b ≤ 1024) := by
  unfold Pl.ofOk at h
  simp only [Bool.and_eq_true, decide_eq_true_eq] at h
  refine ⟨⟨⟨h.1, ?_⟩, ?_⟩, h⟩
  · show a ≤ 1024; omega
  · show (List.replicate (b - a).toNat false).length ≤ 1024
    rw [List.length_replicate]; omega
set_option maxRecDepth 100000 in
set_option maxHeartbeats 1000000 in
theorem rpof_yes (a b : Int) (w : World) (h : Pl.ofOk a b = true) :
    Calls Tryd.prog 7 #[.int .i64 a, .int .i64 b] w fun e w' => ∃ A c, e = .returned (.tuple #[plV (Pl.made a b) A c, .int .i64 0]) ∧ PlAt w' (Pl.made a b) A c ∧ (∀ ad, A = some ad → w.heap.size ≤ ad.block) ∧ Below w.heap.size w w' := by
  obtain ⟨hsm, h1, h2, h3⟩ := made_small h
  obtain ⟨i0, hi0, hz0, hz1, hz2⟩ := info_parts Tryd.infoBoolP
  have hby : i0.bytes = 1 := hz2
  obtain ⟨n, hn⟩ : ∃ n : Nat, b = a + (n : Int) := ⟨(b - a).toNat, by omega⟩
  have hlen : (Pl.made a b).tk.length = n := by show (List.replicate (b - a).toNat false).length = n; rw [List.length_replicate]; omega
  have htk : (Pl.made a b).tk = List.replicate n false := by show List.replicate (b - a).toNat false = _; congr 1; omega
  have HV : Hid (∀ A c, plV (Pl.made a b) A c = .agg #[.int .i64 a, .slice A n c]) := fun A c => by unfold plV; rw [hlen]; rfl
  have HP : Hid (∀ W A, BS W W.heap.size A (List.replicate n false) → PlAt W (Pl.made a b) A n) := fun W A hb => ⟨by rw [htk]; exact hb, by rw [hlen]; omega, hsm⟩
  have hn4 : n ≤ 1024 := by omega
  have hnn : b - a = (n : Int) := by omega
  have d0 : decide (a < 0) = false := decide_eq_false (by omega)
  have d1 : decide (b < a) = false := decide_eq_false (by omega)
  have d2 : decide (a > b) = false := decide_eq_false (by omega)
  have d3 : decide (1024 < b) = false := decide_eq_false (by omega)
  have d4 : decide (b > 1024) = false := decide_eq_false (by omega)
  have y7 : IntKind.i64.wrap (b - a) = (n : Int) := by rw [hnn]; exact IntWalk.i64_in _ (by omega)
  have u0 : (0 : Int) ≤ (n : Int) := by omega
  have HB2 := fun A' c' w' => Tryd.poolBuild2 a A' n c' w'
  clear hsm hlen htk hn hnn h
  go_enter Tryd.func7, Tryd.ntmps7
  go_wp2_with (first
    | (at_make; refine wpList_make_full _ rfl _ _ 27 rfl (w.heap.size + 1) 4 i0 _ 1 Tryd.underlying27 hi0 hz0 hz1 .i64 .i64 _ _ n rfl rfl rfl rfl (by rw [hby]; omega) (by unfold maxLen; omega) (by simp) ?_; intro w1 ho1 hg1; have hK : Blk w1 w.heap.size 29 #[.int .i64 0, .slice none 0 0] := (Blk.new _ _ _).grown hg1 (by simp); have k0 : w1.cell? ⟨w.heap.size, 0, none⟩ = some (.int .i64 0) := hK.cell 0; have k1 : w1.cell? ⟨w.heap.size, 1, none⟩ = some (.slice none 0 0) := hK.cell 1; have f0 := hK.frozen 0; have f1 := hK.frozen 1))
  have hw : (w.alloc (.cells #[.int .i64 0, .slice none 0 0] 29)).heap.size = w.heap.size + 1 := by simp
  obtain ⟨r0, r1⟩ := res_two (u0 := a) (A := some ⟨w.heap.size + 1, 0, none⟩) (n := n) (c := n) hK
  have b1 : Below w.heap.size w w1 := ((Below.refl _ _).alloc (Nat.le_refl _) _).grown hg1 (by simp) (by simp)
  have h3 : w1.ownsRow (w.heap.size + 1) 4 1 (.slice (some ⟨w.heap.size + 1, 0, none⟩) n n) n (bcells (List.replicate n false)) := by
    have := made_bsP (w := w.alloc (.cells #[.int .i64 0, .slice none 0 0] 29)) (w1 := w1) (n := n) (by rw [hw]; simpa using ho1)
    rwa [hw] at this
  have h4 := own_bsP (by rw [List.length_replicate]) (ownsRow_setCell_below (ownsRow_setCell_below h3 (a := ⟨w.heap.size, 0, none⟩) (show w.heap.size < w.heap.size + 1 by omega) (.int .i64 a)) (a := ⟨w.heap.size, 1, none⟩) (show w.heap.size < w.heap.size + 1 by omega) (.slice (some ⟨w.heap.size + 1, 0, none⟩) n n))
  refine bodyPost_ret (v := .tuple #[.agg #[.int .i64 a, .slice (some ⟨w.heap.size + 1, 0, none⟩) n n], .int .i64 0]) (by simp [results, Tryd.results7, go_sem, r0, r1]) rfl ⟨_, n, by rw [HV.out], HP.out _ _ h4, fun ad e => by injection e with e; subst e; exact Nat.le_succ _, ?_⟩
  exact (b1.setCell (p := ⟨w.heap.size, 0, none⟩) (Nat.le_refl _) _).setCell (p := ⟨w.heap.size, 1, none⟩) (Nat.le_refl _) _
set_option maxRecDepth 100000 in
set_option maxHeartbeats 1000000 in
theorem rpof_no (a b : Int) (w : World) (h : Pl.ofOk a b = false) :
    Calls Tryd.prog 7 #[.int .i64 a, .int .i64 b] w fun e w' => e = .returned (.tuple #[plV .zero none 0, .int .i64 1]) ∧ Below w.heap.size w w' := by
  have HB0 := fun w' => Tryd.poolBuild0 w'
  have hb1 : Below w.heap.size w (w.alloc (.cells #[.int .i64 0, .slice none 0 0] 29)) := (Below.refl w.heap.size w).alloc (Nat.le_refl _) _
  show Calls Tryd.prog 7 #[.int .i64 a, .int .i64 b] w fun e w' => e = .returned (.tuple #[.agg #[.int .i64 0, .slice none 0 0], .int .i64 1]) ∧ Below w.heap.size w w'
  by_cases h1 : a < 0
  · have d0 : decide (a < 0) = true := decide_eq_true h1
    clear h h1
    go_enter Tryd.func7, Tryd.ntmps7
    go_wp2
    exact bodyPost_ret (v := .tuple #[.agg #[.int .i64 0, .slice none 0 0], .int .i64 1]) (by simp [results, Tryd.results7, go_sem]) rfl ⟨rfl, hb1⟩
  · have d0 : decide (a < 0) = false := decide_eq_false h1
    by_cases h2 : b < a
    · have d1 : decide (b < a) = true := decide_eq_true h2
      have d2 : decide (a > b) = true := decide_eq_true h2
      clear h h1 h2
      go_enter Tryd.func7, Tryd.ntmps7
      go_wp2
      exact bodyPost_ret (v := .tuple #[.agg #[.int .i64 0, .slice none 0 0], .int .i64 1]) (by simp [results, Tryd.results7, go_sem]) rfl ⟨rfl, hb1⟩
    · have d1 : decide (b < a) = false := decide_eq_false h2
      have d2 : decide (a > b) = false := decide_eq_false h2
      have h3 : 1024 < b := by
        apply Classical.byContradiction
        intro h3
        have : Pl.ofOk a b = true := by
          unfold Pl.ofOk
          simp only [Bool.and_eq_true, decide_eq_true_eq]
          omega
        rw [this] at h
        cases h
      have d3 : decide (1024 < b) = true := decide_eq_true h3
      have d4 : decide (b > 1024) = true := decide_eq_true h3
      clear h h1 h2 h3
      go_enter Tryd.func7, Tryd.ntmps7
      go_wp2
      exact bodyPost_ret (v := .tuple #[.agg #[.int .i64 0, .slice none 0 0], .int .i64 1]) (by simp [results, Tryd.results7, go_sem]) rfl ⟨rfl, hb1⟩
end Go.Proofs.YtibaaideleinhaaDoor
