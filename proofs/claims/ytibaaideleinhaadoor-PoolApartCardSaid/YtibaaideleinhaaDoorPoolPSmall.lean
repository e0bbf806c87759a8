/- The walks of the program's Of, Free, Taken, Has, Clone, owns of pools (layer 11). -/
import Derived.Test.YtibaaideleinhaaDoorPoolPMem
import Derived.Deep.RegionHeld3
import Derived.Lib.SmallJoins
set_option linter.unusedVariables false
namespace Go.Proofs.YtibaaideleinhaaDoor
open Go.RowKit

theorem Tryd.poolIsS (g : Nat) (w : World) : Sem.run Tryd.prog (binOp .eql 23 (.pointer (some ⟨g, 0, none⟩)) (.pointer none)) w = .ok (.bool false) w := by kernel_rfl
theorem Tryd.poolIsN (w : World) : Sem.run Tryd.prog (binOp .eql 23 (.pointer none) (.pointer none)) w = .ok (.bool true) w := by kernel_rfl
theorem Tryd.poolNotS (g : Nat) (w : World) : Sem.run Tryd.prog (binOp .neq 23 (.pointer (some ⟨g, 0, none⟩)) (.pointer none)) w = .ok (.bool true) w := by kernel_rfl
theorem Tryd.poolNotN (w : World) : Sem.run Tryd.prog (binOp .neq 23 (.pointer none) (.pointer none)) w = .ok (.bool false) w := by kernel_rfl
theorem Tryd.poolBuild (s : Nat) (a b : Int) (w : World) : Sem.run Tryd.prog (Instr.build 54 #[(0, .pointer (some ⟨s, 0, none⟩)), (1, .int .i64 a), (2, .int .i64 b)]) w = .ok (.agg #[.pointer (some ⟨s, 0, none⟩), .int .i64 a, .int .i64 b]) w := by kernel_rfl
section
variable {w : World} {g : Nat} {F : Nat → Prop} {p : Pl}
set_option maxRecDepth 100000 in
set_option maxHeartbeats 1000000 in
theorem pfree_any (h : PPool w g F p) : Calls Tryd.prog 14 #[.pointer (some ⟨g, 0, none⟩)] w fun e w' => e = .returned (.int .i64 ((p.list false).length : Int)) ∧ Below w.heap.size w w' := by
  obtain ⟨s, h, hF⟩ := h
  have e0 := p.free_taken
  have e1 := h.small
  have c0 := h.c0
  have c1 := h.c1
  have c2 := h.c2
  have hC := fun V (hV : PP V g s p) => bitsCount_same p.pad s V hV.set hV.len
  rw [Pl.pad_count h.small.1.1] at hC
  obtain ⟨f, hf⟩ : ∃ f, f = (p.list false).length := ⟨_, rfl⟩
  obtain ⟨c, hc⟩ : ∃ c, c = (p.list true).length := ⟨_, rfl⟩
  obtain ⟨n, hn⟩ : ∃ n, n = p.tk.length := ⟨_, rfl⟩
  obtain ⟨lo, hlo⟩ : ∃ lo, lo = p.lo := ⟨_, rfl⟩
  obtain ⟨hi, hhi⟩ : ∃ hi : Int, hi = lo + (n : Int) := ⟨_, rfl⟩
  have hs : (0 ≤ p.lo ∧ p.lo ≤ 1024) ∧ p.tk.length ≤ 1024 := e1
  have HQ : Hid (∀ j, Calls Tryd.prog 32 #[.pointer (some ⟨s, 0, none⟩)] (w.drewN j) fun e w'' => e = .returned (.int .i64 (c : Int)) ∧ ∃ m, w'' = w.drewN m) := fun j => by
    rw [hc]
    exact Calls.quiet_of_same (hC (w.drewN j) (h.up ⟨rfl, rfl, rfl, Nat.le_refl _, fun _ _ => rfl⟩))
  rw [← hf]
  rw [← hf, ← hc, ← hn] at e0
  rw [← hlo, ← hn] at hs
  rw [← hlo] at c1
  rw [← hlo, ← hn, ← hhi] at c2
  clear hC hf hc hn hlo h hF e1
  have k1 : IntKind.i64.wrap (hi - lo) = (n : Int) := by rw [IntWalk.i64_in _ (by omega)]; omega
  have k2 : IntKind.i64.wrap ((n : Int) - (c : Int)) = (f : Int) := by rw [IntWalk.i64_in _ (by omega)]; omega
  clear hs e0 hhi
  have z0 := fun w' => Tryd.poolIsS g w'
  go_enter Tryd.func14, Tryd.ntmps14
  go_wp2
  go_quiet (with_reducible exact HQ.out _)
  go_wp2
  go_ret
  exact ⟨rfl, drewN_below w nq⟩
set_option maxRecDepth 100000 in
set_option maxHeartbeats 1000000 in
theorem ptaken_any (h : PPool w g F p) : Calls Tryd.prog 15 #[.pointer (some ⟨g, 0, none⟩)] w (GivesZ (p.list true) w) := by
  obtain ⟨s, h, hF⟩ := h
  have c0 := h.c0
  have HL : Hid (Calls Tryd.prog 33 #[.pointer (some ⟨s, 0, none⟩)] w (GivesIntsN (listB p.pad) w)) := bitsList_new p.pad s w h.set h.len
  have HE : Hid ((listB p.pad).map (fun n : Nat => (n : Int)) = p.list true) := Pl.pad_list h.small.1.1
  have z0 := fun w' => Tryd.poolIsS g w'
  clear h hF
  go_enter Tryd.func15, Tryd.ntmps15
  go_wp2_with (go_at_call 33; (with_reducible refine HL.out.mono ?_); rintro e w1 ⟨⟨A1, c1, rfl, hr1, hc1, hm1, hb1⟩, hn1⟩)
  go_ret
  have e1 := congrArg List.length HE.out
  rw [List.length_map] at e1
  exact ⟨A1, c1, by rw [← e1]; rfl, by rw [← HE.out]; exact is_ri hr1, by omega, hn1 _ _ _ rfl, hb1⟩
set_option maxRecDepth 100000 in
set_option maxHeartbeats 1000000 in
theorem phas_any (h : PPool w g F p) (b : Int) (hb : InZ b) : Calls Tryd.prog 18 #[.pointer (some ⟨g, 0, none⟩), .int .i64 b] w fun e w' => e = .returned (.bool (p.has b)) ∧ Below w.heap.size w w' := by
  obtain ⟨s, h, hF⟩ := h
  have c0 := h.c0
  have HL := bitsHas_any p.pad s b w hb h.set h.len
  rw [Pl.pad_has h.small.1.1] at HL
  have HL := Lib.hid HL
  have z0 := fun w' => Tryd.poolNotS g w'
  generalize p.has b = r at HL ⊢
  clear h hF hb
  go_enter Tryd.func18, Tryd.ntmps18
  go_wp2_with (go_at_call 34; (with_reducible refine HL.out.mono ?_); rintro e w1 ⟨rfl, hb1⟩)
  go_ret
  exact ⟨rfl, hb1⟩
set_option maxRecDepth 100000 in
set_option maxHeartbeats 1000000 in
theorem pclone_any (h : PPool w g F p) : Calls Tryd.prog 16 #[.pointer (some ⟨g, 0, none⟩)] w fun e w' => ∃ g' F', e = .returned (.pointer (some ⟨g', 0, none⟩)) ∧ GivesPool p w w' g' F' := by
  obtain ⟨s, h, hF⟩ := h
  have HP := Lib.hid h
  have HCl : Hid (∀ V, PP V g s p → Calls Tryd.prog 29 #[.pointer (some ⟨s, 0, none⟩)] V fun e w' => ∃ k, e = .returned (.pointer (some ⟨k, 0, none⟩)) ∧ Hid (V.heap.size ≤ k) ∧ Hid (SetAt w' k p.pad) ∧ Below V.heap.size V w') := fun V hV => bitsClone_any p.pad s V hV.set hV.len
  obtain ⟨lo, hlo⟩ : ∃ lo, lo = p.lo := ⟨_, rfl⟩
  obtain ⟨hi, hhi⟩ : ∃ hi : Int, hi = p.lo + (p.tk.length : Int) := ⟨_, rfl⟩
  have HS : Hid (∀ W, PP W g s p → W.cell? ⟨g, 0, none⟩ = some (.pointer (some ⟨s, 0, none⟩)) ∧ W.cell? ⟨g, 1, none⟩ = some (.int .i64 lo) ∧ W.cell? ⟨g, 2, none⟩ = some (.int .i64 hi)) := fun W hW => ⟨hW.c0, by rw [hlo]; exact hW.c1, by rw [hhi]; exact hW.c2⟩
  have HLo := Lib.hid hlo
  have HHi := Lib.hid hhi
  have hP0 : PP w.drew g s p := h.up (Below.refl _ _).drew
  have z0 := fun w' => Tryd.poolIsS g w'
  have HBd := fun (k : Nat) (W : World) => Tryd.poolBuild k lo hi W
  clear h hF hlo hhi
  go_enter Tryd.func16, Tryd.ntmps16
  go_wp2
  go_region_held3 (fun w' => w'.cell? ⟨g, 0, none⟩ = some (.pointer (some ⟨s, 0, none⟩)) ∧ w'.cell? ⟨g, 1, none⟩ = some (.int .i64 lo) ∧ w'.cell? ⟨g, 2, none⟩ = some (.int .i64 hi))
    (first | exact HS.out _ hP0 | exact HS.out _ hP1 | exact HS.out _ (hP1.up ((Below.refl _ _).alloc (Nat.le_refl _) _)))
    (first
      | (go_at_call 29; (with_reducible refine (HCl.out _ hP0).mono ?_); rintro e w1 ⟨k, rfl, hk, hS1, hb1⟩; have hP1 : PP w1 g s p := hP0.up hb1))
  go_wp2
  go_ret
  have hk2 := hk.out
  have hS2 := hS1.out
  have K4 := Blk.new w1 54 #[.pointer (some ⟨k, 0, none⟩), .int .i64 lo, .int .i64 hi]
  have b4 : Below w1.heap.size w1 (w1.alloc (.cells #[.pointer (some ⟨k, 0, none⟩), .int .i64 lo, .int .i64 hi] 54)) := (Below.refl _ _).alloc (Nat.le_refl _) _
  have l1 := hS2.lt
  have l2 : w.heap.size ≤ w1.heap.size := hb1.size
  have hp := HP.out.pos
  have hp2 := HP.out.lt
  have hk3 : w.heap.size ≤ k := hk2
  have K5 : Blk (w1.alloc (.cells #[.pointer (some ⟨k, 0, none⟩), .int .i64 lo, .int .i64 hi] 54)) w1.heap.size 54 (poolCells p k) := by
    unfold poolCells
    rw [← HHi.out, ← HLo.out]
    exact K4
  refine ⟨w1.heap.size, _, rfl, PP.pool (s := k) ⟨K5, hS2.below b4 l1, by omega, by omega, HP.out.small, HP.out.top⟩, ?_, fun q hq => ?_⟩
  · exact (Below.drew (Below.refl _ _)).trans (hb1.trans (b4.mono l2))
  · rcases hq with rfl | rfl
    · exact l2
    · exact hk3
end
set_option maxRecDepth 100000 in
theorem pfree_none (w : World) : Calls Tryd.prog 14 #[.pointer none] w fun e w' => e = .returned (.int .i64 0) ∧ Below w.heap.size w w' := by
  have z0 := fun w' => Tryd.poolIsN w'
  go_enter Tryd.func14, Tryd.ntmps14
  go_wp2
  go_ret
  exact ⟨rfl, Below.refl _ _⟩
set_option maxRecDepth 100000 in
theorem ptaken_none (w : World) : Calls Tryd.prog 15 #[.pointer none] w fun e w' => (∃ A c, e = .returned (.slice A 0 c)) ∧ Below w.heap.size w w' := by
  have z0 := fun w' => Tryd.poolIsN w'
  go_enter Tryd.func15, Tryd.ntmps15
  go_wp2
  go_ret
  exact ⟨⟨none, 0, rfl⟩, Below.refl _ _⟩
set_option maxRecDepth 100000 in
theorem phas_none (b : Int) (w : World) : Calls Tryd.prog 18 #[.pointer none, .int .i64 b] w fun e w' => e = .returned (.bool false) ∧ Below w.heap.size w w' := by
  have z0 := fun w' => Tryd.poolNotN w'
  go_enter Tryd.func18, Tryd.ntmps18
  go_wp2
  go_ret
  exact ⟨rfl, Below.refl _ _⟩
set_option maxRecDepth 100000 in
theorem pclone_none (w : World) : Calls Tryd.prog 16 #[.pointer none] w fun e w' => e = .returned (.pointer none) ∧ Below w.heap.size w w' := by
  have z0 := fun w' => Tryd.poolIsN w'
  go_enter Tryd.func16, Tryd.ntmps16
  go_wp2
  go_ret
  exact ⟨rfl, Below.refl _ _⟩
set_option maxRecDepth 100000 in
set_option maxHeartbeats 1000000 in
theorem powns_any (p : Pl) (g s : Nat) (b : Int) (w : World) (h : PP w g s p) : Calls Tryd.prog 42 #[.pointer (some ⟨g, 0, none⟩), .int .i64 b] w fun e w' => e = .returned (.bool (p.th b)) ∧ w' = w := by
  have c1 := h.c1
  have c2 := h.c2
  obtain ⟨lo, hlo⟩ : ∃ lo, lo = p.lo := ⟨_, rfl⟩
  obtain ⟨hi, hhi⟩ : ∃ hi : Int, hi = p.lo + (p.tk.length : Int) := ⟨_, rfl⟩
  rw [← hlo] at c1
  rw [← hhi] at c2
  have HT : Hid (p.th b = (decide (b ≥ lo) && decide (b < hi))) := by
    show _ = _
    unfold Pl.th
    rw [← hlo]
    congr 1
    refine decide_eq_decide.2 ?_
    omega
  generalize p.th b = r at HT ⊢
  clear h hlo hhi
  by_cases h0 : b ≥ lo
  · have d0 : decide (b ≥ lo) = true := decide_eq_true h0
    have d0' : decide (lo ≤ b) = true := d0
    go_enter Tryd.func42, Tryd.ntmps42
    go_wp2
    go_ret
    exact ⟨by rw [HT.out, d0]; rfl, rfl⟩
  · have d0 : decide (b ≥ lo) = false := decide_eq_false h0
    have d0' : decide (lo ≤ b) = false := d0
    go_enter Tryd.func42, Tryd.ntmps42
    go_wp2
    go_ret
    exact ⟨by rw [HT.out, d0]; rfl, rfl⟩
section
variable (a b : Int) (w : World)
set_option maxRecDepth 100000 in
set_option maxHeartbeats 1000000 in
theorem pof_yes (h : Pl.ofOk a b = true) (hT : Tq w) : Calls Tryd.prog 6 #[.int .i64 a, .int .i64 b] w fun e w' => ∃ g F, e = .returned (.tuple #[.pointer (some ⟨g, 0, none⟩), .int .i64 0]) ∧ GivesPool (Pl.made a b) w w' g F := by
  unfold Pl.ofOk at h
  simp only [Bool.and_eq_true, decide_eq_true_eq] at h
  obtain ⟨h0, h1, h2⟩ := h
  obtain ⟨n, rfl⟩ : ∃ n : Nat, b = (n : Int) := ⟨b.toNat, by omega⟩
  have HO := Lib.hid (bitsOf_any n w (by omega) hT)
  have HM : Hid ((Pl.made a (n : Int)).pad = List.replicate n false) := by
    show _ = _
    rw [Pl.pad_made h0 h1, Int.toNat_natCast]
  have HT := Lib.hid hT
  have H0 := Lib.hid h0
  have H1 := Lib.hid h1
  have H2 := Lib.hid h2
  have d0 : decide (a < 0) = false := decide_eq_false (by omega)
  have d1 : decide (a > (n : Int)) = false := decide_eq_false (by omega)
  have d1' : decide ((n : Int) < a) = false := d1
  have d2 : decide ((n : Int) > 1024) = false := decide_eq_false (by omega)
  have d2' : decide (1024 < (n : Int)) = false := d2
  have HBd := fun (k : Nat) (W : World) => Tryd.poolBuild k a (n : Int) W
  clear hT h0 h1 h2
  go_enter Tryd.func6, Tryd.ntmps6
  go_wp2_with (go_at_call 19; (with_reducible refine HO.out.mono ?_); rintro e w1 ⟨k, rfl, hk, hS1, hb1⟩)
  go_ret2
  have hk2 := hk.out
  have hS2 := hS1.out
  have K4 := Blk.new w1 54 #[.pointer (some ⟨k, 0, none⟩), .int .i64 a, .int .i64 (n : Int)]
  have b4 : Below w1.heap.size w1 (w1.alloc (.cells #[.pointer (some ⟨k, 0, none⟩), .int .i64 a, .int .i64 (n : Int)] 54)) := (Below.refl _ _).alloc (Nat.le_refl _) _
  have l1 := hS2.lt
  have l2 : w.heap.size ≤ w1.heap.size := hb1.size
  have hp := HT.out.lt
  rw [← HM.out] at hS2
  have hl : ((Pl.made a (n : Int)).tk.length : Int) = (n : Int) - a := by
    have := H1.out
    simp only [Pl.made, List.length_replicate]
    omega
  have e1 := H0.out
  have e2 := H1.out
  have e3 := H2.out
  have e4 : (n : Int) = (Pl.made a (n : Int)).lo + ((Pl.made a (n : Int)).tk.length : Int) := by rw [hl]; simp only [Pl.made]; omega
  have K5 : Blk (w1.alloc (.cells #[.pointer (some ⟨k, 0, none⟩), .int .i64 a, .int .i64 (n : Int)] 54)) w1.heap.size 54 (poolCells (Pl.made a (n : Int)) k) := by
    unfold poolCells
    rw [← e4]
    exact K4
  refine ⟨w1.heap.size, _, rfl, PP.pool (s := k) ⟨K5, hS2.below b4 l1, by omega, by have : TB < w.heap.size := hp; omega, ⟨⟨e1, by show a ≤ 1024; omega⟩, by omega⟩, by rw [← e4]; exact e3⟩, hb1.trans (b4.mono l2), fun q hq => ?_⟩
  rcases hq with rfl | rfl
  · exact l2
  · exact hk2
set_option maxRecDepth 100000 in
set_option maxHeartbeats 1000000 in
theorem pof_no (h : Pl.ofOk a b = false) : Calls Tryd.prog 6 #[.int .i64 a, .int .i64 b] w fun e w' => e = .returned (.tuple #[.pointer none, .int .i64 1]) ∧ Below w.heap.size w w' := by
  unfold Pl.ofOk at h
  by_cases h0 : a < 0
  · have d0 : decide (a < 0) = true := decide_eq_true h0
    clear h
    go_enter Tryd.func6, Tryd.ntmps6
    go_wp2
    go_ret2
    exact ⟨rfl, Below.refl _ _⟩
  · have d0 : decide (a < 0) = false := decide_eq_false h0
    by_cases h1 : b < a
    · have d1 : decide (a > b) = true := decide_eq_true h1
      have d1' : decide (b < a) = true := d1
      clear h
      go_enter Tryd.func6, Tryd.ntmps6
      go_wp2
      go_ret2
      exact ⟨rfl, Below.refl _ _⟩
    · have d1 : decide (a > b) = false := decide_eq_false h1
      have d1' : decide (b < a) = false := d1
      have h2 : 1024 < b := by
        rw [decide_eq_true (show 0 ≤ a by omega), decide_eq_true (show a ≤ b by omega), Bool.true_and, Bool.true_and] at h
        have := of_decide_eq_false h
        omega
      have d2 : decide (b > 1024) = true := decide_eq_true h2
      have d2' : decide (1024 < b) = true := d2
      clear h
      go_enter Tryd.func6, Tryd.ntmps6
      go_wp2
      go_ret2
      exact ⟨rfl, Below.refl _ _⟩
end
end Go.Proofs.YtibaaideleinhaaDoor
