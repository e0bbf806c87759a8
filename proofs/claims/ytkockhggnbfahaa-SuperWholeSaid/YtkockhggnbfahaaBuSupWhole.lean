/- SuperWhole returns true for every two supers, every number of writes and all masks, and leaves memory that was there as it was; nothing else is assumed beyond the statement itself. -/
import Derived.Test.YtkockhggnbfahaaBu36
import Derived.Test.YtkockhggnbfahaaBu23
import Derived.Test.YtkockhggnbfahaaBu34
import Derived.Test.YtkockhggnbfahaaBu32
set_option linter.unusedVariables false
namespace Go.Proofs.Ytkockhggnbfahaa
open Go.ChangeShapes Go.WideShapes Go.ChangeAt Go.RowKit
theorem flush_load8 (d : Dk) : d.flush.1.load ≤ d.load + 2 := step_load d ⟨3, 0, [], false, []⟩
theorem writeU_load8 (d : Dk) (s : Pu) : (writeU d s).1.load ≤ d.load + 4 := by
  have h1 := write_load8 d (s.gen % 2) (s.bytes ++ List.replicate 192 0)
  have h2 := flush_load8 (d.write (s.gen % 2) (s.bytes ++ List.replicate 192 0)).1
  unfold writeU
  split
  · exact Nat.le_add_right _ _
  split
  · exact Nat.le_add_right _ _
  split
  · omega
  · omega
theorem aw_stop {w W : World} {g : Nat} {d : Dk} {vs : List (Nat × Pu)} {i : Int} (hi : InI i) (h : AtV w W g d vs) :
    Calls Try.prog 25 #[.pointer (some ⟨g, 0, none⟩), .int .i64 i] W fun e w' => e = .returned (.int .i64 (d.stop i).2) ∧ Hid (AtV w w' g (d.stop i).1 vs) := by
  obtain ⟨F, hH, hvs⟩ := h
  refine (stop_any hH.disk i hi).mono fun e w' hh => ⟨hh.1, AtV.of hH hvs hh.2.1 hh.2.2⟩
theorem aw_crash {w W : World} {g : Nat} {d : Dk} {vs : List (Nat × Pu)} {Z : List Int} {A : Option Addr} {mn c : Nat} (hmn : mn = Z.length) (hM : RI w w.heap.size A Z) (h : AtV w W g d vs) :
    Calls Try.prog 26 #[.pointer (some ⟨g, 0, none⟩), .slice A mn c] W fun e w' => e = .returned (.tuple #[]) ∧ Hid (AtV w w' g (d.crash Z) vs) := by
  obtain ⟨F, hH, hvs⟩ := h
  have hM2 : RI W W.heap.size A Z := fun h0 => by
    obtain ⟨b, off, e', hlt, hc⟩ := hM h0
    exact ⟨b, off, e', Nat.lt_of_lt_of_le hlt hH.below.size, fun k hk => (hH.below.cell (p := ⟨b, off + k, none⟩) hlt).trans (hc k hk)⟩
  refine (crash_any hH.disk Z A mn c hmn hM2 (fun h0 ad e' hf => ?_)).mono fun e w' hh => ⟨hh.1, AtV.of hH hvs hh.2.1 hh.2.2⟩
  obtain ⟨b, off, e2, hlt, _⟩ := hM h0
  rw [e'] at e2
  injection e2 with e2
  subst e2
  have := hH.own _ hf
  simp at this
  omega
theorem Try.supGenNe (a b c d e f a' b' c' d' e' f' : Int) (W : World) (h : a ≠ a') : Sem.run Try.prog (binOp .eql 25 (.agg #[.int .i64 a, .int .i64 b, .int .i64 c, .int .i64 d, .int .i64 e, .int .i64 f]) (.agg #[.int .i64 a', .int .i64 b', .int .i64 c', .int .i64 d', .int .i64 e', .int .i64 f'])) W = .ok (.bool false) W := by
  simp [go_sem, h]
theorem box_sup {w W : World} {b : Nat} {k n l f z o : Int} (h : Blk w b 25 #[.int .i64 k, .int .i64 n, .int .i64 l, .int .i64 f, .int .i64 z, .int .i64 o]) (hb : Below w.heap.size w W) : W.cell? ⟨b, 0, none⟩ = some (.int .i64 k) ∧ W.cell? ⟨b, 1, none⟩ = some (.int .i64 n) ∧ W.cell? ⟨b, 2, none⟩ = some (.int .i64 l) ∧ W.cell? ⟨b, 3, none⟩ = some (.int .i64 f) ∧ W.cell? ⟨b, 4, none⟩ = some (.int .i64 z) ∧ W.cell? ⟨b, 5, none⟩ = some (.int .i64 o) := by
  have h2 := h.below hb h.lt
  exact ⟨by rw [h2.cell]; rfl, by rw [h2.cell]; rfl, by rw [h2.cell]; rfl, by rw [h2.cell]; rfl, by rw [h2.cell]; rfl, by rw [h2.cell]; rfl⟩
theorem box_calm {w W : World} {b : Nat} {v0 v1 v2 v3 : Value} (h : Blk w b 61 #[v0, v1, v2, v3]) (hb : Below w.heap.size w W) : W.cell? ⟨b, 0, none⟩ = some v0 ∧ W.cell? ⟨b, 1, none⟩ = some v1 ∧ W.cell? ⟨b, 2, none⟩ = some v2 ∧ W.cell? ⟨b, 3, none⟩ = some v3 := by
  have h2 := h.below hb h.lt
  exact ⟨by rw [h2.cell]; rfl, by rw [h2.cell]; rfl, by rw [h2.cell]; rfl, by rw [h2.cell]; rfl⟩
set_option maxRecDepth 100000 in
set_option maxHeartbeats 8000000 in
theorem whole_great (ag ab al af az ao bg bb bl bf bz bo z : Int) (M1 M2 M3 : Option Addr) (m1 c1 m2 c2 m3 c3 : Nat) (w : World) (h : 2147483647 ≤ ag) :
    Calls Try.prog 6 #[.agg #[.int .i64 ag, .int .i64 ab, .int .i64 al, .int .i64 af, .int .i64 az, .int .i64 ao], .agg #[.int .i64 bg, .int .i64 bb, .int .i64 bl, .int .i64 bf, .int .i64 bz, .int .i64 bo], .agg #[.slice M1 m1 c1, .slice M2 m2 c2, .int .i64 z, .slice M3 m3 c3]] w fun e w' => e = .returned (.bool true) ∧ Below w.heap.size w w' := by
  have d0 : decide (ag ≥ 2147483647) = true := decide_eq_true h
  have d1 : decide ((2147483647 : Int) ≤ ag) = true := decide_eq_true h
  have a24 := fun w' => Try.aggSup w'
  have s24 := fun w' => Try.sizeSup w'
  have HAw := Lib.hid awake8_any
  have HB : Hid (Below w.heap.size w (((w.alloc (.cells #[.int .i64 ag, .int .i64 ab, .int .i64 al, .int .i64 af, .int .i64 az, .int .i64 ao] 25)).alloc (.cells #[.int .i64 bg, .int .i64 bb, .int .i64 bl, .int .i64 bf, .int .i64 bz, .int .i64 bo] 25)).alloc (.cells #[.slice M1 m1 c1, .slice M2 m2 c2, .int .i64 z, .slice M3 m3 c3] 61))) := ((((Below.refl _ _).alloc (Nat.le_refl _) _).alloc (by simp) _).alloc (by simp; omega) _)
  clear h
  go_enter Try.func6, Try.ntmps6
  go_wp2_with (first
    | (go_at_call 11; (with_reducible refine (HAw.out _).mono ?_); rintro e w1 ⟨rfl, hb1⟩))
  go_ret
  exact ⟨rfl, chain7 HB.out hb1⟩
set_option maxRecDepth 100000 in
set_option maxHeartbeats 8000000 in
theorem whole_a (ag ab al af az ao bg bb bl bf bz bo z : Int) (M1 M2 M3 : Option Addr) (m1 c1 m2 c2 m3 c3 : Nat) (w : World) (yg : Int) (h : ¬ 2147483647 ≤ ag) (hy : IntKind.i64.wrap (ag + 1) = yg) (ha : Pu.may ⟨ag, 16, al, af, az, ao⟩ = false) :
    Calls Try.prog 6 #[.agg #[.int .i64 ag, .int .i64 ab, .int .i64 al, .int .i64 af, .int .i64 az, .int .i64 ao], .agg #[.int .i64 bg, .int .i64 bb, .int .i64 bl, .int .i64 bf, .int .i64 bz, .int .i64 bo], .agg #[.slice M1 m1 c1, .slice M2 m2 c2, .int .i64 z, .slice M3 m3 c3]] w fun e w' => e = .returned (.bool true) ∧ Below w.heap.size w w' := by
  have d0 : decide (ag ≥ 2147483647) = false := decide_eq_false (by omega)
  have d1 : decide ((2147483647 : Int) ≤ ag) = false := decide_eq_false (by omega)
  have y0 : IntKind.i64.wrap (ag + 1) = yg := hy
  have a24 := fun w' => Try.aggSup w'
  have s24 := fun w' => Try.sizeSup w'
  have HAw := Lib.hid awake8_any
  have HKa : Hid (∀ W, Calls Try.prog 23 #[.agg #[.int .i64 ag, .int .i64 16, .int .i64 al, .int .i64 af, .int .i64 az, .int .i64 ao]] W fun e w' => e = .returned (.bool false) ∧ Below W.heap.size W w') := fun W => by
    have h1 := rcheck_any ⟨ag, 16, al, af, az, ao⟩ W
    rw [ha] at h1
    exact h1
  have HB : Hid (Below w.heap.size w (((w.alloc (.cells #[.int .i64 ag, .int .i64 16, .int .i64 al, .int .i64 af, .int .i64 az, .int .i64 ao] 25)).alloc (.cells #[.int .i64 yg, .int .i64 16, .int .i64 bl, .int .i64 bf, .int .i64 bz, .int .i64 bo] 25)).alloc (.cells #[.slice M1 m1 c1, .slice M2 m2 c2, .int .i64 z, .slice M3 m3 c3] 61))) := ((((Below.refl _ _).alloc (Nat.le_refl _) _).alloc (by simp) _).alloc (by simp; omega) _)
  have HCa : Hid (∀ W, Below (((w.alloc (.cells #[.int .i64 ag, .int .i64 16, .int .i64 al, .int .i64 af, .int .i64 az, .int .i64 ao] 25)).alloc (.cells #[.int .i64 yg, .int .i64 16, .int .i64 bl, .int .i64 bf, .int .i64 bz, .int .i64 bo] 25)).alloc (.cells #[.slice M1 m1 c1, .slice M2 m2 c2, .int .i64 z, .slice M3 m3 c3] 61)).heap.size (((w.alloc (.cells #[.int .i64 ag, .int .i64 16, .int .i64 al, .int .i64 af, .int .i64 az, .int .i64 ao] 25)).alloc (.cells #[.int .i64 yg, .int .i64 16, .int .i64 bl, .int .i64 bf, .int .i64 bz, .int .i64 bo] 25)).alloc (.cells #[.slice M1 m1 c1, .slice M2 m2 c2, .int .i64 z, .slice M3 m3 c3] 61)) W → W.cell? ⟨w.heap.size, 0, none⟩ = some (.int .i64 ag) ∧ W.cell? ⟨w.heap.size, 1, none⟩ = some (.int .i64 16) ∧ W.cell? ⟨w.heap.size, 2, none⟩ = some (.int .i64 al) ∧ W.cell? ⟨w.heap.size, 3, none⟩ = some (.int .i64 af) ∧ W.cell? ⟨w.heap.size, 4, none⟩ = some (.int .i64 az) ∧ W.cell? ⟨w.heap.size, 5, none⟩ = some (.int .i64 ao)) := fun W hb => box_sup (((Blk.new w _ _).alloc _).alloc _) hb
  have HCb : Hid (∀ W, Below (((w.alloc (.cells #[.int .i64 ag, .int .i64 16, .int .i64 al, .int .i64 af, .int .i64 az, .int .i64 ao] 25)).alloc (.cells #[.int .i64 yg, .int .i64 16, .int .i64 bl, .int .i64 bf, .int .i64 bz, .int .i64 bo] 25)).alloc (.cells #[.slice M1 m1 c1, .slice M2 m2 c2, .int .i64 z, .slice M3 m3 c3] 61)).heap.size (((w.alloc (.cells #[.int .i64 ag, .int .i64 16, .int .i64 al, .int .i64 af, .int .i64 az, .int .i64 ao] 25)).alloc (.cells #[.int .i64 yg, .int .i64 16, .int .i64 bl, .int .i64 bf, .int .i64 bz, .int .i64 bo] 25)).alloc (.cells #[.slice M1 m1 c1, .slice M2 m2 c2, .int .i64 z, .slice M3 m3 c3] 61)) W → W.cell? ⟨w.heap.size + 1, 0, none⟩ = some (.int .i64 yg) ∧ W.cell? ⟨w.heap.size + 1, 1, none⟩ = some (.int .i64 16) ∧ W.cell? ⟨w.heap.size + 1, 2, none⟩ = some (.int .i64 bl) ∧ W.cell? ⟨w.heap.size + 1, 3, none⟩ = some (.int .i64 bf) ∧ W.cell? ⟨w.heap.size + 1, 4, none⟩ = some (.int .i64 bz) ∧ W.cell? ⟨w.heap.size + 1, 5, none⟩ = some (.int .i64 bo)) := fun W hb => by
    have h1 := (Blk.new (w.alloc (.cells #[.int .i64 ag, .int .i64 16, .int .i64 al, .int .i64 af, .int .i64 az, .int .i64 ao] 25)) 25 #[.int .i64 yg, .int .i64 16, .int .i64 bl, .int .i64 bf, .int .i64 bz, .int .i64 bo]).alloc (.cells #[.slice M1 m1 c1, .slice M2 m2 c2, .int .i64 z, .slice M3 m3 c3] 61)
    rw [show (w.alloc (.cells #[.int .i64 ag, .int .i64 16, .int .i64 al, .int .i64 af, .int .i64 az, .int .i64 ao] 25)).heap.size = w.heap.size + 1 by simp] at h1
    exact box_sup h1 hb
  have HCc : Hid (∀ W, Below (((w.alloc (.cells #[.int .i64 ag, .int .i64 16, .int .i64 al, .int .i64 af, .int .i64 az, .int .i64 ao] 25)).alloc (.cells #[.int .i64 yg, .int .i64 16, .int .i64 bl, .int .i64 bf, .int .i64 bz, .int .i64 bo] 25)).alloc (.cells #[.slice M1 m1 c1, .slice M2 m2 c2, .int .i64 z, .slice M3 m3 c3] 61)).heap.size (((w.alloc (.cells #[.int .i64 ag, .int .i64 16, .int .i64 al, .int .i64 af, .int .i64 az, .int .i64 ao] 25)).alloc (.cells #[.int .i64 yg, .int .i64 16, .int .i64 bl, .int .i64 bf, .int .i64 bz, .int .i64 bo] 25)).alloc (.cells #[.slice M1 m1 c1, .slice M2 m2 c2, .int .i64 z, .slice M3 m3 c3] 61)) W → W.cell? ⟨w.heap.size + 1 + 1, 0, none⟩ = some (.slice M1 m1 c1) ∧ W.cell? ⟨w.heap.size + 1 + 1, 1, none⟩ = some (.slice M2 m2 c2) ∧ W.cell? ⟨w.heap.size + 1 + 1, 2, none⟩ = some (.int .i64 z) ∧ W.cell? ⟨w.heap.size + 1 + 1, 3, none⟩ = some (.slice M3 m3 c3)) := fun W hb => by
    have h1 := Blk.new ((w.alloc (.cells #[.int .i64 ag, .int .i64 16, .int .i64 al, .int .i64 af, .int .i64 az, .int .i64 ao] 25)).alloc (.cells #[.int .i64 yg, .int .i64 16, .int .i64 bl, .int .i64 bf, .int .i64 bz, .int .i64 bo] 25)) 61 #[.slice M1 m1 c1, .slice M2 m2 c2, .int .i64 z, .slice M3 m3 c3]
    rw [show ((w.alloc (.cells #[.int .i64 ag, .int .i64 16, .int .i64 al, .int .i64 af, .int .i64 az, .int .i64 ao] 25)).alloc (.cells #[.int .i64 yg, .int .i64 16, .int .i64 bl, .int .i64 bf, .int .i64 bz, .int .i64 bo] 25)).heap.size = w.heap.size + 1 + 1 by simp] at h1
    exact box_calm h1 hb
  clear h hy ha
  go_enter Try.func6, Try.ntmps6
  go_wp2_with (first
    | (go_at_call 23; (with_reducible refine (HKa.out _).mono ?_); rintro e w1 ⟨rfl, hb1⟩; obtain ⟨p0, p1, p2, p3, p4, p5⟩ := HCb.out _ hb1; obtain ⟨q0, q1, q2, q3⟩ := HCc.out _ hb1)
    | (go_at_call 11; (with_reducible refine (HAw.out _).mono ?_); rintro e w9 ⟨rfl, hb9⟩))
  go_ret
  exact ⟨rfl, chain7 (HB.out.trans (hb1.mono HB.out.size)) hb9⟩
set_option maxRecDepth 100000 in
set_option maxHeartbeats 8000000 in
theorem whole_b (ag ab al af az ao bg bb bl bf bz bo z : Int) (M1 M2 M3 : Option Addr) (m1 c1 m2 c2 m3 c3 : Nat) (w : World) (yg : Int) (h : ¬ 2147483647 ≤ ag) (hy : IntKind.i64.wrap (ag + 1) = yg) (ha : Pu.may ⟨ag, 16, al, af, az, ao⟩ = true) (hb : Pu.may ⟨yg, 16, bl, bf, bz, bo⟩ = false) :
    Calls Try.prog 6 #[.agg #[.int .i64 ag, .int .i64 ab, .int .i64 al, .int .i64 af, .int .i64 az, .int .i64 ao], .agg #[.int .i64 bg, .int .i64 bb, .int .i64 bl, .int .i64 bf, .int .i64 bz, .int .i64 bo], .agg #[.slice M1 m1 c1, .slice M2 m2 c2, .int .i64 z, .slice M3 m3 c3]] w fun e w' => e = .returned (.bool true) ∧ Below w.heap.size w w' := by
  have d0 : decide (ag ≥ 2147483647) = false := decide_eq_false (by omega)
  have d1 : decide ((2147483647 : Int) ≤ ag) = false := decide_eq_false (by omega)
  have y0 : IntKind.i64.wrap (ag + 1) = yg := hy
  have a24 := fun w' => Try.aggSup w'
  have s24 := fun w' => Try.sizeSup w'
  have HAw := Lib.hid awake8_any
  have HKa : Hid (∀ W, Calls Try.prog 23 #[.agg #[.int .i64 ag, .int .i64 16, .int .i64 al, .int .i64 af, .int .i64 az, .int .i64 ao]] W fun e w' => e = .returned (.bool true) ∧ Below W.heap.size W w') := fun W => by
    have h1 := rcheck_any ⟨ag, 16, al, af, az, ao⟩ W
    rw [ha] at h1
    exact h1
  have HKb : Hid (∀ W, Calls Try.prog 23 #[.agg #[.int .i64 yg, .int .i64 16, .int .i64 bl, .int .i64 bf, .int .i64 bz, .int .i64 bo]] W fun e w' => e = .returned (.bool false) ∧ Below W.heap.size W w') := fun W => by
    have h1 := rcheck_any ⟨yg, 16, bl, bf, bz, bo⟩ W
    rw [hb] at h1
    exact h1
  have HB : Hid (Below w.heap.size w (((w.alloc (.cells #[.int .i64 ag, .int .i64 16, .int .i64 al, .int .i64 af, .int .i64 az, .int .i64 ao] 25)).alloc (.cells #[.int .i64 yg, .int .i64 16, .int .i64 bl, .int .i64 bf, .int .i64 bz, .int .i64 bo] 25)).alloc (.cells #[.slice M1 m1 c1, .slice M2 m2 c2, .int .i64 z, .slice M3 m3 c3] 61))) := ((((Below.refl _ _).alloc (Nat.le_refl _) _).alloc (by simp) _).alloc (by simp; omega) _)
  have HCa : Hid (∀ W, Below (((w.alloc (.cells #[.int .i64 ag, .int .i64 16, .int .i64 al, .int .i64 af, .int .i64 az, .int .i64 ao] 25)).alloc (.cells #[.int .i64 yg, .int .i64 16, .int .i64 bl, .int .i64 bf, .int .i64 bz, .int .i64 bo] 25)).alloc (.cells #[.slice M1 m1 c1, .slice M2 m2 c2, .int .i64 z, .slice M3 m3 c3] 61)).heap.size (((w.alloc (.cells #[.int .i64 ag, .int .i64 16, .int .i64 al, .int .i64 af, .int .i64 az, .int .i64 ao] 25)).alloc (.cells #[.int .i64 yg, .int .i64 16, .int .i64 bl, .int .i64 bf, .int .i64 bz, .int .i64 bo] 25)).alloc (.cells #[.slice M1 m1 c1, .slice M2 m2 c2, .int .i64 z, .slice M3 m3 c3] 61)) W → W.cell? ⟨w.heap.size, 0, none⟩ = some (.int .i64 ag) ∧ W.cell? ⟨w.heap.size, 1, none⟩ = some (.int .i64 16) ∧ W.cell? ⟨w.heap.size, 2, none⟩ = some (.int .i64 al) ∧ W.cell? ⟨w.heap.size, 3, none⟩ = some (.int .i64 af) ∧ W.cell? ⟨w.heap.size, 4, none⟩ = some (.int .i64 az) ∧ W.cell? ⟨w.heap.size, 5, none⟩ = some (.int .i64 ao)) := fun W hb => box_sup (((Blk.new w _ _).alloc _).alloc _) hb
  have HCb : Hid (∀ W, Below (((w.alloc (.cells #[.int .i64 ag, .int .i64 16, .int .i64 al, .int .i64 af, .int .i64 az, .int .i64 ao] 25)).alloc (.cells #[.int .i64 yg, .int .i64 16, .int .i64 bl, .int .i64 bf, .int .i64 bz, .int .i64 bo] 25)).alloc (.cells #[.slice M1 m1 c1, .slice M2 m2 c2, .int .i64 z, .slice M3 m3 c3] 61)).heap.size (((w.alloc (.cells #[.int .i64 ag, .int .i64 16, .int .i64 al, .int .i64 af, .int .i64 az, .int .i64 ao] 25)).alloc (.cells #[.int .i64 yg, .int .i64 16, .int .i64 bl, .int .i64 bf, .int .i64 bz, .int .i64 bo] 25)).alloc (.cells #[.slice M1 m1 c1, .slice M2 m2 c2, .int .i64 z, .slice M3 m3 c3] 61)) W → W.cell? ⟨w.heap.size + 1, 0, none⟩ = some (.int .i64 yg) ∧ W.cell? ⟨w.heap.size + 1, 1, none⟩ = some (.int .i64 16) ∧ W.cell? ⟨w.heap.size + 1, 2, none⟩ = some (.int .i64 bl) ∧ W.cell? ⟨w.heap.size + 1, 3, none⟩ = some (.int .i64 bf) ∧ W.cell? ⟨w.heap.size + 1, 4, none⟩ = some (.int .i64 bz) ∧ W.cell? ⟨w.heap.size + 1, 5, none⟩ = some (.int .i64 bo)) := fun W hb => by
    have h1 := (Blk.new (w.alloc (.cells #[.int .i64 ag, .int .i64 16, .int .i64 al, .int .i64 af, .int .i64 az, .int .i64 ao] 25)) 25 #[.int .i64 yg, .int .i64 16, .int .i64 bl, .int .i64 bf, .int .i64 bz, .int .i64 bo]).alloc (.cells #[.slice M1 m1 c1, .slice M2 m2 c2, .int .i64 z, .slice M3 m3 c3] 61)
    rw [show (w.alloc (.cells #[.int .i64 ag, .int .i64 16, .int .i64 al, .int .i64 af, .int .i64 az, .int .i64 ao] 25)).heap.size = w.heap.size + 1 by simp] at h1
    exact box_sup h1 hb
  have HCc : Hid (∀ W, Below (((w.alloc (.cells #[.int .i64 ag, .int .i64 16, .int .i64 al, .int .i64 af, .int .i64 az, .int .i64 ao] 25)).alloc (.cells #[.int .i64 yg, .int .i64 16, .int .i64 bl, .int .i64 bf, .int .i64 bz, .int .i64 bo] 25)).alloc (.cells #[.slice M1 m1 c1, .slice M2 m2 c2, .int .i64 z, .slice M3 m3 c3] 61)).heap.size (((w.alloc (.cells #[.int .i64 ag, .int .i64 16, .int .i64 al, .int .i64 af, .int .i64 az, .int .i64 ao] 25)).alloc (.cells #[.int .i64 yg, .int .i64 16, .int .i64 bl, .int .i64 bf, .int .i64 bz, .int .i64 bo] 25)).alloc (.cells #[.slice M1 m1 c1, .slice M2 m2 c2, .int .i64 z, .slice M3 m3 c3] 61)) W → W.cell? ⟨w.heap.size + 1 + 1, 0, none⟩ = some (.slice M1 m1 c1) ∧ W.cell? ⟨w.heap.size + 1 + 1, 1, none⟩ = some (.slice M2 m2 c2) ∧ W.cell? ⟨w.heap.size + 1 + 1, 2, none⟩ = some (.int .i64 z) ∧ W.cell? ⟨w.heap.size + 1 + 1, 3, none⟩ = some (.slice M3 m3 c3)) := fun W hb => by
    have h1 := Blk.new ((w.alloc (.cells #[.int .i64 ag, .int .i64 16, .int .i64 al, .int .i64 af, .int .i64 az, .int .i64 ao] 25)).alloc (.cells #[.int .i64 yg, .int .i64 16, .int .i64 bl, .int .i64 bf, .int .i64 bz, .int .i64 bo] 25)) 61 #[.slice M1 m1 c1, .slice M2 m2 c2, .int .i64 z, .slice M3 m3 c3]
    rw [show ((w.alloc (.cells #[.int .i64 ag, .int .i64 16, .int .i64 al, .int .i64 af, .int .i64 az, .int .i64 ao] 25)).alloc (.cells #[.int .i64 yg, .int .i64 16, .int .i64 bl, .int .i64 bf, .int .i64 bz, .int .i64 bo] 25)).heap.size = w.heap.size + 1 + 1 by simp] at h1
    exact box_calm h1 hb
  clear h hy ha hb
  go_enter Try.func6, Try.ntmps6
  go_wp2_with (first
    | (go_at_call 23; (with_reducible refine (HKa.out _).mono ?_); rintro e w1 ⟨rfl, hb1⟩; obtain ⟨p0, p1, p2, p3, p4, p5⟩ := HCb.out _ hb1; obtain ⟨q0, q1, q2, q3⟩ := HCc.out _ hb1)
    | (go_at_call 23; (with_reducible refine (HKb.out _).mono ?_); rintro e w2 ⟨rfl, hb2⟩; have b2 := hb1.trans (hb2.mono hb1.size); obtain ⟨r0, r1, r2, r3⟩ := HCc.out _ b2)
    | (go_at_call 11; (with_reducible refine (HAw.out _).mono ?_); rintro e w9 ⟨rfl, hb9⟩))
  go_ret
  exact ⟨rfl, chain7 (HB.out.trans (b2.mono HB.out.size)) hb9⟩
set_option maxRecDepth 100000 in
set_option maxHeartbeats 8000000 in
theorem whole_n (ag ab al af az ao bg bb bl bf bz bo z : Int) (M1 M2 M3 : Option Addr) (m1 c1 m2 c2 m3 c3 : Nat) (w : World) (yg : Int) (h : ¬ 2147483647 ≤ ag) (hy : IntKind.i64.wrap (ag + 1) = yg) (ha : Pu.may ⟨ag, 16, al, af, az, ao⟩ = true) (hb : Pu.may ⟨yg, 16, bl, bf, bz, bo⟩ = true) (hz : z < 0) :
    Calls Try.prog 6 #[.agg #[.int .i64 ag, .int .i64 ab, .int .i64 al, .int .i64 af, .int .i64 az, .int .i64 ao], .agg #[.int .i64 bg, .int .i64 bb, .int .i64 bl, .int .i64 bf, .int .i64 bz, .int .i64 bo], .agg #[.slice M1 m1 c1, .slice M2 m2 c2, .int .i64 z, .slice M3 m3 c3]] w fun e w' => e = .returned (.bool true) ∧ Below w.heap.size w w' := by
  have d0 : decide (ag ≥ 2147483647) = false := decide_eq_false (by omega)
  have d1 : decide ((2147483647 : Int) ≤ ag) = false := decide_eq_false (by omega)
  have y0 : IntKind.i64.wrap (ag + 1) = yg := hy
  have a24 := fun w' => Try.aggSup w'
  have s24 := fun w' => Try.sizeSup w'
  have HAw := Lib.hid awake8_any
  have HKa : Hid (∀ W, Calls Try.prog 23 #[.agg #[.int .i64 ag, .int .i64 16, .int .i64 al, .int .i64 af, .int .i64 az, .int .i64 ao]] W fun e w' => e = .returned (.bool true) ∧ Below W.heap.size W w') := fun W => by
    have h1 := rcheck_any ⟨ag, 16, al, af, az, ao⟩ W
    rw [ha] at h1
    exact h1
  have HKb : Hid (∀ W, Calls Try.prog 23 #[.agg #[.int .i64 yg, .int .i64 16, .int .i64 bl, .int .i64 bf, .int .i64 bz, .int .i64 bo]] W fun e w' => e = .returned (.bool true) ∧ Below W.heap.size W w') := fun W => by
    have h1 := rcheck_any ⟨yg, 16, bl, bf, bz, bo⟩ W
    rw [hb] at h1
    exact h1
  have dz : decide (z < 0) = true := decide_eq_true hz
  have HB : Hid (Below w.heap.size w (((w.alloc (.cells #[.int .i64 ag, .int .i64 16, .int .i64 al, .int .i64 af, .int .i64 az, .int .i64 ao] 25)).alloc (.cells #[.int .i64 yg, .int .i64 16, .int .i64 bl, .int .i64 bf, .int .i64 bz, .int .i64 bo] 25)).alloc (.cells #[.slice M1 m1 c1, .slice M2 m2 c2, .int .i64 z, .slice M3 m3 c3] 61))) := ((((Below.refl _ _).alloc (Nat.le_refl _) _).alloc (by simp) _).alloc (by simp; omega) _)
  have HCa : Hid (∀ W, Below (((w.alloc (.cells #[.int .i64 ag, .int .i64 16, .int .i64 al, .int .i64 af, .int .i64 az, .int .i64 ao] 25)).alloc (.cells #[.int .i64 yg, .int .i64 16, .int .i64 bl, .int .i64 bf, .int .i64 bz, .int .i64 bo] 25)).alloc (.cells #[.slice M1 m1 c1, .slice M2 m2 c2, .int .i64 z, .slice M3 m3 c3] 61)).heap.size (((w.alloc (.cells #[.int .i64 ag, .int .i64 16, .int .i64 al, .int .i64 af, .int .i64 az, .int .i64 ao] 25)).alloc (.cells #[.int .i64 yg, .int .i64 16, .int .i64 bl, .int .i64 bf, .int .i64 bz, .int .i64 bo] 25)).alloc (.cells #[.slice M1 m1 c1, .slice M2 m2 c2, .int .i64 z, .slice M3 m3 c3] 61)) W → W.cell? ⟨w.heap.size, 0, none⟩ = some (.int .i64 ag) ∧ W.cell? ⟨w.heap.size, 1, none⟩ = some (.int .i64 16) ∧ W.cell? ⟨w.heap.size, 2, none⟩ = some (.int .i64 al) ∧ W.cell? ⟨w.heap.size, 3, none⟩ = some (.int .i64 af) ∧ W.cell? ⟨w.heap.size, 4, none⟩ = some (.int .i64 az) ∧ W.cell? ⟨w.heap.size, 5, none⟩ = some (.int .i64 ao)) := fun W hb => box_sup (((Blk.new w _ _).alloc _).alloc _) hb
  have HCb : Hid (∀ W, Below (((w.alloc (.cells #[.int .i64 ag, .int .i64 16, .int .i64 al, .int .i64 af, .int .i64 az, .int .i64 ao] 25)).alloc (.cells #[.int .i64 yg, .int .i64 16, .int .i64 bl, .int .i64 bf, .int .i64 bz, .int .i64 bo] 25)).alloc (.cells #[.slice M1 m1 c1, .slice M2 m2 c2, .int .i64 z, .slice M3 m3 c3] 61)).heap.size (((w.alloc (.cells #[.int .i64 ag, .int .i64 16, .int .i64 al, .int .i64 af, .int .i64 az, .int .i64 ao] 25)).alloc (.cells #[.int .i64 yg, .int .i64 16, .int .i64 bl, .int .i64 bf, .int .i64 bz, .int .i64 bo] 25)).alloc (.cells #[.slice M1 m1 c1, .slice M2 m2 c2, .int .i64 z, .slice M3 m3 c3] 61)) W → W.cell? ⟨w.heap.size + 1, 0, none⟩ = some (.int .i64 yg) ∧ W.cell? ⟨w.heap.size + 1, 1, none⟩ = some (.int .i64 16) ∧ W.cell? ⟨w.heap.size + 1, 2, none⟩ = some (.int .i64 bl) ∧ W.cell? ⟨w.heap.size + 1, 3, none⟩ = some (.int .i64 bf) ∧ W.cell? ⟨w.heap.size + 1, 4, none⟩ = some (.int .i64 bz) ∧ W.cell? ⟨w.heap.size + 1, 5, none⟩ = some (.int .i64 bo)) := fun W hb => by
    have h1 := (Blk.new (w.alloc (.cells #[.int .i64 ag, .int .i64 16, .int .i64 al, .int .i64 af, .int .i64 az, .int .i64 ao] 25)) 25 #[.int .i64 yg, .int .i64 16, .int .i64 bl, .int .i64 bf, .int .i64 bz, .int .i64 bo]).alloc (.cells #[.slice M1 m1 c1, .slice M2 m2 c2, .int .i64 z, .slice M3 m3 c3] 61)
    rw [show (w.alloc (.cells #[.int .i64 ag, .int .i64 16, .int .i64 al, .int .i64 af, .int .i64 az, .int .i64 ao] 25)).heap.size = w.heap.size + 1 by simp] at h1
    exact box_sup h1 hb
  have HCc : Hid (∀ W, Below (((w.alloc (.cells #[.int .i64 ag, .int .i64 16, .int .i64 al, .int .i64 af, .int .i64 az, .int .i64 ao] 25)).alloc (.cells #[.int .i64 yg, .int .i64 16, .int .i64 bl, .int .i64 bf, .int .i64 bz, .int .i64 bo] 25)).alloc (.cells #[.slice M1 m1 c1, .slice M2 m2 c2, .int .i64 z, .slice M3 m3 c3] 61)).heap.size (((w.alloc (.cells #[.int .i64 ag, .int .i64 16, .int .i64 al, .int .i64 af, .int .i64 az, .int .i64 ao] 25)).alloc (.cells #[.int .i64 yg, .int .i64 16, .int .i64 bl, .int .i64 bf, .int .i64 bz, .int .i64 bo] 25)).alloc (.cells #[.slice M1 m1 c1, .slice M2 m2 c2, .int .i64 z, .slice M3 m3 c3] 61)) W → W.cell? ⟨w.heap.size + 1 + 1, 0, none⟩ = some (.slice M1 m1 c1) ∧ W.cell? ⟨w.heap.size + 1 + 1, 1, none⟩ = some (.slice M2 m2 c2) ∧ W.cell? ⟨w.heap.size + 1 + 1, 2, none⟩ = some (.int .i64 z) ∧ W.cell? ⟨w.heap.size + 1 + 1, 3, none⟩ = some (.slice M3 m3 c3)) := fun W hb => by
    have h1 := Blk.new ((w.alloc (.cells #[.int .i64 ag, .int .i64 16, .int .i64 al, .int .i64 af, .int .i64 az, .int .i64 ao] 25)).alloc (.cells #[.int .i64 yg, .int .i64 16, .int .i64 bl, .int .i64 bf, .int .i64 bz, .int .i64 bo] 25)) 61 #[.slice M1 m1 c1, .slice M2 m2 c2, .int .i64 z, .slice M3 m3 c3]
    rw [show ((w.alloc (.cells #[.int .i64 ag, .int .i64 16, .int .i64 al, .int .i64 af, .int .i64 az, .int .i64 ao] 25)).alloc (.cells #[.int .i64 yg, .int .i64 16, .int .i64 bl, .int .i64 bf, .int .i64 bz, .int .i64 bo] 25)).heap.size = w.heap.size + 1 + 1 by simp] at h1
    exact box_calm h1 hb
  clear h hy ha hb hz
  go_enter Try.func6, Try.ntmps6
  go_wp2_with (first
    | (go_at_call 23; (with_reducible refine (HKa.out _).mono ?_); rintro e w1 ⟨rfl, hb1⟩; obtain ⟨p0, p1, p2, p3, p4, p5⟩ := HCb.out _ hb1; obtain ⟨q0, q1, q2, q3⟩ := HCc.out _ hb1)
    | (go_at_call 23; (with_reducible refine (HKb.out _).mono ?_); rintro e w2 ⟨rfl, hb2⟩; have b2 := hb1.trans (hb2.mono hb1.size); obtain ⟨r0, r1, r2, r3⟩ := HCc.out _ b2)
    | (go_at_call 11; (with_reducible refine (HAw.out _).mono ?_); rintro e w9 ⟨rfl, hb9⟩))
  go_ret
  exact ⟨rfl, chain7 (HB.out.trans (b2.mono HB.out.size)) hb9⟩
set_option maxRecDepth 100000 in
set_option maxHeartbeats 8000000 in
theorem whole_bb (ag ab al af az ao bg bb bl bf bz bo z : Int) (M1 M2 M3 : Option Addr) (m1 c1 m2 c2 m3 c3 : Nat) (w : World) (yg : Int) (Z : List Int) (D3 D5 : Dk) (k : Nat) (h : ¬ 2147483647 ≤ ag) (hy : IntKind.i64.wrap (ag + 1) = yg) (ha : Pu.may ⟨ag, 16, al, af, az, ao⟩ = true) (hb : Pu.may ⟨yg, 16, bl, bf, bz, bo⟩ = true) (hz : ¬ z < 0) (hz2 : z ≤ 9223372036854775807) (hne : yg ≠ ag)
    (hm : m3 = Z.length) (hM : RI w w.heap.size M3 Z) (e1 : writeU (Dk.blank 16) ⟨ag, 16, al, af, az, ao⟩ = (⟨dkA ⟨ag, 16, al, af, az, ao⟩ k, [], -1, false, 0, 1, 1⟩, 0)) (e2 : writeU ⟨dkA ⟨ag, 16, al, af, az, ao⟩ k, [], z, false, 0, 1, 1⟩ ⟨yg, 16, bl, bf, bz, bo⟩ = (D3, 0)) (e3 : readU (D3.crash Z) = (D5, ⟨yg, 16, bl, bf, bz, bo⟩, 0)) (hl : D3.load ≤ 1000) :
    Calls Try.prog 6 #[.agg #[.int .i64 ag, .int .i64 ab, .int .i64 al, .int .i64 af, .int .i64 az, .int .i64 ao], .agg #[.int .i64 bg, .int .i64 bb, .int .i64 bl, .int .i64 bf, .int .i64 bz, .int .i64 bo], .agg #[.slice M1 m1 c1, .slice M2 m2 c2, .int .i64 z, .slice M3 m3 c3]] w fun e w' => e = .returned (.bool true) ∧ Below w.heap.size w w' := by
  have d0 : decide (ag ≥ 2147483647) = false := decide_eq_false (by omega)
  have d1 : decide ((2147483647 : Int) ≤ ag) = false := decide_eq_false (by omega)
  have y0 : IntKind.i64.wrap (ag + 1) = yg := hy
  have a24 := fun w' => Try.aggSup w'
  have s24 := fun w' => Try.sizeSup w'
  have HAw := Lib.hid awake8_any
  have HKa : Hid (∀ W, Calls Try.prog 23 #[.agg #[.int .i64 ag, .int .i64 16, .int .i64 al, .int .i64 af, .int .i64 az, .int .i64 ao]] W fun e w' => e = .returned (.bool true) ∧ Below W.heap.size W w') := fun W => by
    have h1 := rcheck_any ⟨ag, 16, al, af, az, ao⟩ W
    rw [ha] at h1
    exact h1
  have HKb : Hid (∀ W, Calls Try.prog 23 #[.agg #[.int .i64 yg, .int .i64 16, .int .i64 bl, .int .i64 bf, .int .i64 bz, .int .i64 bo]] W fun e w' => e = .returned (.bool true) ∧ Below W.heap.size W w') := fun W => by
    have h1 := rcheck_any ⟨yg, 16, bl, bf, bz, bo⟩ W
    rw [hb] at h1
    exact h1
  have dz : decide (z < 0) = false := decide_eq_false hz
  have HB : Hid (Below w.heap.size w (((w.alloc (.cells #[.int .i64 ag, .int .i64 16, .int .i64 al, .int .i64 af, .int .i64 az, .int .i64 ao] 25)).alloc (.cells #[.int .i64 yg, .int .i64 16, .int .i64 bl, .int .i64 bf, .int .i64 bz, .int .i64 bo] 25)).alloc (.cells #[.slice M1 m1 c1, .slice M2 m2 c2, .int .i64 z, .slice M3 m3 c3] 61))) := ((((Below.refl _ _).alloc (Nat.le_refl _) _).alloc (by simp) _).alloc (by simp; omega) _)
  have HCa : Hid (∀ W, Below (((w.alloc (.cells #[.int .i64 ag, .int .i64 16, .int .i64 al, .int .i64 af, .int .i64 az, .int .i64 ao] 25)).alloc (.cells #[.int .i64 yg, .int .i64 16, .int .i64 bl, .int .i64 bf, .int .i64 bz, .int .i64 bo] 25)).alloc (.cells #[.slice M1 m1 c1, .slice M2 m2 c2, .int .i64 z, .slice M3 m3 c3] 61)).heap.size (((w.alloc (.cells #[.int .i64 ag, .int .i64 16, .int .i64 al, .int .i64 af, .int .i64 az, .int .i64 ao] 25)).alloc (.cells #[.int .i64 yg, .int .i64 16, .int .i64 bl, .int .i64 bf, .int .i64 bz, .int .i64 bo] 25)).alloc (.cells #[.slice M1 m1 c1, .slice M2 m2 c2, .int .i64 z, .slice M3 m3 c3] 61)) W → W.cell? ⟨w.heap.size, 0, none⟩ = some (.int .i64 ag) ∧ W.cell? ⟨w.heap.size, 1, none⟩ = some (.int .i64 16) ∧ W.cell? ⟨w.heap.size, 2, none⟩ = some (.int .i64 al) ∧ W.cell? ⟨w.heap.size, 3, none⟩ = some (.int .i64 af) ∧ W.cell? ⟨w.heap.size, 4, none⟩ = some (.int .i64 az) ∧ W.cell? ⟨w.heap.size, 5, none⟩ = some (.int .i64 ao)) := fun W hb => box_sup (((Blk.new w _ _).alloc _).alloc _) hb
  have HCb : Hid (∀ W, Below (((w.alloc (.cells #[.int .i64 ag, .int .i64 16, .int .i64 al, .int .i64 af, .int .i64 az, .int .i64 ao] 25)).alloc (.cells #[.int .i64 yg, .int .i64 16, .int .i64 bl, .int .i64 bf, .int .i64 bz, .int .i64 bo] 25)).alloc (.cells #[.slice M1 m1 c1, .slice M2 m2 c2, .int .i64 z, .slice M3 m3 c3] 61)).heap.size (((w.alloc (.cells #[.int .i64 ag, .int .i64 16, .int .i64 al, .int .i64 af, .int .i64 az, .int .i64 ao] 25)).alloc (.cells #[.int .i64 yg, .int .i64 16, .int .i64 bl, .int .i64 bf, .int .i64 bz, .int .i64 bo] 25)).alloc (.cells #[.slice M1 m1 c1, .slice M2 m2 c2, .int .i64 z, .slice M3 m3 c3] 61)) W → W.cell? ⟨w.heap.size + 1, 0, none⟩ = some (.int .i64 yg) ∧ W.cell? ⟨w.heap.size + 1, 1, none⟩ = some (.int .i64 16) ∧ W.cell? ⟨w.heap.size + 1, 2, none⟩ = some (.int .i64 bl) ∧ W.cell? ⟨w.heap.size + 1, 3, none⟩ = some (.int .i64 bf) ∧ W.cell? ⟨w.heap.size + 1, 4, none⟩ = some (.int .i64 bz) ∧ W.cell? ⟨w.heap.size + 1, 5, none⟩ = some (.int .i64 bo)) := fun W hb => by
    have h1 := (Blk.new (w.alloc (.cells #[.int .i64 ag, .int .i64 16, .int .i64 al, .int .i64 af, .int .i64 az, .int .i64 ao] 25)) 25 #[.int .i64 yg, .int .i64 16, .int .i64 bl, .int .i64 bf, .int .i64 bz, .int .i64 bo]).alloc (.cells #[.slice M1 m1 c1, .slice M2 m2 c2, .int .i64 z, .slice M3 m3 c3] 61)
    rw [show (w.alloc (.cells #[.int .i64 ag, .int .i64 16, .int .i64 al, .int .i64 af, .int .i64 az, .int .i64 ao] 25)).heap.size = w.heap.size + 1 by simp] at h1
    exact box_sup h1 hb
  have HCc : Hid (∀ W, Below (((w.alloc (.cells #[.int .i64 ag, .int .i64 16, .int .i64 al, .int .i64 af, .int .i64 az, .int .i64 ao] 25)).alloc (.cells #[.int .i64 yg, .int .i64 16, .int .i64 bl, .int .i64 bf, .int .i64 bz, .int .i64 bo] 25)).alloc (.cells #[.slice M1 m1 c1, .slice M2 m2 c2, .int .i64 z, .slice M3 m3 c3] 61)).heap.size (((w.alloc (.cells #[.int .i64 ag, .int .i64 16, .int .i64 al, .int .i64 af, .int .i64 az, .int .i64 ao] 25)).alloc (.cells #[.int .i64 yg, .int .i64 16, .int .i64 bl, .int .i64 bf, .int .i64 bz, .int .i64 bo] 25)).alloc (.cells #[.slice M1 m1 c1, .slice M2 m2 c2, .int .i64 z, .slice M3 m3 c3] 61)) W → W.cell? ⟨w.heap.size + 1 + 1, 0, none⟩ = some (.slice M1 m1 c1) ∧ W.cell? ⟨w.heap.size + 1 + 1, 1, none⟩ = some (.slice M2 m2 c2) ∧ W.cell? ⟨w.heap.size + 1 + 1, 2, none⟩ = some (.int .i64 z) ∧ W.cell? ⟨w.heap.size + 1 + 1, 3, none⟩ = some (.slice M3 m3 c3)) := fun W hb => by
    have h1 := Blk.new ((w.alloc (.cells #[.int .i64 ag, .int .i64 16, .int .i64 al, .int .i64 af, .int .i64 az, .int .i64 ao] 25)).alloc (.cells #[.int .i64 yg, .int .i64 16, .int .i64 bl, .int .i64 bf, .int .i64 bz, .int .i64 bo] 25)) 61 #[.slice M1 m1 c1, .slice M2 m2 c2, .int .i64 z, .slice M3 m3 c3]
    rw [show ((w.alloc (.cells #[.int .i64 ag, .int .i64 16, .int .i64 al, .int .i64 af, .int .i64 az, .int .i64 ao] 25)).alloc (.cells #[.int .i64 yg, .int .i64 16, .int .i64 bl, .int .i64 bf, .int .i64 bz, .int .i64 bo] 25)).heap.size = w.heap.size + 1 + 1 by simp] at h1
    exact box_calm h1 hb
  have HBl : Hid (∀ W, Below (((w.alloc (.cells #[.int .i64 ag, .int .i64 16, .int .i64 al, .int .i64 af, .int .i64 az, .int .i64 ao] 25)).alloc (.cells #[.int .i64 yg, .int .i64 16, .int .i64 bl, .int .i64 bf, .int .i64 bz, .int .i64 bo] 25)).alloc (.cells #[.slice M1 m1 c1, .slice M2 m2 c2, .int .i64 z, .slice M3 m3 c3] 61)).heap.size (((w.alloc (.cells #[.int .i64 ag, .int .i64 16, .int .i64 al, .int .i64 af, .int .i64 az, .int .i64 ao] 25)).alloc (.cells #[.int .i64 yg, .int .i64 16, .int .i64 bl, .int .i64 bf, .int .i64 bz, .int .i64 bo] 25)).alloc (.cells #[.slice M1 m1 c1, .slice M2 m2 c2, .int .i64 z, .slice M3 m3 c3] 61)) W → Calls Try.prog 24 #[.int .i64 16] W fun e w' => ∃ g, e = .returned (.tuple #[.pointer (some ⟨g, 0, none⟩), .int .i64 0]) ∧ Hid (AtV (((w.alloc (.cells #[.int .i64 ag, .int .i64 16, .int .i64 al, .int .i64 af, .int .i64 az, .int .i64 ao] 25)).alloc (.cells #[.int .i64 yg, .int .i64 16, .int .i64 bl, .int .i64 bf, .int .i64 bz, .int .i64 bo] 25)).alloc (.cells #[.slice M1 m1 c1, .slice M2 m2 c2, .int .i64 z, .slice M3 m3 c3] 61)) w' g (Dk.blank 16) [])) := fun W hbw => by
    refine (blank_any 16 W (by omega) (by omega)).mono fun e w' hh => ?_
    obtain ⟨g, F, he, hG⟩ := hh
    exact ⟨g, he, AtV.gives hbw hG⟩
  have HW1 : Hid (∀ W g vs, Hid (AtV (((w.alloc (.cells #[.int .i64 ag, .int .i64 16, .int .i64 al, .int .i64 af, .int .i64 az, .int .i64 ao] 25)).alloc (.cells #[.int .i64 yg, .int .i64 16, .int .i64 bl, .int .i64 bf, .int .i64 bz, .int .i64 bo] 25)).alloc (.cells #[.slice M1 m1 c1, .slice M2 m2 c2, .int .i64 z, .slice M3 m3 c3] 61)) W g (Dk.blank 16) vs) → Calls Try.prog 20 #[.pointer (some ⟨g, 0, none⟩), .agg #[.int .i64 ag, .int .i64 16, .int .i64 al, .int .i64 af, .int .i64 az, .int .i64 ao]] W fun e w' => e = .returned (.int .i64 0) ∧ Hid (AtV (((w.alloc (.cells #[.int .i64 ag, .int .i64 16, .int .i64 al, .int .i64 af, .int .i64 az, .int .i64 ao] 25)).alloc (.cells #[.int .i64 yg, .int .i64 16, .int .i64 bl, .int .i64 bf, .int .i64 bz, .int .i64 bo] 25)).alloc (.cells #[.slice M1 m1 c1, .slice M2 m2 c2, .int .i64 z, .slice M3 m3 c3] 61)) w' g ⟨dkA ⟨ag, 16, al, af, az, ao⟩ k, [], -1, false, 0, 1, 1⟩ vs)) := fun W g vs ht => by
    have h1 := aw_write e1 (by decide) ht.out
    exact h1
  have hst : Dk.stop ⟨dkA ⟨ag, 16, al, af, az, ao⟩ k, [], -1, false, 0, 1, 1⟩ z = (⟨dkA ⟨ag, 16, al, af, az, ao⟩ k, [], z, false, 0, 1, 1⟩, 0) := by unfold Dk.stop; rw [if_neg hz]
  have HSt : Hid (∀ W g vs, Hid (AtV (((w.alloc (.cells #[.int .i64 ag, .int .i64 16, .int .i64 al, .int .i64 af, .int .i64 az, .int .i64 ao] 25)).alloc (.cells #[.int .i64 yg, .int .i64 16, .int .i64 bl, .int .i64 bf, .int .i64 bz, .int .i64 bo] 25)).alloc (.cells #[.slice M1 m1 c1, .slice M2 m2 c2, .int .i64 z, .slice M3 m3 c3] 61)) W g ⟨dkA ⟨ag, 16, al, af, az, ao⟩ k, [], -1, false, 0, 1, 1⟩ vs) → Calls Try.prog 25 #[.pointer (some ⟨g, 0, none⟩), .int .i64 z] W fun e w' => e = .returned (.int .i64 0) ∧ Hid (AtV (((w.alloc (.cells #[.int .i64 ag, .int .i64 16, .int .i64 al, .int .i64 af, .int .i64 az, .int .i64 ao] 25)).alloc (.cells #[.int .i64 yg, .int .i64 16, .int .i64 bl, .int .i64 bf, .int .i64 bz, .int .i64 bo] 25)).alloc (.cells #[.slice M1 m1 c1, .slice M2 m2 c2, .int .i64 z, .slice M3 m3 c3] 61)) w' g ⟨dkA ⟨ag, 16, al, af, az, ao⟩ k, [], z, false, 0, 1, 1⟩ vs)) := fun W g vs ht => by
    have h1 := aw_stop (i := z) ⟨by omega, hz2⟩ ht.out
    rw [hst] at h1
    exact h1
  have HW2 : Hid (∀ W g vs, Hid (AtV (((w.alloc (.cells #[.int .i64 ag, .int .i64 16, .int .i64 al, .int .i64 af, .int .i64 az, .int .i64 ao] 25)).alloc (.cells #[.int .i64 yg, .int .i64 16, .int .i64 bl, .int .i64 bf, .int .i64 bz, .int .i64 bo] 25)).alloc (.cells #[.slice M1 m1 c1, .slice M2 m2 c2, .int .i64 z, .slice M3 m3 c3] 61)) W g ⟨dkA ⟨ag, 16, al, af, az, ao⟩ k, [], z, false, 0, 1, 1⟩ vs) → Calls Try.prog 20 #[.pointer (some ⟨g, 0, none⟩), .agg #[.int .i64 yg, .int .i64 16, .int .i64 bl, .int .i64 bf, .int .i64 bz, .int .i64 bo]] W fun e w' => e = .returned (.int .i64 0) ∧ Hid (AtV (((w.alloc (.cells #[.int .i64 ag, .int .i64 16, .int .i64 al, .int .i64 af, .int .i64 az, .int .i64 ao] 25)).alloc (.cells #[.int .i64 yg, .int .i64 16, .int .i64 bl, .int .i64 bf, .int .i64 bz, .int .i64 bo] 25)).alloc (.cells #[.slice M1 m1 c1, .slice M2 m2 c2, .int .i64 z, .slice M3 m3 c3] 61)) w' g D3 vs)) := fun W g vs ht => by
    have h1 := aw_write e2 (by show 0 + 1 + 1 + 0 ≤ 90000; omega) ht.out
    exact h1
  have hMB : RI (((w.alloc (.cells #[.int .i64 ag, .int .i64 16, .int .i64 al, .int .i64 af, .int .i64 az, .int .i64 ao] 25)).alloc (.cells #[.int .i64 yg, .int .i64 16, .int .i64 bl, .int .i64 bf, .int .i64 bz, .int .i64 bo] 25)).alloc (.cells #[.slice M1 m1 c1, .slice M2 m2 c2, .int .i64 z, .slice M3 m3 c3] 61)) (((w.alloc (.cells #[.int .i64 ag, .int .i64 16, .int .i64 al, .int .i64 af, .int .i64 az, .int .i64 ao] 25)).alloc (.cells #[.int .i64 yg, .int .i64 16, .int .i64 bl, .int .i64 bf, .int .i64 bz, .int .i64 bo] 25)).alloc (.cells #[.slice M1 m1 c1, .slice M2 m2 c2, .int .i64 z, .slice M3 m3 c3] 61)).heap.size M3 Z := fun h0 => by
    obtain ⟨b, off, e', hlt, hc⟩ := hM h0
    exact ⟨b, off, e', Nat.lt_of_lt_of_le hlt HB.out.size, fun j hj => (HB.out.cell (p := ⟨b, off + j, none⟩) hlt).trans (hc j hj)⟩
  have HCr : Hid (∀ W g vs, Hid (AtV (((w.alloc (.cells #[.int .i64 ag, .int .i64 16, .int .i64 al, .int .i64 af, .int .i64 az, .int .i64 ao] 25)).alloc (.cells #[.int .i64 yg, .int .i64 16, .int .i64 bl, .int .i64 bf, .int .i64 bz, .int .i64 bo] 25)).alloc (.cells #[.slice M1 m1 c1, .slice M2 m2 c2, .int .i64 z, .slice M3 m3 c3] 61)) W g D3 vs) → Calls Try.prog 26 #[.pointer (some ⟨g, 0, none⟩), .slice M3 m3 c3] W fun e w' => e = .returned (.tuple #[]) ∧ Hid (AtV (((w.alloc (.cells #[.int .i64 ag, .int .i64 16, .int .i64 al, .int .i64 af, .int .i64 az, .int .i64 ao] 25)).alloc (.cells #[.int .i64 yg, .int .i64 16, .int .i64 bl, .int .i64 bf, .int .i64 bz, .int .i64 bo] 25)).alloc (.cells #[.slice M1 m1 c1, .slice M2 m2 c2, .int .i64 z, .slice M3 m3 c3] 61)) w' g (D3.crash Z) vs)) := fun W g vs ht => aw_crash hm hMB ht.out
  have hl4 : (D3.crash Z).load ≤ 90000 := by
    have h1 : (D3.crash Z).load = D3.reads + D3.writes + D3.flushes + 0 := rfl
    have h2 : D3.load = D3.reads + D3.writes + D3.flushes + D3.waits.length := rfl
    omega
  have HRd : Hid (∀ W g vs, Hid (AtV (((w.alloc (.cells #[.int .i64 ag, .int .i64 16, .int .i64 al, .int .i64 af, .int .i64 az, .int .i64 ao] 25)).alloc (.cells #[.int .i64 yg, .int .i64 16, .int .i64 bl, .int .i64 bf, .int .i64 bz, .int .i64 bo] 25)).alloc (.cells #[.slice M1 m1 c1, .slice M2 m2 c2, .int .i64 z, .slice M3 m3 c3] 61)) W g (D3.crash Z) vs) → Calls Try.prog 18 #[.pointer (some ⟨g, 0, none⟩)] W fun e w' => e = .returned (.tuple #[.agg #[.int .i64 yg, .int .i64 16, .int .i64 bl, .int .i64 bf, .int .i64 bz, .int .i64 bo], .int .i64 0]) ∧ Hid (AtV (((w.alloc (.cells #[.int .i64 ag, .int .i64 16, .int .i64 al, .int .i64 af, .int .i64 az, .int .i64 ao] 25)).alloc (.cells #[.int .i64 yg, .int .i64 16, .int .i64 bl, .int .i64 bf, .int .i64 bz, .int .i64 bo] 25)).alloc (.cells #[.slice M1 m1 c1, .slice M2 m2 c2, .int .i64 z, .slice M3 m3 c3] 61)) w' g D5 vs)) := fun W g vs ht => by
    have h1 := aw_read e3 hl4 ht.out
    exact h1
  have q25 := fun a b c d e f w' => Try.supEq a b c d e f w'
  have q26 := fun b c d e f b' c' d' e' f' w' => Try.supGenNe yg b c d e f ag b' c' d' e' f' w' hne
  clear h hy ha hb hz hz2 hne hm hM e1 e2 e3 hl hst hMB hl4
  go_enter Try.func6, Try.ntmps6
  go_wp2_with (first
    | (go_at_call 23; (with_reducible refine (HKa.out _).mono ?_); rintro e w1 ⟨rfl, hb1⟩; obtain ⟨p0, p1, p2, p3, p4, p5⟩ := HCb.out _ hb1; obtain ⟨q0, q1, q2, q3⟩ := HCc.out _ hb1)
    | (go_at_call 23; (with_reducible refine (HKb.out _).mono ?_); rintro e w2 ⟨rfl, hb2⟩; have b2 := hb1.trans (hb2.mono hb1.size); obtain ⟨r0, r1, r2, r3⟩ := HCc.out _ b2)
    | (go_at_call 24; (with_reducible refine (HBl.out _ b2).mono ?_); rintro e w3 ⟨g, rfl, t3⟩; obtain ⟨x0, x1, x2, x3, x4, x5⟩ := HCa.out _ t3.out.below)
    | (go_at_call 20; (with_reducible refine (HW1.out _ _ _ t3).mono ?_); rintro e w4 ⟨rfl, t4⟩; obtain ⟨s0, s1, s2, s3⟩ := HCc.out _ t4.out.below)
    | (go_at_call 25; (with_reducible refine (HSt.out _ _ _ t4).mono ?_); rintro e w5 ⟨rfl, t5⟩; obtain ⟨u0, u1, u2, u3, u4, u5⟩ := HCb.out _ t5.out.below)
    | (go_at_call 20; (with_reducible refine (HW2.out _ _ _ t5).mono ?_); rintro e w6 ⟨rfl, t6⟩; obtain ⟨v0, v1, v2, v3⟩ := HCc.out _ t6.out.below)
    | (go_at_call 26; (with_reducible refine (HCr.out _ _ _ t6).mono ?_); rintro e w7 ⟨rfl, t7⟩)
    | (go_at_call 18; (with_reducible refine (HRd.out _ _ _ t7).mono ?_); rintro e w8 ⟨rfl, t8⟩; have t8a : Hid (AtV (((w.alloc (.cells #[.int .i64 ag, .int .i64 16, .int .i64 al, .int .i64 af, .int .i64 az, .int .i64 ao] 25)).alloc (.cells #[.int .i64 yg, .int .i64 16, .int .i64 bl, .int .i64 bf, .int .i64 bz, .int .i64 bo] 25)).alloc (.cells #[.slice M1 m1 c1, .slice M2 m2 c2, .int .i64 z, .slice M3 m3 c3] 61)) (w8.alloc (.cells #[.int .i64 yg, .int .i64 16, .int .i64 bl, .int .i64 bf, .int .i64 bz, .int .i64 bo] 25)) g D5 [(w8.heap.size, ⟨yg, 16, bl, bf, bz, bo⟩)]) := t8.out.put2 ⟨yg, 16, bl, bf, bz, bo⟩ rfl; obtain ⟨y0, y1, y2, y3, y4, y5⟩ := HCa.out _ t8a.out.below; obtain ⟨j0, j1, j2, j3, j4, j5⟩ := HCb.out _ t8a.out.below)
    | (go_at_call 11; (with_reducible refine (HAw.out _).mono ?_); rintro e w9 ⟨rfl, hb9⟩))
  go_ret
  exact ⟨rfl, chain7 (HB.out.trans (t8a.out.below.mono HB.out.size)) hb9⟩
set_option maxRecDepth 100000 in
set_option maxHeartbeats 8000000 in
theorem whole_9b (ag ab al af az ao bg bb bl bf bz bo z : Int) (M1 M2 M3 : Option Addr) (m1 c1 m2 c2 m3 c3 : Nat) (w : World) (yg : Int) (Z : List Int) (D3 D5 : Dk) (k : Nat) (h : ¬ 2147483647 ≤ ag) (hy : IntKind.i64.wrap (ag + 1) = yg) (ha : Pu.may ⟨ag, 16, al, af, az, ao⟩ = true) (hb : Pu.may ⟨yg, 16, bl, bf, bz, bo⟩ = true) (hz : ¬ z < 0) (hz2 : z ≤ 9223372036854775807) (hne : yg ≠ ag)
    (hm : m3 = Z.length) (hM : RI w w.heap.size M3 Z) (e1 : writeU (Dk.blank 16) ⟨ag, 16, al, af, az, ao⟩ = (⟨dkA ⟨ag, 16, al, af, az, ao⟩ k, [], -1, false, 0, 1, 1⟩, 0)) (e2 : writeU ⟨dkA ⟨ag, 16, al, af, az, ao⟩ k, [], z, false, 0, 1, 1⟩ ⟨yg, 16, bl, bf, bz, bo⟩ = (D3, 9)) (e3 : readU (D3.crash Z) = (D5, ⟨yg, 16, bl, bf, bz, bo⟩, 0)) (hl : D3.load ≤ 1000) :
    Calls Try.prog 6 #[.agg #[.int .i64 ag, .int .i64 ab, .int .i64 al, .int .i64 af, .int .i64 az, .int .i64 ao], .agg #[.int .i64 bg, .int .i64 bb, .int .i64 bl, .int .i64 bf, .int .i64 bz, .int .i64 bo], .agg #[.slice M1 m1 c1, .slice M2 m2 c2, .int .i64 z, .slice M3 m3 c3]] w fun e w' => e = .returned (.bool true) ∧ Below w.heap.size w w' := by
  have d0 : decide (ag ≥ 2147483647) = false := decide_eq_false (by omega)
  have d1 : decide ((2147483647 : Int) ≤ ag) = false := decide_eq_false (by omega)
  have y0 : IntKind.i64.wrap (ag + 1) = yg := hy
  have a24 := fun w' => Try.aggSup w'
  have s24 := fun w' => Try.sizeSup w'
  have HAw := Lib.hid awake8_any
  have HKa : Hid (∀ W, Calls Try.prog 23 #[.agg #[.int .i64 ag, .int .i64 16, .int .i64 al, .int .i64 af, .int .i64 az, .int .i64 ao]] W fun e w' => e = .returned (.bool true) ∧ Below W.heap.size W w') := fun W => by
    have h1 := rcheck_any ⟨ag, 16, al, af, az, ao⟩ W
    rw [ha] at h1
    exact h1
  have HKb : Hid (∀ W, Calls Try.prog 23 #[.agg #[.int .i64 yg, .int .i64 16, .int .i64 bl, .int .i64 bf, .int .i64 bz, .int .i64 bo]] W fun e w' => e = .returned (.bool true) ∧ Below W.heap.size W w') := fun W => by
    have h1 := rcheck_any ⟨yg, 16, bl, bf, bz, bo⟩ W
    rw [hb] at h1
    exact h1
  have dz : decide (z < 0) = false := decide_eq_false hz
  have HB : Hid (Below w.heap.size w (((w.alloc (.cells #[.int .i64 ag, .int .i64 16, .int .i64 al, .int .i64 af, .int .i64 az, .int .i64 ao] 25)).alloc (.cells #[.int .i64 yg, .int .i64 16, .int .i64 bl, .int .i64 bf, .int .i64 bz, .int .i64 bo] 25)).alloc (.cells #[.slice M1 m1 c1, .slice M2 m2 c2, .int .i64 z, .slice M3 m3 c3] 61))) := ((((Below.refl _ _).alloc (Nat.le_refl _) _).alloc (by simp) _).alloc (by simp; omega) _)
  have HCa : Hid (∀ W, Below (((w.alloc (.cells #[.int .i64 ag, .int .i64 16, .int .i64 al, .int .i64 af, .int .i64 az, .int .i64 ao] 25)).alloc (.cells #[.int .i64 yg, .int .i64 16, .int .i64 bl, .int .i64 bf, .int .i64 bz, .int .i64 bo] 25)).alloc (.cells #[.slice M1 m1 c1, .slice M2 m2 c2, .int .i64 z, .slice M3 m3 c3] 61)).heap.size (((w.alloc (.cells #[.int .i64 ag, .int .i64 16, .int .i64 al, .int .i64 af, .int .i64 az, .int .i64 ao] 25)).alloc (.cells #[.int .i64 yg, .int .i64 16, .int .i64 bl, .int .i64 bf, .int .i64 bz, .int .i64 bo] 25)).alloc (.cells #[.slice M1 m1 c1, .slice M2 m2 c2, .int .i64 z, .slice M3 m3 c3] 61)) W → W.cell? ⟨w.heap.size, 0, none⟩ = some (.int .i64 ag) ∧ W.cell? ⟨w.heap.size, 1, none⟩ = some (.int .i64 16) ∧ W.cell? ⟨w.heap.size, 2, none⟩ = some (.int .i64 al) ∧ W.cell? ⟨w.heap.size, 3, none⟩ = some (.int .i64 af) ∧ W.cell? ⟨w.heap.size, 4, none⟩ = some (.int .i64 az) ∧ W.cell? ⟨w.heap.size, 5, none⟩ = some (.int .i64 ao)) := fun W hb => box_sup (((Blk.new w _ _).alloc _).alloc _) hb
  have HCb : Hid (∀ W, Below (((w.alloc (.cells #[.int .i64 ag, .int .i64 16, .int .i64 al, .int .i64 af, .int .i64 az, .int .i64 ao] 25)).alloc (.cells #[.int .i64 yg, .int .i64 16, .int .i64 bl, .int .i64 bf, .int .i64 bz, .int .i64 bo] 25)).alloc (.cells #[.slice M1 m1 c1, .slice M2 m2 c2, .int .i64 z, .slice M3 m3 c3] 61)).heap.size (((w.alloc (.cells #[.int .i64 ag, .int .i64 16, .int .i64 al, .int .i64 af, .int .i64 az, .int .i64 ao] 25)).alloc (.cells #[.int .i64 yg, .int .i64 16, .int .i64 bl, .int .i64 bf, .int .i64 bz, .int .i64 bo] 25)).alloc (.cells #[.slice M1 m1 c1, .slice M2 m2 c2, .int .i64 z, .slice M3 m3 c3] 61)) W → W.cell? ⟨w.heap.size + 1, 0, none⟩ = some (.int .i64 yg) ∧ W.cell? ⟨w.heap.size + 1, 1, none⟩ = some (.int .i64 16) ∧ W.cell? ⟨w.heap.size + 1, 2, none⟩ = some (.int .i64 bl) ∧ W.cell? ⟨w.heap.size + 1, 3, none⟩ = some (.int .i64 bf) ∧ W.cell? ⟨w.heap.size + 1, 4, none⟩ = some (.int .i64 bz) ∧ W.cell? ⟨w.heap.size + 1, 5, none⟩ = some (.int .i64 bo)) := fun W hb => by
    have h1 := (Blk.new (w.alloc (.cells #[.int .i64 ag, .int .i64 16, .int .i64 al, .int .i64 af, .int .i64 az, .int .i64 ao] 25)) 25 #[.int .i64 yg, .int .i64 16, .int .i64 bl, .int .i64 bf, .int .i64 bz, .int .i64 bo]).alloc (.cells #[.slice M1 m1 c1, .slice M2 m2 c2, .int .i64 z, .slice M3 m3 c3] 61)
    rw [show (w.alloc (.cells #[.int .i64 ag, .int .i64 16, .int .i64 al, .int .i64 af, .int .i64 az, .int .i64 ao] 25)).heap.size = w.heap.size + 1 by simp] at h1
    exact box_sup h1 hb
  have HCc : Hid (∀ W, Below (((w.alloc (.cells #[.int .i64 ag, .int .i64 16, .int .i64 al, .int .i64 af, .int .i64 az, .int .i64 ao] 25)).alloc (.cells #[.int .i64 yg, .int .i64 16, .int .i64 bl, .int .i64 bf, .int .i64 bz, .int .i64 bo] 25)).alloc (.cells #[.slice M1 m1 c1, .slice M2 m2 c2, .int .i64 z, .slice M3 m3 c3] 61)).heap.size (((w.alloc (.cells #[.int .i64 ag, .int .i64 16, .int .i64 al, .int .i64 af, .int .i64 az, .int .i64 ao] 25)).alloc (.cells #[.int .i64 yg, .int .i64 16, .int .i64 bl, .int .i64 bf, .int .i64 bz, .int .i64 bo] 25)).alloc (.cells #[.slice M1 m1 c1, .slice M2 m2 c2, .int .i64 z, .slice M3 m3 c3] 61)) W → W.cell? ⟨w.heap.size + 1 + 1, 0, none⟩ = some (.slice M1 m1 c1) ∧ W.cell? ⟨w.heap.size + 1 + 1, 1, none⟩ = some (.slice M2 m2 c2) ∧ W.cell? ⟨w.heap.size + 1 + 1, 2, none⟩ = some (.int .i64 z) ∧ W.cell? ⟨w.heap.size + 1 + 1, 3, none⟩ = some (.slice M3 m3 c3)) := fun W hb => by
    have h1 := Blk.new ((w.alloc (.cells #[.int .i64 ag, .int .i64 16, .int .i64 al, .int .i64 af, .int .i64 az, .int .i64 ao] 25)).alloc (.cells #[.int .i64 yg, .int .i64 16, .int .i64 bl, .int .i64 bf, .int .i64 bz, .int .i64 bo] 25)) 61 #[.slice M1 m1 c1, .slice M2 m2 c2, .int .i64 z, .slice M3 m3 c3]
    rw [show ((w.alloc (.cells #[.int .i64 ag, .int .i64 16, .int .i64 al, .int .i64 af, .int .i64 az, .int .i64 ao] 25)).alloc (.cells #[.int .i64 yg, .int .i64 16, .int .i64 bl, .int .i64 bf, .int .i64 bz, .int .i64 bo] 25)).heap.size = w.heap.size + 1 + 1 by simp] at h1
    exact box_calm h1 hb
  have HBl : Hid (∀ W, Below (((w.alloc (.cells #[.int .i64 ag, .int .i64 16, .int .i64 al, .int .i64 af, .int .i64 az, .int .i64 ao] 25)).alloc (.cells #[.int .i64 yg, .int .i64 16, .int .i64 bl, .int .i64 bf, .int .i64 bz, .int .i64 bo] 25)).alloc (.cells #[.slice M1 m1 c1, .slice M2 m2 c2, .int .i64 z, .slice M3 m3 c3] 61)).heap.size (((w.alloc (.cells #[.int .i64 ag, .int .i64 16, .int .i64 al, .int .i64 af, .int .i64 az, .int .i64 ao] 25)).alloc (.cells #[.int .i64 yg, .int .i64 16, .int .i64 bl, .int .i64 bf, .int .i64 bz, .int .i64 bo] 25)).alloc (.cells #[.slice M1 m1 c1, .slice M2 m2 c2, .int .i64 z, .slice M3 m3 c3] 61)) W → Calls Try.prog 24 #[.int .i64 16] W fun e w' => ∃ g, e = .returned (.tuple #[.pointer (some ⟨g, 0, none⟩), .int .i64 0]) ∧ Hid (AtV (((w.alloc (.cells #[.int .i64 ag, .int .i64 16, .int .i64 al, .int .i64 af, .int .i64 az, .int .i64 ao] 25)).alloc (.cells #[.int .i64 yg, .int .i64 16, .int .i64 bl, .int .i64 bf, .int .i64 bz, .int .i64 bo] 25)).alloc (.cells #[.slice M1 m1 c1, .slice M2 m2 c2, .int .i64 z, .slice M3 m3 c3] 61)) w' g (Dk.blank 16) [])) := fun W hbw => by
    refine (blank_any 16 W (by omega) (by omega)).mono fun e w' hh => ?_
    obtain ⟨g, F, he, hG⟩ := hh
    exact ⟨g, he, AtV.gives hbw hG⟩
  have HW1 : Hid (∀ W g vs, Hid (AtV (((w.alloc (.cells #[.int .i64 ag, .int .i64 16, .int .i64 al, .int .i64 af, .int .i64 az, .int .i64 ao] 25)).alloc (.cells #[.int .i64 yg, .int .i64 16, .int .i64 bl, .int .i64 bf, .int .i64 bz, .int .i64 bo] 25)).alloc (.cells #[.slice M1 m1 c1, .slice M2 m2 c2, .int .i64 z, .slice M3 m3 c3] 61)) W g (Dk.blank 16) vs) → Calls Try.prog 20 #[.pointer (some ⟨g, 0, none⟩), .agg #[.int .i64 ag, .int .i64 16, .int .i64 al, .int .i64 af, .int .i64 az, .int .i64 ao]] W fun e w' => e = .returned (.int .i64 0) ∧ Hid (AtV (((w.alloc (.cells #[.int .i64 ag, .int .i64 16, .int .i64 al, .int .i64 af, .int .i64 az, .int .i64 ao] 25)).alloc (.cells #[.int .i64 yg, .int .i64 16, .int .i64 bl, .int .i64 bf, .int .i64 bz, .int .i64 bo] 25)).alloc (.cells #[.slice M1 m1 c1, .slice M2 m2 c2, .int .i64 z, .slice M3 m3 c3] 61)) w' g ⟨dkA ⟨ag, 16, al, af, az, ao⟩ k, [], -1, false, 0, 1, 1⟩ vs)) := fun W g vs ht => by
    have h1 := aw_write e1 (by decide) ht.out
    exact h1
  have hst : Dk.stop ⟨dkA ⟨ag, 16, al, af, az, ao⟩ k, [], -1, false, 0, 1, 1⟩ z = (⟨dkA ⟨ag, 16, al, af, az, ao⟩ k, [], z, false, 0, 1, 1⟩, 0) := by unfold Dk.stop; rw [if_neg hz]
  have HSt : Hid (∀ W g vs, Hid (AtV (((w.alloc (.cells #[.int .i64 ag, .int .i64 16, .int .i64 al, .int .i64 af, .int .i64 az, .int .i64 ao] 25)).alloc (.cells #[.int .i64 yg, .int .i64 16, .int .i64 bl, .int .i64 bf, .int .i64 bz, .int .i64 bo] 25)).alloc (.cells #[.slice M1 m1 c1, .slice M2 m2 c2, .int .i64 z, .slice M3 m3 c3] 61)) W g ⟨dkA ⟨ag, 16, al, af, az, ao⟩ k, [], -1, false, 0, 1, 1⟩ vs) → Calls Try.prog 25 #[.pointer (some ⟨g, 0, none⟩), .int .i64 z] W fun e w' => e = .returned (.int .i64 0) ∧ Hid (AtV (((w.alloc (.cells #[.int .i64 ag, .int .i64 16, .int .i64 al, .int .i64 af, .int .i64 az, .int .i64 ao] 25)).alloc (.cells #[.int .i64 yg, .int .i64 16, .int .i64 bl, .int .i64 bf, .int .i64 bz, .int .i64 bo] 25)).alloc (.cells #[.slice M1 m1 c1, .slice M2 m2 c2, .int .i64 z, .slice M3 m3 c3] 61)) w' g ⟨dkA ⟨ag, 16, al, af, az, ao⟩ k, [], z, false, 0, 1, 1⟩ vs)) := fun W g vs ht => by
    have h1 := aw_stop (i := z) ⟨by omega, hz2⟩ ht.out
    rw [hst] at h1
    exact h1
  have HW2 : Hid (∀ W g vs, Hid (AtV (((w.alloc (.cells #[.int .i64 ag, .int .i64 16, .int .i64 al, .int .i64 af, .int .i64 az, .int .i64 ao] 25)).alloc (.cells #[.int .i64 yg, .int .i64 16, .int .i64 bl, .int .i64 bf, .int .i64 bz, .int .i64 bo] 25)).alloc (.cells #[.slice M1 m1 c1, .slice M2 m2 c2, .int .i64 z, .slice M3 m3 c3] 61)) W g ⟨dkA ⟨ag, 16, al, af, az, ao⟩ k, [], z, false, 0, 1, 1⟩ vs) → Calls Try.prog 20 #[.pointer (some ⟨g, 0, none⟩), .agg #[.int .i64 yg, .int .i64 16, .int .i64 bl, .int .i64 bf, .int .i64 bz, .int .i64 bo]] W fun e w' => e = .returned (.int .i64 9) ∧ Hid (AtV (((w.alloc (.cells #[.int .i64 ag, .int .i64 16, .int .i64 al, .int .i64 af, .int .i64 az, .int .i64 ao] 25)).alloc (.cells #[.int .i64 yg, .int .i64 16, .int .i64 bl, .int .i64 bf, .int .i64 bz, .int .i64 bo] 25)).alloc (.cells #[.slice M1 m1 c1, .slice M2 m2 c2, .int .i64 z, .slice M3 m3 c3] 61)) w' g D3 vs)) := fun W g vs ht => by
    have h1 := aw_write e2 (by show 0 + 1 + 1 + 0 ≤ 90000; omega) ht.out
    exact h1
  have hMB : RI (((w.alloc (.cells #[.int .i64 ag, .int .i64 16, .int .i64 al, .int .i64 af, .int .i64 az, .int .i64 ao] 25)).alloc (.cells #[.int .i64 yg, .int .i64 16, .int .i64 bl, .int .i64 bf, .int .i64 bz, .int .i64 bo] 25)).alloc (.cells #[.slice M1 m1 c1, .slice M2 m2 c2, .int .i64 z, .slice M3 m3 c3] 61)) (((w.alloc (.cells #[.int .i64 ag, .int .i64 16, .int .i64 al, .int .i64 af, .int .i64 az, .int .i64 ao] 25)).alloc (.cells #[.int .i64 yg, .int .i64 16, .int .i64 bl, .int .i64 bf, .int .i64 bz, .int .i64 bo] 25)).alloc (.cells #[.slice M1 m1 c1, .slice M2 m2 c2, .int .i64 z, .slice M3 m3 c3] 61)).heap.size M3 Z := fun h0 => by
    obtain ⟨b, off, e', hlt, hc⟩ := hM h0
    exact ⟨b, off, e', Nat.lt_of_lt_of_le hlt HB.out.size, fun j hj => (HB.out.cell (p := ⟨b, off + j, none⟩) hlt).trans (hc j hj)⟩
  have HCr : Hid (∀ W g vs, Hid (AtV (((w.alloc (.cells #[.int .i64 ag, .int .i64 16, .int .i64 al, .int .i64 af, .int .i64 az, .int .i64 ao] 25)).alloc (.cells #[.int .i64 yg, .int .i64 16, .int .i64 bl, .int .i64 bf, .int .i64 bz, .int .i64 bo] 25)).alloc (.cells #[.slice M1 m1 c1, .slice M2 m2 c2, .int .i64 z, .slice M3 m3 c3] 61)) W g D3 vs) → Calls Try.prog 26 #[.pointer (some ⟨g, 0, none⟩), .slice M3 m3 c3] W fun e w' => e = .returned (.tuple #[]) ∧ Hid (AtV (((w.alloc (.cells #[.int .i64 ag, .int .i64 16, .int .i64 al, .int .i64 af, .int .i64 az, .int .i64 ao] 25)).alloc (.cells #[.int .i64 yg, .int .i64 16, .int .i64 bl, .int .i64 bf, .int .i64 bz, .int .i64 bo] 25)).alloc (.cells #[.slice M1 m1 c1, .slice M2 m2 c2, .int .i64 z, .slice M3 m3 c3] 61)) w' g (D3.crash Z) vs)) := fun W g vs ht => aw_crash hm hMB ht.out
  have hl4 : (D3.crash Z).load ≤ 90000 := by
    have h1 : (D3.crash Z).load = D3.reads + D3.writes + D3.flushes + 0 := rfl
    have h2 : D3.load = D3.reads + D3.writes + D3.flushes + D3.waits.length := rfl
    omega
  have HRd : Hid (∀ W g vs, Hid (AtV (((w.alloc (.cells #[.int .i64 ag, .int .i64 16, .int .i64 al, .int .i64 af, .int .i64 az, .int .i64 ao] 25)).alloc (.cells #[.int .i64 yg, .int .i64 16, .int .i64 bl, .int .i64 bf, .int .i64 bz, .int .i64 bo] 25)).alloc (.cells #[.slice M1 m1 c1, .slice M2 m2 c2, .int .i64 z, .slice M3 m3 c3] 61)) W g (D3.crash Z) vs) → Calls Try.prog 18 #[.pointer (some ⟨g, 0, none⟩)] W fun e w' => e = .returned (.tuple #[.agg #[.int .i64 yg, .int .i64 16, .int .i64 bl, .int .i64 bf, .int .i64 bz, .int .i64 bo], .int .i64 0]) ∧ Hid (AtV (((w.alloc (.cells #[.int .i64 ag, .int .i64 16, .int .i64 al, .int .i64 af, .int .i64 az, .int .i64 ao] 25)).alloc (.cells #[.int .i64 yg, .int .i64 16, .int .i64 bl, .int .i64 bf, .int .i64 bz, .int .i64 bo] 25)).alloc (.cells #[.slice M1 m1 c1, .slice M2 m2 c2, .int .i64 z, .slice M3 m3 c3] 61)) w' g D5 vs)) := fun W g vs ht => by
    have h1 := aw_read e3 hl4 ht.out
    exact h1
  have q25 := fun a b c d e f w' => Try.supEq a b c d e f w'
  have q26 := fun b c d e f b' c' d' e' f' w' => Try.supGenNe yg b c d e f ag b' c' d' e' f' w' hne
  clear h hy ha hb hz hz2 hne hm hM e1 e2 e3 hl hst hMB hl4
  go_enter Try.func6, Try.ntmps6
  go_wp2_with (first
    | (go_at_call 23; (with_reducible refine (HKa.out _).mono ?_); rintro e w1 ⟨rfl, hb1⟩; obtain ⟨p0, p1, p2, p3, p4, p5⟩ := HCb.out _ hb1; obtain ⟨q0, q1, q2, q3⟩ := HCc.out _ hb1)
    | (go_at_call 23; (with_reducible refine (HKb.out _).mono ?_); rintro e w2 ⟨rfl, hb2⟩; have b2 := hb1.trans (hb2.mono hb1.size); obtain ⟨r0, r1, r2, r3⟩ := HCc.out _ b2)
    | (go_at_call 24; (with_reducible refine (HBl.out _ b2).mono ?_); rintro e w3 ⟨g, rfl, t3⟩; obtain ⟨x0, x1, x2, x3, x4, x5⟩ := HCa.out _ t3.out.below)
    | (go_at_call 20; (with_reducible refine (HW1.out _ _ _ t3).mono ?_); rintro e w4 ⟨rfl, t4⟩; obtain ⟨s0, s1, s2, s3⟩ := HCc.out _ t4.out.below)
    | (go_at_call 25; (with_reducible refine (HSt.out _ _ _ t4).mono ?_); rintro e w5 ⟨rfl, t5⟩; obtain ⟨u0, u1, u2, u3, u4, u5⟩ := HCb.out _ t5.out.below)
    | (go_at_call 20; (with_reducible refine (HW2.out _ _ _ t5).mono ?_); rintro e w6 ⟨rfl, t6⟩; obtain ⟨v0, v1, v2, v3⟩ := HCc.out _ t6.out.below)
    | (go_at_call 26; (with_reducible refine (HCr.out _ _ _ t6).mono ?_); rintro e w7 ⟨rfl, t7⟩)
    | (go_at_call 18; (with_reducible refine (HRd.out _ _ _ t7).mono ?_); rintro e w8 ⟨rfl, t8⟩; have t8a : Hid (AtV (((w.alloc (.cells #[.int .i64 ag, .int .i64 16, .int .i64 al, .int .i64 af, .int .i64 az, .int .i64 ao] 25)).alloc (.cells #[.int .i64 yg, .int .i64 16, .int .i64 bl, .int .i64 bf, .int .i64 bz, .int .i64 bo] 25)).alloc (.cells #[.slice M1 m1 c1, .slice M2 m2 c2, .int .i64 z, .slice M3 m3 c3] 61)) (w8.alloc (.cells #[.int .i64 yg, .int .i64 16, .int .i64 bl, .int .i64 bf, .int .i64 bz, .int .i64 bo] 25)) g D5 [(w8.heap.size, ⟨yg, 16, bl, bf, bz, bo⟩)]) := t8.out.put2 ⟨yg, 16, bl, bf, bz, bo⟩ rfl; obtain ⟨y0, y1, y2, y3, y4, y5⟩ := HCa.out _ t8a.out.below; obtain ⟨j0, j1, j2, j3, j4, j5⟩ := HCb.out _ t8a.out.below)
    | (go_at_call 11; (with_reducible refine (HAw.out _).mono ?_); rintro e w9 ⟨rfl, hb9⟩))
  go_ret
  exact ⟨rfl, chain7 (HB.out.trans (t8a.out.below.mono HB.out.size)) hb9⟩
set_option maxRecDepth 100000 in
set_option maxHeartbeats 8000000 in
theorem whole_9a (ag ab al af az ao bg bb bl bf bz bo z : Int) (M1 M2 M3 : Option Addr) (m1 c1 m2 c2 m3 c3 : Nat) (w : World) (yg : Int) (Z : List Int) (D3 D5 : Dk) (k : Nat) (h : ¬ 2147483647 ≤ ag) (hy : IntKind.i64.wrap (ag + 1) = yg) (ha : Pu.may ⟨ag, 16, al, af, az, ao⟩ = true) (hb : Pu.may ⟨yg, 16, bl, bf, bz, bo⟩ = true) (hz : ¬ z < 0) (hz2 : z ≤ 9223372036854775807) (hne : yg ≠ ag)
    (hm : m3 = Z.length) (hM : RI w w.heap.size M3 Z) (e1 : writeU (Dk.blank 16) ⟨ag, 16, al, af, az, ao⟩ = (⟨dkA ⟨ag, 16, al, af, az, ao⟩ k, [], -1, false, 0, 1, 1⟩, 0)) (e2 : writeU ⟨dkA ⟨ag, 16, al, af, az, ao⟩ k, [], z, false, 0, 1, 1⟩ ⟨yg, 16, bl, bf, bz, bo⟩ = (D3, 9)) (e3 : readU (D3.crash Z) = (D5, ⟨ag, 16, al, af, az, ao⟩, 0)) (hl : D3.load ≤ 1000) :
    Calls Try.prog 6 #[.agg #[.int .i64 ag, .int .i64 ab, .int .i64 al, .int .i64 af, .int .i64 az, .int .i64 ao], .agg #[.int .i64 bg, .int .i64 bb, .int .i64 bl, .int .i64 bf, .int .i64 bz, .int .i64 bo], .agg #[.slice M1 m1 c1, .slice M2 m2 c2, .int .i64 z, .slice M3 m3 c3]] w fun e w' => e = .returned (.bool true) ∧ Below w.heap.size w w' := by
  have d0 : decide (ag ≥ 2147483647) = false := decide_eq_false (by omega)
  have d1 : decide ((2147483647 : Int) ≤ ag) = false := decide_eq_false (by omega)
  have y0 : IntKind.i64.wrap (ag + 1) = yg := hy
  have a24 := fun w' => Try.aggSup w'
  have s24 := fun w' => Try.sizeSup w'
  have HAw := Lib.hid awake8_any
  have HKa : Hid (∀ W, Calls Try.prog 23 #[.agg #[.int .i64 ag, .int .i64 16, .int .i64 al, .int .i64 af, .int .i64 az, .int .i64 ao]] W fun e w' => e = .returned (.bool true) ∧ Below W.heap.size W w') := fun W => by
    have h1 := rcheck_any ⟨ag, 16, al, af, az, ao⟩ W
    rw [ha] at h1
    exact h1
  have HKb : Hid (∀ W, Calls Try.prog 23 #[.agg #[.int .i64 yg, .int .i64 16, .int .i64 bl, .int .i64 bf, .int .i64 bz, .int .i64 bo]] W fun e w' => e = .returned (.bool true) ∧ Below W.heap.size W w') := fun W => by
    have h1 := rcheck_any ⟨yg, 16, bl, bf, bz, bo⟩ W
    rw [hb] at h1
    exact h1
  have dz : decide (z < 0) = false := decide_eq_false hz
  have HB : Hid (Below w.heap.size w (((w.alloc (.cells #[.int .i64 ag, .int .i64 16, .int .i64 al, .int .i64 af, .int .i64 az, .int .i64 ao] 25)).alloc (.cells #[.int .i64 yg, .int .i64 16, .int .i64 bl, .int .i64 bf, .int .i64 bz, .int .i64 bo] 25)).alloc (.cells #[.slice M1 m1 c1, .slice M2 m2 c2, .int .i64 z, .slice M3 m3 c3] 61))) := ((((Below.refl _ _).alloc (Nat.le_refl _) _).alloc (by simp) _).alloc (by simp; omega) _)
  have HCa : Hid (∀ W, Below (((w.alloc (.cells #[.int .i64 ag, .int .i64 16, .int .i64 al, .int .i64 af, .int .i64 az, .int .i64 ao] 25)).alloc (.cells #[.int .i64 yg, .int .i64 16, .int .i64 bl, .int .i64 bf, .int .i64 bz, .int .i64 bo] 25)).alloc (.cells #[.slice M1 m1 c1, .slice M2 m2 c2, .int .i64 z, .slice M3 m3 c3] 61)).heap.size (((w.alloc (.cells #[.int .i64 ag, .int .i64 16, .int .i64 al, .int .i64 af, .int .i64 az, .int .i64 ao] 25)).alloc (.cells #[.int .i64 yg, .int .i64 16, .int .i64 bl, .int .i64 bf, .int .i64 bz, .int .i64 bo] 25)).alloc (.cells #[.slice M1 m1 c1, .slice M2 m2 c2, .int .i64 z, .slice M3 m3 c3] 61)) W → W.cell? ⟨w.heap.size, 0, none⟩ = some (.int .i64 ag) ∧ W.cell? ⟨w.heap.size, 1, none⟩ = some (.int .i64 16) ∧ W.cell? ⟨w.heap.size, 2, none⟩ = some (.int .i64 al) ∧ W.cell? ⟨w.heap.size, 3, none⟩ = some (.int .i64 af) ∧ W.cell? ⟨w.heap.size, 4, none⟩ = some (.int .i64 az) ∧ W.cell? ⟨w.heap.size, 5, none⟩ = some (.int .i64 ao)) := fun W hb => box_sup (((Blk.new w _ _).alloc _).alloc _) hb
  have HCb : Hid (∀ W, Below (((w.alloc (.cells #[.int .i64 ag, .int .i64 16, .int .i64 al, .int .i64 af, .int .i64 az, .int .i64 ao] 25)).alloc (.cells #[.int .i64 yg, .int .i64 16, .int .i64 bl, .int .i64 bf, .int .i64 bz, .int .i64 bo] 25)).alloc (.cells #[.slice M1 m1 c1, .slice M2 m2 c2, .int .i64 z, .slice M3 m3 c3] 61)).heap.size (((w.alloc (.cells #[.int .i64 ag, .int .i64 16, .int .i64 al, .int .i64 af, .int .i64 az, .int .i64 ao] 25)).alloc (.cells #[.int .i64 yg, .int .i64 16, .int .i64 bl, .int .i64 bf, .int .i64 bz, .int .i64 bo] 25)).alloc (.cells #[.slice M1 m1 c1, .slice M2 m2 c2, .int .i64 z, .slice M3 m3 c3] 61)) W → W.cell? ⟨w.heap.size + 1, 0, none⟩ = some (.int .i64 yg) ∧ W.cell? ⟨w.heap.size + 1, 1, none⟩ = some (.int .i64 16) ∧ W.cell? ⟨w.heap.size + 1, 2, none⟩ = some (.int .i64 bl) ∧ W.cell? ⟨w.heap.size + 1, 3, none⟩ = some (.int .i64 bf) ∧ W.cell? ⟨w.heap.size + 1, 4, none⟩ = some (.int .i64 bz) ∧ W.cell? ⟨w.heap.size + 1, 5, none⟩ = some (.int .i64 bo)) := fun W hb => by
    have h1 := (Blk.new (w.alloc (.cells #[.int .i64 ag, .int .i64 16, .int .i64 al, .int .i64 af, .int .i64 az, .int .i64 ao] 25)) 25 #[.int .i64 yg, .int .i64 16, .int .i64 bl, .int .i64 bf, .int .i64 bz, .int .i64 bo]).alloc (.cells #[.slice M1 m1 c1, .slice M2 m2 c2, .int .i64 z, .slice M3 m3 c3] 61)
    rw [show (w.alloc (.cells #[.int .i64 ag, .int .i64 16, .int .i64 al, .int .i64 af, .int .i64 az, .int .i64 ao] 25)).heap.size = w.heap.size + 1 by simp] at h1
    exact box_sup h1 hb
  have HCc : Hid (∀ W, Below (((w.alloc (.cells #[.int .i64 ag, .int .i64 16, .int .i64 al, .int .i64 af, .int .i64 az, .int .i64 ao] 25)).alloc (.cells #[.int .i64 yg, .int .i64 16, .int .i64 bl, .int .i64 bf, .int .i64 bz, .int .i64 bo] 25)).alloc (.cells #[.slice M1 m1 c1, .slice M2 m2 c2, .int .i64 z, .slice M3 m3 c3] 61)).heap.size (((w.alloc (.cells #[.int .i64 ag, .int .i64 16, .int .i64 al, .int .i64 af, .int .i64 az, .int .i64 ao] 25)).alloc (.cells #[.int .i64 yg, .int .i64 16, .int .i64 bl, .int .i64 bf, .int .i64 bz, .int .i64 bo] 25)).alloc (.cells #[.slice M1 m1 c1, .slice M2 m2 c2, .int .i64 z, .slice M3 m3 c3] 61)) W → W.cell? ⟨w.heap.size + 1 + 1, 0, none⟩ = some (.slice M1 m1 c1) ∧ W.cell? ⟨w.heap.size + 1 + 1, 1, none⟩ = some (.slice M2 m2 c2) ∧ W.cell? ⟨w.heap.size + 1 + 1, 2, none⟩ = some (.int .i64 z) ∧ W.cell? ⟨w.heap.size + 1 + 1, 3, none⟩ = some (.slice M3 m3 c3)) := fun W hb => by
    have h1 := Blk.new ((w.alloc (.cells #[.int .i64 ag, .int .i64 16, .int .i64 al, .int .i64 af, .int .i64 az, .int .i64 ao] 25)).alloc (.cells #[.int .i64 yg, .int .i64 16, .int .i64 bl, .int .i64 bf, .int .i64 bz, .int .i64 bo] 25)) 61 #[.slice M1 m1 c1, .slice M2 m2 c2, .int .i64 z, .slice M3 m3 c3]
    rw [show ((w.alloc (.cells #[.int .i64 ag, .int .i64 16, .int .i64 al, .int .i64 af, .int .i64 az, .int .i64 ao] 25)).alloc (.cells #[.int .i64 yg, .int .i64 16, .int .i64 bl, .int .i64 bf, .int .i64 bz, .int .i64 bo] 25)).heap.size = w.heap.size + 1 + 1 by simp] at h1
    exact box_calm h1 hb
  have HBl : Hid (∀ W, Below (((w.alloc (.cells #[.int .i64 ag, .int .i64 16, .int .i64 al, .int .i64 af, .int .i64 az, .int .i64 ao] 25)).alloc (.cells #[.int .i64 yg, .int .i64 16, .int .i64 bl, .int .i64 bf, .int .i64 bz, .int .i64 bo] 25)).alloc (.cells #[.slice M1 m1 c1, .slice M2 m2 c2, .int .i64 z, .slice M3 m3 c3] 61)).heap.size (((w.alloc (.cells #[.int .i64 ag, .int .i64 16, .int .i64 al, .int .i64 af, .int .i64 az, .int .i64 ao] 25)).alloc (.cells #[.int .i64 yg, .int .i64 16, .int .i64 bl, .int .i64 bf, .int .i64 bz, .int .i64 bo] 25)).alloc (.cells #[.slice M1 m1 c1, .slice M2 m2 c2, .int .i64 z, .slice M3 m3 c3] 61)) W → Calls Try.prog 24 #[.int .i64 16] W fun e w' => ∃ g, e = .returned (.tuple #[.pointer (some ⟨g, 0, none⟩), .int .i64 0]) ∧ Hid (AtV (((w.alloc (.cells #[.int .i64 ag, .int .i64 16, .int .i64 al, .int .i64 af, .int .i64 az, .int .i64 ao] 25)).alloc (.cells #[.int .i64 yg, .int .i64 16, .int .i64 bl, .int .i64 bf, .int .i64 bz, .int .i64 bo] 25)).alloc (.cells #[.slice M1 m1 c1, .slice M2 m2 c2, .int .i64 z, .slice M3 m3 c3] 61)) w' g (Dk.blank 16) [])) := fun W hbw => by
    refine (blank_any 16 W (by omega) (by omega)).mono fun e w' hh => ?_
    obtain ⟨g, F, he, hG⟩ := hh
    exact ⟨g, he, AtV.gives hbw hG⟩
  have HW1 : Hid (∀ W g vs, Hid (AtV (((w.alloc (.cells #[.int .i64 ag, .int .i64 16, .int .i64 al, .int .i64 af, .int .i64 az, .int .i64 ao] 25)).alloc (.cells #[.int .i64 yg, .int .i64 16, .int .i64 bl, .int .i64 bf, .int .i64 bz, .int .i64 bo] 25)).alloc (.cells #[.slice M1 m1 c1, .slice M2 m2 c2, .int .i64 z, .slice M3 m3 c3] 61)) W g (Dk.blank 16) vs) → Calls Try.prog 20 #[.pointer (some ⟨g, 0, none⟩), .agg #[.int .i64 ag, .int .i64 16, .int .i64 al, .int .i64 af, .int .i64 az, .int .i64 ao]] W fun e w' => e = .returned (.int .i64 0) ∧ Hid (AtV (((w.alloc (.cells #[.int .i64 ag, .int .i64 16, .int .i64 al, .int .i64 af, .int .i64 az, .int .i64 ao] 25)).alloc (.cells #[.int .i64 yg, .int .i64 16, .int .i64 bl, .int .i64 bf, .int .i64 bz, .int .i64 bo] 25)).alloc (.cells #[.slice M1 m1 c1, .slice M2 m2 c2, .int .i64 z, .slice M3 m3 c3] 61)) w' g ⟨dkA ⟨ag, 16, al, af, az, ao⟩ k, [], -1, false, 0, 1, 1⟩ vs)) := fun W g vs ht => by
    have h1 := aw_write e1 (by decide) ht.out
    exact h1
  have hst : Dk.stop ⟨dkA ⟨ag, 16, al, af, az, ao⟩ k, [], -1, false, 0, 1, 1⟩ z = (⟨dkA ⟨ag, 16, al, af, az, ao⟩ k, [], z, false, 0, 1, 1⟩, 0) := by unfold Dk.stop; rw [if_neg hz]
  have HSt : Hid (∀ W g vs, Hid (AtV (((w.alloc (.cells #[.int .i64 ag, .int .i64 16, .int .i64 al, .int .i64 af, .int .i64 az, .int .i64 ao] 25)).alloc (.cells #[.int .i64 yg, .int .i64 16, .int .i64 bl, .int .i64 bf, .int .i64 bz, .int .i64 bo] 25)).alloc (.cells #[.slice M1 m1 c1, .slice M2 m2 c2, .int .i64 z, .slice M3 m3 c3] 61)) W g ⟨dkA ⟨ag, 16, al, af, az, ao⟩ k, [], -1, false, 0, 1, 1⟩ vs) → Calls Try.prog 25 #[.pointer (some ⟨g, 0, none⟩), .int .i64 z] W fun e w' => e = .returned (.int .i64 0) ∧ Hid (AtV (((w.alloc (.cells #[.int .i64 ag, .int .i64 16, .int .i64 al, .int .i64 af, .int .i64 az, .int .i64 ao] 25)).alloc (.cells #[.int .i64 yg, .int .i64 16, .int .i64 bl, .int .i64 bf, .int .i64 bz, .int .i64 bo] 25)).alloc (.cells #[.slice M1 m1 c1, .slice M2 m2 c2, .int .i64 z, .slice M3 m3 c3] 61)) w' g ⟨dkA ⟨ag, 16, al, af, az, ao⟩ k, [], z, false, 0, 1, 1⟩ vs)) := fun W g vs ht => by
    have h1 := aw_stop (i := z) ⟨by omega, hz2⟩ ht.out
    rw [hst] at h1
    exact h1
  have HW2 : Hid (∀ W g vs, Hid (AtV (((w.alloc (.cells #[.int .i64 ag, .int .i64 16, .int .i64 al, .int .i64 af, .int .i64 az, .int .i64 ao] 25)).alloc (.cells #[.int .i64 yg, .int .i64 16, .int .i64 bl, .int .i64 bf, .int .i64 bz, .int .i64 bo] 25)).alloc (.cells #[.slice M1 m1 c1, .slice M2 m2 c2, .int .i64 z, .slice M3 m3 c3] 61)) W g ⟨dkA ⟨ag, 16, al, af, az, ao⟩ k, [], z, false, 0, 1, 1⟩ vs) → Calls Try.prog 20 #[.pointer (some ⟨g, 0, none⟩), .agg #[.int .i64 yg, .int .i64 16, .int .i64 bl, .int .i64 bf, .int .i64 bz, .int .i64 bo]] W fun e w' => e = .returned (.int .i64 9) ∧ Hid (AtV (((w.alloc (.cells #[.int .i64 ag, .int .i64 16, .int .i64 al, .int .i64 af, .int .i64 az, .int .i64 ao] 25)).alloc (.cells #[.int .i64 yg, .int .i64 16, .int .i64 bl, .int .i64 bf, .int .i64 bz, .int .i64 bo] 25)).alloc (.cells #[.slice M1 m1 c1, .slice M2 m2 c2, .int .i64 z, .slice M3 m3 c3] 61)) w' g D3 vs)) := fun W g vs ht => by
    have h1 := aw_write e2 (by show 0 + 1 + 1 + 0 ≤ 90000; omega) ht.out
    exact h1
  have hMB : RI (((w.alloc (.cells #[.int .i64 ag, .int .i64 16, .int .i64 al, .int .i64 af, .int .i64 az, .int .i64 ao] 25)).alloc (.cells #[.int .i64 yg, .int .i64 16, .int .i64 bl, .int .i64 bf, .int .i64 bz, .int .i64 bo] 25)).alloc (.cells #[.slice M1 m1 c1, .slice M2 m2 c2, .int .i64 z, .slice M3 m3 c3] 61)) (((w.alloc (.cells #[.int .i64 ag, .int .i64 16, .int .i64 al, .int .i64 af, .int .i64 az, .int .i64 ao] 25)).alloc (.cells #[.int .i64 yg, .int .i64 16, .int .i64 bl, .int .i64 bf, .int .i64 bz, .int .i64 bo] 25)).alloc (.cells #[.slice M1 m1 c1, .slice M2 m2 c2, .int .i64 z, .slice M3 m3 c3] 61)).heap.size M3 Z := fun h0 => by
    obtain ⟨b, off, e', hlt, hc⟩ := hM h0
    exact ⟨b, off, e', Nat.lt_of_lt_of_le hlt HB.out.size, fun j hj => (HB.out.cell (p := ⟨b, off + j, none⟩) hlt).trans (hc j hj)⟩
  have HCr : Hid (∀ W g vs, Hid (AtV (((w.alloc (.cells #[.int .i64 ag, .int .i64 16, .int .i64 al, .int .i64 af, .int .i64 az, .int .i64 ao] 25)).alloc (.cells #[.int .i64 yg, .int .i64 16, .int .i64 bl, .int .i64 bf, .int .i64 bz, .int .i64 bo] 25)).alloc (.cells #[.slice M1 m1 c1, .slice M2 m2 c2, .int .i64 z, .slice M3 m3 c3] 61)) W g D3 vs) → Calls Try.prog 26 #[.pointer (some ⟨g, 0, none⟩), .slice M3 m3 c3] W fun e w' => e = .returned (.tuple #[]) ∧ Hid (AtV (((w.alloc (.cells #[.int .i64 ag, .int .i64 16, .int .i64 al, .int .i64 af, .int .i64 az, .int .i64 ao] 25)).alloc (.cells #[.int .i64 yg, .int .i64 16, .int .i64 bl, .int .i64 bf, .int .i64 bz, .int .i64 bo] 25)).alloc (.cells #[.slice M1 m1 c1, .slice M2 m2 c2, .int .i64 z, .slice M3 m3 c3] 61)) w' g (D3.crash Z) vs)) := fun W g vs ht => aw_crash hm hMB ht.out
  have hl4 : (D3.crash Z).load ≤ 90000 := by
    have h1 : (D3.crash Z).load = D3.reads + D3.writes + D3.flushes + 0 := rfl
    have h2 : D3.load = D3.reads + D3.writes + D3.flushes + D3.waits.length := rfl
    omega
  have HRd : Hid (∀ W g vs, Hid (AtV (((w.alloc (.cells #[.int .i64 ag, .int .i64 16, .int .i64 al, .int .i64 af, .int .i64 az, .int .i64 ao] 25)).alloc (.cells #[.int .i64 yg, .int .i64 16, .int .i64 bl, .int .i64 bf, .int .i64 bz, .int .i64 bo] 25)).alloc (.cells #[.slice M1 m1 c1, .slice M2 m2 c2, .int .i64 z, .slice M3 m3 c3] 61)) W g (D3.crash Z) vs) → Calls Try.prog 18 #[.pointer (some ⟨g, 0, none⟩)] W fun e w' => e = .returned (.tuple #[.agg #[.int .i64 ag, .int .i64 16, .int .i64 al, .int .i64 af, .int .i64 az, .int .i64 ao], .int .i64 0]) ∧ Hid (AtV (((w.alloc (.cells #[.int .i64 ag, .int .i64 16, .int .i64 al, .int .i64 af, .int .i64 az, .int .i64 ao] 25)).alloc (.cells #[.int .i64 yg, .int .i64 16, .int .i64 bl, .int .i64 bf, .int .i64 bz, .int .i64 bo] 25)).alloc (.cells #[.slice M1 m1 c1, .slice M2 m2 c2, .int .i64 z, .slice M3 m3 c3] 61)) w' g D5 vs)) := fun W g vs ht => by
    have h1 := aw_read e3 hl4 ht.out
    exact h1
  have q25 := fun a b c d e f w' => Try.supEq a b c d e f w'
  have q26 := fun b c d e f b' c' d' e' f' w' => Try.supGenNe yg b c d e f ag b' c' d' e' f' w' hne
  clear h hy ha hb hz hz2 hne hm hM e1 e2 e3 hl hst hMB hl4
  go_enter Try.func6, Try.ntmps6
  go_wp2_with (first
    | (go_at_call 23; (with_reducible refine (HKa.out _).mono ?_); rintro e w1 ⟨rfl, hb1⟩; obtain ⟨p0, p1, p2, p3, p4, p5⟩ := HCb.out _ hb1; obtain ⟨q0, q1, q2, q3⟩ := HCc.out _ hb1)
    | (go_at_call 23; (with_reducible refine (HKb.out _).mono ?_); rintro e w2 ⟨rfl, hb2⟩; have b2 := hb1.trans (hb2.mono hb1.size); obtain ⟨r0, r1, r2, r3⟩ := HCc.out _ b2)
    | (go_at_call 24; (with_reducible refine (HBl.out _ b2).mono ?_); rintro e w3 ⟨g, rfl, t3⟩; obtain ⟨x0, x1, x2, x3, x4, x5⟩ := HCa.out _ t3.out.below)
    | (go_at_call 20; (with_reducible refine (HW1.out _ _ _ t3).mono ?_); rintro e w4 ⟨rfl, t4⟩; obtain ⟨s0, s1, s2, s3⟩ := HCc.out _ t4.out.below)
    | (go_at_call 25; (with_reducible refine (HSt.out _ _ _ t4).mono ?_); rintro e w5 ⟨rfl, t5⟩; obtain ⟨u0, u1, u2, u3, u4, u5⟩ := HCb.out _ t5.out.below)
    | (go_at_call 20; (with_reducible refine (HW2.out _ _ _ t5).mono ?_); rintro e w6 ⟨rfl, t6⟩; obtain ⟨v0, v1, v2, v3⟩ := HCc.out _ t6.out.below)
    | (go_at_call 26; (with_reducible refine (HCr.out _ _ _ t6).mono ?_); rintro e w7 ⟨rfl, t7⟩)
    | (go_at_call 18; (with_reducible refine (HRd.out _ _ _ t7).mono ?_); rintro e w8 ⟨rfl, t8⟩; have t8a : Hid (AtV (((w.alloc (.cells #[.int .i64 ag, .int .i64 16, .int .i64 al, .int .i64 af, .int .i64 az, .int .i64 ao] 25)).alloc (.cells #[.int .i64 yg, .int .i64 16, .int .i64 bl, .int .i64 bf, .int .i64 bz, .int .i64 bo] 25)).alloc (.cells #[.slice M1 m1 c1, .slice M2 m2 c2, .int .i64 z, .slice M3 m3 c3] 61)) (w8.alloc (.cells #[.int .i64 ag, .int .i64 16, .int .i64 al, .int .i64 af, .int .i64 az, .int .i64 ao] 25)) g D5 [(w8.heap.size, ⟨ag, 16, al, af, az, ao⟩)]) := t8.out.put2 ⟨ag, 16, al, af, az, ao⟩ rfl; obtain ⟨y0, y1, y2, y3, y4, y5⟩ := HCa.out _ t8a.out.below; obtain ⟨j0, j1, j2, j3, j4, j5⟩ := HCb.out _ t8a.out.below)
    | (go_at_call 11; (with_reducible refine (HAw.out _).mono ?_); rintro e w9 ⟨rfl, hb9⟩))
  go_ret
  exact ⟨rfl, chain7 (HB.out.trans (t8a.out.below.mono HB.out.size)) hb9⟩
theorem whole_any (ag ab al af az ao bg bb bl bf bz bo z : Int) (M1 M2 M3 : Option Addr) (m1 c1 m2 c2 m3 c3 : Nat) (w : World) (Z : List Int) (hz2 : -9223372036854775808 ≤ z ∧ z ≤ 9223372036854775807) (hm : m3 = Z.length) (hM : RI w w.heap.size M3 Z) :
    Calls Try.prog 6 #[.agg #[.int .i64 ag, .int .i64 ab, .int .i64 al, .int .i64 af, .int .i64 az, .int .i64 ao], .agg #[.int .i64 bg, .int .i64 bb, .int .i64 bl, .int .i64 bf, .int .i64 bz, .int .i64 bo], .agg #[.slice M1 m1 c1, .slice M2 m2 c2, .int .i64 z, .slice M3 m3 c3]] w fun e w' => e = .returned (.bool true) ∧ Below w.heap.size w w' := by
  by_cases h : 2147483647 ≤ ag
  · exact whole_great ag ab al af az ao bg bb bl bf bz bo z M1 M2 M3 m1 c1 m2 c2 m3 c3 w h
  obtain ⟨yg, hy⟩ : ∃ y, IntKind.i64.wrap (ag + 1) = y := ⟨_, rfl⟩
  cases ha : Pu.may ⟨ag, 16, al, af, az, ao⟩ with
  | false => exact whole_a ag ab al af az ao bg bb bl bf bz bo z M1 M2 M3 m1 c1 m2 c2 m3 c3 w yg h hy ha
  | true =>
  cases hb : Pu.may ⟨yg, 16, bl, bf, bz, bo⟩ with
  | false => exact whole_b ag ab al af az ao bg bb bl bf bz bo z M1 M2 M3 m1 c1 m2 c2 m3 c3 w yg h hy ha hb
  | true =>
  by_cases hz : z < 0
  · exact whole_n ag ab al af az ao bg bb bl bf bz bo z M1 M2 M3 m1 c1 m2 c2 m3 c3 w yg h hy ha hb hz
  have hag : 1 ≤ ag := ((Pu.may_iff _).1 ha).1
  have hyg : yg = ag + 1 := by rw [← hy]; exact IntWalk.i64_in _ (by omega)
  obtain ⟨k, hk⟩ : ∃ k : Nat, ag % 2 = (k : Int) := ⟨(ag % 2).toNat, by omega⟩
  have e1 := write_first ⟨ag, 16, al, af, az, ao⟩ ha rfl k (by omega) hk
  obtain ⟨D3, zz, e2, D5, s, e3, hs⟩ := super_whole ⟨ag, 16, al, af, az, ao⟩ ⟨yg, 16, bl, bf, bz, bo⟩ ha hb rfl rfl hyg k (by omega) hk z (by omega) Z
  have hl : D3.load ≤ 1000 := by
    have h1 := writeU_load8 ⟨dkA ⟨ag, 16, al, af, az, ao⟩ k, [], z, false, 0, 1, 1⟩ ⟨yg, 16, bl, bf, bz, bo⟩
    rw [e2] at h1
    have h2 : Dk.load ⟨dkA ⟨ag, 16, al, af, az, ao⟩ k, [], z, false, 0, 1, 1⟩ = 2 := rfl
    have h1 : D3.load ≤ _ := h1
    omega
  rcases hs with ⟨rfl, rfl⟩ | ⟨rfl, rfl | rfl⟩
  · exact whole_bb ag ab al af az ao bg bb bl bf bz bo z M1 M2 M3 m1 c1 m2 c2 m3 c3 w yg Z D3 D5 k h hy ha hb hz hz2.2 (by omega) hm hM e1 e2 e3 hl
  · exact whole_9a ag ab al af az ao bg bb bl bf bz bo z M1 M2 M3 m1 c1 m2 c2 m3 c3 w yg Z D3 D5 k h hy ha hb hz hz2.2 (by omega) hm hM e1 e2 e3 hl
  · exact whole_9b ag ab al af az ao bg bb bl bf bz bo z M1 M2 M3 m1 c1 m2 c2 m3 c3 w yg Z D3 D5 k h hy ha hb hz hz2.2 (by omega) hm hM e1 e2 e3 hl
set_option maxRecDepth 100000 in
theorem whole_lifted (os : Os) (started : os.Started) (H : Type) (enc : TypeId × Value → H) :
    ReturnsInHanded {} Try.checked os 6 .any (Rows.superWholeSpec.pre6 enc Try.prog Try.f6 Rows.superWholeRow.domain false) (Rows.superWholeSpec.post enc Try.prog Try.f6 false true false false) := by
  refine returnsInHanded_of_change_sized (C := Try.checked) Try.own started (by kernel_rfl) Try.func6
    (ChangeSpec.witness6 (enc := enc) (C := Try.checked) false ⟨#[], #[.agg #[.int .i64 0, .int .i64 0, .int .i64 0, .int .i64 0, .int .i64 0, .int .i64 0], .agg #[.int .i64 0, .int .i64 0, .int .i64 0, .int .i64 0, .int .i64 0, .int .i64 0], .agg #[.slice none 0 0, .slice none 0 0, .int .i64 0, .slice none 0 0]], []⟩ 8 (by kernel_rfl) (by kernel_rfl) (by kernel_rfl) (by kernel_rfl)) ?_
  intro W base args ds gs before hval0 hW hcnd hsz0 _
  have hval : ∀ (j : Nat) t v, Try.f6.params[j]? = some t → args[j]? = some v → Value.okWide Try.prog W .any base t v := hval0
  have hW' : DataW.Whole enc Try.prog Try.f6.params.toList Rows.superWholeSpec.vars false W args.toList ds gs before := hW
  have hWk := hW'
  clear hsz0 hval0
  obtain ⟨p, q, hA, hV, rfl, hfz, hnd⟩ := hW'
  rw [Try.params6] at hA hval
  obtain ⟨v0, v1, v2, d0, d1, d2, p0, p1, p2, rfl, rfl, rfl, h0, h1, h2⟩ := trodAll_three hA
  obtain ⟨rfl, rfl⟩ := trodVars_none hV
  obtain ⟨⟨ag, ab, al, af, az, ao⟩, rfl⟩ := open_sup (hval 0 25 v0 rfl rfl) h0
  obtain ⟨⟨bg, bb, bl, bf, bz, bo⟩, rfl⟩ := open_sup (hval 1 25 v1 rfl rfl) h1
  obtain ⟨A1, A2, A3, D1, D2, Z, z, c1, c2, c3, rfl, hD1, hD2, hM, hz2⟩ := open_calm (hval 2 61 v2 rfl rfl) h2
  refine (whole_any ag ab al af az ao bg bb bl bf bz bo z A1 A2 A3 _ c1 _ c2 _ c3 W Z hz2 rfl hM).mono fun e W' ⟨he, hb⟩ => ⟨_, he, ?_⟩
  exact law_post Try.laidOut hWk rfl rfl rfl rfl rfl Try.underlying4 (by kernel_rfl) hb
theorem whole_holds : Rows.SuperWholeSaid :=
  OpenClaim.holds_of_wide 6 Try.f6 rfl rfl rfl rfl rfl rfl rfl ⟨rfl, rfl, rfl, rfl, rfl⟩ rfl rfl rfl rfl rfl (by kernel_rfl) Try.func6 (by kernel_rfl)
    (of_decide_eq_true (by kernel_rfl)) (by unfold Func.isWrapper; first | (rw [if_pos (by decide +kernel)]; kernel_rfl) | (rw [if_neg (by decide +kernel)]; exact ⟨rfl, rfl⟩))
    (fun os started H enc _ => whole_lifted os started H enc)
end Go.Proofs.Ytkockhggnbfahaa
