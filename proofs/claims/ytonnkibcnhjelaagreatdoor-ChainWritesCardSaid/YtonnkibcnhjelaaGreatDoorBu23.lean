/- Lemmas under the proofs of this place: CellPTaken. No statement is proved here. -/
import Derived.Test.YtonnkibcnhjelaaGreatDoorBu16
import Derived.Test.YtonnkibcnhjelaaGreatDoorBu13
import Derived.Test.YtonnkibcnhjelaaGreatDoorBu14
import Derived.Test.YtonnkibcnhjelaaGreatDoorBu18
import Derived.Test.YtonnkibcnhjelaaGreatDoorBu07
set_option linter.unusedVariables false
set_option linter.unusedSimpArgs false
namespace Go.Proofs.YtonnkibcnhjelaaGreatDoor
open Go.RowKit
theorem no8_cell (a b c : Int) (A : Option Addr) (n k : Nat) : No8 #[.int .i64 a, .int .i64 b, .int .i64 c, .slice A n k] := by
  intro j z
  match j with
  | 0 => simp
  | 1 => simp
  | 2 => simp
  | 3 => simp
  | j + 4 => simp
set_option maxRecDepth 100000 in
set_option maxHeartbeats 2000000 in
theorem cfield_any (g : Nat) (n : Int) (st : St) (w : World) (h : Cur w g st) :
    Calls Tryz.prog 123 #[.pointer (some ⟨g, 0, none⟩), .int .i64 n] w fun e w' => e = .returned (.int .i64 (fieldZ (stepTake n st).2)) ∧ Cur w' g (stepTake n st).1 ∧ Only w w' g := by
  have ht := take_any g n st w h
  have hle : (stepTake n st).2.length ≤ 1048576 := by
    rcases st with _ | L
    · simp [stepTake]
    · obtain ⟨_, _, _, _, _, hl⟩ := h
      simp only [stepTake]
      split
      · simp
      · simp only [List.length_take]; omega
  obtain ⟨r, hr⟩ : ∃ r, r = stepTake n st := ⟨_, rfl⟩
  rw [← hr] at ht hle ⊢
  clear hr h
  obtain ⟨st', L⟩ := r
  simp only at hle ⊢
  obtain ⟨q, hq⟩ : ∃ q, q = L.length := ⟨_, rfl⟩
  obtain ⟨u1, hu1⟩ : ∃ q, q = (unfixR L).1 := ⟨_, rfl⟩
  obtain ⟨u2, hu2⟩ : ∃ q, q = (unfixR L).2 := ⟨_, rfl⟩
  have HT : Hid (Calls Tryz.prog 124 #[.pointer (some ⟨g, 0, none⟩), .int .i64 n] w fun e w' => ∃ A c, e = .returned (.slice A q c) ∧ Hid (RB w' w'.heap.size A L ∧ Cur w' g st' ∧ Only w w' g)) := by
    refine ht.mono fun e w' hh => ?_
    obtain ⟨A, c, he, h2, h3, h4⟩ := hh
    rw [← hq] at he
    exact ⟨A, c, he, h2, h3, h4⟩
  have HU : Hid (∀ W (A : Option Addr) (c : Nat), RB W W.heap.size A L → Calls Tryz.prog 129 #[.slice A q c] W fun e w' => e = .returned (.tuple #[.int .i64 (u1 : Int), .int .i64 (u2 : Int)]) ∧ W = w') := fun W A c h => by
    rw [hq, hu1, hu2]
    exact unfix_any L A c _ W h hle
  have HV : Hid (fieldZ L = if u2 = 0 then (u1 : Int) else -1) := by show _ = _; unfold fieldZ; rw [hu1, hu2]
  clear ht hq hu1 hu2 hle
  by_cases h2 : u2 = 0
  · rw [if_pos h2] at HV
    rw [HV.out]
    subst h2
    go_enter Tryz.func123, Tryz.ntmps123
    go_wp2_with (first
      | (go_at_call 124; (with_reducible refine HT.out.mono ?_); rintro e w1 ⟨A, c, rfl, hh⟩; have hrb := hh.out.1)
      | (go_at_call 129; (with_reducible refine (HU.out _ _ _ hrb).mono ?_); rintro e w2 ⟨rfl, rfl⟩))
    go_ret
    exact ⟨rfl, hh.out.2.1, hh.out.2.2⟩
  · rw [if_neg h2] at HV
    rw [HV.out]
    have e0 : ((u2 : Int) != 0) = true := by simp; omega
    have e1 : ((u2 : Int) == 0) = false := by simp; omega
    go_enter Tryz.func123, Tryz.ntmps123
    go_wp2_with (first
      | (go_at_call 124; (with_reducible refine HT.out.mono ?_); rintro e w1 ⟨A, c, rfl, hh⟩; have hrb := hh.out.1)
      | (go_at_call 129; (with_reducible refine (HU.out _ _ _ hrb).mono ?_); rintro e w2 ⟨rfl, rfl⟩))
    go_ret
    exact ⟨rfl, hh.out.2.1, hh.out.2.2⟩
theorem only_four {a w : World} {g gs : Nat} (h : Only a w g) (hg : a.heap.size ≤ gs) (v0 v1 v2 v3 : Value) : Only a ((((w.setCell ⟨gs, 0, none⟩ v0).setCell ⟨gs, 1, none⟩ v1).setCell ⟨gs, 2, none⟩ v2).setCell ⟨gs, 3, none⟩ v3) g :=
  only_new (only_new (only_new (only_new h hg _) hg _) hg _) hg _
theorem rb_four {w : World} {g : Nat} {A : Option Addr} {L : List UInt8} {t : TypeId} {cs : Array Value} (h : RB w w.heap.size A L) (hg : Blk w g t cs) (hcs : No8 cs) (v0 v1 v2 v3 : Value) : RB ((((w.setCell ⟨g, 0, none⟩ v0).setCell ⟨g, 1, none⟩ v1).setCell ⟨g, 2, none⟩ v2).setCell ⟨g, 3, none⟩ v3) ((((w.setCell ⟨g, 0, none⟩ v0).setCell ⟨g, 1, none⟩ v1).setCell ⟨g, 2, none⟩ v2).setCell ⟨g, 3, none⟩ v3).heap.size A L :=
  rb_only8 h hg hcs (only_trans (only_trans (only_trans (only_set _ _ _ _) (only_set _ _ _ _)) (only_set _ _ _ _)) (only_set _ _ _ _))
def GivesTN (r : Ce × Bool) (g : Nat) (w : World) (e : Ending) (w' : World) : Prop :=
  ∃ A c, e = .returned (.tuple #[ceV r.1 A c, .bool r.2]) ∧ RB w' w'.heap.size A r.1.data ∧ Only w w' g ∧ (∀ ad, A = some ad → w.heap.size ≤ ad.block)
def GivesTC (r : Ce × Bool) (g : Nat) (w : World) (e : Ending) (w' : World) : Prop :=
  ∃ A c, e = .returned (.tuple #[ceV r.1 A c, .bool r.2]) ∧ RB w' w'.heap.size A r.1.data ∧ Only w w' g
set_option maxRecDepth 100000 in
set_option maxHeartbeats 8000000 in
theorem ctaken_long (M : List UInt8) (hM : M.length = 252) (g : Nat) (w : World) (h : Cur w g (some M)) (h48 : 242 < unfixL ((M.drop 8).take 2)) :
    Calls Tryz.prog 114 #[.pointer (some ⟨g, 0, none⟩)] w (GivesTC (.zero, false) g w) := by
  obtain ⟨ow, how⟩ : ∃ x, x = capZ (unfixL (M.take 4)) := ⟨_, rfl⟩
  obtain ⟨nu, hnu⟩ : ∃ x, x = unfixL ((M.drop 4).take 2) := ⟨_, rfl⟩
  obtain ⟨nx, hnx⟩ : ∃ x, x = unfixL ((M.drop 6).take 2) := ⟨_, rfl⟩
  obtain ⟨sz, hsz⟩ : ∃ x, x = unfixL ((M.drop 8).take 2) := ⟨_, rfl⟩
  obtain ⟨M1, hM1⟩ : ∃ x, x = M.drop 4 := ⟨_, rfl⟩
  obtain ⟨M2, hM2⟩ : ∃ x, x = M.drop 6 := ⟨_, rfl⟩
  obtain ⟨M3, hM3⟩ : ∃ x, x = M.drop 8 := ⟨_, rfl⟩
  obtain ⟨M5, hM5⟩ : ∃ x, x = M.drop 10 := ⟨_, rfl⟩
  have HF1 : Hid (∀ W, Hid (Cur W g (some M)) → Calls Tryz.prog 123 #[.pointer (some ⟨g, 0, none⟩), .int .i64 4] W fun e w' => e = .returned (.int .i64 ow) ∧ Hid (Cur w' g (some M1)) ∧ Hid (Only W w' g)) := fun W h => by
    have h1 := cfield_any g 4 (some M) W h.out
    have hl : 4 ≤ M.length := by omega
    have h2 : stepTake 4 (some M) = (some M1, M.take 4) := by rw [show (4 : Int) = ((4 : Nat) : Int) from rfl, step_ok hl, show M.drop 4 = M1 from by rw [hM1]]
    have h3 : fieldZ (M.take 4) = ow := by rw [fieldZ_cap (by simp; omega) (by simp; omega), how]
    rw [h2] at h1
    simp only [h3] at h1
    exact h1
  have HF2 : Hid (∀ W, Hid (Cur W g (some M1)) → Calls Tryz.prog 123 #[.pointer (some ⟨g, 0, none⟩), .int .i64 2] W fun e w' => e = .returned (.int .i64 (nu : Int)) ∧ Hid (Cur w' g (some M2)) ∧ Hid (Only W w' g)) := fun W h => by
    have h1 := cfield_any g 2 (some M1) W h.out
    have hl : 2 ≤ M1.length := by rw [hM1, List.length_drop]; omega
    have h2 : stepTake 2 (some M1) = (some M2, M1.take 2) := by rw [show (2 : Int) = ((2 : Nat) : Int) from rfl, step_ok hl, show M1.drop 2 = M2 from by rw [hM2, hM1, List.drop_drop]]
    have h3 : fieldZ (M1.take 2) = (nu : Int) := by rw [hM1, fieldZ_small (by simp; omega) (by simp; omega), hnu]
    rw [h2] at h1
    simp only [h3] at h1
    exact h1
  have HF3 : Hid (∀ W, Hid (Cur W g (some M2)) → Calls Tryz.prog 123 #[.pointer (some ⟨g, 0, none⟩), .int .i64 2] W fun e w' => e = .returned (.int .i64 (nx : Int)) ∧ Hid (Cur w' g (some M3)) ∧ Hid (Only W w' g)) := fun W h => by
    have h1 := cfield_any g 2 (some M2) W h.out
    have hl : 2 ≤ M2.length := by rw [hM2, List.length_drop]; omega
    have h2 : stepTake 2 (some M2) = (some M3, M2.take 2) := by rw [show (2 : Int) = ((2 : Nat) : Int) from rfl, step_ok hl, show M2.drop 2 = M3 from by rw [hM3, hM2, List.drop_drop]]
    have h3 : fieldZ (M2.take 2) = (nx : Int) := by rw [hM2, fieldZ_small (by simp; omega) (by simp; omega), hnx]
    rw [h2] at h1
    simp only [h3] at h1
    exact h1
  have HF4 : Hid (∀ W, Hid (Cur W g (some M3)) → Calls Tryz.prog 123 #[.pointer (some ⟨g, 0, none⟩), .int .i64 2] W fun e w' => e = .returned (.int .i64 (sz : Int)) ∧ Hid (Cur w' g (some M5)) ∧ Hid (Only W w' g)) := fun W h => by
    have h1 := cfield_any g 2 (some M3) W h.out
    have hl : 2 ≤ M3.length := by rw [hM3, List.length_drop]; omega
    have h2 : stepTake 2 (some M3) = (some M5, M3.take 2) := by rw [show (2 : Int) = ((2 : Nat) : Int) from rfl, step_ok hl, show M3.drop 2 = M5 from by rw [hM5, hM3, List.drop_drop]]
    have h3 : fieldZ (M3.take 2) = (sz : Int) := by rw [hM3, fieldZ_small (by simp; omega) (by simp; omega), hsz]
    rw [h2] at h1
    simp only [h3] at h1
    exact h1
  have HT6 : Hid (∀ W, Hid (Cur W g (some M5)) → Calls Tryz.prog 124 #[.pointer (some ⟨g, 0, none⟩), .int .i64 (sz : Int)] W fun e w' => ∃ A c, e = .returned (.slice A 0 c) ∧ Hid (RB w' w'.heap.size A []) ∧ Hid (Cur w' g none) ∧ Hid (Only W w' g)) := fun W h => by
    have h1 := take_any g (sz : Int) (some M5) W h.out
    rw [step_no (by rw [hM5, List.length_drop]; omega)] at h1
    exact h1
  have HT7 : Hid (∀ W, Hid (Cur W g none) → Calls Tryz.prog 124 #[.pointer (some ⟨g, 0, none⟩), .int .i64 0] W fun e w' => ∃ A c, e = .returned (.slice A 0 c) ∧ Hid (RB w' w'.heap.size A []) ∧ Hid (Cur w' g none) ∧ Hid (Only W w' g)) := fun W h => by
    have h1 := take_any g 0 none W h.out
    exact h1
  have HL : Hid (∀ W, Hid (Cur W g none) → Calls Tryz.prog 125 #[.pointer (some ⟨g, 0, none⟩)] W fun e w' => e = .returned (.int .i64 0) ∧ W = w') := fun W h => left_any g none W h.out
  have HB : Hid (∀ W, Hid (Cur W g none) → Calls Tryz.prog 126 #[.pointer (some ⟨g, 0, none⟩)] W fun e w' => e = .returned (.bool true) ∧ W = w') := fun W h => bad_any g none W h.out
  have HN : Hid (w.heap.size + 1 ≠ g ∧ w.heap.size ≠ g ∧ w.heap.size ≠ w.heap.size + 1 ∧ g ≠ w.heap.size + 1) := by
    obtain ⟨_, _, _, _, hb⟩ := cur_blk h
    have := hb.lt
    exact ⟨by omega, by omega, by omega, by omega⟩
  have p0 : Hid (Cur ((w.alloc (.cells #[.int .i64 0, .int .i64 0, .int .i64 0, .slice none 0 0] 64)).alloc (.cells #[.int .i64 0, .int .i64 0, .int .i64 0, .slice none 0 0] 64)) g (some M)) := cur_alloc (cur_alloc h _) _
  have bk0 : Hid (Blk ((w.alloc (.cells #[.int .i64 0, .int .i64 0, .int .i64 0, .slice none 0 0] 64)).alloc (.cells #[.int .i64 0, .int .i64 0, .int .i64 0, .slice none 0 0] 64)) (w.heap.size + 1) 64 #[.int .i64 0, .int .i64 0, .int .i64 0, .slice none 0 0]) := by have := Blk.new (w.alloc (.cells #[.int .i64 0, .int .i64 0, .int .i64 0, .slice none 0 0] 64)) 64 #[.int .i64 0, .int .i64 0, .int .i64 0, .slice none 0 0]; rwa [show (w.alloc (.cells #[.int .i64 0, .int .i64 0, .int .i64 0, .slice none 0 0] 64)).heap.size = w.heap.size + 1 by simp] at this
  have rk0 : Hid (Blk ((w.alloc (.cells #[.int .i64 0, .int .i64 0, .int .i64 0, .slice none 0 0] 64)).alloc (.cells #[.int .i64 0, .int .i64 0, .int .i64 0, .slice none 0 0] 64)) w.heap.size 64 #[.int .i64 0, .int .i64 0, .int .i64 0, .slice none 0 0]) := (Blk.new w _ _).alloc _
  have O0 : Hid (Only w ((w.alloc (.cells #[.int .i64 0, .int .i64 0, .int .i64 0, .slice none 0 0] 64)).alloc (.cells #[.int .i64 0, .int .i64 0, .int .i64 0, .slice none 0 0] 64)) g) := only_alloc (only_alloc (only_refl _ _) _) _
  have nb := fun w' => Tryz.cellBuild0 w'
  have a24 := fun w' => Tryz.aggCell w'
  have s24 := fun w' => Tryz.sizeCell w'
  have nf := fun w' => Tryz.notFalse w'
  have nt := fun w' => Tryz.notTrue w'
  clear how hnu hnx hsz hM1 hM2 hM3 hM5 h hM h48
  go_enter Tryz.func114, Tryz.ntmps114
  go_wp2_with (first
    | (go_at_call 123; (with_reducible refine (HF1.out _ p0).mono ?_); rintro e w1 ⟨rfl, c1, o1⟩; have bk1 := Blk.only bk0.out o1.out HN.out.1; have rk1 := Blk.only rk0.out o1.out HN.out.2.1; have on1 := only_trans O0.out o1.out; have t1 := bk1.cell 0; have s1 := bk1.frozen 0; have BK1 : Hid (Blk (w1.setCell ⟨w.heap.size + 1, 0, none⟩ (.int .i64 ow)) (w.heap.size + 1) 64 #[.int .i64 ow, .int .i64 0, .int .i64 0, .slice none 0 0]) := bk1.set_ 0 _; have RK1 : Hid (Blk (w1.setCell ⟨w.heap.size + 1, 0, none⟩ (.int .i64 ow)) w.heap.size 64 #[.int .i64 0, .int .i64 0, .int .i64 0, .slice none 0 0]) := Blk.far rk1 HN.out.2.2.1 _; have p1 : Hid (Cur (w1.setCell ⟨w.heap.size + 1, 0, none⟩ (.int .i64 ow)) g (some M1)) := cur_set8 c1.out bk1 (no8_cell _ _ _ _ _ _) HN.out.2.2.2 _; have O1 : Hid (Only w (w1.setCell ⟨w.heap.size + 1, 0, none⟩ (.int .i64 ow)) g) := only_new on1 (by omega) _)
    | (go_at_call 123; (with_reducible refine (HF2.out _ p1).mono ?_); rintro e w2 ⟨rfl, c2, o2⟩; have bk2 := Blk.only BK1.out o2.out HN.out.1; have rk2 := Blk.only RK1.out o2.out HN.out.2.1; have on2 := only_trans O1.out o2.out; have t2 := bk2.cell 1; have s2 := bk2.frozen 1; have BK2 : Hid (Blk (w2.setCell ⟨w.heap.size + 1, 1, none⟩ (.int .i64 (nu : Int))) (w.heap.size + 1) 64 #[.int .i64 ow, .int .i64 (nu : Int), .int .i64 0, .slice none 0 0]) := bk2.set_ 1 _; have RK2 : Hid (Blk (w2.setCell ⟨w.heap.size + 1, 1, none⟩ (.int .i64 (nu : Int))) w.heap.size 64 #[.int .i64 0, .int .i64 0, .int .i64 0, .slice none 0 0]) := Blk.far rk2 HN.out.2.2.1 _; have p2 : Hid (Cur (w2.setCell ⟨w.heap.size + 1, 1, none⟩ (.int .i64 (nu : Int))) g (some M2)) := cur_set8 c2.out bk2 (no8_cell _ _ _ _ _ _) HN.out.2.2.2 _; have O2 : Hid (Only w (w2.setCell ⟨w.heap.size + 1, 1, none⟩ (.int .i64 (nu : Int))) g) := only_new on2 (by omega) _)
    | (go_at_call 123; (with_reducible refine (HF3.out _ p2).mono ?_); rintro e w3 ⟨rfl, c3, o3⟩; have bk3 := Blk.only BK2.out o3.out HN.out.1; have rk3 := Blk.only RK2.out o3.out HN.out.2.1; have on3 := only_trans O2.out o3.out; have t3 := bk3.cell 2; have s3 := bk3.frozen 2; have BK3 : Hid (Blk (w3.setCell ⟨w.heap.size + 1, 2, none⟩ (.int .i64 (nx : Int))) (w.heap.size + 1) 64 #[.int .i64 ow, .int .i64 (nu : Int), .int .i64 (nx : Int), .slice none 0 0]) := bk3.set_ 2 _; have RK3 : Hid (Blk (w3.setCell ⟨w.heap.size + 1, 2, none⟩ (.int .i64 (nx : Int))) w.heap.size 64 #[.int .i64 0, .int .i64 0, .int .i64 0, .slice none 0 0]) := Blk.far rk3 HN.out.2.2.1 _; have p3 : Hid (Cur (w3.setCell ⟨w.heap.size + 1, 2, none⟩ (.int .i64 (nx : Int))) g (some M3)) := cur_set8 c3.out bk3 (no8_cell _ _ _ _ _ _) HN.out.2.2.2 _; have O3 : Hid (Only w (w3.setCell ⟨w.heap.size + 1, 2, none⟩ (.int .i64 (nx : Int))) g) := only_new on3 (by omega) _)
    | (go_at_call 123; (with_reducible refine (HF4.out _ p3).mono ?_); rintro e w4 ⟨rfl, c4, o4⟩; have bk4 := Blk.only BK3.out o4.out HN.out.1; have rk4 := Blk.only RK3.out o4.out HN.out.2.1; have on4 := only_trans O3.out o4.out; have BK4 := Lib.hid bk4; have RK4 := Lib.hid rk4; have p4 := c4; have O4 := Lib.hid on4)
    | (go_at_call 124; (with_reducible refine (HT6.out _ p4).mono ?_); rintro e w6 ⟨A6, c6, rfl, r6, c6', o6⟩; have bk6 := Blk.only BK4.out o6.out HN.out.1; have rk6 := Blk.only RK4.out o6.out HN.out.2.1; have on6 := only_trans O4.out o6.out; have t6 := bk6.cell 3; have s6 := bk6.frozen 3; have BK6 : Hid (Blk (w6.setCell ⟨w.heap.size + 1, 3, none⟩ (.slice A6 0 c6)) (w.heap.size + 1) 64 #[.int .i64 ow, .int .i64 (nu : Int), .int .i64 (nx : Int), .slice A6 0 c6]) := bk6.set_ 3 _; have RK6 : Hid (Blk (w6.setCell ⟨w.heap.size + 1, 3, none⟩ (.slice A6 0 c6)) w.heap.size 64 #[.int .i64 0, .int .i64 0, .int .i64 0, .slice none 0 0]) := Blk.far rk6 HN.out.2.2.1 _; have p6 : Hid (Cur (w6.setCell ⟨w.heap.size + 1, 3, none⟩ (.slice A6 0 c6)) g none) := cur_set8 c6'.out bk6 (no8_cell _ _ _ _ _ _) HN.out.2.2.2 _; have O6 : Hid (Only w (w6.setCell ⟨w.heap.size + 1, 3, none⟩ (.slice A6 0 c6)) g) := only_new on6 (by omega) _)
    | (go_at_call 125; (with_reducible refine (HL.out _ p6).mono ?_); rintro e w' ⟨rfl, rfl⟩)
    | (go_at_call 124; (with_reducible refine (HT7.out _ p6).mono ?_); rintro e w7 ⟨A7, c7, rfl, r7, c7', o7⟩; have bk7 := Blk.only BK6.out o7.out HN.out.1; have rk7 := Blk.only RK6.out o7.out HN.out.2.1; have on7 := only_trans O6.out o7.out; have p7 := c7'; have z0 := rk7.cell 0; have y0 := rk7.frozen 0; have z1 := rk7.cell 1; have y1 := rk7.frozen 1; have z2 := rk7.cell 2; have y2 := rk7.frozen 2; have z3 := rk7.cell 3; have y3 := rk7.frozen 3)
    | (go_at_call 126; (with_reducible refine (HB.out _ p7).mono ?_); rintro e w' ⟨rfl, rfl⟩))
  refine bodyPost_ret (v := .tuple #[.agg #[.int .i64 0, .int .i64 0, .int .i64 0, .slice none 0 0], .bool false]) (by simp [results, Tryz.results114, go_sem, z0, z1, z2, z3]) rfl ⟨none, 0, rfl, RB.none_ _ _, ?_⟩
  exact only_four on7 (Nat.le_refl _) _ _ _ _
set_option maxRecDepth 100000 in
set_option maxHeartbeats 8000000 in
theorem ctaken_no (M : List UInt8) (hM : M.length = 252) (g : Nat) (w : World) (h : Cur w g (some M)) (h48 : unfixL ((M.drop 8).take 2) ≤ 242) (hm : Ce.may ⟨capZ (unfixL (M.take 4)), (unfixL ((M.drop 4).take 2) : Int), (unfixL ((M.drop 6).take 2) : Int), (M.drop 10).take (unfixL ((M.drop 8).take 2))⟩ = false) :
    Calls Tryz.prog 114 #[.pointer (some ⟨g, 0, none⟩)] w (GivesTC (.zero, false) g w) := by
  obtain ⟨ow, how⟩ : ∃ x, x = capZ (unfixL (M.take 4)) := ⟨_, rfl⟩
  obtain ⟨nu, hnu⟩ : ∃ x, x = unfixL ((M.drop 4).take 2) := ⟨_, rfl⟩
  obtain ⟨nx, hnx⟩ : ∃ x, x = unfixL ((M.drop 6).take 2) := ⟨_, rfl⟩
  obtain ⟨sz, hsz⟩ : ∃ x, x = unfixL ((M.drop 8).take 2) := ⟨_, rfl⟩
  obtain ⟨M1, hM1⟩ : ∃ x, x = M.drop 4 := ⟨_, rfl⟩
  obtain ⟨M2, hM2⟩ : ∃ x, x = M.drop 6 := ⟨_, rfl⟩
  obtain ⟨M3, hM3⟩ : ∃ x, x = M.drop 8 := ⟨_, rfl⟩
  obtain ⟨M5, hM5⟩ : ∃ x, x = M.drop 10 := ⟨_, rfl⟩
  have HF1 : Hid (∀ W, Hid (Cur W g (some M)) → Calls Tryz.prog 123 #[.pointer (some ⟨g, 0, none⟩), .int .i64 4] W fun e w' => e = .returned (.int .i64 ow) ∧ Hid (Cur w' g (some M1)) ∧ Hid (Only W w' g)) := fun W h => by
    have h1 := cfield_any g 4 (some M) W h.out
    have hl : 4 ≤ M.length := by omega
    have h2 : stepTake 4 (some M) = (some M1, M.take 4) := by rw [show (4 : Int) = ((4 : Nat) : Int) from rfl, step_ok hl, show M.drop 4 = M1 from by rw [hM1]]
    have h3 : fieldZ (M.take 4) = ow := by rw [fieldZ_cap (by simp; omega) (by simp; omega), how]
    rw [h2] at h1
    simp only [h3] at h1
    exact h1
  have HF2 : Hid (∀ W, Hid (Cur W g (some M1)) → Calls Tryz.prog 123 #[.pointer (some ⟨g, 0, none⟩), .int .i64 2] W fun e w' => e = .returned (.int .i64 (nu : Int)) ∧ Hid (Cur w' g (some M2)) ∧ Hid (Only W w' g)) := fun W h => by
    have h1 := cfield_any g 2 (some M1) W h.out
    have hl : 2 ≤ M1.length := by rw [hM1, List.length_drop]; omega
    have h2 : stepTake 2 (some M1) = (some M2, M1.take 2) := by rw [show (2 : Int) = ((2 : Nat) : Int) from rfl, step_ok hl, show M1.drop 2 = M2 from by rw [hM2, hM1, List.drop_drop]]
    have h3 : fieldZ (M1.take 2) = (nu : Int) := by rw [hM1, fieldZ_small (by simp; omega) (by simp; omega), hnu]
    rw [h2] at h1
    simp only [h3] at h1
    exact h1
  have HF3 : Hid (∀ W, Hid (Cur W g (some M2)) → Calls Tryz.prog 123 #[.pointer (some ⟨g, 0, none⟩), .int .i64 2] W fun e w' => e = .returned (.int .i64 (nx : Int)) ∧ Hid (Cur w' g (some M3)) ∧ Hid (Only W w' g)) := fun W h => by
    have h1 := cfield_any g 2 (some M2) W h.out
    have hl : 2 ≤ M2.length := by rw [hM2, List.length_drop]; omega
    have h2 : stepTake 2 (some M2) = (some M3, M2.take 2) := by rw [show (2 : Int) = ((2 : Nat) : Int) from rfl, step_ok hl, show M2.drop 2 = M3 from by rw [hM3, hM2, List.drop_drop]]
    have h3 : fieldZ (M2.take 2) = (nx : Int) := by rw [hM2, fieldZ_small (by simp; omega) (by simp; omega), hnx]
    rw [h2] at h1
    simp only [h3] at h1
    exact h1
  have HF4 : Hid (∀ W, Hid (Cur W g (some M3)) → Calls Tryz.prog 123 #[.pointer (some ⟨g, 0, none⟩), .int .i64 2] W fun e w' => e = .returned (.int .i64 (sz : Int)) ∧ Hid (Cur w' g (some M5)) ∧ Hid (Only W w' g)) := fun W h => by
    have h1 := cfield_any g 2 (some M3) W h.out
    have hl : 2 ≤ M3.length := by rw [hM3, List.length_drop]; omega
    have h2 : stepTake 2 (some M3) = (some M5, M3.take 2) := by rw [show (2 : Int) = ((2 : Nat) : Int) from rfl, step_ok hl, show M3.drop 2 = M5 from by rw [hM5, hM3, List.drop_drop]]
    have h3 : fieldZ (M3.take 2) = (sz : Int) := by rw [hM3, fieldZ_small (by simp; omega) (by simp; omega), hsz]
    rw [h2] at h1
    simp only [h3] at h1
    exact h1
  obtain ⟨r, hr⟩ : ∃ x, x = 242 - sz := ⟨_, rfl⟩
  obtain ⟨D, hD⟩ : ∃ x, x = M5.take sz := ⟨_, rfl⟩
  obtain ⟨R, hR⟩ : ∃ x, x = M5.drop sz := ⟨_, rfl⟩
  rw [← hsz] at h48
  have hm : Ce.may ⟨ow, (nu : Int), (nx : Int), D⟩ = false := by rw [how, hnu, hnx, hD, hM5, hsz]; exact hm
  have l5 : M5.length = 242 := by rw [hM5, List.length_drop, hM]
  have lD : D.length = sz := by rw [hD, List.length_take]; omega
  have lR : R.length = r := by rw [hR, List.length_drop]; omega
  have HT6 : Hid (∀ W, Hid (Cur W g (some M5)) → Calls Tryz.prog 124 #[.pointer (some ⟨g, 0, none⟩), .int .i64 (sz : Int)] W fun e w' => ∃ A c, e = .returned (.slice A sz c) ∧ Hid (RB w' w'.heap.size A D) ∧ Hid (Cur w' g (some R)) ∧ Hid (Only W w' g)) := fun W h => by
    have h1 := take_any g (sz : Int) (some M5) W h.out
    rw [step_ok (by omega), ← hD, ← hR] at h1
    refine h1.mono fun e w' hh => ?_
    obtain ⟨A, c, he, h2, h3, h4⟩ := hh
    simp only [lD] at he
    exact ⟨A, c, he, h2, h3, h4⟩
  have HT7 : Hid (∀ W, Hid (Cur W g (some R)) → Calls Tryz.prog 124 #[.pointer (some ⟨g, 0, none⟩), .int .i64 (r : Int)] W fun e w' => ∃ A c, e = .returned (.slice A r c) ∧ Hid (RB w' w'.heap.size A R) ∧ Hid (Cur w' g (some [])) ∧ Hid (Only W w' g)) := fun W h => by
    have h1 := take_any g (r : Int) (some R) W h.out
    rw [step_ok (by omega), List.take_of_length_le (by omega), List.drop_of_length_le (by omega)] at h1
    refine h1.mono fun e w' hh => ?_
    obtain ⟨A, c, he, h2, h3, h4⟩ := hh
    simp only [lR] at he
    exact ⟨A, c, he, h2, h3, h4⟩
  have HL : Hid (∀ W, Hid (Cur W g (some R)) → Calls Tryz.prog 125 #[.pointer (some ⟨g, 0, none⟩)] W fun e w' => e = .returned (.int .i64 (r : Int)) ∧ W = w') := fun W h => by
    have h1 := left_any g (some R) W h.out
    simp only [leftN, lR] at h1
    exact h1
  have HB : Hid (∀ W, Hid (Cur W g (some [])) → Calls Tryz.prog 126 #[.pointer (some ⟨g, 0, none⟩)] W fun e w' => e = .returned (.bool false) ∧ W = w') := fun W h => bad_any g (some []) W h.out
  have HMy : Hid (∀ W (A : Option Addr) (c : Nat), Calls Tryz.prog 61 #[.agg #[.int .i64 ow, .int .i64 (nu : Int), .int .i64 (nx : Int), .slice A sz c]] W fun e w' => e = .returned (.bool false) ∧ Below W.heap.size W w') := fun W A c => by
    have h1 := cmaybe_any ⟨ow, (nu : Int), (nx : Int), D⟩ A c W
    rw [hm] at h1
    unfold ceV at h1
    simp only [lD] at h1
    exact h1
  have HN : Hid (w.heap.size + 1 ≠ g ∧ w.heap.size ≠ g ∧ w.heap.size ≠ w.heap.size + 1 ∧ g ≠ w.heap.size + 1) := by
    obtain ⟨_, _, _, _, hb⟩ := cur_blk h
    have := hb.lt
    exact ⟨by omega, by omega, by omega, by omega⟩
  have p0 : Hid (Cur ((w.alloc (.cells #[.int .i64 0, .int .i64 0, .int .i64 0, .slice none 0 0] 64)).alloc (.cells #[.int .i64 0, .int .i64 0, .int .i64 0, .slice none 0 0] 64)) g (some M)) := cur_alloc (cur_alloc h _) _
  have bk0 : Hid (Blk ((w.alloc (.cells #[.int .i64 0, .int .i64 0, .int .i64 0, .slice none 0 0] 64)).alloc (.cells #[.int .i64 0, .int .i64 0, .int .i64 0, .slice none 0 0] 64)) (w.heap.size + 1) 64 #[.int .i64 0, .int .i64 0, .int .i64 0, .slice none 0 0]) := by have := Blk.new (w.alloc (.cells #[.int .i64 0, .int .i64 0, .int .i64 0, .slice none 0 0] 64)) 64 #[.int .i64 0, .int .i64 0, .int .i64 0, .slice none 0 0]; rwa [show (w.alloc (.cells #[.int .i64 0, .int .i64 0, .int .i64 0, .slice none 0 0] 64)).heap.size = w.heap.size + 1 by simp] at this
  have rk0 : Hid (Blk ((w.alloc (.cells #[.int .i64 0, .int .i64 0, .int .i64 0, .slice none 0 0] 64)).alloc (.cells #[.int .i64 0, .int .i64 0, .int .i64 0, .slice none 0 0] 64)) w.heap.size 64 #[.int .i64 0, .int .i64 0, .int .i64 0, .slice none 0 0]) := (Blk.new w _ _).alloc _
  have O0 : Hid (Only w ((w.alloc (.cells #[.int .i64 0, .int .i64 0, .int .i64 0, .slice none 0 0] 64)).alloc (.cells #[.int .i64 0, .int .i64 0, .int .i64 0, .slice none 0 0] 64)) g) := only_alloc (only_alloc (only_refl _ _) _) _
  have nb := fun w' => Tryz.cellBuild0 w'
  have a24 := fun w' => Tryz.aggCell w'
  have s24 := fun w' => Tryz.sizeCell w'
  have nf := fun w' => Tryz.notFalse w'
  have nt := fun w' => Tryz.notTrue w'
  clear how hnu hnx hsz hM1 hM2 hM3 hM5 h hM h48 hm hr hD hR l5 lD lR
  go_enter Tryz.func114, Tryz.ntmps114
  go_wp2_with (first
    | (go_at_call 123; (with_reducible refine (HF1.out _ p0).mono ?_); rintro e w1 ⟨rfl, c1, o1⟩; have bk1 := Blk.only bk0.out o1.out HN.out.1; have rk1 := Blk.only rk0.out o1.out HN.out.2.1; have on1 := only_trans O0.out o1.out; have t1 := bk1.cell 0; have s1 := bk1.frozen 0; have BK1 : Hid (Blk (w1.setCell ⟨w.heap.size + 1, 0, none⟩ (.int .i64 ow)) (w.heap.size + 1) 64 #[.int .i64 ow, .int .i64 0, .int .i64 0, .slice none 0 0]) := bk1.set_ 0 _; have RK1 : Hid (Blk (w1.setCell ⟨w.heap.size + 1, 0, none⟩ (.int .i64 ow)) w.heap.size 64 #[.int .i64 0, .int .i64 0, .int .i64 0, .slice none 0 0]) := Blk.far rk1 HN.out.2.2.1 _; have p1 : Hid (Cur (w1.setCell ⟨w.heap.size + 1, 0, none⟩ (.int .i64 ow)) g (some M1)) := cur_set8 c1.out bk1 (no8_cell _ _ _ _ _ _) HN.out.2.2.2 _; have O1 : Hid (Only w (w1.setCell ⟨w.heap.size + 1, 0, none⟩ (.int .i64 ow)) g) := only_new on1 (by omega) _)
    | (go_at_call 123; (with_reducible refine (HF2.out _ p1).mono ?_); rintro e w2 ⟨rfl, c2, o2⟩; have bk2 := Blk.only BK1.out o2.out HN.out.1; have rk2 := Blk.only RK1.out o2.out HN.out.2.1; have on2 := only_trans O1.out o2.out; have t2 := bk2.cell 1; have s2 := bk2.frozen 1; have BK2 : Hid (Blk (w2.setCell ⟨w.heap.size + 1, 1, none⟩ (.int .i64 (nu : Int))) (w.heap.size + 1) 64 #[.int .i64 ow, .int .i64 (nu : Int), .int .i64 0, .slice none 0 0]) := bk2.set_ 1 _; have RK2 : Hid (Blk (w2.setCell ⟨w.heap.size + 1, 1, none⟩ (.int .i64 (nu : Int))) w.heap.size 64 #[.int .i64 0, .int .i64 0, .int .i64 0, .slice none 0 0]) := Blk.far rk2 HN.out.2.2.1 _; have p2 : Hid (Cur (w2.setCell ⟨w.heap.size + 1, 1, none⟩ (.int .i64 (nu : Int))) g (some M2)) := cur_set8 c2.out bk2 (no8_cell _ _ _ _ _ _) HN.out.2.2.2 _; have O2 : Hid (Only w (w2.setCell ⟨w.heap.size + 1, 1, none⟩ (.int .i64 (nu : Int))) g) := only_new on2 (by omega) _)
    | (go_at_call 123; (with_reducible refine (HF3.out _ p2).mono ?_); rintro e w3 ⟨rfl, c3, o3⟩; have bk3 := Blk.only BK2.out o3.out HN.out.1; have rk3 := Blk.only RK2.out o3.out HN.out.2.1; have on3 := only_trans O2.out o3.out; have t3 := bk3.cell 2; have s3 := bk3.frozen 2; have BK3 : Hid (Blk (w3.setCell ⟨w.heap.size + 1, 2, none⟩ (.int .i64 (nx : Int))) (w.heap.size + 1) 64 #[.int .i64 ow, .int .i64 (nu : Int), .int .i64 (nx : Int), .slice none 0 0]) := bk3.set_ 2 _; have RK3 : Hid (Blk (w3.setCell ⟨w.heap.size + 1, 2, none⟩ (.int .i64 (nx : Int))) w.heap.size 64 #[.int .i64 0, .int .i64 0, .int .i64 0, .slice none 0 0]) := Blk.far rk3 HN.out.2.2.1 _; have p3 : Hid (Cur (w3.setCell ⟨w.heap.size + 1, 2, none⟩ (.int .i64 (nx : Int))) g (some M3)) := cur_set8 c3.out bk3 (no8_cell _ _ _ _ _ _) HN.out.2.2.2 _; have O3 : Hid (Only w (w3.setCell ⟨w.heap.size + 1, 2, none⟩ (.int .i64 (nx : Int))) g) := only_new on3 (by omega) _)
    | (go_at_call 123; (with_reducible refine (HF4.out _ p3).mono ?_); rintro e w4 ⟨rfl, c4, o4⟩; have bk4 := Blk.only BK3.out o4.out HN.out.1; have rk4 := Blk.only RK3.out o4.out HN.out.2.1; have on4 := only_trans O3.out o4.out; have BK4 := Lib.hid bk4; have RK4 := Lib.hid rk4; have p4 := c4; have O4 := Lib.hid on4)
    | (go_at_call 124; (with_reducible refine (HT6.out _ p4).mono ?_); rintro e w6 ⟨A6, c6, rfl, r6, c6', o6⟩; have bk6 := Blk.only BK4.out o6.out HN.out.1; have rk6 := Blk.only RK4.out o6.out HN.out.2.1; have on6 := only_trans O4.out o6.out; have t6 := bk6.cell 3; have s6 := bk6.frozen 3; have BK6 : Hid (Blk (w6.setCell ⟨w.heap.size + 1, 3, none⟩ (.slice A6 sz c6)) (w.heap.size + 1) 64 #[.int .i64 ow, .int .i64 (nu : Int), .int .i64 (nx : Int), .slice A6 sz c6]) := bk6.set_ 3 _; have RK6 : Hid (Blk (w6.setCell ⟨w.heap.size + 1, 3, none⟩ (.slice A6 sz c6)) w.heap.size 64 #[.int .i64 0, .int .i64 0, .int .i64 0, .slice none 0 0]) := Blk.far rk6 HN.out.2.2.1 _; have p6 : Hid (Cur (w6.setCell ⟨w.heap.size + 1, 3, none⟩ (.slice A6 sz c6)) g (some R)) := cur_set8 c6'.out bk6 (no8_cell _ _ _ _ _ _) HN.out.2.2.2 _; have O6 : Hid (Only w (w6.setCell ⟨w.heap.size + 1, 3, none⟩ (.slice A6 sz c6)) g) := only_new on6 (by omega) _)
    | (go_at_call 125; (with_reducible refine (HL.out _ p6).mono ?_); rintro e w' ⟨rfl, rfl⟩)
    | (go_at_call 124; (with_reducible refine (HT7.out _ p6).mono ?_); rintro e w7 ⟨A7, c7, rfl, r7, c7', o7⟩; have bk7 := Blk.only BK6.out o7.out HN.out.1; have rk7 := Blk.only RK6.out o7.out HN.out.2.1; have on7 := only_trans O6.out o7.out; have p7 := c7'; have v0 := bk7.cell 0; have v1 := bk7.cell 1; have v2 := bk7.cell 2; have v3 := bk7.cell 3)
    | (go_at_call 126; (with_reducible refine (HB.out _ p7).mono ?_); rintro e w' ⟨rfl, rfl⟩)
    | (go_at_call 61; (with_reducible refine (HMy.out _ _ _).mono ?_); rintro e w8 ⟨rfl, hb8⟩; have bk8 := bk7.below hb8 bk7.lt; have rk8 := rk7.below hb8 rk7.lt; have on8 := only_more on7 hb8; have z0 := rk8.cell 0; have y0 := rk8.frozen 0; have z1 := rk8.cell 1; have y1 := rk8.frozen 1; have z2 := rk8.cell 2; have y2 := rk8.frozen 2; have z3 := rk8.cell 3; have y3 := rk8.frozen 3))
  refine bodyPost_ret (v := .tuple #[.agg #[.int .i64 0, .int .i64 0, .int .i64 0, .slice none 0 0], .bool false]) (by simp [results, Tryz.results114, go_sem, z0, z1, z2, z3]) rfl ⟨none, 0, rfl, RB.none_ _ _, ?_⟩
  exact only_four on8 (Nat.le_refl _) _ _ _ _
set_option maxRecDepth 100000 in
set_option maxHeartbeats 8000000 in
theorem ctaken_odd (M : List UInt8) (hM : M.length = 252) (g : Nat) (w : World) (h : Cur w g (some M)) (h48 : unfixL ((M.drop 8).take 2) ≤ 242) (hm : Ce.may ⟨capZ (unfixL (M.take 4)), (unfixL ((M.drop 4).take 2) : Int), (unfixL ((M.drop 6).take 2) : Int), (M.drop 10).take (unfixL ((M.drop 8).take 2))⟩ = true) (hz : ¬ (M.drop 10).drop (unfixL ((M.drop 8).take 2)) = List.replicate (242 - unfixL ((M.drop 8).take 2)) 0) :
    Calls Tryz.prog 114 #[.pointer (some ⟨g, 0, none⟩)] w (GivesTC (.zero, false) g w) := by
  obtain ⟨i0, hi0, hz0, hz1, hz2⟩ := info_parts Tryz.info5
  obtain ⟨ow, how⟩ : ∃ x, x = capZ (unfixL (M.take 4)) := ⟨_, rfl⟩
  obtain ⟨nu, hnu⟩ : ∃ x, x = unfixL ((M.drop 4).take 2) := ⟨_, rfl⟩
  obtain ⟨nx, hnx⟩ : ∃ x, x = unfixL ((M.drop 6).take 2) := ⟨_, rfl⟩
  obtain ⟨sz, hsz⟩ : ∃ x, x = unfixL ((M.drop 8).take 2) := ⟨_, rfl⟩
  obtain ⟨M1, hM1⟩ : ∃ x, x = M.drop 4 := ⟨_, rfl⟩
  obtain ⟨M2, hM2⟩ : ∃ x, x = M.drop 6 := ⟨_, rfl⟩
  obtain ⟨M3, hM3⟩ : ∃ x, x = M.drop 8 := ⟨_, rfl⟩
  obtain ⟨M5, hM5⟩ : ∃ x, x = M.drop 10 := ⟨_, rfl⟩
  have HF1 : Hid (∀ W, Hid (Cur W g (some M)) → Calls Tryz.prog 123 #[.pointer (some ⟨g, 0, none⟩), .int .i64 4] W fun e w' => e = .returned (.int .i64 ow) ∧ Hid (Cur w' g (some M1)) ∧ Hid (Only W w' g)) := fun W h => by
    have h1 := cfield_any g 4 (some M) W h.out
    have hl : 4 ≤ M.length := by omega
    have h2 : stepTake 4 (some M) = (some M1, M.take 4) := by rw [show (4 : Int) = ((4 : Nat) : Int) from rfl, step_ok hl, show M.drop 4 = M1 from by rw [hM1]]
    have h3 : fieldZ (M.take 4) = ow := by rw [fieldZ_cap (by simp; omega) (by simp; omega), how]
    rw [h2] at h1
    simp only [h3] at h1
    exact h1
  have HF2 : Hid (∀ W, Hid (Cur W g (some M1)) → Calls Tryz.prog 123 #[.pointer (some ⟨g, 0, none⟩), .int .i64 2] W fun e w' => e = .returned (.int .i64 (nu : Int)) ∧ Hid (Cur w' g (some M2)) ∧ Hid (Only W w' g)) := fun W h => by
    have h1 := cfield_any g 2 (some M1) W h.out
    have hl : 2 ≤ M1.length := by rw [hM1, List.length_drop]; omega
    have h2 : stepTake 2 (some M1) = (some M2, M1.take 2) := by rw [show (2 : Int) = ((2 : Nat) : Int) from rfl, step_ok hl, show M1.drop 2 = M2 from by rw [hM2, hM1, List.drop_drop]]
    have h3 : fieldZ (M1.take 2) = (nu : Int) := by rw [hM1, fieldZ_small (by simp; omega) (by simp; omega), hnu]
    rw [h2] at h1
    simp only [h3] at h1
    exact h1
  have HF3 : Hid (∀ W, Hid (Cur W g (some M2)) → Calls Tryz.prog 123 #[.pointer (some ⟨g, 0, none⟩), .int .i64 2] W fun e w' => e = .returned (.int .i64 (nx : Int)) ∧ Hid (Cur w' g (some M3)) ∧ Hid (Only W w' g)) := fun W h => by
    have h1 := cfield_any g 2 (some M2) W h.out
    have hl : 2 ≤ M2.length := by rw [hM2, List.length_drop]; omega
    have h2 : stepTake 2 (some M2) = (some M3, M2.take 2) := by rw [show (2 : Int) = ((2 : Nat) : Int) from rfl, step_ok hl, show M2.drop 2 = M3 from by rw [hM3, hM2, List.drop_drop]]
    have h3 : fieldZ (M2.take 2) = (nx : Int) := by rw [hM2, fieldZ_small (by simp; omega) (by simp; omega), hnx]
    rw [h2] at h1
    simp only [h3] at h1
    exact h1
  have HF4 : Hid (∀ W, Hid (Cur W g (some M3)) → Calls Tryz.prog 123 #[.pointer (some ⟨g, 0, none⟩), .int .i64 2] W fun e w' => e = .returned (.int .i64 (sz : Int)) ∧ Hid (Cur w' g (some M5)) ∧ Hid (Only W w' g)) := fun W h => by
    have h1 := cfield_any g 2 (some M3) W h.out
    have hl : 2 ≤ M3.length := by rw [hM3, List.length_drop]; omega
    have h2 : stepTake 2 (some M3) = (some M5, M3.take 2) := by rw [show (2 : Int) = ((2 : Nat) : Int) from rfl, step_ok hl, show M3.drop 2 = M5 from by rw [hM5, hM3, List.drop_drop]]
    have h3 : fieldZ (M3.take 2) = (sz : Int) := by rw [hM3, fieldZ_small (by simp; omega) (by simp; omega), hsz]
    rw [h2] at h1
    simp only [h3] at h1
    exact h1
  obtain ⟨r, hr⟩ : ∃ x, x = 242 - sz := ⟨_, rfl⟩
  obtain ⟨D, hD⟩ : ∃ x, x = M5.take sz := ⟨_, rfl⟩
  obtain ⟨R, hR⟩ : ∃ x, x = M5.drop sz := ⟨_, rfl⟩
  rw [← hsz] at h48
  have hm : Ce.may ⟨ow, (nu : Int), (nx : Int), D⟩ = true := by rw [how, hnu, hnx, hD, hM5, hsz]; exact hm
  have hze : decide (R = List.replicate r 0) = false := by rw [hR, hr, hM5, hsz]; exact decide_eq_false hz
  have l5 : M5.length = 242 := by rw [hM5, List.length_drop, hM]
  have lD : D.length = sz := by rw [hD, List.length_take]; omega
  have lR : R.length = r := by rw [hR, List.length_drop]; omega
  have HT6 : Hid (∀ W, Hid (Cur W g (some M5)) → Calls Tryz.prog 124 #[.pointer (some ⟨g, 0, none⟩), .int .i64 (sz : Int)] W fun e w' => ∃ A c, e = .returned (.slice A sz c) ∧ Hid (RB w' w'.heap.size A D) ∧ Hid (Cur w' g (some R)) ∧ Hid (Only W w' g)) := fun W h => by
    have h1 := take_any g (sz : Int) (some M5) W h.out
    rw [step_ok (by omega), ← hD, ← hR] at h1
    refine h1.mono fun e w' hh => ?_
    obtain ⟨A, c, he, h2, h3, h4⟩ := hh
    simp only [lD] at he
    exact ⟨A, c, he, h2, h3, h4⟩
  have HT7 : Hid (∀ W, Hid (Cur W g (some R)) → Calls Tryz.prog 124 #[.pointer (some ⟨g, 0, none⟩), .int .i64 (r : Int)] W fun e w' => ∃ A c, e = .returned (.slice A r c) ∧ Hid (RB w' w'.heap.size A R) ∧ Hid (Cur w' g (some [])) ∧ Hid (Only W w' g)) := fun W h => by
    have h1 := take_any g (r : Int) (some R) W h.out
    rw [step_ok (by omega), List.take_of_length_le (by omega), List.drop_of_length_le (by omega)] at h1
    refine h1.mono fun e w' hh => ?_
    obtain ⟨A, c, he, h2, h3, h4⟩ := hh
    simp only [lR] at he
    exact ⟨A, c, he, h2, h3, h4⟩
  have HL : Hid (∀ W, Hid (Cur W g (some R)) → Calls Tryz.prog 125 #[.pointer (some ⟨g, 0, none⟩)] W fun e w' => e = .returned (.int .i64 (r : Int)) ∧ W = w') := fun W h => by
    have h1 := left_any g (some R) W h.out
    simp only [leftN, lR] at h1
    exact h1
  have HB : Hid (∀ W, Hid (Cur W g (some [])) → Calls Tryz.prog 126 #[.pointer (some ⟨g, 0, none⟩)] W fun e w' => e = .returned (.bool false) ∧ W = w') := fun W h => bad_any g (some []) W h.out
  have HMy : Hid (∀ W (A : Option Addr) (c : Nat), Calls Tryz.prog 61 #[.agg #[.int .i64 ow, .int .i64 (nu : Int), .int .i64 (nx : Int), .slice A sz c]] W fun e w' => e = .returned (.bool true) ∧ Below W.heap.size W w') := fun W A c => by
    have h1 := cmaybe_any ⟨ow, (nu : Int), (nx : Int), D⟩ A c W
    rw [hm] at h1
    unfold ceV at h1
    simp only [lD] at h1
    exact h1
  have HEq : Hid (∀ W (A A' : Option Addr) (c c' : Nat), RB W W.heap.size A R → RB W W.heap.size A' (List.replicate r 0) → Calls Tryz.prog 122 #[.slice A r c, .slice A' r c'] W fun e w' => e = .returned (.bool false) ∧ W = w') := fun W A A' c c' h1 h2 => by
    have h3 := equal_any R (List.replicate r 0) A A' c c' _ _ W h1 h2
    rw [List.length_replicate, lR, hze] at h3
    exact h3
  have HN : Hid (w.heap.size + 1 ≠ g ∧ w.heap.size ≠ g ∧ w.heap.size ≠ w.heap.size + 1 ∧ g ≠ w.heap.size + 1) := by
    obtain ⟨_, _, _, _, hb⟩ := cur_blk h
    have := hb.lt
    exact ⟨by omega, by omega, by omega, by omega⟩
  have p0 : Hid (Cur ((w.alloc (.cells #[.int .i64 0, .int .i64 0, .int .i64 0, .slice none 0 0] 64)).alloc (.cells #[.int .i64 0, .int .i64 0, .int .i64 0, .slice none 0 0] 64)) g (some M)) := cur_alloc (cur_alloc h _) _
  have bk0 : Hid (Blk ((w.alloc (.cells #[.int .i64 0, .int .i64 0, .int .i64 0, .slice none 0 0] 64)).alloc (.cells #[.int .i64 0, .int .i64 0, .int .i64 0, .slice none 0 0] 64)) (w.heap.size + 1) 64 #[.int .i64 0, .int .i64 0, .int .i64 0, .slice none 0 0]) := by have := Blk.new (w.alloc (.cells #[.int .i64 0, .int .i64 0, .int .i64 0, .slice none 0 0] 64)) 64 #[.int .i64 0, .int .i64 0, .int .i64 0, .slice none 0 0]; rwa [show (w.alloc (.cells #[.int .i64 0, .int .i64 0, .int .i64 0, .slice none 0 0] 64)).heap.size = w.heap.size + 1 by simp] at this
  have rk0 : Hid (Blk ((w.alloc (.cells #[.int .i64 0, .int .i64 0, .int .i64 0, .slice none 0 0] 64)).alloc (.cells #[.int .i64 0, .int .i64 0, .int .i64 0, .slice none 0 0] 64)) w.heap.size 64 #[.int .i64 0, .int .i64 0, .int .i64 0, .slice none 0 0]) := (Blk.new w _ _).alloc _
  have O0 : Hid (Only w ((w.alloc (.cells #[.int .i64 0, .int .i64 0, .int .i64 0, .slice none 0 0] 64)).alloc (.cells #[.int .i64 0, .int .i64 0, .int .i64 0, .slice none 0 0] 64)) g) := only_alloc (only_alloc (only_refl _ _) _) _
  have nb := fun w' => Tryz.cellBuild0 w'
  have a24 := fun w' => Tryz.aggCell w'
  have s24 := fun w' => Tryz.sizeCell w'
  have nf := fun w' => Tryz.notFalse w'
  have nt := fun w' => Tryz.notTrue w'
  have HR48 : Hid (r ≤ 242) := by show r ≤ 242; omega
  clear how hnu hnx hsz hM1 hM2 hM3 hM5 h hM h48 hm hr hD hR l5 lD lR hz hze
  go_enter Tryz.func114, Tryz.ntmps114
  go_wp2_with (first
    | (go_at_call 123; (with_reducible refine (HF1.out _ p0).mono ?_); rintro e w1 ⟨rfl, c1, o1⟩; have bk1 := Blk.only bk0.out o1.out HN.out.1; have rk1 := Blk.only rk0.out o1.out HN.out.2.1; have on1 := only_trans O0.out o1.out; have t1 := bk1.cell 0; have s1 := bk1.frozen 0; have BK1 : Hid (Blk (w1.setCell ⟨w.heap.size + 1, 0, none⟩ (.int .i64 ow)) (w.heap.size + 1) 64 #[.int .i64 ow, .int .i64 0, .int .i64 0, .slice none 0 0]) := bk1.set_ 0 _; have RK1 : Hid (Blk (w1.setCell ⟨w.heap.size + 1, 0, none⟩ (.int .i64 ow)) w.heap.size 64 #[.int .i64 0, .int .i64 0, .int .i64 0, .slice none 0 0]) := Blk.far rk1 HN.out.2.2.1 _; have p1 : Hid (Cur (w1.setCell ⟨w.heap.size + 1, 0, none⟩ (.int .i64 ow)) g (some M1)) := cur_set8 c1.out bk1 (no8_cell _ _ _ _ _ _) HN.out.2.2.2 _; have O1 : Hid (Only w (w1.setCell ⟨w.heap.size + 1, 0, none⟩ (.int .i64 ow)) g) := only_new on1 (by omega) _)
    | (go_at_call 123; (with_reducible refine (HF2.out _ p1).mono ?_); rintro e w2 ⟨rfl, c2, o2⟩; have bk2 := Blk.only BK1.out o2.out HN.out.1; have rk2 := Blk.only RK1.out o2.out HN.out.2.1; have on2 := only_trans O1.out o2.out; have t2 := bk2.cell 1; have s2 := bk2.frozen 1; have BK2 : Hid (Blk (w2.setCell ⟨w.heap.size + 1, 1, none⟩ (.int .i64 (nu : Int))) (w.heap.size + 1) 64 #[.int .i64 ow, .int .i64 (nu : Int), .int .i64 0, .slice none 0 0]) := bk2.set_ 1 _; have RK2 : Hid (Blk (w2.setCell ⟨w.heap.size + 1, 1, none⟩ (.int .i64 (nu : Int))) w.heap.size 64 #[.int .i64 0, .int .i64 0, .int .i64 0, .slice none 0 0]) := Blk.far rk2 HN.out.2.2.1 _; have p2 : Hid (Cur (w2.setCell ⟨w.heap.size + 1, 1, none⟩ (.int .i64 (nu : Int))) g (some M2)) := cur_set8 c2.out bk2 (no8_cell _ _ _ _ _ _) HN.out.2.2.2 _; have O2 : Hid (Only w (w2.setCell ⟨w.heap.size + 1, 1, none⟩ (.int .i64 (nu : Int))) g) := only_new on2 (by omega) _)
    | (go_at_call 123; (with_reducible refine (HF3.out _ p2).mono ?_); rintro e w3 ⟨rfl, c3, o3⟩; have bk3 := Blk.only BK2.out o3.out HN.out.1; have rk3 := Blk.only RK2.out o3.out HN.out.2.1; have on3 := only_trans O2.out o3.out; have t3 := bk3.cell 2; have s3 := bk3.frozen 2; have BK3 : Hid (Blk (w3.setCell ⟨w.heap.size + 1, 2, none⟩ (.int .i64 (nx : Int))) (w.heap.size + 1) 64 #[.int .i64 ow, .int .i64 (nu : Int), .int .i64 (nx : Int), .slice none 0 0]) := bk3.set_ 2 _; have RK3 : Hid (Blk (w3.setCell ⟨w.heap.size + 1, 2, none⟩ (.int .i64 (nx : Int))) w.heap.size 64 #[.int .i64 0, .int .i64 0, .int .i64 0, .slice none 0 0]) := Blk.far rk3 HN.out.2.2.1 _; have p3 : Hid (Cur (w3.setCell ⟨w.heap.size + 1, 2, none⟩ (.int .i64 (nx : Int))) g (some M3)) := cur_set8 c3.out bk3 (no8_cell _ _ _ _ _ _) HN.out.2.2.2 _; have O3 : Hid (Only w (w3.setCell ⟨w.heap.size + 1, 2, none⟩ (.int .i64 (nx : Int))) g) := only_new on3 (by omega) _)
    | (go_at_call 123; (with_reducible refine (HF4.out _ p3).mono ?_); rintro e w4 ⟨rfl, c4, o4⟩; have bk4 := Blk.only BK3.out o4.out HN.out.1; have rk4 := Blk.only RK3.out o4.out HN.out.2.1; have on4 := only_trans O3.out o4.out; have BK4 := Lib.hid bk4; have RK4 := Lib.hid rk4; have p4 := c4; have O4 := Lib.hid on4)
    | (go_at_call 124; (with_reducible refine (HT6.out _ p4).mono ?_); rintro e w6 ⟨A6, c6, rfl, r6, c6', o6⟩; have bk6 := Blk.only BK4.out o6.out HN.out.1; have rk6 := Blk.only RK4.out o6.out HN.out.2.1; have on6 := only_trans O4.out o6.out; have t6 := bk6.cell 3; have s6 := bk6.frozen 3; have BK6 : Hid (Blk (w6.setCell ⟨w.heap.size + 1, 3, none⟩ (.slice A6 sz c6)) (w.heap.size + 1) 64 #[.int .i64 ow, .int .i64 (nu : Int), .int .i64 (nx : Int), .slice A6 sz c6]) := bk6.set_ 3 _; have RK6 : Hid (Blk (w6.setCell ⟨w.heap.size + 1, 3, none⟩ (.slice A6 sz c6)) w.heap.size 64 #[.int .i64 0, .int .i64 0, .int .i64 0, .slice none 0 0]) := Blk.far rk6 HN.out.2.2.1 _; have p6 : Hid (Cur (w6.setCell ⟨w.heap.size + 1, 3, none⟩ (.slice A6 sz c6)) g (some R)) := cur_set8 c6'.out bk6 (no8_cell _ _ _ _ _ _) HN.out.2.2.2 _; have O6 : Hid (Only w (w6.setCell ⟨w.heap.size + 1, 3, none⟩ (.slice A6 sz c6)) g) := only_new on6 (by omega) _; have R6 := Lib.hid (rb_set8 (i := 3) r6.out bk6 (no8_cell _ _ _ _ _ _) (.slice A6 sz c6)))
    | (go_at_call 125; (with_reducible refine (HL.out _ p6).mono ?_); rintro e w' ⟨rfl, rfl⟩)
    | (go_at_call 124; (with_reducible refine (HT7.out _ p6).mono ?_); rintro e w7 ⟨A7, c7, rfl, r7, c7', o7⟩; have bk7 := Blk.only BK6.out o7.out HN.out.1; have rk7 := Blk.only RK6.out o7.out HN.out.2.1; have on7 := only_trans O6.out o7.out; have p7 := c7'; have v0 := bk7.cell 0; have v1 := bk7.cell 1; have v2 := bk7.cell 2; have v3 := bk7.cell 3; obtain ⟨_, _, _, _, gk7⟩ := cur_blk p6.out; have R7 := Lib.hid (rb_only8 R6.out gk7 (no8_cur _ _ _ _) o7.out))
    | (go_at_call 126; (with_reducible refine (HB.out _ p7).mono ?_); rintro e w' ⟨rfl, rfl⟩)
    | (go_at_call 61; (with_reducible refine (HMy.out _ _ _).mono ?_); rintro e w8 ⟨rfl, hb8⟩; have bk8 := bk7.below hb8 bk7.lt; have rk8 := rk7.below hb8 rk7.lt; have on8 := only_more on7 hb8)
    | (at_make; refine wpList_make_yes _ rfl (.tmp 34) (.tmp 34) 39 rfl w8.heap.size 5 i0 _ 1 Tryz.underlying39 hi0 hz0 hz1 .i64 .i64 _ _ r rfl rfl rfl rfl (by rw [hz2]; have := HR48.out; omega) (by have := HR48.out; unfold maxLen; omega) (Nat.le_refl _) ?_; intro w9 hown9 hg9; have hb9 := (Below.refl w8.heap.size w8).grown hg9 (Nat.le_refl _) (by simp); have ra9 := ((r7.out.below hb8).more hb8.size).below hb9 |>.more hb9.size; have rb9 := made_rb7 hown9; have bk9 := bk8.below hb9 bk8.lt; have rk9 := rk8.below hb9 rk8.lt; have on9 := only_more on8 hb9; clear hown9 hg9)
    | (go_at_call 122; (with_reducible refine (HEq.out _ _ _ _ _ ra9 rb9).mono ?_); rintro e w' ⟨rfl, rfl⟩; have z0 := rk9.cell 0; have y0 := rk9.frozen 0; have z1 := rk9.cell 1; have y1 := rk9.frozen 1; have z2 := rk9.cell 2; have y2 := rk9.frozen 2; have z3 := rk9.cell 3; have y3 := rk9.frozen 3; have x0 := bk9.cell 0; have x1 := bk9.cell 1; have x2 := bk9.cell 2; have x3 := bk9.cell 3))
  refine bodyPost_ret (v := .tuple #[.agg #[.int .i64 0, .int .i64 0, .int .i64 0, .slice none 0 0], .bool false]) (by simp [results, Tryz.results114, go_sem, z0, z1, z2, z3]) rfl ⟨none, 0, rfl, RB.none_ _ _, ?_⟩
  exact only_four on9 (Nat.le_refl _) _ _ _ _
set_option maxRecDepth 100000 in
set_option maxHeartbeats 8000000 in
theorem ctaken_ok (M : List UInt8) (hM : M.length = 252) (g : Nat) (w : World) (h : Cur w g (some M)) (h48 : unfixL ((M.drop 8).take 2) ≤ 242) (hm : Ce.may ⟨capZ (unfixL (M.take 4)), (unfixL ((M.drop 4).take 2) : Int), (unfixL ((M.drop 6).take 2) : Int), (M.drop 10).take (unfixL ((M.drop 8).take 2))⟩ = true) (hz : (M.drop 10).drop (unfixL ((M.drop 8).take 2)) = List.replicate (242 - unfixL ((M.drop 8).take 2)) 0) :
    Calls Tryz.prog 114 #[.pointer (some ⟨g, 0, none⟩)] w (GivesTN (⟨capZ (unfixL (M.take 4)), (unfixL ((M.drop 4).take 2) : Int), (unfixL ((M.drop 6).take 2) : Int), (M.drop 10).take (unfixL ((M.drop 8).take 2))⟩, true) g w) := by
  obtain ⟨i0, hi0, hz0, hz1, hz2⟩ := info_parts Tryz.info5
  obtain ⟨ow, how⟩ : ∃ x, x = capZ (unfixL (M.take 4)) := ⟨_, rfl⟩
  obtain ⟨nu, hnu⟩ : ∃ x, x = unfixL ((M.drop 4).take 2) := ⟨_, rfl⟩
  obtain ⟨nx, hnx⟩ : ∃ x, x = unfixL ((M.drop 6).take 2) := ⟨_, rfl⟩
  obtain ⟨sz, hsz⟩ : ∃ x, x = unfixL ((M.drop 8).take 2) := ⟨_, rfl⟩
  obtain ⟨M1, hM1⟩ : ∃ x, x = M.drop 4 := ⟨_, rfl⟩
  obtain ⟨M2, hM2⟩ : ∃ x, x = M.drop 6 := ⟨_, rfl⟩
  obtain ⟨M3, hM3⟩ : ∃ x, x = M.drop 8 := ⟨_, rfl⟩
  obtain ⟨M5, hM5⟩ : ∃ x, x = M.drop 10 := ⟨_, rfl⟩
  have HF1 : Hid (∀ W, Hid (Cur W g (some M)) → Calls Tryz.prog 123 #[.pointer (some ⟨g, 0, none⟩), .int .i64 4] W fun e w' => e = .returned (.int .i64 ow) ∧ Hid (Cur w' g (some M1)) ∧ Hid (Only W w' g)) := fun W h => by
    have h1 := cfield_any g 4 (some M) W h.out
    have hl : 4 ≤ M.length := by omega
    have h2 : stepTake 4 (some M) = (some M1, M.take 4) := by rw [show (4 : Int) = ((4 : Nat) : Int) from rfl, step_ok hl, show M.drop 4 = M1 from by rw [hM1]]
    have h3 : fieldZ (M.take 4) = ow := by rw [fieldZ_cap (by simp; omega) (by simp; omega), how]
    rw [h2] at h1
    simp only [h3] at h1
    exact h1
  have HF2 : Hid (∀ W, Hid (Cur W g (some M1)) → Calls Tryz.prog 123 #[.pointer (some ⟨g, 0, none⟩), .int .i64 2] W fun e w' => e = .returned (.int .i64 (nu : Int)) ∧ Hid (Cur w' g (some M2)) ∧ Hid (Only W w' g)) := fun W h => by
    have h1 := cfield_any g 2 (some M1) W h.out
    have hl : 2 ≤ M1.length := by rw [hM1, List.length_drop]; omega
    have h2 : stepTake 2 (some M1) = (some M2, M1.take 2) := by rw [show (2 : Int) = ((2 : Nat) : Int) from rfl, step_ok hl, show M1.drop 2 = M2 from by rw [hM2, hM1, List.drop_drop]]
    have h3 : fieldZ (M1.take 2) = (nu : Int) := by rw [hM1, fieldZ_small (by simp; omega) (by simp; omega), hnu]
    rw [h2] at h1
    simp only [h3] at h1
    exact h1
  have HF3 : Hid (∀ W, Hid (Cur W g (some M2)) → Calls Tryz.prog 123 #[.pointer (some ⟨g, 0, none⟩), .int .i64 2] W fun e w' => e = .returned (.int .i64 (nx : Int)) ∧ Hid (Cur w' g (some M3)) ∧ Hid (Only W w' g)) := fun W h => by
    have h1 := cfield_any g 2 (some M2) W h.out
    have hl : 2 ≤ M2.length := by rw [hM2, List.length_drop]; omega
    have h2 : stepTake 2 (some M2) = (some M3, M2.take 2) := by rw [show (2 : Int) = ((2 : Nat) : Int) from rfl, step_ok hl, show M2.drop 2 = M3 from by rw [hM3, hM2, List.drop_drop]]
    have h3 : fieldZ (M2.take 2) = (nx : Int) := by rw [hM2, fieldZ_small (by simp; omega) (by simp; omega), hnx]
    rw [h2] at h1
    simp only [h3] at h1
    exact h1
  have HF4 : Hid (∀ W, Hid (Cur W g (some M3)) → Calls Tryz.prog 123 #[.pointer (some ⟨g, 0, none⟩), .int .i64 2] W fun e w' => e = .returned (.int .i64 (sz : Int)) ∧ Hid (Cur w' g (some M5)) ∧ Hid (Only W w' g)) := fun W h => by
    have h1 := cfield_any g 2 (some M3) W h.out
    have hl : 2 ≤ M3.length := by rw [hM3, List.length_drop]; omega
    have h2 : stepTake 2 (some M3) = (some M5, M3.take 2) := by rw [show (2 : Int) = ((2 : Nat) : Int) from rfl, step_ok hl, show M3.drop 2 = M5 from by rw [hM5, hM3, List.drop_drop]]
    have h3 : fieldZ (M3.take 2) = (sz : Int) := by rw [hM3, fieldZ_small (by simp; omega) (by simp; omega), hsz]
    rw [h2] at h1
    simp only [h3] at h1
    exact h1
  obtain ⟨r, hr⟩ : ∃ x, x = 242 - sz := ⟨_, rfl⟩
  obtain ⟨D, hD⟩ : ∃ x, x = M5.take sz := ⟨_, rfl⟩
  obtain ⟨R, hR⟩ : ∃ x, x = M5.drop sz := ⟨_, rfl⟩
  rw [← hsz] at h48
  have hm : Ce.may ⟨ow, (nu : Int), (nx : Int), D⟩ = true := by rw [how, hnu, hnx, hD, hM5, hsz]; exact hm
  have hze : decide (R = List.replicate r 0) = true := by rw [hR, hr, hM5, hsz]; exact decide_eq_true hz
  have l5 : M5.length = 242 := by rw [hM5, List.length_drop, hM]
  have lD : D.length = sz := by rw [hD, List.length_take]; omega
  have lR : R.length = r := by rw [hR, List.length_drop]; omega
  have HT6 : Hid (∀ W, Hid (Cur W g (some M5)) → Calls Tryz.prog 124 #[.pointer (some ⟨g, 0, none⟩), .int .i64 (sz : Int)] W fun e w' => ∃ A c, e = .returned (.slice A sz c) ∧ Hid (RB w' w'.heap.size A D) ∧ Hid (Cur w' g (some R)) ∧ Hid (Only W w' g) ∧ Hid (∀ ad, A = some ad → W.heap.size ≤ ad.block)) := fun W h => by
    have h1 := take_at W.heap.size g (sz : Int) (some M5) W h.out.at_ (Nat.le_refl _)
    rw [step_ok (by omega), ← hD, ← hR] at h1
    refine h1.mono fun e w' hh => ?_
    obtain ⟨A, c, he, h2, h5, h3, h4⟩ := hh
    simp only [lD] at he
    exact ⟨A, c, he, h2, h3.cur h4.size, h4, h5⟩
  have HT7 : Hid (∀ W, Hid (Cur W g (some R)) → Calls Tryz.prog 124 #[.pointer (some ⟨g, 0, none⟩), .int .i64 (r : Int)] W fun e w' => ∃ A c, e = .returned (.slice A r c) ∧ Hid (RB w' w'.heap.size A R) ∧ Hid (Cur w' g (some [])) ∧ Hid (Only W w' g)) := fun W h => by
    have h1 := take_any g (r : Int) (some R) W h.out
    rw [step_ok (by omega), List.take_of_length_le (by omega), List.drop_of_length_le (by omega)] at h1
    refine h1.mono fun e w' hh => ?_
    obtain ⟨A, c, he, h2, h3, h4⟩ := hh
    simp only [lR] at he
    exact ⟨A, c, he, h2, h3, h4⟩
  have HL : Hid (∀ W, Hid (Cur W g (some R)) → Calls Tryz.prog 125 #[.pointer (some ⟨g, 0, none⟩)] W fun e w' => e = .returned (.int .i64 (r : Int)) ∧ W = w') := fun W h => by
    have h1 := left_any g (some R) W h.out
    simp only [leftN, lR] at h1
    exact h1
  have HB : Hid (∀ W, Hid (Cur W g (some [])) → Calls Tryz.prog 126 #[.pointer (some ⟨g, 0, none⟩)] W fun e w' => e = .returned (.bool false) ∧ W = w') := fun W h => bad_any g (some []) W h.out
  have HV : Hid ((⟨capZ (unfixL (M.take 4)), (unfixL ((M.drop 4).take 2) : Int), (unfixL ((M.drop 6).take 2) : Int), (M.drop 10).take (unfixL ((M.drop 8).take 2))⟩ : Ce) = ⟨ow, (nu : Int), (nx : Int), D⟩ ∧ D.length = sz) := ⟨by rw [how, hnu, hnx, hD, hM5, hsz], lD⟩
  have HMy : Hid (∀ W (A : Option Addr) (c : Nat), Calls Tryz.prog 61 #[.agg #[.int .i64 ow, .int .i64 (nu : Int), .int .i64 (nx : Int), .slice A sz c]] W fun e w' => e = .returned (.bool true) ∧ Below W.heap.size W w') := fun W A c => by
    have h1 := cmaybe_any ⟨ow, (nu : Int), (nx : Int), D⟩ A c W
    rw [hm] at h1
    unfold ceV at h1
    simp only [lD] at h1
    exact h1
  have HEq : Hid (∀ W (A A' : Option Addr) (c c' : Nat), RB W W.heap.size A R → RB W W.heap.size A' (List.replicate r 0) → Calls Tryz.prog 122 #[.slice A r c, .slice A' r c'] W fun e w' => e = .returned (.bool true) ∧ W = w') := fun W A A' c c' h1 h2 => by
    have h3 := equal_any R (List.replicate r 0) A A' c c' _ _ W h1 h2
    rw [List.length_replicate, lR, hze] at h3
    exact h3
  have HN : Hid (w.heap.size + 1 ≠ g ∧ w.heap.size ≠ g ∧ w.heap.size ≠ w.heap.size + 1 ∧ g ≠ w.heap.size + 1) := by
    obtain ⟨_, _, _, _, hb⟩ := cur_blk h
    have := hb.lt
    exact ⟨by omega, by omega, by omega, by omega⟩
  have p0 : Hid (Cur ((w.alloc (.cells #[.int .i64 0, .int .i64 0, .int .i64 0, .slice none 0 0] 64)).alloc (.cells #[.int .i64 0, .int .i64 0, .int .i64 0, .slice none 0 0] 64)) g (some M)) := cur_alloc (cur_alloc h _) _
  have bk0 : Hid (Blk ((w.alloc (.cells #[.int .i64 0, .int .i64 0, .int .i64 0, .slice none 0 0] 64)).alloc (.cells #[.int .i64 0, .int .i64 0, .int .i64 0, .slice none 0 0] 64)) (w.heap.size + 1) 64 #[.int .i64 0, .int .i64 0, .int .i64 0, .slice none 0 0]) := by have := Blk.new (w.alloc (.cells #[.int .i64 0, .int .i64 0, .int .i64 0, .slice none 0 0] 64)) 64 #[.int .i64 0, .int .i64 0, .int .i64 0, .slice none 0 0]; rwa [show (w.alloc (.cells #[.int .i64 0, .int .i64 0, .int .i64 0, .slice none 0 0] 64)).heap.size = w.heap.size + 1 by simp] at this
  have rk0 : Hid (Blk ((w.alloc (.cells #[.int .i64 0, .int .i64 0, .int .i64 0, .slice none 0 0] 64)).alloc (.cells #[.int .i64 0, .int .i64 0, .int .i64 0, .slice none 0 0] 64)) w.heap.size 64 #[.int .i64 0, .int .i64 0, .int .i64 0, .slice none 0 0]) := (Blk.new w _ _).alloc _
  have O0 : Hid (Only w ((w.alloc (.cells #[.int .i64 0, .int .i64 0, .int .i64 0, .slice none 0 0] 64)).alloc (.cells #[.int .i64 0, .int .i64 0, .int .i64 0, .slice none 0 0] 64)) g) := only_alloc (only_alloc (only_refl _ _) _) _
  have nb := fun w' => Tryz.cellBuild0 w'
  have a24 := fun w' => Tryz.aggCell w'
  have s24 := fun w' => Tryz.sizeCell w'
  have nf := fun w' => Tryz.notFalse w'
  have nt := fun w' => Tryz.notTrue w'
  have HR48 : Hid (r ≤ 242) := by show r ≤ 242; omega
  clear how hnu hnx hsz hM1 hM2 hM3 hM5 h hM h48 hm hr hD hR l5 lD lR hz hze
  go_enter Tryz.func114, Tryz.ntmps114
  go_wp2_with (first
    | (go_at_call 123; (with_reducible refine (HF1.out _ p0).mono ?_); rintro e w1 ⟨rfl, c1, o1⟩; have bk1 := Blk.only bk0.out o1.out HN.out.1; have rk1 := Blk.only rk0.out o1.out HN.out.2.1; have on1 := only_trans O0.out o1.out; have t1 := bk1.cell 0; have s1 := bk1.frozen 0; have BK1 : Hid (Blk (w1.setCell ⟨w.heap.size + 1, 0, none⟩ (.int .i64 ow)) (w.heap.size + 1) 64 #[.int .i64 ow, .int .i64 0, .int .i64 0, .slice none 0 0]) := bk1.set_ 0 _; have RK1 : Hid (Blk (w1.setCell ⟨w.heap.size + 1, 0, none⟩ (.int .i64 ow)) w.heap.size 64 #[.int .i64 0, .int .i64 0, .int .i64 0, .slice none 0 0]) := Blk.far rk1 HN.out.2.2.1 _; have p1 : Hid (Cur (w1.setCell ⟨w.heap.size + 1, 0, none⟩ (.int .i64 ow)) g (some M1)) := cur_set8 c1.out bk1 (no8_cell _ _ _ _ _ _) HN.out.2.2.2 _; have O1 : Hid (Only w (w1.setCell ⟨w.heap.size + 1, 0, none⟩ (.int .i64 ow)) g) := only_new on1 (by omega) _)
    | (go_at_call 123; (with_reducible refine (HF2.out _ p1).mono ?_); rintro e w2 ⟨rfl, c2, o2⟩; have bk2 := Blk.only BK1.out o2.out HN.out.1; have rk2 := Blk.only RK1.out o2.out HN.out.2.1; have on2 := only_trans O1.out o2.out; have t2 := bk2.cell 1; have s2 := bk2.frozen 1; have BK2 : Hid (Blk (w2.setCell ⟨w.heap.size + 1, 1, none⟩ (.int .i64 (nu : Int))) (w.heap.size + 1) 64 #[.int .i64 ow, .int .i64 (nu : Int), .int .i64 0, .slice none 0 0]) := bk2.set_ 1 _; have RK2 : Hid (Blk (w2.setCell ⟨w.heap.size + 1, 1, none⟩ (.int .i64 (nu : Int))) w.heap.size 64 #[.int .i64 0, .int .i64 0, .int .i64 0, .slice none 0 0]) := Blk.far rk2 HN.out.2.2.1 _; have p2 : Hid (Cur (w2.setCell ⟨w.heap.size + 1, 1, none⟩ (.int .i64 (nu : Int))) g (some M2)) := cur_set8 c2.out bk2 (no8_cell _ _ _ _ _ _) HN.out.2.2.2 _; have O2 : Hid (Only w (w2.setCell ⟨w.heap.size + 1, 1, none⟩ (.int .i64 (nu : Int))) g) := only_new on2 (by omega) _)
    | (go_at_call 123; (with_reducible refine (HF3.out _ p2).mono ?_); rintro e w3 ⟨rfl, c3, o3⟩; have bk3 := Blk.only BK2.out o3.out HN.out.1; have rk3 := Blk.only RK2.out o3.out HN.out.2.1; have on3 := only_trans O2.out o3.out; have t3 := bk3.cell 2; have s3 := bk3.frozen 2; have BK3 : Hid (Blk (w3.setCell ⟨w.heap.size + 1, 2, none⟩ (.int .i64 (nx : Int))) (w.heap.size + 1) 64 #[.int .i64 ow, .int .i64 (nu : Int), .int .i64 (nx : Int), .slice none 0 0]) := bk3.set_ 2 _; have RK3 : Hid (Blk (w3.setCell ⟨w.heap.size + 1, 2, none⟩ (.int .i64 (nx : Int))) w.heap.size 64 #[.int .i64 0, .int .i64 0, .int .i64 0, .slice none 0 0]) := Blk.far rk3 HN.out.2.2.1 _; have p3 : Hid (Cur (w3.setCell ⟨w.heap.size + 1, 2, none⟩ (.int .i64 (nx : Int))) g (some M3)) := cur_set8 c3.out bk3 (no8_cell _ _ _ _ _ _) HN.out.2.2.2 _; have O3 : Hid (Only w (w3.setCell ⟨w.heap.size + 1, 2, none⟩ (.int .i64 (nx : Int))) g) := only_new on3 (by omega) _)
    | (go_at_call 123; (with_reducible refine (HF4.out _ p3).mono ?_); rintro e w4 ⟨rfl, c4, o4⟩; have bk4 := Blk.only BK3.out o4.out HN.out.1; have rk4 := Blk.only RK3.out o4.out HN.out.2.1; have on4 := only_trans O3.out o4.out; have BK4 := Lib.hid bk4; have RK4 := Lib.hid rk4; have p4 := c4; have O4 := Lib.hid on4)
    | (go_at_call 124; (with_reducible refine (HT6.out _ p4).mono ?_); rintro e w6 ⟨A6, c6, rfl, r6, c6', o6, n6⟩; have bk6 := Blk.only BK4.out o6.out HN.out.1; have rk6 := Blk.only RK4.out o6.out HN.out.2.1; have on6 := only_trans O4.out o6.out; have t6 := bk6.cell 3; have s6 := bk6.frozen 3; have BK6 : Hid (Blk (w6.setCell ⟨w.heap.size + 1, 3, none⟩ (.slice A6 sz c6)) (w.heap.size + 1) 64 #[.int .i64 ow, .int .i64 (nu : Int), .int .i64 (nx : Int), .slice A6 sz c6]) := bk6.set_ 3 _; have RK6 : Hid (Blk (w6.setCell ⟨w.heap.size + 1, 3, none⟩ (.slice A6 sz c6)) w.heap.size 64 #[.int .i64 0, .int .i64 0, .int .i64 0, .slice none 0 0]) := Blk.far rk6 HN.out.2.2.1 _; have p6 : Hid (Cur (w6.setCell ⟨w.heap.size + 1, 3, none⟩ (.slice A6 sz c6)) g (some R)) := cur_set8 c6'.out bk6 (no8_cell _ _ _ _ _ _) HN.out.2.2.2 _; have O6 : Hid (Only w (w6.setCell ⟨w.heap.size + 1, 3, none⟩ (.slice A6 sz c6)) g) := only_new on6 (by omega) _; have R6 := Lib.hid (rb_set8 (i := 3) r6.out bk6 (no8_cell _ _ _ _ _ _) (.slice A6 sz c6)))
    | (go_at_call 125; (with_reducible refine (HL.out _ p6).mono ?_); rintro e w' ⟨rfl, rfl⟩)
    | (go_at_call 124; (with_reducible refine (HT7.out _ p6).mono ?_); rintro e w7 ⟨A7, c7, rfl, r7, c7', o7⟩; have bk7 := Blk.only BK6.out o7.out HN.out.1; have rk7 := Blk.only RK6.out o7.out HN.out.2.1; have on7 := only_trans O6.out o7.out; have p7 := c7'; have v0 := bk7.cell 0; have v1 := bk7.cell 1; have v2 := bk7.cell 2; have v3 := bk7.cell 3; obtain ⟨_, _, _, _, gk7⟩ := cur_blk p6.out; have R7 := Lib.hid (rb_only8 R6.out gk7 (no8_cur _ _ _ _) o7.out))
    | (go_at_call 126; (with_reducible refine (HB.out _ p7).mono ?_); rintro e w' ⟨rfl, rfl⟩)
    | (go_at_call 61; (with_reducible refine (HMy.out _ _ _).mono ?_); rintro e w8 ⟨rfl, hb8⟩; have bk8 := bk7.below hb8 bk7.lt; have rk8 := rk7.below hb8 rk7.lt; have on8 := only_more on7 hb8)
    | (at_make; refine wpList_make_yes _ rfl (.tmp 34) (.tmp 34) 39 rfl w8.heap.size 5 i0 _ 1 Tryz.underlying39 hi0 hz0 hz1 .i64 .i64 _ _ r rfl rfl rfl rfl (by rw [hz2]; have := HR48.out; omega) (by have := HR48.out; unfold maxLen; omega) (Nat.le_refl _) ?_; intro w9 hown9 hg9; have hb9 := (Below.refl w8.heap.size w8).grown hg9 (Nat.le_refl _) (by simp); have ra9 := ((r7.out.below hb8).more hb8.size).below hb9 |>.more hb9.size; have rb9 := made_rb7 hown9; have bk9 := bk8.below hb9 bk8.lt; have rk9 := rk8.below hb9 rk8.lt; have on9 := only_more on8 hb9; clear hown9 hg9)
    | (go_at_call 122; (with_reducible refine (HEq.out _ _ _ _ _ ra9 rb9).mono ?_); rintro e w' ⟨rfl, rfl⟩; have z0 := rk9.cell 0; have y0 := rk9.frozen 0; have z1 := rk9.cell 1; have y1 := rk9.frozen 1; have z2 := rk9.cell 2; have y2 := rk9.frozen 2; have z3 := rk9.cell 3; have y3 := rk9.frozen 3; have x0 := bk9.cell 0; have x1 := bk9.cell 1; have x2 := bk9.cell 2; have x3 := bk9.cell 3))
  refine bodyPost_ret (v := .tuple #[.agg #[.int .i64 ow, .int .i64 (nu : Int), .int .i64 (nx : Int), .slice A6 sz c6], .bool true]) (by simp [results, Tryz.results114, go_sem, z0, z1, z2, z3]) rfl ⟨A6, c6, ?_, ?_, ?_, fun ad e => Nat.le_trans O4.out.size (n6.out ad e)⟩
  · rw [HV.out.1]
    show _ = Ending.returned (.tuple #[.agg #[_, _, _, .slice A6 D.length c6], _])
    rw [HV.out.2]
  · rw [HV.out.1]
    have r9 := rb_up7 (rb_up7 R7.out hb8) hb9
    exact rb_four r9 rk9 (no8_cell _ _ _ _ _ _) _ _ _ _
  · exact only_four on9 (Nat.le_refl _) _ _ _ _
theorem ctaken_bad (M : List UInt8) (hM : M.length = 252) (g : Nat) (w : World) (h : Cur w g (some M)) (hf : ¬ FormedC M) :
    Calls Tryz.prog 114 #[.pointer (some ⟨g, 0, none⟩)] w (GivesTC (.zero, false) g w) := by
  by_cases h48 : unfixL ((M.drop 8).take 2) ≤ 242
  · cases hm : Ce.may ⟨capZ (unfixL (M.take 4)), (unfixL ((M.drop 4).take 2) : Int), (unfixL ((M.drop 6).take 2) : Int), (M.drop 10).take (unfixL ((M.drop 8).take 2))⟩ with
    | false => exact ctaken_no M hM g w h h48 hm
    | true =>
      refine ctaken_odd M hM g w h h48 hm fun hz => hf ?_
      obtain ⟨a1, a2, a3, a4, a5, a6, a7, a8⟩ := (Ce.may_iff _).1 hm
      simp only at a1 a2 a3 a4 a5 a6 a7 a8
      have a9 : unfixL (M.take 4) ≤ 2147483647 := by
        unfold capZ at a1
        split at a1
        · assumption
        · omega
      refine ⟨?_, a9, ?_, h48, by rw [← List.drop_drop]; exact hz⟩
      · unfold capZ at a1
        rw [if_pos a9] at a1
        omega
      · rw [List.length_take] at a7
        omega
  · exact ctaken_long M hM g w h (by omega)
theorem ctaken_good (M : List UInt8) (hM : M.length = 252) (g : Nat) (w : World) (h : Cur w g (some M)) (hf : FormedC M) :
    Calls Tryz.prog 114 #[.pointer (some ⟨g, 0, none⟩)] w (GivesTN (cellOf M, true) g w) := by
  obtain ⟨h1, h2, h3, h4, h5⟩ := hf
  have e1 : capZ (unfixL (M.take 4)) = (unfixL (M.take 4) : Int) := by unfold capZ; rw [if_pos h2]
  have l2 := unfixL_lt ((M.drop 4).take 2)
  have l3 : ((M.drop 4).take 2).length = 2 := by simp; omega
  have l4 := unfixL_lt ((M.drop 6).take 2)
  have l5 : ((M.drop 6).take 2).length = 2 := by simp; omega
  rw [l3] at l2
  rw [l5] at l4
  have key := ctaken_ok M hM g w h h4 (by
    rw [Ce.may_iff, e1]
    have : (256 : Nat) ^ 2 = 65536 := rfl
    refine ⟨?_, ?_, ?_, ?_, ?_, ?_, ?_, ?_⟩
    · show (1 : Int) ≤ (unfixL (M.take 4) : Int); omega
    · show (unfixL (M.take 4) : Int) ≤ 2147483647; omega
    · show (0 : Int) ≤ (unfixL ((M.drop 4).take 2) : Int); omega
    · show (unfixL ((M.drop 4).take 2) : Int) ≤ 65535; omega
    · show (0 : Int) ≤ (unfixL ((M.drop 6).take 2) : Int); omega
    · show (unfixL ((M.drop 6).take 2) : Int) ≤ 65535; omega
    · show 1 ≤ ((M.drop 10).take (unfixL ((M.drop 8).take 2))).length
      rw [List.length_take, List.length_drop]; omega
    · show ((M.drop 10).take (unfixL ((M.drop 8).take 2))).length ≤ 242
      rw [List.length_take]; omega) (by rw [List.drop_drop]; exact h5)
  rw [e1] at key
  exact key
end Go.Proofs.YtonnkibcnhjelaaGreatDoor
