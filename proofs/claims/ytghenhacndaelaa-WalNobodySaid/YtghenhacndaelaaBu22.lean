/- Lemmas under the proofs of this place: SectPTaken. No statement is proved here. -/
import Derived.Test.YtghenhacndaelaaBu20
import Derived.Test.YtghenhacndaelaaBu15
import Derived.Test.YtghenhacndaelaaBu18
import Derived.Test.YtghenhacndaelaaBu16
set_option linter.unusedSimpArgs false
set_option linter.unusedVariables false
set_option maxRecDepth 100000
set_option maxHeartbeats 16000000
namespace Go.Proofs.Ytghenhacndaelaa
open Go.RowKit
theorem only_five {a w : World} {g gs : Nat} (h : Only a w g) (hg : a.heap.size ≤ gs) (v0 v1 v2 v3 v4 : Value) : Only a (((((w.setCell ⟨gs, 0, none⟩ v0).setCell ⟨gs, 1, none⟩ v1).setCell ⟨gs, 2, none⟩ v2).setCell ⟨gs, 3, none⟩ v3).setCell ⟨gs, 4, none⟩ v4) g :=
  only_new (only_new (only_new (only_new (only_new h hg _) hg _) hg _) hg _) hg _
theorem rb_five {w : World} {g : Nat} {A : Option Addr} {L : List UInt8} {t : TypeId} {cs : Array Value} (h : RB w w.heap.size A L) (hg : Blk w g t cs) (hcs : No8 cs) (v0 v1 v2 v3 v4 : Value) : RB (((((w.setCell ⟨g, 0, none⟩ v0).setCell ⟨g, 1, none⟩ v1).setCell ⟨g, 2, none⟩ v2).setCell ⟨g, 3, none⟩ v3).setCell ⟨g, 4, none⟩ v4) (((((w.setCell ⟨g, 0, none⟩ v0).setCell ⟨g, 1, none⟩ v1).setCell ⟨g, 2, none⟩ v2).setCell ⟨g, 3, none⟩ v3).setCell ⟨g, 4, none⟩ v4).heap.size A L :=
  rb_only8 h hg hcs (only_trans (only_trans (only_trans (only_trans (only_set _ _ _ _) (only_set _ _ _ _)) (only_set _ _ _ _)) (only_set _ _ _ _)) (only_set _ _ _ _))
def GivesT (r : Sd × Bool) (g : Nat) (w : World) (e : Ending) (w' : World) : Prop :=
  ∃ A c, e = .returned (.tuple #[secV r.1 A c, .bool r.2]) ∧ RB w' w'.heap.size A r.1.data ∧ Only w w' g
def GivesTn (r : Sd × Bool) (g : Nat) (w : World) (e : Ending) (w' : World) : Prop :=
  ∃ A c, e = .returned (.tuple #[secV r.1 A c, .bool r.2]) ∧ RB w' w'.heap.size A r.1.data ∧ Only w w' g ∧ ∀ ad, A = some ad → w.heap.size ≤ ad.block
theorem taken_long (M : List UInt8) (hM : M.length = 60) (g : Nat) (w : World) (h : Cur w g (some M)) (h48 : 48 < (M.getD 1 0).toNat) :
    Calls Try.prog 53 #[.pointer (some ⟨g, 0, none⟩)] w (GivesT (.zero, false) g w) := by
  obtain ⟨k, hk⟩ : ∃ x, x = (M.getD 0 0).toNat := ⟨_, rfl⟩
  obtain ⟨sz, hsz⟩ : ∃ x, x = (M.getD 1 0).toNat := ⟨_, rfl⟩
  obtain ⟨lf, hlf⟩ : ∃ x, x = unfixL ((M.drop 2).take 2) := ⟨_, rfl⟩
  obtain ⟨ez, hez⟩ : ∃ x, x = capZ (unfixL ((M.drop 4).take 4)) := ⟨_, rfl⟩
  obtain ⟨nz, hnz⟩ : ∃ x, x = capZ (unfixL ((M.drop 8).take 4)) := ⟨_, rfl⟩
  obtain ⟨M1, hM1⟩ : ∃ x, x = M.drop 1 := ⟨_, rfl⟩
  obtain ⟨M2, hM2⟩ : ∃ x, x = M.drop 2 := ⟨_, rfl⟩
  obtain ⟨M3, hM3⟩ : ∃ x, x = M.drop 4 := ⟨_, rfl⟩
  obtain ⟨M4, hM4⟩ : ∃ x, x = M.drop 8 := ⟨_, rfl⟩
  obtain ⟨M5, hM5⟩ : ∃ x, x = M.drop 12 := ⟨_, rfl⟩
  have HF1 : Hid (∀ W, Hid (Cur W g (some M)) → Calls Try.prog 71 #[(.func (.func 56) #[.pointer (some ⟨g, 0, none⟩)] #[]), .int .i64 1] W fun e w' => e = .returned (.int .i64 (k : Int)) ∧ Hid (Cur w' g (some M1)) ∧ Hid (Only W w' g)) := fun W h => by
    have h1 := field_any g 1 (some M) W h.out
    have hl : 1 ≤ M.length := by omega
    have h2 : stepTake 1 (some M) = (some M1, M.take 1) := by rw [show (1 : Int) = ((1 : Nat) : Int) from rfl, step_ok hl, show M.drop 1 = M1 from by rw [hM1]]
    have h3 : fieldZ (M.take 1) = (k : Int) := by rw [fieldZ_small (by simp; omega) (by simp; omega), hk, ← unfix_one M 0 (by omega)]; rfl
    rw [h2] at h1
    simp only [h3] at h1
    exact h1
  have HF2 : Hid (∀ W, Hid (Cur W g (some M1)) → Calls Try.prog 71 #[(.func (.func 56) #[.pointer (some ⟨g, 0, none⟩)] #[]), .int .i64 1] W fun e w' => e = .returned (.int .i64 (sz : Int)) ∧ Hid (Cur w' g (some M2)) ∧ Hid (Only W w' g)) := fun W h => by
    have h1 := field_any g 1 (some M1) W h.out
    have hl : 1 ≤ M1.length := by rw [hM1, List.length_drop]; omega
    have h2 : stepTake 1 (some M1) = (some M2, M1.take 1) := by rw [show (1 : Int) = ((1 : Nat) : Int) from rfl, step_ok hl, show M1.drop 1 = M2 from by rw [hM2, hM1, List.drop_drop]]
    have h3 : fieldZ (M1.take 1) = (sz : Int) := by rw [hM1, fieldZ_small (by simp; omega) (by simp; omega), hsz, ← unfix_one M 1 (by omega)]
    rw [h2] at h1
    simp only [h3] at h1
    exact h1
  have HF3 : Hid (∀ W, Hid (Cur W g (some M2)) → Calls Try.prog 71 #[(.func (.func 56) #[.pointer (some ⟨g, 0, none⟩)] #[]), .int .i64 2] W fun e w' => e = .returned (.int .i64 (lf : Int)) ∧ Hid (Cur w' g (some M3)) ∧ Hid (Only W w' g)) := fun W h => by
    have h1 := field_any g 2 (some M2) W h.out
    have hl : 2 ≤ M2.length := by rw [hM2, List.length_drop]; omega
    have h2 : stepTake 2 (some M2) = (some M3, M2.take 2) := by rw [show (2 : Int) = ((2 : Nat) : Int) from rfl, step_ok hl, show M2.drop 2 = M3 from by rw [hM3, hM2, List.drop_drop]]
    have h3 : fieldZ (M2.take 2) = (lf : Int) := by rw [hM2, fieldZ_small (by simp; omega) (by simp; omega), hlf]
    rw [h2] at h1
    simp only [h3] at h1
    exact h1
  have HF4 : Hid (∀ W, Hid (Cur W g (some M3)) → Calls Try.prog 71 #[(.func (.func 56) #[.pointer (some ⟨g, 0, none⟩)] #[]), .int .i64 4] W fun e w' => e = .returned (.int .i64 ez) ∧ Hid (Cur w' g (some M4)) ∧ Hid (Only W w' g)) := fun W h => by
    have h1 := field_any g 4 (some M3) W h.out
    have hl : 4 ≤ M3.length := by rw [hM3, List.length_drop]; omega
    have h2 : stepTake 4 (some M3) = (some M4, M3.take 4) := by rw [show (4 : Int) = ((4 : Nat) : Int) from rfl, step_ok hl, show M3.drop 4 = M4 from by rw [hM4, hM3, List.drop_drop]]
    have h3 : fieldZ (M3.take 4) = ez := by rw [hM3, fieldZ_cap (by simp; omega) (by simp; omega), hez]
    rw [h2] at h1
    simp only [h3] at h1
    exact h1
  have HF5 : Hid (∀ W, Hid (Cur W g (some M4)) → Calls Try.prog 71 #[(.func (.func 56) #[.pointer (some ⟨g, 0, none⟩)] #[]), .int .i64 4] W fun e w' => e = .returned (.int .i64 nz) ∧ Hid (Cur w' g (some M5)) ∧ Hid (Only W w' g)) := fun W h => by
    have h1 := field_any g 4 (some M4) W h.out
    have hl : 4 ≤ M4.length := by rw [hM4, List.length_drop]; omega
    have h2 : stepTake 4 (some M4) = (some M5, M4.take 4) := by rw [show (4 : Int) = ((4 : Nat) : Int) from rfl, step_ok hl, show M4.drop 4 = M5 from by rw [hM5, hM4, List.drop_drop]]
    have h3 : fieldZ (M4.take 4) = nz := by rw [hM4, fieldZ_cap (by simp; omega) (by simp; omega), hnz]
    rw [h2] at h1
    simp only [h3] at h1
    exact h1
  have HT6 : Hid (∀ W, Hid (Cur W g (some M5)) → Calls Try.prog 56 #[.pointer (some ⟨g, 0, none⟩), .int .i64 (sz : Int)] W fun e w' => ∃ A c, e = .returned (.slice A 0 c) ∧ Hid (RB w' w'.heap.size A []) ∧ Hid (Cur w' g none) ∧ Hid (Only W w' g)) := fun W h => by
    have h1 := take_any g (sz : Int) (some M5) W h.out
    rw [step_no (by rw [hM5, List.length_drop]; omega)] at h1
    exact h1
  have HT7 : Hid (∀ W, Hid (Cur W g none) → Calls Try.prog 56 #[.pointer (some ⟨g, 0, none⟩), .int .i64 0] W fun e w' => ∃ A c, e = .returned (.slice A 0 c) ∧ Hid (RB w' w'.heap.size A []) ∧ Hid (Cur w' g none) ∧ Hid (Only W w' g)) := fun W h => by
    have h1 := take_any g 0 none W h.out
    exact h1
  have HL : Hid (∀ W, Hid (Cur W g none) → Calls Try.prog 57 #[.pointer (some ⟨g, 0, none⟩)] W fun e w' => e = .returned (.int .i64 0) ∧ W = w') := fun W h => left_any g none W h.out
  have HB : Hid (∀ W, Hid (Cur W g none) → Calls Try.prog 72 #[.pointer (some ⟨g, 0, none⟩)] W fun e w' => e = .returned (.bool true) ∧ W = w') := fun W h => bad_any g none W h.out
  have HN : Hid (w.heap.size + 1 ≠ g ∧ w.heap.size ≠ g ∧ w.heap.size ≠ w.heap.size + 1 ∧ g ≠ w.heap.size + 1) := by
    obtain ⟨_, _, _, _, hb⟩ := cur_blk h
    have := hb.lt
    exact ⟨by omega, by omega, by omega, by omega⟩
  have p0 : Hid (Cur ((w.alloc (.cells #[.int .i64 0, .int .i64 0, .int .i64 0, .int .i64 0, .slice none 0 0] 79)).alloc (.cells #[.int .i64 0, .int .i64 0, .int .i64 0, .int .i64 0, .slice none 0 0] 79)) g (some M)) := cur_alloc (cur_alloc h _) _
  have bk0 : Hid (Blk ((w.alloc (.cells #[.int .i64 0, .int .i64 0, .int .i64 0, .int .i64 0, .slice none 0 0] 79)).alloc (.cells #[.int .i64 0, .int .i64 0, .int .i64 0, .int .i64 0, .slice none 0 0] 79)) (w.heap.size + 1) 79 #[.int .i64 0, .int .i64 0, .int .i64 0, .int .i64 0, .slice none 0 0]) := by have := Blk.new (w.alloc (.cells #[.int .i64 0, .int .i64 0, .int .i64 0, .int .i64 0, .slice none 0 0] 79)) 79 #[.int .i64 0, .int .i64 0, .int .i64 0, .int .i64 0, .slice none 0 0]; rwa [show (w.alloc (.cells #[.int .i64 0, .int .i64 0, .int .i64 0, .int .i64 0, .slice none 0 0] 79)).heap.size = w.heap.size + 1 by simp] at this
  have rk0 : Hid (Blk ((w.alloc (.cells #[.int .i64 0, .int .i64 0, .int .i64 0, .int .i64 0, .slice none 0 0] 79)).alloc (.cells #[.int .i64 0, .int .i64 0, .int .i64 0, .int .i64 0, .slice none 0 0] 79)) w.heap.size 79 #[.int .i64 0, .int .i64 0, .int .i64 0, .int .i64 0, .slice none 0 0]) := (Blk.new w _ _).alloc _
  have O0 : Hid (Only w ((w.alloc (.cells #[.int .i64 0, .int .i64 0, .int .i64 0, .int .i64 0, .slice none 0 0] 79)).alloc (.cells #[.int .i64 0, .int .i64 0, .int .i64 0, .int .i64 0, .slice none 0 0] 79)) g) := only_alloc (only_alloc (only_refl _ _) _) _
  have nb := fun w' => Try.secBuild0 w'
  have a24 := fun w' => Try.aggSec w'
  have s24 := fun w' => Try.sizeSec w'
  have hmf : ∀ (fn : Fn) (first cap : Array Value) (w : World), (Instr.makeFunc fn first cap).run Try.prog w = .ok (.func fn first cap) w := fun _ _ _ _ => rfl
  clear hk hsz hlf hez hnz hM1 hM2 hM3 hM4 hM5 h hM h48
  go_enter Try.func53, Try.ntmps53
  go_wp2_with (first
    | (go_at_call 71; (with_reducible refine (HF1.out _ p0).mono ?_); rintro e w1 ⟨rfl, c1, o1⟩; have bk1 := Blk.only bk0.out o1.out HN.out.1; have rk1 := Blk.only rk0.out o1.out HN.out.2.1; have on1 := only_trans O0.out o1.out; have t1 := bk1.cell 0; have s1 := bk1.frozen 0; have BK1 : Hid (Blk (w1.setCell ⟨w.heap.size + 1, 0, none⟩ (.int .i64 (k : Int))) (w.heap.size + 1) 79 #[.int .i64 (k : Int), .int .i64 0, .int .i64 0, .int .i64 0, .slice none 0 0]) := bk1.set_ 0 _; have RK1 : Hid (Blk (w1.setCell ⟨w.heap.size + 1, 0, none⟩ (.int .i64 (k : Int))) w.heap.size 79 #[.int .i64 0, .int .i64 0, .int .i64 0, .int .i64 0, .slice none 0 0]) := Blk.far rk1 HN.out.2.2.1 _; have p1 : Hid (Cur (w1.setCell ⟨w.heap.size + 1, 0, none⟩ (.int .i64 (k : Int))) g (some M1)) := cur_set8 c1.out bk1 (no8_sec _ _ _ _ _ _ _) HN.out.2.2.2 _; have O1 : Hid (Only w (w1.setCell ⟨w.heap.size + 1, 0, none⟩ (.int .i64 (k : Int))) g) := only_new on1 (by omega) _)
    | (go_at_call 71; (with_reducible refine (HF2.out _ p1).mono ?_); rintro e w2 ⟨rfl, c2, o2⟩; have bk2 := Blk.only BK1.out o2.out HN.out.1; have rk2 := Blk.only RK1.out o2.out HN.out.2.1; have on2 := only_trans O1.out o2.out; have BK2 := Lib.hid bk2; have RK2 := Lib.hid rk2; have p2 := c2; have O2 := Lib.hid on2)
    | (go_at_call 71; (with_reducible refine (HF3.out _ p2).mono ?_); rintro e w3 ⟨rfl, c3, o3⟩; have bk3 := Blk.only BK2.out o3.out HN.out.1; have rk3 := Blk.only RK2.out o3.out HN.out.2.1; have on3 := only_trans O2.out o3.out; have t3 := bk3.cell 3; have s3 := bk3.frozen 3; have BK3 : Hid (Blk (w3.setCell ⟨w.heap.size + 1, 3, none⟩ (.int .i64 (lf : Int))) (w.heap.size + 1) 79 #[.int .i64 (k : Int), .int .i64 0, .int .i64 0, .int .i64 (lf : Int), .slice none 0 0]) := bk3.set_ 3 _; have RK3 : Hid (Blk (w3.setCell ⟨w.heap.size + 1, 3, none⟩ (.int .i64 (lf : Int))) w.heap.size 79 #[.int .i64 0, .int .i64 0, .int .i64 0, .int .i64 0, .slice none 0 0]) := Blk.far rk3 HN.out.2.2.1 _; have p3 : Hid (Cur (w3.setCell ⟨w.heap.size + 1, 3, none⟩ (.int .i64 (lf : Int))) g (some M3)) := cur_set8 c3.out bk3 (no8_sec _ _ _ _ _ _ _) HN.out.2.2.2 _; have O3 : Hid (Only w (w3.setCell ⟨w.heap.size + 1, 3, none⟩ (.int .i64 (lf : Int))) g) := only_new on3 (by omega) _)
    | (go_at_call 71; (with_reducible refine (HF4.out _ p3).mono ?_); rintro e w4 ⟨rfl, c4, o4⟩; have bk4 := Blk.only BK3.out o4.out HN.out.1; have rk4 := Blk.only RK3.out o4.out HN.out.2.1; have on4 := only_trans O3.out o4.out; have t4 := bk4.cell 1; have s4 := bk4.frozen 1; have BK4 : Hid (Blk (w4.setCell ⟨w.heap.size + 1, 1, none⟩ (.int .i64 ez)) (w.heap.size + 1) 79 #[.int .i64 (k : Int), .int .i64 ez, .int .i64 0, .int .i64 (lf : Int), .slice none 0 0]) := bk4.set_ 1 _; have RK4 : Hid (Blk (w4.setCell ⟨w.heap.size + 1, 1, none⟩ (.int .i64 ez)) w.heap.size 79 #[.int .i64 0, .int .i64 0, .int .i64 0, .int .i64 0, .slice none 0 0]) := Blk.far rk4 HN.out.2.2.1 _; have p4 : Hid (Cur (w4.setCell ⟨w.heap.size + 1, 1, none⟩ (.int .i64 ez)) g (some M4)) := cur_set8 c4.out bk4 (no8_sec _ _ _ _ _ _ _) HN.out.2.2.2 _; have O4 : Hid (Only w (w4.setCell ⟨w.heap.size + 1, 1, none⟩ (.int .i64 ez)) g) := only_new on4 (by omega) _)
    | (go_at_call 71; (with_reducible refine (HF5.out _ p4).mono ?_); rintro e w5 ⟨rfl, c5, o5⟩; have bk5 := Blk.only BK4.out o5.out HN.out.1; have rk5 := Blk.only RK4.out o5.out HN.out.2.1; have on5 := only_trans O4.out o5.out; have t5 := bk5.cell 2; have s5 := bk5.frozen 2; have BK5 : Hid (Blk (w5.setCell ⟨w.heap.size + 1, 2, none⟩ (.int .i64 nz)) (w.heap.size + 1) 79 #[.int .i64 (k : Int), .int .i64 ez, .int .i64 nz, .int .i64 (lf : Int), .slice none 0 0]) := bk5.set_ 2 _; have RK5 : Hid (Blk (w5.setCell ⟨w.heap.size + 1, 2, none⟩ (.int .i64 nz)) w.heap.size 79 #[.int .i64 0, .int .i64 0, .int .i64 0, .int .i64 0, .slice none 0 0]) := Blk.far rk5 HN.out.2.2.1 _; have p5 : Hid (Cur (w5.setCell ⟨w.heap.size + 1, 2, none⟩ (.int .i64 nz)) g (some M5)) := cur_set8 c5.out bk5 (no8_sec _ _ _ _ _ _ _) HN.out.2.2.2 _; have O5 : Hid (Only w (w5.setCell ⟨w.heap.size + 1, 2, none⟩ (.int .i64 nz)) g) := only_new on5 (by omega) _)
    | (go_at_call 56; (with_reducible refine (HT6.out _ p5).mono ?_); rintro e w6 ⟨A6, c6, rfl, r6, c6', o6⟩; have bk6 := Blk.only BK5.out o6.out HN.out.1; have rk6 := Blk.only RK5.out o6.out HN.out.2.1; have on6 := only_trans O5.out o6.out; have t6 := bk6.cell 4; have s6 := bk6.frozen 4; have BK6 : Hid (Blk (w6.setCell ⟨w.heap.size + 1, 4, none⟩ (.slice A6 0 c6)) (w.heap.size + 1) 79 #[.int .i64 (k : Int), .int .i64 ez, .int .i64 nz, .int .i64 (lf : Int), .slice A6 0 c6]) := bk6.set_ 4 _; have RK6 : Hid (Blk (w6.setCell ⟨w.heap.size + 1, 4, none⟩ (.slice A6 0 c6)) w.heap.size 79 #[.int .i64 0, .int .i64 0, .int .i64 0, .int .i64 0, .slice none 0 0]) := Blk.far rk6 HN.out.2.2.1 _; have p6 : Hid (Cur (w6.setCell ⟨w.heap.size + 1, 4, none⟩ (.slice A6 0 c6)) g none) := cur_set8 c6'.out bk6 (no8_sec _ _ _ _ _ _ _) HN.out.2.2.2 _; have O6 : Hid (Only w (w6.setCell ⟨w.heap.size + 1, 4, none⟩ (.slice A6 0 c6)) g) := only_new on6 (by omega) _)
    | (go_at_call 57; (with_reducible refine (HL.out _ p6).mono ?_); rintro e w' ⟨rfl, rfl⟩)
    | (go_at_call 56; (with_reducible refine (HT7.out _ p6).mono ?_); rintro e w7 ⟨A7, c7, rfl, r7, c7', o7⟩; have bk7 := Blk.only BK6.out o7.out HN.out.1; have rk7 := Blk.only RK6.out o7.out HN.out.2.1; have on7 := only_trans O6.out o7.out; have p7 := c7'; have z0 := rk7.cell 0; have y0 := rk7.frozen 0; have z1 := rk7.cell 1; have y1 := rk7.frozen 1; have z2 := rk7.cell 2; have y2 := rk7.frozen 2; have z3 := rk7.cell 3; have y3 := rk7.frozen 3; have z4 := rk7.cell 4; have y4 := rk7.frozen 4)
    | (go_at_call 72; (with_reducible refine (HB.out _ p7).mono ?_); rintro e w' ⟨rfl, rfl⟩))
  refine bodyPost_ret (v := .tuple #[.agg #[.int .i64 0, .int .i64 0, .int .i64 0, .int .i64 0, .slice none 0 0], .bool false]) (by simp [results, Try.results53, go_sem, z0, z1, z2, z3, z4]) rfl ⟨none, 0, rfl, RB.none_ _ _, ?_⟩
  exact only_five on7 (Nat.le_refl _) _ _ _ _ _
theorem taken_no (M : List UInt8) (hM : M.length = 60) (g : Nat) (w : World) (h : Cur w g (some M)) (h48 : (M.getD 1 0).toNat ≤ 48) (hm : Sd.may ⟨((M.getD 0 0).toNat : Int), capZ (unfixL ((M.drop 4).take 4)), capZ (unfixL ((M.drop 8).take 4)), (unfixL ((M.drop 2).take 2) : Int), (M.drop 12).take (M.getD 1 0).toNat⟩ = false) :
    Calls Try.prog 53 #[.pointer (some ⟨g, 0, none⟩)] w (GivesT (.zero, false) g w) := by
  obtain ⟨k, hk⟩ : ∃ x, x = (M.getD 0 0).toNat := ⟨_, rfl⟩
  obtain ⟨sz, hsz⟩ : ∃ x, x = (M.getD 1 0).toNat := ⟨_, rfl⟩
  obtain ⟨lf, hlf⟩ : ∃ x, x = unfixL ((M.drop 2).take 2) := ⟨_, rfl⟩
  obtain ⟨ez, hez⟩ : ∃ x, x = capZ (unfixL ((M.drop 4).take 4)) := ⟨_, rfl⟩
  obtain ⟨nz, hnz⟩ : ∃ x, x = capZ (unfixL ((M.drop 8).take 4)) := ⟨_, rfl⟩
  obtain ⟨M1, hM1⟩ : ∃ x, x = M.drop 1 := ⟨_, rfl⟩
  obtain ⟨M2, hM2⟩ : ∃ x, x = M.drop 2 := ⟨_, rfl⟩
  obtain ⟨M3, hM3⟩ : ∃ x, x = M.drop 4 := ⟨_, rfl⟩
  obtain ⟨M4, hM4⟩ : ∃ x, x = M.drop 8 := ⟨_, rfl⟩
  obtain ⟨M5, hM5⟩ : ∃ x, x = M.drop 12 := ⟨_, rfl⟩
  have HF1 : Hid (∀ W, Hid (Cur W g (some M)) → Calls Try.prog 71 #[(.func (.func 56) #[.pointer (some ⟨g, 0, none⟩)] #[]), .int .i64 1] W fun e w' => e = .returned (.int .i64 (k : Int)) ∧ Hid (Cur w' g (some M1)) ∧ Hid (Only W w' g)) := fun W h => by
    have h1 := field_any g 1 (some M) W h.out
    have hl : 1 ≤ M.length := by omega
    have h2 : stepTake 1 (some M) = (some M1, M.take 1) := by rw [show (1 : Int) = ((1 : Nat) : Int) from rfl, step_ok hl, show M.drop 1 = M1 from by rw [hM1]]
    have h3 : fieldZ (M.take 1) = (k : Int) := by rw [fieldZ_small (by simp; omega) (by simp; omega), hk, ← unfix_one M 0 (by omega)]; rfl
    rw [h2] at h1
    simp only [h3] at h1
    exact h1
  have HF2 : Hid (∀ W, Hid (Cur W g (some M1)) → Calls Try.prog 71 #[(.func (.func 56) #[.pointer (some ⟨g, 0, none⟩)] #[]), .int .i64 1] W fun e w' => e = .returned (.int .i64 (sz : Int)) ∧ Hid (Cur w' g (some M2)) ∧ Hid (Only W w' g)) := fun W h => by
    have h1 := field_any g 1 (some M1) W h.out
    have hl : 1 ≤ M1.length := by rw [hM1, List.length_drop]; omega
    have h2 : stepTake 1 (some M1) = (some M2, M1.take 1) := by rw [show (1 : Int) = ((1 : Nat) : Int) from rfl, step_ok hl, show M1.drop 1 = M2 from by rw [hM2, hM1, List.drop_drop]]
    have h3 : fieldZ (M1.take 1) = (sz : Int) := by rw [hM1, fieldZ_small (by simp; omega) (by simp; omega), hsz, ← unfix_one M 1 (by omega)]
    rw [h2] at h1
    simp only [h3] at h1
    exact h1
  have HF3 : Hid (∀ W, Hid (Cur W g (some M2)) → Calls Try.prog 71 #[(.func (.func 56) #[.pointer (some ⟨g, 0, none⟩)] #[]), .int .i64 2] W fun e w' => e = .returned (.int .i64 (lf : Int)) ∧ Hid (Cur w' g (some M3)) ∧ Hid (Only W w' g)) := fun W h => by
    have h1 := field_any g 2 (some M2) W h.out
    have hl : 2 ≤ M2.length := by rw [hM2, List.length_drop]; omega
    have h2 : stepTake 2 (some M2) = (some M3, M2.take 2) := by rw [show (2 : Int) = ((2 : Nat) : Int) from rfl, step_ok hl, show M2.drop 2 = M3 from by rw [hM3, hM2, List.drop_drop]]
    have h3 : fieldZ (M2.take 2) = (lf : Int) := by rw [hM2, fieldZ_small (by simp; omega) (by simp; omega), hlf]
    rw [h2] at h1
    simp only [h3] at h1
    exact h1
  have HF4 : Hid (∀ W, Hid (Cur W g (some M3)) → Calls Try.prog 71 #[(.func (.func 56) #[.pointer (some ⟨g, 0, none⟩)] #[]), .int .i64 4] W fun e w' => e = .returned (.int .i64 ez) ∧ Hid (Cur w' g (some M4)) ∧ Hid (Only W w' g)) := fun W h => by
    have h1 := field_any g 4 (some M3) W h.out
    have hl : 4 ≤ M3.length := by rw [hM3, List.length_drop]; omega
    have h2 : stepTake 4 (some M3) = (some M4, M3.take 4) := by rw [show (4 : Int) = ((4 : Nat) : Int) from rfl, step_ok hl, show M3.drop 4 = M4 from by rw [hM4, hM3, List.drop_drop]]
    have h3 : fieldZ (M3.take 4) = ez := by rw [hM3, fieldZ_cap (by simp; omega) (by simp; omega), hez]
    rw [h2] at h1
    simp only [h3] at h1
    exact h1
  have HF5 : Hid (∀ W, Hid (Cur W g (some M4)) → Calls Try.prog 71 #[(.func (.func 56) #[.pointer (some ⟨g, 0, none⟩)] #[]), .int .i64 4] W fun e w' => e = .returned (.int .i64 nz) ∧ Hid (Cur w' g (some M5)) ∧ Hid (Only W w' g)) := fun W h => by
    have h1 := field_any g 4 (some M4) W h.out
    have hl : 4 ≤ M4.length := by rw [hM4, List.length_drop]; omega
    have h2 : stepTake 4 (some M4) = (some M5, M4.take 4) := by rw [show (4 : Int) = ((4 : Nat) : Int) from rfl, step_ok hl, show M4.drop 4 = M5 from by rw [hM5, hM4, List.drop_drop]]
    have h3 : fieldZ (M4.take 4) = nz := by rw [hM4, fieldZ_cap (by simp; omega) (by simp; omega), hnz]
    rw [h2] at h1
    simp only [h3] at h1
    exact h1
  obtain ⟨r, hr⟩ : ∃ x, x = 48 - sz := ⟨_, rfl⟩
  obtain ⟨D, hD⟩ : ∃ x, x = M5.take sz := ⟨_, rfl⟩
  obtain ⟨R, hR⟩ : ∃ x, x = M5.drop sz := ⟨_, rfl⟩
  rw [← hsz] at h48
  have hm : Sd.may ⟨(k : Int), ez, nz, (lf : Int), D⟩ = false := by rw [hk, hez, hnz, hlf, hD, hM5, hsz]; exact hm
  have l5 : M5.length = 48 := by rw [hM5, List.length_drop, hM]
  have lD : D.length = sz := by rw [hD, List.length_take]; omega
  have lR : R.length = r := by rw [hR, List.length_drop]; omega
  have HT6 : Hid (∀ W, Hid (Cur W g (some M5)) → Calls Try.prog 56 #[.pointer (some ⟨g, 0, none⟩), .int .i64 (sz : Int)] W fun e w' => ∃ A c, e = .returned (.slice A sz c) ∧ Hid (RB w' w'.heap.size A D) ∧ Hid (Cur w' g (some R)) ∧ Hid (Only W w' g)) := fun W h => by
    have h1 := take_any g (sz : Int) (some M5) W h.out
    rw [step_ok (by omega), ← hD, ← hR] at h1
    refine h1.mono fun e w' hh => ?_
    obtain ⟨A, c, he, h2, h3, h4⟩ := hh
    simp only [lD] at he
    exact ⟨A, c, he, h2, h3, h4⟩
  have HT7 : Hid (∀ W, Hid (Cur W g (some R)) → Calls Try.prog 56 #[.pointer (some ⟨g, 0, none⟩), .int .i64 (r : Int)] W fun e w' => ∃ A c, e = .returned (.slice A r c) ∧ Hid (RB w' w'.heap.size A R) ∧ Hid (Cur w' g (some [])) ∧ Hid (Only W w' g)) := fun W h => by
    have h1 := take_any g (r : Int) (some R) W h.out
    rw [step_ok (by omega), List.take_of_length_le (by omega), List.drop_of_length_le (by omega)] at h1
    refine h1.mono fun e w' hh => ?_
    obtain ⟨A, c, he, h2, h3, h4⟩ := hh
    simp only [lR] at he
    exact ⟨A, c, he, h2, h3, h4⟩
  have HL : Hid (∀ W, Hid (Cur W g (some R)) → Calls Try.prog 57 #[.pointer (some ⟨g, 0, none⟩)] W fun e w' => e = .returned (.int .i64 (r : Int)) ∧ W = w') := fun W h => by
    have h1 := left_any g (some R) W h.out
    simp only [leftN, lR] at h1
    exact h1
  have HB : Hid (∀ W, Hid (Cur W g (some [])) → Calls Try.prog 72 #[.pointer (some ⟨g, 0, none⟩)] W fun e w' => e = .returned (.bool false) ∧ W = w') := fun W h => bad_any g (some []) W h.out
  have HMy : Hid (∀ W (A : Option Addr) (c : Nat), Calls Try.prog 58 #[.agg #[.int .i64 (k : Int), .int .i64 ez, .int .i64 nz, .int .i64 (lf : Int), .slice A sz c]] W fun e w' => e = .returned (.bool false) ∧ Below W.heap.size W w') := fun W A c => by
    have h1 := maybe_any ⟨(k : Int), ez, nz, (lf : Int), D⟩ A c W
    rw [hm] at h1
    unfold secV at h1
    simp only [lD] at h1
    exact h1
  have HN : Hid (w.heap.size + 1 ≠ g ∧ w.heap.size ≠ g ∧ w.heap.size ≠ w.heap.size + 1 ∧ g ≠ w.heap.size + 1) := by
    obtain ⟨_, _, _, _, hb⟩ := cur_blk h
    have := hb.lt
    exact ⟨by omega, by omega, by omega, by omega⟩
  have p0 : Hid (Cur ((w.alloc (.cells #[.int .i64 0, .int .i64 0, .int .i64 0, .int .i64 0, .slice none 0 0] 79)).alloc (.cells #[.int .i64 0, .int .i64 0, .int .i64 0, .int .i64 0, .slice none 0 0] 79)) g (some M)) := cur_alloc (cur_alloc h _) _
  have bk0 : Hid (Blk ((w.alloc (.cells #[.int .i64 0, .int .i64 0, .int .i64 0, .int .i64 0, .slice none 0 0] 79)).alloc (.cells #[.int .i64 0, .int .i64 0, .int .i64 0, .int .i64 0, .slice none 0 0] 79)) (w.heap.size + 1) 79 #[.int .i64 0, .int .i64 0, .int .i64 0, .int .i64 0, .slice none 0 0]) := by have := Blk.new (w.alloc (.cells #[.int .i64 0, .int .i64 0, .int .i64 0, .int .i64 0, .slice none 0 0] 79)) 79 #[.int .i64 0, .int .i64 0, .int .i64 0, .int .i64 0, .slice none 0 0]; rwa [show (w.alloc (.cells #[.int .i64 0, .int .i64 0, .int .i64 0, .int .i64 0, .slice none 0 0] 79)).heap.size = w.heap.size + 1 by simp] at this
  have rk0 : Hid (Blk ((w.alloc (.cells #[.int .i64 0, .int .i64 0, .int .i64 0, .int .i64 0, .slice none 0 0] 79)).alloc (.cells #[.int .i64 0, .int .i64 0, .int .i64 0, .int .i64 0, .slice none 0 0] 79)) w.heap.size 79 #[.int .i64 0, .int .i64 0, .int .i64 0, .int .i64 0, .slice none 0 0]) := (Blk.new w _ _).alloc _
  have O0 : Hid (Only w ((w.alloc (.cells #[.int .i64 0, .int .i64 0, .int .i64 0, .int .i64 0, .slice none 0 0] 79)).alloc (.cells #[.int .i64 0, .int .i64 0, .int .i64 0, .int .i64 0, .slice none 0 0] 79)) g) := only_alloc (only_alloc (only_refl _ _) _) _
  have nb := fun w' => Try.secBuild0 w'
  have a24 := fun w' => Try.aggSec w'
  have s24 := fun w' => Try.sizeSec w'
  have hmf : ∀ (fn : Fn) (first cap : Array Value) (w : World), (Instr.makeFunc fn first cap).run Try.prog w = .ok (.func fn first cap) w := fun _ _ _ _ => rfl
  clear hk hsz hlf hez hnz hM1 hM2 hM3 hM4 hM5 h hM h48 hm hr hD hR l5 lD lR
  go_enter Try.func53, Try.ntmps53
  go_wp2_with (first
    | (go_at_call 71; (with_reducible refine (HF1.out _ p0).mono ?_); rintro e w1 ⟨rfl, c1, o1⟩; have bk1 := Blk.only bk0.out o1.out HN.out.1; have rk1 := Blk.only rk0.out o1.out HN.out.2.1; have on1 := only_trans O0.out o1.out; have t1 := bk1.cell 0; have s1 := bk1.frozen 0; have BK1 : Hid (Blk (w1.setCell ⟨w.heap.size + 1, 0, none⟩ (.int .i64 (k : Int))) (w.heap.size + 1) 79 #[.int .i64 (k : Int), .int .i64 0, .int .i64 0, .int .i64 0, .slice none 0 0]) := bk1.set_ 0 _; have RK1 : Hid (Blk (w1.setCell ⟨w.heap.size + 1, 0, none⟩ (.int .i64 (k : Int))) w.heap.size 79 #[.int .i64 0, .int .i64 0, .int .i64 0, .int .i64 0, .slice none 0 0]) := Blk.far rk1 HN.out.2.2.1 _; have p1 : Hid (Cur (w1.setCell ⟨w.heap.size + 1, 0, none⟩ (.int .i64 (k : Int))) g (some M1)) := cur_set8 c1.out bk1 (no8_sec _ _ _ _ _ _ _) HN.out.2.2.2 _; have O1 : Hid (Only w (w1.setCell ⟨w.heap.size + 1, 0, none⟩ (.int .i64 (k : Int))) g) := only_new on1 (by omega) _)
    | (go_at_call 71; (with_reducible refine (HF2.out _ p1).mono ?_); rintro e w2 ⟨rfl, c2, o2⟩; have bk2 := Blk.only BK1.out o2.out HN.out.1; have rk2 := Blk.only RK1.out o2.out HN.out.2.1; have on2 := only_trans O1.out o2.out; have BK2 := Lib.hid bk2; have RK2 := Lib.hid rk2; have p2 := c2; have O2 := Lib.hid on2)
    | (go_at_call 71; (with_reducible refine (HF3.out _ p2).mono ?_); rintro e w3 ⟨rfl, c3, o3⟩; have bk3 := Blk.only BK2.out o3.out HN.out.1; have rk3 := Blk.only RK2.out o3.out HN.out.2.1; have on3 := only_trans O2.out o3.out; have t3 := bk3.cell 3; have s3 := bk3.frozen 3; have BK3 : Hid (Blk (w3.setCell ⟨w.heap.size + 1, 3, none⟩ (.int .i64 (lf : Int))) (w.heap.size + 1) 79 #[.int .i64 (k : Int), .int .i64 0, .int .i64 0, .int .i64 (lf : Int), .slice none 0 0]) := bk3.set_ 3 _; have RK3 : Hid (Blk (w3.setCell ⟨w.heap.size + 1, 3, none⟩ (.int .i64 (lf : Int))) w.heap.size 79 #[.int .i64 0, .int .i64 0, .int .i64 0, .int .i64 0, .slice none 0 0]) := Blk.far rk3 HN.out.2.2.1 _; have p3 : Hid (Cur (w3.setCell ⟨w.heap.size + 1, 3, none⟩ (.int .i64 (lf : Int))) g (some M3)) := cur_set8 c3.out bk3 (no8_sec _ _ _ _ _ _ _) HN.out.2.2.2 _; have O3 : Hid (Only w (w3.setCell ⟨w.heap.size + 1, 3, none⟩ (.int .i64 (lf : Int))) g) := only_new on3 (by omega) _)
    | (go_at_call 71; (with_reducible refine (HF4.out _ p3).mono ?_); rintro e w4 ⟨rfl, c4, o4⟩; have bk4 := Blk.only BK3.out o4.out HN.out.1; have rk4 := Blk.only RK3.out o4.out HN.out.2.1; have on4 := only_trans O3.out o4.out; have t4 := bk4.cell 1; have s4 := bk4.frozen 1; have BK4 : Hid (Blk (w4.setCell ⟨w.heap.size + 1, 1, none⟩ (.int .i64 ez)) (w.heap.size + 1) 79 #[.int .i64 (k : Int), .int .i64 ez, .int .i64 0, .int .i64 (lf : Int), .slice none 0 0]) := bk4.set_ 1 _; have RK4 : Hid (Blk (w4.setCell ⟨w.heap.size + 1, 1, none⟩ (.int .i64 ez)) w.heap.size 79 #[.int .i64 0, .int .i64 0, .int .i64 0, .int .i64 0, .slice none 0 0]) := Blk.far rk4 HN.out.2.2.1 _; have p4 : Hid (Cur (w4.setCell ⟨w.heap.size + 1, 1, none⟩ (.int .i64 ez)) g (some M4)) := cur_set8 c4.out bk4 (no8_sec _ _ _ _ _ _ _) HN.out.2.2.2 _; have O4 : Hid (Only w (w4.setCell ⟨w.heap.size + 1, 1, none⟩ (.int .i64 ez)) g) := only_new on4 (by omega) _)
    | (go_at_call 71; (with_reducible refine (HF5.out _ p4).mono ?_); rintro e w5 ⟨rfl, c5, o5⟩; have bk5 := Blk.only BK4.out o5.out HN.out.1; have rk5 := Blk.only RK4.out o5.out HN.out.2.1; have on5 := only_trans O4.out o5.out; have t5 := bk5.cell 2; have s5 := bk5.frozen 2; have BK5 : Hid (Blk (w5.setCell ⟨w.heap.size + 1, 2, none⟩ (.int .i64 nz)) (w.heap.size + 1) 79 #[.int .i64 (k : Int), .int .i64 ez, .int .i64 nz, .int .i64 (lf : Int), .slice none 0 0]) := bk5.set_ 2 _; have RK5 : Hid (Blk (w5.setCell ⟨w.heap.size + 1, 2, none⟩ (.int .i64 nz)) w.heap.size 79 #[.int .i64 0, .int .i64 0, .int .i64 0, .int .i64 0, .slice none 0 0]) := Blk.far rk5 HN.out.2.2.1 _; have p5 : Hid (Cur (w5.setCell ⟨w.heap.size + 1, 2, none⟩ (.int .i64 nz)) g (some M5)) := cur_set8 c5.out bk5 (no8_sec _ _ _ _ _ _ _) HN.out.2.2.2 _; have O5 : Hid (Only w (w5.setCell ⟨w.heap.size + 1, 2, none⟩ (.int .i64 nz)) g) := only_new on5 (by omega) _)
    | (go_at_call 56; (with_reducible refine (HT6.out _ p5).mono ?_); rintro e w6 ⟨A6, c6, rfl, r6, c6', o6⟩; have bk6 := Blk.only BK5.out o6.out HN.out.1; have rk6 := Blk.only RK5.out o6.out HN.out.2.1; have on6 := only_trans O5.out o6.out; have t6 := bk6.cell 4; have s6 := bk6.frozen 4; have BK6 : Hid (Blk (w6.setCell ⟨w.heap.size + 1, 4, none⟩ (.slice A6 sz c6)) (w.heap.size + 1) 79 #[.int .i64 (k : Int), .int .i64 ez, .int .i64 nz, .int .i64 (lf : Int), .slice A6 sz c6]) := bk6.set_ 4 _; have RK6 : Hid (Blk (w6.setCell ⟨w.heap.size + 1, 4, none⟩ (.slice A6 sz c6)) w.heap.size 79 #[.int .i64 0, .int .i64 0, .int .i64 0, .int .i64 0, .slice none 0 0]) := Blk.far rk6 HN.out.2.2.1 _; have p6 : Hid (Cur (w6.setCell ⟨w.heap.size + 1, 4, none⟩ (.slice A6 sz c6)) g (some R)) := cur_set8 c6'.out bk6 (no8_sec _ _ _ _ _ _ _) HN.out.2.2.2 _; have O6 : Hid (Only w (w6.setCell ⟨w.heap.size + 1, 4, none⟩ (.slice A6 sz c6)) g) := only_new on6 (by omega) _)
    | (go_at_call 57; (with_reducible refine (HL.out _ p6).mono ?_); rintro e w' ⟨rfl, rfl⟩)
    | (go_at_call 56; (with_reducible refine (HT7.out _ p6).mono ?_); rintro e w7 ⟨A7, c7, rfl, r7, c7', o7⟩; have bk7 := Blk.only BK6.out o7.out HN.out.1; have rk7 := Blk.only RK6.out o7.out HN.out.2.1; have on7 := only_trans O6.out o7.out; have p7 := c7'; have v0 := bk7.cell 0; have v1 := bk7.cell 1; have v2 := bk7.cell 2; have v3 := bk7.cell 3; have v4 := bk7.cell 4)
    | (go_at_call 72; (with_reducible refine (HB.out _ p7).mono ?_); rintro e w' ⟨rfl, rfl⟩)
    | (go_at_call 58; (with_reducible refine (HMy.out _ _ _).mono ?_); rintro e w8 ⟨rfl, hb8⟩; have bk8 := bk7.below hb8 bk7.lt; have rk8 := rk7.below hb8 rk7.lt; have on8 := only_more on7 hb8; have z0 := rk8.cell 0; have y0 := rk8.frozen 0; have z1 := rk8.cell 1; have y1 := rk8.frozen 1; have z2 := rk8.cell 2; have y2 := rk8.frozen 2; have z3 := rk8.cell 3; have y3 := rk8.frozen 3; have z4 := rk8.cell 4; have y4 := rk8.frozen 4))
  refine bodyPost_ret (v := .tuple #[.agg #[.int .i64 0, .int .i64 0, .int .i64 0, .int .i64 0, .slice none 0 0], .bool false]) (by simp [results, Try.results53, go_sem, z0, z1, z2, z3, z4]) rfl ⟨none, 0, rfl, RB.none_ _ _, ?_⟩
  exact only_five on8 (Nat.le_refl _) _ _ _ _ _
theorem taken_odd (M : List UInt8) (hM : M.length = 60) (g : Nat) (w : World) (h : Cur w g (some M)) (h48 : (M.getD 1 0).toNat ≤ 48) (hm : Sd.may ⟨((M.getD 0 0).toNat : Int), capZ (unfixL ((M.drop 4).take 4)), capZ (unfixL ((M.drop 8).take 4)), (unfixL ((M.drop 2).take 2) : Int), (M.drop 12).take (M.getD 1 0).toNat⟩ = true) (hz : ¬ (M.drop 12).drop (M.getD 1 0).toNat = List.replicate (48 - (M.getD 1 0).toNat) 0) :
    Calls Try.prog 53 #[.pointer (some ⟨g, 0, none⟩)] w (GivesT (.zero, false) g w) := by
  obtain ⟨i0, hi0, hz0, hz1, hz2⟩ := info_parts Try.info5
  obtain ⟨k, hk⟩ : ∃ x, x = (M.getD 0 0).toNat := ⟨_, rfl⟩
  obtain ⟨sz, hsz⟩ : ∃ x, x = (M.getD 1 0).toNat := ⟨_, rfl⟩
  obtain ⟨lf, hlf⟩ : ∃ x, x = unfixL ((M.drop 2).take 2) := ⟨_, rfl⟩
  obtain ⟨ez, hez⟩ : ∃ x, x = capZ (unfixL ((M.drop 4).take 4)) := ⟨_, rfl⟩
  obtain ⟨nz, hnz⟩ : ∃ x, x = capZ (unfixL ((M.drop 8).take 4)) := ⟨_, rfl⟩
  obtain ⟨M1, hM1⟩ : ∃ x, x = M.drop 1 := ⟨_, rfl⟩
  obtain ⟨M2, hM2⟩ : ∃ x, x = M.drop 2 := ⟨_, rfl⟩
  obtain ⟨M3, hM3⟩ : ∃ x, x = M.drop 4 := ⟨_, rfl⟩
  obtain ⟨M4, hM4⟩ : ∃ x, x = M.drop 8 := ⟨_, rfl⟩
  obtain ⟨M5, hM5⟩ : ∃ x, x = M.drop 12 := ⟨_, rfl⟩
  have HF1 : Hid (∀ W, Hid (Cur W g (some M)) → Calls Try.prog 71 #[(.func (.func 56) #[.pointer (some ⟨g, 0, none⟩)] #[]), .int .i64 1] W fun e w' => e = .returned (.int .i64 (k : Int)) ∧ Hid (Cur w' g (some M1)) ∧ Hid (Only W w' g)) := fun W h => by
    have h1 := field_any g 1 (some M) W h.out
    have hl : 1 ≤ M.length := by omega
    have h2 : stepTake 1 (some M) = (some M1, M.take 1) := by rw [show (1 : Int) = ((1 : Nat) : Int) from rfl, step_ok hl, show M.drop 1 = M1 from by rw [hM1]]
    have h3 : fieldZ (M.take 1) = (k : Int) := by rw [fieldZ_small (by simp; omega) (by simp; omega), hk, ← unfix_one M 0 (by omega)]; rfl
    rw [h2] at h1
    simp only [h3] at h1
    exact h1
  have HF2 : Hid (∀ W, Hid (Cur W g (some M1)) → Calls Try.prog 71 #[(.func (.func 56) #[.pointer (some ⟨g, 0, none⟩)] #[]), .int .i64 1] W fun e w' => e = .returned (.int .i64 (sz : Int)) ∧ Hid (Cur w' g (some M2)) ∧ Hid (Only W w' g)) := fun W h => by
    have h1 := field_any g 1 (some M1) W h.out
    have hl : 1 ≤ M1.length := by rw [hM1, List.length_drop]; omega
    have h2 : stepTake 1 (some M1) = (some M2, M1.take 1) := by rw [show (1 : Int) = ((1 : Nat) : Int) from rfl, step_ok hl, show M1.drop 1 = M2 from by rw [hM2, hM1, List.drop_drop]]
    have h3 : fieldZ (M1.take 1) = (sz : Int) := by rw [hM1, fieldZ_small (by simp; omega) (by simp; omega), hsz, ← unfix_one M 1 (by omega)]
    rw [h2] at h1
    simp only [h3] at h1
    exact h1
  have HF3 : Hid (∀ W, Hid (Cur W g (some M2)) → Calls Try.prog 71 #[(.func (.func 56) #[.pointer (some ⟨g, 0, none⟩)] #[]), .int .i64 2] W fun e w' => e = .returned (.int .i64 (lf : Int)) ∧ Hid (Cur w' g (some M3)) ∧ Hid (Only W w' g)) := fun W h => by
    have h1 := field_any g 2 (some M2) W h.out
    have hl : 2 ≤ M2.length := by rw [hM2, List.length_drop]; omega
    have h2 : stepTake 2 (some M2) = (some M3, M2.take 2) := by rw [show (2 : Int) = ((2 : Nat) : Int) from rfl, step_ok hl, show M2.drop 2 = M3 from by rw [hM3, hM2, List.drop_drop]]
    have h3 : fieldZ (M2.take 2) = (lf : Int) := by rw [hM2, fieldZ_small (by simp; omega) (by simp; omega), hlf]
    rw [h2] at h1
    simp only [h3] at h1
    exact h1
  have HF4 : Hid (∀ W, Hid (Cur W g (some M3)) → Calls Try.prog 71 #[(.func (.func 56) #[.pointer (some ⟨g, 0, none⟩)] #[]), .int .i64 4] W fun e w' => e = .returned (.int .i64 ez) ∧ Hid (Cur w' g (some M4)) ∧ Hid (Only W w' g)) := fun W h => by
    have h1 := field_any g 4 (some M3) W h.out
    have hl : 4 ≤ M3.length := by rw [hM3, List.length_drop]; omega
    have h2 : stepTake 4 (some M3) = (some M4, M3.take 4) := by rw [show (4 : Int) = ((4 : Nat) : Int) from rfl, step_ok hl, show M3.drop 4 = M4 from by rw [hM4, hM3, List.drop_drop]]
    have h3 : fieldZ (M3.take 4) = ez := by rw [hM3, fieldZ_cap (by simp; omega) (by simp; omega), hez]
    rw [h2] at h1
    simp only [h3] at h1
    exact h1
  have HF5 : Hid (∀ W, Hid (Cur W g (some M4)) → Calls Try.prog 71 #[(.func (.func 56) #[.pointer (some ⟨g, 0, none⟩)] #[]), .int .i64 4] W fun e w' => e = .returned (.int .i64 nz) ∧ Hid (Cur w' g (some M5)) ∧ Hid (Only W w' g)) := fun W h => by
    have h1 := field_any g 4 (some M4) W h.out
    have hl : 4 ≤ M4.length := by rw [hM4, List.length_drop]; omega
    have h2 : stepTake 4 (some M4) = (some M5, M4.take 4) := by rw [show (4 : Int) = ((4 : Nat) : Int) from rfl, step_ok hl, show M4.drop 4 = M5 from by rw [hM5, hM4, List.drop_drop]]
    have h3 : fieldZ (M4.take 4) = nz := by rw [hM4, fieldZ_cap (by simp; omega) (by simp; omega), hnz]
    rw [h2] at h1
    simp only [h3] at h1
    exact h1
  obtain ⟨r, hr⟩ : ∃ x, x = 48 - sz := ⟨_, rfl⟩
  obtain ⟨D, hD⟩ : ∃ x, x = M5.take sz := ⟨_, rfl⟩
  obtain ⟨R, hR⟩ : ∃ x, x = M5.drop sz := ⟨_, rfl⟩
  rw [← hsz] at h48
  have hm : Sd.may ⟨(k : Int), ez, nz, (lf : Int), D⟩ = true := by rw [hk, hez, hnz, hlf, hD, hM5, hsz]; exact hm
  have hze : decide (R = List.replicate r 0) = false := by rw [hR, hr, hM5, hsz]; exact decide_eq_false hz
  have l5 : M5.length = 48 := by rw [hM5, List.length_drop, hM]
  have lD : D.length = sz := by rw [hD, List.length_take]; omega
  have lR : R.length = r := by rw [hR, List.length_drop]; omega
  have HT6 : Hid (∀ W, Hid (Cur W g (some M5)) → Calls Try.prog 56 #[.pointer (some ⟨g, 0, none⟩), .int .i64 (sz : Int)] W fun e w' => ∃ A c, e = .returned (.slice A sz c) ∧ Hid (RB w' w'.heap.size A D) ∧ Hid (Cur w' g (some R)) ∧ Hid (Only W w' g)) := fun W h => by
    have h1 := take_any g (sz : Int) (some M5) W h.out
    rw [step_ok (by omega), ← hD, ← hR] at h1
    refine h1.mono fun e w' hh => ?_
    obtain ⟨A, c, he, h2, h3, h4⟩ := hh
    simp only [lD] at he
    exact ⟨A, c, he, h2, h3, h4⟩
  have HT7 : Hid (∀ W, Hid (Cur W g (some R)) → Calls Try.prog 56 #[.pointer (some ⟨g, 0, none⟩), .int .i64 (r : Int)] W fun e w' => ∃ A c, e = .returned (.slice A r c) ∧ Hid (RB w' w'.heap.size A R) ∧ Hid (Cur w' g (some [])) ∧ Hid (Only W w' g)) := fun W h => by
    have h1 := take_any g (r : Int) (some R) W h.out
    rw [step_ok (by omega), List.take_of_length_le (by omega), List.drop_of_length_le (by omega)] at h1
    refine h1.mono fun e w' hh => ?_
    obtain ⟨A, c, he, h2, h3, h4⟩ := hh
    simp only [lR] at he
    exact ⟨A, c, he, h2, h3, h4⟩
  have HL : Hid (∀ W, Hid (Cur W g (some R)) → Calls Try.prog 57 #[.pointer (some ⟨g, 0, none⟩)] W fun e w' => e = .returned (.int .i64 (r : Int)) ∧ W = w') := fun W h => by
    have h1 := left_any g (some R) W h.out
    simp only [leftN, lR] at h1
    exact h1
  have HB : Hid (∀ W, Hid (Cur W g (some [])) → Calls Try.prog 72 #[.pointer (some ⟨g, 0, none⟩)] W fun e w' => e = .returned (.bool false) ∧ W = w') := fun W h => bad_any g (some []) W h.out
  have HMy : Hid (∀ W (A : Option Addr) (c : Nat), Calls Try.prog 58 #[.agg #[.int .i64 (k : Int), .int .i64 ez, .int .i64 nz, .int .i64 (lf : Int), .slice A sz c]] W fun e w' => e = .returned (.bool true) ∧ Below W.heap.size W w') := fun W A c => by
    have h1 := maybe_any ⟨(k : Int), ez, nz, (lf : Int), D⟩ A c W
    rw [hm] at h1
    unfold secV at h1
    simp only [lD] at h1
    exact h1
  have HEq : Hid (∀ W (A A' : Option Addr) (c c' : Nat), RB W W.heap.size A R → RB W W.heap.size A' (List.replicate r 0) → Calls Try.prog 67 #[.slice A r c, .slice A' r c'] W fun e w' => e = .returned (.bool false) ∧ W = w') := fun W A A' c c' h1 h2 => by
    have h3 := equal_any R (List.replicate r 0) A A' c c' _ _ W h1 h2
    rw [List.length_replicate, lR, hze] at h3
    exact h3
  have HN : Hid (w.heap.size + 1 ≠ g ∧ w.heap.size ≠ g ∧ w.heap.size ≠ w.heap.size + 1 ∧ g ≠ w.heap.size + 1) := by
    obtain ⟨_, _, _, _, hb⟩ := cur_blk h
    have := hb.lt
    exact ⟨by omega, by omega, by omega, by omega⟩
  have p0 : Hid (Cur ((w.alloc (.cells #[.int .i64 0, .int .i64 0, .int .i64 0, .int .i64 0, .slice none 0 0] 79)).alloc (.cells #[.int .i64 0, .int .i64 0, .int .i64 0, .int .i64 0, .slice none 0 0] 79)) g (some M)) := cur_alloc (cur_alloc h _) _
  have bk0 : Hid (Blk ((w.alloc (.cells #[.int .i64 0, .int .i64 0, .int .i64 0, .int .i64 0, .slice none 0 0] 79)).alloc (.cells #[.int .i64 0, .int .i64 0, .int .i64 0, .int .i64 0, .slice none 0 0] 79)) (w.heap.size + 1) 79 #[.int .i64 0, .int .i64 0, .int .i64 0, .int .i64 0, .slice none 0 0]) := by have := Blk.new (w.alloc (.cells #[.int .i64 0, .int .i64 0, .int .i64 0, .int .i64 0, .slice none 0 0] 79)) 79 #[.int .i64 0, .int .i64 0, .int .i64 0, .int .i64 0, .slice none 0 0]; rwa [show (w.alloc (.cells #[.int .i64 0, .int .i64 0, .int .i64 0, .int .i64 0, .slice none 0 0] 79)).heap.size = w.heap.size + 1 by simp] at this
  have rk0 : Hid (Blk ((w.alloc (.cells #[.int .i64 0, .int .i64 0, .int .i64 0, .int .i64 0, .slice none 0 0] 79)).alloc (.cells #[.int .i64 0, .int .i64 0, .int .i64 0, .int .i64 0, .slice none 0 0] 79)) w.heap.size 79 #[.int .i64 0, .int .i64 0, .int .i64 0, .int .i64 0, .slice none 0 0]) := (Blk.new w _ _).alloc _
  have O0 : Hid (Only w ((w.alloc (.cells #[.int .i64 0, .int .i64 0, .int .i64 0, .int .i64 0, .slice none 0 0] 79)).alloc (.cells #[.int .i64 0, .int .i64 0, .int .i64 0, .int .i64 0, .slice none 0 0] 79)) g) := only_alloc (only_alloc (only_refl _ _) _) _
  have nb := fun w' => Try.secBuild0 w'
  have a24 := fun w' => Try.aggSec w'
  have s24 := fun w' => Try.sizeSec w'
  have hmf : ∀ (fn : Fn) (first cap : Array Value) (w : World), (Instr.makeFunc fn first cap).run Try.prog w = .ok (.func fn first cap) w := fun _ _ _ _ => rfl
  have HR48 : Hid (r ≤ 48) := by show r ≤ 48; omega
  clear hk hsz hlf hez hnz hM1 hM2 hM3 hM4 hM5 h hM h48 hm hr hD hR l5 lD lR hz hze
  go_enter Try.func53, Try.ntmps53
  go_wp2_with (first
    | (go_at_call 71; (with_reducible refine (HF1.out _ p0).mono ?_); rintro e w1 ⟨rfl, c1, o1⟩; have bk1 := Blk.only bk0.out o1.out HN.out.1; have rk1 := Blk.only rk0.out o1.out HN.out.2.1; have on1 := only_trans O0.out o1.out; have t1 := bk1.cell 0; have s1 := bk1.frozen 0; have BK1 : Hid (Blk (w1.setCell ⟨w.heap.size + 1, 0, none⟩ (.int .i64 (k : Int))) (w.heap.size + 1) 79 #[.int .i64 (k : Int), .int .i64 0, .int .i64 0, .int .i64 0, .slice none 0 0]) := bk1.set_ 0 _; have RK1 : Hid (Blk (w1.setCell ⟨w.heap.size + 1, 0, none⟩ (.int .i64 (k : Int))) w.heap.size 79 #[.int .i64 0, .int .i64 0, .int .i64 0, .int .i64 0, .slice none 0 0]) := Blk.far rk1 HN.out.2.2.1 _; have p1 : Hid (Cur (w1.setCell ⟨w.heap.size + 1, 0, none⟩ (.int .i64 (k : Int))) g (some M1)) := cur_set8 c1.out bk1 (no8_sec _ _ _ _ _ _ _) HN.out.2.2.2 _; have O1 : Hid (Only w (w1.setCell ⟨w.heap.size + 1, 0, none⟩ (.int .i64 (k : Int))) g) := only_new on1 (by omega) _)
    | (go_at_call 71; (with_reducible refine (HF2.out _ p1).mono ?_); rintro e w2 ⟨rfl, c2, o2⟩; have bk2 := Blk.only BK1.out o2.out HN.out.1; have rk2 := Blk.only RK1.out o2.out HN.out.2.1; have on2 := only_trans O1.out o2.out; have BK2 := Lib.hid bk2; have RK2 := Lib.hid rk2; have p2 := c2; have O2 := Lib.hid on2)
    | (go_at_call 71; (with_reducible refine (HF3.out _ p2).mono ?_); rintro e w3 ⟨rfl, c3, o3⟩; have bk3 := Blk.only BK2.out o3.out HN.out.1; have rk3 := Blk.only RK2.out o3.out HN.out.2.1; have on3 := only_trans O2.out o3.out; have t3 := bk3.cell 3; have s3 := bk3.frozen 3; have BK3 : Hid (Blk (w3.setCell ⟨w.heap.size + 1, 3, none⟩ (.int .i64 (lf : Int))) (w.heap.size + 1) 79 #[.int .i64 (k : Int), .int .i64 0, .int .i64 0, .int .i64 (lf : Int), .slice none 0 0]) := bk3.set_ 3 _; have RK3 : Hid (Blk (w3.setCell ⟨w.heap.size + 1, 3, none⟩ (.int .i64 (lf : Int))) w.heap.size 79 #[.int .i64 0, .int .i64 0, .int .i64 0, .int .i64 0, .slice none 0 0]) := Blk.far rk3 HN.out.2.2.1 _; have p3 : Hid (Cur (w3.setCell ⟨w.heap.size + 1, 3, none⟩ (.int .i64 (lf : Int))) g (some M3)) := cur_set8 c3.out bk3 (no8_sec _ _ _ _ _ _ _) HN.out.2.2.2 _; have O3 : Hid (Only w (w3.setCell ⟨w.heap.size + 1, 3, none⟩ (.int .i64 (lf : Int))) g) := only_new on3 (by omega) _)
    | (go_at_call 71; (with_reducible refine (HF4.out _ p3).mono ?_); rintro e w4 ⟨rfl, c4, o4⟩; have bk4 := Blk.only BK3.out o4.out HN.out.1; have rk4 := Blk.only RK3.out o4.out HN.out.2.1; have on4 := only_trans O3.out o4.out; have t4 := bk4.cell 1; have s4 := bk4.frozen 1; have BK4 : Hid (Blk (w4.setCell ⟨w.heap.size + 1, 1, none⟩ (.int .i64 ez)) (w.heap.size + 1) 79 #[.int .i64 (k : Int), .int .i64 ez, .int .i64 0, .int .i64 (lf : Int), .slice none 0 0]) := bk4.set_ 1 _; have RK4 : Hid (Blk (w4.setCell ⟨w.heap.size + 1, 1, none⟩ (.int .i64 ez)) w.heap.size 79 #[.int .i64 0, .int .i64 0, .int .i64 0, .int .i64 0, .slice none 0 0]) := Blk.far rk4 HN.out.2.2.1 _; have p4 : Hid (Cur (w4.setCell ⟨w.heap.size + 1, 1, none⟩ (.int .i64 ez)) g (some M4)) := cur_set8 c4.out bk4 (no8_sec _ _ _ _ _ _ _) HN.out.2.2.2 _; have O4 : Hid (Only w (w4.setCell ⟨w.heap.size + 1, 1, none⟩ (.int .i64 ez)) g) := only_new on4 (by omega) _)
    | (go_at_call 71; (with_reducible refine (HF5.out _ p4).mono ?_); rintro e w5 ⟨rfl, c5, o5⟩; have bk5 := Blk.only BK4.out o5.out HN.out.1; have rk5 := Blk.only RK4.out o5.out HN.out.2.1; have on5 := only_trans O4.out o5.out; have t5 := bk5.cell 2; have s5 := bk5.frozen 2; have BK5 : Hid (Blk (w5.setCell ⟨w.heap.size + 1, 2, none⟩ (.int .i64 nz)) (w.heap.size + 1) 79 #[.int .i64 (k : Int), .int .i64 ez, .int .i64 nz, .int .i64 (lf : Int), .slice none 0 0]) := bk5.set_ 2 _; have RK5 : Hid (Blk (w5.setCell ⟨w.heap.size + 1, 2, none⟩ (.int .i64 nz)) w.heap.size 79 #[.int .i64 0, .int .i64 0, .int .i64 0, .int .i64 0, .slice none 0 0]) := Blk.far rk5 HN.out.2.2.1 _; have p5 : Hid (Cur (w5.setCell ⟨w.heap.size + 1, 2, none⟩ (.int .i64 nz)) g (some M5)) := cur_set8 c5.out bk5 (no8_sec _ _ _ _ _ _ _) HN.out.2.2.2 _; have O5 : Hid (Only w (w5.setCell ⟨w.heap.size + 1, 2, none⟩ (.int .i64 nz)) g) := only_new on5 (by omega) _)
    | (go_at_call 56; (with_reducible refine (HT6.out _ p5).mono ?_); rintro e w6 ⟨A6, c6, rfl, r6, c6', o6⟩; have bk6 := Blk.only BK5.out o6.out HN.out.1; have rk6 := Blk.only RK5.out o6.out HN.out.2.1; have on6 := only_trans O5.out o6.out; have t6 := bk6.cell 4; have s6 := bk6.frozen 4; have BK6 : Hid (Blk (w6.setCell ⟨w.heap.size + 1, 4, none⟩ (.slice A6 sz c6)) (w.heap.size + 1) 79 #[.int .i64 (k : Int), .int .i64 ez, .int .i64 nz, .int .i64 (lf : Int), .slice A6 sz c6]) := bk6.set_ 4 _; have RK6 : Hid (Blk (w6.setCell ⟨w.heap.size + 1, 4, none⟩ (.slice A6 sz c6)) w.heap.size 79 #[.int .i64 0, .int .i64 0, .int .i64 0, .int .i64 0, .slice none 0 0]) := Blk.far rk6 HN.out.2.2.1 _; have p6 : Hid (Cur (w6.setCell ⟨w.heap.size + 1, 4, none⟩ (.slice A6 sz c6)) g (some R)) := cur_set8 c6'.out bk6 (no8_sec _ _ _ _ _ _ _) HN.out.2.2.2 _; have O6 : Hid (Only w (w6.setCell ⟨w.heap.size + 1, 4, none⟩ (.slice A6 sz c6)) g) := only_new on6 (by omega) _; have R6 := Lib.hid (rb_set8 (i := 4) r6.out bk6 (no8_sec _ _ _ _ _ _ _) (.slice A6 sz c6)))
    | (go_at_call 57; (with_reducible refine (HL.out _ p6).mono ?_); rintro e w' ⟨rfl, rfl⟩)
    | (go_at_call 56; (with_reducible refine (HT7.out _ p6).mono ?_); rintro e w7 ⟨A7, c7, rfl, r7, c7', o7⟩; have bk7 := Blk.only BK6.out o7.out HN.out.1; have rk7 := Blk.only RK6.out o7.out HN.out.2.1; have on7 := only_trans O6.out o7.out; have p7 := c7'; have v0 := bk7.cell 0; have v1 := bk7.cell 1; have v2 := bk7.cell 2; have v3 := bk7.cell 3; have v4 := bk7.cell 4; obtain ⟨_, _, _, _, gk7⟩ := cur_blk p6.out; have R7 := Lib.hid (rb_only8 R6.out gk7 (no8_cur _ _ _ _) o7.out))
    | (go_at_call 72; (with_reducible refine (HB.out _ p7).mono ?_); rintro e w' ⟨rfl, rfl⟩)
    | (go_at_call 58; (with_reducible refine (HMy.out _ _ _).mono ?_); rintro e w8 ⟨rfl, hb8⟩; have bk8 := bk7.below hb8 bk7.lt; have rk8 := rk7.below hb8 rk7.lt; have on8 := only_more on7 hb8)
    | (at_make; refine wpList_make_yes _ rfl (.tmp 42) (.tmp 42) 38 rfl w8.heap.size 5 i0 _ 1 Try.underlying38 hi0 hz0 hz1 .i64 .i64 _ _ r rfl rfl rfl rfl (by rw [hz2]; have := HR48.out; omega) (by have := HR48.out; unfold maxLen; omega) (Nat.le_refl _) ?_; intro w9 hown9 hg9; have hb9 := (Below.refl w8.heap.size w8).grown hg9 (Nat.le_refl _) (by simp); have ra9 := ((r7.out.below hb8).more hb8.size).below hb9 |>.more hb9.size; have rb9 := made_rb7 hown9; have bk9 := bk8.below hb9 bk8.lt; have rk9 := rk8.below hb9 rk8.lt; have on9 := only_more on8 hb9; clear hown9 hg9)
    | (go_at_call 67; (with_reducible refine (HEq.out _ _ _ _ _ ra9 rb9).mono ?_); rintro e w' ⟨rfl, rfl⟩; have z0 := rk9.cell 0; have y0 := rk9.frozen 0; have z1 := rk9.cell 1; have y1 := rk9.frozen 1; have z2 := rk9.cell 2; have y2 := rk9.frozen 2; have z3 := rk9.cell 3; have y3 := rk9.frozen 3; have z4 := rk9.cell 4; have y4 := rk9.frozen 4; have x0 := bk9.cell 0; have x1 := bk9.cell 1; have x2 := bk9.cell 2; have x3 := bk9.cell 3; have x4 := bk9.cell 4))
  refine bodyPost_ret (v := .tuple #[.agg #[.int .i64 0, .int .i64 0, .int .i64 0, .int .i64 0, .slice none 0 0], .bool false]) (by simp [results, Try.results53, go_sem, z0, z1, z2, z3, z4]) rfl ⟨none, 0, rfl, RB.none_ _ _, ?_⟩
  exact only_five on9 (Nat.le_refl _) _ _ _ _ _
theorem taken_ok (M : List UInt8) (hM : M.length = 60) (g : Nat) (w : World) (h : Cur w g (some M)) (h48 : (M.getD 1 0).toNat ≤ 48) (hm : Sd.may ⟨((M.getD 0 0).toNat : Int), capZ (unfixL ((M.drop 4).take 4)), capZ (unfixL ((M.drop 8).take 4)), (unfixL ((M.drop 2).take 2) : Int), (M.drop 12).take (M.getD 1 0).toNat⟩ = true) (hz : (M.drop 12).drop (M.getD 1 0).toNat = List.replicate (48 - (M.getD 1 0).toNat) 0) :
    Calls Try.prog 53 #[.pointer (some ⟨g, 0, none⟩)] w (GivesTn (⟨((M.getD 0 0).toNat : Int), capZ (unfixL ((M.drop 4).take 4)), capZ (unfixL ((M.drop 8).take 4)), (unfixL ((M.drop 2).take 2) : Int), (M.drop 12).take (M.getD 1 0).toNat⟩, true) g w) := by
  obtain ⟨i0, hi0, hz0, hz1, hz2⟩ := info_parts Try.info5
  obtain ⟨k, hk⟩ : ∃ x, x = (M.getD 0 0).toNat := ⟨_, rfl⟩
  obtain ⟨sz, hsz⟩ : ∃ x, x = (M.getD 1 0).toNat := ⟨_, rfl⟩
  obtain ⟨lf, hlf⟩ : ∃ x, x = unfixL ((M.drop 2).take 2) := ⟨_, rfl⟩
  obtain ⟨ez, hez⟩ : ∃ x, x = capZ (unfixL ((M.drop 4).take 4)) := ⟨_, rfl⟩
  obtain ⟨nz, hnz⟩ : ∃ x, x = capZ (unfixL ((M.drop 8).take 4)) := ⟨_, rfl⟩
  obtain ⟨M1, hM1⟩ : ∃ x, x = M.drop 1 := ⟨_, rfl⟩
  obtain ⟨M2, hM2⟩ : ∃ x, x = M.drop 2 := ⟨_, rfl⟩
  obtain ⟨M3, hM3⟩ : ∃ x, x = M.drop 4 := ⟨_, rfl⟩
  obtain ⟨M4, hM4⟩ : ∃ x, x = M.drop 8 := ⟨_, rfl⟩
  obtain ⟨M5, hM5⟩ : ∃ x, x = M.drop 12 := ⟨_, rfl⟩
  have HF1 : Hid (∀ W, Hid (Cur W g (some M)) → Calls Try.prog 71 #[(.func (.func 56) #[.pointer (some ⟨g, 0, none⟩)] #[]), .int .i64 1] W fun e w' => e = .returned (.int .i64 (k : Int)) ∧ Hid (Cur w' g (some M1)) ∧ Hid (Only W w' g)) := fun W h => by
    have h1 := field_any g 1 (some M) W h.out
    have hl : 1 ≤ M.length := by omega
    have h2 : stepTake 1 (some M) = (some M1, M.take 1) := by rw [show (1 : Int) = ((1 : Nat) : Int) from rfl, step_ok hl, show M.drop 1 = M1 from by rw [hM1]]
    have h3 : fieldZ (M.take 1) = (k : Int) := by rw [fieldZ_small (by simp; omega) (by simp; omega), hk, ← unfix_one M 0 (by omega)]; rfl
    rw [h2] at h1
    simp only [h3] at h1
    exact h1
  have HF2 : Hid (∀ W, Hid (Cur W g (some M1)) → Calls Try.prog 71 #[(.func (.func 56) #[.pointer (some ⟨g, 0, none⟩)] #[]), .int .i64 1] W fun e w' => e = .returned (.int .i64 (sz : Int)) ∧ Hid (Cur w' g (some M2)) ∧ Hid (Only W w' g)) := fun W h => by
    have h1 := field_any g 1 (some M1) W h.out
    have hl : 1 ≤ M1.length := by rw [hM1, List.length_drop]; omega
    have h2 : stepTake 1 (some M1) = (some M2, M1.take 1) := by rw [show (1 : Int) = ((1 : Nat) : Int) from rfl, step_ok hl, show M1.drop 1 = M2 from by rw [hM2, hM1, List.drop_drop]]
    have h3 : fieldZ (M1.take 1) = (sz : Int) := by rw [hM1, fieldZ_small (by simp; omega) (by simp; omega), hsz, ← unfix_one M 1 (by omega)]
    rw [h2] at h1
    simp only [h3] at h1
    exact h1
  have HF3 : Hid (∀ W, Hid (Cur W g (some M2)) → Calls Try.prog 71 #[(.func (.func 56) #[.pointer (some ⟨g, 0, none⟩)] #[]), .int .i64 2] W fun e w' => e = .returned (.int .i64 (lf : Int)) ∧ Hid (Cur w' g (some M3)) ∧ Hid (Only W w' g)) := fun W h => by
    have h1 := field_any g 2 (some M2) W h.out
    have hl : 2 ≤ M2.length := by rw [hM2, List.length_drop]; omega
    have h2 : stepTake 2 (some M2) = (some M3, M2.take 2) := by rw [show (2 : Int) = ((2 : Nat) : Int) from rfl, step_ok hl, show M2.drop 2 = M3 from by rw [hM3, hM2, List.drop_drop]]
    have h3 : fieldZ (M2.take 2) = (lf : Int) := by rw [hM2, fieldZ_small (by simp; omega) (by simp; omega), hlf]
    rw [h2] at h1
    simp only [h3] at h1
    exact h1
  have HF4 : Hid (∀ W, Hid (Cur W g (some M3)) → Calls Try.prog 71 #[(.func (.func 56) #[.pointer (some ⟨g, 0, none⟩)] #[]), .int .i64 4] W fun e w' => e = .returned (.int .i64 ez) ∧ Hid (Cur w' g (some M4)) ∧ Hid (Only W w' g)) := fun W h => by
    have h1 := field_any g 4 (some M3) W h.out
    have hl : 4 ≤ M3.length := by rw [hM3, List.length_drop]; omega
    have h2 : stepTake 4 (some M3) = (some M4, M3.take 4) := by rw [show (4 : Int) = ((4 : Nat) : Int) from rfl, step_ok hl, show M3.drop 4 = M4 from by rw [hM4, hM3, List.drop_drop]]
    have h3 : fieldZ (M3.take 4) = ez := by rw [hM3, fieldZ_cap (by simp; omega) (by simp; omega), hez]
    rw [h2] at h1
    simp only [h3] at h1
    exact h1
  have HF5 : Hid (∀ W, Hid (Cur W g (some M4)) → Calls Try.prog 71 #[(.func (.func 56) #[.pointer (some ⟨g, 0, none⟩)] #[]), .int .i64 4] W fun e w' => e = .returned (.int .i64 nz) ∧ Hid (Cur w' g (some M5)) ∧ Hid (Only W w' g)) := fun W h => by
    have h1 := field_any g 4 (some M4) W h.out
    have hl : 4 ≤ M4.length := by rw [hM4, List.length_drop]; omega
    have h2 : stepTake 4 (some M4) = (some M5, M4.take 4) := by rw [show (4 : Int) = ((4 : Nat) : Int) from rfl, step_ok hl, show M4.drop 4 = M5 from by rw [hM5, hM4, List.drop_drop]]
    have h3 : fieldZ (M4.take 4) = nz := by rw [hM4, fieldZ_cap (by simp; omega) (by simp; omega), hnz]
    rw [h2] at h1
    simp only [h3] at h1
    exact h1
  obtain ⟨r, hr⟩ : ∃ x, x = 48 - sz := ⟨_, rfl⟩
  obtain ⟨D, hD⟩ : ∃ x, x = M5.take sz := ⟨_, rfl⟩
  obtain ⟨R, hR⟩ : ∃ x, x = M5.drop sz := ⟨_, rfl⟩
  rw [← hsz] at h48
  have hm : Sd.may ⟨(k : Int), ez, nz, (lf : Int), D⟩ = true := by rw [hk, hez, hnz, hlf, hD, hM5, hsz]; exact hm
  have hze : decide (R = List.replicate r 0) = true := by rw [hR, hr, hM5, hsz]; exact decide_eq_true hz
  have l5 : M5.length = 48 := by rw [hM5, List.length_drop, hM]
  have lD : D.length = sz := by rw [hD, List.length_take]; omega
  have lR : R.length = r := by rw [hR, List.length_drop]; omega
  have HT6 : Hid (∀ W, Hid (Cur W g (some M5)) → Calls Try.prog 56 #[.pointer (some ⟨g, 0, none⟩), .int .i64 (sz : Int)] W fun e w' => ∃ A c, e = .returned (.slice A sz c) ∧ Hid (RB w' w'.heap.size A D) ∧ Hid (Cur w' g (some R)) ∧ Hid (Only W w' g) ∧ Hid (∀ ad, A = some ad → W.heap.size ≤ ad.block)) := fun W h => by
    have h1 := take_at W.heap.size g (sz : Int) (some M5) W h.out.at_ (Nat.le_refl _)
    rw [step_ok (by omega), ← hD, ← hR] at h1
    refine h1.mono fun e w' hh => ?_
    obtain ⟨A, c, he, h2, h5, h3, h4⟩ := hh
    simp only [lD] at he
    exact ⟨A, c, he, h2, h3.cur h4.size, h4, h5⟩
  have HT7 : Hid (∀ W, Hid (Cur W g (some R)) → Calls Try.prog 56 #[.pointer (some ⟨g, 0, none⟩), .int .i64 (r : Int)] W fun e w' => ∃ A c, e = .returned (.slice A r c) ∧ Hid (RB w' w'.heap.size A R) ∧ Hid (Cur w' g (some [])) ∧ Hid (Only W w' g)) := fun W h => by
    have h1 := take_any g (r : Int) (some R) W h.out
    rw [step_ok (by omega), List.take_of_length_le (by omega), List.drop_of_length_le (by omega)] at h1
    refine h1.mono fun e w' hh => ?_
    obtain ⟨A, c, he, h2, h3, h4⟩ := hh
    simp only [lR] at he
    exact ⟨A, c, he, h2, h3, h4⟩
  have HL : Hid (∀ W, Hid (Cur W g (some R)) → Calls Try.prog 57 #[.pointer (some ⟨g, 0, none⟩)] W fun e w' => e = .returned (.int .i64 (r : Int)) ∧ W = w') := fun W h => by
    have h1 := left_any g (some R) W h.out
    simp only [leftN, lR] at h1
    exact h1
  have HB : Hid (∀ W, Hid (Cur W g (some [])) → Calls Try.prog 72 #[.pointer (some ⟨g, 0, none⟩)] W fun e w' => e = .returned (.bool false) ∧ W = w') := fun W h => bad_any g (some []) W h.out
  have HV : Hid ((⟨((M.getD 0 0).toNat : Int), capZ (unfixL ((M.drop 4).take 4)), capZ (unfixL ((M.drop 8).take 4)), (unfixL ((M.drop 2).take 2) : Int), (M.drop 12).take (M.getD 1 0).toNat⟩ : Sd) = ⟨(k : Int), ez, nz, (lf : Int), D⟩ ∧ D.length = sz) := ⟨by rw [hk, hez, hnz, hlf, hD, hM5, hsz], lD⟩
  have HMy : Hid (∀ W (A : Option Addr) (c : Nat), Calls Try.prog 58 #[.agg #[.int .i64 (k : Int), .int .i64 ez, .int .i64 nz, .int .i64 (lf : Int), .slice A sz c]] W fun e w' => e = .returned (.bool true) ∧ Below W.heap.size W w') := fun W A c => by
    have h1 := maybe_any ⟨(k : Int), ez, nz, (lf : Int), D⟩ A c W
    rw [hm] at h1
    unfold secV at h1
    simp only [lD] at h1
    exact h1
  have HEq : Hid (∀ W (A A' : Option Addr) (c c' : Nat), RB W W.heap.size A R → RB W W.heap.size A' (List.replicate r 0) → Calls Try.prog 67 #[.slice A r c, .slice A' r c'] W fun e w' => e = .returned (.bool true) ∧ W = w') := fun W A A' c c' h1 h2 => by
    have h3 := equal_any R (List.replicate r 0) A A' c c' _ _ W h1 h2
    rw [List.length_replicate, lR, hze] at h3
    exact h3
  have HN : Hid (w.heap.size + 1 ≠ g ∧ w.heap.size ≠ g ∧ w.heap.size ≠ w.heap.size + 1 ∧ g ≠ w.heap.size + 1) := by
    obtain ⟨_, _, _, _, hb⟩ := cur_blk h
    have := hb.lt
    exact ⟨by omega, by omega, by omega, by omega⟩
  have p0 : Hid (Cur ((w.alloc (.cells #[.int .i64 0, .int .i64 0, .int .i64 0, .int .i64 0, .slice none 0 0] 79)).alloc (.cells #[.int .i64 0, .int .i64 0, .int .i64 0, .int .i64 0, .slice none 0 0] 79)) g (some M)) := cur_alloc (cur_alloc h _) _
  have bk0 : Hid (Blk ((w.alloc (.cells #[.int .i64 0, .int .i64 0, .int .i64 0, .int .i64 0, .slice none 0 0] 79)).alloc (.cells #[.int .i64 0, .int .i64 0, .int .i64 0, .int .i64 0, .slice none 0 0] 79)) (w.heap.size + 1) 79 #[.int .i64 0, .int .i64 0, .int .i64 0, .int .i64 0, .slice none 0 0]) := by have := Blk.new (w.alloc (.cells #[.int .i64 0, .int .i64 0, .int .i64 0, .int .i64 0, .slice none 0 0] 79)) 79 #[.int .i64 0, .int .i64 0, .int .i64 0, .int .i64 0, .slice none 0 0]; rwa [show (w.alloc (.cells #[.int .i64 0, .int .i64 0, .int .i64 0, .int .i64 0, .slice none 0 0] 79)).heap.size = w.heap.size + 1 by simp] at this
  have rk0 : Hid (Blk ((w.alloc (.cells #[.int .i64 0, .int .i64 0, .int .i64 0, .int .i64 0, .slice none 0 0] 79)).alloc (.cells #[.int .i64 0, .int .i64 0, .int .i64 0, .int .i64 0, .slice none 0 0] 79)) w.heap.size 79 #[.int .i64 0, .int .i64 0, .int .i64 0, .int .i64 0, .slice none 0 0]) := (Blk.new w _ _).alloc _
  have O0 : Hid (Only w ((w.alloc (.cells #[.int .i64 0, .int .i64 0, .int .i64 0, .int .i64 0, .slice none 0 0] 79)).alloc (.cells #[.int .i64 0, .int .i64 0, .int .i64 0, .int .i64 0, .slice none 0 0] 79)) g) := only_alloc (only_alloc (only_refl _ _) _) _
  have nb := fun w' => Try.secBuild0 w'
  have a24 := fun w' => Try.aggSec w'
  have s24 := fun w' => Try.sizeSec w'
  have hmf : ∀ (fn : Fn) (first cap : Array Value) (w : World), (Instr.makeFunc fn first cap).run Try.prog w = .ok (.func fn first cap) w := fun _ _ _ _ => rfl
  have HR48 : Hid (r ≤ 48) := by show r ≤ 48; omega
  clear hk hsz hlf hez hnz hM1 hM2 hM3 hM4 hM5 h hM h48 hm hr hD hR l5 lD lR hz hze
  go_enter Try.func53, Try.ntmps53
  go_wp2_with (first
    | (go_at_call 71; (with_reducible refine (HF1.out _ p0).mono ?_); rintro e w1 ⟨rfl, c1, o1⟩; have bk1 := Blk.only bk0.out o1.out HN.out.1; have rk1 := Blk.only rk0.out o1.out HN.out.2.1; have on1 := only_trans O0.out o1.out; have t1 := bk1.cell 0; have s1 := bk1.frozen 0; have BK1 : Hid (Blk (w1.setCell ⟨w.heap.size + 1, 0, none⟩ (.int .i64 (k : Int))) (w.heap.size + 1) 79 #[.int .i64 (k : Int), .int .i64 0, .int .i64 0, .int .i64 0, .slice none 0 0]) := bk1.set_ 0 _; have RK1 : Hid (Blk (w1.setCell ⟨w.heap.size + 1, 0, none⟩ (.int .i64 (k : Int))) w.heap.size 79 #[.int .i64 0, .int .i64 0, .int .i64 0, .int .i64 0, .slice none 0 0]) := Blk.far rk1 HN.out.2.2.1 _; have p1 : Hid (Cur (w1.setCell ⟨w.heap.size + 1, 0, none⟩ (.int .i64 (k : Int))) g (some M1)) := cur_set8 c1.out bk1 (no8_sec _ _ _ _ _ _ _) HN.out.2.2.2 _; have O1 : Hid (Only w (w1.setCell ⟨w.heap.size + 1, 0, none⟩ (.int .i64 (k : Int))) g) := only_new on1 (by omega) _)
    | (go_at_call 71; (with_reducible refine (HF2.out _ p1).mono ?_); rintro e w2 ⟨rfl, c2, o2⟩; have bk2 := Blk.only BK1.out o2.out HN.out.1; have rk2 := Blk.only RK1.out o2.out HN.out.2.1; have on2 := only_trans O1.out o2.out; have BK2 := Lib.hid bk2; have RK2 := Lib.hid rk2; have p2 := c2; have O2 := Lib.hid on2)
    | (go_at_call 71; (with_reducible refine (HF3.out _ p2).mono ?_); rintro e w3 ⟨rfl, c3, o3⟩; have bk3 := Blk.only BK2.out o3.out HN.out.1; have rk3 := Blk.only RK2.out o3.out HN.out.2.1; have on3 := only_trans O2.out o3.out; have t3 := bk3.cell 3; have s3 := bk3.frozen 3; have BK3 : Hid (Blk (w3.setCell ⟨w.heap.size + 1, 3, none⟩ (.int .i64 (lf : Int))) (w.heap.size + 1) 79 #[.int .i64 (k : Int), .int .i64 0, .int .i64 0, .int .i64 (lf : Int), .slice none 0 0]) := bk3.set_ 3 _; have RK3 : Hid (Blk (w3.setCell ⟨w.heap.size + 1, 3, none⟩ (.int .i64 (lf : Int))) w.heap.size 79 #[.int .i64 0, .int .i64 0, .int .i64 0, .int .i64 0, .slice none 0 0]) := Blk.far rk3 HN.out.2.2.1 _; have p3 : Hid (Cur (w3.setCell ⟨w.heap.size + 1, 3, none⟩ (.int .i64 (lf : Int))) g (some M3)) := cur_set8 c3.out bk3 (no8_sec _ _ _ _ _ _ _) HN.out.2.2.2 _; have O3 : Hid (Only w (w3.setCell ⟨w.heap.size + 1, 3, none⟩ (.int .i64 (lf : Int))) g) := only_new on3 (by omega) _)
    | (go_at_call 71; (with_reducible refine (HF4.out _ p3).mono ?_); rintro e w4 ⟨rfl, c4, o4⟩; have bk4 := Blk.only BK3.out o4.out HN.out.1; have rk4 := Blk.only RK3.out o4.out HN.out.2.1; have on4 := only_trans O3.out o4.out; have t4 := bk4.cell 1; have s4 := bk4.frozen 1; have BK4 : Hid (Blk (w4.setCell ⟨w.heap.size + 1, 1, none⟩ (.int .i64 ez)) (w.heap.size + 1) 79 #[.int .i64 (k : Int), .int .i64 ez, .int .i64 0, .int .i64 (lf : Int), .slice none 0 0]) := bk4.set_ 1 _; have RK4 : Hid (Blk (w4.setCell ⟨w.heap.size + 1, 1, none⟩ (.int .i64 ez)) w.heap.size 79 #[.int .i64 0, .int .i64 0, .int .i64 0, .int .i64 0, .slice none 0 0]) := Blk.far rk4 HN.out.2.2.1 _; have p4 : Hid (Cur (w4.setCell ⟨w.heap.size + 1, 1, none⟩ (.int .i64 ez)) g (some M4)) := cur_set8 c4.out bk4 (no8_sec _ _ _ _ _ _ _) HN.out.2.2.2 _; have O4 : Hid (Only w (w4.setCell ⟨w.heap.size + 1, 1, none⟩ (.int .i64 ez)) g) := only_new on4 (by omega) _)
    | (go_at_call 71; (with_reducible refine (HF5.out _ p4).mono ?_); rintro e w5 ⟨rfl, c5, o5⟩; have bk5 := Blk.only BK4.out o5.out HN.out.1; have rk5 := Blk.only RK4.out o5.out HN.out.2.1; have on5 := only_trans O4.out o5.out; have t5 := bk5.cell 2; have s5 := bk5.frozen 2; have BK5 : Hid (Blk (w5.setCell ⟨w.heap.size + 1, 2, none⟩ (.int .i64 nz)) (w.heap.size + 1) 79 #[.int .i64 (k : Int), .int .i64 ez, .int .i64 nz, .int .i64 (lf : Int), .slice none 0 0]) := bk5.set_ 2 _; have RK5 : Hid (Blk (w5.setCell ⟨w.heap.size + 1, 2, none⟩ (.int .i64 nz)) w.heap.size 79 #[.int .i64 0, .int .i64 0, .int .i64 0, .int .i64 0, .slice none 0 0]) := Blk.far rk5 HN.out.2.2.1 _; have p5 : Hid (Cur (w5.setCell ⟨w.heap.size + 1, 2, none⟩ (.int .i64 nz)) g (some M5)) := cur_set8 c5.out bk5 (no8_sec _ _ _ _ _ _ _) HN.out.2.2.2 _; have O5 : Hid (Only w (w5.setCell ⟨w.heap.size + 1, 2, none⟩ (.int .i64 nz)) g) := only_new on5 (by omega) _)
    | (go_at_call 56; (with_reducible refine (HT6.out _ p5).mono ?_); rintro e w6 ⟨A6, c6, rfl, r6, c6', o6, nw6⟩; have NW6 : Hid (∀ ad, A6 = some ad → w.heap.size ≤ ad.block) := fun ad e => Nat.le_trans O5.out.size (nw6.out ad e); have bk6 := Blk.only BK5.out o6.out HN.out.1; have rk6 := Blk.only RK5.out o6.out HN.out.2.1; have on6 := only_trans O5.out o6.out; have t6 := bk6.cell 4; have s6 := bk6.frozen 4; have BK6 : Hid (Blk (w6.setCell ⟨w.heap.size + 1, 4, none⟩ (.slice A6 sz c6)) (w.heap.size + 1) 79 #[.int .i64 (k : Int), .int .i64 ez, .int .i64 nz, .int .i64 (lf : Int), .slice A6 sz c6]) := bk6.set_ 4 _; have RK6 : Hid (Blk (w6.setCell ⟨w.heap.size + 1, 4, none⟩ (.slice A6 sz c6)) w.heap.size 79 #[.int .i64 0, .int .i64 0, .int .i64 0, .int .i64 0, .slice none 0 0]) := Blk.far rk6 HN.out.2.2.1 _; have p6 : Hid (Cur (w6.setCell ⟨w.heap.size + 1, 4, none⟩ (.slice A6 sz c6)) g (some R)) := cur_set8 c6'.out bk6 (no8_sec _ _ _ _ _ _ _) HN.out.2.2.2 _; have O6 : Hid (Only w (w6.setCell ⟨w.heap.size + 1, 4, none⟩ (.slice A6 sz c6)) g) := only_new on6 (by omega) _; have R6 := Lib.hid (rb_set8 (i := 4) r6.out bk6 (no8_sec _ _ _ _ _ _ _) (.slice A6 sz c6)))
    | (go_at_call 57; (with_reducible refine (HL.out _ p6).mono ?_); rintro e w' ⟨rfl, rfl⟩)
    | (go_at_call 56; (with_reducible refine (HT7.out _ p6).mono ?_); rintro e w7 ⟨A7, c7, rfl, r7, c7', o7⟩; have bk7 := Blk.only BK6.out o7.out HN.out.1; have rk7 := Blk.only RK6.out o7.out HN.out.2.1; have on7 := only_trans O6.out o7.out; have p7 := c7'; have v0 := bk7.cell 0; have v1 := bk7.cell 1; have v2 := bk7.cell 2; have v3 := bk7.cell 3; have v4 := bk7.cell 4; obtain ⟨_, _, _, _, gk7⟩ := cur_blk p6.out; have R7 := Lib.hid (rb_only8 R6.out gk7 (no8_cur _ _ _ _) o7.out))
    | (go_at_call 72; (with_reducible refine (HB.out _ p7).mono ?_); rintro e w' ⟨rfl, rfl⟩)
    | (go_at_call 58; (with_reducible refine (HMy.out _ _ _).mono ?_); rintro e w8 ⟨rfl, hb8⟩; have bk8 := bk7.below hb8 bk7.lt; have rk8 := rk7.below hb8 rk7.lt; have on8 := only_more on7 hb8)
    | (at_make; refine wpList_make_yes _ rfl (.tmp 42) (.tmp 42) 38 rfl w8.heap.size 5 i0 _ 1 Try.underlying38 hi0 hz0 hz1 .i64 .i64 _ _ r rfl rfl rfl rfl (by rw [hz2]; have := HR48.out; omega) (by have := HR48.out; unfold maxLen; omega) (Nat.le_refl _) ?_; intro w9 hown9 hg9; have hb9 := (Below.refl w8.heap.size w8).grown hg9 (Nat.le_refl _) (by simp); have ra9 := ((r7.out.below hb8).more hb8.size).below hb9 |>.more hb9.size; have rb9 := made_rb7 hown9; have bk9 := bk8.below hb9 bk8.lt; have rk9 := rk8.below hb9 rk8.lt; have on9 := only_more on8 hb9; clear hown9 hg9)
    | (go_at_call 67; (with_reducible refine (HEq.out _ _ _ _ _ ra9 rb9).mono ?_); rintro e w' ⟨rfl, rfl⟩; have z0 := rk9.cell 0; have y0 := rk9.frozen 0; have z1 := rk9.cell 1; have y1 := rk9.frozen 1; have z2 := rk9.cell 2; have y2 := rk9.frozen 2; have z3 := rk9.cell 3; have y3 := rk9.frozen 3; have z4 := rk9.cell 4; have y4 := rk9.frozen 4; have x0 := bk9.cell 0; have x1 := bk9.cell 1; have x2 := bk9.cell 2; have x3 := bk9.cell 3; have x4 := bk9.cell 4))
  refine bodyPost_ret (v := .tuple #[.agg #[.int .i64 (k : Int), .int .i64 ez, .int .i64 nz, .int .i64 (lf : Int), .slice A6 sz c6], .bool true]) (by simp [results, Try.results53, go_sem, z0, z1, z2, z3, z4]) rfl ⟨A6, c6, ?_, ?_, ?_, NW6.out⟩
  · rw [HV.out.1]
    show _ = Ending.returned (.tuple #[.agg #[_, _, _, _, .slice A6 D.length c6], _])
    rw [HV.out.2]
  · rw [HV.out.1]
    have r9 := rb_up7 (rb_up7 R7.out hb8) hb9
    have q := rk9
    exact rb_five r9 rk9 (no8_sec _ _ _ _ _ _ _) _ _ _ _ _
  · exact only_five on9 (Nat.le_refl _) _ _ _ _ _
end Go.Proofs.Ytghenhacndaelaa
