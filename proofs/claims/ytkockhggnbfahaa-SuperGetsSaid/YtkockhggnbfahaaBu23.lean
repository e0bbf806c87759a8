/- Lemmas under the proofs of this place: SectPTaken, SectRGetB, DiskPCrash. No statement is proved here. -/
import Derived.Test.YtkockhggnbfahaaBu15
import Derived.Test.YtkockhggnbfahaaBu21
import Derived.Test.YtkockhggnbfahaaBu22
section
set_option linter.unusedVariables false
set_option linter.unusedSimpArgs false
namespace Go.Proofs.Ytkockhggnbfahaa
open Go.RowKit
theorem step_ok {n : Nat} {L : List UInt8} (h : n ≤ L.length) : stepTake (n : Int) (some L) = (some (L.drop n), L.take n) := by
  simp only [stepTake]
  rw [if_neg (by omega)]
  simp
theorem step_no {n : Nat} {L : List UInt8} (h : L.length < n) : stepTake (n : Int) (some L) = (none, []) := by
  simp only [stepTake]
  rw [if_pos (by omega)]
def capZ (n : Nat) : Int := if n ≤ 2147483647 then (n : Int) else -1
theorem fieldZ_cap {L : List UInt8} (h1 : 1 ≤ L.length) (h4 : L.length ≤ 4) : fieldZ L = capZ (unfixL L) := by
  unfold fieldZ capZ
  by_cases h : unfixL L ≤ 2147483647
  · rw [unfix_ok rfl h1 h4 h, if_pos rfl, if_pos h]
  · rw [unfix_bad rfl h1 h4 h, if_neg (by decide), if_neg h]
theorem fieldZ_small {L : List UInt8} (h1 : 1 ≤ L.length) (h2 : L.length ≤ 2) : fieldZ L = (unfixL L : Int) := by
  have h := unfixL_lt L
  have h3 : (256 : Nat) ^ L.length ≤ 256 ^ 2 := Nat.pow_le_pow_right (by omega) h2
  rw [fieldZ_cap h1 (by omega)]
  unfold capZ
  rw [if_pos (by omega)]
theorem unfix_one (M : List UInt8) (i : Nat) (h : i < M.length) : unfixL ((M.drop i).take 1) = (M.getD i 0).toNat := by
  have e : (M.drop i).take 1 = [M[i]] := by
    rw [List.drop_eq_getElem_cons h]
    rfl
  have e2 : M.getD i 0 = M[i] := by simp [h]
  rw [e, e2]
  show M[i].toNat + 256 * 0 = _
  omega
theorem only_new {a w : World} {g gs i : Nat} (h : Only a w g) (hg : a.heap.size ≤ gs) (u : Value) : Only a (w.setCell ⟨gs, i, none⟩ u) g :=
  ⟨h.os, h.tape, h.output, by simpa [World.setCell] using h.size, fun k hk hn => (heap_setCell_other w ⟨gs, i, none⟩ k u (by show k ≠ gs; omega)).trans (h.block k hk hn)⟩
theorem only_five {a w : World} {g gs : Nat} (h : Only a w g) (hg : a.heap.size ≤ gs) (v0 v1 v2 v3 v4 : Value) : Only a (((((w.setCell ⟨gs, 0, none⟩ v0).setCell ⟨gs, 1, none⟩ v1).setCell ⟨gs, 2, none⟩ v2).setCell ⟨gs, 3, none⟩ v3).setCell ⟨gs, 4, none⟩ v4) g :=
  only_new (only_new (only_new (only_new (only_new h hg _) hg _) hg _) hg _) hg _
theorem only_more {a b w : World} {g : Nat} (h : Only a b g) (hb : Below b.heap.size b w) : Only a w g := only_trans h (only_below hb g)
theorem wpList_make_yes {P : Program} (w : World) {ops : Array Oper} {rest : List Oper} {o : Oper} {a : Act} {Q : Exit → Act → World → Prop}
    (hw : Region.wanted o (yielded ops a.tmps) = true) (l c : Operand) (t : TypeId) (hop : o.op = Op.makeSlice t l c)
    (base : Nat) (e : TypeId) (i : TypeInfo) (z : Value) (size : Nat) (h1 : P.underlying t = some (.slice e)) (h2 : P.info? e = some i) (h3 : i.zero = some z) (h4 : i.size = size)
    (kl kc : IntKind) (L C : Int) (n : Nat) (hl : a.eval l = .int kl L) (hc : a.eval c = .int kc C) (hL : L = (n : Int)) (hC : C = (n : Int)) (b2 : i.bytes * n ≤ 281474976710656) (b3 : n ≤ maxLen) (b4 : base ≤ w.heap.size)
    (hK : ∀ w', w'.ownsRow base e size (.slice (some ⟨w.heap.size, 0, none⟩) n n) n (madeCells z.cells (n * size)).toList → w.grownBy w' none → wpList P ops Q rest (a.put o.dst (.slice (some ⟨w.heap.size, 0, none⟩) n n)) w') :
    wpList P ops Q (o :: rest) a w := by
  refine wpList_wanted hw fun K hK' => ?_
  obtain ⟨w', hrun, r1, r2⟩ := run_make_full (P := P) w base t e i z size h1 h2 h3 h4 kl kc n b2 b3 b4
  subst hL
  subst hC
  unfold Oper.wp
  simp [execOp, hop, hl, hc, hrun, Result.andThen]
  exact hK' _ _ (hK w' r1 r2)
theorem made_rb7 {w w' : World} {r : Nat} (h : w'.ownsRow w.heap.size 5 1 (.slice (some ⟨w.heap.size, 0, none⟩) r r) r (madeCells (Value.int .u8 0).cells (r * 1)).toList) : RB w' w'.heap.size (some ⟨w.heap.size, 0, none⟩) (List.replicate r 0) := by
  simp only [Nat.mul_one, show (Value.int IntKind.u8 0).cells = #[Value.int IntKind.u8 0] from rfl, toList_madeCells_one] at h
  have h2 := Reads.of_own h
  unfold RB
  rw [List.length_replicate]
  have e : cells (List.replicate r 0) = List.replicate r (Value.int .u8 0) := by simp [cells]
  rw [e]
  exact h2
theorem rb_five {w : World} {g : Nat} {A : Option Addr} {L : List UInt8} {t : TypeId} {cs : Array Value} (h : RB w w.heap.size A L) (hg : Blk w g t cs) (hcs : No8 cs) (v0 v1 v2 v3 v4 : Value) : RB (((((w.setCell ⟨g, 0, none⟩ v0).setCell ⟨g, 1, none⟩ v1).setCell ⟨g, 2, none⟩ v2).setCell ⟨g, 3, none⟩ v3).setCell ⟨g, 4, none⟩ v4) (((((w.setCell ⟨g, 0, none⟩ v0).setCell ⟨g, 1, none⟩ v1).setCell ⟨g, 2, none⟩ v2).setCell ⟨g, 3, none⟩ v3).setCell ⟨g, 4, none⟩ v4).heap.size A L :=
  rb_only8 h hg hcs (only_trans (only_trans (only_trans (only_trans (only_set _ _ _ _) (only_set _ _ _ _)) (only_set _ _ _ _)) (only_set _ _ _ _)) (only_set _ _ _ _))
def GivesT (r : Sd × Bool) (g : Nat) (w : World) (e : Ending) (w' : World) : Prop :=
  ∃ A c, e = .returned (.tuple #[secV r.1 A c, .bool r.2]) ∧ RB w' w'.heap.size A r.1.data ∧ Only w w' g
set_option maxRecDepth 100000 in
set_option maxHeartbeats 8000000 in
theorem taken_long (M : List UInt8) (hM : M.length = 60) (g : Nat) (w : World) (h : Cur w g (some M)) (h48 : 48 < (M.getD 1 0).toNat) :
    Calls Try.prog 71 #[.pointer (some ⟨g, 0, none⟩)] w (GivesT (.zero, false) g w) := by
  obtain ⟨k, hk⟩ : ∃ x, x = (M.getD 0 0).toNat := ⟨_, rfl⟩
  obtain ⟨sz, hsz⟩ : ∃ x, x = (M.getD 1 0).toNat := ⟨_, rfl⟩
  obtain ⟨lf, hlf⟩ : ∃ x, x = unfixL ((M.drop 2).take 2) := ⟨_, rfl⟩
  obtain ⟨ez, hez⟩ : ∃ x, x = capZ (unfixL ((M.drop 4).take 4)) := ⟨_, rfl⟩
  obtain ⟨nz, hnz⟩ : ∃ x, x = capZ (unfixL ((M.drop 8).take 4)) := ⟨_, rfl⟩
  obtain ⟨M1, hM1⟩ : ∃ x, x = M.drop 1 := ⟨_, rfl⟩
  obtain ⟨M2, hM2⟩ : ∃ x, x = M.drop 2 := ⟨_, rfl⟩
  obtain ⟨M3, hM3⟩ : ∃ x, x = M.drop 4 := ⟨_, rfl⟩
  obtain ⟨M4, hM4⟩ : ∃ x, x = M.drop 8 := ⟨_, rfl⟩
  obtain ⟨M5, hM5⟩ : ∃ x, x = M.drop 12 := ⟨_, rfl⟩
  have HF1 : Hid (∀ W, Hid (Cur W g (some M)) → Calls Try.prog 92 #[(.func (.func 74) #[.pointer (some ⟨g, 0, none⟩)] #[]), .int .i64 1] W fun e w' => e = .returned (.int .i64 (k : Int)) ∧ Hid (Cur w' g (some M1)) ∧ Hid (Only W w' g)) := fun W h => by
    have h1 := field_any g 1 (some M) W h.out
    have hl : 1 ≤ M.length := by omega
    have h2 : stepTake 1 (some M) = (some M1, M.take 1) := by rw [show (1 : Int) = ((1 : Nat) : Int) from rfl, step_ok hl, show M.drop 1 = M1 from by rw [hM1]]
    have h3 : fieldZ (M.take 1) = (k : Int) := by rw [fieldZ_small (by simp; omega) (by simp; omega), hk, ← unfix_one M 0 (by omega)]; rfl
    rw [h2] at h1
    simp only [h3] at h1
    exact h1
  have HF2 : Hid (∀ W, Hid (Cur W g (some M1)) → Calls Try.prog 92 #[(.func (.func 74) #[.pointer (some ⟨g, 0, none⟩)] #[]), .int .i64 1] W fun e w' => e = .returned (.int .i64 (sz : Int)) ∧ Hid (Cur w' g (some M2)) ∧ Hid (Only W w' g)) := fun W h => by
    have h1 := field_any g 1 (some M1) W h.out
    have hl : 1 ≤ M1.length := by rw [hM1, List.length_drop]; omega
    have h2 : stepTake 1 (some M1) = (some M2, M1.take 1) := by rw [show (1 : Int) = ((1 : Nat) : Int) from rfl, step_ok hl, show M1.drop 1 = M2 from by rw [hM2, hM1, List.drop_drop]]
    have h3 : fieldZ (M1.take 1) = (sz : Int) := by rw [hM1, fieldZ_small (by simp; omega) (by simp; omega), hsz, ← unfix_one M 1 (by omega)]
    rw [h2] at h1
    simp only [h3] at h1
    exact h1
  have HF3 : Hid (∀ W, Hid (Cur W g (some M2)) → Calls Try.prog 92 #[(.func (.func 74) #[.pointer (some ⟨g, 0, none⟩)] #[]), .int .i64 2] W fun e w' => e = .returned (.int .i64 (lf : Int)) ∧ Hid (Cur w' g (some M3)) ∧ Hid (Only W w' g)) := fun W h => by
    have h1 := field_any g 2 (some M2) W h.out
    have hl : 2 ≤ M2.length := by rw [hM2, List.length_drop]; omega
    have h2 : stepTake 2 (some M2) = (some M3, M2.take 2) := by rw [show (2 : Int) = ((2 : Nat) : Int) from rfl, step_ok hl, show M2.drop 2 = M3 from by rw [hM3, hM2, List.drop_drop]]
    have h3 : fieldZ (M2.take 2) = (lf : Int) := by rw [hM2, fieldZ_small (by simp; omega) (by simp; omega), hlf]
    rw [h2] at h1
    simp only [h3] at h1
    exact h1
  have HF4 : Hid (∀ W, Hid (Cur W g (some M3)) → Calls Try.prog 92 #[(.func (.func 74) #[.pointer (some ⟨g, 0, none⟩)] #[]), .int .i64 4] W fun e w' => e = .returned (.int .i64 ez) ∧ Hid (Cur w' g (some M4)) ∧ Hid (Only W w' g)) := fun W h => by
    have h1 := field_any g 4 (some M3) W h.out
    have hl : 4 ≤ M3.length := by rw [hM3, List.length_drop]; omega
    have h2 : stepTake 4 (some M3) = (some M4, M3.take 4) := by rw [show (4 : Int) = ((4 : Nat) : Int) from rfl, step_ok hl, show M3.drop 4 = M4 from by rw [hM4, hM3, List.drop_drop]]
    have h3 : fieldZ (M3.take 4) = ez := by rw [hM3, fieldZ_cap (by simp; omega) (by simp; omega), hez]
    rw [h2] at h1
    simp only [h3] at h1
    exact h1
  have HF5 : Hid (∀ W, Hid (Cur W g (some M4)) → Calls Try.prog 92 #[(.func (.func 74) #[.pointer (some ⟨g, 0, none⟩)] #[]), .int .i64 4] W fun e w' => e = .returned (.int .i64 nz) ∧ Hid (Cur w' g (some M5)) ∧ Hid (Only W w' g)) := fun W h => by
    have h1 := field_any g 4 (some M4) W h.out
    have hl : 4 ≤ M4.length := by rw [hM4, List.length_drop]; omega
    have h2 : stepTake 4 (some M4) = (some M5, M4.take 4) := by rw [show (4 : Int) = ((4 : Nat) : Int) from rfl, step_ok hl, show M4.drop 4 = M5 from by rw [hM5, hM4, List.drop_drop]]
    have h3 : fieldZ (M4.take 4) = nz := by rw [hM4, fieldZ_cap (by simp; omega) (by simp; omega), hnz]
    rw [h2] at h1
    simp only [h3] at h1
    exact h1
  have HT6 : Hid (∀ W, Hid (Cur W g (some M5)) → Calls Try.prog 74 #[.pointer (some ⟨g, 0, none⟩), .int .i64 (sz : Int)] W fun e w' => ∃ A c, e = .returned (.slice A 0 c) ∧ Hid (RB w' w'.heap.size A []) ∧ Hid (Cur w' g none) ∧ Hid (Only W w' g)) := fun W h => by
    have h1 := take_any g (sz : Int) (some M5) W h.out
    rw [step_no (by rw [hM5, List.length_drop]; omega)] at h1
    exact h1
  have HT7 : Hid (∀ W, Hid (Cur W g none) → Calls Try.prog 74 #[.pointer (some ⟨g, 0, none⟩), .int .i64 0] W fun e w' => ∃ A c, e = .returned (.slice A 0 c) ∧ Hid (RB w' w'.heap.size A []) ∧ Hid (Cur w' g none) ∧ Hid (Only W w' g)) := fun W h => by
    have h1 := take_any g 0 none W h.out
    exact h1
  have HL : Hid (∀ W, Hid (Cur W g none) → Calls Try.prog 34 #[.pointer (some ⟨g, 0, none⟩)] W fun e w' => e = .returned (.int .i64 0) ∧ W = w') := fun W h => left_any g none W h.out
  have HB : Hid (∀ W, Hid (Cur W g none) → Calls Try.prog 75 #[.pointer (some ⟨g, 0, none⟩)] W fun e w' => e = .returned (.bool true) ∧ W = w') := fun W h => bad_any g none W h.out
  have HN : Hid (w.heap.size + 1 ≠ g ∧ w.heap.size ≠ g ∧ w.heap.size ≠ w.heap.size + 1 ∧ g ≠ w.heap.size + 1) := by
    obtain ⟨_, _, _, _, hb⟩ := cur_blk h
    have := hb.lt
    exact ⟨by omega, by omega, by omega, by omega⟩
  have p0 : Hid (Cur ((w.alloc (.cells #[.int .i64 0, .int .i64 0, .int .i64 0, .int .i64 0, .slice none 0 0] 70)).alloc (.cells #[.int .i64 0, .int .i64 0, .int .i64 0, .int .i64 0, .slice none 0 0] 70)) g (some M)) := cur_alloc (cur_alloc h _) _
  have bk0 : Hid (Blk ((w.alloc (.cells #[.int .i64 0, .int .i64 0, .int .i64 0, .int .i64 0, .slice none 0 0] 70)).alloc (.cells #[.int .i64 0, .int .i64 0, .int .i64 0, .int .i64 0, .slice none 0 0] 70)) (w.heap.size + 1) 70 #[.int .i64 0, .int .i64 0, .int .i64 0, .int .i64 0, .slice none 0 0]) := by have := Blk.new (w.alloc (.cells #[.int .i64 0, .int .i64 0, .int .i64 0, .int .i64 0, .slice none 0 0] 70)) 70 #[.int .i64 0, .int .i64 0, .int .i64 0, .int .i64 0, .slice none 0 0]; rwa [show (w.alloc (.cells #[.int .i64 0, .int .i64 0, .int .i64 0, .int .i64 0, .slice none 0 0] 70)).heap.size = w.heap.size + 1 by simp] at this
  have rk0 : Hid (Blk ((w.alloc (.cells #[.int .i64 0, .int .i64 0, .int .i64 0, .int .i64 0, .slice none 0 0] 70)).alloc (.cells #[.int .i64 0, .int .i64 0, .int .i64 0, .int .i64 0, .slice none 0 0] 70)) w.heap.size 70 #[.int .i64 0, .int .i64 0, .int .i64 0, .int .i64 0, .slice none 0 0]) := (Blk.new w _ _).alloc _
  have O0 : Hid (Only w ((w.alloc (.cells #[.int .i64 0, .int .i64 0, .int .i64 0, .int .i64 0, .slice none 0 0] 70)).alloc (.cells #[.int .i64 0, .int .i64 0, .int .i64 0, .int .i64 0, .slice none 0 0] 70)) g) := only_alloc (only_alloc (only_refl _ _) _) _
  have nb := fun w' => Try.secBuild0 w'
  have a24 := fun w' => Try.aggSec w'
  have s24 := fun w' => Try.sizeSec w'
  have hmf : ∀ (fn : Fn) (first cap : Array Value) (w : World), (Instr.makeFunc fn first cap).run Try.prog w = .ok (.func fn first cap) w := fun _ _ _ _ => rfl
  clear hk hsz hlf hez hnz hM1 hM2 hM3 hM4 hM5 h hM h48
  go_enter Try.func71, Try.ntmps71
  go_wp2_with (first
    | (go_at_call 92; (with_reducible refine (HF1.out _ p0).mono ?_); rintro e w1 ⟨rfl, c1, o1⟩; have bk1 := Blk.only bk0.out o1.out HN.out.1; have rk1 := Blk.only rk0.out o1.out HN.out.2.1; have on1 := only_trans O0.out o1.out; have t1 := bk1.cell 0; have s1 := bk1.frozen 0; have BK1 : Hid (Blk (w1.setCell ⟨w.heap.size + 1, 0, none⟩ (.int .i64 (k : Int))) (w.heap.size + 1) 70 #[.int .i64 (k : Int), .int .i64 0, .int .i64 0, .int .i64 0, .slice none 0 0]) := bk1.set_ 0 _; have RK1 : Hid (Blk (w1.setCell ⟨w.heap.size + 1, 0, none⟩ (.int .i64 (k : Int))) w.heap.size 70 #[.int .i64 0, .int .i64 0, .int .i64 0, .int .i64 0, .slice none 0 0]) := Blk.far rk1 HN.out.2.2.1 _; have p1 : Hid (Cur (w1.setCell ⟨w.heap.size + 1, 0, none⟩ (.int .i64 (k : Int))) g (some M1)) := cur_set8 c1.out bk1 (no8_sec _ _ _ _ _ _ _) HN.out.2.2.2 _; have O1 : Hid (Only w (w1.setCell ⟨w.heap.size + 1, 0, none⟩ (.int .i64 (k : Int))) g) := only_new on1 (by omega) _)
    | (go_at_call 92; (with_reducible refine (HF2.out _ p1).mono ?_); rintro e w2 ⟨rfl, c2, o2⟩; have bk2 := Blk.only BK1.out o2.out HN.out.1; have rk2 := Blk.only RK1.out o2.out HN.out.2.1; have on2 := only_trans O1.out o2.out; have BK2 := Lib.hid bk2; have RK2 := Lib.hid rk2; have p2 := c2; have O2 := Lib.hid on2)
    | (go_at_call 92; (with_reducible refine (HF3.out _ p2).mono ?_); rintro e w3 ⟨rfl, c3, o3⟩; have bk3 := Blk.only BK2.out o3.out HN.out.1; have rk3 := Blk.only RK2.out o3.out HN.out.2.1; have on3 := only_trans O2.out o3.out; have t3 := bk3.cell 3; have s3 := bk3.frozen 3; have BK3 : Hid (Blk (w3.setCell ⟨w.heap.size + 1, 3, none⟩ (.int .i64 (lf : Int))) (w.heap.size + 1) 70 #[.int .i64 (k : Int), .int .i64 0, .int .i64 0, .int .i64 (lf : Int), .slice none 0 0]) := bk3.set_ 3 _; have RK3 : Hid (Blk (w3.setCell ⟨w.heap.size + 1, 3, none⟩ (.int .i64 (lf : Int))) w.heap.size 70 #[.int .i64 0, .int .i64 0, .int .i64 0, .int .i64 0, .slice none 0 0]) := Blk.far rk3 HN.out.2.2.1 _; have p3 : Hid (Cur (w3.setCell ⟨w.heap.size + 1, 3, none⟩ (.int .i64 (lf : Int))) g (some M3)) := cur_set8 c3.out bk3 (no8_sec _ _ _ _ _ _ _) HN.out.2.2.2 _; have O3 : Hid (Only w (w3.setCell ⟨w.heap.size + 1, 3, none⟩ (.int .i64 (lf : Int))) g) := only_new on3 (by omega) _)
    | (go_at_call 92; (with_reducible refine (HF4.out _ p3).mono ?_); rintro e w4 ⟨rfl, c4, o4⟩; have bk4 := Blk.only BK3.out o4.out HN.out.1; have rk4 := Blk.only RK3.out o4.out HN.out.2.1; have on4 := only_trans O3.out o4.out; have t4 := bk4.cell 1; have s4 := bk4.frozen 1; have BK4 : Hid (Blk (w4.setCell ⟨w.heap.size + 1, 1, none⟩ (.int .i64 ez)) (w.heap.size + 1) 70 #[.int .i64 (k : Int), .int .i64 ez, .int .i64 0, .int .i64 (lf : Int), .slice none 0 0]) := bk4.set_ 1 _; have RK4 : Hid (Blk (w4.setCell ⟨w.heap.size + 1, 1, none⟩ (.int .i64 ez)) w.heap.size 70 #[.int .i64 0, .int .i64 0, .int .i64 0, .int .i64 0, .slice none 0 0]) := Blk.far rk4 HN.out.2.2.1 _; have p4 : Hid (Cur (w4.setCell ⟨w.heap.size + 1, 1, none⟩ (.int .i64 ez)) g (some M4)) := cur_set8 c4.out bk4 (no8_sec _ _ _ _ _ _ _) HN.out.2.2.2 _; have O4 : Hid (Only w (w4.setCell ⟨w.heap.size + 1, 1, none⟩ (.int .i64 ez)) g) := only_new on4 (by omega) _)
    | (go_at_call 92; (with_reducible refine (HF5.out _ p4).mono ?_); rintro e w5 ⟨rfl, c5, o5⟩; have bk5 := Blk.only BK4.out o5.out HN.out.1; have rk5 := Blk.only RK4.out o5.out HN.out.2.1; have on5 := only_trans O4.out o5.out; have t5 := bk5.cell 2; have s5 := bk5.frozen 2; have BK5 : Hid (Blk (w5.setCell ⟨w.heap.size + 1, 2, none⟩ (.int .i64 nz)) (w.heap.size + 1) 70 #[.int .i64 (k : Int), .int .i64 ez, .int .i64 nz, .int .i64 (lf : Int), .slice none 0 0]) := bk5.set_ 2 _; have RK5 : Hid (Blk (w5.setCell ⟨w.heap.size + 1, 2, none⟩ (.int .i64 nz)) w.heap.size 70 #[.int .i64 0, .int .i64 0, .int .i64 0, .int .i64 0, .slice none 0 0]) := Blk.far rk5 HN.out.2.2.1 _; have p5 : Hid (Cur (w5.setCell ⟨w.heap.size + 1, 2, none⟩ (.int .i64 nz)) g (some M5)) := cur_set8 c5.out bk5 (no8_sec _ _ _ _ _ _ _) HN.out.2.2.2 _; have O5 : Hid (Only w (w5.setCell ⟨w.heap.size + 1, 2, none⟩ (.int .i64 nz)) g) := only_new on5 (by omega) _)
    | (go_at_call 74; (with_reducible refine (HT6.out _ p5).mono ?_); rintro e w6 ⟨A6, c6, rfl, r6, c6', o6⟩; have bk6 := Blk.only BK5.out o6.out HN.out.1; have rk6 := Blk.only RK5.out o6.out HN.out.2.1; have on6 := only_trans O5.out o6.out; have t6 := bk6.cell 4; have s6 := bk6.frozen 4; have BK6 : Hid (Blk (w6.setCell ⟨w.heap.size + 1, 4, none⟩ (.slice A6 0 c6)) (w.heap.size + 1) 70 #[.int .i64 (k : Int), .int .i64 ez, .int .i64 nz, .int .i64 (lf : Int), .slice A6 0 c6]) := bk6.set_ 4 _; have RK6 : Hid (Blk (w6.setCell ⟨w.heap.size + 1, 4, none⟩ (.slice A6 0 c6)) w.heap.size 70 #[.int .i64 0, .int .i64 0, .int .i64 0, .int .i64 0, .slice none 0 0]) := Blk.far rk6 HN.out.2.2.1 _; have p6 : Hid (Cur (w6.setCell ⟨w.heap.size + 1, 4, none⟩ (.slice A6 0 c6)) g none) := cur_set8 c6'.out bk6 (no8_sec _ _ _ _ _ _ _) HN.out.2.2.2 _; have O6 : Hid (Only w (w6.setCell ⟨w.heap.size + 1, 4, none⟩ (.slice A6 0 c6)) g) := only_new on6 (by omega) _)
    | (go_at_call 34; (with_reducible refine (HL.out _ p6).mono ?_); rintro e w' ⟨rfl, rfl⟩)
    | (go_at_call 74; (with_reducible refine (HT7.out _ p6).mono ?_); rintro e w7 ⟨A7, c7, rfl, r7, c7', o7⟩; have bk7 := Blk.only BK6.out o7.out HN.out.1; have rk7 := Blk.only RK6.out o7.out HN.out.2.1; have on7 := only_trans O6.out o7.out; have p7 := c7'; have z0 := rk7.cell 0; have y0 := rk7.frozen 0; have z1 := rk7.cell 1; have y1 := rk7.frozen 1; have z2 := rk7.cell 2; have y2 := rk7.frozen 2; have z3 := rk7.cell 3; have y3 := rk7.frozen 3; have z4 := rk7.cell 4; have y4 := rk7.frozen 4)
    | (go_at_call 75; (with_reducible refine (HB.out _ p7).mono ?_); rintro e w' ⟨rfl, rfl⟩))
  refine bodyPost_ret (v := .tuple #[.agg #[.int .i64 0, .int .i64 0, .int .i64 0, .int .i64 0, .slice none 0 0], .bool false]) (by simp [results, Try.results71, go_sem, z0, z1, z2, z3, z4]) rfl ⟨none, 0, rfl, RB.none_ _ _, ?_⟩
  exact only_five on7 (Nat.le_refl _) _ _ _ _ _
set_option maxRecDepth 100000 in
set_option maxHeartbeats 8000000 in
theorem taken_no (M : List UInt8) (hM : M.length = 60) (g : Nat) (w : World) (h : Cur w g (some M)) (h48 : (M.getD 1 0).toNat ≤ 48) (hm : Sd.may ⟨((M.getD 0 0).toNat : Int), capZ (unfixL ((M.drop 4).take 4)), capZ (unfixL ((M.drop 8).take 4)), (unfixL ((M.drop 2).take 2) : Int), (M.drop 12).take (M.getD 1 0).toNat⟩ = false) :
    Calls Try.prog 71 #[.pointer (some ⟨g, 0, none⟩)] w (GivesT (.zero, false) g w) := by
  obtain ⟨k, hk⟩ : ∃ x, x = (M.getD 0 0).toNat := ⟨_, rfl⟩
  obtain ⟨sz, hsz⟩ : ∃ x, x = (M.getD 1 0).toNat := ⟨_, rfl⟩
  obtain ⟨lf, hlf⟩ : ∃ x, x = unfixL ((M.drop 2).take 2) := ⟨_, rfl⟩
  obtain ⟨ez, hez⟩ : ∃ x, x = capZ (unfixL ((M.drop 4).take 4)) := ⟨_, rfl⟩
  obtain ⟨nz, hnz⟩ : ∃ x, x = capZ (unfixL ((M.drop 8).take 4)) := ⟨_, rfl⟩
  obtain ⟨M1, hM1⟩ : ∃ x, x = M.drop 1 := ⟨_, rfl⟩
  obtain ⟨M2, hM2⟩ : ∃ x, x = M.drop 2 := ⟨_, rfl⟩
  obtain ⟨M3, hM3⟩ : ∃ x, x = M.drop 4 := ⟨_, rfl⟩
  obtain ⟨M4, hM4⟩ : ∃ x, x = M.drop 8 := ⟨_, rfl⟩
  obtain ⟨M5, hM5⟩ : ∃ x, x = M.drop 12 := ⟨_, rfl⟩
  have HF1 : Hid (∀ W, Hid (Cur W g (some M)) → Calls Try.prog 92 #[(.func (.func 74) #[.pointer (some ⟨g, 0, none⟩)] #[]), .int .i64 1] W fun e w' => e = .returned (.int .i64 (k : Int)) ∧ Hid (Cur w' g (some M1)) ∧ Hid (Only W w' g)) := fun W h => by
    have h1 := field_any g 1 (some M) W h.out
    have hl : 1 ≤ M.length := by omega
    have h2 : stepTake 1 (some M) = (some M1, M.take 1) := by rw [show (1 : Int) = ((1 : Nat) : Int) from rfl, step_ok hl, show M.drop 1 = M1 from by rw [hM1]]
    have h3 : fieldZ (M.take 1) = (k : Int) := by rw [fieldZ_small (by simp; omega) (by simp; omega), hk, ← unfix_one M 0 (by omega)]; rfl
    rw [h2] at h1
    simp only [h3] at h1
    exact h1
  have HF2 : Hid (∀ W, Hid (Cur W g (some M1)) → Calls Try.prog 92 #[(.func (.func 74) #[.pointer (some ⟨g, 0, none⟩)] #[]), .int .i64 1] W fun e w' => e = .returned (.int .i64 (sz : Int)) ∧ Hid (Cur w' g (some M2)) ∧ Hid (Only W w' g)) := fun W h => by
    have h1 := field_any g 1 (some M1) W h.out
    have hl : 1 ≤ M1.length := by rw [hM1, List.length_drop]; omega
    have h2 : stepTake 1 (some M1) = (some M2, M1.take 1) := by rw [show (1 : Int) = ((1 : Nat) : Int) from rfl, step_ok hl, show M1.drop 1 = M2 from by rw [hM2, hM1, List.drop_drop]]
    have h3 : fieldZ (M1.take 1) = (sz : Int) := by rw [hM1, fieldZ_small (by simp; omega) (by simp; omega), hsz, ← unfix_one M 1 (by omega)]
    rw [h2] at h1
    simp only [h3] at h1
    exact h1
  have HF3 : Hid (∀ W, Hid (Cur W g (some M2)) → Calls Try.prog 92 #[(.func (.func 74) #[.pointer (some ⟨g, 0, none⟩)] #[]), .int .i64 2] W fun e w' => e = .returned (.int .i64 (lf : Int)) ∧ Hid (Cur w' g (some M3)) ∧ Hid (Only W w' g)) := fun W h => by
    have h1 := field_any g 2 (some M2) W h.out
    have hl : 2 ≤ M2.length := by rw [hM2, List.length_drop]; omega
    have h2 : stepTake 2 (some M2) = (some M3, M2.take 2) := by rw [show (2 : Int) = ((2 : Nat) : Int) from rfl, step_ok hl, show M2.drop 2 = M3 from by rw [hM3, hM2, List.drop_drop]]
    have h3 : fieldZ (M2.take 2) = (lf : Int) := by rw [hM2, fieldZ_small (by simp; omega) (by simp; omega), hlf]
    rw [h2] at h1
    simp only [h3] at h1
    exact h1
  have HF4 : Hid (∀ W, Hid (Cur W g (some M3)) → Calls Try.prog 92 #[(.func (.func 74) #[.pointer (some ⟨g, 0, none⟩)] #[]), .int .i64 4] W fun e w' => e = .returned (.int .i64 ez) ∧ Hid (Cur w' g (some M4)) ∧ Hid (Only W w' g)) := fun W h => by
    have h1 := field_any g 4 (some M3) W h.out
    have hl : 4 ≤ M3.length := by rw [hM3, List.length_drop]; omega
    have h2 : stepTake 4 (some M3) = (some M4, M3.take 4) := by rw [show (4 : Int) = ((4 : Nat) : Int) from rfl, step_ok hl, show M3.drop 4 = M4 from by rw [hM4, hM3, List.drop_drop]]
    have h3 : fieldZ (M3.take 4) = ez := by rw [hM3, fieldZ_cap (by simp; omega) (by simp; omega), hez]
    rw [h2] at h1
    simp only [h3] at h1
    exact h1
  have HF5 : Hid (∀ W, Hid (Cur W g (some M4)) → Calls Try.prog 92 #[(.func (.func 74) #[.pointer (some ⟨g, 0, none⟩)] #[]), .int .i64 4] W fun e w' => e = .returned (.int .i64 nz) ∧ Hid (Cur w' g (some M5)) ∧ Hid (Only W w' g)) := fun W h => by
    have h1 := field_any g 4 (some M4) W h.out
    have hl : 4 ≤ M4.length := by rw [hM4, List.length_drop]; omega
    have h2 : stepTake 4 (some M4) = (some M5, M4.take 4) := by rw [show (4 : Int) = ((4 : Nat) : Int) from rfl, step_ok hl, show M4.drop 4 = M5 from by rw [hM5, hM4, List.drop_drop]]
    have h3 : fieldZ (M4.take 4) = nz := by rw [hM4, fieldZ_cap (by simp; omega) (by simp; omega), hnz]
    rw [h2] at h1
    simp only [h3] at h1
    exact h1
  obtain ⟨r, hr⟩ : ∃ x, x = 48 - sz := ⟨_, rfl⟩
  obtain ⟨D, hD⟩ : ∃ x, x = M5.take sz := ⟨_, rfl⟩
  obtain ⟨R, hR⟩ : ∃ x, x = M5.drop sz := ⟨_, rfl⟩
  rw [← hsz] at h48
  have hm : Sd.may ⟨(k : Int), ez, nz, (lf : Int), D⟩ = false := by rw [hk, hez, hnz, hlf, hD, hM5, hsz]; exact hm
  have l5 : M5.length = 48 := by rw [hM5, List.length_drop, hM]
  have lD : D.length = sz := by rw [hD, List.length_take]; omega
  have lR : R.length = r := by rw [hR, List.length_drop]; omega
  have HT6 : Hid (∀ W, Hid (Cur W g (some M5)) → Calls Try.prog 74 #[.pointer (some ⟨g, 0, none⟩), .int .i64 (sz : Int)] W fun e w' => ∃ A c, e = .returned (.slice A sz c) ∧ Hid (RB w' w'.heap.size A D) ∧ Hid (Cur w' g (some R)) ∧ Hid (Only W w' g)) := fun W h => by
    have h1 := take_any g (sz : Int) (some M5) W h.out
    rw [step_ok (by omega), ← hD, ← hR] at h1
    refine h1.mono fun e w' hh => ?_
    obtain ⟨A, c, he, h2, h3, h4⟩ := hh
    simp only [lD] at he
    exact ⟨A, c, he, h2, h3, h4⟩
  have HT7 : Hid (∀ W, Hid (Cur W g (some R)) → Calls Try.prog 74 #[.pointer (some ⟨g, 0, none⟩), .int .i64 (r : Int)] W fun e w' => ∃ A c, e = .returned (.slice A r c) ∧ Hid (RB w' w'.heap.size A R) ∧ Hid (Cur w' g (some [])) ∧ Hid (Only W w' g)) := fun W h => by
    have h1 := take_any g (r : Int) (some R) W h.out
    rw [step_ok (by omega), List.take_of_length_le (by omega), List.drop_of_length_le (by omega)] at h1
    refine h1.mono fun e w' hh => ?_
    obtain ⟨A, c, he, h2, h3, h4⟩ := hh
    simp only [lR] at he
    exact ⟨A, c, he, h2, h3, h4⟩
  have HL : Hid (∀ W, Hid (Cur W g (some R)) → Calls Try.prog 34 #[.pointer (some ⟨g, 0, none⟩)] W fun e w' => e = .returned (.int .i64 (r : Int)) ∧ W = w') := fun W h => by
    have h1 := left_any g (some R) W h.out
    simp only [leftN, lR] at h1
    exact h1
  have HB : Hid (∀ W, Hid (Cur W g (some [])) → Calls Try.prog 75 #[.pointer (some ⟨g, 0, none⟩)] W fun e w' => e = .returned (.bool false) ∧ W = w') := fun W h => bad_any g (some []) W h.out
  have HMy : Hid (∀ W (A : Option Addr) (c : Nat), Calls Try.prog 65 #[.agg #[.int .i64 (k : Int), .int .i64 ez, .int .i64 nz, .int .i64 (lf : Int), .slice A sz c]] W fun e w' => e = .returned (.bool false) ∧ Below W.heap.size W w') := fun W A c => by
    have h1 := maybe_any ⟨(k : Int), ez, nz, (lf : Int), D⟩ A c W
    rw [hm] at h1
    unfold secV at h1
    simp only [lD] at h1
    exact h1
  have HN : Hid (w.heap.size + 1 ≠ g ∧ w.heap.size ≠ g ∧ w.heap.size ≠ w.heap.size + 1 ∧ g ≠ w.heap.size + 1) := by
    obtain ⟨_, _, _, _, hb⟩ := cur_blk h
    have := hb.lt
    exact ⟨by omega, by omega, by omega, by omega⟩
  have p0 : Hid (Cur ((w.alloc (.cells #[.int .i64 0, .int .i64 0, .int .i64 0, .int .i64 0, .slice none 0 0] 70)).alloc (.cells #[.int .i64 0, .int .i64 0, .int .i64 0, .int .i64 0, .slice none 0 0] 70)) g (some M)) := cur_alloc (cur_alloc h _) _
  have bk0 : Hid (Blk ((w.alloc (.cells #[.int .i64 0, .int .i64 0, .int .i64 0, .int .i64 0, .slice none 0 0] 70)).alloc (.cells #[.int .i64 0, .int .i64 0, .int .i64 0, .int .i64 0, .slice none 0 0] 70)) (w.heap.size + 1) 70 #[.int .i64 0, .int .i64 0, .int .i64 0, .int .i64 0, .slice none 0 0]) := by have := Blk.new (w.alloc (.cells #[.int .i64 0, .int .i64 0, .int .i64 0, .int .i64 0, .slice none 0 0] 70)) 70 #[.int .i64 0, .int .i64 0, .int .i64 0, .int .i64 0, .slice none 0 0]; rwa [show (w.alloc (.cells #[.int .i64 0, .int .i64 0, .int .i64 0, .int .i64 0, .slice none 0 0] 70)).heap.size = w.heap.size + 1 by simp] at this
  have rk0 : Hid (Blk ((w.alloc (.cells #[.int .i64 0, .int .i64 0, .int .i64 0, .int .i64 0, .slice none 0 0] 70)).alloc (.cells #[.int .i64 0, .int .i64 0, .int .i64 0, .int .i64 0, .slice none 0 0] 70)) w.heap.size 70 #[.int .i64 0, .int .i64 0, .int .i64 0, .int .i64 0, .slice none 0 0]) := (Blk.new w _ _).alloc _
  have O0 : Hid (Only w ((w.alloc (.cells #[.int .i64 0, .int .i64 0, .int .i64 0, .int .i64 0, .slice none 0 0] 70)).alloc (.cells #[.int .i64 0, .int .i64 0, .int .i64 0, .int .i64 0, .slice none 0 0] 70)) g) := only_alloc (only_alloc (only_refl _ _) _) _
  have nb := fun w' => Try.secBuild0 w'
  have a24 := fun w' => Try.aggSec w'
  have s24 := fun w' => Try.sizeSec w'
  have hmf : ∀ (fn : Fn) (first cap : Array Value) (w : World), (Instr.makeFunc fn first cap).run Try.prog w = .ok (.func fn first cap) w := fun _ _ _ _ => rfl
  clear hk hsz hlf hez hnz hM1 hM2 hM3 hM4 hM5 h hM h48 hm hr hD hR l5 lD lR
  go_enter Try.func71, Try.ntmps71
  go_wp2_with (first
    | (go_at_call 92; (with_reducible refine (HF1.out _ p0).mono ?_); rintro e w1 ⟨rfl, c1, o1⟩; have bk1 := Blk.only bk0.out o1.out HN.out.1; have rk1 := Blk.only rk0.out o1.out HN.out.2.1; have on1 := only_trans O0.out o1.out; have t1 := bk1.cell 0; have s1 := bk1.frozen 0; have BK1 : Hid (Blk (w1.setCell ⟨w.heap.size + 1, 0, none⟩ (.int .i64 (k : Int))) (w.heap.size + 1) 70 #[.int .i64 (k : Int), .int .i64 0, .int .i64 0, .int .i64 0, .slice none 0 0]) := bk1.set_ 0 _; have RK1 : Hid (Blk (w1.setCell ⟨w.heap.size + 1, 0, none⟩ (.int .i64 (k : Int))) w.heap.size 70 #[.int .i64 0, .int .i64 0, .int .i64 0, .int .i64 0, .slice none 0 0]) := Blk.far rk1 HN.out.2.2.1 _; have p1 : Hid (Cur (w1.setCell ⟨w.heap.size + 1, 0, none⟩ (.int .i64 (k : Int))) g (some M1)) := cur_set8 c1.out bk1 (no8_sec _ _ _ _ _ _ _) HN.out.2.2.2 _; have O1 : Hid (Only w (w1.setCell ⟨w.heap.size + 1, 0, none⟩ (.int .i64 (k : Int))) g) := only_new on1 (by omega) _)
    | (go_at_call 92; (with_reducible refine (HF2.out _ p1).mono ?_); rintro e w2 ⟨rfl, c2, o2⟩; have bk2 := Blk.only BK1.out o2.out HN.out.1; have rk2 := Blk.only RK1.out o2.out HN.out.2.1; have on2 := only_trans O1.out o2.out; have BK2 := Lib.hid bk2; have RK2 := Lib.hid rk2; have p2 := c2; have O2 := Lib.hid on2)
    | (go_at_call 92; (with_reducible refine (HF3.out _ p2).mono ?_); rintro e w3 ⟨rfl, c3, o3⟩; have bk3 := Blk.only BK2.out o3.out HN.out.1; have rk3 := Blk.only RK2.out o3.out HN.out.2.1; have on3 := only_trans O2.out o3.out; have t3 := bk3.cell 3; have s3 := bk3.frozen 3; have BK3 : Hid (Blk (w3.setCell ⟨w.heap.size + 1, 3, none⟩ (.int .i64 (lf : Int))) (w.heap.size + 1) 70 #[.int .i64 (k : Int), .int .i64 0, .int .i64 0, .int .i64 (lf : Int), .slice none 0 0]) := bk3.set_ 3 _; have RK3 : Hid (Blk (w3.setCell ⟨w.heap.size + 1, 3, none⟩ (.int .i64 (lf : Int))) w.heap.size 70 #[.int .i64 0, .int .i64 0, .int .i64 0, .int .i64 0, .slice none 0 0]) := Blk.far rk3 HN.out.2.2.1 _; have p3 : Hid (Cur (w3.setCell ⟨w.heap.size + 1, 3, none⟩ (.int .i64 (lf : Int))) g (some M3)) := cur_set8 c3.out bk3 (no8_sec _ _ _ _ _ _ _) HN.out.2.2.2 _; have O3 : Hid (Only w (w3.setCell ⟨w.heap.size + 1, 3, none⟩ (.int .i64 (lf : Int))) g) := only_new on3 (by omega) _)
    | (go_at_call 92; (with_reducible refine (HF4.out _ p3).mono ?_); rintro e w4 ⟨rfl, c4, o4⟩; have bk4 := Blk.only BK3.out o4.out HN.out.1; have rk4 := Blk.only RK3.out o4.out HN.out.2.1; have on4 := only_trans O3.out o4.out; have t4 := bk4.cell 1; have s4 := bk4.frozen 1; have BK4 : Hid (Blk (w4.setCell ⟨w.heap.size + 1, 1, none⟩ (.int .i64 ez)) (w.heap.size + 1) 70 #[.int .i64 (k : Int), .int .i64 ez, .int .i64 0, .int .i64 (lf : Int), .slice none 0 0]) := bk4.set_ 1 _; have RK4 : Hid (Blk (w4.setCell ⟨w.heap.size + 1, 1, none⟩ (.int .i64 ez)) w.heap.size 70 #[.int .i64 0, .int .i64 0, .int .i64 0, .int .i64 0, .slice none 0 0]) := Blk.far rk4 HN.out.2.2.1 _; have p4 : Hid (Cur (w4.setCell ⟨w.heap.size + 1, 1, none⟩ (.int .i64 ez)) g (some M4)) := cur_set8 c4.out bk4 (no8_sec _ _ _ _ _ _ _) HN.out.2.2.2 _; have O4 : Hid (Only w (w4.setCell ⟨w.heap.size + 1, 1, none⟩ (.int .i64 ez)) g) := only_new on4 (by omega) _)
    | (go_at_call 92; (with_reducible refine (HF5.out _ p4).mono ?_); rintro e w5 ⟨rfl, c5, o5⟩; have bk5 := Blk.only BK4.out o5.out HN.out.1; have rk5 := Blk.only RK4.out o5.out HN.out.2.1; have on5 := only_trans O4.out o5.out; have t5 := bk5.cell 2; have s5 := bk5.frozen 2; have BK5 : Hid (Blk (w5.setCell ⟨w.heap.size + 1, 2, none⟩ (.int .i64 nz)) (w.heap.size + 1) 70 #[.int .i64 (k : Int), .int .i64 ez, .int .i64 nz, .int .i64 (lf : Int), .slice none 0 0]) := bk5.set_ 2 _; have RK5 : Hid (Blk (w5.setCell ⟨w.heap.size + 1, 2, none⟩ (.int .i64 nz)) w.heap.size 70 #[.int .i64 0, .int .i64 0, .int .i64 0, .int .i64 0, .slice none 0 0]) := Blk.far rk5 HN.out.2.2.1 _; have p5 : Hid (Cur (w5.setCell ⟨w.heap.size + 1, 2, none⟩ (.int .i64 nz)) g (some M5)) := cur_set8 c5.out bk5 (no8_sec _ _ _ _ _ _ _) HN.out.2.2.2 _; have O5 : Hid (Only w (w5.setCell ⟨w.heap.size + 1, 2, none⟩ (.int .i64 nz)) g) := only_new on5 (by omega) _)
    | (go_at_call 74; (with_reducible refine (HT6.out _ p5).mono ?_); rintro e w6 ⟨A6, c6, rfl, r6, c6', o6⟩; have bk6 := Blk.only BK5.out o6.out HN.out.1; have rk6 := Blk.only RK5.out o6.out HN.out.2.1; have on6 := only_trans O5.out o6.out; have t6 := bk6.cell 4; have s6 := bk6.frozen 4; have BK6 : Hid (Blk (w6.setCell ⟨w.heap.size + 1, 4, none⟩ (.slice A6 sz c6)) (w.heap.size + 1) 70 #[.int .i64 (k : Int), .int .i64 ez, .int .i64 nz, .int .i64 (lf : Int), .slice A6 sz c6]) := bk6.set_ 4 _; have RK6 : Hid (Blk (w6.setCell ⟨w.heap.size + 1, 4, none⟩ (.slice A6 sz c6)) w.heap.size 70 #[.int .i64 0, .int .i64 0, .int .i64 0, .int .i64 0, .slice none 0 0]) := Blk.far rk6 HN.out.2.2.1 _; have p6 : Hid (Cur (w6.setCell ⟨w.heap.size + 1, 4, none⟩ (.slice A6 sz c6)) g (some R)) := cur_set8 c6'.out bk6 (no8_sec _ _ _ _ _ _ _) HN.out.2.2.2 _; have O6 : Hid (Only w (w6.setCell ⟨w.heap.size + 1, 4, none⟩ (.slice A6 sz c6)) g) := only_new on6 (by omega) _)
    | (go_at_call 34; (with_reducible refine (HL.out _ p6).mono ?_); rintro e w' ⟨rfl, rfl⟩)
    | (go_at_call 74; (with_reducible refine (HT7.out _ p6).mono ?_); rintro e w7 ⟨A7, c7, rfl, r7, c7', o7⟩; have bk7 := Blk.only BK6.out o7.out HN.out.1; have rk7 := Blk.only RK6.out o7.out HN.out.2.1; have on7 := only_trans O6.out o7.out; have p7 := c7'; have v0 := bk7.cell 0; have v1 := bk7.cell 1; have v2 := bk7.cell 2; have v3 := bk7.cell 3; have v4 := bk7.cell 4)
    | (go_at_call 75; (with_reducible refine (HB.out _ p7).mono ?_); rintro e w' ⟨rfl, rfl⟩)
    | (go_at_call 65; (with_reducible refine (HMy.out _ _ _).mono ?_); rintro e w8 ⟨rfl, hb8⟩; have bk8 := bk7.below hb8 bk7.lt; have rk8 := rk7.below hb8 rk7.lt; have on8 := only_more on7 hb8; have z0 := rk8.cell 0; have y0 := rk8.frozen 0; have z1 := rk8.cell 1; have y1 := rk8.frozen 1; have z2 := rk8.cell 2; have y2 := rk8.frozen 2; have z3 := rk8.cell 3; have y3 := rk8.frozen 3; have z4 := rk8.cell 4; have y4 := rk8.frozen 4))
  refine bodyPost_ret (v := .tuple #[.agg #[.int .i64 0, .int .i64 0, .int .i64 0, .int .i64 0, .slice none 0 0], .bool false]) (by simp [results, Try.results71, go_sem, z0, z1, z2, z3, z4]) rfl ⟨none, 0, rfl, RB.none_ _ _, ?_⟩
  exact only_five on8 (Nat.le_refl _) _ _ _ _ _
set_option maxRecDepth 100000 in
set_option maxHeartbeats 8000000 in
theorem taken_odd (M : List UInt8) (hM : M.length = 60) (g : Nat) (w : World) (h : Cur w g (some M)) (h48 : (M.getD 1 0).toNat ≤ 48) (hm : Sd.may ⟨((M.getD 0 0).toNat : Int), capZ (unfixL ((M.drop 4).take 4)), capZ (unfixL ((M.drop 8).take 4)), (unfixL ((M.drop 2).take 2) : Int), (M.drop 12).take (M.getD 1 0).toNat⟩ = true) (hz : ¬ (M.drop 12).drop (M.getD 1 0).toNat = List.replicate (48 - (M.getD 1 0).toNat) 0) :
    Calls Try.prog 71 #[.pointer (some ⟨g, 0, none⟩)] w (GivesT (.zero, false) g w) := by
  obtain ⟨i0, hi0, hz0, hz1, hz2⟩ := info_parts Try.info5
  obtain ⟨k, hk⟩ : ∃ x, x = (M.getD 0 0).toNat := ⟨_, rfl⟩
  obtain ⟨sz, hsz⟩ : ∃ x, x = (M.getD 1 0).toNat := ⟨_, rfl⟩
  obtain ⟨lf, hlf⟩ : ∃ x, x = unfixL ((M.drop 2).take 2) := ⟨_, rfl⟩
  obtain ⟨ez, hez⟩ : ∃ x, x = capZ (unfixL ((M.drop 4).take 4)) := ⟨_, rfl⟩
  obtain ⟨nz, hnz⟩ : ∃ x, x = capZ (unfixL ((M.drop 8).take 4)) := ⟨_, rfl⟩
  obtain ⟨M1, hM1⟩ : ∃ x, x = M.drop 1 := ⟨_, rfl⟩
  obtain ⟨M2, hM2⟩ : ∃ x, x = M.drop 2 := ⟨_, rfl⟩
  obtain ⟨M3, hM3⟩ : ∃ x, x = M.drop 4 := ⟨_, rfl⟩
  obtain ⟨M4, hM4⟩ : ∃ x, x = M.drop 8 := ⟨_, rfl⟩
  obtain ⟨M5, hM5⟩ : ∃ x, x = M.drop 12 := ⟨_, rfl⟩
  have HF1 : Hid (∀ W, Hid (Cur W g (some M)) → Calls Try.prog 92 #[(.func (.func 74) #[.pointer (some ⟨g, 0, none⟩)] #[]), .int .i64 1] W fun e w' => e = .returned (.int .i64 (k : Int)) ∧ Hid (Cur w' g (some M1)) ∧ Hid (Only W w' g)) := fun W h => by
    have h1 := field_any g 1 (some M) W h.out
    have hl : 1 ≤ M.length := by omega
    have h2 : stepTake 1 (some M) = (some M1, M.take 1) := by rw [show (1 : Int) = ((1 : Nat) : Int) from rfl, step_ok hl, show M.drop 1 = M1 from by rw [hM1]]
    have h3 : fieldZ (M.take 1) = (k : Int) := by rw [fieldZ_small (by simp; omega) (by simp; omega), hk, ← unfix_one M 0 (by omega)]; rfl
    rw [h2] at h1
    simp only [h3] at h1
    exact h1
  have HF2 : Hid (∀ W, Hid (Cur W g (some M1)) → Calls Try.prog 92 #[(.func (.func 74) #[.pointer (some ⟨g, 0, none⟩)] #[]), .int .i64 1] W fun e w' => e = .returned (.int .i64 (sz : Int)) ∧ Hid (Cur w' g (some M2)) ∧ Hid (Only W w' g)) := fun W h => by
    have h1 := field_any g 1 (some M1) W h.out
    have hl : 1 ≤ M1.length := by rw [hM1, List.length_drop]; omega
    have h2 : stepTake 1 (some M1) = (some M2, M1.take 1) := by rw [show (1 : Int) = ((1 : Nat) : Int) from rfl, step_ok hl, show M1.drop 1 = M2 from by rw [hM2, hM1, List.drop_drop]]
    have h3 : fieldZ (M1.take 1) = (sz : Int) := by rw [hM1, fieldZ_small (by simp; omega) (by simp; omega), hsz, ← unfix_one M 1 (by omega)]
    rw [h2] at h1
    simp only [h3] at h1
    exact h1
  have HF3 : Hid (∀ W, Hid (Cur W g (some M2)) → Calls Try.prog 92 #[(.func (.func 74) #[.pointer (some ⟨g, 0, none⟩)] #[]), .int .i64 2] W fun e w' => e = .returned (.int .i64 (lf : Int)) ∧ Hid (Cur w' g (some M3)) ∧ Hid (Only W w' g)) := fun W h => by
    have h1 := field_any g 2 (some M2) W h.out
    have hl : 2 ≤ M2.length := by rw [hM2, List.length_drop]; omega
    have h2 : stepTake 2 (some M2) = (some M3, M2.take 2) := by rw [show (2 : Int) = ((2 : Nat) : Int) from rfl, step_ok hl, show M2.drop 2 = M3 from by rw [hM3, hM2, List.drop_drop]]
    have h3 : fieldZ (M2.take 2) = (lf : Int) := by rw [hM2, fieldZ_small (by simp; omega) (by simp; omega), hlf]
    rw [h2] at h1
    simp only [h3] at h1
    exact h1
  have HF4 : Hid (∀ W, Hid (Cur W g (some M3)) → Calls Try.prog 92 #[(.func (.func 74) #[.pointer (some ⟨g, 0, none⟩)] #[]), .int .i64 4] W fun e w' => e = .returned (.int .i64 ez) ∧ Hid (Cur w' g (some M4)) ∧ Hid (Only W w' g)) := fun W h => by
    have h1 := field_any g 4 (some M3) W h.out
    have hl : 4 ≤ M3.length := by rw [hM3, List.length_drop]; omega
    have h2 : stepTake 4 (some M3) = (some M4, M3.take 4) := by rw [show (4 : Int) = ((4 : Nat) : Int) from rfl, step_ok hl, show M3.drop 4 = M4 from by rw [hM4, hM3, List.drop_drop]]
    have h3 : fieldZ (M3.take 4) = ez := by rw [hM3, fieldZ_cap (by simp; omega) (by simp; omega), hez]
    rw [h2] at h1
    simp only [h3] at h1
    exact h1
  have HF5 : Hid (∀ W, Hid (Cur W g (some M4)) → Calls Try.prog 92 #[(.func (.func 74) #[.pointer (some ⟨g, 0, none⟩)] #[]), .int .i64 4] W fun e w' => e = .returned (.int .i64 nz) ∧ Hid (Cur w' g (some M5)) ∧ Hid (Only W w' g)) := fun W h => by
    have h1 := field_any g 4 (some M4) W h.out
    have hl : 4 ≤ M4.length := by rw [hM4, List.length_drop]; omega
    have h2 : stepTake 4 (some M4) = (some M5, M4.take 4) := by rw [show (4 : Int) = ((4 : Nat) : Int) from rfl, step_ok hl, show M4.drop 4 = M5 from by rw [hM5, hM4, List.drop_drop]]
    have h3 : fieldZ (M4.take 4) = nz := by rw [hM4, fieldZ_cap (by simp; omega) (by simp; omega), hnz]
    rw [h2] at h1
    simp only [h3] at h1
    exact h1
  obtain ⟨r, hr⟩ : ∃ x, x = 48 - sz := ⟨_, rfl⟩
  obtain ⟨D, hD⟩ : ∃ x, x = M5.take sz := ⟨_, rfl⟩
  obtain ⟨R, hR⟩ : ∃ x, x = M5.drop sz := ⟨_, rfl⟩
  rw [← hsz] at h48
  have hm : Sd.may ⟨(k : Int), ez, nz, (lf : Int), D⟩ = true := by rw [hk, hez, hnz, hlf, hD, hM5, hsz]; exact hm
  have hze : decide (R = List.replicate r 0) = false := by rw [hR, hr, hM5, hsz]; exact decide_eq_false hz
  have l5 : M5.length = 48 := by rw [hM5, List.length_drop, hM]
  have lD : D.length = sz := by rw [hD, List.length_take]; omega
  have lR : R.length = r := by rw [hR, List.length_drop]; omega
  have HT6 : Hid (∀ W, Hid (Cur W g (some M5)) → Calls Try.prog 74 #[.pointer (some ⟨g, 0, none⟩), .int .i64 (sz : Int)] W fun e w' => ∃ A c, e = .returned (.slice A sz c) ∧ Hid (RB w' w'.heap.size A D) ∧ Hid (Cur w' g (some R)) ∧ Hid (Only W w' g)) := fun W h => by
    have h1 := take_any g (sz : Int) (some M5) W h.out
    rw [step_ok (by omega), ← hD, ← hR] at h1
    refine h1.mono fun e w' hh => ?_
    obtain ⟨A, c, he, h2, h3, h4⟩ := hh
    simp only [lD] at he
    exact ⟨A, c, he, h2, h3, h4⟩
  have HT7 : Hid (∀ W, Hid (Cur W g (some R)) → Calls Try.prog 74 #[.pointer (some ⟨g, 0, none⟩), .int .i64 (r : Int)] W fun e w' => ∃ A c, e = .returned (.slice A r c) ∧ Hid (RB w' w'.heap.size A R) ∧ Hid (Cur w' g (some [])) ∧ Hid (Only W w' g)) := fun W h => by
    have h1 := take_any g (r : Int) (some R) W h.out
    rw [step_ok (by omega), List.take_of_length_le (by omega), List.drop_of_length_le (by omega)] at h1
    refine h1.mono fun e w' hh => ?_
    obtain ⟨A, c, he, h2, h3, h4⟩ := hh
    simp only [lR] at he
    exact ⟨A, c, he, h2, h3, h4⟩
  have HL : Hid (∀ W, Hid (Cur W g (some R)) → Calls Try.prog 34 #[.pointer (some ⟨g, 0, none⟩)] W fun e w' => e = .returned (.int .i64 (r : Int)) ∧ W = w') := fun W h => by
    have h1 := left_any g (some R) W h.out
    simp only [leftN, lR] at h1
    exact h1
  have HB : Hid (∀ W, Hid (Cur W g (some [])) → Calls Try.prog 75 #[.pointer (some ⟨g, 0, none⟩)] W fun e w' => e = .returned (.bool false) ∧ W = w') := fun W h => bad_any g (some []) W h.out
  have HMy : Hid (∀ W (A : Option Addr) (c : Nat), Calls Try.prog 65 #[.agg #[.int .i64 (k : Int), .int .i64 ez, .int .i64 nz, .int .i64 (lf : Int), .slice A sz c]] W fun e w' => e = .returned (.bool true) ∧ Below W.heap.size W w') := fun W A c => by
    have h1 := maybe_any ⟨(k : Int), ez, nz, (lf : Int), D⟩ A c W
    rw [hm] at h1
    unfold secV at h1
    simp only [lD] at h1
    exact h1
  have HEq : Hid (∀ W (A A' : Option Addr) (c c' : Nat), RB W W.heap.size A R → RB W W.heap.size A' (List.replicate r 0) → Calls Try.prog 86 #[.slice A r c, .slice A' r c'] W fun e w' => e = .returned (.bool false) ∧ W = w') := fun W A A' c c' h1 h2 => by
    have h3 := equal_any R (List.replicate r 0) A A' c c' _ _ W h1 h2
    rw [List.length_replicate, lR, hze] at h3
    exact h3
  have HN : Hid (w.heap.size + 1 ≠ g ∧ w.heap.size ≠ g ∧ w.heap.size ≠ w.heap.size + 1 ∧ g ≠ w.heap.size + 1) := by
    obtain ⟨_, _, _, _, hb⟩ := cur_blk h
    have := hb.lt
    exact ⟨by omega, by omega, by omega, by omega⟩
  have p0 : Hid (Cur ((w.alloc (.cells #[.int .i64 0, .int .i64 0, .int .i64 0, .int .i64 0, .slice none 0 0] 70)).alloc (.cells #[.int .i64 0, .int .i64 0, .int .i64 0, .int .i64 0, .slice none 0 0] 70)) g (some M)) := cur_alloc (cur_alloc h _) _
  have bk0 : Hid (Blk ((w.alloc (.cells #[.int .i64 0, .int .i64 0, .int .i64 0, .int .i64 0, .slice none 0 0] 70)).alloc (.cells #[.int .i64 0, .int .i64 0, .int .i64 0, .int .i64 0, .slice none 0 0] 70)) (w.heap.size + 1) 70 #[.int .i64 0, .int .i64 0, .int .i64 0, .int .i64 0, .slice none 0 0]) := by have := Blk.new (w.alloc (.cells #[.int .i64 0, .int .i64 0, .int .i64 0, .int .i64 0, .slice none 0 0] 70)) 70 #[.int .i64 0, .int .i64 0, .int .i64 0, .int .i64 0, .slice none 0 0]; rwa [show (w.alloc (.cells #[.int .i64 0, .int .i64 0, .int .i64 0, .int .i64 0, .slice none 0 0] 70)).heap.size = w.heap.size + 1 by simp] at this
  have rk0 : Hid (Blk ((w.alloc (.cells #[.int .i64 0, .int .i64 0, .int .i64 0, .int .i64 0, .slice none 0 0] 70)).alloc (.cells #[.int .i64 0, .int .i64 0, .int .i64 0, .int .i64 0, .slice none 0 0] 70)) w.heap.size 70 #[.int .i64 0, .int .i64 0, .int .i64 0, .int .i64 0, .slice none 0 0]) := (Blk.new w _ _).alloc _
  have O0 : Hid (Only w ((w.alloc (.cells #[.int .i64 0, .int .i64 0, .int .i64 0, .int .i64 0, .slice none 0 0] 70)).alloc (.cells #[.int .i64 0, .int .i64 0, .int .i64 0, .int .i64 0, .slice none 0 0] 70)) g) := only_alloc (only_alloc (only_refl _ _) _) _
  have nb := fun w' => Try.secBuild0 w'
  have a24 := fun w' => Try.aggSec w'
  have s24 := fun w' => Try.sizeSec w'
  have hmf : ∀ (fn : Fn) (first cap : Array Value) (w : World), (Instr.makeFunc fn first cap).run Try.prog w = .ok (.func fn first cap) w := fun _ _ _ _ => rfl
  have HR48 : Hid (r ≤ 48) := by show r ≤ 48; omega
  clear hk hsz hlf hez hnz hM1 hM2 hM3 hM4 hM5 h hM h48 hm hr hD hR l5 lD lR hz hze
  go_enter Try.func71, Try.ntmps71
  go_wp2_with (first
    | (go_at_call 92; (with_reducible refine (HF1.out _ p0).mono ?_); rintro e w1 ⟨rfl, c1, o1⟩; have bk1 := Blk.only bk0.out o1.out HN.out.1; have rk1 := Blk.only rk0.out o1.out HN.out.2.1; have on1 := only_trans O0.out o1.out; have t1 := bk1.cell 0; have s1 := bk1.frozen 0; have BK1 : Hid (Blk (w1.setCell ⟨w.heap.size + 1, 0, none⟩ (.int .i64 (k : Int))) (w.heap.size + 1) 70 #[.int .i64 (k : Int), .int .i64 0, .int .i64 0, .int .i64 0, .slice none 0 0]) := bk1.set_ 0 _; have RK1 : Hid (Blk (w1.setCell ⟨w.heap.size + 1, 0, none⟩ (.int .i64 (k : Int))) w.heap.size 70 #[.int .i64 0, .int .i64 0, .int .i64 0, .int .i64 0, .slice none 0 0]) := Blk.far rk1 HN.out.2.2.1 _; have p1 : Hid (Cur (w1.setCell ⟨w.heap.size + 1, 0, none⟩ (.int .i64 (k : Int))) g (some M1)) := cur_set8 c1.out bk1 (no8_sec _ _ _ _ _ _ _) HN.out.2.2.2 _; have O1 : Hid (Only w (w1.setCell ⟨w.heap.size + 1, 0, none⟩ (.int .i64 (k : Int))) g) := only_new on1 (by omega) _)
    | (go_at_call 92; (with_reducible refine (HF2.out _ p1).mono ?_); rintro e w2 ⟨rfl, c2, o2⟩; have bk2 := Blk.only BK1.out o2.out HN.out.1; have rk2 := Blk.only RK1.out o2.out HN.out.2.1; have on2 := only_trans O1.out o2.out; have BK2 := Lib.hid bk2; have RK2 := Lib.hid rk2; have p2 := c2; have O2 := Lib.hid on2)
    | (go_at_call 92; (with_reducible refine (HF3.out _ p2).mono ?_); rintro e w3 ⟨rfl, c3, o3⟩; have bk3 := Blk.only BK2.out o3.out HN.out.1; have rk3 := Blk.only RK2.out o3.out HN.out.2.1; have on3 := only_trans O2.out o3.out; have t3 := bk3.cell 3; have s3 := bk3.frozen 3; have BK3 : Hid (Blk (w3.setCell ⟨w.heap.size + 1, 3, none⟩ (.int .i64 (lf : Int))) (w.heap.size + 1) 70 #[.int .i64 (k : Int), .int .i64 0, .int .i64 0, .int .i64 (lf : Int), .slice none 0 0]) := bk3.set_ 3 _; have RK3 : Hid (Blk (w3.setCell ⟨w.heap.size + 1, 3, none⟩ (.int .i64 (lf : Int))) w.heap.size 70 #[.int .i64 0, .int .i64 0, .int .i64 0, .int .i64 0, .slice none 0 0]) := Blk.far rk3 HN.out.2.2.1 _; have p3 : Hid (Cur (w3.setCell ⟨w.heap.size + 1, 3, none⟩ (.int .i64 (lf : Int))) g (some M3)) := cur_set8 c3.out bk3 (no8_sec _ _ _ _ _ _ _) HN.out.2.2.2 _; have O3 : Hid (Only w (w3.setCell ⟨w.heap.size + 1, 3, none⟩ (.int .i64 (lf : Int))) g) := only_new on3 (by omega) _)
    | (go_at_call 92; (with_reducible refine (HF4.out _ p3).mono ?_); rintro e w4 ⟨rfl, c4, o4⟩; have bk4 := Blk.only BK3.out o4.out HN.out.1; have rk4 := Blk.only RK3.out o4.out HN.out.2.1; have on4 := only_trans O3.out o4.out; have t4 := bk4.cell 1; have s4 := bk4.frozen 1; have BK4 : Hid (Blk (w4.setCell ⟨w.heap.size + 1, 1, none⟩ (.int .i64 ez)) (w.heap.size + 1) 70 #[.int .i64 (k : Int), .int .i64 ez, .int .i64 0, .int .i64 (lf : Int), .slice none 0 0]) := bk4.set_ 1 _; have RK4 : Hid (Blk (w4.setCell ⟨w.heap.size + 1, 1, none⟩ (.int .i64 ez)) w.heap.size 70 #[.int .i64 0, .int .i64 0, .int .i64 0, .int .i64 0, .slice none 0 0]) := Blk.far rk4 HN.out.2.2.1 _; have p4 : Hid (Cur (w4.setCell ⟨w.heap.size + 1, 1, none⟩ (.int .i64 ez)) g (some M4)) := cur_set8 c4.out bk4 (no8_sec _ _ _ _ _ _ _) HN.out.2.2.2 _; have O4 : Hid (Only w (w4.setCell ⟨w.heap.size + 1, 1, none⟩ (.int .i64 ez)) g) := only_new on4 (by omega) _)
    | (go_at_call 92; (with_reducible refine (HF5.out _ p4).mono ?_); rintro e w5 ⟨rfl, c5, o5⟩; have bk5 := Blk.only BK4.out o5.out HN.out.1; have rk5 := Blk.only RK4.out o5.out HN.out.2.1; have on5 := only_trans O4.out o5.out; have t5 := bk5.cell 2; have s5 := bk5.frozen 2; have BK5 : Hid (Blk (w5.setCell ⟨w.heap.size + 1, 2, none⟩ (.int .i64 nz)) (w.heap.size + 1) 70 #[.int .i64 (k : Int), .int .i64 ez, .int .i64 nz, .int .i64 (lf : Int), .slice none 0 0]) := bk5.set_ 2 _; have RK5 : Hid (Blk (w5.setCell ⟨w.heap.size + 1, 2, none⟩ (.int .i64 nz)) w.heap.size 70 #[.int .i64 0, .int .i64 0, .int .i64 0, .int .i64 0, .slice none 0 0]) := Blk.far rk5 HN.out.2.2.1 _; have p5 : Hid (Cur (w5.setCell ⟨w.heap.size + 1, 2, none⟩ (.int .i64 nz)) g (some M5)) := cur_set8 c5.out bk5 (no8_sec _ _ _ _ _ _ _) HN.out.2.2.2 _; have O5 : Hid (Only w (w5.setCell ⟨w.heap.size + 1, 2, none⟩ (.int .i64 nz)) g) := only_new on5 (by omega) _)
    | (go_at_call 74; (with_reducible refine (HT6.out _ p5).mono ?_); rintro e w6 ⟨A6, c6, rfl, r6, c6', o6⟩; have bk6 := Blk.only BK5.out o6.out HN.out.1; have rk6 := Blk.only RK5.out o6.out HN.out.2.1; have on6 := only_trans O5.out o6.out; have t6 := bk6.cell 4; have s6 := bk6.frozen 4; have BK6 : Hid (Blk (w6.setCell ⟨w.heap.size + 1, 4, none⟩ (.slice A6 sz c6)) (w.heap.size + 1) 70 #[.int .i64 (k : Int), .int .i64 ez, .int .i64 nz, .int .i64 (lf : Int), .slice A6 sz c6]) := bk6.set_ 4 _; have RK6 : Hid (Blk (w6.setCell ⟨w.heap.size + 1, 4, none⟩ (.slice A6 sz c6)) w.heap.size 70 #[.int .i64 0, .int .i64 0, .int .i64 0, .int .i64 0, .slice none 0 0]) := Blk.far rk6 HN.out.2.2.1 _; have p6 : Hid (Cur (w6.setCell ⟨w.heap.size + 1, 4, none⟩ (.slice A6 sz c6)) g (some R)) := cur_set8 c6'.out bk6 (no8_sec _ _ _ _ _ _ _) HN.out.2.2.2 _; have O6 : Hid (Only w (w6.setCell ⟨w.heap.size + 1, 4, none⟩ (.slice A6 sz c6)) g) := only_new on6 (by omega) _; have R6 := Lib.hid (rb_set8 (i := 4) r6.out bk6 (no8_sec _ _ _ _ _ _ _) (.slice A6 sz c6)))
    | (go_at_call 34; (with_reducible refine (HL.out _ p6).mono ?_); rintro e w' ⟨rfl, rfl⟩)
    | (go_at_call 74; (with_reducible refine (HT7.out _ p6).mono ?_); rintro e w7 ⟨A7, c7, rfl, r7, c7', o7⟩; have bk7 := Blk.only BK6.out o7.out HN.out.1; have rk7 := Blk.only RK6.out o7.out HN.out.2.1; have on7 := only_trans O6.out o7.out; have p7 := c7'; have v0 := bk7.cell 0; have v1 := bk7.cell 1; have v2 := bk7.cell 2; have v3 := bk7.cell 3; have v4 := bk7.cell 4; obtain ⟨_, _, _, _, gk7⟩ := cur_blk p6.out; have R7 := Lib.hid (rb_only8 R6.out gk7 (no8_cur _ _ _ _) o7.out))
    | (go_at_call 75; (with_reducible refine (HB.out _ p7).mono ?_); rintro e w' ⟨rfl, rfl⟩)
    | (go_at_call 65; (with_reducible refine (HMy.out _ _ _).mono ?_); rintro e w8 ⟨rfl, hb8⟩; have bk8 := bk7.below hb8 bk7.lt; have rk8 := rk7.below hb8 rk7.lt; have on8 := only_more on7 hb8)
    | (at_make; refine wpList_make_yes _ rfl (.tmp 42) (.tmp 42) 26 rfl w8.heap.size 5 i0 _ 1 Try.underlying26 hi0 hz0 hz1 .i64 .i64 _ _ r rfl rfl rfl rfl (by rw [hz2]; have := HR48.out; omega) (by have := HR48.out; unfold maxLen; omega) (Nat.le_refl _) ?_; intro w9 hown9 hg9; have hb9 := (Below.refl w8.heap.size w8).grown hg9 (Nat.le_refl _) (by simp); have ra9 := ((r7.out.below hb8).more hb8.size).below hb9 |>.more hb9.size; have rb9 := made_rb7 hown9; have bk9 := bk8.below hb9 bk8.lt; have rk9 := rk8.below hb9 rk8.lt; have on9 := only_more on8 hb9; clear hown9 hg9)
    | (go_at_call 86; (with_reducible refine (HEq.out _ _ _ _ _ ra9 rb9).mono ?_); rintro e w' ⟨rfl, rfl⟩; have z0 := rk9.cell 0; have y0 := rk9.frozen 0; have z1 := rk9.cell 1; have y1 := rk9.frozen 1; have z2 := rk9.cell 2; have y2 := rk9.frozen 2; have z3 := rk9.cell 3; have y3 := rk9.frozen 3; have z4 := rk9.cell 4; have y4 := rk9.frozen 4; have x0 := bk9.cell 0; have x1 := bk9.cell 1; have x2 := bk9.cell 2; have x3 := bk9.cell 3; have x4 := bk9.cell 4))
  refine bodyPost_ret (v := .tuple #[.agg #[.int .i64 0, .int .i64 0, .int .i64 0, .int .i64 0, .slice none 0 0], .bool false]) (by simp [results, Try.results71, go_sem, z0, z1, z2, z3, z4]) rfl ⟨none, 0, rfl, RB.none_ _ _, ?_⟩
  exact only_five on9 (Nat.le_refl _) _ _ _ _ _
set_option maxRecDepth 100000 in
set_option maxHeartbeats 8000000 in
theorem taken_ok (M : List UInt8) (hM : M.length = 60) (g : Nat) (w : World) (h : Cur w g (some M)) (h48 : (M.getD 1 0).toNat ≤ 48) (hm : Sd.may ⟨((M.getD 0 0).toNat : Int), capZ (unfixL ((M.drop 4).take 4)), capZ (unfixL ((M.drop 8).take 4)), (unfixL ((M.drop 2).take 2) : Int), (M.drop 12).take (M.getD 1 0).toNat⟩ = true) (hz : (M.drop 12).drop (M.getD 1 0).toNat = List.replicate (48 - (M.getD 1 0).toNat) 0) :
    Calls Try.prog 71 #[.pointer (some ⟨g, 0, none⟩)] w (GivesT (⟨((M.getD 0 0).toNat : Int), capZ (unfixL ((M.drop 4).take 4)), capZ (unfixL ((M.drop 8).take 4)), (unfixL ((M.drop 2).take 2) : Int), (M.drop 12).take (M.getD 1 0).toNat⟩, true) g w) := by
  obtain ⟨i0, hi0, hz0, hz1, hz2⟩ := info_parts Try.info5
  obtain ⟨k, hk⟩ : ∃ x, x = (M.getD 0 0).toNat := ⟨_, rfl⟩
  obtain ⟨sz, hsz⟩ : ∃ x, x = (M.getD 1 0).toNat := ⟨_, rfl⟩
  obtain ⟨lf, hlf⟩ : ∃ x, x = unfixL ((M.drop 2).take 2) := ⟨_, rfl⟩
  obtain ⟨ez, hez⟩ : ∃ x, x = capZ (unfixL ((M.drop 4).take 4)) := ⟨_, rfl⟩
  obtain ⟨nz, hnz⟩ : ∃ x, x = capZ (unfixL ((M.drop 8).take 4)) := ⟨_, rfl⟩
  obtain ⟨M1, hM1⟩ : ∃ x, x = M.drop 1 := ⟨_, rfl⟩
  obtain ⟨M2, hM2⟩ : ∃ x, x = M.drop 2 := ⟨_, rfl⟩
  obtain ⟨M3, hM3⟩ : ∃ x, x = M.drop 4 := ⟨_, rfl⟩
  obtain ⟨M4, hM4⟩ : ∃ x, x = M.drop 8 := ⟨_, rfl⟩
  obtain ⟨M5, hM5⟩ : ∃ x, x = M.drop 12 := ⟨_, rfl⟩
  have HF1 : Hid (∀ W, Hid (Cur W g (some M)) → Calls Try.prog 92 #[(.func (.func 74) #[.pointer (some ⟨g, 0, none⟩)] #[]), .int .i64 1] W fun e w' => e = .returned (.int .i64 (k : Int)) ∧ Hid (Cur w' g (some M1)) ∧ Hid (Only W w' g)) := fun W h => by
    have h1 := field_any g 1 (some M) W h.out
    have hl : 1 ≤ M.length := by omega
    have h2 : stepTake 1 (some M) = (some M1, M.take 1) := by rw [show (1 : Int) = ((1 : Nat) : Int) from rfl, step_ok hl, show M.drop 1 = M1 from by rw [hM1]]
    have h3 : fieldZ (M.take 1) = (k : Int) := by rw [fieldZ_small (by simp; omega) (by simp; omega), hk, ← unfix_one M 0 (by omega)]; rfl
    rw [h2] at h1
    simp only [h3] at h1
    exact h1
  have HF2 : Hid (∀ W, Hid (Cur W g (some M1)) → Calls Try.prog 92 #[(.func (.func 74) #[.pointer (some ⟨g, 0, none⟩)] #[]), .int .i64 1] W fun e w' => e = .returned (.int .i64 (sz : Int)) ∧ Hid (Cur w' g (some M2)) ∧ Hid (Only W w' g)) := fun W h => by
    have h1 := field_any g 1 (some M1) W h.out
    have hl : 1 ≤ M1.length := by rw [hM1, List.length_drop]; omega
    have h2 : stepTake 1 (some M1) = (some M2, M1.take 1) := by rw [show (1 : Int) = ((1 : Nat) : Int) from rfl, step_ok hl, show M1.drop 1 = M2 from by rw [hM2, hM1, List.drop_drop]]
    have h3 : fieldZ (M1.take 1) = (sz : Int) := by rw [hM1, fieldZ_small (by simp; omega) (by simp; omega), hsz, ← unfix_one M 1 (by omega)]
    rw [h2] at h1
    simp only [h3] at h1
    exact h1
  have HF3 : Hid (∀ W, Hid (Cur W g (some M2)) → Calls Try.prog 92 #[(.func (.func 74) #[.pointer (some ⟨g, 0, none⟩)] #[]), .int .i64 2] W fun e w' => e = .returned (.int .i64 (lf : Int)) ∧ Hid (Cur w' g (some M3)) ∧ Hid (Only W w' g)) := fun W h => by
    have h1 := field_any g 2 (some M2) W h.out
    have hl : 2 ≤ M2.length := by rw [hM2, List.length_drop]; omega
    have h2 : stepTake 2 (some M2) = (some M3, M2.take 2) := by rw [show (2 : Int) = ((2 : Nat) : Int) from rfl, step_ok hl, show M2.drop 2 = M3 from by rw [hM3, hM2, List.drop_drop]]
    have h3 : fieldZ (M2.take 2) = (lf : Int) := by rw [hM2, fieldZ_small (by simp; omega) (by simp; omega), hlf]
    rw [h2] at h1
    simp only [h3] at h1
    exact h1
  have HF4 : Hid (∀ W, Hid (Cur W g (some M3)) → Calls Try.prog 92 #[(.func (.func 74) #[.pointer (some ⟨g, 0, none⟩)] #[]), .int .i64 4] W fun e w' => e = .returned (.int .i64 ez) ∧ Hid (Cur w' g (some M4)) ∧ Hid (Only W w' g)) := fun W h => by
    have h1 := field_any g 4 (some M3) W h.out
    have hl : 4 ≤ M3.length := by rw [hM3, List.length_drop]; omega
    have h2 : stepTake 4 (some M3) = (some M4, M3.take 4) := by rw [show (4 : Int) = ((4 : Nat) : Int) from rfl, step_ok hl, show M3.drop 4 = M4 from by rw [hM4, hM3, List.drop_drop]]
    have h3 : fieldZ (M3.take 4) = ez := by rw [hM3, fieldZ_cap (by simp; omega) (by simp; omega), hez]
    rw [h2] at h1
    simp only [h3] at h1
    exact h1
  have HF5 : Hid (∀ W, Hid (Cur W g (some M4)) → Calls Try.prog 92 #[(.func (.func 74) #[.pointer (some ⟨g, 0, none⟩)] #[]), .int .i64 4] W fun e w' => e = .returned (.int .i64 nz) ∧ Hid (Cur w' g (some M5)) ∧ Hid (Only W w' g)) := fun W h => by
    have h1 := field_any g 4 (some M4) W h.out
    have hl : 4 ≤ M4.length := by rw [hM4, List.length_drop]; omega
    have h2 : stepTake 4 (some M4) = (some M5, M4.take 4) := by rw [show (4 : Int) = ((4 : Nat) : Int) from rfl, step_ok hl, show M4.drop 4 = M5 from by rw [hM5, hM4, List.drop_drop]]
    have h3 : fieldZ (M4.take 4) = nz := by rw [hM4, fieldZ_cap (by simp; omega) (by simp; omega), hnz]
    rw [h2] at h1
    simp only [h3] at h1
    exact h1
  obtain ⟨r, hr⟩ : ∃ x, x = 48 - sz := ⟨_, rfl⟩
  obtain ⟨D, hD⟩ : ∃ x, x = M5.take sz := ⟨_, rfl⟩
  obtain ⟨R, hR⟩ : ∃ x, x = M5.drop sz := ⟨_, rfl⟩
  rw [← hsz] at h48
  have hm : Sd.may ⟨(k : Int), ez, nz, (lf : Int), D⟩ = true := by rw [hk, hez, hnz, hlf, hD, hM5, hsz]; exact hm
  have hze : decide (R = List.replicate r 0) = true := by rw [hR, hr, hM5, hsz]; exact decide_eq_true hz
  have l5 : M5.length = 48 := by rw [hM5, List.length_drop, hM]
  have lD : D.length = sz := by rw [hD, List.length_take]; omega
  have lR : R.length = r := by rw [hR, List.length_drop]; omega
  have HT6 : Hid (∀ W, Hid (Cur W g (some M5)) → Calls Try.prog 74 #[.pointer (some ⟨g, 0, none⟩), .int .i64 (sz : Int)] W fun e w' => ∃ A c, e = .returned (.slice A sz c) ∧ Hid (RB w' w'.heap.size A D) ∧ Hid (Cur w' g (some R)) ∧ Hid (Only W w' g)) := fun W h => by
    have h1 := take_any g (sz : Int) (some M5) W h.out
    rw [step_ok (by omega), ← hD, ← hR] at h1
    refine h1.mono fun e w' hh => ?_
    obtain ⟨A, c, he, h2, h3, h4⟩ := hh
    simp only [lD] at he
    exact ⟨A, c, he, h2, h3, h4⟩
  have HT7 : Hid (∀ W, Hid (Cur W g (some R)) → Calls Try.prog 74 #[.pointer (some ⟨g, 0, none⟩), .int .i64 (r : Int)] W fun e w' => ∃ A c, e = .returned (.slice A r c) ∧ Hid (RB w' w'.heap.size A R) ∧ Hid (Cur w' g (some [])) ∧ Hid (Only W w' g)) := fun W h => by
    have h1 := take_any g (r : Int) (some R) W h.out
    rw [step_ok (by omega), List.take_of_length_le (by omega), List.drop_of_length_le (by omega)] at h1
    refine h1.mono fun e w' hh => ?_
    obtain ⟨A, c, he, h2, h3, h4⟩ := hh
    simp only [lR] at he
    exact ⟨A, c, he, h2, h3, h4⟩
  have HL : Hid (∀ W, Hid (Cur W g (some R)) → Calls Try.prog 34 #[.pointer (some ⟨g, 0, none⟩)] W fun e w' => e = .returned (.int .i64 (r : Int)) ∧ W = w') := fun W h => by
    have h1 := left_any g (some R) W h.out
    simp only [leftN, lR] at h1
    exact h1
  have HB : Hid (∀ W, Hid (Cur W g (some [])) → Calls Try.prog 75 #[.pointer (some ⟨g, 0, none⟩)] W fun e w' => e = .returned (.bool false) ∧ W = w') := fun W h => bad_any g (some []) W h.out
  have HV : Hid ((⟨((M.getD 0 0).toNat : Int), capZ (unfixL ((M.drop 4).take 4)), capZ (unfixL ((M.drop 8).take 4)), (unfixL ((M.drop 2).take 2) : Int), (M.drop 12).take (M.getD 1 0).toNat⟩ : Sd) = ⟨(k : Int), ez, nz, (lf : Int), D⟩ ∧ D.length = sz) := ⟨by rw [hk, hez, hnz, hlf, hD, hM5, hsz], lD⟩
  have HMy : Hid (∀ W (A : Option Addr) (c : Nat), Calls Try.prog 65 #[.agg #[.int .i64 (k : Int), .int .i64 ez, .int .i64 nz, .int .i64 (lf : Int), .slice A sz c]] W fun e w' => e = .returned (.bool true) ∧ Below W.heap.size W w') := fun W A c => by
    have h1 := maybe_any ⟨(k : Int), ez, nz, (lf : Int), D⟩ A c W
    rw [hm] at h1
    unfold secV at h1
    simp only [lD] at h1
    exact h1
  have HEq : Hid (∀ W (A A' : Option Addr) (c c' : Nat), RB W W.heap.size A R → RB W W.heap.size A' (List.replicate r 0) → Calls Try.prog 86 #[.slice A r c, .slice A' r c'] W fun e w' => e = .returned (.bool true) ∧ W = w') := fun W A A' c c' h1 h2 => by
    have h3 := equal_any R (List.replicate r 0) A A' c c' _ _ W h1 h2
    rw [List.length_replicate, lR, hze] at h3
    exact h3
  have HN : Hid (w.heap.size + 1 ≠ g ∧ w.heap.size ≠ g ∧ w.heap.size ≠ w.heap.size + 1 ∧ g ≠ w.heap.size + 1) := by
    obtain ⟨_, _, _, _, hb⟩ := cur_blk h
    have := hb.lt
    exact ⟨by omega, by omega, by omega, by omega⟩
  have p0 : Hid (Cur ((w.alloc (.cells #[.int .i64 0, .int .i64 0, .int .i64 0, .int .i64 0, .slice none 0 0] 70)).alloc (.cells #[.int .i64 0, .int .i64 0, .int .i64 0, .int .i64 0, .slice none 0 0] 70)) g (some M)) := cur_alloc (cur_alloc h _) _
  have bk0 : Hid (Blk ((w.alloc (.cells #[.int .i64 0, .int .i64 0, .int .i64 0, .int .i64 0, .slice none 0 0] 70)).alloc (.cells #[.int .i64 0, .int .i64 0, .int .i64 0, .int .i64 0, .slice none 0 0] 70)) (w.heap.size + 1) 70 #[.int .i64 0, .int .i64 0, .int .i64 0, .int .i64 0, .slice none 0 0]) := by have := Blk.new (w.alloc (.cells #[.int .i64 0, .int .i64 0, .int .i64 0, .int .i64 0, .slice none 0 0] 70)) 70 #[.int .i64 0, .int .i64 0, .int .i64 0, .int .i64 0, .slice none 0 0]; rwa [show (w.alloc (.cells #[.int .i64 0, .int .i64 0, .int .i64 0, .int .i64 0, .slice none 0 0] 70)).heap.size = w.heap.size + 1 by simp] at this
  have rk0 : Hid (Blk ((w.alloc (.cells #[.int .i64 0, .int .i64 0, .int .i64 0, .int .i64 0, .slice none 0 0] 70)).alloc (.cells #[.int .i64 0, .int .i64 0, .int .i64 0, .int .i64 0, .slice none 0 0] 70)) w.heap.size 70 #[.int .i64 0, .int .i64 0, .int .i64 0, .int .i64 0, .slice none 0 0]) := (Blk.new w _ _).alloc _
  have O0 : Hid (Only w ((w.alloc (.cells #[.int .i64 0, .int .i64 0, .int .i64 0, .int .i64 0, .slice none 0 0] 70)).alloc (.cells #[.int .i64 0, .int .i64 0, .int .i64 0, .int .i64 0, .slice none 0 0] 70)) g) := only_alloc (only_alloc (only_refl _ _) _) _
  have nb := fun w' => Try.secBuild0 w'
  have a24 := fun w' => Try.aggSec w'
  have s24 := fun w' => Try.sizeSec w'
  have hmf : ∀ (fn : Fn) (first cap : Array Value) (w : World), (Instr.makeFunc fn first cap).run Try.prog w = .ok (.func fn first cap) w := fun _ _ _ _ => rfl
  have HR48 : Hid (r ≤ 48) := by show r ≤ 48; omega
  clear hk hsz hlf hez hnz hM1 hM2 hM3 hM4 hM5 h hM h48 hm hr hD hR l5 lD lR hz hze
  go_enter Try.func71, Try.ntmps71
  go_wp2_with (first
    | (go_at_call 92; (with_reducible refine (HF1.out _ p0).mono ?_); rintro e w1 ⟨rfl, c1, o1⟩; have bk1 := Blk.only bk0.out o1.out HN.out.1; have rk1 := Blk.only rk0.out o1.out HN.out.2.1; have on1 := only_trans O0.out o1.out; have t1 := bk1.cell 0; have s1 := bk1.frozen 0; have BK1 : Hid (Blk (w1.setCell ⟨w.heap.size + 1, 0, none⟩ (.int .i64 (k : Int))) (w.heap.size + 1) 70 #[.int .i64 (k : Int), .int .i64 0, .int .i64 0, .int .i64 0, .slice none 0 0]) := bk1.set_ 0 _; have RK1 : Hid (Blk (w1.setCell ⟨w.heap.size + 1, 0, none⟩ (.int .i64 (k : Int))) w.heap.size 70 #[.int .i64 0, .int .i64 0, .int .i64 0, .int .i64 0, .slice none 0 0]) := Blk.far rk1 HN.out.2.2.1 _; have p1 : Hid (Cur (w1.setCell ⟨w.heap.size + 1, 0, none⟩ (.int .i64 (k : Int))) g (some M1)) := cur_set8 c1.out bk1 (no8_sec _ _ _ _ _ _ _) HN.out.2.2.2 _; have O1 : Hid (Only w (w1.setCell ⟨w.heap.size + 1, 0, none⟩ (.int .i64 (k : Int))) g) := only_new on1 (by omega) _)
    | (go_at_call 92; (with_reducible refine (HF2.out _ p1).mono ?_); rintro e w2 ⟨rfl, c2, o2⟩; have bk2 := Blk.only BK1.out o2.out HN.out.1; have rk2 := Blk.only RK1.out o2.out HN.out.2.1; have on2 := only_trans O1.out o2.out; have BK2 := Lib.hid bk2; have RK2 := Lib.hid rk2; have p2 := c2; have O2 := Lib.hid on2)
    | (go_at_call 92; (with_reducible refine (HF3.out _ p2).mono ?_); rintro e w3 ⟨rfl, c3, o3⟩; have bk3 := Blk.only BK2.out o3.out HN.out.1; have rk3 := Blk.only RK2.out o3.out HN.out.2.1; have on3 := only_trans O2.out o3.out; have t3 := bk3.cell 3; have s3 := bk3.frozen 3; have BK3 : Hid (Blk (w3.setCell ⟨w.heap.size + 1, 3, none⟩ (.int .i64 (lf : Int))) (w.heap.size + 1) 70 #[.int .i64 (k : Int), .int .i64 0, .int .i64 0, .int .i64 (lf : Int), .slice none 0 0]) := bk3.set_ 3 _; have RK3 : Hid (Blk (w3.setCell ⟨w.heap.size + 1, 3, none⟩ (.int .i64 (lf : Int))) w.heap.size 70 #[.int .i64 0, .int .i64 0, .int .i64 0, .int .i64 0, .slice none 0 0]) := Blk.far rk3 HN.out.2.2.1 _; have p3 : Hid (Cur (w3.setCell ⟨w.heap.size + 1, 3, none⟩ (.int .i64 (lf : Int))) g (some M3)) := cur_set8 c3.out bk3 (no8_sec _ _ _ _ _ _ _) HN.out.2.2.2 _; have O3 : Hid (Only w (w3.setCell ⟨w.heap.size + 1, 3, none⟩ (.int .i64 (lf : Int))) g) := only_new on3 (by omega) _)
    | (go_at_call 92; (with_reducible refine (HF4.out _ p3).mono ?_); rintro e w4 ⟨rfl, c4, o4⟩; have bk4 := Blk.only BK3.out o4.out HN.out.1; have rk4 := Blk.only RK3.out o4.out HN.out.2.1; have on4 := only_trans O3.out o4.out; have t4 := bk4.cell 1; have s4 := bk4.frozen 1; have BK4 : Hid (Blk (w4.setCell ⟨w.heap.size + 1, 1, none⟩ (.int .i64 ez)) (w.heap.size + 1) 70 #[.int .i64 (k : Int), .int .i64 ez, .int .i64 0, .int .i64 (lf : Int), .slice none 0 0]) := bk4.set_ 1 _; have RK4 : Hid (Blk (w4.setCell ⟨w.heap.size + 1, 1, none⟩ (.int .i64 ez)) w.heap.size 70 #[.int .i64 0, .int .i64 0, .int .i64 0, .int .i64 0, .slice none 0 0]) := Blk.far rk4 HN.out.2.2.1 _; have p4 : Hid (Cur (w4.setCell ⟨w.heap.size + 1, 1, none⟩ (.int .i64 ez)) g (some M4)) := cur_set8 c4.out bk4 (no8_sec _ _ _ _ _ _ _) HN.out.2.2.2 _; have O4 : Hid (Only w (w4.setCell ⟨w.heap.size + 1, 1, none⟩ (.int .i64 ez)) g) := only_new on4 (by omega) _)
    | (go_at_call 92; (with_reducible refine (HF5.out _ p4).mono ?_); rintro e w5 ⟨rfl, c5, o5⟩; have bk5 := Blk.only BK4.out o5.out HN.out.1; have rk5 := Blk.only RK4.out o5.out HN.out.2.1; have on5 := only_trans O4.out o5.out; have t5 := bk5.cell 2; have s5 := bk5.frozen 2; have BK5 : Hid (Blk (w5.setCell ⟨w.heap.size + 1, 2, none⟩ (.int .i64 nz)) (w.heap.size + 1) 70 #[.int .i64 (k : Int), .int .i64 ez, .int .i64 nz, .int .i64 (lf : Int), .slice none 0 0]) := bk5.set_ 2 _; have RK5 : Hid (Blk (w5.setCell ⟨w.heap.size + 1, 2, none⟩ (.int .i64 nz)) w.heap.size 70 #[.int .i64 0, .int .i64 0, .int .i64 0, .int .i64 0, .slice none 0 0]) := Blk.far rk5 HN.out.2.2.1 _; have p5 : Hid (Cur (w5.setCell ⟨w.heap.size + 1, 2, none⟩ (.int .i64 nz)) g (some M5)) := cur_set8 c5.out bk5 (no8_sec _ _ _ _ _ _ _) HN.out.2.2.2 _; have O5 : Hid (Only w (w5.setCell ⟨w.heap.size + 1, 2, none⟩ (.int .i64 nz)) g) := only_new on5 (by omega) _)
    | (go_at_call 74; (with_reducible refine (HT6.out _ p5).mono ?_); rintro e w6 ⟨A6, c6, rfl, r6, c6', o6⟩; have bk6 := Blk.only BK5.out o6.out HN.out.1; have rk6 := Blk.only RK5.out o6.out HN.out.2.1; have on6 := only_trans O5.out o6.out; have t6 := bk6.cell 4; have s6 := bk6.frozen 4; have BK6 : Hid (Blk (w6.setCell ⟨w.heap.size + 1, 4, none⟩ (.slice A6 sz c6)) (w.heap.size + 1) 70 #[.int .i64 (k : Int), .int .i64 ez, .int .i64 nz, .int .i64 (lf : Int), .slice A6 sz c6]) := bk6.set_ 4 _; have RK6 : Hid (Blk (w6.setCell ⟨w.heap.size + 1, 4, none⟩ (.slice A6 sz c6)) w.heap.size 70 #[.int .i64 0, .int .i64 0, .int .i64 0, .int .i64 0, .slice none 0 0]) := Blk.far rk6 HN.out.2.2.1 _; have p6 : Hid (Cur (w6.setCell ⟨w.heap.size + 1, 4, none⟩ (.slice A6 sz c6)) g (some R)) := cur_set8 c6'.out bk6 (no8_sec _ _ _ _ _ _ _) HN.out.2.2.2 _; have O6 : Hid (Only w (w6.setCell ⟨w.heap.size + 1, 4, none⟩ (.slice A6 sz c6)) g) := only_new on6 (by omega) _; have R6 := Lib.hid (rb_set8 (i := 4) r6.out bk6 (no8_sec _ _ _ _ _ _ _) (.slice A6 sz c6)))
    | (go_at_call 34; (with_reducible refine (HL.out _ p6).mono ?_); rintro e w' ⟨rfl, rfl⟩)
    | (go_at_call 74; (with_reducible refine (HT7.out _ p6).mono ?_); rintro e w7 ⟨A7, c7, rfl, r7, c7', o7⟩; have bk7 := Blk.only BK6.out o7.out HN.out.1; have rk7 := Blk.only RK6.out o7.out HN.out.2.1; have on7 := only_trans O6.out o7.out; have p7 := c7'; have v0 := bk7.cell 0; have v1 := bk7.cell 1; have v2 := bk7.cell 2; have v3 := bk7.cell 3; have v4 := bk7.cell 4; obtain ⟨_, _, _, _, gk7⟩ := cur_blk p6.out; have R7 := Lib.hid (rb_only8 R6.out gk7 (no8_cur _ _ _ _) o7.out))
    | (go_at_call 75; (with_reducible refine (HB.out _ p7).mono ?_); rintro e w' ⟨rfl, rfl⟩)
    | (go_at_call 65; (with_reducible refine (HMy.out _ _ _).mono ?_); rintro e w8 ⟨rfl, hb8⟩; have bk8 := bk7.below hb8 bk7.lt; have rk8 := rk7.below hb8 rk7.lt; have on8 := only_more on7 hb8)
    | (at_make; refine wpList_make_yes _ rfl (.tmp 42) (.tmp 42) 26 rfl w8.heap.size 5 i0 _ 1 Try.underlying26 hi0 hz0 hz1 .i64 .i64 _ _ r rfl rfl rfl rfl (by rw [hz2]; have := HR48.out; omega) (by have := HR48.out; unfold maxLen; omega) (Nat.le_refl _) ?_; intro w9 hown9 hg9; have hb9 := (Below.refl w8.heap.size w8).grown hg9 (Nat.le_refl _) (by simp); have ra9 := ((r7.out.below hb8).more hb8.size).below hb9 |>.more hb9.size; have rb9 := made_rb7 hown9; have bk9 := bk8.below hb9 bk8.lt; have rk9 := rk8.below hb9 rk8.lt; have on9 := only_more on8 hb9; clear hown9 hg9)
    | (go_at_call 86; (with_reducible refine (HEq.out _ _ _ _ _ ra9 rb9).mono ?_); rintro e w' ⟨rfl, rfl⟩; have z0 := rk9.cell 0; have y0 := rk9.frozen 0; have z1 := rk9.cell 1; have y1 := rk9.frozen 1; have z2 := rk9.cell 2; have y2 := rk9.frozen 2; have z3 := rk9.cell 3; have y3 := rk9.frozen 3; have z4 := rk9.cell 4; have y4 := rk9.frozen 4; have x0 := bk9.cell 0; have x1 := bk9.cell 1; have x2 := bk9.cell 2; have x3 := bk9.cell 3; have x4 := bk9.cell 4))
  refine bodyPost_ret (v := .tuple #[.agg #[.int .i64 (k : Int), .int .i64 ez, .int .i64 nz, .int .i64 (lf : Int), .slice A6 sz c6], .bool true]) (by simp [results, Try.results71, go_sem, z0, z1, z2, z3, z4]) rfl ⟨A6, c6, ?_, ?_, ?_⟩
  · rw [HV.out.1]
    show _ = Ending.returned (.tuple #[.agg #[_, _, _, _, .slice A6 D.length c6], _])
    rw [HV.out.2]
  · rw [HV.out.1]
    have r9 := rb_up7 (rb_up7 R7.out hb8) hb9
    have q := rk9
    exact rb_five r9 rk9 (no8_sec _ _ _ _ _ _ _) _ _ _ _ _
  · exact only_five on9 (Nat.le_refl _) _ _ _ _ _
end Go.Proofs.Ytkockhggnbfahaa
end
section
set_option linter.unusedVariables false
namespace Go.Proofs.Ytkockhggnbfahaa
open Go.RowKit
theorem Try.secBuild5 (k e n l : Int) (A : Option Addr) (m c : Nat) (w : World) : Sem.run Try.prog (Instr.build 70 #[(0, .int .i64 k), (1, .int .i64 e), (2, .int .i64 n), (3, .int .i64 l), (4, .slice A m c)]) w = .ok (.agg #[.int .i64 k, .int .i64 e, .int .i64 n, .int .i64 l, .slice A m c]) w := by kernel_rfl
set_option maxRecDepth 100000 in
set_option maxHeartbeats 4000000 in
theorem rget_in4 (b M : List UInt8) (b0 o c : Nat) (w : World) (h64 : b.length = 64) (hr : RB w w.heap.size (some ⟨b0, o, none⟩) b) (hc : 64 ≤ c) (hcm : c ≤ 9223372036854775807) (ho : openL b = some M) (h1 : unfixL ((M.drop 4).take 4) ≤ 2147483647) (h2 : unfixL ((M.drop 8).take 4) ≤ 2147483647) (h3 : (M.getD 1 0).toNat ≤ 48) (hm : (secOf M).may = false) :
    Calls Try.prog 40 #[.slice (some ⟨b0, o, none⟩) 64 c] w (GivesSc (getS b) w) := by
  have hM60 : M.length = 60 := by have := (openL_some ho).2; omega
  have hMb : M = b.take 60 := by
    have h1 := (openL_some ho).1
    rw [h1]; unfold sealL; rw [List.take_append_of_le_length (by omega), List.take_of_length_le (by omega)]
  have hrM : RB w w.heap.size (some ⟨b0, o, none⟩) M := by rw [hMb]; exact rb_take hr 60 (by omega)
  have HO : Hid (∀ W, Below w.heap.size w W → Calls Try.prog 81 #[.slice (some ⟨b0, o, none⟩) 64 c] W fun e w' => e = .returned (.tuple #[.slice (some ⟨b0, o, none⟩) 60 c, .int .i64 0]) ∧ Below W.heap.size W w') := fun W hb => by
    have := refOpen_view b M (some ⟨b0, o, none⟩) c W (rb_up7 hr hb) (by omega) hcm (by omega) ho
    rw [h64, hM60] at this
    exact this
  obtain ⟨lv, hlv⟩ : ∃ x, x = unfixL ((M.drop 2).take 2) := ⟨_, rfl⟩
  obtain ⟨ev, hev⟩ : ∃ x, x = unfixL ((M.drop 4).take 4) := ⟨_, rfl⟩
  obtain ⟨nv, hnv⟩ : ∃ x, x = unfixL ((M.drop 8).take 4) := ⟨_, rfl⟩
  obtain ⟨kd, hkd⟩ : ∃ x, x = (M.getD 0 0).toNat := ⟨_, rfl⟩
  obtain ⟨nn, hnn⟩ : ∃ x, x = (M.getD 1 0).toNat := ⟨_, rfl⟩
  have lvs : lv ≤ 65535 := by
    have := unfixL_lt ((M.drop 2).take 2)
    have hl : ((M.drop 2).take 2).length = 2 := by rw [List.length_take, List.length_drop]; omega
    rw [hl] at this
    have e : (256 : Nat) ^ 2 = 65536 := rfl
    omega
  have hnn256 : nn < 256 := by rw [hnn]; exact (M.getD 1 0).toNat_lt
  have hkd256 : kd < 256 := by rw [hkd]; exact (M.getD 0 0).toNat_lt
  have HU : Hid (∀ W (k q : Nat) (r : Nat × Nat), Below w.heap.size w W → k + q ≤ 60 → 1 ≤ q → q ≤ 4 → unfixR ((M.drop k).take q) = r → Calls Try.prog 41 #[.slice (some ⟨b0, o + k, none⟩) q (c - k)] W fun e w' => e = .returned (.tuple #[.int .i64 (r.1 : Int), .int .i64 (r.2 : Int)]) ∧ W = w') := fun W k q r hb h1 h2 h3 hq => by
    have hl : ((M.drop k).take q).length = q := by rw [List.length_take, List.length_drop]; omega
    have := refUnfix_any ((M.drop k).take q) (some ⟨b0, o + k, none⟩) (c - k) _ W (sub_rb (hrM.below hb) k q (by omega) (show M.length < c by omega)) (by omega)
    rw [hl, hq] at this
    exact this
  have l2 : ((M.drop 2).take 2).length = 2 := by rw [List.length_take, List.length_drop]; omega
  have l4 : ((M.drop 4).take 4).length = 4 := by rw [List.length_take, List.length_drop]; omega
  have l8 : ((M.drop 8).take 4).length = 4 := by rw [List.length_take, List.length_drop]; omega
  have HU1 : Hid (∀ W, Below w.heap.size w W → Calls Try.prog 41 #[.slice (some ⟨b0, o + 2, none⟩) 2 (c - 2)] W fun e w' => e = .returned (.tuple #[.int .i64 (lv : Int), .int .i64 0]) ∧ W = w') := fun W hb => by
    rw [hlv]; exact HU.out W 2 2 (_, 0) hb (by omega) (by omega) (by omega) (unfix_ok l2 (by omega) (by omega) (by omega))
  have HCell : Hid (∀ W, Below w.heap.size w W → W.cell? ⟨b0, o, none⟩ = some (.int .u8 (kd : Int)) ∧ W.cell? ⟨b0, o + 1, none⟩ = some (.int .u8 (nn : Int))) := fun W hb => by
    obtain ⟨b', o', e, _, hcc⟩ := (hrM.below hb).at_ (by omega)
    simp only [Option.some.injEq, Addr.mk.injEq, and_true] at e
    obtain ⟨rfl, rfl⟩ := e
    have c0 := hcc 0 (by omega)
    have c1 := hcc 1 (by omega)
    refine ⟨?_, ?_⟩
    · rw [Nat.add_zero] at c0
      rw [c0, hkd]; simp [List.getD, List.getElem?_eq_getElem (show 0 < M.length by omega)]
    · rw [c1, hnn]; simp [List.getD, List.getElem?_eq_getElem (show 1 < M.length by omega)]
  have HB : Hid (Below w.heap.size w (w.alloc (.cells #[.int .i64 0, .int .i64 0, .int .i64 0, .int .i64 0, .slice none 0 0] 70))) := (Below.refl _ _).alloc (Nat.le_refl _) _
  have HC := Lib.hid (fun W hb => res_at w W hb)
  have nb := fun w' => Try.secBuild0 w'
  have a24 := fun w' => Try.aggSec w'
  have s24 := fun w' => Try.sizeSec w'
  have k1 := fun W => sl_both b0 o 60 c 2 4 2 4 rfl rfl (by omega) (by omega) (by omega) W
  have k2 := fun W => sl_both b0 o 60 c 4 8 4 8 rfl rfl (by omega) (by omega) (by omega) W
  have k3 := fun W => sl_both b0 o 60 c 8 12 8 12 rfl rfl (by omega) (by omega) (by omega) W
  simp only [Nat.reduceSub] at k1 k2 k3
  have HU2 : Hid (∀ W, Below w.heap.size w W → Calls Try.prog 41 #[.slice (some ⟨b0, o + 4, none⟩) 4 (c - 4)] W fun e w' => e = .returned (.tuple #[.int .i64 (ev : Int), .int .i64 0]) ∧ W = w') := fun W hb => by
    rw [hev]; exact HU.out W 4 4 (_, 0) hb (by omega) (by omega) (by omega) (unfix_ok l4 (by omega) (by omega) (by omega))
  have HU3 : Hid (∀ W, Below w.heap.size w W → Calls Try.prog 41 #[.slice (some ⟨b0, o + 8, none⟩) 4 (c - 8)] W fun e w' => e = .returned (.tuple #[.int .i64 (nv : Int), .int .i64 0]) ∧ W = w') := fun W hb => by
    rw [hnv]; exact HU.out W 8 4 (_, 0) hb (by omega) (by omega) (by omega) (unfix_ok l8 (by omega) (by omega) (by omega))
  have d0 : decide ((48 : Int) < (nn : Int)) = false := decide_eq_false (by omega)
  have d1 : decide ((nn : Int) > 48) = false := decide_eq_false (by omega)
  have d2 : decide (48 < nn) = false := decide_eq_false (by omega)
  have e12 : IntKind.i64.wrap ((12 : Int) + (nn : Int)) = (12 : Int) + (nn : Int) := IntWalk.i64_in _ (by omega)
  have k4 := fun W => sl_both b0 o 60 c 12 (12 + nn) 12 ((12 : Int) + (nn : Int)) rfl (by omega) (by omega) (by omega) (by omega) W
  rw [show 12 + nn - 12 = nn by omega] at k4
  have n5 := fun w' => Try.secBuild5 (kd : Int) (ev : Int) (nv : Int) (lv : Int) (some ⟨b0, o + 12, none⟩) nn (c - 12) w'
  have hS : secOf M = ⟨(kd : Int), (ev : Int), (nv : Int), (lv : Int), (M.drop 12).take nn⟩ := by unfold secOf; rw [hkd, hev, hnv, hlv, hnn]
  have hDl : ((M.drop 12).take nn).length = nn := by rw [List.length_take, List.length_drop]; omega
  have HDr : Hid (∀ W, Below w.heap.size w W → RBc W (some ⟨b0, o + 12, none⟩) (secOf M).data (c - 12)) := fun W hb => by
    rw [hS]; exact ⟨(sub_rb (hrM.below hb) 12 nn (by omega) (show M.length < c by omega)).more hb.size, by show ((M.drop 12).take nn).length ≤ c - 12; rw [hDl]; omega, by omega⟩
  have hVv : secV (secOf M) (some ⟨b0, o + 12, none⟩) (c - 12) = .agg #[.int .i64 (kd : Int), .int .i64 (ev : Int), .int .i64 (nv : Int), .int .i64 (lv : Int), .slice (some ⟨b0, o + 12, none⟩) nn (c - 12)] := by rw [hS]; unfold secV; simp only [hDl]
  have HSb : Hid (∀ W, Below w.heap.size w W → (convert 26 9 (.slice (some ⟨b0, o, none⟩) 64 c)).run Try.prog W = .ok (.string ⟨b.toArray⟩) W) := fun W hb => aw_str (rb_up7 hr hb) 64 c h64.symm
  have HCS : Hid (∀ W W' : World, Below (W.alloc (.cells #[.int .i64 (kd : Int), .int .i64 (ev : Int), .int .i64 (nv : Int), .int .i64 (lv : Int), .slice (some ⟨b0, o + 12, none⟩) nn (c - 12)] 70)).heap.size (W.alloc (.cells #[.int .i64 (kd : Int), .int .i64 (ev : Int), .int .i64 (nv : Int), .int .i64 (lv : Int), .slice (some ⟨b0, o + 12, none⟩) nn (c - 12)] 70)) W' → W'.cell? ⟨W.heap.size, 0, none⟩ = some (.int .i64 (kd : Int)) ∧ W'.cell? ⟨W.heap.size, 1, none⟩ = some (.int .i64 (ev : Int)) ∧ W'.cell? ⟨W.heap.size, 2, none⟩ = some (.int .i64 (nv : Int)) ∧ W'.cell? ⟨W.heap.size, 3, none⟩ = some (.int .i64 (lv : Int)) ∧ W'.cell? ⟨W.heap.size, 4, none⟩ = some (.slice (some ⟨b0, o + 12, none⟩) nn (c - 12))) := fun W W' hb => by
    have h0 : Blk W' W.heap.size 70 #[.int .i64 (kd : Int), .int .i64 (ev : Int), .int .i64 (nv : Int), .int .i64 (lv : Int), .slice (some ⟨b0, o + 12, none⟩) nn (c - 12)] := Blk.below (Blk.new W _ _) hb (by simp)
    exact ⟨by rw [h0.cell]; rfl, by rw [h0.cell]; rfl, by rw [h0.cell]; rfl, by rw [h0.cell]; rfl, by rw [h0.cell]; rfl⟩
  have HV : Hid (getS b = (.zero, 5)) := getS_form h64 ho (fun hF => by have h5 := ((body_secOf M (by omega)).2 hF).1; rw [hm] at h5; cases h5)
  have HPut : Hid (∀ W, Below w.heap.size w W → Calls Try.prog 30 #[.agg #[.int .i64 (kd : Int), .int .i64 (ev : Int), .int .i64 (nv : Int), .int .i64 (lv : Int), .slice (some ⟨b0, o + 12, none⟩) nn (c - 12)]] W fun e w' => e = .returned (.tuple #[.slice none 0 0, .int .i64 1]) ∧ Below W.heap.size W w') := fun W hb => by
    rw [← hVv]; exact rput_no _ _ _ W hm
  clear hM60 hMb hrM h64 hr hcm ho hlv hev hnv hkd hnn lvs l2 l4 l8 HU h1 h2 h3 hDl hS hVv hm
  go_enter Try.func40, Try.ntmps40
  go_wp2_with (first
    | (go_at_call 81; (with_reducible refine (HO.out _ HB.out).mono ?_); rintro e w1 ⟨rfl, hb1⟩; obtain ⟨⟨p0, p1, p2, p3, p4⟩, f0, f1, f2, f3, f4⟩ := HC.out _ hb1; have b1 := chain7 HB.out hb1; obtain ⟨q0, q1⟩ := HCell.out _ b1)
    | (go_at_call 41; (with_reducible refine (HU1.out _ b1).mono ?_); rintro e w2 ⟨rfl, rfl⟩)
    | (go_at_call 41; (with_reducible refine (HU2.out _ b1).mono ?_); rintro e w2 ⟨rfl, rfl⟩)
    | (go_at_call 41; (with_reducible refine (HU3.out _ b1).mono ?_); rintro e w2 ⟨rfl, rfl⟩))
  have b1a := b1.alloc b1.size (.cells #[.int .i64 0, .int .i64 0, .int .i64 0, .int .i64 0, .slice none 0 0] 70)
  obtain ⟨q0a, -⟩ := HCell.out _ b1a
  go_region
  have bA : Below w.heap.size w (w1.alloc (.cells #[.int .i64 (kd : Int), .int .i64 (ev : Int), .int .i64 (nv : Int), .int .i64 (lv : Int), .slice (some ⟨b0, o + 12, none⟩) nn (c - 12)] 70)).drew := (b1.alloc b1.size _).drew
  have hbA := (hb1.alloc hb1.size (.cells #[.int .i64 (kd : Int), .int .i64 (ev : Int), .int .i64 (nv : Int), .int .i64 (lv : Int), .slice (some ⟨b0, o + 12, none⟩) nn (c - 12)] 70)).drew
  have hbS : Below (w1.alloc (.cells #[.int .i64 (kd : Int), .int .i64 (ev : Int), .int .i64 (nv : Int), .int .i64 (lv : Int), .slice (some ⟨b0, o + 12, none⟩) nn (c - 12)] 70)).heap.size (w1.alloc (.cells #[.int .i64 (kd : Int), .int .i64 (ev : Int), .int .i64 (nv : Int), .int .i64 (lv : Int), .slice (some ⟨b0, o + 12, none⟩) nn (c - 12)] 70)) (w1.alloc (.cells #[.int .i64 (kd : Int), .int .i64 (ev : Int), .int .i64 (nv : Int), .int .i64 (lv : Int), .slice (some ⟨b0, o + 12, none⟩) nn (c - 12)] 70)).drew := (Below.refl _ _).drew
  obtain ⟨t0, t1, t2, t3, t4⟩ := HCS.out _ _ hbS
  have HCS1 := Lib.hid (HCS.out w1)
  clear p0 p1 p2 p3 p4 f0 f1 f2 f3 f4 q0 q1 HCell HU1 HU2 HU3 HO k1 k2 k3 k4 e12 n5 HCS
  generalize hWA : (w1.alloc (.cells #[.int .i64 (kd : Int), .int .i64 (ev : Int), .int .i64 (nv : Int), .int .i64 (lv : Int), .slice (some ⟨b0, o + 12, none⟩) nn (c - 12)] 70)) = WA at bA hbA hbS t0 t1 t2 t3 t4 HCS1 ⊢
  generalize w1.heap.size = g3 at t0 t1 t2 t3 t4 HCS1 ⊢
  clear hWA
  go_wp2_with (first
    | (go_at_call 30; (with_reducible refine (HPut.out _ bA).mono ?_); rintro e w6 ⟨rfl, hb6⟩; have b6 := chain7 bA hb6; obtain ⟨⟨p0, p1, p2, p3, p4⟩, f0, f1, f2, f3, f4⟩ := HC.out _ (chain7 hbA hb6); have sb := HSb.out _ b6; clear t0 t1 t2 t3 t4; obtain ⟨t0, t1, t2, t3, t4⟩ := HCS1.out _ (chain7 hbS hb6)))
  refine bodyPost_ret (v := .tuple #[.agg #[.int .i64 0, .int .i64 0, .int .i64 0, .int .i64 0, .slice none 0 0], .int .i64 5]) (by simp [results, Try.results40, go_sem, p0, p1, p2, p3, p4]) rfl ⟨none, 0, by rw [HV.out]; rfl, by rw [HV.out]; exact rbc_none _, below_five b6 (Nat.le_refl _) _ _ _ _ _⟩
set_option maxRecDepth 100000 in
set_option maxHeartbeats 4000000 in
theorem rget_in5 (b M : List UInt8) (b0 o c : Nat) (w : World) (h64 : b.length = 64) (hr : RB w w.heap.size (some ⟨b0, o, none⟩) b) (hc : 64 ≤ c) (hcm : c ≤ 9223372036854775807) (ho : openL b = some M) (h1 : unfixL ((M.drop 4).take 4) ≤ 2147483647) (h2 : unfixL ((M.drop 8).take 4) ≤ 2147483647) (h3 : (M.getD 1 0).toNat ≤ 48) (hm : (secOf M).may = true) (hbd : ¬ (secOf M).body = M) :
    Calls Try.prog 40 #[.slice (some ⟨b0, o, none⟩) 64 c] w (GivesSc (getS b) w) := by
  have hM60 : M.length = 60 := by have := (openL_some ho).2; omega
  have hMb : M = b.take 60 := by
    have h1 := (openL_some ho).1
    rw [h1]; unfold sealL; rw [List.take_append_of_le_length (by omega), List.take_of_length_le (by omega)]
  have hrM : RB w w.heap.size (some ⟨b0, o, none⟩) M := by rw [hMb]; exact rb_take hr 60 (by omega)
  have HO : Hid (∀ W, Below w.heap.size w W → Calls Try.prog 81 #[.slice (some ⟨b0, o, none⟩) 64 c] W fun e w' => e = .returned (.tuple #[.slice (some ⟨b0, o, none⟩) 60 c, .int .i64 0]) ∧ Below W.heap.size W w') := fun W hb => by
    have := refOpen_view b M (some ⟨b0, o, none⟩) c W (rb_up7 hr hb) (by omega) hcm (by omega) ho
    rw [h64, hM60] at this
    exact this
  obtain ⟨lv, hlv⟩ : ∃ x, x = unfixL ((M.drop 2).take 2) := ⟨_, rfl⟩
  obtain ⟨ev, hev⟩ : ∃ x, x = unfixL ((M.drop 4).take 4) := ⟨_, rfl⟩
  obtain ⟨nv, hnv⟩ : ∃ x, x = unfixL ((M.drop 8).take 4) := ⟨_, rfl⟩
  obtain ⟨kd, hkd⟩ : ∃ x, x = (M.getD 0 0).toNat := ⟨_, rfl⟩
  obtain ⟨nn, hnn⟩ : ∃ x, x = (M.getD 1 0).toNat := ⟨_, rfl⟩
  have lvs : lv ≤ 65535 := by
    have := unfixL_lt ((M.drop 2).take 2)
    have hl : ((M.drop 2).take 2).length = 2 := by rw [List.length_take, List.length_drop]; omega
    rw [hl] at this
    have e : (256 : Nat) ^ 2 = 65536 := rfl
    omega
  have hnn256 : nn < 256 := by rw [hnn]; exact (M.getD 1 0).toNat_lt
  have hkd256 : kd < 256 := by rw [hkd]; exact (M.getD 0 0).toNat_lt
  have HU : Hid (∀ W (k q : Nat) (r : Nat × Nat), Below w.heap.size w W → k + q ≤ 60 → 1 ≤ q → q ≤ 4 → unfixR ((M.drop k).take q) = r → Calls Try.prog 41 #[.slice (some ⟨b0, o + k, none⟩) q (c - k)] W fun e w' => e = .returned (.tuple #[.int .i64 (r.1 : Int), .int .i64 (r.2 : Int)]) ∧ W = w') := fun W k q r hb h1 h2 h3 hq => by
    have hl : ((M.drop k).take q).length = q := by rw [List.length_take, List.length_drop]; omega
    have := refUnfix_any ((M.drop k).take q) (some ⟨b0, o + k, none⟩) (c - k) _ W (sub_rb (hrM.below hb) k q (by omega) (show M.length < c by omega)) (by omega)
    rw [hl, hq] at this
    exact this
  have l2 : ((M.drop 2).take 2).length = 2 := by rw [List.length_take, List.length_drop]; omega
  have l4 : ((M.drop 4).take 4).length = 4 := by rw [List.length_take, List.length_drop]; omega
  have l8 : ((M.drop 8).take 4).length = 4 := by rw [List.length_take, List.length_drop]; omega
  have HU1 : Hid (∀ W, Below w.heap.size w W → Calls Try.prog 41 #[.slice (some ⟨b0, o + 2, none⟩) 2 (c - 2)] W fun e w' => e = .returned (.tuple #[.int .i64 (lv : Int), .int .i64 0]) ∧ W = w') := fun W hb => by
    rw [hlv]; exact HU.out W 2 2 (_, 0) hb (by omega) (by omega) (by omega) (unfix_ok l2 (by omega) (by omega) (by omega))
  have HCell : Hid (∀ W, Below w.heap.size w W → W.cell? ⟨b0, o, none⟩ = some (.int .u8 (kd : Int)) ∧ W.cell? ⟨b0, o + 1, none⟩ = some (.int .u8 (nn : Int))) := fun W hb => by
    obtain ⟨b', o', e, _, hcc⟩ := (hrM.below hb).at_ (by omega)
    simp only [Option.some.injEq, Addr.mk.injEq, and_true] at e
    obtain ⟨rfl, rfl⟩ := e
    have c0 := hcc 0 (by omega)
    have c1 := hcc 1 (by omega)
    refine ⟨?_, ?_⟩
    · rw [Nat.add_zero] at c0
      rw [c0, hkd]; simp [List.getD, List.getElem?_eq_getElem (show 0 < M.length by omega)]
    · rw [c1, hnn]; simp [List.getD, List.getElem?_eq_getElem (show 1 < M.length by omega)]
  have HB : Hid (Below w.heap.size w (w.alloc (.cells #[.int .i64 0, .int .i64 0, .int .i64 0, .int .i64 0, .slice none 0 0] 70))) := (Below.refl _ _).alloc (Nat.le_refl _) _
  have HC := Lib.hid (fun W hb => res_at w W hb)
  have nb := fun w' => Try.secBuild0 w'
  have a24 := fun w' => Try.aggSec w'
  have s24 := fun w' => Try.sizeSec w'
  have k1 := fun W => sl_both b0 o 60 c 2 4 2 4 rfl rfl (by omega) (by omega) (by omega) W
  have k2 := fun W => sl_both b0 o 60 c 4 8 4 8 rfl rfl (by omega) (by omega) (by omega) W
  have k3 := fun W => sl_both b0 o 60 c 8 12 8 12 rfl rfl (by omega) (by omega) (by omega) W
  simp only [Nat.reduceSub] at k1 k2 k3
  have HU2 : Hid (∀ W, Below w.heap.size w W → Calls Try.prog 41 #[.slice (some ⟨b0, o + 4, none⟩) 4 (c - 4)] W fun e w' => e = .returned (.tuple #[.int .i64 (ev : Int), .int .i64 0]) ∧ W = w') := fun W hb => by
    rw [hev]; exact HU.out W 4 4 (_, 0) hb (by omega) (by omega) (by omega) (unfix_ok l4 (by omega) (by omega) (by omega))
  have HU3 : Hid (∀ W, Below w.heap.size w W → Calls Try.prog 41 #[.slice (some ⟨b0, o + 8, none⟩) 4 (c - 8)] W fun e w' => e = .returned (.tuple #[.int .i64 (nv : Int), .int .i64 0]) ∧ W = w') := fun W hb => by
    rw [hnv]; exact HU.out W 8 4 (_, 0) hb (by omega) (by omega) (by omega) (unfix_ok l8 (by omega) (by omega) (by omega))
  have d0 : decide ((48 : Int) < (nn : Int)) = false := decide_eq_false (by omega)
  have d1 : decide ((nn : Int) > 48) = false := decide_eq_false (by omega)
  have d2 : decide (48 < nn) = false := decide_eq_false (by omega)
  have e12 : IntKind.i64.wrap ((12 : Int) + (nn : Int)) = (12 : Int) + (nn : Int) := IntWalk.i64_in _ (by omega)
  have k4 := fun W => sl_both b0 o 60 c 12 (12 + nn) 12 ((12 : Int) + (nn : Int)) rfl (by omega) (by omega) (by omega) (by omega) W
  rw [show 12 + nn - 12 = nn by omega] at k4
  have n5 := fun w' => Try.secBuild5 (kd : Int) (ev : Int) (nv : Int) (lv : Int) (some ⟨b0, o + 12, none⟩) nn (c - 12) w'
  have hS : secOf M = ⟨(kd : Int), (ev : Int), (nv : Int), (lv : Int), (M.drop 12).take nn⟩ := by unfold secOf; rw [hkd, hev, hnv, hlv, hnn]
  have hDl : ((M.drop 12).take nn).length = nn := by rw [List.length_take, List.length_drop]; omega
  have HDr : Hid (∀ W, Below w.heap.size w W → RBc W (some ⟨b0, o + 12, none⟩) (secOf M).data (c - 12)) := fun W hb => by
    rw [hS]; exact ⟨(sub_rb (hrM.below hb) 12 nn (by omega) (show M.length < c by omega)).more hb.size, by show ((M.drop 12).take nn).length ≤ c - 12; rw [hDl]; omega, by omega⟩
  have hVv : secV (secOf M) (some ⟨b0, o + 12, none⟩) (c - 12) = .agg #[.int .i64 (kd : Int), .int .i64 (ev : Int), .int .i64 (nv : Int), .int .i64 (lv : Int), .slice (some ⟨b0, o + 12, none⟩) nn (c - 12)] := by rw [hS]; unfold secV; simp only [hDl]
  have HSb : Hid (∀ W, Below w.heap.size w W → (convert 26 9 (.slice (some ⟨b0, o, none⟩) 64 c)).run Try.prog W = .ok (.string ⟨b.toArray⟩) W) := fun W hb => aw_str (rb_up7 hr hb) 64 c h64.symm
  have HCS : Hid (∀ W W' : World, Below (W.alloc (.cells #[.int .i64 (kd : Int), .int .i64 (ev : Int), .int .i64 (nv : Int), .int .i64 (lv : Int), .slice (some ⟨b0, o + 12, none⟩) nn (c - 12)] 70)).heap.size (W.alloc (.cells #[.int .i64 (kd : Int), .int .i64 (ev : Int), .int .i64 (nv : Int), .int .i64 (lv : Int), .slice (some ⟨b0, o + 12, none⟩) nn (c - 12)] 70)) W' → W'.cell? ⟨W.heap.size, 0, none⟩ = some (.int .i64 (kd : Int)) ∧ W'.cell? ⟨W.heap.size, 1, none⟩ = some (.int .i64 (ev : Int)) ∧ W'.cell? ⟨W.heap.size, 2, none⟩ = some (.int .i64 (nv : Int)) ∧ W'.cell? ⟨W.heap.size, 3, none⟩ = some (.int .i64 (lv : Int)) ∧ W'.cell? ⟨W.heap.size, 4, none⟩ = some (.slice (some ⟨b0, o + 12, none⟩) nn (c - 12))) := fun W W' hb => by
    have h0 : Blk W' W.heap.size 70 #[.int .i64 (kd : Int), .int .i64 (ev : Int), .int .i64 (nv : Int), .int .i64 (lv : Int), .slice (some ⟨b0, o + 12, none⟩) nn (c - 12)] := Blk.below (Blk.new W _ _) hb (by simp)
    exact ⟨by rw [h0.cell]; rfl, by rw [h0.cell]; rfl, by rw [h0.cell]; rfl, by rw [h0.cell]; rfl, by rw [h0.cell]; rfl⟩
  have HV : Hid (getS b = (.zero, 5)) := getS_form h64 ho (fun hF => hbd ((body_secOf M (by omega)).2 hF).2)
  have h48 : (secOf M).data.length ≤ 48 := ((Sd.may_iff _).1 hm).2.2.2.2.2.2.2.2
  obtain ⟨S, hSS⟩ : ∃ S, S = (secOf M).bytes := ⟨_, rfl⟩
  have hS64 : S.length = 64 := by rw [hSS]; exact Sd.bytes_length _ h48
  have HPut : Hid (∀ W, Below w.heap.size w W → Calls Try.prog 30 #[.agg #[.int .i64 (kd : Int), .int .i64 (ev : Int), .int .i64 (nv : Int), .int .i64 (lv : Int), .slice (some ⟨b0, o + 12, none⟩) nn (c - 12)]] W fun e w' => ∃ A c, e = .returned (.tuple #[.slice A 64 c, .int .i64 0]) ∧ Hid ((convert 26 9 (.slice A 64 c)).run Try.prog w' = .ok (.string ⟨S.toArray⟩) w') ∧ Below W.heap.size W w') := fun W hb => by
    rw [← hVv]
    refine (rput_yes _ _ _ W hm (HDr.out W hb).1).mono fun e w' hh => ?_
    obtain ⟨A, c, he, ho, hb⟩ := hh
    rw [← hSS] at he ho
    rw [hS64] at he
    exact ⟨A, c, he, aw_str (own_rb ho) 64 c hS64.symm, hb⟩
  have hbb : (S == b) = false := by
    rw [beq_eq_false_iff_ne]
    intro h5
    have h6 : (secOf M).bytes = sealL M := by rw [← hSS, h5]; exact (openL_some ho).1
    exact hbd (sealL_inj h6)
  clear hSS hS64 h48 hbd
  clear hM60 hMb hrM h64 hr hcm ho hlv hev hnv hkd hnn lvs l2 l4 l8 HU h1 h2 h3 hDl hS hVv hm
  go_enter Try.func40, Try.ntmps40
  go_wp2_with (first
    | (go_at_call 81; (with_reducible refine (HO.out _ HB.out).mono ?_); rintro e w1 ⟨rfl, hb1⟩; obtain ⟨⟨p0, p1, p2, p3, p4⟩, f0, f1, f2, f3, f4⟩ := HC.out _ hb1; have b1 := chain7 HB.out hb1; obtain ⟨q0, q1⟩ := HCell.out _ b1)
    | (go_at_call 41; (with_reducible refine (HU1.out _ b1).mono ?_); rintro e w2 ⟨rfl, rfl⟩)
    | (go_at_call 41; (with_reducible refine (HU2.out _ b1).mono ?_); rintro e w2 ⟨rfl, rfl⟩)
    | (go_at_call 41; (with_reducible refine (HU3.out _ b1).mono ?_); rintro e w2 ⟨rfl, rfl⟩))
  have b1a := b1.alloc b1.size (.cells #[.int .i64 0, .int .i64 0, .int .i64 0, .int .i64 0, .slice none 0 0] 70)
  obtain ⟨q0a, -⟩ := HCell.out _ b1a
  go_region
  have bA : Below w.heap.size w (w1.alloc (.cells #[.int .i64 (kd : Int), .int .i64 (ev : Int), .int .i64 (nv : Int), .int .i64 (lv : Int), .slice (some ⟨b0, o + 12, none⟩) nn (c - 12)] 70)).drew := (b1.alloc b1.size _).drew
  have hbA := (hb1.alloc hb1.size (.cells #[.int .i64 (kd : Int), .int .i64 (ev : Int), .int .i64 (nv : Int), .int .i64 (lv : Int), .slice (some ⟨b0, o + 12, none⟩) nn (c - 12)] 70)).drew
  have hbS : Below (w1.alloc (.cells #[.int .i64 (kd : Int), .int .i64 (ev : Int), .int .i64 (nv : Int), .int .i64 (lv : Int), .slice (some ⟨b0, o + 12, none⟩) nn (c - 12)] 70)).heap.size (w1.alloc (.cells #[.int .i64 (kd : Int), .int .i64 (ev : Int), .int .i64 (nv : Int), .int .i64 (lv : Int), .slice (some ⟨b0, o + 12, none⟩) nn (c - 12)] 70)) (w1.alloc (.cells #[.int .i64 (kd : Int), .int .i64 (ev : Int), .int .i64 (nv : Int), .int .i64 (lv : Int), .slice (some ⟨b0, o + 12, none⟩) nn (c - 12)] 70)).drew := (Below.refl _ _).drew
  obtain ⟨t0, t1, t2, t3, t4⟩ := HCS.out _ _ hbS
  have HCS1 := Lib.hid (HCS.out w1)
  clear p0 p1 p2 p3 p4 f0 f1 f2 f3 f4 q0 q1 HCell HU1 HU2 HU3 HO k1 k2 k3 k4 e12 n5 HCS
  generalize hWA : (w1.alloc (.cells #[.int .i64 (kd : Int), .int .i64 (ev : Int), .int .i64 (nv : Int), .int .i64 (lv : Int), .slice (some ⟨b0, o + 12, none⟩) nn (c - 12)] 70)) = WA at bA hbA hbS t0 t1 t2 t3 t4 HCS1 ⊢
  generalize w1.heap.size = g3 at t0 t1 t2 t3 t4 HCS1 ⊢
  clear hWA
  go_wp2_with (first
    | (go_at_call 30; (with_reducible refine (HPut.out _ bA).mono ?_); rintro e w6 ⟨A6, c6, rfl, s6, hb6⟩; have s6 := s6.out; have b6 := chain7 bA hb6; obtain ⟨⟨p0, p1, p2, p3, p4⟩, f0, f1, f2, f3, f4⟩ := HC.out _ (chain7 hbA hb6); have sb := HSb.out _ b6; clear t0 t1 t2 t3 t4; obtain ⟨t0, t1, t2, t3, t4⟩ := HCS1.out _ (chain7 hbS hb6)))
  refine bodyPost_ret (v := .tuple #[.agg #[.int .i64 0, .int .i64 0, .int .i64 0, .int .i64 0, .slice none 0 0], .int .i64 5]) (by simp [results, Try.results40, go_sem, p0, p1, p2, p3, p4]) rfl ⟨none, 0, by rw [HV.out]; rfl, by rw [HV.out]; exact rbc_none _, below_five b6 (Nat.le_refl _) _ _ _ _ _⟩
set_option maxRecDepth 100000 in
set_option maxHeartbeats 4000000 in
theorem rget_in6 (b M : List UInt8) (b0 o c : Nat) (w : World) (h64 : b.length = 64) (hr : RB w w.heap.size (some ⟨b0, o, none⟩) b) (hc : 64 ≤ c) (hcm : c ≤ 9223372036854775807) (ho : openL b = some M) (h1 : unfixL ((M.drop 4).take 4) ≤ 2147483647) (h2 : unfixL ((M.drop 8).take 4) ≤ 2147483647) (h3 : (M.getD 1 0).toNat ≤ 48) (hm : (secOf M).may = true) (hbd : (secOf M).body = M) :
    Calls Try.prog 40 #[.slice (some ⟨b0, o, none⟩) 64 c] w (GivesSc (getS b) w) := by
  have hM60 : M.length = 60 := by have := (openL_some ho).2; omega
  have hMb : M = b.take 60 := by
    have h1 := (openL_some ho).1
    rw [h1]; unfold sealL; rw [List.take_append_of_le_length (by omega), List.take_of_length_le (by omega)]
  have hrM : RB w w.heap.size (some ⟨b0, o, none⟩) M := by rw [hMb]; exact rb_take hr 60 (by omega)
  have HO : Hid (∀ W, Below w.heap.size w W → Calls Try.prog 81 #[.slice (some ⟨b0, o, none⟩) 64 c] W fun e w' => e = .returned (.tuple #[.slice (some ⟨b0, o, none⟩) 60 c, .int .i64 0]) ∧ Below W.heap.size W w') := fun W hb => by
    have := refOpen_view b M (some ⟨b0, o, none⟩) c W (rb_up7 hr hb) (by omega) hcm (by omega) ho
    rw [h64, hM60] at this
    exact this
  obtain ⟨lv, hlv⟩ : ∃ x, x = unfixL ((M.drop 2).take 2) := ⟨_, rfl⟩
  obtain ⟨ev, hev⟩ : ∃ x, x = unfixL ((M.drop 4).take 4) := ⟨_, rfl⟩
  obtain ⟨nv, hnv⟩ : ∃ x, x = unfixL ((M.drop 8).take 4) := ⟨_, rfl⟩
  obtain ⟨kd, hkd⟩ : ∃ x, x = (M.getD 0 0).toNat := ⟨_, rfl⟩
  obtain ⟨nn, hnn⟩ : ∃ x, x = (M.getD 1 0).toNat := ⟨_, rfl⟩
  have lvs : lv ≤ 65535 := by
    have := unfixL_lt ((M.drop 2).take 2)
    have hl : ((M.drop 2).take 2).length = 2 := by rw [List.length_take, List.length_drop]; omega
    rw [hl] at this
    have e : (256 : Nat) ^ 2 = 65536 := rfl
    omega
  have hnn256 : nn < 256 := by rw [hnn]; exact (M.getD 1 0).toNat_lt
  have hkd256 : kd < 256 := by rw [hkd]; exact (M.getD 0 0).toNat_lt
  have HU : Hid (∀ W (k q : Nat) (r : Nat × Nat), Below w.heap.size w W → k + q ≤ 60 → 1 ≤ q → q ≤ 4 → unfixR ((M.drop k).take q) = r → Calls Try.prog 41 #[.slice (some ⟨b0, o + k, none⟩) q (c - k)] W fun e w' => e = .returned (.tuple #[.int .i64 (r.1 : Int), .int .i64 (r.2 : Int)]) ∧ W = w') := fun W k q r hb h1 h2 h3 hq => by
    have hl : ((M.drop k).take q).length = q := by rw [List.length_take, List.length_drop]; omega
    have := refUnfix_any ((M.drop k).take q) (some ⟨b0, o + k, none⟩) (c - k) _ W (sub_rb (hrM.below hb) k q (by omega) (show M.length < c by omega)) (by omega)
    rw [hl, hq] at this
    exact this
  have l2 : ((M.drop 2).take 2).length = 2 := by rw [List.length_take, List.length_drop]; omega
  have l4 : ((M.drop 4).take 4).length = 4 := by rw [List.length_take, List.length_drop]; omega
  have l8 : ((M.drop 8).take 4).length = 4 := by rw [List.length_take, List.length_drop]; omega
  have HU1 : Hid (∀ W, Below w.heap.size w W → Calls Try.prog 41 #[.slice (some ⟨b0, o + 2, none⟩) 2 (c - 2)] W fun e w' => e = .returned (.tuple #[.int .i64 (lv : Int), .int .i64 0]) ∧ W = w') := fun W hb => by
    rw [hlv]; exact HU.out W 2 2 (_, 0) hb (by omega) (by omega) (by omega) (unfix_ok l2 (by omega) (by omega) (by omega))
  have HCell : Hid (∀ W, Below w.heap.size w W → W.cell? ⟨b0, o, none⟩ = some (.int .u8 (kd : Int)) ∧ W.cell? ⟨b0, o + 1, none⟩ = some (.int .u8 (nn : Int))) := fun W hb => by
    obtain ⟨b', o', e, _, hcc⟩ := (hrM.below hb).at_ (by omega)
    simp only [Option.some.injEq, Addr.mk.injEq, and_true] at e
    obtain ⟨rfl, rfl⟩ := e
    have c0 := hcc 0 (by omega)
    have c1 := hcc 1 (by omega)
    refine ⟨?_, ?_⟩
    · rw [Nat.add_zero] at c0
      rw [c0, hkd]; simp [List.getD, List.getElem?_eq_getElem (show 0 < M.length by omega)]
    · rw [c1, hnn]; simp [List.getD, List.getElem?_eq_getElem (show 1 < M.length by omega)]
  have HB : Hid (Below w.heap.size w (w.alloc (.cells #[.int .i64 0, .int .i64 0, .int .i64 0, .int .i64 0, .slice none 0 0] 70))) := (Below.refl _ _).alloc (Nat.le_refl _) _
  have HC := Lib.hid (fun W hb => res_at w W hb)
  have nb := fun w' => Try.secBuild0 w'
  have a24 := fun w' => Try.aggSec w'
  have s24 := fun w' => Try.sizeSec w'
  have k1 := fun W => sl_both b0 o 60 c 2 4 2 4 rfl rfl (by omega) (by omega) (by omega) W
  have k2 := fun W => sl_both b0 o 60 c 4 8 4 8 rfl rfl (by omega) (by omega) (by omega) W
  have k3 := fun W => sl_both b0 o 60 c 8 12 8 12 rfl rfl (by omega) (by omega) (by omega) W
  simp only [Nat.reduceSub] at k1 k2 k3
  have HU2 : Hid (∀ W, Below w.heap.size w W → Calls Try.prog 41 #[.slice (some ⟨b0, o + 4, none⟩) 4 (c - 4)] W fun e w' => e = .returned (.tuple #[.int .i64 (ev : Int), .int .i64 0]) ∧ W = w') := fun W hb => by
    rw [hev]; exact HU.out W 4 4 (_, 0) hb (by omega) (by omega) (by omega) (unfix_ok l4 (by omega) (by omega) (by omega))
  have HU3 : Hid (∀ W, Below w.heap.size w W → Calls Try.prog 41 #[.slice (some ⟨b0, o + 8, none⟩) 4 (c - 8)] W fun e w' => e = .returned (.tuple #[.int .i64 (nv : Int), .int .i64 0]) ∧ W = w') := fun W hb => by
    rw [hnv]; exact HU.out W 8 4 (_, 0) hb (by omega) (by omega) (by omega) (unfix_ok l8 (by omega) (by omega) (by omega))
  have d0 : decide ((48 : Int) < (nn : Int)) = false := decide_eq_false (by omega)
  have d1 : decide ((nn : Int) > 48) = false := decide_eq_false (by omega)
  have d2 : decide (48 < nn) = false := decide_eq_false (by omega)
  have e12 : IntKind.i64.wrap ((12 : Int) + (nn : Int)) = (12 : Int) + (nn : Int) := IntWalk.i64_in _ (by omega)
  have k4 := fun W => sl_both b0 o 60 c 12 (12 + nn) 12 ((12 : Int) + (nn : Int)) rfl (by omega) (by omega) (by omega) (by omega) W
  rw [show 12 + nn - 12 = nn by omega] at k4
  have n5 := fun w' => Try.secBuild5 (kd : Int) (ev : Int) (nv : Int) (lv : Int) (some ⟨b0, o + 12, none⟩) nn (c - 12) w'
  have hS : secOf M = ⟨(kd : Int), (ev : Int), (nv : Int), (lv : Int), (M.drop 12).take nn⟩ := by unfold secOf; rw [hkd, hev, hnv, hlv, hnn]
  have hDl : ((M.drop 12).take nn).length = nn := by rw [List.length_take, List.length_drop]; omega
  have HDr : Hid (∀ W, Below w.heap.size w W → RBc W (some ⟨b0, o + 12, none⟩) (secOf M).data (c - 12)) := fun W hb => by
    rw [hS]; exact ⟨(sub_rb (hrM.below hb) 12 nn (by omega) (show M.length < c by omega)).more hb.size, by show ((M.drop 12).take nn).length ≤ c - 12; rw [hDl]; omega, by omega⟩
  have hVv : secV (secOf M) (some ⟨b0, o + 12, none⟩) (c - 12) = .agg #[.int .i64 (kd : Int), .int .i64 (ev : Int), .int .i64 (nv : Int), .int .i64 (lv : Int), .slice (some ⟨b0, o + 12, none⟩) nn (c - 12)] := by rw [hS]; unfold secV; simp only [hDl]
  have HSb : Hid (∀ W, Below w.heap.size w W → (convert 26 9 (.slice (some ⟨b0, o, none⟩) 64 c)).run Try.prog W = .ok (.string ⟨b.toArray⟩) W) := fun W hb => aw_str (rb_up7 hr hb) 64 c h64.symm
  have HCS : Hid (∀ W W' : World, Below (W.alloc (.cells #[.int .i64 (kd : Int), .int .i64 (ev : Int), .int .i64 (nv : Int), .int .i64 (lv : Int), .slice (some ⟨b0, o + 12, none⟩) nn (c - 12)] 70)).heap.size (W.alloc (.cells #[.int .i64 (kd : Int), .int .i64 (ev : Int), .int .i64 (nv : Int), .int .i64 (lv : Int), .slice (some ⟨b0, o + 12, none⟩) nn (c - 12)] 70)) W' → W'.cell? ⟨W.heap.size, 0, none⟩ = some (.int .i64 (kd : Int)) ∧ W'.cell? ⟨W.heap.size, 1, none⟩ = some (.int .i64 (ev : Int)) ∧ W'.cell? ⟨W.heap.size, 2, none⟩ = some (.int .i64 (nv : Int)) ∧ W'.cell? ⟨W.heap.size, 3, none⟩ = some (.int .i64 (lv : Int)) ∧ W'.cell? ⟨W.heap.size, 4, none⟩ = some (.slice (some ⟨b0, o + 12, none⟩) nn (c - 12))) := fun W W' hb => by
    have h0 : Blk W' W.heap.size 70 #[.int .i64 (kd : Int), .int .i64 (ev : Int), .int .i64 (nv : Int), .int .i64 (lv : Int), .slice (some ⟨b0, o + 12, none⟩) nn (c - 12)] := Blk.below (Blk.new W _ _) hb (by simp)
    exact ⟨by rw [h0.cell]; rfl, by rw [h0.cell]; rfl, by rw [h0.cell]; rfl, by rw [h0.cell]; rfl, by rw [h0.cell]; rfl⟩
  have HV : Hid (getS b = (secOf M, 0)) := getS_ok h64 ho ((body_secOf M (by omega)).1 ⟨hm, hbd⟩)
  have h48 : (secOf M).data.length ≤ 48 := ((Sd.may_iff _).1 hm).2.2.2.2.2.2.2.2
  obtain ⟨S, hSS⟩ : ∃ S, S = (secOf M).bytes := ⟨_, rfl⟩
  have hS64 : S.length = 64 := by rw [hSS]; exact Sd.bytes_length _ h48
  have HPut : Hid (∀ W, Below w.heap.size w W → Calls Try.prog 30 #[.agg #[.int .i64 (kd : Int), .int .i64 (ev : Int), .int .i64 (nv : Int), .int .i64 (lv : Int), .slice (some ⟨b0, o + 12, none⟩) nn (c - 12)]] W fun e w' => ∃ A c, e = .returned (.tuple #[.slice A 64 c, .int .i64 0]) ∧ Hid ((convert 26 9 (.slice A 64 c)).run Try.prog w' = .ok (.string ⟨S.toArray⟩) w') ∧ Below W.heap.size W w') := fun W hb => by
    rw [← hVv]
    refine (rput_yes _ _ _ W hm (HDr.out W hb).1).mono fun e w' hh => ?_
    obtain ⟨A, c, he, ho, hb⟩ := hh
    rw [← hSS] at he ho
    rw [hS64] at he
    exact ⟨A, c, he, aw_str (own_rb ho) 64 c hS64.symm, hb⟩
  have hbb : (S == b) = true := by
    rw [beq_iff_eq, hSS]
    show sealL (secOf M).body = b
    rw [hbd]; exact (openL_some ho).1.symm
  have HVv := Lib.hid hVv
  clear hSS hS64 h48 hbd
  clear hM60 hMb hrM h64 hr hcm ho hlv hev hnv hkd hnn lvs l2 l4 l8 HU h1 h2 h3 hDl hS hVv hm
  go_enter Try.func40, Try.ntmps40
  go_wp2_with (first
    | (go_at_call 81; (with_reducible refine (HO.out _ HB.out).mono ?_); rintro e w1 ⟨rfl, hb1⟩; obtain ⟨⟨p0, p1, p2, p3, p4⟩, f0, f1, f2, f3, f4⟩ := HC.out _ hb1; have b1 := chain7 HB.out hb1; obtain ⟨q0, q1⟩ := HCell.out _ b1)
    | (go_at_call 41; (with_reducible refine (HU1.out _ b1).mono ?_); rintro e w2 ⟨rfl, rfl⟩)
    | (go_at_call 41; (with_reducible refine (HU2.out _ b1).mono ?_); rintro e w2 ⟨rfl, rfl⟩)
    | (go_at_call 41; (with_reducible refine (HU3.out _ b1).mono ?_); rintro e w2 ⟨rfl, rfl⟩))
  have b1a := b1.alloc b1.size (.cells #[.int .i64 0, .int .i64 0, .int .i64 0, .int .i64 0, .slice none 0 0] 70)
  obtain ⟨q0a, -⟩ := HCell.out _ b1a
  go_region
  have bA : Below w.heap.size w (w1.alloc (.cells #[.int .i64 (kd : Int), .int .i64 (ev : Int), .int .i64 (nv : Int), .int .i64 (lv : Int), .slice (some ⟨b0, o + 12, none⟩) nn (c - 12)] 70)).drew := (b1.alloc b1.size _).drew
  have hbA := (hb1.alloc hb1.size (.cells #[.int .i64 (kd : Int), .int .i64 (ev : Int), .int .i64 (nv : Int), .int .i64 (lv : Int), .slice (some ⟨b0, o + 12, none⟩) nn (c - 12)] 70)).drew
  have hbS : Below (w1.alloc (.cells #[.int .i64 (kd : Int), .int .i64 (ev : Int), .int .i64 (nv : Int), .int .i64 (lv : Int), .slice (some ⟨b0, o + 12, none⟩) nn (c - 12)] 70)).heap.size (w1.alloc (.cells #[.int .i64 (kd : Int), .int .i64 (ev : Int), .int .i64 (nv : Int), .int .i64 (lv : Int), .slice (some ⟨b0, o + 12, none⟩) nn (c - 12)] 70)) (w1.alloc (.cells #[.int .i64 (kd : Int), .int .i64 (ev : Int), .int .i64 (nv : Int), .int .i64 (lv : Int), .slice (some ⟨b0, o + 12, none⟩) nn (c - 12)] 70)).drew := (Below.refl _ _).drew
  obtain ⟨t0, t1, t2, t3, t4⟩ := HCS.out _ _ hbS
  have HCS1 := Lib.hid (HCS.out w1)
  clear p0 p1 p2 p3 p4 f0 f1 f2 f3 f4 q0 q1 HCell HU1 HU2 HU3 HO k1 k2 k3 k4 e12 n5 HCS
  generalize hWA : (w1.alloc (.cells #[.int .i64 (kd : Int), .int .i64 (ev : Int), .int .i64 (nv : Int), .int .i64 (lv : Int), .slice (some ⟨b0, o + 12, none⟩) nn (c - 12)] 70)) = WA at bA hbA hbS t0 t1 t2 t3 t4 HCS1 ⊢
  generalize w1.heap.size = g3 at t0 t1 t2 t3 t4 HCS1 ⊢
  clear hWA
  go_wp2_with (first
    | (go_at_call 30; (with_reducible refine (HPut.out _ bA).mono ?_); rintro e w6 ⟨A6, c6, rfl, s6, hb6⟩; have s6 := s6.out; have b6 := chain7 bA hb6; obtain ⟨⟨p0, p1, p2, p3, p4⟩, f0, f1, f2, f3, f4⟩ := HC.out _ (chain7 hbA hb6); have sb := HSb.out _ b6; clear t0 t1 t2 t3 t4; obtain ⟨t0, t1, t2, t3, t4⟩ := HCS1.out _ (chain7 hbS hb6)))
  refine bodyPost_ret (v := .tuple #[.agg #[.int .i64 (kd : Int), .int .i64 (ev : Int), .int .i64 (nv : Int), .int .i64 (lv : Int), .slice (some ⟨b0, o + 12, none⟩) nn (c - 12)], .int .i64 0]) (by simp [results, Try.results40, go_sem, p0, p1, p2, p3, p4]) rfl ⟨some ⟨b0, o + 12, none⟩, c - 12, by rw [HV.out, HVv.out], by rw [HV.out]; exact HDr.out _ (below_five b6 (Nat.le_refl _) _ _ _ _ _), below_five b6 (Nat.le_refl _) _ _ _ _ _⟩
theorem rget_anyc (b : List UInt8) (A : Option Addr) (c : Nat) (w : World) (hr : RB w w.heap.size A b) (hc : b.length ≤ c) (hcm : c ≤ 9223372036854775807) :
    Calls Try.prog 40 #[.slice A b.length c] w (GivesSc (getS b) w) := by
  by_cases h64 : b.length = 64
  · obtain ⟨b0, o, rfl, _, _⟩ := hr.at_ (by omega)
    rw [h64]
    cases ho : openL b with
    | none => exact rget_sum b _ c w h64 hr (by omega) hcm ho
    | some M =>
      by_cases h1 : unfixL ((M.drop 4).take 4) ≤ 2147483647
      · by_cases h2 : unfixL ((M.drop 8).take 4) ≤ 2147483647
        · by_cases h3 : (M.getD 1 0).toNat ≤ 48
          · cases hm : (secOf M).may with
            | false => exact rget_in4 b M b0 o c w h64 hr (by omega) hcm ho h1 h2 h3 hm
            | true =>
              by_cases hbd : (secOf M).body = M
              · exact rget_in6 b M b0 o c w h64 hr (by omega) hcm ho h1 h2 h3 hm hbd
              · exact rget_in5 b M b0 o c w h64 hr (by omega) hcm ho h1 h2 h3 hm hbd
          · exact rget_in3 b M b0 o c w h64 hr (by omega) hcm ho h1 h2 h3
        · exact rget_in2 b M b0 o c w h64 hr (by omega) hcm ho h1 h2
      · exact rget_in1 b M b0 o c w h64 hr (by omega) hcm ho h1
  · exact rget_size b _ A c w rfl h64
end Go.Proofs.Ytkockhggnbfahaa
end
section
set_option linter.unusedVariables false
namespace Go.Proofs.Ytkockhggnbfahaa
open Go.RowKit
theorem i64_and1 (n : Int) : bits .and .i64 n 1 = n % 2 := by
  have h1 : (BitVec.ofInt 64 1).toNat = 2 ^ 1 - 1 := by decide
  have key : (BitVec.ofInt 64 n &&& BitVec.ofInt 64 1).toNat = (n % ((2 ^ 64 : Nat) : Int)).toNat % 2 ^ 1 := by
    rw [BitVec.toNat_and, BitVec.toNat_ofInt, h1, Nat.and_two_pow_sub_one_eq_mod]
  show IntKind.i64.wrap ((BitVec.ofInt 64 n &&& BitVec.ofInt 64 1).toNat : Nat) = n % 2
  rw [key, IntKind.wrap_i64]
  omega
theorem bit_test (m : Int) (k : Nat) : (bits BinOp.and IntKind.i64 (m / 2 ^ k) 1 == 1) = Dk.bitOf m k := by
  rw [i64_and1]
  unfold Dk.bitOf
  by_cases h : m / 2 ^ k % 2 = 1 <;> simp [h]
set_option maxRecDepth 100000 in
set_option maxHeartbeats 4000000 in
theorem keep_any {w : World} {a n ca gv o xn : Nat} {L xb : List UInt8} (m : Int) (hA : Arr w a L) (hx : w.cell? ⟨gv, o, none⟩ = some (.int .i64 (xn : Int))) (hb : ∀ j, j < 256 → w.cell? ⟨gv, o + 1 + j, none⟩ = (cells xb)[j]?) (hva : gv ≠ a) (hvl : gv < w.heap.size)
    (h256 : xb.length = 256) (hn : n = L.length) (hfit : 256 * xn + 256 ≤ L.length) (hbig : L.length ≤ 1000000) (hc : n ≤ ca ∧ ca ≤ 9223372036854775807) :
    Calls Try.prog 63 #[.slice (some ⟨a, 0, none⟩) n ca, .pointer (some ⟨gv, o, none⟩), .int .i64 m] w fun e w' => e = .returned (.tuple #[]) ∧ Turns w w' (fun k => k = a) (fun k => k = a) ∧ Arr w' a (splice L (256 * xn) (Dk.torn ((L.drop (256 * xn)).take 256) xb m)) := by
  obtain ⟨was, hwas⟩ : ∃ was, was = (L.drop (256 * xn)).take 256 := ⟨_, rfl⟩
  have hwl : was.length = 256 := by rw [hwas]; simp; omega
  rw [← hwas]
  have HBl := Lib.hid (fun W => block_of a n ca xn W (by omega) (by omega) hc.1 hc.2)
  have Hca : Hid (256 * xn + 256 ≤ ca) := by show _ ≤ _; omega
  have H0 : Hid (splice L (256 * xn) was = L) := by show _ = _; rw [hwas]; exact Dk.splice_self _ _ _ hfit
  have HA := Lib.hid hA
  have Hw := Lib.hid hwl
  have Hx := Lib.hid h256
  have Hb := Lib.hid hb
  have Hf := Lib.hid hfit
  clear hwas hA hwl h256 hb hfit hn hbig hc
  go_enter Try.func63, Try.ntmps63
  go_wp2_with (first
    | (go_at_call 79; (with_reducible refine (HBl.out _).mono ?_); rintro e w6 ⟨rfl, rfl⟩))
  go_loopw [15] (fun x wr => ∃ k : Nat, k ≤ 4 ∧ x = .int .i64 (k : Int) ∧ Hid (Turns w wr (fun k => k = a) (fun k => k = a)) ∧ Hid (Arr wr a (splice L (256 * xn) (Dk.tornK was xb m k)))) (fun x _ => 4 - (intOf x).toNat)
  case atStart => exact ⟨0, by omega, rfl, Turns.refl _ _, by show Arr _ _ _; rw [Dk.tornK, H0.out]; exact HA.out⟩
  case round =>
    obtain ⟨k, hk, rfl, HT, HK⟩ := hrel
    by_cases hlt : k < 4
    · have u0 : (0 : Int) ≤ (k : Int) := by omega
      have u1 : (k : Int) < 4 := by omega
      obtain ⟨bt, hbt⟩ : ∃ bt, bt = Dk.bitOf m k := ⟨_, rfl⟩
      have bt1 : (bits BinOp.and IntKind.i64 (m / 2 ^ k) 1 == 1) = bt := by rw [hbt]; exact bit_test m k
      have HKK := HK.out
      rcases bt with _ | _
      · have HN : Hid (Arr wr a (splice L (256 * xn) (Dk.tornK was xb m (k + 1)))) := by
          show Arr _ _ _
          rw [Dk.tornK, ← hbt]; exact HKK
        clear hbt HKK HK
        go_wp2
        refine ⟨⟨k + 1, by omega, by go_num, HT, HN⟩, ?_⟩
        simp [intOf]; omega
      · obtain ⟨sp, hsp⟩ := HKK
        obtain ⟨q, hq⟩ : ∃ q, q = 64 * k := ⟨_, rfl⟩
        have e1 : (k : Int) * 64 = (q : Int) := by omega
        have e2 : IntKind.i64.wrap ((q : Int) + 64) = (q : Int) + 64 := IntWalk.i64_in _ (by omega)
        have v0 : (0 : Int) ≤ (q : Int) := by omega
        have v1 : (q : Int) < 256 := by omega
        have HS1 := fun W => sl_both a (256 * xn) 256 (ca - 256 * xn) q (q + 64) (q : Int) ((q : Int) + 64) rfl (by omega) (by omega) (by have := Hca.out; omega) (by have := Hca.out; omega) W
        have HS2 := fun W => sa_from gv (o + 1) q (q : Int) rfl (by omega) W
        rw [show q + 64 - q = 64 by omega] at HS1
        have hts : (Dk.tornK was xb m k).length = 256 := Dk.tornK_length was xb m Hw.out Hx.out k hk
        have hse : (Dk.sector xb k).length = 64 := Dk.sector_length xb Hx.out k hlt
        have hspl : (splice L (256 * xn) (Dk.tornK was xb m k)).length = L.length := length_splice _ _ _ (by rw [hts]; exact Hf.out)
        have HNew : Hid (∀ w7, Hid (Blk w7 a 5 (splice (cells (splice L (256 * xn) (Dk.tornK was xb m k)) ++ sp) (256 * xn + q) (cells (Dk.sector xb k))).toArray) → Arr w7 a (splice L (256 * xn) (Dk.tornK was xb m (k + 1)))) := by
          intro w7 h7
          have h7 := h7.out
          rw [splice_cells _ _ _ _ (by rw [hspl, hse]; have := Hf.out; omega), Dk.splice_in _ _ (by rw [hts]; exact Hf.out) (by rw [hts, hse]; omega)] at h7
          refine ⟨sp, ?_⟩
          rw [Dk.tornK, ← hbt, if_pos rfl, ← hq]
          exact h7
        have Hcp : Hid ((cells (Dk.sector xb k)).length = Nat.min (256 - q) 64) := by
          show _ = _
          rw [cells_length, hse]
          have : (256 - q).min 64 = min (256 - q) 64 := rfl
          omega
        have Hft : Hid (256 * xn + q + (cells (Dk.sector xb k)).length ≤ (cells (splice L (256 * xn) (Dk.tornK was xb m k)) ++ sp).length) := by
          show _ ≤ _
          rw [List.length_append, cells_length, cells_length, hspl, hse]
          have := Hf.out
          omega
        have hcur := hsp
        obtain ⟨cur, hcc⟩ : ∃ cur, cur = cells (splice L (256 * xn) (Dk.tornK was xb m k)) ++ sp := ⟨_, rfl⟩
        rw [← hcc] at hsp HNew Hft
        obtain ⟨sec, hsec⟩ : ∃ sec, sec = Dk.sector xb k := ⟨_, rfl⟩
        have Hsrc : Hid (∀ j v, (cells sec)[j]? = some v → wr.cell? ((⟨gv, o + 1 + q, none⟩ : Addr).add j) = some v) := by
          intro j v hv
          have hj : j < 64 := by have := (List.getElem?_eq_some_iff.1 hv).1; rw [cells_length, hsec, hse] at this; exact this
          rw [add_at, HT.out.cell (p := ⟨gv, o + 1 + q + j, none⟩) hvl hva, show o + 1 + q + j = o + 1 + (q + j) by omega, Hb.out (q + j) (by omega), ← hv, hsec]
          unfold Dk.sector
          rw [← cells_take, ← cells_drop, List.getElem?_take, if_pos hj, List.getElem?_drop, hq]
        rw [← hsec] at HNew Hcp Hft
        have Hsp := Lib.hid hsp
        clear hbt hq hts hse hspl hsp hcur hcc hsec
        go_wp2
        refine wp_region_any (by kernel_rfl) ?_
        change wpAny _ _ _ _ _ _ _ (World.drew _)
        refine any_as (a' := ⟨#[.slice (some ⟨a, 0, none⟩) n ca, .pointer (some ⟨gv, o, none⟩), .int .i64 m, undef, undef, undef, .slice (some ⟨a, 256 * xn, none⟩) 256 (ca - 256 * xn), .int .i64 (k : Int), .int .i64 (q : Int), .slice (some ⟨a, 0, none⟩) n ca, .pointer (some ⟨gv, o, none⟩), .pointer (some ⟨gv, o, none⟩), .pointer (some ⟨gv, o, none⟩), .int .i64 (xn : Int), .slice (some ⟨a, 256 * xn, none⟩) 256 (ca - 256 * xn), .int .i64 (k : Int), .bool true, .int .i64 (k : Int), .int .i64 m, .int .i64 (k : Int), .int .i64 (m / 2 ^ k), .int .i64 (bits .and .i64 (m / 2 ^ k) 1), .bool true, .int .i64 (k : Int), .int .i64 (q : Int), u25, u26, u27, u28, u29, u30, u31, u32, u33, u34, u35, u36], []⟩) (by kernel_rfl) (listed' := #[false, false, false, false, false, false, false, false, false, false, false]) (by kernel_rfl) ?_
        refine any_pure (i := 0) (.slice (some ⟨a, 256 * xn, none⟩) 256 (ca - 256 * xn)) rfl (by kernel_rfl) (by kernel_rfl) (by kernel_rfl) (by kernel_rfl) (fun W => by kernel_rfl) (by kernel_rfl) (by kernel_rfl) (fun _ _ _ h => h) (listed' := #[true, false, false, false, false, false, false, false, false, false, false]) (a' := ⟨#[.slice (some ⟨a, 0, none⟩) n ca, .pointer (some ⟨gv, o, none⟩), .int .i64 m, undef, undef, undef, .slice (some ⟨a, 256 * xn, none⟩) 256 (ca - 256 * xn), .int .i64 (k : Int), .int .i64 (q : Int), .slice (some ⟨a, 0, none⟩) n ca, .pointer (some ⟨gv, o, none⟩), .pointer (some ⟨gv, o, none⟩), .pointer (some ⟨gv, o, none⟩), .int .i64 (xn : Int), .slice (some ⟨a, 256 * xn, none⟩) 256 (ca - 256 * xn), .int .i64 (k : Int), .bool true, .int .i64 (k : Int), .int .i64 m, .int .i64 (k : Int), .int .i64 (m / 2 ^ k), .int .i64 (bits .and .i64 (m / 2 ^ k) 1), .bool true, .int .i64 (k : Int), .int .i64 (q : Int), .slice (some ⟨a, 256 * xn, none⟩) 256 (ca - 256 * xn), u26, u27, u28, u29, u30, u31, u32, u33, u34, u35, u36], []⟩) ?_
        refine any_pure (i := 1) (.int .i64 (q : Int)) rfl (by kernel_rfl) (by kernel_rfl) (by kernel_rfl) (by kernel_rfl) (fun W => by kernel_rfl) (by kernel_rfl) (by kernel_rfl) (fun _ _ _ h => h) (listed' := #[true, true, false, false, false, false, false, false, false, false, false]) (a' := ⟨#[.slice (some ⟨a, 0, none⟩) n ca, .pointer (some ⟨gv, o, none⟩), .int .i64 m, undef, undef, undef, .slice (some ⟨a, 256 * xn, none⟩) 256 (ca - 256 * xn), .int .i64 (k : Int), .int .i64 (q : Int), .slice (some ⟨a, 0, none⟩) n ca, .pointer (some ⟨gv, o, none⟩), .pointer (some ⟨gv, o, none⟩), .pointer (some ⟨gv, o, none⟩), .int .i64 (xn : Int), .slice (some ⟨a, 256 * xn, none⟩) 256 (ca - 256 * xn), .int .i64 (k : Int), .bool true, .int .i64 (k : Int), .int .i64 m, .int .i64 (k : Int), .int .i64 (m / 2 ^ k), .int .i64 (bits .and .i64 (m / 2 ^ k) 1), .bool true, .int .i64 (k : Int), .int .i64 (q : Int), .slice (some ⟨a, 256 * xn, none⟩) 256 (ca - 256 * xn), .int .i64 (q : Int), u27, u28, u29, u30, u31, u32, u33, u34, u35, u36], []⟩) ?_
        refine any_pure (i := 2) (.int .i64 (q : Int)) rfl (by kernel_rfl) (by kernel_rfl) (by kernel_rfl) (by kernel_rfl) (fun W => by kernel_rfl) (by kernel_rfl) (by kernel_rfl) (fun _ _ _ h => h) (listed' := #[true, true, true, false, false, false, false, false, false, false, false]) (a' := ⟨#[.slice (some ⟨a, 0, none⟩) n ca, .pointer (some ⟨gv, o, none⟩), .int .i64 m, undef, undef, undef, .slice (some ⟨a, 256 * xn, none⟩) 256 (ca - 256 * xn), .int .i64 (k : Int), .int .i64 (q : Int), .slice (some ⟨a, 0, none⟩) n ca, .pointer (some ⟨gv, o, none⟩), .pointer (some ⟨gv, o, none⟩), .pointer (some ⟨gv, o, none⟩), .int .i64 (xn : Int), .slice (some ⟨a, 256 * xn, none⟩) 256 (ca - 256 * xn), .int .i64 (k : Int), .bool true, .int .i64 (k : Int), .int .i64 m, .int .i64 (k : Int), .int .i64 (m / 2 ^ k), .int .i64 (bits .and .i64 (m / 2 ^ k) 1), .bool true, .int .i64 (k : Int), .int .i64 (q : Int), .slice (some ⟨a, 256 * xn, none⟩) 256 (ca - 256 * xn), .int .i64 (q : Int), .int .i64 (q : Int), u28, u29, u30, u31, u32, u33, u34, u35, u36], []⟩) ?_
        refine any_pure (i := 3) (.int .i64 ((q : Int) + 64)) rfl (by kernel_rfl) (by kernel_rfl) (by kernel_rfl) (by kernel_rfl) (fun W => by go_simp) (by kernel_rfl) (by kernel_rfl) (fun _ _ _ h => h) (listed' := #[true, true, true, true, false, false, false, false, false, false, false]) (a' := ⟨#[.slice (some ⟨a, 0, none⟩) n ca, .pointer (some ⟨gv, o, none⟩), .int .i64 m, undef, undef, undef, .slice (some ⟨a, 256 * xn, none⟩) 256 (ca - 256 * xn), .int .i64 (k : Int), .int .i64 (q : Int), .slice (some ⟨a, 0, none⟩) n ca, .pointer (some ⟨gv, o, none⟩), .pointer (some ⟨gv, o, none⟩), .pointer (some ⟨gv, o, none⟩), .int .i64 (xn : Int), .slice (some ⟨a, 256 * xn, none⟩) 256 (ca - 256 * xn), .int .i64 (k : Int), .bool true, .int .i64 (k : Int), .int .i64 m, .int .i64 (k : Int), .int .i64 (m / 2 ^ k), .int .i64 (bits .and .i64 (m / 2 ^ k) 1), .bool true, .int .i64 (k : Int), .int .i64 (q : Int), .slice (some ⟨a, 256 * xn, none⟩) 256 (ca - 256 * xn), .int .i64 (q : Int), .int .i64 (q : Int), .int .i64 ((q : Int) + 64), u29, u30, u31, u32, u33, u34, u35, u36], []⟩) ?_
        refine any_pure (i := 4) (.slice (some ⟨a, 256 * xn + q, none⟩) 64 (ca - 256 * xn - q)) rfl (by kernel_rfl) (by kernel_rfl) (by kernel_rfl) (by kernel_rfl) (fun W => slice_run 26 (.tmp 25) (some (.tmp 26)) (some (.tmp 28)) rfl _ _ _ _ (by kernel_rfl) (by kernel_rfl) (by kernel_rfl) (HS1 W)) (by kernel_rfl) (by kernel_rfl) (fun _ _ _ h => h) (listed' := #[true, true, true, true, true, false, false, false, false, false, false]) (a' := ⟨#[.slice (some ⟨a, 0, none⟩) n ca, .pointer (some ⟨gv, o, none⟩), .int .i64 m, undef, undef, undef, .slice (some ⟨a, 256 * xn, none⟩) 256 (ca - 256 * xn), .int .i64 (k : Int), .int .i64 (q : Int), .slice (some ⟨a, 0, none⟩) n ca, .pointer (some ⟨gv, o, none⟩), .pointer (some ⟨gv, o, none⟩), .pointer (some ⟨gv, o, none⟩), .int .i64 (xn : Int), .slice (some ⟨a, 256 * xn, none⟩) 256 (ca - 256 * xn), .int .i64 (k : Int), .bool true, .int .i64 (k : Int), .int .i64 m, .int .i64 (k : Int), .int .i64 (m / 2 ^ k), .int .i64 (bits .and .i64 (m / 2 ^ k) 1), .bool true, .int .i64 (k : Int), .int .i64 (q : Int), .slice (some ⟨a, 256 * xn, none⟩) 256 (ca - 256 * xn), .int .i64 (q : Int), .int .i64 (q : Int), .int .i64 ((q : Int) + 64), .slice (some ⟨a, 256 * xn + q, none⟩) 64 (ca - 256 * xn - q), u30, u31, u32, u33, u34, u35, u36], []⟩) ?_
        refine any_pure (i := 5) (.pointer (some ⟨gv, o, none⟩)) rfl (by kernel_rfl) (by kernel_rfl) (by kernel_rfl) (by kernel_rfl) (fun W => by kernel_rfl) (by kernel_rfl) (by kernel_rfl) (fun _ _ _ h => h) (listed' := #[true, true, true, true, true, true, false, false, false, false, false]) (a' := ⟨#[.slice (some ⟨a, 0, none⟩) n ca, .pointer (some ⟨gv, o, none⟩), .int .i64 m, undef, undef, undef, .slice (some ⟨a, 256 * xn, none⟩) 256 (ca - 256 * xn), .int .i64 (k : Int), .int .i64 (q : Int), .slice (some ⟨a, 0, none⟩) n ca, .pointer (some ⟨gv, o, none⟩), .pointer (some ⟨gv, o, none⟩), .pointer (some ⟨gv, o, none⟩), .int .i64 (xn : Int), .slice (some ⟨a, 256 * xn, none⟩) 256 (ca - 256 * xn), .int .i64 (k : Int), .bool true, .int .i64 (k : Int), .int .i64 m, .int .i64 (k : Int), .int .i64 (m / 2 ^ k), .int .i64 (bits .and .i64 (m / 2 ^ k) 1), .bool true, .int .i64 (k : Int), .int .i64 (q : Int), .slice (some ⟨a, 256 * xn, none⟩) 256 (ca - 256 * xn), .int .i64 (q : Int), .int .i64 (q : Int), .int .i64 ((q : Int) + 64), .slice (some ⟨a, 256 * xn + q, none⟩) 64 (ca - 256 * xn - q), .pointer (some ⟨gv, o, none⟩), u31, u32, u33, u34, u35, u36], []⟩) ?_
        refine any_pure (i := 6) (.pointer (some ⟨gv, o, none⟩)) rfl (by kernel_rfl) (by kernel_rfl) (by kernel_rfl) (by kernel_rfl) (fun W => by kernel_rfl) (by kernel_rfl) (by kernel_rfl) (fun _ _ _ h => h) (listed' := #[true, true, true, true, true, true, true, false, false, false, false]) (a' := ⟨#[.slice (some ⟨a, 0, none⟩) n ca, .pointer (some ⟨gv, o, none⟩), .int .i64 m, undef, undef, undef, .slice (some ⟨a, 256 * xn, none⟩) 256 (ca - 256 * xn), .int .i64 (k : Int), .int .i64 (q : Int), .slice (some ⟨a, 0, none⟩) n ca, .pointer (some ⟨gv, o, none⟩), .pointer (some ⟨gv, o, none⟩), .pointer (some ⟨gv, o, none⟩), .int .i64 (xn : Int), .slice (some ⟨a, 256 * xn, none⟩) 256 (ca - 256 * xn), .int .i64 (k : Int), .bool true, .int .i64 (k : Int), .int .i64 m, .int .i64 (k : Int), .int .i64 (m / 2 ^ k), .int .i64 (bits .and .i64 (m / 2 ^ k) 1), .bool true, .int .i64 (k : Int), .int .i64 (q : Int), .slice (some ⟨a, 256 * xn, none⟩) 256 (ca - 256 * xn), .int .i64 (q : Int), .int .i64 (q : Int), .int .i64 ((q : Int) + 64), .slice (some ⟨a, 256 * xn + q, none⟩) 64 (ca - 256 * xn - q), .pointer (some ⟨gv, o, none⟩), .pointer (some ⟨gv, o, none⟩), u32, u33, u34, u35, u36], []⟩) ?_
        refine any_pure (i := 7) (.pointer (some ⟨gv, o + 1, none⟩)) rfl (by kernel_rfl) (by kernel_rfl) (by kernel_rfl) (by kernel_rfl) (fun W => by kernel_rfl) (by kernel_rfl) (by kernel_rfl) (fun _ _ _ h => h) (listed' := #[true, true, true, true, true, true, true, true, false, false, false]) (a' := ⟨#[.slice (some ⟨a, 0, none⟩) n ca, .pointer (some ⟨gv, o, none⟩), .int .i64 m, undef, undef, undef, .slice (some ⟨a, 256 * xn, none⟩) 256 (ca - 256 * xn), .int .i64 (k : Int), .int .i64 (q : Int), .slice (some ⟨a, 0, none⟩) n ca, .pointer (some ⟨gv, o, none⟩), .pointer (some ⟨gv, o, none⟩), .pointer (some ⟨gv, o, none⟩), .int .i64 (xn : Int), .slice (some ⟨a, 256 * xn, none⟩) 256 (ca - 256 * xn), .int .i64 (k : Int), .bool true, .int .i64 (k : Int), .int .i64 m, .int .i64 (k : Int), .int .i64 (m / 2 ^ k), .int .i64 (bits .and .i64 (m / 2 ^ k) 1), .bool true, .int .i64 (k : Int), .int .i64 (q : Int), .slice (some ⟨a, 256 * xn, none⟩) 256 (ca - 256 * xn), .int .i64 (q : Int), .int .i64 (q : Int), .int .i64 ((q : Int) + 64), .slice (some ⟨a, 256 * xn + q, none⟩) 64 (ca - 256 * xn - q), .pointer (some ⟨gv, o, none⟩), .pointer (some ⟨gv, o, none⟩), .pointer (some ⟨gv, o + 1, none⟩), u33, u34, u35, u36], []⟩) ?_
        refine any_pure (i := 8) (.int .i64 (q : Int)) rfl (by kernel_rfl) (by kernel_rfl) (by kernel_rfl) (by kernel_rfl) (fun W => by kernel_rfl) (by kernel_rfl) (by kernel_rfl) (fun _ _ _ h => h) (listed' := #[true, true, true, true, true, true, true, true, true, false, false]) (a' := ⟨#[.slice (some ⟨a, 0, none⟩) n ca, .pointer (some ⟨gv, o, none⟩), .int .i64 m, undef, undef, undef, .slice (some ⟨a, 256 * xn, none⟩) 256 (ca - 256 * xn), .int .i64 (k : Int), .int .i64 (q : Int), .slice (some ⟨a, 0, none⟩) n ca, .pointer (some ⟨gv, o, none⟩), .pointer (some ⟨gv, o, none⟩), .pointer (some ⟨gv, o, none⟩), .int .i64 (xn : Int), .slice (some ⟨a, 256 * xn, none⟩) 256 (ca - 256 * xn), .int .i64 (k : Int), .bool true, .int .i64 (k : Int), .int .i64 m, .int .i64 (k : Int), .int .i64 (m / 2 ^ k), .int .i64 (bits .and .i64 (m / 2 ^ k) 1), .bool true, .int .i64 (k : Int), .int .i64 (q : Int), .slice (some ⟨a, 256 * xn, none⟩) 256 (ca - 256 * xn), .int .i64 (q : Int), .int .i64 (q : Int), .int .i64 ((q : Int) + 64), .slice (some ⟨a, 256 * xn + q, none⟩) 64 (ca - 256 * xn - q), .pointer (some ⟨gv, o, none⟩), .pointer (some ⟨gv, o, none⟩), .pointer (some ⟨gv, o + 1, none⟩), .int .i64 (q : Int), u34, u35, u36], []⟩) ?_
        refine any_pure (i := 9) (.slice (some ⟨gv, o + 1 + q, none⟩) (256 - q) (256 - q)) rfl (by kernel_rfl) (by kernel_rfl) (by kernel_rfl) (by kernel_rfl) (fun W => slice_run 106 (.tmp 32) (some (.tmp 33)) none rfl _ _ _ _ (by kernel_rfl) (by kernel_rfl) (by kernel_rfl) (HS2 W)) (by kernel_rfl) (by kernel_rfl) (fun _ _ _ h => h) (listed' := #[true, true, true, true, true, true, true, true, true, true, false]) (a' := ⟨#[.slice (some ⟨a, 0, none⟩) n ca, .pointer (some ⟨gv, o, none⟩), .int .i64 m, undef, undef, undef, .slice (some ⟨a, 256 * xn, none⟩) 256 (ca - 256 * xn), .int .i64 (k : Int), .int .i64 (q : Int), .slice (some ⟨a, 0, none⟩) n ca, .pointer (some ⟨gv, o, none⟩), .pointer (some ⟨gv, o, none⟩), .pointer (some ⟨gv, o, none⟩), .int .i64 (xn : Int), .slice (some ⟨a, 256 * xn, none⟩) 256 (ca - 256 * xn), .int .i64 (k : Int), .bool true, .int .i64 (k : Int), .int .i64 m, .int .i64 (k : Int), .int .i64 (m / 2 ^ k), .int .i64 (bits .and .i64 (m / 2 ^ k) 1), .bool true, .int .i64 (k : Int), .int .i64 (q : Int), .slice (some ⟨a, 256 * xn, none⟩) 256 (ca - 256 * xn), .int .i64 (q : Int), .int .i64 (q : Int), .int .i64 ((q : Int) + 64), .slice (some ⟨a, 256 * xn + q, none⟩) 64 (ca - 256 * xn - q), .pointer (some ⟨gv, o, none⟩), .pointer (some ⟨gv, o, none⟩), .pointer (some ⟨gv, o + 1, none⟩), .int .i64 (q : Int), .slice (some ⟨gv, o + 1 + q, none⟩) (256 - q) (256 - q), u35, u36], []⟩) ?_
        refine wpAny_tail 10 (by kernel_rfl) (by kernel_rfl) ?_
        simp only [List.drop_succ_cons, List.drop_zero]
        go_wp2_with (refine wpList_copy_foot rfl (.tmp 29) (.tmp 34) _ _ rfl 5 Try.underlying26 Try.size5 (some ⟨a, 256 * xn + q, none⟩) (some ⟨gv, o + 1 + q, none⟩) 64 (ca - 256 * xn - q) (256 - q) (256 - q) rfl rfl a (256 * xn + q) cur 5 Hsp.out.drew (cells sec) Hcp.out (fun _ => ⟨rfl, _, rfl, Hsrc.out⟩) Hft.out (cells_one _) ?_; intro w7 h7 ht7; have HT7 : Hid (Turns w w7 (fun k => k = a) (fun k => k = a)) := HT.out.trans (Turns.of_drew ht7.out); have HA7 := Lib.hid (HNew.out w7 h7); clear h7 ht7)
        refine ⟨⟨k + 1, by omega, by go_num, HT7, HA7⟩, ?_⟩
        simp [intOf]; omega
    · have hk4 : k = 4 := by omega
      have HE : Hid (Arr wr a (splice L (256 * xn) (Dk.torn was xb m))) := by
        have := HK.out
        rw [hk4, Dk.tornK_all was xb m Hw.out Hx.out] at this
        exact this
      have d0 : decide ((k : Int) < 4) = false := decide_eq_false (by omega)
      clear hk4 HK
      go_wp2
      go_end0
      exact ⟨rfl, HT.out, HE.out⟩
theorem tear_flatten {safe : List (List UInt8)} {masks : List Int} {x : Nat × List UInt8} {i : Nat} (hs : ∀ b ∈ safe, b.length = 256) (hx : x.1 < safe.length) (h2 : x.2.length = 256) (hi : i < masks.length) :
    (Dk.tear masks safe x i).flatten = splice safe.flatten (256 * x.1) (Dk.torn ((safe.flatten.drop (256 * x.1)).take 256) x.2 (masks.getD i 0)) := by
  unfold Dk.tear
  rw [if_pos hi, Dk.flatten_get safe x.1 hs hx]
  have hw : (safe.getD x.1 []).length = 256 := by
    rw [List.getD, List.getElem?_eq_getElem hx]; exact hs _ (List.getElem_mem hx)
  exact Dk.flatten_set _ _ _ hs hx (Dk.torn_length _ _ _ hw h2)
theorem crash_end {w1 wr w2 : World} {g : Nat} {F : Nat → Prop} {d : Dk} {a ca b cb n : Nat} {V : Value} {ends : Bool} {lf : Int} {masks : List Int} {sp : List Value} (h : PD w1 g F d a ca b cb n V ends lf) (ht : Turns w1 wr (fun k => k = a) (fun k => k = a))
    (hA : Arr wr a (Dk.crashed masks d.safe d.waits 0).flatten) (h2 : Hid (Blk w2 b 5 (splice (cells d.image ++ sp) 0 (cells (Dk.crashed masks d.safe d.waits 0).flatten)).toArray)) (ht2 : Hid (Turns wr.drew w2 (fun k => k = b) (fun k => k = b))) :
    PD ((((w2.setCell ⟨g, 2, none⟩ (.slice none 0 0)).setCell ⟨g, 3, none⟩ (.bool false)).setCell ⟨g, 4, none⟩ (.bool false)).setCell ⟨g, 5, none⟩ (.int .i64 0)) g F (d.crash masks) a ca b cb n (.slice none 0 0) false 0 ∧
    Turns w1 ((((w2.setCell ⟨g, 2, none⟩ (.slice none 0 0)).setCell ⟨g, 3, none⟩ (.bool false)).setCell ⟨g, 4, none⟩ (.bool false)).setCell ⟨g, 5, none⟩ (.int .i64 0)) F F ∧
    (∀ k, k < 9 → w2.cell? ⟨g, k, none⟩ = w1.cell? ⟨g, k, none⟩ ∧ w2.frozen? ⟨g, k, none⟩ = false) := by
  obtain ⟨n1, n2, n3, n4, n5⟩ := h.ne
  have hs : (Dk.crashed masks d.safe d.waits 0).length = d.safe.length := Dk.crashed_length _ _ _ _
  have hf : ∀ b ∈ Dk.crashed masks d.safe d.waits 0, b.length = 256 := Dk.crashed_fit _ _ _ _ h.good.fit.1 h.good.fit.2
  have t2 : Turns wr w2 (fun k => k = b) (fun k => k = b) := Turns.of_drew ht2.out
  have t3 : Turns w1 w2 F F := (ht.wide (E := F) (E' := F) (fun k hk => by rw [hk]; exact h.fa) (fun k hk => .inl hk)).trans (t2.wide (E := F) (E' := F) (fun k hk => by rw [hk]; exact h.fb) (fun k hk => .inl hk))
  have t4 := (((t3.trans (Turns.set_ h.fg 2 (.slice none 0 0))).trans (Turns.set_ h.fg 3 (.bool false))).trans (Turns.set_ h.fg 4 (.bool false))).trans (Turns.set_ h.fg 5 (.int .i64 0))
  have b1 : Blk w2 g 103 (diskCells a ca b cb n V ends lf d) := (h.blk.turns ht n1).turns t2 n2
  have hlen : (Dk.crashed masks d.safe d.waits 0).flatten.length = d.image.length := by rw [Dk.flatten_length hf, hs, Dk.image_length h.good.fit]
  have hb := h2.out
  rw [show (splice (cells d.image ++ sp) 0 (cells (Dk.crashed masks d.safe d.waits 0).flatten)) = cells (Dk.crashed masks d.safe d.waits 0).flatten ++ sp by
    rw [splice_cells _ _ _ _ (by omega), splice_all _ _ hlen.symm]] at hb
  have fg : ∀ {L : List UInt8} {x : Nat} {W : World} (j : Nat) (u : Value), x ≠ g → Arr W x L → Arr (W.setCell ⟨g, j, none⟩ u) x L := fun j u hx hA => hA.set_far (p := ⟨g, j, none⟩) hx u
  refine ⟨⟨(((b1.set_ 2 (.slice none 0 0)).set_ 3 (.bool false)).set_ 4 (.bool false)).set_ 5 (.int .i64 0), by simp only [Dk.crash, hs]; exact h.size, h.capa, h.capb, ?_, ?_, World.ownsRow_nil _ _ _ _, h.ab, h.fg, h.fa, h.fb, fun k hk => by simp [Value.ownBlock] at hk, fun k hk => Nat.lt_of_lt_of_le (h.flt k hk) t4.size, ?_, fun _ => rfl, fun _ h => absurd h (by show ¬ (0 : Int) ≤ -1; omega)⟩, t4, fun k hk => ⟨by rw [b1.cell, h.blk.cell], b1.frozen k⟩⟩
  · exact fg _ _ (fun e => n1 e.symm) (fg _ _ (fun e => n1 e.symm) (fg _ _ (fun e => n1 e.symm) (fg _ _ (fun e => n1 e.symm) (hA.turns t2 h.ab))))
  · rw [Dk.image_calm _ rfl]
    exact fg _ _ (fun e => n2 e.symm) (fg _ _ (fun e => n2 e.symm) (fg _ _ (fun e => n2 e.symm) (fg _ _ (fun e => n2 e.symm) ⟨sp, hb⟩)))
  · exact ⟨⟨hf, fun x hx => by cases hx⟩, by simp only [Dk.crash, hs]; exact h.good.few, by simp only [Dk.crash, hs]; exact h.good.many, ⟨Int.le_refl _, by show (-1 : Int) ≤ _; omega⟩⟩
set_option maxRecDepth 100000 in
set_option maxHeartbeats 4000000 in
theorem crash_any {w : World} {g : Nat} {F : Nat → Prop} {d : Dk} (h : PDisk w g F d) (masks : List Int) (A : Option Addr) (mn c2 : Nat) (hmn : mn = masks.length) (hM : RI w w.heap.size A masks) (hMF : 0 < masks.length → ∀ ad, A = some ad → ¬ F ad.block) :
    Calls Try.prog 26 #[.pointer (some ⟨g, 0, none⟩), .slice A mn c2] w fun e w' => e = .returned (.tuple #[]) ∧ Deeds (d.crash masks) F w w' g := by
  have z0 := fun w' => Try.dIsNil g w'
  obtain ⟨a, ca, b, cb, n, V, ends, lf, hP⟩ := h
  obtain ⟨A1, c, rfl, hc1, hc2⟩ := hP.vform
  have k2 := hP.c2
  obtain ⟨m, hm⟩ : ∃ m, m = d.waits.length := ⟨_, rfl⟩
  rw [← hm] at k2 hc1
  have Hm := Lib.hid hm
  have HP := Lib.hid hP
  have HM := Lib.hid hM
  have HMF := Lib.hid hMF
  have Hmn := Lib.hid hmn
  clear hP hm hM hMF hmn
  go_enter Try.func26, Try.ntmps26
  go_wp2
  go_loopw [12] (fun x wr => ∃ i : Nat, i ≤ m ∧ x = .int .i64 (i : Int) ∧ Hid (Turns w wr (fun k => k = a) (fun k => k = a)) ∧ Hid (Arr wr a (Dk.crashed masks d.safe (d.waits.take i) 0).flatten)) (fun x _ => m - (intOf x).toNat)
  case atStart => exact ⟨0, by omega, rfl, Turns.refl _ _, by show Arr _ _ _; rw [List.take_zero]; exact HP.out.safe⟩
  case round =>
    obtain ⟨i, hi, rfl, HT2, HA⟩ := hrel
    have HPr : Hid (∀ k, k ≠ a → ∀ j, k < w.heap.size → wr.cell? ⟨k, j, none⟩ = w.cell? ⟨k, j, none⟩) := fun k hk j hlt => HT2.out.cell (p := ⟨k, j, none⟩) hlt hk
    have r2 : wr.cell? ⟨g, 2, none⟩ = some (.slice A1 m c) := by rw [HPr.out g HP.out.ne.1 2 (HP.out.flt g HP.out.fg)]; exact k2
    have r0 : wr.cell? ⟨g, 0, none⟩ = some (.slice (some ⟨a, 0, none⟩) n ca) := by rw [HPr.out g HP.out.ne.1 0 (HP.out.flt g HP.out.fg)]; exact HP.out.c0
    have r1 : wr.cell? ⟨g, 1, none⟩ = some (.slice (some ⟨b, 0, none⟩) n cb) := by rw [HPr.out g HP.out.ne.1 1 (HP.out.flt g HP.out.fg)]; exact HP.out.c1
    by_cases hlt : i < m
    · obtain ⟨gv, cv, hV, hva, hvb, hvg, hvl, hm1, hm2, hcell⟩ := HP.out.row (by have := Hm.out; omega)
      obtain ⟨rfl, -, rfl⟩ : A1 = some ⟨gv, 0, none⟩ ∧ m = d.waits.length ∧ c = cv := by
        have := Hm.out
        simp only [Value.slice.injEq] at hV
        exact ⟨hV.1, this, hV.2.2⟩
      have hi2 : i < d.waits.length := by have := Hm.out; omega
      obtain ⟨hcn, hcb⟩ := hcell i hi2
      obtain ⟨x, hx⟩ : ∃ x, x = d.waits[i] := ⟨_, rfl⟩
      rw [← hx] at hcn hcb
      have u0 : (0 : Int) ≤ (i : Int) := by omega
      have u1 : (i : Int) < (m : Int) := by omega
      have hsn : Dk.crashed masks d.safe (d.waits.take (i + 1)) 0 = Dk.tear masks (Dk.crashed masks d.safe (d.waits.take i) 0) x i := by
        rw [List.take_succ_eq_append_getElem hi2, ← hx, Dk.crashed_snoc, List.length_take, Nat.zero_add, Nat.min_eq_left (by omega)]
      by_cases hik : i < mn
      · have hik2 : i < masks.length := by have := Hmn.out; omega
        obtain ⟨mb, mo, rfl, hmb, hmc⟩ := HM.out (by omega)
        have hma : mb ≠ a := fun e => HMF.out (by omega) _ rfl (by rw [show (⟨mb, mo, none⟩ : Addr).block = a from e]; exact HP.out.fa)
        obtain ⟨mk, hmk⟩ : ∃ mk, mk = masks.getD i 0 := ⟨_, rfl⟩
        have rm : wr.cell? ⟨mb, mo + i, none⟩ = some (.int .i64 mk) := by
          rw [HPr.out mb hma _ hmb, hmc i hik2, hmk]
          simp [List.getD, hik2]
        have hfit := HP.out.good.fit
        have hxm : x ∈ d.waits := by rw [hx]; exact List.getElem_mem hi2
        obtain ⟨hx1, hx2⟩ := hfit.2 x hxm
        have hsf : ∀ b ∈ Dk.crashed masks d.safe (d.waits.take i) 0, b.length = 256 := Dk.crashed_fit _ _ _ _ hfit.1 (fun y hy => hfit.2 y (List.mem_of_mem_take hy))
        have hsl : (Dk.crashed masks d.safe (d.waits.take i) 0).length = d.safe.length := Dk.crashed_length _ _ _ _
        have htf := tear_flatten (x := x) (i := i) hsf (by rw [hsl]; exact hx1) hx2 hik2
        have hfl : (Dk.crashed masks d.safe (d.waits.take i) 0).flatten.length = n := by rw [Dk.flatten_length hsf, hsl, HP.out.size]
        have hsz := HP.out.size
        have hmany := HP.out.good.many
        have hws := HT2.out.size
        have HKp : Hid (Calls Try.prog 63 #[.slice (some ⟨a, 0, none⟩) n ca, .pointer (some ⟨gv, i * 257, none⟩), .int .i64 mk] wr.drew fun e w' => e = .returned (.tuple #[]) ∧ Turns wr.drew w' (fun k => k = a) (fun k => k = a) ∧ Arr w' a (Dk.crashed masks d.safe (d.waits.take (i + 1)) 0).flatten) := by
          rw [hsn, htf, ← hmk]
          refine keep_any (w := wr.drew) mk (show Arr wr a _ from HA.out) (show wr.cell? _ = _ by rw [HPr.out gv hva _ hvl]; exact hcn) (fun j hj => (show wr.cell? ⟨gv, i * 257 + 1 + j, none⟩ = _ by rw [HPr.out gv hva _ hvl]; exact hcb j hj)) hva (show gv < wr.heap.size by omega) hx2 hfl.symm (by rw [hfl]; omega) (by omega) HP.out.capa
        have v0 : (i : Int) < (mn : Int) := by omega
        clear hV hcell hcn hcb hx hsn hmc hmk hfit hxm hx1 hx2 hsf hsl htf hfl hsz hmany hws HA
        go_wp2
        refine wp_region_still_tail 14 (by kernel_rfl) (by kernel_rfl) ?_
        simp only [List.take_succ_cons, List.take_zero, List.drop_succ_cons, List.drop_zero]
        iterate 14 still_step
        refine wpStill_nil ?_
        change wpList _ _ _ _ _ wr.drew
        go_wp2_with (go_at_call 63; (with_reducible refine HKp.out.mono ?_); rintro e w7 ⟨rfl, ht7, hA7⟩; have HT7 : Hid (Turns w w7 (fun k => k = a) (fun k => k = a)) := HT2.out.trans (Turns.of_drew ht7); have HA7 := Lib.hid hA7; clear ht7 hA7)
        refine ⟨⟨i + 1, by omega, by go_num, HT7, HA7⟩, ?_⟩
        simp [intOf]; omega
      · have HN : Hid (Arr wr a (Dk.crashed masks d.safe (d.waits.take (i + 1)) 0).flatten) := by
          show Arr _ _ _
          rw [hsn]
          unfold Dk.tear
          rw [if_neg (by have := Hmn.out; omega)]
          exact HA.out
        have d2 : decide ((i : Int) < (mn : Int)) = false := decide_eq_false (by omega)
        have d3 : decide (i < mn) = false := decide_eq_false hik
        clear hV hcell hcn hcb hx hsn HA hik
        go_wp2
        refine ⟨⟨i + 1, by omega, by go_num, HT2, HN⟩, ?_⟩
        simp [intOf]; omega
    · have him : i = m := by omega
      have hi2 : d.waits.take i = d.waits := by rw [him, Hm.out]; exact List.take_length
      have HA' := HA.out
      rw [hi2] at HA'
      have hA2 := Lib.hid HA'
      have d0 : decide ((i : Int) < (m : Int)) = false := decide_eq_false (by omega)
      have d1 : decide (i < m) = false := decide_eq_false hlt
      obtain ⟨sp, hsp⟩ := HP.out.last
      have hspr : Blk wr b 5 (cells d.image ++ sp).toArray := hsp.turns HT2.out (fun e => HP.out.ab e.symm)
      have hcf : ∀ b ∈ Dk.crashed masks d.safe d.waits 0, b.length = 256 := Dk.crashed_fit _ _ _ _ HP.out.good.fit.1 HP.out.good.fit.2
      obtain ⟨L2, hL2⟩ : ∃ L2, L2 = (Dk.crashed masks d.safe d.waits 0).flatten := ⟨_, rfl⟩
      have hl2 : L2.length = n := by rw [hL2, Dk.flatten_length hcf, Dk.crashed_length, HP.out.size]
      have Hcp : Hid ((cells L2).length = Nat.min n n) := by show _ = _; rw [cells_length, hl2]; exact (Nat.min_self n).symm
      have Hft : Hid (0 + (cells L2).length ≤ (cells d.image ++ sp).length) := by
        show _ ≤ _
        rw [List.length_append, cells_length, cells_length, hl2, Dk.image_length HP.out.good.fit, HP.out.size]; omega
      have Hrb := Lib.hid (show RB wr wr.heap.size (some ⟨a, 0, none⟩) L2 by rw [hL2]; exact HA'.all)
      have HE : Hid (∀ w2, Hid (Blk w2 b 5 (splice (cells d.image ++ sp) 0 (cells L2)).toArray) → Hid (Turns wr.drew w2 (fun k => k = b) (fun k => k = b)) → _) := fun w2 h1 h2 => crash_end HP.out HT2.out HA' (by rw [← hL2]; exact h1) h2
      obtain ⟨cur, hcur⟩ : ∃ cur, cur = cells d.image ++ sp := ⟨_, rfl⟩
      rw [← hcur] at hspr Hft HE
      have Hsp := Lib.hid hspr
      clear him hi2 HA' HA hlt hi hsp hspr hcf hL2 hl2 hcur
      go_wp2
      refine wp_region_still_tail 8 (by kernel_rfl) (by kernel_rfl) ?_
      simp only [List.take_succ_cons, List.take_zero, List.drop_succ_cons, List.drop_zero]
      iterate 8 still_step
      refine wpStill_nil ?_
      change wpList _ _ _ _ _ wr.drew
      go_wp2_with (refine wpList_copy_foot rfl (.tmp 38) (.tmp 42) _ _ rfl 5 Try.underlying26 Try.size5 (some ⟨b, 0, none⟩) (some ⟨a, 0, none⟩) n cb n ca rfl rfl b 0 cur 5 Hsp.out.drew (cells L2) Hcp.out (rb_src Hrb.out _) Hft.out (cells_one _) ?_; intro w7 h7 ht7; have HEE := Lib.hid (HE.out w7 h7 ht7); have q2 := (HEE.out.2.2 2 (by omega)).1; have q3 := (HEE.out.2.2 3 (by omega)).1; have q4 := (HEE.out.2.2 4 (by omega)).1; have q5 := (HEE.out.2.2 5 (by omega)).1; have f2 := (HEE.out.2.2 2 (by omega)).2; have f3 := (HEE.out.2.2 3 (by omega)).2; have f4 := (HEE.out.2.2 4 (by omega)).2; have f5 := (HEE.out.2.2 5 (by omega)).2; rw [HP.out.c2] at q2; rw [HP.out.c3] at q3; rw [HP.out.c4] at q4; rw [HP.out.c5] at q5)
      go_end0
      exact ⟨rfl, ⟨_, _, _, _, _, _, _, _, HEE.out.1⟩, HEE.out.2.1⟩
end Go.Proofs.Ytkockhggnbfahaa
end
