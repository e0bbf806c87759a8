/- Lemmas under the proofs of this place: Gen9, CrcSeal, RFix, Round. No statement is proved here. -/
import Derived.Test.YtonnkibcnhjelaaGreatDoorBu09
import Derived.Test.YtonnkibcnhjelaaGreatDoorBu04
import Derived.Test.YtonnkibcnhjelaaGreatDoorBu10
import Derived.Test.YtonnkibcnhjelaaGreatDoorBu07
import Derived.Test.YtonnkibcnhjelaaGreatDoorBu08
import Derived.Test.YtonnkibcnhjelaaGreatDoorBu03
import Derived.Test.YtonnkibcnhjelaaGreatDoorBu11
import Derived.RangeFuncNested
import Derived.RangeFuncCalls
import Derived.OrdersIn
section
set_option linter.unusedVariables false
set_option linter.unusedSimpArgs false
namespace Go.Proofs.YtonnkibcnhjelaaGreatDoor
open Go.RowKit
def No8 (cs : Array Value) : Prop := ∀ (j : Nat) (z : Int), cs[j]? ≠ some (.int .u8 z)
theorem no8_cur (A : Option Addr) (n c : Nat) (b : Bool) : No8 #[.slice A n c, .bool b] := fun j z => cur_cells A n c b j _ z
theorem rb_ne8 {w : World} {B g : Nat} {t : TypeId} {A : Option Addr} {L : List UInt8} {cs : Array Value} (h : RB w B A L) (hg : Blk w g t cs) (hcs : No8 cs) (hn : 0 < L.length) : ∀ ad, A = some ad → ad.block ≠ g := fun ad e => by
  obtain ⟨b, off, rfl, hb, hc⟩ := RB.at_ h hn
  injection e with e
  subst e
  rintro rfl
  have h0 := hc 0 hn
  rw [Nat.add_zero, (blk_cell hg off).1] at h0
  exact hcs _ _ h0
theorem rb_only8 {w w' : World} {g : Nat} {t : TypeId} {A : Option Addr} {L : List UInt8} {cs : Array Value} (h : RB w w.heap.size A L) (hg : Blk w g t cs) (hcs : No8 cs) (ho : Only w w' g) : RB w' w'.heap.size A L := by
  refine ⟨h.1, fun hn => ?_⟩
  obtain ⟨ad, e, hb, hc⟩ := h.2 hn
  have hne := rb_ne8 h hg hcs hn ad e
  refine ⟨ad, e, Nat.lt_of_lt_of_le hb ho.size, fun j u hu => ?_⟩
  rw [World.cell?_of_block (ho.block (ad.add j).block (by rw [block_of_add]; exact hb) (by rw [block_of_add]; simp; exact hne))]
  exact hc j u hu
theorem rb_set8 {w : World} {g i : Nat} {t : TypeId} {A : Option Addr} {L : List UInt8} {cs : Array Value} (h : RB w w.heap.size A L) (hg : Blk w g t cs) (hcs : No8 cs) (u : Value) : RB (w.setCell ⟨g, i, none⟩ u) (w.setCell ⟨g, i, none⟩ u).heap.size A L := rb_only8 h hg hcs (only_set _ _ _ _)
theorem cur_blk {w : World} {g : Nat} {st : Option (List UInt8)} (h : Cur w g st) : ∃ A n c b, Blk w g 194 #[.slice A n c, .bool b] := by
  rcases st with _ | L
  · exact ⟨_, _, _, _, h⟩
  · obtain ⟨A, c, h, _⟩ := h
    exact ⟨_, _, _, _, h⟩
theorem cur_only8 {w w' : World} {g k : Nat} {t : TypeId} {cs : Array Value} {st : Option (List UInt8)} (h : Cur w g st) (hk : Blk w k t cs) (hcs : No8 cs) (hne : g ≠ k) (ho : Only w w' k) : Cur w' g st := by
  rcases st with _ | L
  · exact Blk.only (t := 194) h ho hne
  · obtain ⟨A, c, hb, hr, hc, hl⟩ := h
    exact ⟨A, c, Blk.only (t := 194) hb ho hne, rb_only8 hr hk hcs ho, hc, hl⟩
theorem cur_set8 {w : World} {g k i : Nat} {t : TypeId} {cs : Array Value} {st : Option (List UInt8)} (h : Cur w g st) (hk : Blk w k t cs) (hcs : No8 cs) (hne : g ≠ k) (u : Value) : Cur (w.setCell ⟨k, i, none⟩ u) g st := cur_only8 h hk hcs hne (only_set _ _ _ _)
theorem cur_below {w w' : World} {g : Nat} {st : Option (List UInt8)} (h : Cur w g st) (hb : Below w.heap.size w w') : Cur w' g st := by
  rcases st with _ | L
  · exact Blk.below (t := 194) h hb (Blk.lt (t := 194) h)
  · obtain ⟨A, c, hk, hr, hc, hl⟩ := h
    exact ⟨A, c, Blk.below (t := 194) hk hb (Blk.lt (t := 194) hk), (hr.below hb).more hb.size, hc, hl⟩
theorem cur_alloc {w : World} {g : Nat} {st : Option (List UInt8)} (h : Cur w g st) (o : Obj) : Cur (w.alloc o) g st := cur_below h ((Below.refl _ _).alloc (Nat.le_refl _) o)
def fieldZ (L : List UInt8) : Int := if (unfixR L).2 = 0 then ((unfixR L).1 : Int) else -1
theorem step_ok {n : Nat} {L : List UInt8} (h : n ≤ L.length) : stepTake (n : Int) (some L) = (some (L.drop n), L.take n) := by
  simp only [stepTake]
  rw [if_neg (by omega)]
  simp
theorem step_no {n : Nat} {L : List UInt8} (h : L.length < n) : stepTake (n : Int) (some L) = (none, []) := by
  simp only [stepTake]
  rw [if_pos (by omega)]
def capZ (n : Nat) : Int := if n ≤ 2147483647 then (n : Int) else -1
theorem fieldZ_cap {L : List UInt8} (h1 : 1 ≤ L.length) (h4 : L.length ≤ 4) : fieldZ L = capZ (unfixL L) := by
  unfold fieldZ capZ
  by_cases h : unfixL L ≤ 2147483647
  · rw [unfix_ok rfl h1 h4 h, if_pos rfl, if_pos h]
  · rw [unfix_bad rfl h1 h4 h, if_neg (by decide), if_neg h]
theorem fieldZ_small {L : List UInt8} (h1 : 1 ≤ L.length) (h2 : L.length ≤ 2) : fieldZ L = (unfixL L : Int) := by
  have h := unfixL_lt L
  have h3 : (256 : Nat) ^ L.length ≤ 256 ^ 2 := Nat.pow_le_pow_right (by omega) h2
  rw [fieldZ_cap h1 (by omega)]
  unfold capZ
  rw [if_pos (by omega)]
theorem only_new {a w : World} {g gs i : Nat} (h : Only a w g) (hg : a.heap.size ≤ gs) (u : Value) : Only a (w.setCell ⟨gs, i, none⟩ u) g :=
  ⟨h.os, h.tape, h.output, by simpa [World.setCell] using h.size, fun k hk hn => (heap_setCell_other w ⟨gs, i, none⟩ k u (by show k ≠ gs; omega)).trans (h.block k hk hn)⟩
theorem only_more {a b w : World} {g : Nat} (h : Only a b g) (hb : Below b.heap.size b w) : Only a w g := only_trans h (only_below hb g)
theorem wpList_make_yes {P : Program} (w : World) {ops : Array Oper} {rest : List Oper} {o : Oper} {a : Act} {Q : Exit → Act → World → Prop}
    (hw : Region.wanted o (yielded ops a.tmps) = true) (l c : Operand) (t : TypeId) (hop : o.op = Op.makeSlice t l c)
    (base : Nat) (e : TypeId) (i : TypeInfo) (z : Value) (size : Nat) (h1 : P.underlying t = some (.slice e)) (h2 : P.info? e = some i) (h3 : i.zero = some z) (h4 : i.size = size)
    (kl kc : IntKind) (L C : Int) (n : Nat) (hl : a.eval l = .int kl L) (hc : a.eval c = .int kc C) (hL : L = (n : Int)) (hC : C = (n : Int)) (b2 : i.bytes * n ≤ 281474976710656) (b3 : n ≤ maxLen) (b4 : base ≤ w.heap.size)
    (hK : ∀ w', w'.ownsRow base e size (.slice (some ⟨w.heap.size, 0, none⟩) n n) n (madeCells z.cells (n * size)).toList → w.grownBy w' none → wpList P ops Q rest (a.put o.dst (.slice (some ⟨w.heap.size, 0, none⟩) n n)) w') :
    wpList P ops Q (o :: rest) a w := by
  refine wpList_wanted hw fun K hK' => ?_
  obtain ⟨w', hrun, r1, r2⟩ := run_make_full (P := P) w base t e i z size h1 h2 h3 h4 kl kc n b2 b3 b4
  subst hL
  subst hC
  unfold Oper.wp
  simp [execOp, hop, hl, hc, hrun, Result.andThen]
  exact hK' _ _ (hK w' r1 r2)
theorem made_rb7 {w w' : World} {r : Nat} (h : w'.ownsRow w.heap.size 5 1 (.slice (some ⟨w.heap.size, 0, none⟩) r r) r (madeCells (Value.int .u8 0).cells (r * 1)).toList) : RB w' w'.heap.size (some ⟨w.heap.size, 0, none⟩) (List.replicate r 0) := by
  simp only [Nat.mul_one, show (Value.int IntKind.u8 0).cells = #[Value.int IntKind.u8 0] from rfl, toList_madeCells_one] at h
  have h2 := Reads.of_own h
  unfold RB
  rw [List.length_replicate]
  have e : cells (List.replicate r 0) = List.replicate r (Value.int .u8 0) := by simp [cells]
  rw [e]
  exact h2
def PutAt (w : World) (gb : Nat) (L : List UInt8) : Prop := ∃ A c, Blk w gb 39 #[.slice A L.length c] ∧ w.ownsRow gb 5 1 (.slice A L.length c) L.length (cells L)
theorem ne_row {w : World} {gb base n : Nat} {cs : Array Value} {v : Value} {xs : List Value} (h : Blk w gb 39 cs) (ho : w.ownsRow base 5 1 v n xs) : some gb ≠ v.ownBlock := fun e => by
  obtain ⟨_, cs', h'⟩ := own_lt ho e.symm
  exact Blk.ne_ h h' (by decide) rfl
theorem put_new (w : World) : PutAt (w.alloc (.cells #[.slice none 0 0] 39)) w.heap.size [] := ⟨none, 0, Blk.new w _ _, World.ownsRow_nil _ _ _ _⟩
theorem own_only {w w' : World} {base g n : Nat} {e : TypeId} {size : Nat} {v : Value} {xs : List Value} (h : w.ownsRow base e size v n xs) (ho : Only w w' g) (hn : v.ownBlock ≠ some g) : w'.ownsRow base e size v n xs :=
  own_turns h (Turns.grown (F := fun k => k = g) ho (fun k e => by injection e with e; exact e.symm)) (fun k hk e => hn (by rw [hk, e]))
end Go.Proofs.YtonnkibcnhjelaaGreatDoor
end
section
set_option linter.unusedVariables false
namespace Go.Proofs.YtonnkibcnhjelaaGreatDoor
open Go.RowKit
theorem le4_fix (n : Nat) (h : n < 4294967296) : fixL 2 (n % 65536) ++ fixL 2 (n / 65536) = le4 n := by
  have e1 : n % 65536 % 256 = n % 256 := by omega
  have e2 : n % 65536 / 256 % 256 = n / 256 % 256 := by omega
  have e3 : n / 65536 / 256 % 256 = n / 16777216 := by omega
  simp only [fixL, le4, e1, e2, e3]
  rfl
theorem fix_two (n : Nat) (v : Int) (w : World) (hv : v = (n : Int)) (h : n < 65536) : Calls Tryz.prog 65 #[.int .i64 v, .int .i64 2] w (GivesBytes (fixL 2 n) w) := by
  subst hv
  exact fix_yes n 2 w (by omega) (by omega) (by omega) (by simpa using h)
set_option maxRecDepth 100000 in
set_option maxHeartbeats 1000000 in
theorem sumBytes_any (s : Nat) (w : World) (hs : s < 4294967296) : Calls Tryz.prog 93 #[.int .u32 (s : Int)] w (GivesOne (le4 s) w) := by
  obtain ⟨i0, hi0, hz0, hz1, hz2⟩ := info_parts Tryz.info5
  have HL := Lib.hid (le4_fix s hs)
  have l1 : (fixL 2 (s % 65536)).length = 2 := fixL_length _ _
  have l2 : (fixL 2 (s / 65536)).length = 2 := fixL_length _ _
  have HA : ∀ W, Calls Tryz.prog 65 #[.int .i64 ((s : Int) % 65536), .int .i64 2] W (GivesBytes (fixL 2 (s % 65536)) W) := fun W => fix_two _ _ W (by omega) (by omega)
  have HB : ∀ W, Calls Tryz.prog 65 #[.int .i64 ((s : Int) / 65536), .int .i64 2] W (GivesBytes (fixL 2 (s / 65536)) W) := fun W => fix_two _ _ W (by omega) (by omega)
  obtain ⟨X, hX⟩ : ∃ X, X = fixL 2 (s % 65536) := ⟨_, rfl⟩
  obtain ⟨Y, hY⟩ : ∃ Y, Y = fixL 2 (s / 65536) := ⟨_, rfl⟩
  rw [← hX, ← hY] at HL
  rw [← hX] at l1 HA
  rw [← hY] at l2 HB
  have HA2 := Lib.hid HA
  have HB2 := Lib.hid HB
  have hx2 : X.length ≤ 2 := by omega
  have hy2 : Y.length ≤ 2 := by omega
  clear hX hY l1 l2 HA HB
  go_enter Tryz.func93, Tryz.ntmps93
  go_wp2_with (first
    | (go_at_call 65; (with_reducible refine (HA2.out _).mono ?_); rintro e w1 ⟨A1, c1, rfl, hown1, hb1⟩; clear HA2)
    | (go_at_call 65; (with_reducible refine (HB2.out _).mono ?_); rintro e w2 ⟨A2, c2, rfl, hown2, hb2⟩; clear HB2; have z2 := hb2.size; have z1 := hb1.size; have hown3 := own_kept hown1 hb2; have hr2 := own_rb hown2)
    | (at_builtin; refine wpList_append_any _ rfl (.tmp 21) (.tmp 22) _ rfl w.heap.size 5 i0 _ 1 1 Tryz.underlying39 hi0 hz0 hz1 hz2 rfl (by omega) _ X.length (cells X) rfl hown3 w2.heap.size A2 Y.length c2 (cells Y) rfl hr2 (cells_one _) (by simp only [maxLen]; omega) (by omega) (by omega) ?_; intro v3 w3 hown4 hg3 hat3))
  have hb3 : Below w.heap.size w w3 := (hb1.trans (hb2.mono z1)).grown hg3 (by omega) (fun k hk => (World.ownsRow.lt hown3 k hk).1)
  rw [← cells_append, ← List.length_append, HL.out] at hown4
  obtain ⟨A3, c3, hv⟩ := own_form hown4
  go_ret
  exact ⟨A3, c3, by rw [hv]; rfl, by rw [hv] at hown4; exact hown4, hb3⟩
set_option maxRecDepth 100000 in
set_option maxHeartbeats 1000000 in
theorem seal_any (L : List UInt8) (A : Option Addr) (c B : Nat) (w : World) (hr : RB w B A L) (hl : L.length ≤ 1048576) :
    Calls Tryz.prog 66 #[.slice A L.length c] w (GivesOne (sealL L) w) := by
  obtain ⟨i0, hi0, hz0, hz1, hz2⟩ := info_parts Tryz.info5
  have hr := rb_lt hr
  have hs := sumL_lt L
  have HS : ∀ W E, RB W E A L → Calls Tryz.prog 94 #[.slice A L.length c] W fun e w' => e = .returned (.int .u32 (sumL L : Int)) ∧ W = w' := fun W E h => sum_any L A c E W h (by omega)
  have HB : ∀ W, Calls Tryz.prog 93 #[.int .u32 (sumL L : Int)] W (GivesOne (le4 (sumL L)) W) := fun W => sumBytes_any _ W hs
  obtain ⟨M, hM⟩ : ∃ M, M = le4 (sumL L) := ⟨_, rfl⟩
  have HM : Hid (L ++ M = sealL L) := by show _ = _; rw [hM]; rfl
  have hm : M.length ≤ 4 := by rw [hM]; exact Nat.le_refl _
  rw [← hM] at HB
  have HS2 := Lib.hid HS
  have HB2 := Lib.hid HB
  have hby : i0.bytes = 1 := hz2
  clear hM HS HB
  go_enter Tryz.func66, Tryz.ntmps66
  go_wp2_with (first
    | (at_make; refine wpList_make_own _ rfl _ _ 39 rfl w.heap.size 5 i0 _ 1 Tryz.underlying39 hi0 hz0 hz1 .i64 .i64 _ (L.length + 4) rfl rfl (by omega) (by rw [hby]; omega) (by unfold maxLen; omega) (Nat.le_refl _) ?_; intro w1 ho1 hg1; have hb1 : Below w.heap.size w w1 := (Below.refl _ _).grown hg1 (Nat.le_refl _) (by simp))
    | (at_builtin; refine wpList_append_any _ rfl (.tmp 8) (.tmp 9) _ rfl w.heap.size 5 i0 _ 1 1 Tryz.underlying39 hi0 hz0 hz1 hz2 rfl (by omega) (.slice (some ⟨w.heap.size, 0, none⟩) 0 (L.length + 4)) 0 [] rfl ho1 w.heap.size A L.length c (cells L) rfl (hr.below hb1) (cells_one _) (by simp only [maxLen]; omega) (by omega) hb1.size ?_; intro v2 w2 ho2 hg2 hat2; simp only [Nat.zero_add, List.nil_append] at ho2; have hb2 : Below w.heap.size w w2 := hb1.grown hg2 hb1.size (fun k hk => (ho1.lt k hk).1); have hr2 := hr.below hb2)
    | (go_at_call 94; (with_reducible refine (HS2.out _ _ hr2).mono ?_); rintro e w' ⟨rfl, rfl⟩)
    | (go_at_call 93; (with_reducible refine (HB2.out _).mono ?_); rintro e w3 ⟨A3, c3, rfl, ho3, hb3⟩; have hr3 := own_rb ho3; have ho4 := own_kept ho2 hb3; have z2 := hb2.size; have z3 := hb3.size)
    | (at_builtin; refine wpList_append_any _ rfl (.tmp 11) (.tmp 14) _ rfl w.heap.size 5 i0 _ 1 1 Tryz.underlying39 hi0 hz0 hz1 hz2 rfl (by omega) _ L.length (cells L) rfl ho4 w3.heap.size A3 M.length c3 (cells M) rfl hr3 (cells_one _) (by simp only [maxLen]; omega) (by omega) (by omega) ?_; intro v5 w5 ho5 hg5 hat5; have hb5 : Below w.heap.size w w5 := (hb2.trans (hb3.mono z2)).grown hg5 (by omega) (fun k hk => (ho4.lt k hk).1)))
  rw [← cells_append, ← List.length_append, HM.out] at ho5
  obtain ⟨A6, c6, hv⟩ := own_form ho5
  go_ret
  exact ⟨A6, c6, by rw [hv]; rfl, by rw [hv] at ho5; exact ho5, hb5⟩
end Go.Proofs.YtonnkibcnhjelaaGreatDoor
end
section
set_option linter.unusedVariables false
set_option linter.unusedSimpArgs false
namespace Go.Proofs.YtonnkibcnhjelaaGreatDoor
open Go.RowKit
theorem fixL_snoc : ∀ (k n : Nat), fixL (k + 1) n = fixL k n ++ [UInt8.ofNat (n / 256 ^ k % 256)] := by
  intro k
  induction k with
  | zero => intro n; simp [fixL]
  | succ k ih =>
    intro n
    rw [fixL, ih (n / 256), fixL, List.cons_append, Nat.div_div_eq_div_mul, Nat.pow_succ, Nat.mul_comm 256]
set_option maxRecDepth 100000 in
set_option maxHeartbeats 2000000 in
theorem refFix_any (n k : Nat) (w : World) (h : n ≤ 2147483647) (hk1 : 1 ≤ k) (hk4 : k ≤ 4) :
    Calls Tryz.prog 70 #[.int .i64 (n : Int), .int .i64 (k : Int)] w fun e w' => (n < 256 ^ k → GivesBytes (fixL k n) w e w') ∧ (¬ n < 256 ^ k → e = .returned (.tuple #[.slice none 0 0, .int .i64 1]) ∧ Below w.heap.size w w') := by
  have hl : (fixL k n).length = k := fixL_length k n
  have hc1 : decide ((k : Int) < 1) = false := by simp; omega
  have hc4 : decide (4 < (k : Int)) = false := by simp; omega
  have hn1 : decide ((n : Int) < 0) = false := by simp
  have hn2 : decide (2147483647 < (n : Int)) = false := by simp; omega
  have HL := Lib.hid hl
  clear hl
  go_enter Tryz.func70, Tryz.ntmps70
  go_wp2
  go_loopw [0, 6, 7] (fun x v i wr => ∃ (j m : Nat), j ≤ k ∧ i = .int .i64 (j : Int) ∧ x = .int .i64 (m : Int) ∧ m ≤ 2147483647 ∧ m = n / 256 ^ j ∧ wr.ownsRow w.heap.size 5 1 v (fixL j n).length (cells (fixL j n)) ∧ Below w.heap.size w wr) (fun _ _ i _ => k - (intOf i).toNat)
  case atStart => exact ⟨0, n, by omega, rfl, rfl, h, by simp, World.ownsRow_nil _ _ _ _, Below.refl _ _⟩
  case round =>
    obtain ⟨j, m, hj, rfl, rfl, hm, hmn, hown, hbw⟩ := hrel
    have HM : Hid (m = n / 256 ^ j) := hmn
    clear hmn
    by_cases hlt : j < k
    · obtain ⟨b, hb⟩ : ∃ b : UInt8, b = UInt8.ofNat (m % 256) := ⟨_, rfl⟩
      have HB : Hid ((m : Int) % 256 = (b.toNat : Int)) := by rw [hb, ofNat_toNat _ (by omega)]; show (m : Int) % 256 = _; omega
      have HQ : Hid (fixL j n ++ [b] = fixL (j + 1) n) := by show _ = _; rw [fixL_snoc, hb, HM.out]
      have HM2 : Hid (m / 256 = n / 256 ^ (j + 1)) := by show _ = _; rw [HM.out, Nat.div_div_eq_div_mul, Nat.pow_succ]
      have hlen1 : (fixL j n).length + 1 ≤ 1048576 := by rw [fixL_length]; omega
      clear hb
      go_wp2_with (at_builtin; refine append_byte rfl _ _ rfl b rfl hown hbw (Nat.le_refl _) HB.out rfl hlen1 ?_; intro v' w1 hown' hbw')
      go_roundw
      case rel => exact ⟨j + 1, m / 256, by omega, by go_num, by go_num, by omega, HM2.out, by rw [← HQ.out]; exact hown', hbw'⟩
      case measure => simp [intOf]; omega
    · obtain rfl : k = j := by omega
      have hp : 0 < 256 ^ k := Nat.pow_pos (by omega)
      have HP : Hid (0 < m ↔ ¬ n < 256 ^ k) := by
        show _ ↔ _
        rw [HM.out]
        constructor
        · intro h0 h1; rw [Nat.div_eq_of_lt h1] at h0; omega
        · intro h0; exact Nat.div_pos (by omega) hp
      have hfm := own_form hown
      clear hp
      by_cases hm0 : 0 < m
      · go_wp2
        go_ret2
        exact ⟨fun hx => absurd hx (HP.out.1 hm0), fun _ => ⟨rfl, hbw⟩⟩
      · obtain ⟨A, c, hv⟩ := hfm
        have HV := Lib.hid hv
        clear hv
        go_wp2
        go_ret2
        refine ⟨fun _ => ⟨A, c, ?_, ?_, hbw⟩, fun hx => absurd (HP.out.2 hx) hm0⟩
        · rw [← HV.out]; exact rfl
        · unfold Own; rw [← HV.out]; exact hown
end Go.Proofs.YtonnkibcnhjelaaGreatDoor
end
section
set_option linter.unusedVariables false
namespace Go.Proofs.YtonnkibcnhjelaaGreatDoor
open Go.RowKit
section
variable {P : Program} {ops : Array Oper} {Q : Exit → Act → World → Prop} {md : Region.Mode} {l n : Nat}
theorem rows_wide {row : String} {args : Array Value} {w : World} {R : Value → World → Prop} (h : Rows P row args w R) : RowsIn (Fence.wide.inRound l) n P row args w R := fun c cs _ =>
  let ⟨v, w', r, s⟩ := h c cs
  ⟨v, w', r, stepsIn_wide.2 s⟩
def noDefer (ops : Array Oper) : Bool := ops.all fun o => match o.op with | .defer _ => false | _ => true
theorem noDefer_spec (h : noDefer ops = true) {i : Nat} {o : Oper} (ho : ops[i]? = some o) : ∀ c, o.op ≠ .defer c := fun c hc => by
  obtain ⟨hi, rfl⟩ := Array.getElem?_eq_some_iff.1 ho
  have := Array.all_eq_true.1 h i hi
  rw [hc] at this
  cases this
theorem op_round {o : Oper} {a : Act} {w : World} {K : Act → World → Prop} (hp : ∀ c, o.op ≠ .defer c) (hL : ¬ LetsOut Q) (h : o.wp P a w K Q ∨ (o.asks P a w ∧ LetsOut Q)) : o.wpIn (Fence.wide.inRound l) n P a w K Q := by
  have h := h.resolve_right (fun h2 => hL h2.2)
  refine ⟨fun _ _ => trivial, ?_⟩
  rw [Oper.semAt_eq _ _ _ hp]
  unfold Oper.wp at h
  generalize (execOp a.eval o).run P w = r at *
  cases r with
  | ok x w' =>
    cases x with
    | value v => exact h
    | skip => exact h
    | defer d => exact h
    | enter f args =>
      refine ⟨fun hd => (by simp [Fence.wide, Fence.inRound] at hd), ?_⟩
      exact CallsIn.inRound l (callsIn_wide.2 h)
    | row row args => exact ⟨fun hd => (by simp [Fence.wide, Fence.inRound] at hd), rows_wide h⟩
    | round l f tmps assign body => exact h.elim
    | _ => exact h.elim
  | halt x w' => cases x <;> exact h
theorem wpOp_round {i : Nat} {a : Act} {w : World} {K K' : Act → World → Prop} (hp : noDefer ops = true) (hL : ¬ LetsOut Q) (hK : ∀ a w, K a w → K' a w) (h : wpOp P ops Q i K a w) : wpOpIn (Fence.wide.inRound l) n P ops Q i K' a w := by
  unfold wpOp at h
  unfold wpOpIn
  split at h
  · rename_i ho
    simp only [ho]
    exact hK _ _ h
  · rename_i o ho
    simp only [ho]
    split at h
    · rename_i hw
      simp only [hw, if_true]
      exact Oper.wpIn_mono hK (op_round (noDefer_spec hp ho) hL h)
    · rename_i hw
      simp only [hw]
      exact ⟨fun _ _ => trivial, hK _ _ h⟩
theorem any_round (hp : noDefer ops = true) (hL : ¬ LetsOut Q) : ∀ (fuel : Nat) (listed : Array Bool) (a : Act) (w : World), wpAny P md ops Q fuel listed a w → wpAnyIn (Fence.wide.inRound l) n P md ops Q fuel listed a w
  | 0, _, _, _, h => h
  | fuel + 1, _, _, _, h => ⟨h.1, fun i hi => wpOp_round hp hL (fun a w h' => any_round hp hL fuel _ a w h') (h.2 i hi)⟩
def Nrm (R : Act → World → Prop) : Exit → Act → World → Prop
  | .normal, a, w => R a w
  | _, _, _ => False
theorem nrm_lets (R : Act → World → Prop) : ¬ LetsOut (Nrm R) := fun ⟨_, _, h⟩ => h
theorem region_round {id : Nat} {a : Act} {w : World} (R : Act → World → Prop) (hm : P.follows .mixedOrders = true) (hp : noDefer ops = true)
    (h : wpAny P .any ops (Nrm R) ops.size (Array.replicate ops.size false) a { w with drawn := w.drawn + 1 }) (hQ : ∀ a w, R a w → Q .normal a w) : (Code.region id ops true).wpIn (Fence.wide.inRound l) n P Q a w := by
  refine Go.wpIn_mono (wpIn_region_any hm (any_round hp (nrm_lets R) _ _ _ _ h)) fun e a w h => ?_
  cases e <;> first | exact hQ _ _ h | exact h.elim
theorem any_twoT {S : World → Prop} {T : Nat → Bool} {i j fuel : Nat} {listed : Array Bool} {a : Act} {w : World} (hr : Region.ready md ops listed = [i, j])
    (h1 : wpOp P ops Q i (fun a' w' => S w' ∧ wpAnyT P md ops Q S T fuel (listed.setIfInBounds i true) a' w') a w) (h2 : wpOp P ops Q j (fun a' w' => S w' ∧ wpAnyT P md ops Q S T fuel (listed.setIfInBounds j true) a' w') a w) : wpAnyT P md ops Q S T (fuel + 1) listed a w :=
  ⟨fun h0 => (by rw [hr] at h0; cases h0), fun k hk => by
    rw [hr] at hk
    rcases List.mem_cons.1 hk with rfl | hk
    · exact wpOp_mono (fun a' w' h' => ⟨fun _ => h'.1, h'.2⟩) h1
    · rw [List.mem_singleton] at hk
      subst hk
      exact wpOp_mono (fun a' w' h' => ⟨fun _ => h'.1, h'.2⟩) h2⟩
end
end Go.Proofs.YtonnkibcnhjelaaGreatDoor
end
