/- Lemmas under the proofs of this place: WalPSmall, WalPWriteM, SectRJoin, WalRAppend, DiskRCrash, DiskAlike. No statement is proved here. -/
import Derived.Test.YtghenhacndaelaaGreatBu20
import Derived.Test.YtghenhacndaelaaGreatBu03
import Derived.Test.YtghenhacndaelaaGreatBu08
import Derived.Test.YtghenhacndaelaaGreatBu16
import Derived.Test.YtghenhacndaelaaGreatBu17
import Derived.Test.YtghenhacndaelaaGreatBu11
import Derived.Test.YtghenhacndaelaaGreatBu14
import Derived.Test.YtghenhacndaelaaGreatBu15
import Derived.Test.YtghenhacndaelaaGreatBu13
import Derived.Deep.QuietTactic
import Derived.BigQuiet
import Derived.Deep.RegionWith
import Derived.StillTailTactics
import Derived.Deep.RegionHeldLaw
set_option linter.unusedSimpArgs false
set_option linter.unusedVariables false
set_option maxRecDepth 100000
set_option maxHeartbeats 16000000
namespace Go.Proofs.YtghenhacndaelaaGreat
section
open Go.RowKit
open Wal
theorem Tryz.logIsNil (g : Nat) (w : World) : Sem.run Tryz.prog (binOp BinOp.eql 33 (Value.pointer (some ⟨g, 0, none⟩)) (Value.pointer none)) w = Result.ok (Value.bool false) w := by kernel_rfl
theorem wwithin_gives (n a b : Int) (v : Bool) (hv : (decide (a ≤ n) && decide (n ≤ b)) = v) (w : World) : Calls Tryz.prog 41 #[.int .i64 n, .int .i64 a, .int .i64 b] w fun e w' => e = .returned (.bool v) ∧ w = w' := by
  by_cases h : a ≤ n
  · have d : decide (a ≤ n) = true := decide_eq_true h
    rw [d, Bool.true_and] at hv
    subst hv
    go_enter Tryz.func41, Tryz.ntmps41
    go_wp2
    go_ret
    exact ⟨rfl, rfl⟩
  · have d : decide (a ≤ n) = false := decide_eq_false h
    rw [d, Bool.false_and] at hv
    subst hv
    go_enter Tryz.func41, Tryz.ntmps41
    go_wp2
    go_ret
    exact ⟨rfl, rfl⟩
theorem wwithin_yes {n a b : Int} (h : a ≤ n ∧ n ≤ b) (w : World) : Calls Tryz.prog 41 #[.int .i64 n, .int .i64 a, .int .i64 b] w fun e w' => e = .returned (.bool true) ∧ w = w' :=
  wwithin_gives n a b true (by rw [decide_eq_true h.1, decide_eq_true h.2]; rfl) w
theorem wwithin_no {n a b : Int} (h : ¬ (a ≤ n ∧ n ≤ b)) (w : World) : Calls Tryz.prog 41 #[.int .i64 n, .int .i64 a, .int .i64 b] w fun e w' => e = .returned (.bool false) ∧ w = w' :=
  wwithin_gives n a b false (by
    by_cases h1 : a ≤ n
    · rw [decide_eq_true h1, decide_eq_false (fun h2 => h ⟨h1, h2⟩)]; rfl
    · rw [decide_eq_false h1]; rfl) w
def areW (frm bl all : Int) : Bool := decide (0 ≤ frm ∧ frm ≤ all - 1) && decide (1 ≤ bl ∧ bl ≤ all - frm)
theorem areblocks_any (frm bl : Int) (n : Nat) (hn : n ≤ 1000000) (w : World) : Calls Tryz.prog 39 #[.int .i64 frm, .int .i64 bl, .int .i64 (n : Int)] w fun e w' => e = .returned (.bool (areW frm bl n)) ∧ w = w' := by
  have y0 : IntKind.i64.wrap ((n : Int) - 1) = (n : Int) - 1 := IntWalk.i64_in _ (by omega)
  by_cases h0 : 0 ≤ frm ∧ frm ≤ (n : Int) - 1
  · have H0 : Hid (∀ W, Calls Tryz.prog 41 #[.int .i64 frm, .int .i64 0, .int .i64 ((n : Int) - 1)] W fun e w' => e = .returned (.bool true) ∧ W = w') := fun W => wwithin_yes h0 W
    have y1 : IntKind.i64.wrap ((n : Int) - frm) = (n : Int) - frm := IntWalk.i64_in _ (by omega)
    by_cases h1 : 1 ≤ bl ∧ bl ≤ (n : Int) - frm
    · have HV : Hid (areW frm bl n = true) := by show _ = _; unfold areW; rw [decide_eq_true h0, decide_eq_true h1]; rfl
      have H1 : Hid (∀ W, Calls Tryz.prog 41 #[.int .i64 bl, .int .i64 1, .int .i64 ((n : Int) - frm)] W fun e w' => e = .returned (.bool true) ∧ W = w') := fun W => wwithin_yes h1 W
      clear h0 h1
      go_enter Tryz.func39, Tryz.ntmps39
      go_wp2_with (first
        | (go_at_call 41; (with_reducible refine (H0.out _).mono ?_); rintro e w1 ⟨rfl, rfl⟩)
        | (go_at_call 41; (with_reducible refine (H1.out _).mono ?_); rintro e w1 ⟨rfl, rfl⟩))
      go_ret
      rw [HV.out]
      exact ⟨rfl, rfl⟩
    · have HV : Hid (areW frm bl n = false) := by show _ = _; unfold areW; rw [decide_eq_true h0, decide_eq_false h1]; rfl
      have H1 : Hid (∀ W, Calls Tryz.prog 41 #[.int .i64 bl, .int .i64 1, .int .i64 ((n : Int) - frm)] W fun e w' => e = .returned (.bool false) ∧ W = w') := fun W => wwithin_no h1 W
      clear h0 h1
      go_enter Tryz.func39, Tryz.ntmps39
      go_wp2_with (first
        | (go_at_call 41; (with_reducible refine (H0.out _).mono ?_); rintro e w1 ⟨rfl, rfl⟩)
        | (go_at_call 41; (with_reducible refine (H1.out _).mono ?_); rintro e w1 ⟨rfl, rfl⟩))
      go_ret
      rw [HV.out]
      exact ⟨rfl, rfl⟩
  · have H0 : Hid (∀ W, Calls Tryz.prog 41 #[.int .i64 frm, .int .i64 0, .int .i64 ((n : Int) - 1)] W fun e w' => e = .returned (.bool false) ∧ W = w') := fun W => wwithin_no h0 W
    have HV : Hid (areW frm bl n = false) := by show _ = _; unfold areW; rw [decide_eq_false h0]; rfl
    clear h0
    go_enter Tryz.func39, Tryz.ntmps39
    go_wp2_with (first
      | (go_at_call 41; (with_reducible refine (H0.out _).mono ?_); rintro e w1 ⟨rfl, rfl⟩))
    go_ret
    rw [HV.out]
    exact ⟨rfl, rfl⟩
section
variable {w : World} {g lg : Nat} {E : Nat → Prop} {l : Lg}
theorem wused_any (hL : PLog w lg g E l) {len : Nat} (hf : l.fit len) : Calls Tryz.prog 17 #[.pointer (some ⟨lg, 0, none⟩)] w fun e w' => e = .returned (.int .i64 ((used l : Nat) : Int)) ∧ w = w' := by
  obtain ⟨A, c, hL⟩ := hL
  have z0 := fun w' => Tryz.logIsNil lg w'
  have r3 := hL.r3
  clear hL hf
  generalize used l = u at *
  go_enter Tryz.func17, Tryz.ntmps17
  go_wp2
  go_ret
  exact ⟨rfl, rfl⟩
theorem wroom_any (hL : PLog w lg g E l) {len : Nat} (hf : l.fit len) : Calls Tryz.prog 19 #[.pointer (some ⟨lg, 0, none⟩)] w fun e w' => e = .returned (.int .i64 (((l.n : Nat) : Int) - ((used l : Nat) : Int))) ∧ ∃ n, w' = w.drewN n := by
  obtain ⟨A, c, hL⟩ := hL
  have z0 := fun w' => Tryz.logIsNil lg w'
  have r2 := hL.r2
  have r3 := hL.r3
  have h1 := hf.few
  have h2 : used l ≤ l.n := by have := hf.used; unfold used; omega
  have y0 : IntKind.i64.wrap (((l.n : Nat) : Int) - ((used l : Nat) : Int)) = ((l.n : Nat) : Int) - ((used l : Nat) : Int) := IntWalk.i64_in _ (by omega)
  clear hL hf
  generalize used l = u at *
  generalize l.n = n at *
  go_enter Tryz.func19, Tryz.ntmps19
  go_wp2
  go_quiet (fail)
  go_wp2
  go_ret
  exact ⟨rfl, nq, rfl⟩
theorem wdead_any (hL : PLog w lg g E l) : Calls Tryz.prog 22 #[.pointer (some ⟨lg, 0, none⟩)] w fun e w' => e = .returned (.bool l.gone) ∧ w = w' := by
  obtain ⟨A, c, hL⟩ := hL
  have z0 := fun w' => Tryz.logIsNil lg w'
  have r6 := hL.r6
  clear hL
  generalize l.gone = b at *
  go_enter Tryz.func22, Tryz.ntmps22
  go_wp2
  go_ret
  exact ⟨rfl, rfl⟩
end
theorem drewN_room (w : World) (n : Nat) : Below w.heap.size w (w.drewN n) := ⟨rfl, rfl, rfl, Nat.le_refl _, fun _ _ => rfl⟩
end
section
open Go.RowKit Go.Shelf
open Wal
def padC (b : List UInt8) (i : Nat) : List UInt8 := (b.drop (256 * i)).take 256 ++ List.replicate (256 - chunkL b.length i) 0
theorem chunk_take (b : List UInt8) (i : Nat) (hi : i < chunkN b.length) : ((b.drop (256 * i)).take 256).length = chunkL b.length i := by
  unfold chunkN at hi
  unfold chunkL
  rw [List.length_take, List.length_drop]
  split <;> omega
theorem padC_length (b : List UInt8) (i : Nat) (hi : i < chunkN b.length) : (padC b i).length = 256 := by
  unfold padC
  rw [List.length_append, chunk_take b i hi, List.length_replicate]
  unfold chunkL
  split <;> omega
theorem chunk_blk (lb R : List UInt8) (i : Nat) (hi : i < chunkN (endL lb ++ R).length) : blkW (allW lb R) (lb.length / 256 + i) = padC (endL lb ++ R) i := by
  have hlen : (endL lb ++ R).length = lb.length % 256 + R.length := by rw [List.length_append, endL_length]
  obtain ⟨p, hp⟩ : ∃ p, p = lb.length - lb.length % 256 := ⟨_, rfl⟩
  have hpm : p = 256 * (lb.length / 256) := by omega
  have h1 : allW lb R = lb.take p ++ ((endL lb ++ R) ++ List.replicate (padN (lb.length + R.length)) 0) := by
    unfold allW endL
    rw [← hp]
    generalize padN (lb.length + R.length) = z
    conv => lhs; rw [← List.take_append_drop p lb]
    simp only [List.append_assoc]
  have h2 : (lb.take p).length = p := by rw [List.length_take]; omega
  have h3 : padN (lb.length + R.length) = padN (endL lb ++ R).length := by unfold padN; rw [hlen]; omega
  rw [h3] at h1
  obtain ⟨b, hb⟩ : ∃ b, b = endL lb ++ R := ⟨_, rfl⟩
  rw [← hb] at h1 hi ⊢
  unfold blkW
  rw [h1, show 256 * (lb.length / 256 + i) = (lb.take p).length + 256 * i by rw [h2]; omega, ← List.drop_drop, List.drop_left]
  unfold chunkN at hi
  rw [List.drop_append_of_le_length (by omega)]
  unfold padC
  have hx : (b.drop (256 * i)).length = b.length - 256 * i := List.length_drop
  by_cases hc : 256 ≤ b.length - 256 * i
  · rw [List.take_append_of_le_length (by omega)]
    have : chunkL b.length i = 256 := by unfold chunkL; rw [if_neg (by omega)]
    rw [this]
    simp
  · have hcl : chunkL b.length i = b.length - 256 * i := by unfold chunkL; rw [if_pos (by omega)]; omega
    rw [List.take_append, List.take_of_length_le (show (b.drop (256 * i)).length ≤ 256 by omega), hcl, hx]
    congr 1
    have hpd : padN b.length = 256 - (b.length - 256 * i) := by unfold padN; omega
    rw [hpd, List.take_of_length_le (by simp)]
theorem chunk_count (lb R : List UInt8) : (allW lb R).length / 256 - lb.length / 256 = chunkN (endL lb ++ R).length := by
  have hlen : (endL lb ++ R).length = lb.length % 256 + R.length := by rw [List.length_append, endL_length]
  rw [all_length, hlen]
  unfold padN chunkN
  omega
theorem splice_pad (b : List UInt8) (i : Nat) (hi : i < chunkN b.length) : splice (cells (List.replicate 256 0)) 0 (cells ((b.drop (256 * i)).take 256)) = cells (padC b i) := by
  unfold splice padC
  rw [← chunk_take b i hi, cells_append, cells_length, List.take_zero, List.nil_append, Nat.zero_add, cells_drop, List.drop_replicate]
theorem sub_rb13 {w : World} {B b0 o : Nat} {M : List UInt8} (h : RB w B (some ⟨b0, o, none⟩) M) (k q : Nat) : RB w B (some ⟨b0, o + k, none⟩) ((M.drop k).take q) := by
  refine ⟨by rw [cells_length]; simp, fun h0 => ?_⟩
  have hl : 0 < M.length := by
    rw [List.length_take, List.length_drop] at h0
    omega
  obtain ⟨ad, e, hb, hc⟩ := h.2 hl
  injection e with e
  subst e
  refine ⟨_, rfl, hb, fun j u hu => ?_⟩
  have e2 : (⟨b0, o + k, none⟩ : Addr).add j = (⟨b0, o, none⟩ : Addr).add (k + j) := by
    unfold Addr.add
    by_cases hj : j = 0 <;> by_cases hk : k = 0 <;> simp [hj, hk, Nat.add_assoc]
  rw [e2]
  refine hc _ u ?_
  rw [← cells_take, ← cells_drop, List.getElem?_take] at hu
  split at hu
  · rw [List.getElem?_drop] at hu
    exact hu
  · cases hu
def CellsOnly (w : World) (F : Nat → Prop) : Prop := ∀ k, F k → ∃ t cs, Blk w k t cs
theorem PDisk.cellsF {w : World} {g : Nat} {F : Nat → Prop} {d : Dk} (h : PDisk w g F d) : PDisk w g (fun k => F k ∧ ∃ t cs, Blk w k t cs) d := by
  obtain ⟨a, ca, b, cb, n, V, ends, lf, h⟩ := h
  obtain ⟨s1, h1⟩ := h.safe
  obtain ⟨s2, h2⟩ := h.last
  exact ⟨a, ca, b, cb, n, V, ends, lf, h.blk, h.size, h.capa, h.capb, h.safe, h.last, h.wait, h.ab, ⟨h.fg, _, _, h.blk⟩, ⟨h.fa, _, _, h1⟩, ⟨h.fb, _, _, h2⟩, fun k hk => ⟨h.fv k hk, _, (own_lt h.wait hk).2⟩, fun k hk => h.flt k hk.1, h.good, h.ends_, h.left_⟩
theorem cellsF_only (w : World) (F : Nat → Prop) : CellsOnly w (fun k => F k ∧ ∃ t cs, Blk w k t cs) := fun k hk => hk.2
theorem turns_grow_row {V W : World} {row : Option Nat} (hg : V.grownBy W row) : Turns V W (fun k => row = some k) (fun k => row = some k) := Turns.grown hg (fun k e => e)
theorem pdisk_kept {V W : World} {g : Nat} {F : Nat → Prop} {d : Dk} {row : Option Nat} (h : PDisk V g F d) (hF : CellsOnly V F) (hg : V.grownBy W row) (hr : ∀ r, row = some r → ∃ o : Obj, V.heap[r]? = some o ∧ o.isCells = false) : PDisk W g F d ∧ CellsOnly W F := by
  have hno : ∀ k, F k → ¬ row = some k := fun k hk e => by
    obtain ⟨t, cs, hb⟩ := hF k hk
    obtain ⟨o, ho, hc⟩ := hr k e
    rw [show V.heap[k]? = _ from hb] at ho
    cases ho
    cases hc
  refine ⟨h.turns (turns_grow_row hg) hno, fun k hk => ?_⟩
  obtain ⟨t, cs, hb⟩ := hF k hk
  exact ⟨t, cs, hb.turns (turns_grow_row hg) (hno k hk)⟩
theorem turns_kept2 {U V W : World} {F F' : Nat → Prop} {row : Option Nat} (h : Turns U V F F') (hg : V.grownBy W row) (hr : ∀ r, row = some r → U.heap.size ≤ r) : Turns U W F F' :=
  ⟨hg.os.trans h.os, hg.tape.trans h.tape, hg.output.trans h.output, Nat.le_trans h.size hg.size,
   fun k hk hn => (hg.block k (Nat.lt_of_lt_of_le hk h.size) (fun e => by have := hr k e.symm; omega)).trans (h.block k hk hn), h.foot⟩
def stepsW (frm : Nat) (b : List UInt8) : Nat → List Nat → Dk → Option Dk
  | _, [], d => some d
  | k, j :: js, d => if (d.write ((frm + k : Nat) : Int) (padC b j)).2 = 0 then stepsW frm b (k + 1) js (d.write ((frm + k : Nat) : Int) (padC b j)).1 else none
theorem steps_snoc (frm : Nat) (b : List UInt8) (j : Nat) : ∀ (js : List Nat) (k : Nat) (d D : Dk), stepsW frm b k js d = some D → (D.write ((frm + (k + js.length) : Nat) : Int) (padC b j)).2 = 0 → stepsW frm b k (js ++ [j]) d = some (D.write ((frm + (k + js.length) : Nat) : Int) (padC b j)).1
  | [], k, d, D, h, hz => by
    simp only [stepsW, Option.some.injEq] at h
    subst h
    simp only [List.length_nil, Nat.add_zero] at hz ⊢
    simp only [List.nil_append, stepsW, if_pos hz]
  | x :: js, k, d, D, h, hz => by
    rw [stepsW] at h
    split at h
    · rename_i hx
      have ih := steps_snoc frm b j js (k + 1) _ D h
      rw [show k + 1 + js.length = k + (x :: js).length by simp; omega] at ih
      rw [List.cons_append, stepsW, if_pos hx]
      exact ih hz
    · cases h
theorem steps_all {frm k0 N : Nat} {b all : List UInt8} (hblk : ∀ i, i < N → blkW all (k0 + i) = padC b i) : ∀ (m s : Nat) (d D : Dk), s + m ≤ N → stepsW frm b (k0 + s) (List.range' s m) d = some D → writesW frm all m (k0 + s) d = (D, 0)
  | 0, s, d, D, _, h => by
    simp only [List.range'_zero, stepsW, Option.some.injEq] at h
    subst h; rfl
  | m + 1, s, d, D, hs, h => by
    rw [List.range'_succ, stepsW] at h
    split at h
    · rename_i hx
      rw [writesW, hblk s (by omega), if_pos hx]
      have := steps_all hblk m (s + 1) _ D (by omega) (by rw [show k0 + (s + 1) = k0 + s + 1 by omega]; exact h)
      rw [show k0 + (s + 1) = k0 + s + 1 by omega] at this
      exact this
    · cases h
theorem steps_bad {frm k0 N : Nat} {b all : List UInt8} (hblk : ∀ i, i < N → blkW all (k0 + i) = padC b i) : ∀ (m s M : Nat) (d D : Dk), m < M → s + M ≤ N → stepsW frm b (k0 + s) (List.range' s m) d = some D → (D.write ((frm + (k0 + s + m) : Nat) : Int) (padC b (s + m))).2 ≠ 0 → writesW frm all M (k0 + s) d = D.write ((frm + (k0 + s + m) : Nat) : Int) (padC b (s + m))
  | 0, s, M, d, D, hm, hs, h, hz => by
    simp only [List.range'_zero, stepsW, Option.some.injEq] at h
    subst h
    obtain ⟨M', rfl⟩ : ∃ M', M = M' + 1 := ⟨M - 1, by omega⟩
    simp only [Nat.add_zero] at hz ⊢
    rw [writesW, hblk s (by omega), if_neg hz]
  | m + 1, s, M, d, D, hm, hs, h, hz => by
    obtain ⟨M', rfl⟩ : ∃ M', M = M' + 1 := ⟨M - 1, by omega⟩
    rw [List.range'_succ, stepsW] at h
    split at h
    · rename_i hx
      rw [writesW, hblk s (by omega), if_pos hx]
      have ih := steps_bad hblk m (s + 1) M' (d.write ((frm + (k0 + s) : Nat) : Int) (padC b s)).1 D (by omega) (by omega) (by rw [show k0 + (s + 1) = k0 + s + 1 by omega]; exact h)
      rw [show k0 + (s + 1) + m = k0 + s + (m + 1) by omega, show s + 1 + m = s + (m + 1) by omega, show k0 + (s + 1) = k0 + s + 1 by omega] at ih
      exact ih hz
    · cases h
def WrI (W8 : World) (g q2 : Nat) (F : Nat → Prop) (frm k0 : Nat) (b : List UInt8) (d : Dk) (js : List Nat) (V : World) : Prop :=
  ∃ F' D, PDisk V g F' D ∧ CellsOnly V F' ∧ (∀ k, F' k → F k ∨ W8.heap.size ≤ k) ∧ Turns W8 V (fun k => F k ∨ k = q2) (fun k => F' k ∨ k = q2) ∧ Blk V q2 3 #[.int .i64 ((frm + (k0 + js.length) : Nat) : Int)] ∧ D.load ≤ d.load + 2 * js.length ∧ stepsW frm b k0 js d = some D
def WrX (W8 : World) (g q1 q2 : Nat) (F : Nat → Prop) (frm k0 : Nat) (b : List UInt8) (d : Dk) (c : Code) (js : List Nat) (V : World) : Prop :=
  c = .ret ∧ ∃ js0 j, js = js0 ++ [j] ∧ ∃ F' D0 D z, PDisk V g F' D ∧ CellsOnly V F' ∧ (∀ k, F' k → F k ∨ W8.heap.size ≤ k) ∧ Turns W8 V (fun k => F k ∨ k = q1 ∨ k = q2) (fun k => F' k ∨ k = q1 ∨ k = q2) ∧ Blk V q1 26 #[.int .i64 z] ∧ z ≠ 0 ∧ stepsW frm b k0 js0 d = some D0 ∧ D0.write ((frm + (k0 + js0.length) : Nat) : Int) (padC b j) = (D, z)
theorem wrI_own {β : Type} (f : β → List Nat) (W8 : World) (g q2 : Nat) (F : Nat → Prop) (frm k0 : Nat) (b : List UInt8) (d : Dk) : OwnFrom W8.heap.size (fun s V => WrI W8 g q2 F frm k0 b d (f s) V) := by
  rintro s V W row ⟨F', D, h1, h2, hft, h3, h4, h5, h6⟩ hg hr
  have hr' : ∀ r, row = some r → ∃ o : Obj, V.heap[r]? = some o ∧ o.isCells = false := fun r e => (hr r e).2
  obtain ⟨k1, k2⟩ := pdisk_kept h1 h2 hg hr'
  exact ⟨F', D, k1, k2, hft, turns_kept2 h3 hg (fun r e => (hr r e).1), blk_kept h4 hg hr', h5, h6⟩
theorem wrX_own {β : Type} (f : β → List Nat) (W8 : World) (g q1 q2 : Nat) (F : Nat → Prop) (frm k0 : Nat) (b : List UInt8) (d : Dk) (c : Code) : OwnFrom W8.heap.size (fun s V => WrX W8 g q1 q2 F frm k0 b d c (f s) V) := by
  rintro s V W row ⟨h0, js0, j, hj, F', D0, D, z, h1, h2, hft, h3, h4, h5, h6⟩ hg hr
  have hr' : ∀ r, row = some r → ∃ o : Obj, V.heap[r]? = some o ∧ o.isCells = false := fun r e => (hr r e).2
  obtain ⟨k1, k2⟩ := pdisk_kept h1 h2 hg hr'
  exact ⟨h0, js0, j, hj, F', D0, D, z, k1, k2, hft, turns_kept2 h3 hg (fun r e => (hr r e).1), blk_kept h4 hg hr', h5, h6⟩
theorem keeps_turns2 {B : Nat} {V W : World} {F F' : Nat → Prop} (h : Turns V W F F') (hF : ∀ k, F k → ∃ t cs, Blk V k t cs) : KeepsFrom B V W :=
  ⟨h.size, fun k o _ hk ho => by
    by_cases hf : F k
    · obtain ⟨t, cs, hb⟩ := hF k hf
      rw [show V.heap[k]? = _ from hb] at hk
      cases hk
      cases ho
    · exact (h.block k (Array.getElem?_eq_some_iff.1 hk).1 hf).trans hk⟩
theorem row_full {w : World} {base g n : Nat} {xs : List Value} (h : w.ownsRow base 5 1 (.slice (some ⟨g, 0, none⟩) n n) n xs) (h0 : 0 < n) : Blk w g 5 xs.toArray := by
  rcases h.2 with ⟨h1, _⟩ | ⟨k, cap, cur, he, h2, h3, h4, h5, h6, h7⟩
  · cases h1
  · simp only [Value.slice.injEq, Option.some.injEq, Addr.mk.injEq, and_true] at he
    obtain ⟨rfl, -, rfl⟩ := he
    have : cur.toList = xs := by
      rw [← h7, List.take_of_length_le]
      rw [Array.length_toList, h6]
      exact Nat.le_refl _
    have e : cur = xs.toArray := by rw [← this]
    rw [← e]
    exact h3
theorem turns_narrow {w W8 Z : World} {F F' X X' : Nat → Prop} (hb : Below w.heap.size w W8) (h : Turns W8 Z X X') (hX : ∀ k, X k → F k ∨ w.heap.size ≤ k) (hF : ∀ k, F' k → F k ∨ w.heap.size ≤ k) : Turns w Z F F' :=
  ⟨h.os.trans hb.os, h.tape.trans hb.tape, h.output.trans hb.output, Nat.le_trans hb.size h.size, fun k hk hn => (h.block k (Nat.lt_of_lt_of_le hk hb.size) (fun hx => by
    rcases hX k hx with h1 | h1
    · exact hn h1
    · omega)).trans (hb.block k hk), hF⟩
theorem list_round {P : Program} {ops : Array Oper} {Q : Exit → Act → World → Prop} {l n : Nat} (hL : ¬ LetsOut Q) : ∀ (rest : List Oper) (a : Act) (w : World), (∀ o ∈ rest, ∀ c, o.op ≠ .defer c) → wpList P ops Q rest a w → wpListIn (Fence.wide.inRound l) n P ops Q rest a w
  | [], a, w, _, h => h
  | o :: rest, a, w, hp, h => by
    unfold wpList at h
    unfold wpListIn
    split at h
    · rename_i hw
      simp only [hw, if_true]
      exact Oper.wpIn_mono (fun a w h' => list_round hL rest a w (fun o ho => hp o (List.mem_cons_of_mem _ ho)) h') (op_round (hp o List.mem_cons_self) hL h)
    · rename_i hw
      simp only [hw]
      exact ⟨fun _ _ => trivial, list_round hL rest _ _ (fun o ho => hp o (List.mem_cons_of_mem _ ho)) h⟩
theorem region_round_list {P : Program} {ops : Array Oper} {Q : Exit → Act → World → Prop} {l n id : Nat} {a : Act} {w : World} (R : Act → World → Prop) (hp : noDefer ops = true) (h : wpList P ops (Nrm R) ops.toList a w) (hQ : ∀ a w, R a w → Q .normal a w) : (Code.region id ops false).wpIn (Fence.wide.inRound l) n P Q a w := by
  refine Go.wpIn_mono (wpIn_region_list (list_round (nrm_lets R) _ a w (fun o ho c => ?_) h)) fun e a w h => ?_
  · obtain ⟨i, hi, rfl⟩ := List.getElem_of_mem ho
    exact noDefer_spec hp (i := i) (by simp at hi; simp [hi]) c
  · cases e <;> first | exact hQ _ _ h | exact h.elim
theorem region_round_lit {P : Program} {ops : List Oper} {Q : Exit → Act → World → Prop} {l n id : Nat} {a : Act} {w : World} (R : Act → World → Prop) (hp : noDefer ops.toArray = true) (h : wpList P ops.toArray (Nrm R) ops a w) (hQ : ∀ a w, R a w → Q .normal a w) : (Code.region id ops.toArray false).wpIn (Fence.wide.inRound l) n P Q a w :=
  region_round_list R hp (by simpa using h) hQ
end
section
open Go.RowKit
theorem rsame_no0 (k ep n l k' ep' n' l' : Int) (D D' : List UInt8) (m m' : Nat) (hm : m = D.length) (hm' : m' = D'.length) (A A' : Option Addr) (c c' : Nat) (w : World) (h1 : RB w w.heap.size A D) (h2 : RB w w.heap.size A' D') (h : k ≠ k') :
    Calls Tryz.prog 116 #[.agg #[.int .i64 k, .int .i64 ep, .int .i64 n, .int .i64 l, .slice A m c], .agg #[.int .i64 k', .int .i64 ep', .int .i64 n', .int .i64 l', .slice A' m' c']] w fun e w' => e = .returned (.bool false) ∧ Below w.heap.size w w' := by
  have hb : Below w.heap.size w ((w.alloc (.cells #[.int .i64 k, .int .i64 ep, .int .i64 n, .int .i64 l, .slice A m c] 49)).alloc (.cells #[.int .i64 k', .int .i64 ep', .int .i64 n', .int .i64 l', .slice A' m' c'] 49)) := ((Below.refl _ _).alloc (Nat.le_refl _) _).alloc (by simp) _
  have s1 := aw_str (rb_up7 h1 hb) m c hm
  have s2 := aw_str (rb_up7 h2 hb) m' c' hm'
  have HB := Lib.hid hb
  have e1 : decide (k = k') = false := decide_eq_false h
  have e2 : (k == k') = false := by rw [beq_eq_false_iff_ne]; exact h
  clear h1 h2 hm hm' hb h
  go_enter Tryz.func116, Tryz.ntmps116
  go_wp2
  go_ret
  exact ⟨rfl, HB.out⟩
theorem rsame_no1 (k ep n l ep' n' l' : Int) (D D' : List UInt8) (m m' : Nat) (hm : m = D.length) (hm' : m' = D'.length) (A A' : Option Addr) (c c' : Nat) (w : World) (h1 : RB w w.heap.size A D) (h2 : RB w w.heap.size A' D') (h : ep ≠ ep') :
    Calls Tryz.prog 116 #[.agg #[.int .i64 k, .int .i64 ep, .int .i64 n, .int .i64 l, .slice A m c], .agg #[.int .i64 k, .int .i64 ep', .int .i64 n', .int .i64 l', .slice A' m' c']] w fun e w' => e = .returned (.bool false) ∧ Below w.heap.size w w' := by
  have hb : Below w.heap.size w ((w.alloc (.cells #[.int .i64 k, .int .i64 ep, .int .i64 n, .int .i64 l, .slice A m c] 49)).alloc (.cells #[.int .i64 k, .int .i64 ep', .int .i64 n', .int .i64 l', .slice A' m' c'] 49)) := ((Below.refl _ _).alloc (Nat.le_refl _) _).alloc (by simp) _
  have s1 := aw_str (rb_up7 h1 hb) m c hm
  have s2 := aw_str (rb_up7 h2 hb) m' c' hm'
  have HB := Lib.hid hb
  have e1 : decide (ep = ep') = false := decide_eq_false h
  have e2 : (ep == ep') = false := by rw [beq_eq_false_iff_ne]; exact h
  clear h1 h2 hm hm' hb h
  go_enter Tryz.func116, Tryz.ntmps116
  go_wp2
  go_ret
  exact ⟨rfl, HB.out⟩
theorem rsame_no2 (k ep n l n' l' : Int) (D D' : List UInt8) (m m' : Nat) (hm : m = D.length) (hm' : m' = D'.length) (A A' : Option Addr) (c c' : Nat) (w : World) (h1 : RB w w.heap.size A D) (h2 : RB w w.heap.size A' D') (h : n ≠ n') :
    Calls Tryz.prog 116 #[.agg #[.int .i64 k, .int .i64 ep, .int .i64 n, .int .i64 l, .slice A m c], .agg #[.int .i64 k, .int .i64 ep, .int .i64 n', .int .i64 l', .slice A' m' c']] w fun e w' => e = .returned (.bool false) ∧ Below w.heap.size w w' := by
  have hb : Below w.heap.size w ((w.alloc (.cells #[.int .i64 k, .int .i64 ep, .int .i64 n, .int .i64 l, .slice A m c] 49)).alloc (.cells #[.int .i64 k, .int .i64 ep, .int .i64 n', .int .i64 l', .slice A' m' c'] 49)) := ((Below.refl _ _).alloc (Nat.le_refl _) _).alloc (by simp) _
  have s1 := aw_str (rb_up7 h1 hb) m c hm
  have s2 := aw_str (rb_up7 h2 hb) m' c' hm'
  have HB := Lib.hid hb
  have e1 : decide (n = n') = false := decide_eq_false h
  have e2 : (n == n') = false := by rw [beq_eq_false_iff_ne]; exact h
  clear h1 h2 hm hm' hb h
  go_enter Tryz.func116, Tryz.ntmps116
  go_wp2
  go_ret
  exact ⟨rfl, HB.out⟩
theorem rsame_no3 (k ep n l l' : Int) (D D' : List UInt8) (m m' : Nat) (hm : m = D.length) (hm' : m' = D'.length) (A A' : Option Addr) (c c' : Nat) (w : World) (h1 : RB w w.heap.size A D) (h2 : RB w w.heap.size A' D') (h : l ≠ l') :
    Calls Tryz.prog 116 #[.agg #[.int .i64 k, .int .i64 ep, .int .i64 n, .int .i64 l, .slice A m c], .agg #[.int .i64 k, .int .i64 ep, .int .i64 n, .int .i64 l', .slice A' m' c']] w fun e w' => e = .returned (.bool false) ∧ Below w.heap.size w w' := by
  have hb : Below w.heap.size w ((w.alloc (.cells #[.int .i64 k, .int .i64 ep, .int .i64 n, .int .i64 l, .slice A m c] 49)).alloc (.cells #[.int .i64 k, .int .i64 ep, .int .i64 n, .int .i64 l', .slice A' m' c'] 49)) := ((Below.refl _ _).alloc (Nat.le_refl _) _).alloc (by simp) _
  have s1 := aw_str (rb_up7 h1 hb) m c hm
  have s2 := aw_str (rb_up7 h2 hb) m' c' hm'
  have HB := Lib.hid hb
  have e1 : decide (l = l') = false := decide_eq_false h
  have e2 : (l == l') = false := by rw [beq_eq_false_iff_ne]; exact h
  clear h1 h2 hm hm' hb h
  go_enter Tryz.func116, Tryz.ntmps116
  go_wp2
  go_ret
  exact ⟨rfl, HB.out⟩
theorem rsame_no4 (k ep n l : Int) (D D' : List UInt8) (m m' : Nat) (hm : m = D.length) (hm' : m' = D'.length) (A A' : Option Addr) (c c' : Nat) (w : World) (h1 : RB w w.heap.size A D) (h2 : RB w w.heap.size A' D') (h : D ≠ D') :
    Calls Tryz.prog 116 #[.agg #[.int .i64 k, .int .i64 ep, .int .i64 n, .int .i64 l, .slice A m c], .agg #[.int .i64 k, .int .i64 ep, .int .i64 n, .int .i64 l, .slice A' m' c']] w fun e w' => e = .returned (.bool false) ∧ Below w.heap.size w w' := by
  have hb : Below w.heap.size w ((w.alloc (.cells #[.int .i64 k, .int .i64 ep, .int .i64 n, .int .i64 l, .slice A m c] 49)).alloc (.cells #[.int .i64 k, .int .i64 ep, .int .i64 n, .int .i64 l, .slice A' m' c'] 49)) := ((Below.refl _ _).alloc (Nat.le_refl _) _).alloc (by simp) _
  have s1 := aw_str (rb_up7 h1 hb) m c hm
  have s2 := aw_str (rb_up7 h2 hb) m' c' hm'
  have HB := Lib.hid hb
  have e1 : decide (D = D') = false := decide_eq_false h
  have e2 : (D == D') = false := by rw [beq_eq_false_iff_ne]; exact h
  clear h1 h2 hm hm' hb h
  go_enter Tryz.func116, Tryz.ntmps116
  go_wp2
  go_ret
  exact ⟨rfl, HB.out⟩
theorem rsame_any (s s' : Sd) (A A' : Option Addr) (c c' : Nat) (w : World) (h1 : RB w w.heap.size A s.data) (h2 : RB w w.heap.size A' s'.data) :
    Calls Tryz.prog 116 #[secV s A c, secV s' A' c'] w fun e w' => e = .returned (.bool (decide (s = s'))) ∧ Below w.heap.size w w' := by
  by_cases he : s = s'
  · subst he
    rw [decide_eq_true rfl]
    exact rsame_yes s A A' c c' w h1 h2
  · rw [decide_eq_false he]
    obtain ⟨k, ep, n, l, D⟩ := s
    obtain ⟨k', ep', n', l', D'⟩ := s'
    by_cases e0 : k = k'
    · subst e0
      by_cases e1 : ep = ep'
      · subst e1
        by_cases e2 : n = n'
        · subst e2
          by_cases e3 : l = l'
          · subst e3
            exact rsame_no4 k ep n l D D' _ _ rfl rfl A A' c c' w h1 h2 fun e => he (by rw [e])
          · exact rsame_no3 k ep n l l' D D' _ _ rfl rfl A A' c c' w h1 h2 e3
        · exact rsame_no2 k ep n l n' l' D D' _ _ rfl rfl A A' c c' w h1 h2 e2
      · exact rsame_no1 k ep n l ep' n' l' D D' _ _ rfl rfl A A' c c' w h1 h2 e1
    · exact rsame_no0 k ep n l k' ep' n' l' D D' _ _ rfl rfl A A' c c' w h1 h2 e0
theorem rall_any (l l' : List Sd) (n n' : Nat) (A A' : Option Addr) (c c' : Nat) (w : World) (hn : n = l.length) (hn' : n' = l'.length) (hl : n ≤ 1000000) (h1 : SL w w.heap.size A l) (h2 : SL w w.heap.size A' l') :
    Calls Tryz.prog 113 #[.slice A n c, .slice A' n' c'] w fun e w' => e = .returned (.bool (decide (l = l'))) ∧ Below w.heap.size w w' := by
  have H1 := Lib.hid h1
  have H2 := Lib.hid h2
  have Hn := Lib.hid hn
  have Hn' := Lib.hid hn'
  have a24 := fun w' => Tryz.aggSec w'
  have s24 := fun w' => Tryz.sizeSec w'
  have y0 := fun w' => Tryz.notTrue w'
  have y1 := fun w' => Tryz.notFalse w'
  by_cases hnn : n = n'
  · subst hnn
    clear h1 h2 hn hn'
    go_enter Tryz.func113, Tryz.ntmps113
    go_wp2
    go_loopw [5] (fun x wr => ∃ i : Nat, i ≤ n ∧ x = .int .i64 (i : Int) ∧ Hid (∀ j (hj : j < l.length) (hj' : j < l'.length), j < i → l[j] = l'[j]) ∧ Hid (Below w.heap.size w wr)) (fun x _ => n - (intOf x).toNat)
    case atStart => exact ⟨0, by omega, rfl, fun j _ _ hj => by omega, Below.refl _ _⟩
    case round =>
      obtain ⟨i, hi, rfl, HJ, hb⟩ := hrel
      by_cases hlt : i < n
      · have hi2 : i < l.length := by have := Hn.out; omega
        have hi3 : i < l'.length := by have := Hn'.out; omega
        obtain ⟨b1, o1, rfl, hb1, hc1⟩ := H1.out (by omega)
        obtain ⟨b2, o2, rfl, hb2, hc2⟩ := H2.out (by omega)
        obtain ⟨dA, dc, r1, k0, k1, k2, k3, k4⟩ := hc1 i hi2
        obtain ⟨dB, db, r2, j0, j1, j2, j3, j4⟩ := hc2 i hi3
        obtain ⟨v, hv⟩ : ∃ v, v = decide (l[i] = l'[i]) := ⟨_, rfl⟩
        have HV := Lib.hid hv
        obtain ⟨kd, hkd⟩ : ∃ x, x = l[i].kind := ⟨_, rfl⟩
        obtain ⟨ep, hep⟩ : ∃ x, x = l[i].epoch := ⟨_, rfl⟩
        obtain ⟨nu, hnu⟩ : ∃ x, x = l[i].number := ⟨_, rfl⟩
        obtain ⟨lf, hlf⟩ : ∃ x, x = l[i].left := ⟨_, rfl⟩
        obtain ⟨dl, hdl⟩ : ∃ x, x = l[i].data.length := ⟨_, rfl⟩
        obtain ⟨kd', hkd'⟩ : ∃ x, x = l'[i].kind := ⟨_, rfl⟩
        obtain ⟨ep', hep'⟩ : ∃ x, x = l'[i].epoch := ⟨_, rfl⟩
        obtain ⟨nu', hnu'⟩ : ∃ x, x = l'[i].number := ⟨_, rfl⟩
        obtain ⟨lf', hlf'⟩ : ∃ x, x = l'[i].left := ⟨_, rfl⟩
        obtain ⟨dl', hdl'⟩ : ∃ x, x = l'[i].data.length := ⟨_, rfl⟩
        have hbo := hb.out
        have HSm : Hid (∀ W, Below w.heap.size w W → Calls Tryz.prog 116 #[.agg #[.int .i64 kd, .int .i64 ep, .int .i64 nu, .int .i64 lf, .slice dA dl dc], .agg #[.int .i64 kd', .int .i64 ep', .int .i64 nu', .int .i64 lf', .slice dB dl' db]] W fun e w' => e = .returned (.bool v) ∧ Below w.heap.size w w') := fun W hW => by
          rw [hkd, hep, hnu, hlf, hdl, hkd', hep', hnu', hlf', hdl', hv]
          exact (rsame_any l[i] l'[i] dA dB dc db W ((r1.below hW).more hW.size) ((r2.below hW).more hW.size)).mono fun e w' hh => ⟨hh.1, chain7 hW hh.2⟩
        have v0 : wr.cell? ⟨b1, o1 + i * 5, none⟩ = some (.int .i64 kd) := by rw [hkd]; exact (hbo.cell (p := ⟨b1, o1 + i * 5, none⟩) hb1).trans k0
        have v1 : wr.cell? ⟨b1, o1 + i * 5 + 1, none⟩ = some (.int .i64 ep) := by rw [hep]; exact (hbo.cell (p := ⟨b1, o1 + i * 5 + 1, none⟩) hb1).trans k1
        have v2 : wr.cell? ⟨b1, o1 + i * 5 + 2, none⟩ = some (.int .i64 nu) := by rw [hnu]; exact (hbo.cell (p := ⟨b1, o1 + i * 5 + 2, none⟩) hb1).trans k2
        have v3 : wr.cell? ⟨b1, o1 + i * 5 + 3, none⟩ = some (.int .i64 lf) := by rw [hlf]; exact (hbo.cell (p := ⟨b1, o1 + i * 5 + 3, none⟩) hb1).trans k3
        have v4 : wr.cell? ⟨b1, o1 + i * 5 + 4, none⟩ = some (.slice dA dl dc) := by rw [hdl]; exact (hbo.cell (p := ⟨b1, o1 + i * 5 + 4, none⟩) hb1).trans k4
        have x0 : wr.cell? ⟨b2, o2 + i * 5, none⟩ = some (.int .i64 kd') := by rw [hkd']; exact (hbo.cell (p := ⟨b2, o2 + i * 5, none⟩) hb2).trans j0
        have x1 : wr.cell? ⟨b2, o2 + i * 5 + 1, none⟩ = some (.int .i64 ep') := by rw [hep']; exact (hbo.cell (p := ⟨b2, o2 + i * 5 + 1, none⟩) hb2).trans j1
        have x2 : wr.cell? ⟨b2, o2 + i * 5 + 2, none⟩ = some (.int .i64 nu') := by rw [hnu']; exact (hbo.cell (p := ⟨b2, o2 + i * 5 + 2, none⟩) hb2).trans j2
        have x3 : wr.cell? ⟨b2, o2 + i * 5 + 3, none⟩ = some (.int .i64 lf') := by rw [hlf']; exact (hbo.cell (p := ⟨b2, o2 + i * 5 + 3, none⟩) hb2).trans j3
        have x4 : wr.cell? ⟨b2, o2 + i * 5 + 4, none⟩ = some (.slice dB dl' db) := by rw [hdl']; exact (hbo.cell (p := ⟨b2, o2 + i * 5 + 4, none⟩) hb2).trans j4
        have d0 : decide ((i : Int) < (n : Int)) = true := decide_eq_true (by omega)
        have d1 : decide (i < n) = true := decide_eq_true hlt
        have hbd : Below w.heap.size w wr.drew := hbo.drew
        clear hc1 hc2 r1 r2 k0 k1 k2 k3 k4 j0 j1 j2 j3 j4 hkd hep hnu hlf hdl hkd' hep' hnu' hlf' hdl' hbo hb1 hb2 hv
        cases v with
        | true =>
          have HE : Hid (l[i] = l'[i]) := by show _ = _; exact of_decide_eq_true HV.out.symm
          go_wp2
          go_region_with (go_at_call 116; (with_reducible refine (HSm.out _ hbd).mono ?_); rintro e w1 ⟨rfl, t1⟩)
          all_goals
            go_wp2
            refine ⟨⟨i + 1, by omega, by go_num, fun j hj hj' hji => by
              rcases Nat.lt_or_ge j i with h3 | h3
              · exact HJ.out j hj hj' h3
              · obtain rfl : j = i := by omega
                exact HE.out, t1⟩, ?_⟩
            simp [intOf]; omega
        | false =>
          have HE : Hid (decide (l = l') = false) := decide_eq_false fun e => by
            have h3 := of_decide_eq_false HV.out.symm
            subst e
            exact h3 rfl
          go_wp2
          go_region_with (go_at_call 116; (with_reducible refine (HSm.out _ hbd).mono ?_); rintro e w1 ⟨rfl, t1⟩)
          all_goals
            go_wp2
            go_ret
            exact ⟨by rw [HE.out]; rfl, t1⟩
      · have d0 : decide ((i : Int) < (n : Int)) = false := decide_eq_false (by omega)
        have d1 : decide (i < n) = false := decide_eq_false hlt
        have HE : Hid (decide (l = l') = true) := decide_eq_true (List.ext_getElem (by have := Hn.out; have := Hn'.out; omega) fun j hj hj' => HJ.out j hj hj' (by have := Hn.out; omega))
        go_wp2
        go_ret
        exact ⟨by rw [HE.out]; rfl, hb.out⟩
  · have HE : Hid (decide (l = l') = false) := decide_eq_false fun e => hnn (by rw [hn, hn', e])
    have d0 : ((n : Int) == (n' : Int)) = false := by rw [beq_eq_false_iff_ne]; omega
    have d1 : ((n : Int) != (n' : Int)) = true := by rw [bne_iff_ne]; omega
    have d2 : (n == n') = false := by rw [beq_eq_false_iff_ne]; exact hnn
    have d3 : decide (n = n') = false := decide_eq_false hnn
    clear h1 h2 hn hn'
    go_enter Tryz.func113, Tryz.ntmps113
    go_wp2
    go_ret
    exact ⟨by rw [HE.out]; rfl, Below.refl _ _⟩
def dataK (l : List Sd) (k : Nat) : List UInt8 := (l.take k).flatMap (·.data)
theorem dataK_succ (l : List Sd) (k : Nat) (hk : k < l.length) : dataK l (k + 1) = dataK l k ++ l[k].data := by
  unfold dataK
  rw [List.take_succ_eq_append_getElem hk, List.flatMap_append]
  simp
theorem dataK_all (l : List Sd) (k : Nat) (hk : l.length ≤ k) : dataK l k = l.flatMap (·.data) := by
  unfold dataK
  rw [List.take_of_length_le hk]
theorem rjoin_own (l : List Sd) (n : Nat) (A : Option Addr) (c : Nat) (w : World) (hn : n = l.length) (hl : n ≤ 1000) (hd : ∀ x ∈ l, x.data.length ≤ 48) (h1 : SL w w.heap.size A l) :
    Calls Tryz.prog 97 #[.slice A n c] w (GivesJo (joinS l) w) := by
  by_cases h0 : n = 0
  · have hl0 : l = [] := List.eq_nil_of_length_eq_zero (by omega)
    have HJ : Hid (joinS l = ([], false)) := by show _ = _; rw [hl0]; rfl
    have d0 : ((n : Int) == 0) = true := by rw [beq_iff_eq]; omega
    have d1 : decide ((n : Int) = 0) = true := decide_eq_true (by omega)
    subst h0
    clear h1 hd hn hl0
    go_enter Tryz.func97, Tryz.ntmps97
    go_wp2
    go_ret2
    rw [HJ.out]
    exact ⟨none, 0, rfl, World.ownsRow_nil _ _ _ _, Below.refl _ _⟩
  · obtain ⟨x, r, hxr⟩ : ∃ x r, l = x :: r := by
      cases l with
      | nil => exact absurd hn (by simpa using h0)
      | cons x r => exact ⟨x, r, rfl⟩
    have H1 := Lib.hid h1
    have Hn := Lib.hid hn
    have Hd := Lib.hid hd
    have HX := Lib.hid hxr
    have a24 := fun w' => Tryz.aggSec w'
    have s24 := fun w' => Tryz.sizeSec w'
    have y0 := fun w' => Tryz.notTrue w'
    have y1 := fun w' => Tryz.notFalse w'
    have d0 : ((n : Int) == 0) = false := by rw [beq_eq_false_iff_ne]; omega
    have d1 : decide ((n : Int) = 0) = false := decide_eq_false (by omega)
    have d2 : (n == 0) = false := by rw [beq_eq_false_iff_ne]; omega
    have d3 : decide (n = 0) = false := decide_eq_false h0
    obtain ⟨b1, o1, rfl, hb1, hc1⟩ := h1 (by omega)
    have HC := Lib.hid hc1
    have HB1 := Lib.hid hb1
    clear h1 hd hn hxr hc1 hb1
    go_enter Tryz.func97, Tryz.ntmps97
    go_wp2
    go_loopw [4, 5] (fun v i wr => ∃ (k q : Nat) (A' : Option Addr) (c' : Nat), k ≤ n ∧ q ≤ 48 * k ∧ v = .slice A' q c' ∧ i = .int .i64 (k : Int) ∧ Hid (q = (dataK l k).length) ∧ Hid (wr.ownsRow w.heap.size 5 1 (.slice A' q c') q (cells (dataK l k)) ∧ Below w.heap.size w wr)) (fun _ i _ => n - (intOf i).toNat)
    case atStart => exact ⟨0, 0, none, 0, by omega, by omega, rfl, rfl, rfl, World.ownsRow_nil _ _ _ _, Below.refl _ _⟩
    case round =>
      obtain ⟨k, q, A', c', hk, hq, rfl, rfl, HQ, HW⟩ := hrel
      by_cases hlt : k < n
      · have hk2 : k < l.length := by have := Hn.out; omega
        obtain ⟨dA, dc, r1, k0, k1, k2, k3, k4⟩ := HC.out k hk2
        have v4 : wr.cell? ⟨b1, o1 + k * 5 + 4, none⟩ = some (.slice dA l[k].data.length dc) := (HW.out.2.cell (p := ⟨b1, o1 + k * 5 + 4, none⟩) HB1.out).trans k4
        have rb := r1.below HW.out.2
        have h48 := Hd.out l[k] (List.getElem_mem hk2)
        have HL := Lib.hid (dataK_succ l k hk2)
        generalize l[k].data = D at v4 rb h48 HL
        obtain ⟨m, hm⟩ : ∃ m, m = D.length := ⟨_, rfl⟩
        have HM := Lib.hid hm
        rw [← hm] at v4
        have hm48 : m ≤ 48 := by omega
        have e0 : decide ((k : Int) < (n : Int)) = true := decide_eq_true (by omega)
        have e1 : decide (k < n) = true := decide_eq_true hlt
        clear r1 k0 k1 k2 k3 k4 h48 hm
        go_wp2_with (at_builtin; refine append_rb rfl (.tmp 17) (.tmp 22) rfl rfl HW.out.1 HW.out.2 (Nat.le_refl _) rfl rb HM.out (by omega) rfl ?_; intro A4 c4 w4 o4 b4)
        go_roundw
        case rel => exact ⟨k + 1, q + m, A4, c4, by omega, by omega, rfl, by go_num, by show _ = _; rw [HL.out, List.length_append, ← HQ.out, HM.out], by rw [HL.out]; exact o4, b4⟩
        case measure => simp [intOf]; omega
      · have hall : dataK l k = l.flatMap (·.data) := dataK_all l k (by have := Hn.out; omega)
        rw [hall] at HQ HW
        obtain ⟨T, hT⟩ : ∃ T, T = l.flatMap (·.data) := ⟨_, rfl⟩
        rw [← hT] at HQ HW
        have e0 : decide ((k : Int) < (n : Int)) = false := decide_eq_false (by omega)
        have e1 : decide (k < n) = false := decide_eq_false hlt
        have hq8 : q ≤ 48000 := by omega
        have h0l : 0 < l.length := by have := Hn.out; omega
        obtain ⟨dA, dc, r1, k0, k1, k2, k3, k4⟩ := HC.out 0 h0l
        have hb := HW.out.2
        have v0 : wr.cell? ⟨b1, o1, none⟩ = some (.int .i64 l[0].kind) := (hb.cell (p := ⟨b1, o1, none⟩) HB1.out).trans (by simpa using k0)
        have v1 : wr.cell? ⟨b1, o1 + 1, none⟩ = some (.int .i64 l[0].epoch) := (hb.cell (p := ⟨b1, o1 + 1, none⟩) HB1.out).trans (by simpa using k1)
        have v2 : wr.cell? ⟨b1, o1 + 2, none⟩ = some (.int .i64 l[0].number) := (hb.cell (p := ⟨b1, o1 + 2, none⟩) HB1.out).trans (by simpa using k2)
        have v3 : wr.cell? ⟨b1, o1 + 3, none⟩ = some (.int .i64 l[0].left) := (hb.cell (p := ⟨b1, o1 + 3, none⟩) HB1.out).trans (by simpa using k3)
        have v4 : wr.cell? ⟨b1, o1 + 4, none⟩ = some (.slice dA l[0].data.length dc) := (hb.cell (p := ⟨b1, o1 + 4, none⟩) HB1.out).trans (by simpa using k4)
        have hx0 : l[0] = x := by simp [HX.out]
        rw [hx0] at v0 v1 v2 v3 v4
        have hT2 : T = (x :: r).flatMap (·.data) := by rw [hT, HX.out]
        obtain ⟨X, G, hXG⟩ : ∃ X G, splitS x T = (X, G) := ⟨_, _, rfl⟩
        have HJ : Hid (joinS l = if X = l ∧ G = 0 then (T, true) else ([], false)) := by
          show _ = _
          rw [HX.out]
          unfold joinS
          simp only []
          rw [← hT2, hXG]
          by_cases h5 : X = x :: r ∧ G = 0
          · rw [if_pos h5, if_pos (by rw [h5.1, h5.2])]
          · rw [if_neg h5, if_neg (fun e => h5 (by simpa using e))]
        obtain ⟨xl, hxl⟩ : ∃ m, m = X.length := ⟨_, rfl⟩
        have HS : Hid (Calls Tryz.prog 61 #[.agg #[.int .i64 x.kind, .int .i64 x.epoch, .int .i64 x.number, .int .i64 x.left, .slice dA x.data.length dc], .slice A' q c'] wr fun e w' => ∃ B d, e = .returned (.tuple #[.slice B xl d, .int .i64 G]) ∧ Hid (SL w' w'.heap.size B X) ∧ Below wr.heap.size wr w') := by
          have ho : Own wr w.heap.size A' T c' := by
            have := HW.out.1
            rw [HQ.out] at this
            exact this
          have hc7 := own_cap7 ho
          have hs := rsplit_any x dA dc T A' c' wr (by rw [← HQ.out]; omega) hc7.1 hc7.2.1 hc7.2.2
          rw [hXG, ← HQ.out] at hs
          rw [hxl]
          exact hs
        have HA : Hid (∀ W B d, SL W W.heap.size B X → Below w.heap.size w W → Calls Tryz.prog 113 #[.slice B xl d, .slice (some ⟨b1, o1, none⟩) n c] W fun e w' => e = .returned (.bool (decide (X = l))) ∧ Below W.heap.size W w') := fun W B d hs hbw => rall_any X l xl n B _ d c W hxl Hn.out (by
          rw [hxl]
          have := split_len x T
          rw [hXG] at this
          have h6 : needN T.length = (T.length + 47) / 48 := rfl
          have h7 := HQ.out
          have h8 : X.length ≤ needN T.length := this.1
          omega) hs (H1.out.up hbw)
        obtain ⟨v, hv⟩ : ∃ v, v = decide (X = l) := ⟨_, rfl⟩
        rw [← hv] at HA
        have HV := Lib.hid hv
        obtain ⟨wo, rfl⟩ : ∃ wo : World, wo = wr := ⟨_, rfl⟩
        generalize x.kind = kd at v0 HS
        generalize x.epoch = ep at v1 HS
        generalize x.number = nu at v2 HS
        generalize x.left = lf at v3 HS
        generalize x.data.length = dl at v4 HS
        clear r1 k0 k1 k2 k3 k4 hxl hv hXG hT2 hT hx0 hb HX hall
        by_cases hG : G = 0
        · subst hG
          cases v with
          | true =>
            have HR : Hid (joinS l = (T, true)) := by show _ = _; rw [HJ.out, if_pos ⟨of_decide_eq_true HV.out.symm, rfl⟩]
            go_wp2_with (first
              | (go_at_call 61; (with_reducible refine HS.out.mono ?_); rintro e w5 ⟨B5, d5, rfl, s5, b5⟩; have bb5 := chain7 HW.out.2 b5)
              | (go_at_call 113; (with_reducible refine (HA.out _ _ _ s5.out bb5).mono ?_); rintro e w6 ⟨rfl, b6⟩))
            go_ret2
            rw [HR.out]
            refine ⟨A', c', by rw [← HQ.out]; rfl, ?_, chain7 bb5 b6⟩
            have ho : Own wo w.heap.size A' T c' := by
              have := HW.out.1
              rw [HQ.out] at this
              exact this
            exact own_kept (own_kept ho b5) b6
          | false =>
            have HR : Hid (joinS l = ([], false)) := by show _ = _; rw [HJ.out, if_neg fun e => of_decide_eq_false HV.out.symm e.1]
            go_wp2_with (first
              | (go_at_call 61; (with_reducible refine HS.out.mono ?_); rintro e w5 ⟨B5, d5, rfl, s5, b5⟩; have bb5 := chain7 HW.out.2 b5)
              | (go_at_call 113; (with_reducible refine (HA.out _ _ _ s5.out bb5).mono ?_); rintro e w6 ⟨rfl, b6⟩))
            go_ret2
            rw [HR.out]
            exact ⟨none, 0, rfl, World.ownsRow_nil _ _ _ _, chain7 bb5 b6⟩
        · have HR : Hid (joinS l = ([], false)) := by show _ = _; rw [HJ.out, if_neg fun e => hG e.2]
          have g0 : (G == 0) = false := by rw [beq_eq_false_iff_ne]; exact hG
          have g1 : (G != 0) = true := by rw [bne_iff_ne]; exact hG
          have g2 : decide (G = 0) = false := decide_eq_false hG
          go_wp2_with (first
            | (go_at_call 61; (with_reducible refine HS.out.mono ?_); rintro e w5 ⟨B5, d5, rfl, s5, b5⟩; have bb5 := chain7 HW.out.2 b5))
          go_ret2
          rw [HR.out]
          exact ⟨none, 0, rfl, World.ownsRow_nil _ _ _ _, bb5⟩
end
section
open Go.RowKit
open Wal
theorem drewN_below13 (w : World) (n : Nat) : Below w.heap.size w (w.drewN n) := ⟨rfl, rfl, rfl, Nat.le_refl _, fun _ _ => rfl⟩
theorem write_load13 (d : Dk) (i : Int) (L : List UInt8) : (d.write i L).1.load ≤ d.load + 2 := by
  have h := fun (D : Dk) => (show (Dk.deed D).1.load = D.load by
    unfold Dk.deed
    split
    · rfl
    · split
      · rfl
      · rfl)
  unfold Dk.write
  split
  · exact Nat.le_add_right _ _
  split
  · exact Nat.le_add_right _ _
  split
  · exact Nat.le_add_right _ _
  have h1 := h { d with waits := d.waits ++ [(i.toNat, L)] }
  have h2 : ({ d with waits := d.waits ++ [(i.toNat, L)] } : Dk).load = d.load + 1 := by unfold Dk.load; simp; omega
  split
  · rename_i e he
    rw [he] at h1
    show e.load ≤ _
    have h' : e.load = _ := h1
    omega
  · rename_i e he
    rw [he] at h1
    have h' : e.load = _ := h1
    show e.reads + (e.writes + 1) + e.flushes + e.waits.length ≤ _
    unfold Dk.load at h' h2 ⊢
    omega
theorem rused_any (lg m : Nat) (A : Option Addr) (c : Nat) (W : World) (hm : m ≤ 1000000) (h : W.cell? ⟨lg, 4, none⟩ = some (.slice A m c)) : Calls Tryz.prog 30 #[.pointer (some ⟨lg, 0, none⟩)] W fun e w' => e = .returned (.int .i64 ((m / 64 : Nat) : Int)) ∧ W = w' := by
  obtain ⟨u, hu⟩ : ∃ u, u = m / 64 := ⟨_, rfl⟩
  rw [← hu]
  have y0 : (m : Int).tdiv 64 = (u : Int) := by rw [Int.tdiv_eq_ediv_of_nonneg (by omega), hu]; omega
  have y1 : IntKind.i64.wrap (u : Int) = (u : Int) := IntWalk.i64_in _ (by omega)
  clear hu
  go_enter Tryz.func30, Tryz.ntmps30
  go_wp2
  go_ret
  exact ⟨rfl, rfl⟩
theorem rappend_gone {w : World} {lg q : Nat} {G B : Nat → Prop} {d : Dk} {l : Lg} {A : Option Addr} {c : Nat} (h : RDisk w q G B d) (hL : RLogA w lg q G B l A c) (t : List UInt8) (n : Nat) (T : Option Addr) (cT : Nat) (hg : l.gone = true) :
    Calls Tryz.prog 31 #[.pointer (some ⟨lg, 0, none⟩), .slice T n cT] w fun e w' => e = .returned (.int .i64 (appendW d l t).2.2) ∧ LDeeds (appendW d l t).1 (appendW d l t).2.1 G B w w' q lg A := by
  have HV : Hid (appendW d l t = (d, l, 8)) := by show _ = _; unfold appendW; rw [if_pos hg]
  have HP : Hid (LDeeds d l G B w w q lg A) := ldeeds_same h hL (Turns.refl _ _) (fun _ h => .inl h)
  have r5 := hL.r5
  rw [hg] at r5
  clear h hL
  go_enter Tryz.func31, Tryz.ntmps31
  go_wp2
  go_ret
  rw [HV.out]
  exact ⟨rfl, HP.out⟩
theorem rappend_none {w : World} {lg q : Nat} {G B : Nat → Prop} {d : Dk} {l : Lg} {A : Option Addr} {c : Nat} (h : RDisk w q G B d) (hL : RLogA w lg q G B l A c) (t : List UInt8) (n : Nat) (T : Option Addr) (cT : Nat) (hn : n = t.length) (hg : l.gone = false) (h0 : n = 0) :
    Calls Tryz.prog 31 #[.pointer (some ⟨lg, 0, none⟩), .slice T n cT] w fun e w' => e = .returned (.int .i64 (appendW d l t).2.2) ∧ LDeeds (appendW d l t).1 (appendW d l t).2.1 G B w w' q lg A := by
  have HV : Hid (appendW d l t = (d, l, 1)) := by show _ = _; unfold appendW; rw [if_neg (by rw [hg]; simp), if_pos (by rw [← hn, h0]; rfl)]
  have HP : Hid (LDeeds d l G B w w q lg A) := ldeeds_same h hL (Turns.refl _ _) (fun _ h => .inl h)
  subst h0
  have HN : Hid (∀ W, Calls Tryz.prog 60 #[.int .i64 0] W fun e w' => e = .returned (.int .i64 0) ∧ W = w') := fun W => rneed_any 0 (by omega) W
  have r5 := hL.r5
  rw [hg] at r5
  clear h hL hn
  go_enter Tryz.func31, Tryz.ntmps31
  go_wp2_with (go_at_call 60; (with_reducible refine (HN.out _).mono ?_); rintro e w1 ⟨rfl, rfl⟩)
  go_ret
  rw [HV.out]
  exact ⟨rfl, HP.out⟩
theorem rappend_full {w : World} {lg q : Nat} {G B : Nat → Prop} {d : Dk} {l : Lg} {A : Option Addr} {c : Nat} (h : RDisk w q G B d) (hL : RLogA w lg q G B l A c) (t : List UInt8) (n : Nat) (T : Option Addr) (cT : Nat) (hn : n = t.length) (hl : n ≤ 100000) (hg : l.gone = false) (h0 : n ≠ 0) (hu : l.b.length ≤ 64 * l.n) (hN : l.n ≤ 1000) (hf : l.n - used l < needN t.length) :
    Calls Tryz.prog 31 #[.pointer (some ⟨lg, 0, none⟩), .slice T n cT] w fun e w' => e = .returned (.int .i64 (appendW d l t).2.2) ∧ LDeeds (appendW d l t).1 (appendW d l t).2.1 G B w w' q lg A := by
  obtain ⟨N, hNe⟩ : ∃ N, N = needN n := ⟨_, rfl⟩
  have hN2 : N = (n + 47) / 48 := hNe
  have hN3 : N = needN t.length := by rw [hNe, hn]
  have HV : Hid (appendW d l t = (d, l, 2)) := by show _ = _; unfold appendW; rw [if_neg (by rw [hg]; simp), if_neg (by omega), if_pos hf]
  have HP : Hid (∀ j, LDeeds d l G B w (w.drewN j) q lg A) := fun j => ldeeds_same (h.below (drewN_below13 w j)) (hL.turns (Turns.of_below (drewN_below13 w j) G) (fun _ h => .inl h)) (Turns.of_below (drewN_below13 w j) G) (fun _ h => .inl h)
  have HN : Hid (∀ W, Calls Tryz.prog 60 #[.int .i64 (n : Int)] W fun e w' => e = .returned (.int .i64 (N : Int)) ∧ W = w') := fun W => by rw [hNe]; exact rneed_any n (by omega) W
  have r5 := hL.r5
  have r4 := hL.r4
  have r2 := hL.r2
  rw [hg] at r5
  obtain ⟨u, hue⟩ : ∃ u, u = l.b.length / 64 := ⟨_, rfl⟩
  have hus : used l = u := hue.symm
  rw [hus] at hf
  have HU : Hid (∀ j, Calls Tryz.prog 30 #[.pointer (some ⟨lg, 0, none⟩)] (w.drewN j) fun e w'' => e = .returned (.int .i64 (u : Int)) ∧ ∃ m, w'' = w.drewN m) := fun j => Calls.quiet_of_same (by rw [hue]; exact (rused_any lg l.b.length A c (w.drewN j) (by omega) r4).mono fun _ _ h => ⟨h.1, h.2.symm⟩)
  obtain ⟨x, hx⟩ : ∃ x, x = l.n - u := ⟨_, rfl⟩
  have y0 : IntKind.i64.wrap ((l.n : Int) - (u : Int)) = (x : Int) := by rw [IntWalk.i64_in _ (by omega)]; omega
  have d0 : ((N : Int) == 0) = false := by rw [beq_eq_false_iff_ne]; omega
  have d1 : decide ((N : Int) = 0) = false := decide_eq_false (by omega)
  have d2 : decide (N = 0) = false := decide_eq_false (by omega)
  have d3 : decide ((N : Int) > (x : Int)) = true := decide_eq_true (by omega)
  have d4 : decide ((x : Int) < (N : Int)) = true := decide_eq_true (by omega)
  have d5 : decide (x < N) = true := decide_eq_true (by omega)
  clear h hL hn hl hg h0 hu hN hf hNe hN2 hN3 hue hus hx
  go_enter Tryz.func31, Tryz.ntmps31
  go_wp2_with (go_at_call 60; (with_reducible refine (HN.out _).mono ?_); rintro e w1 ⟨rfl, rfl⟩)
  go_quiet (with_reducible exact HU.out _)
  go_wp2
  go_ret
  rw [HV.out]
  exact ⟨rfl, HP.out _⟩
end
section
open Go.RowKit
theorem RD.moreB {w : World} {g : Nat} {G B : Nat → Prop} {d : Dk} {s cs : Nat} {V : Value} {hs hv : List Value} (h : RD w g G B d s cs V hs hv) (q : Nat) (h1 : q < w.heap.size) (h2 : ¬ G q) : RD w g G (fun k => B k ∨ k = q) d s cs V hs hv :=
  ⟨h.blk, h.safe, h.hsafe.wide (fun _ h => .inl h), h.wait, h.hwait.wide (fun _ h => .inl h), h.gg, h.gs, h.gv, h.glt, fun k hk => by
    rcases hk with hk | hk
    · exact h.blt k hk
    · omega, fun k hk hb => by
    rcases hb with hb | hb
    · exact h.gb k hk hb
    · exact h2 (hb ▸ hk), h.good⟩
def cr (d : Dk) (masks : List Int) (i : Nat) : Dk := { d with safe := Dk.crashed masks d.safe (d.waits.take i) 0 }
theorem cr_yes (d : Dk) (masks : List Int) (i : Nat) (hi : i < d.waits.length) (hm : i < masks.length) : cr d masks (i + 1) = { cr d masks i with safe := (cr d masks i).safe.set (d.waits[i]).1 (Dk.torn ((cr d masks i).safe.getD (d.waits[i]).1 []) (d.waits[i]).2 (masks.getD i 0)) } := by
  unfold cr
  rw [List.take_succ_eq_append_getElem hi, Dk.crashed_snoc, List.length_take, Nat.zero_add, Nat.min_eq_left (by omega)]
  unfold Dk.tear
  rw [if_pos hm]
theorem cr_no (d : Dk) (masks : List Int) (i : Nat) (hi : i < d.waits.length) (hm : ¬ i < masks.length) : cr d masks (i + 1) = cr d masks i := by
  unfold cr
  rw [List.take_succ_eq_append_getElem hi, Dk.crashed_snoc, List.length_take, Nat.zero_add, Nat.min_eq_left (by omega)]
  unfold Dk.tear
  rw [if_neg hm]
theorem RD.on {w : World} {g : Nat} {G B : Nat → Prop} {d : Dk} {s cs : Nat} {V : Value} {hs hv : List Value} (h : RD w g G B d s cs V hs hv) :
    RD (((w.setCell ⟨g, 1, none⟩ (.slice none 0 0)).setCell ⟨g, 3, none⟩ (.bool false)).setCell ⟨g, 2, none⟩ (.int .i64 (-1))) g G B { d with waits := [], off := false, left := -1 } s cs (.slice none 0 0) hs [] := by
  have h1 := h.nothing
  have ht := (turns_own (w.setCell ⟨g, 1, none⟩ (.slice none 0 0)) g 3 (.bool false)).trans (turns_own _ g 2 (.int .i64 (-1)))
  exact h1.retell ht rfl rfl ⟨Int.le_refl _, by show (-1 : Int) ≤ _; omega⟩ ((h1.blk.set_ 3 (.bool false)).set_ 2 (.int .i64 (-1)))
theorem rcrash_any {w : World} {g : Nat} {G B : Nat → Prop} {d : Dk} (h : RDisk w g G B d) (masks : List Int) (A : Option Addr) (mn c2 : Nat) (hmn : mn = masks.length) (hM : RI w w.heap.size A masks) (hMF : 0 < masks.length → ∀ ad, A = some ad → ¬ G ad.block) (hl : d.load ≤ 100000) :
    Calls Tryz.prog 35 #[.pointer (some ⟨g, 0, none⟩), .slice A mn c2] w fun e w' => e = .returned (.tuple #[]) ∧ RDeeds (d.crash masks) G B w w' g := by
  obtain ⟨s, cs, V, hs, hv, hP⟩ := h
  obtain ⟨A1, c, rfl, hc1, hc2⟩ := hP.vform
  obtain ⟨m, hm⟩ : ∃ m, m = d.waits.length := ⟨_, rfl⟩
  rw [← hm] at hc1
  have hm2 : m ≤ 100000 := by unfold Dk.load at hl; omega
  have Hm := Lib.hid hm
  have HP := Lib.hid hP
  have HM := Lib.hid hM
  have HMF := Lib.hid hMF
  have Hmn := Lib.hid hmn
  clear hP hm hM hMF hmn hl
  go_enter Tryz.func35, Tryz.ntmps35
  go_wp2
  go_loopw [4] (fun x wr => ∃ i : Nat, i ≤ m ∧ x = .int .i64 (i : Int) ∧ ∃ B' hs', Hid (RD wr g G B' (cr d masks i) s cs (.slice A1 d.waits.length c) hs' hv) ∧ Hid (Turns w wr G G) ∧ Hid (∀ k, B' k → B k ∨ w.heap.size ≤ k)) (fun x _ => m - (intOf x).toNat)
  case atStart => exact ⟨0, by omega, rfl, B, hs, by show RD _ _ _ _ _ _ _ _ _ _; unfold cr; rw [List.take_zero]; exact HP.out, Turns.refl _ _, fun _ h => .inl h⟩
  case round =>
    obtain ⟨i, hi, rfl, B', hs', HR, HT, HB⟩ := hrel
    have r1 : wr.cell? ⟨g, 1, none⟩ = some (.slice A1 m c) := by rw [Hm.out]; exact HR.out.r1
    have u0 : (0 : Int) ≤ (i : Int) := by omega
    by_cases hlt : i < m
    · obtain ⟨gv, cv, hV, hvs, hvg, hvG, hm1, hm2, hcell⟩ := HR.out.row (show 0 < d.waits.length by have := Hm.out; omega)
      obtain ⟨rfl, rfl⟩ : A1 = some ⟨gv, 0, none⟩ ∧ c = cv := by
        simp only [Value.slice.injEq] at hV
        exact ⟨hV.1, hV.2.2⟩
      have hi2 : i < d.waits.length := by have := Hm.out; omega
      obtain ⟨c1, v, c2', hh⟩ := hcell i hi2
      have Hh := Lib.hid hh
      obtain ⟨-, b1, o1, cc1, rfl, -⟩ := hh
      obtain ⟨xn, hxn⟩ : ∃ xn, xn = (d.waits[i]).1 := ⟨_, rfl⟩
      have c1' : wr.cell? ⟨gv, i * 2, none⟩ = some (.int .i64 (xn : Int)) := by rw [hxn]; exact c1
      have u1 : (i : Int) < (m : Int) := by omega
      clear c1 hcell hV
      by_cases hik : i < mn
      · have v0 : (i : Int) < (mn : Int) := by omega
        have hik2 : i < masks.length := by have := Hmn.out; omega
        obtain ⟨mb, mo, rfl, hmb, hmc⟩ := HM.out (by omega)
        obtain ⟨mk, hmk⟩ : ∃ mk, mk = masks.getD i 0 := ⟨_, rfl⟩
        have hxs : xn < (cr d masks i).safe.length := by
          rw [hxn]
          show _ < (Dk.crashed masks d.safe _ 0).length
          rw [Dk.crashed_length]
          exact (HP.out.good.fit.2 _ (List.getElem_mem hi2)).1
        obtain ⟨vs, -, hs1, hs2⟩ := HR.out.at_ hxs
        obtain ⟨hsl, bs, os, ccs, rfl, hc1s, -, -, hsR⟩ := hs2
        have hh3 := Hh.out
        obtain ⟨hwl, b1', o1', cc1', he1, hc1w, -, -, hwR⟩ := hh3
        simp only [Value.slice.injEq, Option.some.injEq, Addr.mk.injEq, and_true, true_and] at he1
        obtain ⟨⟨rfl, rfl⟩, rfl⟩ := he1
        have htl : (Dk.torn ((cr d masks i).safe[xn]'hxs) (d.waits[i]).2 mk).length = 256 := Dk.torn_length _ _ _ hsl hwl
        obtain ⟨n, hn⟩ : ∃ n, n = (cr d masks i).safe.length := ⟨_, rfl⟩
        have hxn1024 : n ≤ 1024 := by rw [hn]; exact HR.out.good.many
        have u2 : (0 : Int) ≤ (xn : Int) := by omega
        have u3 : (xn : Int) < (n : Int) := by omega
        obtain ⟨W, hW⟩ : ∃ W, W = wr.alloc (.cells #[.int .i64 (xn : Int), .slice (some ⟨b1, o1, none⟩) 256 cc1] 109) := ⟨_, rfl⟩
        obtain ⟨g5, hg5⟩ : ∃ g5, g5 = wr.heap.size := ⟨_, rfl⟩
        have hbW : Below wr.heap.size wr W := by rw [hW]; exact (Below.refl _ _).alloc (Nat.le_refl _) _
        have kW : Blk W g5 109 #[.int .i64 (xn : Int), .slice (some ⟨b1, o1, none⟩) 256 cc1] := by rw [hW, hg5]; exact Blk.new _ _ _
        have hwS := (HT.out.below (B := 0) (fun _ _ => Nat.zero_le _) (Nat.zero_le _)).size
        have mkc : wr.cell? ⟨mb, mo + i, none⟩ = some (.int .i64 mk) := by
          rw [HT.out.cell (p := ⟨mb, mo + i, none⟩) hmb (fun hg' => HMF.out (by omega) _ rfl hg'), hmc i hik2, hmk]
          simp [List.getD, hik2]
        have HS7 : Hid (∀ w7, Below W.heap.size W w7 → w7.cell? ⟨g, 0, none⟩ = some (.slice (some ⟨s, 0, none⟩) n cs) ∧ w7.cell? ⟨g5, 0, none⟩ = some (.int .i64 (xn : Int)) ∧ w7.cell? ⟨g5, 1, none⟩ = some (.slice (some ⟨b1, o1, none⟩) 256 cc1) ∧ w7.cell? ⟨s, xn, none⟩ = some (.slice (some ⟨bs, os, none⟩) 256 ccs) ∧ w7.cell? ⟨mb, mo + i, none⟩ = some (.int .i64 mk)) := fun w7 hb7 => by
          have hbb := hbW.trans (hb7.mono hbW.size)
          refine ⟨by rw [hn]; exact (HR.out.under hbb).r0, ?_, ?_, ?_, ?_⟩
          · rw [(kW.below hb7 kW.lt).cell]; rfl
          · rw [(kW.below hb7 kW.lt).cell]; rfl
          · rw [hbb.cell (p := ⟨s, xn, none⟩) (HR.out.glt s HR.out.gs)]; exact hs1
          · rw [hbb.cell (p := ⟨mb, mo + i, none⟩) (by show mb < wr.heap.size; omega)]; exact mkc
        have hS := HS7.out W.drew (Below.refl _ _).drew
        have HTn : Hid (Calls Tryz.prog 64 #[.slice (some ⟨bs, os, none⟩) 256 ccs, .slice (some ⟨b1, o1, none⟩) 256 cc1, .int .i64 mk] W.drew fun e w' => (∃ q c, e = .returned (.slice (some ⟨q, 0, none⟩) 256 c) ∧ 256 ≤ c ∧ c ≤ 9223372036854775807 ∧ W.heap.size ≤ q ∧ RB w' w'.heap.size (some ⟨q, 0, none⟩) (Dk.torn ((cr d masks i).safe[xn]'hxs) (d.waits[i]).2 mk)) ∧ Below W.heap.size W w') := by
          refine (torn_any _ _ bs os ccs b1 o1 cc1 mk W.drew ((hsR.below hbW).more hbW.size) ((hwR.below hbW).more hbW.size) hsl hwl hc1s hc1w).mono ?_
          rintro e w' ⟨h1, h2⟩
          exact ⟨h1, h2.os, h2.tape, h2.output, h2.size, h2.block⟩
        have HPut : Hid (∀ w7 q cq, Below W.heap.size W w7 → 256 ≤ cq → cq ≤ 9223372036854775807 → W.heap.size ≤ q → RB w7 w7.heap.size (some ⟨q, 0, none⟩) (Dk.torn ((cr d masks i).safe[xn]'hxs) (d.waits[i]).2 mk) →
            Hid (RD (w7.setCell ⟨s, xn, none⟩ (.slice (some ⟨q, 0, none⟩) 256 cq)) g G (fun k => B' k ∨ k = q) (cr d masks (i + 1)) s cs (.slice (some ⟨gv, 0, none⟩) d.waits.length c) (hs'.set xn (.slice (some ⟨q, 0, none⟩) 256 cq)) hv) ∧ Hid (Turns w (w7.setCell ⟨s, xn, none⟩ (.slice (some ⟨q, 0, none⟩) 256 cq)) G G) ∧ Hid (∀ k, (B' k ∨ k = q) → B k ∨ w.heap.size ≤ k) ∧ w7.frozen? ⟨s, xn, none⟩ = false) := fun w7 q cq hb7 h1 h2 h3 h4 => by
          have hbb := hbW.trans (hb7.mono hbW.size)
          have hR7 := HR.out.under hbb
          have hq7 : q < w7.heap.size := by
            have := (h4.at_ (by rw [htl]; omega))
            obtain ⟨b, off, e, hlt, _⟩ := this
            injection e with e
            simp only [Addr.mk.injEq] at e
            omega
          have hwz := hbW.size
          have hqG : ¬ G q := fun hg' => by have := HR.out.glt q hg'; omega
          have hM := hR7.moreB q hq7 hqG
          have hH : Hdr w7 (fun k => B' k ∨ k = q) (.slice (some ⟨q, 0, none⟩) 256 cq) (Dk.torn ((cr d masks i).safe[xn]'hxs) (d.waits[i]).2 mk) := ⟨htl, q, 0, cq, rfl, h1, h2, .inr rfl, h4⟩
          refine ⟨?_, ?_, ?_, ?_⟩
          · show RD _ _ _ _ _ _ _ _ _ _
            rw [cr_yes d masks i hi2 hik2]
            have := hM.put xn hH
            have e : (cr d masks i).safe.getD (d.waits[i]).1 [] = (cr d masks i).safe[xn]'hxs := by rw [← hxn]; simp [List.getD, hxs]
            rw [e, ← hxn, ← hmk]
            exact this
          · exact (HT.out.trans (Turns.of_below hbb G)).trans (Turns.set_ HP.out.gs xn _)
          · intro k hk
            rcases hk with hk | hk
            · exact HB.out k hk
            · subst hk; exact .inr (by omega)
          · obtain ⟨_, hbk⟩ := (own_lt hR7.safe (k := s) rfl).2
            exact hbk.frozen xn
        have HWq := Lib.hid hW
        have Hg5 := Lib.hid hg5
        clear hmc hmk htl hs1 hsl hsR hwl hwR hn hxn hbW kW hwS mkc hW hg5 hc1s hc1w hmb
        go_wp2
        rw [← HWq.out, ← Hg5.out]
        refine region_T (fun W => W.cell? ⟨g, 0, none⟩ = some (.slice (some ⟨s, 0, none⟩) n cs) ∧ W.cell? ⟨g5, 0, none⟩ = some (.int .i64 (xn : Int)) ∧ W.cell? ⟨g5, 1, none⟩ = some (.slice (some ⟨b1, o1, none⟩) 256 cc1) ∧ W.cell? ⟨s, xn, none⟩ = some (.slice (some ⟨bs, os, none⟩) 256 ccs) ∧ W.cell? ⟨mb, mo + i, none⟩ = some (.int .i64 mk)) (fun k => decide (21 ≤ k)) (by kernel_rfl) ?_
        refine any_asT (a' := ⟨#[.pointer (some ⟨g, 0, none⟩), .slice (some ⟨mb, mo, none⟩) mn c2, undef, undef, .int .i64 (i : Int), .pointer (some ⟨g5, 0, none⟩), .int .i64 (i : Int), .pointer (some ⟨g, 0, none⟩), .pointer (some ⟨g, 0, none⟩), .pointer (some ⟨g, 1, none⟩), .slice (some ⟨gv, 0, none⟩) m c, .int .i64 (m : Int), .bool true, u13, u14, .pointer (some ⟨g, 0, none⟩), .pointer (some ⟨g, 0, none⟩), .pointer (some ⟨g, 1, none⟩), .slice (some ⟨gv, 0, none⟩) m c, .int .i64 (i : Int), .pointer (some ⟨gv, i * 2, none⟩), .agg #[.int .i64 (xn : Int), .slice (some ⟨b1, o1, none⟩) 256 cc1], .int .i64 (i : Int), .slice (some ⟨mb, mo, none⟩) mn c2, .int .i64 (mn : Int), .bool true, u26, u27, u28, u29, u30, u31, u32, u33, u34, u35, u36, u37, u38, u39, u40, u41, u42, u43, u44, u45, u46, u47, undef, undef, undef, undef, undef, undef, undef, undef, undef], []⟩) (by kernel_rfl) (listed' := #[false, false, false, false, false, false, false, false, false, false, false, false, false, false, false, false, false, false, false, false, false, false, false]) (by kernel_rfl) ?_
        refine any_take (i := 0) (.pointer (some ⟨g, 0, none⟩)) rfl (by kernel_rfl) (by kernel_rfl) (by kernel_rfl) rfl (by kernel_rfl) (by kernel_rfl) (fun W hW => by kernel_rfl) hS (listed' := #[true, false, false, false, false, false, false, false, false, false, false, false, false, false, false, false, false, false, false, false, false, false, false]) (a' := ⟨#[.pointer (some ⟨g, 0, none⟩), .slice (some ⟨mb, mo, none⟩) mn c2, undef, undef, .int .i64 (i : Int), .pointer (some ⟨g5, 0, none⟩), .int .i64 (i : Int), .pointer (some ⟨g, 0, none⟩), .pointer (some ⟨g, 0, none⟩), .pointer (some ⟨g, 1, none⟩), .slice (some ⟨gv, 0, none⟩) m c, .int .i64 (m : Int), .bool true, u13, u14, .pointer (some ⟨g, 0, none⟩), .pointer (some ⟨g, 0, none⟩), .pointer (some ⟨g, 1, none⟩), .slice (some ⟨gv, 0, none⟩) m c, .int .i64 (i : Int), .pointer (some ⟨gv, i * 2, none⟩), .agg #[.int .i64 (xn : Int), .slice (some ⟨b1, o1, none⟩) 256 cc1], .int .i64 (i : Int), .slice (some ⟨mb, mo, none⟩) mn c2, .int .i64 (mn : Int), .bool true, .pointer (some ⟨g, 0, none⟩), u27, u28, u29, u30, u31, u32, u33, u34, u35, u36, u37, u38, u39, u40, u41, u42, u43, u44, u45, u46, u47, undef, undef, undef, undef, undef, undef, undef, undef, undef], []⟩) (by kernel_rfl) (by kernel_rfl) (fun _ _ _ h => h) ?_
        refine any_take (i := 1) (.pointer (some ⟨g, 0, none⟩)) rfl (by kernel_rfl) (by kernel_rfl) (by kernel_rfl) rfl (by kernel_rfl) (by kernel_rfl) (fun W hW => by kernel_rfl) hS (listed' := #[true, true, false, false, false, false, false, false, false, false, false, false, false, false, false, false, false, false, false, false, false, false, false]) (a' := ⟨#[.pointer (some ⟨g, 0, none⟩), .slice (some ⟨mb, mo, none⟩) mn c2, undef, undef, .int .i64 (i : Int), .pointer (some ⟨g5, 0, none⟩), .int .i64 (i : Int), .pointer (some ⟨g, 0, none⟩), .pointer (some ⟨g, 0, none⟩), .pointer (some ⟨g, 1, none⟩), .slice (some ⟨gv, 0, none⟩) m c, .int .i64 (m : Int), .bool true, u13, u14, .pointer (some ⟨g, 0, none⟩), .pointer (some ⟨g, 0, none⟩), .pointer (some ⟨g, 1, none⟩), .slice (some ⟨gv, 0, none⟩) m c, .int .i64 (i : Int), .pointer (some ⟨gv, i * 2, none⟩), .agg #[.int .i64 (xn : Int), .slice (some ⟨b1, o1, none⟩) 256 cc1], .int .i64 (i : Int), .slice (some ⟨mb, mo, none⟩) mn c2, .int .i64 (mn : Int), .bool true, .pointer (some ⟨g, 0, none⟩), .pointer (some ⟨g, 0, none⟩), u28, u29, u30, u31, u32, u33, u34, u35, u36, u37, u38, u39, u40, u41, u42, u43, u44, u45, u46, u47, undef, undef, undef, undef, undef, undef, undef, undef, undef], []⟩) (by kernel_rfl) (by kernel_rfl) (fun _ _ _ h => h) ?_
        refine any_take (i := 2) (.pointer (some ⟨g, 0, none⟩)) rfl (by kernel_rfl) (by kernel_rfl) (by kernel_rfl) rfl (by kernel_rfl) (by kernel_rfl) (fun W hW => by kernel_rfl) hS (listed' := #[true, true, true, false, false, false, false, false, false, false, false, false, false, false, false, false, false, false, false, false, false, false, false]) (a' := ⟨#[.pointer (some ⟨g, 0, none⟩), .slice (some ⟨mb, mo, none⟩) mn c2, undef, undef, .int .i64 (i : Int), .pointer (some ⟨g5, 0, none⟩), .int .i64 (i : Int), .pointer (some ⟨g, 0, none⟩), .pointer (some ⟨g, 0, none⟩), .pointer (some ⟨g, 1, none⟩), .slice (some ⟨gv, 0, none⟩) m c, .int .i64 (m : Int), .bool true, u13, u14, .pointer (some ⟨g, 0, none⟩), .pointer (some ⟨g, 0, none⟩), .pointer (some ⟨g, 1, none⟩), .slice (some ⟨gv, 0, none⟩) m c, .int .i64 (i : Int), .pointer (some ⟨gv, i * 2, none⟩), .agg #[.int .i64 (xn : Int), .slice (some ⟨b1, o1, none⟩) 256 cc1], .int .i64 (i : Int), .slice (some ⟨mb, mo, none⟩) mn c2, .int .i64 (mn : Int), .bool true, .pointer (some ⟨g, 0, none⟩), .pointer (some ⟨g, 0, none⟩), .pointer (some ⟨g, 0, none⟩), u29, u30, u31, u32, u33, u34, u35, u36, u37, u38, u39, u40, u41, u42, u43, u44, u45, u46, u47, undef, undef, undef, undef, undef, undef, undef, undef, undef], []⟩) (by kernel_rfl) (by kernel_rfl) (fun _ _ _ h => h) ?_
        refine any_take (i := 3) (.slice (some ⟨s, 0, none⟩) n cs) rfl (by kernel_rfl) (by kernel_rfl) (by kernel_rfl) rfl (by kernel_rfl) (by kernel_rfl) (fun W hW => cell_run 53 (.tmp 28) ⟨g, 0, none⟩ (.slice (some ⟨s, 0, none⟩) n cs) _ (by kernel_rfl) (by kernel_rfl) hW.1 Tryz.underlying53 rfl (by kernel_rfl)) hS (listed' := #[true, true, true, true, false, false, false, false, false, false, false, false, false, false, false, false, false, false, false, false, false, false, false]) (a' := ⟨#[.pointer (some ⟨g, 0, none⟩), .slice (some ⟨mb, mo, none⟩) mn c2, undef, undef, .int .i64 (i : Int), .pointer (some ⟨g5, 0, none⟩), .int .i64 (i : Int), .pointer (some ⟨g, 0, none⟩), .pointer (some ⟨g, 0, none⟩), .pointer (some ⟨g, 1, none⟩), .slice (some ⟨gv, 0, none⟩) m c, .int .i64 (m : Int), .bool true, u13, u14, .pointer (some ⟨g, 0, none⟩), .pointer (some ⟨g, 0, none⟩), .pointer (some ⟨g, 1, none⟩), .slice (some ⟨gv, 0, none⟩) m c, .int .i64 (i : Int), .pointer (some ⟨gv, i * 2, none⟩), .agg #[.int .i64 (xn : Int), .slice (some ⟨b1, o1, none⟩) 256 cc1], .int .i64 (i : Int), .slice (some ⟨mb, mo, none⟩) mn c2, .int .i64 (mn : Int), .bool true, .pointer (some ⟨g, 0, none⟩), .pointer (some ⟨g, 0, none⟩), .pointer (some ⟨g, 0, none⟩), .slice (some ⟨s, 0, none⟩) n cs, u30, u31, u32, u33, u34, u35, u36, u37, u38, u39, u40, u41, u42, u43, u44, u45, u46, u47, undef, undef, undef, undef, undef, undef, undef, undef, undef], []⟩) (by kernel_rfl) (by kernel_rfl) (fun _ _ _ h => h) ?_
        refine any_take (i := 4) (.pointer (some ⟨g5, 0, none⟩)) rfl (by kernel_rfl) (by kernel_rfl) (by kernel_rfl) rfl (by kernel_rfl) (by kernel_rfl) (fun W hW => by kernel_rfl) hS (listed' := #[true, true, true, true, true, false, false, false, false, false, false, false, false, false, false, false, false, false, false, false, false, false, false]) (a' := ⟨#[.pointer (some ⟨g, 0, none⟩), .slice (some ⟨mb, mo, none⟩) mn c2, undef, undef, .int .i64 (i : Int), .pointer (some ⟨g5, 0, none⟩), .int .i64 (i : Int), .pointer (some ⟨g, 0, none⟩), .pointer (some ⟨g, 0, none⟩), .pointer (some ⟨g, 1, none⟩), .slice (some ⟨gv, 0, none⟩) m c, .int .i64 (m : Int), .bool true, u13, u14, .pointer (some ⟨g, 0, none⟩), .pointer (some ⟨g, 0, none⟩), .pointer (some ⟨g, 1, none⟩), .slice (some ⟨gv, 0, none⟩) m c, .int .i64 (i : Int), .pointer (some ⟨gv, i * 2, none⟩), .agg #[.int .i64 (xn : Int), .slice (some ⟨b1, o1, none⟩) 256 cc1], .int .i64 (i : Int), .slice (some ⟨mb, mo, none⟩) mn c2, .int .i64 (mn : Int), .bool true, .pointer (some ⟨g, 0, none⟩), .pointer (some ⟨g, 0, none⟩), .pointer (some ⟨g, 0, none⟩), .slice (some ⟨s, 0, none⟩) n cs, .pointer (some ⟨g5, 0, none⟩), u31, u32, u33, u34, u35, u36, u37, u38, u39, u40, u41, u42, u43, u44, u45, u46, u47, undef, undef, undef, undef, undef, undef, undef, undef, undef], []⟩) (by kernel_rfl) (by kernel_rfl) (fun _ _ _ h => h) ?_
        refine any_take (i := 5) (.int .i64 (xn : Int)) rfl (by kernel_rfl) (by kernel_rfl) (by kernel_rfl) rfl (by kernel_rfl) (by kernel_rfl) (fun W hW => cell_run 3 (.tmp 30) ⟨g5, 0, none⟩ (.int .i64 (xn : Int)) _ (by kernel_rfl) (by kernel_rfl) hW.2.1 Tryz.underlying3 rfl (by kernel_rfl)) hS (listed' := #[true, true, true, true, true, true, false, false, false, false, false, false, false, false, false, false, false, false, false, false, false, false, false]) (a' := ⟨#[.pointer (some ⟨g, 0, none⟩), .slice (some ⟨mb, mo, none⟩) mn c2, undef, undef, .int .i64 (i : Int), .pointer (some ⟨g5, 0, none⟩), .int .i64 (i : Int), .pointer (some ⟨g, 0, none⟩), .pointer (some ⟨g, 0, none⟩), .pointer (some ⟨g, 1, none⟩), .slice (some ⟨gv, 0, none⟩) m c, .int .i64 (m : Int), .bool true, u13, u14, .pointer (some ⟨g, 0, none⟩), .pointer (some ⟨g, 0, none⟩), .pointer (some ⟨g, 1, none⟩), .slice (some ⟨gv, 0, none⟩) m c, .int .i64 (i : Int), .pointer (some ⟨gv, i * 2, none⟩), .agg #[.int .i64 (xn : Int), .slice (some ⟨b1, o1, none⟩) 256 cc1], .int .i64 (i : Int), .slice (some ⟨mb, mo, none⟩) mn c2, .int .i64 (mn : Int), .bool true, .pointer (some ⟨g, 0, none⟩), .pointer (some ⟨g, 0, none⟩), .pointer (some ⟨g, 0, none⟩), .slice (some ⟨s, 0, none⟩) n cs, .pointer (some ⟨g5, 0, none⟩), .int .i64 (xn : Int), u32, u33, u34, u35, u36, u37, u38, u39, u40, u41, u42, u43, u44, u45, u46, u47, undef, undef, undef, undef, undef, undef, undef, undef, undef], []⟩) (by kernel_rfl) (by kernel_rfl) (fun _ _ _ h => h) ?_
        refine any_take (i := 6) (.pointer (some ⟨g, 0, none⟩)) rfl (by kernel_rfl) (by kernel_rfl) (by kernel_rfl) rfl (by kernel_rfl) (by kernel_rfl) (fun W hW => by kernel_rfl) hS (listed' := #[true, true, true, true, true, true, true, false, false, false, false, false, false, false, false, false, false, false, false, false, false, false, false]) (a' := ⟨#[.pointer (some ⟨g, 0, none⟩), .slice (some ⟨mb, mo, none⟩) mn c2, undef, undef, .int .i64 (i : Int), .pointer (some ⟨g5, 0, none⟩), .int .i64 (i : Int), .pointer (some ⟨g, 0, none⟩), .pointer (some ⟨g, 0, none⟩), .pointer (some ⟨g, 1, none⟩), .slice (some ⟨gv, 0, none⟩) m c, .int .i64 (m : Int), .bool true, u13, u14, .pointer (some ⟨g, 0, none⟩), .pointer (some ⟨g, 0, none⟩), .pointer (some ⟨g, 1, none⟩), .slice (some ⟨gv, 0, none⟩) m c, .int .i64 (i : Int), .pointer (some ⟨gv, i * 2, none⟩), .agg #[.int .i64 (xn : Int), .slice (some ⟨b1, o1, none⟩) 256 cc1], .int .i64 (i : Int), .slice (some ⟨mb, mo, none⟩) mn c2, .int .i64 (mn : Int), .bool true, .pointer (some ⟨g, 0, none⟩), .pointer (some ⟨g, 0, none⟩), .pointer (some ⟨g, 0, none⟩), .slice (some ⟨s, 0, none⟩) n cs, .pointer (some ⟨g5, 0, none⟩), .int .i64 (xn : Int), .pointer (some ⟨g, 0, none⟩), u33, u34, u35, u36, u37, u38, u39, u40, u41, u42, u43, u44, u45, u46, u47, undef, undef, undef, undef, undef, undef, undef, undef, undef], []⟩) (by kernel_rfl) (by kernel_rfl) (fun _ _ _ h => h) ?_
        refine any_take (i := 7) (.pointer (some ⟨g, 0, none⟩)) rfl (by kernel_rfl) (by kernel_rfl) (by kernel_rfl) rfl (by kernel_rfl) (by kernel_rfl) (fun W hW => by kernel_rfl) hS (listed' := #[true, true, true, true, true, true, true, true, false, false, false, false, false, false, false, false, false, false, false, false, false, false, false]) (a' := ⟨#[.pointer (some ⟨g, 0, none⟩), .slice (some ⟨mb, mo, none⟩) mn c2, undef, undef, .int .i64 (i : Int), .pointer (some ⟨g5, 0, none⟩), .int .i64 (i : Int), .pointer (some ⟨g, 0, none⟩), .pointer (some ⟨g, 0, none⟩), .pointer (some ⟨g, 1, none⟩), .slice (some ⟨gv, 0, none⟩) m c, .int .i64 (m : Int), .bool true, u13, u14, .pointer (some ⟨g, 0, none⟩), .pointer (some ⟨g, 0, none⟩), .pointer (some ⟨g, 1, none⟩), .slice (some ⟨gv, 0, none⟩) m c, .int .i64 (i : Int), .pointer (some ⟨gv, i * 2, none⟩), .agg #[.int .i64 (xn : Int), .slice (some ⟨b1, o1, none⟩) 256 cc1], .int .i64 (i : Int), .slice (some ⟨mb, mo, none⟩) mn c2, .int .i64 (mn : Int), .bool true, .pointer (some ⟨g, 0, none⟩), .pointer (some ⟨g, 0, none⟩), .pointer (some ⟨g, 0, none⟩), .slice (some ⟨s, 0, none⟩) n cs, .pointer (some ⟨g5, 0, none⟩), .int .i64 (xn : Int), .pointer (some ⟨g, 0, none⟩), .pointer (some ⟨g, 0, none⟩), u34, u35, u36, u37, u38, u39, u40, u41, u42, u43, u44, u45, u46, u47, undef, undef, undef, undef, undef, undef, undef, undef, undef], []⟩) (by kernel_rfl) (by kernel_rfl) (fun _ _ _ h => h) ?_
        refine any_take (i := 8) (.pointer (some ⟨g, 0, none⟩)) rfl (by kernel_rfl) (by kernel_rfl) (by kernel_rfl) rfl (by kernel_rfl) (by kernel_rfl) (fun W hW => by kernel_rfl) hS (listed' := #[true, true, true, true, true, true, true, true, true, false, false, false, false, false, false, false, false, false, false, false, false, false, false]) (a' := ⟨#[.pointer (some ⟨g, 0, none⟩), .slice (some ⟨mb, mo, none⟩) mn c2, undef, undef, .int .i64 (i : Int), .pointer (some ⟨g5, 0, none⟩), .int .i64 (i : Int), .pointer (some ⟨g, 0, none⟩), .pointer (some ⟨g, 0, none⟩), .pointer (some ⟨g, 1, none⟩), .slice (some ⟨gv, 0, none⟩) m c, .int .i64 (m : Int), .bool true, u13, u14, .pointer (some ⟨g, 0, none⟩), .pointer (some ⟨g, 0, none⟩), .pointer (some ⟨g, 1, none⟩), .slice (some ⟨gv, 0, none⟩) m c, .int .i64 (i : Int), .pointer (some ⟨gv, i * 2, none⟩), .agg #[.int .i64 (xn : Int), .slice (some ⟨b1, o1, none⟩) 256 cc1], .int .i64 (i : Int), .slice (some ⟨mb, mo, none⟩) mn c2, .int .i64 (mn : Int), .bool true, .pointer (some ⟨g, 0, none⟩), .pointer (some ⟨g, 0, none⟩), .pointer (some ⟨g, 0, none⟩), .slice (some ⟨s, 0, none⟩) n cs, .pointer (some ⟨g5, 0, none⟩), .int .i64 (xn : Int), .pointer (some ⟨g, 0, none⟩), .pointer (some ⟨g, 0, none⟩), .pointer (some ⟨g, 0, none⟩), u35, u36, u37, u38, u39, u40, u41, u42, u43, u44, u45, u46, u47, undef, undef, undef, undef, undef, undef, undef, undef, undef], []⟩) (by kernel_rfl) (by kernel_rfl) (fun _ _ _ h => h) ?_
        refine any_take (i := 9) (.slice (some ⟨s, 0, none⟩) n cs) rfl (by kernel_rfl) (by kernel_rfl) (by kernel_rfl) rfl (by kernel_rfl) (by kernel_rfl) (fun W hW => cell_run 53 (.tmp 34) ⟨g, 0, none⟩ (.slice (some ⟨s, 0, none⟩) n cs) _ (by kernel_rfl) (by kernel_rfl) hW.1 Tryz.underlying53 rfl (by kernel_rfl)) hS (listed' := #[true, true, true, true, true, true, true, true, true, true, false, false, false, false, false, false, false, false, false, false, false, false, false]) (a' := ⟨#[.pointer (some ⟨g, 0, none⟩), .slice (some ⟨mb, mo, none⟩) mn c2, undef, undef, .int .i64 (i : Int), .pointer (some ⟨g5, 0, none⟩), .int .i64 (i : Int), .pointer (some ⟨g, 0, none⟩), .pointer (some ⟨g, 0, none⟩), .pointer (some ⟨g, 1, none⟩), .slice (some ⟨gv, 0, none⟩) m c, .int .i64 (m : Int), .bool true, u13, u14, .pointer (some ⟨g, 0, none⟩), .pointer (some ⟨g, 0, none⟩), .pointer (some ⟨g, 1, none⟩), .slice (some ⟨gv, 0, none⟩) m c, .int .i64 (i : Int), .pointer (some ⟨gv, i * 2, none⟩), .agg #[.int .i64 (xn : Int), .slice (some ⟨b1, o1, none⟩) 256 cc1], .int .i64 (i : Int), .slice (some ⟨mb, mo, none⟩) mn c2, .int .i64 (mn : Int), .bool true, .pointer (some ⟨g, 0, none⟩), .pointer (some ⟨g, 0, none⟩), .pointer (some ⟨g, 0, none⟩), .slice (some ⟨s, 0, none⟩) n cs, .pointer (some ⟨g5, 0, none⟩), .int .i64 (xn : Int), .pointer (some ⟨g, 0, none⟩), .pointer (some ⟨g, 0, none⟩), .pointer (some ⟨g, 0, none⟩), .slice (some ⟨s, 0, none⟩) n cs, u36, u37, u38, u39, u40, u41, u42, u43, u44, u45, u46, u47, undef, undef, undef, undef, undef, undef, undef, undef, undef], []⟩) (by kernel_rfl) (by kernel_rfl) (fun _ _ _ h => h) ?_
        refine any_take (i := 10) (.pointer (some ⟨g5, 0, none⟩)) rfl (by kernel_rfl) (by kernel_rfl) (by kernel_rfl) rfl (by kernel_rfl) (by kernel_rfl) (fun W hW => by kernel_rfl) hS (listed' := #[true, true, true, true, true, true, true, true, true, true, true, false, false, false, false, false, false, false, false, false, false, false, false]) (a' := ⟨#[.pointer (some ⟨g, 0, none⟩), .slice (some ⟨mb, mo, none⟩) mn c2, undef, undef, .int .i64 (i : Int), .pointer (some ⟨g5, 0, none⟩), .int .i64 (i : Int), .pointer (some ⟨g, 0, none⟩), .pointer (some ⟨g, 0, none⟩), .pointer (some ⟨g, 1, none⟩), .slice (some ⟨gv, 0, none⟩) m c, .int .i64 (m : Int), .bool true, u13, u14, .pointer (some ⟨g, 0, none⟩), .pointer (some ⟨g, 0, none⟩), .pointer (some ⟨g, 1, none⟩), .slice (some ⟨gv, 0, none⟩) m c, .int .i64 (i : Int), .pointer (some ⟨gv, i * 2, none⟩), .agg #[.int .i64 (xn : Int), .slice (some ⟨b1, o1, none⟩) 256 cc1], .int .i64 (i : Int), .slice (some ⟨mb, mo, none⟩) mn c2, .int .i64 (mn : Int), .bool true, .pointer (some ⟨g, 0, none⟩), .pointer (some ⟨g, 0, none⟩), .pointer (some ⟨g, 0, none⟩), .slice (some ⟨s, 0, none⟩) n cs, .pointer (some ⟨g5, 0, none⟩), .int .i64 (xn : Int), .pointer (some ⟨g, 0, none⟩), .pointer (some ⟨g, 0, none⟩), .pointer (some ⟨g, 0, none⟩), .slice (some ⟨s, 0, none⟩) n cs, .pointer (some ⟨g5, 0, none⟩), u37, u38, u39, u40, u41, u42, u43, u44, u45, u46, u47, undef, undef, undef, undef, undef, undef, undef, undef, undef], []⟩) (by kernel_rfl) (by kernel_rfl) (fun _ _ _ h => h) ?_
        refine any_take (i := 11) (.int .i64 (xn : Int)) rfl (by kernel_rfl) (by kernel_rfl) (by kernel_rfl) rfl (by kernel_rfl) (by kernel_rfl) (fun W hW => cell_run 3 (.tmp 36) ⟨g5, 0, none⟩ (.int .i64 (xn : Int)) _ (by kernel_rfl) (by kernel_rfl) hW.2.1 Tryz.underlying3 rfl (by kernel_rfl)) hS (listed' := #[true, true, true, true, true, true, true, true, true, true, true, true, false, false, false, false, false, false, false, false, false, false, false]) (a' := ⟨#[.pointer (some ⟨g, 0, none⟩), .slice (some ⟨mb, mo, none⟩) mn c2, undef, undef, .int .i64 (i : Int), .pointer (some ⟨g5, 0, none⟩), .int .i64 (i : Int), .pointer (some ⟨g, 0, none⟩), .pointer (some ⟨g, 0, none⟩), .pointer (some ⟨g, 1, none⟩), .slice (some ⟨gv, 0, none⟩) m c, .int .i64 (m : Int), .bool true, u13, u14, .pointer (some ⟨g, 0, none⟩), .pointer (some ⟨g, 0, none⟩), .pointer (some ⟨g, 1, none⟩), .slice (some ⟨gv, 0, none⟩) m c, .int .i64 (i : Int), .pointer (some ⟨gv, i * 2, none⟩), .agg #[.int .i64 (xn : Int), .slice (some ⟨b1, o1, none⟩) 256 cc1], .int .i64 (i : Int), .slice (some ⟨mb, mo, none⟩) mn c2, .int .i64 (mn : Int), .bool true, .pointer (some ⟨g, 0, none⟩), .pointer (some ⟨g, 0, none⟩), .pointer (some ⟨g, 0, none⟩), .slice (some ⟨s, 0, none⟩) n cs, .pointer (some ⟨g5, 0, none⟩), .int .i64 (xn : Int), .pointer (some ⟨g, 0, none⟩), .pointer (some ⟨g, 0, none⟩), .pointer (some ⟨g, 0, none⟩), .slice (some ⟨s, 0, none⟩) n cs, .pointer (some ⟨g5, 0, none⟩), .int .i64 (xn : Int), u38, u39, u40, u41, u42, u43, u44, u45, u46, u47, undef, undef, undef, undef, undef, undef, undef, undef, undef], []⟩) (by kernel_rfl) (by kernel_rfl) (fun _ _ _ h => h) ?_
        refine any_take (i := 12) (.pointer (some ⟨s, xn, none⟩)) rfl (by kernel_rfl) (by kernel_rfl) (by kernel_rfl) rfl (by kernel_rfl) (by kernel_rfl) (fun W hW => by go_simp) hS (listed' := #[true, true, true, true, true, true, true, true, true, true, true, true, true, false, false, false, false, false, false, false, false, false, false]) (a' := ⟨#[.pointer (some ⟨g, 0, none⟩), .slice (some ⟨mb, mo, none⟩) mn c2, undef, undef, .int .i64 (i : Int), .pointer (some ⟨g5, 0, none⟩), .int .i64 (i : Int), .pointer (some ⟨g, 0, none⟩), .pointer (some ⟨g, 0, none⟩), .pointer (some ⟨g, 1, none⟩), .slice (some ⟨gv, 0, none⟩) m c, .int .i64 (m : Int), .bool true, u13, u14, .pointer (some ⟨g, 0, none⟩), .pointer (some ⟨g, 0, none⟩), .pointer (some ⟨g, 1, none⟩), .slice (some ⟨gv, 0, none⟩) m c, .int .i64 (i : Int), .pointer (some ⟨gv, i * 2, none⟩), .agg #[.int .i64 (xn : Int), .slice (some ⟨b1, o1, none⟩) 256 cc1], .int .i64 (i : Int), .slice (some ⟨mb, mo, none⟩) mn c2, .int .i64 (mn : Int), .bool true, .pointer (some ⟨g, 0, none⟩), .pointer (some ⟨g, 0, none⟩), .pointer (some ⟨g, 0, none⟩), .slice (some ⟨s, 0, none⟩) n cs, .pointer (some ⟨g5, 0, none⟩), .int .i64 (xn : Int), .pointer (some ⟨g, 0, none⟩), .pointer (some ⟨g, 0, none⟩), .pointer (some ⟨g, 0, none⟩), .slice (some ⟨s, 0, none⟩) n cs, .pointer (some ⟨g5, 0, none⟩), .int .i64 (xn : Int), .pointer (some ⟨s, xn, none⟩), u39, u40, u41, u42, u43, u44, u45, u46, u47, undef, undef, undef, undef, undef, undef, undef, undef, undef], []⟩) (by kernel_rfl) (by kernel_rfl) (fun _ _ _ h => h) ?_
        refine any_take (i := 13) (.slice (some ⟨bs, os, none⟩) 256 ccs) rfl (by kernel_rfl) (by kernel_rfl) (by kernel_rfl) rfl (by kernel_rfl) (by kernel_rfl) (fun W hW => cell_run 39 (.tmp 38) ⟨s, xn, none⟩ (.slice (some ⟨bs, os, none⟩) 256 ccs) _ (by kernel_rfl) (by kernel_rfl) hW.2.2.2.1 Tryz.underlying39 rfl (by kernel_rfl)) hS (listed' := #[true, true, true, true, true, true, true, true, true, true, true, true, true, true, false, false, false, false, false, false, false, false, false]) (a' := ⟨#[.pointer (some ⟨g, 0, none⟩), .slice (some ⟨mb, mo, none⟩) mn c2, undef, undef, .int .i64 (i : Int), .pointer (some ⟨g5, 0, none⟩), .int .i64 (i : Int), .pointer (some ⟨g, 0, none⟩), .pointer (some ⟨g, 0, none⟩), .pointer (some ⟨g, 1, none⟩), .slice (some ⟨gv, 0, none⟩) m c, .int .i64 (m : Int), .bool true, u13, u14, .pointer (some ⟨g, 0, none⟩), .pointer (some ⟨g, 0, none⟩), .pointer (some ⟨g, 1, none⟩), .slice (some ⟨gv, 0, none⟩) m c, .int .i64 (i : Int), .pointer (some ⟨gv, i * 2, none⟩), .agg #[.int .i64 (xn : Int), .slice (some ⟨b1, o1, none⟩) 256 cc1], .int .i64 (i : Int), .slice (some ⟨mb, mo, none⟩) mn c2, .int .i64 (mn : Int), .bool true, .pointer (some ⟨g, 0, none⟩), .pointer (some ⟨g, 0, none⟩), .pointer (some ⟨g, 0, none⟩), .slice (some ⟨s, 0, none⟩) n cs, .pointer (some ⟨g5, 0, none⟩), .int .i64 (xn : Int), .pointer (some ⟨g, 0, none⟩), .pointer (some ⟨g, 0, none⟩), .pointer (some ⟨g, 0, none⟩), .slice (some ⟨s, 0, none⟩) n cs, .pointer (some ⟨g5, 0, none⟩), .int .i64 (xn : Int), .pointer (some ⟨s, xn, none⟩), .slice (some ⟨bs, os, none⟩) 256 ccs, u40, u41, u42, u43, u44, u45, u46, u47, undef, undef, undef, undef, undef, undef, undef, undef, undef], []⟩) (by kernel_rfl) (by kernel_rfl) (fun _ _ _ h => h) ?_
        refine any_take (i := 14) (.pointer (some ⟨g5, 1, none⟩)) rfl (by kernel_rfl) (by kernel_rfl) (by kernel_rfl) rfl (by kernel_rfl) (by kernel_rfl) (fun W hW => by kernel_rfl) hS (listed' := #[true, true, true, true, true, true, true, true, true, true, true, true, true, true, true, false, false, false, false, false, false, false, false]) (a' := ⟨#[.pointer (some ⟨g, 0, none⟩), .slice (some ⟨mb, mo, none⟩) mn c2, undef, undef, .int .i64 (i : Int), .pointer (some ⟨g5, 0, none⟩), .int .i64 (i : Int), .pointer (some ⟨g, 0, none⟩), .pointer (some ⟨g, 0, none⟩), .pointer (some ⟨g, 1, none⟩), .slice (some ⟨gv, 0, none⟩) m c, .int .i64 (m : Int), .bool true, u13, u14, .pointer (some ⟨g, 0, none⟩), .pointer (some ⟨g, 0, none⟩), .pointer (some ⟨g, 1, none⟩), .slice (some ⟨gv, 0, none⟩) m c, .int .i64 (i : Int), .pointer (some ⟨gv, i * 2, none⟩), .agg #[.int .i64 (xn : Int), .slice (some ⟨b1, o1, none⟩) 256 cc1], .int .i64 (i : Int), .slice (some ⟨mb, mo, none⟩) mn c2, .int .i64 (mn : Int), .bool true, .pointer (some ⟨g, 0, none⟩), .pointer (some ⟨g, 0, none⟩), .pointer (some ⟨g, 0, none⟩), .slice (some ⟨s, 0, none⟩) n cs, .pointer (some ⟨g5, 0, none⟩), .int .i64 (xn : Int), .pointer (some ⟨g, 0, none⟩), .pointer (some ⟨g, 0, none⟩), .pointer (some ⟨g, 0, none⟩), .slice (some ⟨s, 0, none⟩) n cs, .pointer (some ⟨g5, 0, none⟩), .int .i64 (xn : Int), .pointer (some ⟨s, xn, none⟩), .slice (some ⟨bs, os, none⟩) 256 ccs, .pointer (some ⟨g5, 1, none⟩), u41, u42, u43, u44, u45, u46, u47, undef, undef, undef, undef, undef, undef, undef, undef, undef], []⟩) (by kernel_rfl) (by kernel_rfl) (fun _ _ _ h => h) ?_
        refine any_take (i := 15) (.slice (some ⟨b1, o1, none⟩) 256 cc1) rfl (by kernel_rfl) (by kernel_rfl) (by kernel_rfl) rfl (by kernel_rfl) (by kernel_rfl) (fun W hW => cell_run 39 (.tmp 40) ⟨g5, 1, none⟩ (.slice (some ⟨b1, o1, none⟩) 256 cc1) _ (by kernel_rfl) (by kernel_rfl) hW.2.2.1 Tryz.underlying39 rfl (by kernel_rfl)) hS (listed' := #[true, true, true, true, true, true, true, true, true, true, true, true, true, true, true, true, false, false, false, false, false, false, false]) (a' := ⟨#[.pointer (some ⟨g, 0, none⟩), .slice (some ⟨mb, mo, none⟩) mn c2, undef, undef, .int .i64 (i : Int), .pointer (some ⟨g5, 0, none⟩), .int .i64 (i : Int), .pointer (some ⟨g, 0, none⟩), .pointer (some ⟨g, 0, none⟩), .pointer (some ⟨g, 1, none⟩), .slice (some ⟨gv, 0, none⟩) m c, .int .i64 (m : Int), .bool true, u13, u14, .pointer (some ⟨g, 0, none⟩), .pointer (some ⟨g, 0, none⟩), .pointer (some ⟨g, 1, none⟩), .slice (some ⟨gv, 0, none⟩) m c, .int .i64 (i : Int), .pointer (some ⟨gv, i * 2, none⟩), .agg #[.int .i64 (xn : Int), .slice (some ⟨b1, o1, none⟩) 256 cc1], .int .i64 (i : Int), .slice (some ⟨mb, mo, none⟩) mn c2, .int .i64 (mn : Int), .bool true, .pointer (some ⟨g, 0, none⟩), .pointer (some ⟨g, 0, none⟩), .pointer (some ⟨g, 0, none⟩), .slice (some ⟨s, 0, none⟩) n cs, .pointer (some ⟨g5, 0, none⟩), .int .i64 (xn : Int), .pointer (some ⟨g, 0, none⟩), .pointer (some ⟨g, 0, none⟩), .pointer (some ⟨g, 0, none⟩), .slice (some ⟨s, 0, none⟩) n cs, .pointer (some ⟨g5, 0, none⟩), .int .i64 (xn : Int), .pointer (some ⟨s, xn, none⟩), .slice (some ⟨bs, os, none⟩) 256 ccs, .pointer (some ⟨g5, 1, none⟩), .slice (some ⟨b1, o1, none⟩) 256 cc1, u42, u43, u44, u45, u46, u47, undef, undef, undef, undef, undef, undef, undef, undef, undef], []⟩) (by kernel_rfl) (by kernel_rfl) (fun _ _ _ h => h) ?_
        refine any_take (i := 16) (.slice (some ⟨mb, mo, none⟩) mn c2) rfl (by kernel_rfl) (by kernel_rfl) (by kernel_rfl) rfl (by kernel_rfl) (by kernel_rfl) (fun W hW => by kernel_rfl) hS (listed' := #[true, true, true, true, true, true, true, true, true, true, true, true, true, true, true, true, true, false, false, false, false, false, false]) (a' := ⟨#[.pointer (some ⟨g, 0, none⟩), .slice (some ⟨mb, mo, none⟩) mn c2, undef, undef, .int .i64 (i : Int), .pointer (some ⟨g5, 0, none⟩), .int .i64 (i : Int), .pointer (some ⟨g, 0, none⟩), .pointer (some ⟨g, 0, none⟩), .pointer (some ⟨g, 1, none⟩), .slice (some ⟨gv, 0, none⟩) m c, .int .i64 (m : Int), .bool true, u13, u14, .pointer (some ⟨g, 0, none⟩), .pointer (some ⟨g, 0, none⟩), .pointer (some ⟨g, 1, none⟩), .slice (some ⟨gv, 0, none⟩) m c, .int .i64 (i : Int), .pointer (some ⟨gv, i * 2, none⟩), .agg #[.int .i64 (xn : Int), .slice (some ⟨b1, o1, none⟩) 256 cc1], .int .i64 (i : Int), .slice (some ⟨mb, mo, none⟩) mn c2, .int .i64 (mn : Int), .bool true, .pointer (some ⟨g, 0, none⟩), .pointer (some ⟨g, 0, none⟩), .pointer (some ⟨g, 0, none⟩), .slice (some ⟨s, 0, none⟩) n cs, .pointer (some ⟨g5, 0, none⟩), .int .i64 (xn : Int), .pointer (some ⟨g, 0, none⟩), .pointer (some ⟨g, 0, none⟩), .pointer (some ⟨g, 0, none⟩), .slice (some ⟨s, 0, none⟩) n cs, .pointer (some ⟨g5, 0, none⟩), .int .i64 (xn : Int), .pointer (some ⟨s, xn, none⟩), .slice (some ⟨bs, os, none⟩) 256 ccs, .pointer (some ⟨g5, 1, none⟩), .slice (some ⟨b1, o1, none⟩) 256 cc1, .slice (some ⟨mb, mo, none⟩) mn c2, u43, u44, u45, u46, u47, undef, undef, undef, undef, undef, undef, undef, undef, undef], []⟩) (by kernel_rfl) (by kernel_rfl) (fun _ _ _ h => h) ?_
        refine any_take (i := 17) (.int .i64 (i : Int)) rfl (by kernel_rfl) (by kernel_rfl) (by kernel_rfl) rfl (by kernel_rfl) (by kernel_rfl) (fun W hW => by kernel_rfl) hS (listed' := #[true, true, true, true, true, true, true, true, true, true, true, true, true, true, true, true, true, true, false, false, false, false, false]) (a' := ⟨#[.pointer (some ⟨g, 0, none⟩), .slice (some ⟨mb, mo, none⟩) mn c2, undef, undef, .int .i64 (i : Int), .pointer (some ⟨g5, 0, none⟩), .int .i64 (i : Int), .pointer (some ⟨g, 0, none⟩), .pointer (some ⟨g, 0, none⟩), .pointer (some ⟨g, 1, none⟩), .slice (some ⟨gv, 0, none⟩) m c, .int .i64 (m : Int), .bool true, u13, u14, .pointer (some ⟨g, 0, none⟩), .pointer (some ⟨g, 0, none⟩), .pointer (some ⟨g, 1, none⟩), .slice (some ⟨gv, 0, none⟩) m c, .int .i64 (i : Int), .pointer (some ⟨gv, i * 2, none⟩), .agg #[.int .i64 (xn : Int), .slice (some ⟨b1, o1, none⟩) 256 cc1], .int .i64 (i : Int), .slice (some ⟨mb, mo, none⟩) mn c2, .int .i64 (mn : Int), .bool true, .pointer (some ⟨g, 0, none⟩), .pointer (some ⟨g, 0, none⟩), .pointer (some ⟨g, 0, none⟩), .slice (some ⟨s, 0, none⟩) n cs, .pointer (some ⟨g5, 0, none⟩), .int .i64 (xn : Int), .pointer (some ⟨g, 0, none⟩), .pointer (some ⟨g, 0, none⟩), .pointer (some ⟨g, 0, none⟩), .slice (some ⟨s, 0, none⟩) n cs, .pointer (some ⟨g5, 0, none⟩), .int .i64 (xn : Int), .pointer (some ⟨s, xn, none⟩), .slice (some ⟨bs, os, none⟩) 256 ccs, .pointer (some ⟨g5, 1, none⟩), .slice (some ⟨b1, o1, none⟩) 256 cc1, .slice (some ⟨mb, mo, none⟩) mn c2, .int .i64 (i : Int), u44, u45, u46, u47, undef, undef, undef, undef, undef, undef, undef, undef, undef], []⟩) (by kernel_rfl) (by kernel_rfl) (fun _ _ _ h => h) ?_
        refine any_take (i := 18) (.pointer (some ⟨mb, mo + i, none⟩)) rfl (by kernel_rfl) (by kernel_rfl) (by kernel_rfl) rfl (by kernel_rfl) (by kernel_rfl) (fun W hW => by go_simp) hS (listed' := #[true, true, true, true, true, true, true, true, true, true, true, true, true, true, true, true, true, true, true, false, false, false, false]) (a' := ⟨#[.pointer (some ⟨g, 0, none⟩), .slice (some ⟨mb, mo, none⟩) mn c2, undef, undef, .int .i64 (i : Int), .pointer (some ⟨g5, 0, none⟩), .int .i64 (i : Int), .pointer (some ⟨g, 0, none⟩), .pointer (some ⟨g, 0, none⟩), .pointer (some ⟨g, 1, none⟩), .slice (some ⟨gv, 0, none⟩) m c, .int .i64 (m : Int), .bool true, u13, u14, .pointer (some ⟨g, 0, none⟩), .pointer (some ⟨g, 0, none⟩), .pointer (some ⟨g, 1, none⟩), .slice (some ⟨gv, 0, none⟩) m c, .int .i64 (i : Int), .pointer (some ⟨gv, i * 2, none⟩), .agg #[.int .i64 (xn : Int), .slice (some ⟨b1, o1, none⟩) 256 cc1], .int .i64 (i : Int), .slice (some ⟨mb, mo, none⟩) mn c2, .int .i64 (mn : Int), .bool true, .pointer (some ⟨g, 0, none⟩), .pointer (some ⟨g, 0, none⟩), .pointer (some ⟨g, 0, none⟩), .slice (some ⟨s, 0, none⟩) n cs, .pointer (some ⟨g5, 0, none⟩), .int .i64 (xn : Int), .pointer (some ⟨g, 0, none⟩), .pointer (some ⟨g, 0, none⟩), .pointer (some ⟨g, 0, none⟩), .slice (some ⟨s, 0, none⟩) n cs, .pointer (some ⟨g5, 0, none⟩), .int .i64 (xn : Int), .pointer (some ⟨s, xn, none⟩), .slice (some ⟨bs, os, none⟩) 256 ccs, .pointer (some ⟨g5, 1, none⟩), .slice (some ⟨b1, o1, none⟩) 256 cc1, .slice (some ⟨mb, mo, none⟩) mn c2, .int .i64 (i : Int), .pointer (some ⟨mb, mo + i, none⟩), u45, u46, u47, undef, undef, undef, undef, undef, undef, undef, undef, undef], []⟩) (by kernel_rfl) (by kernel_rfl) (fun _ _ _ h => h) ?_
        refine any_take (i := 19) (.int .i64 mk) rfl (by kernel_rfl) (by kernel_rfl) (by kernel_rfl) rfl (by kernel_rfl) (by kernel_rfl) (fun W hW => cell_run 3 (.tmp 44) ⟨mb, mo + i, none⟩ (.int .i64 mk) _ (by kernel_rfl) (by kernel_rfl) hW.2.2.2.2 Tryz.underlying3 rfl (by kernel_rfl)) hS (listed' := #[true, true, true, true, true, true, true, true, true, true, true, true, true, true, true, true, true, true, true, true, false, false, false]) (a' := ⟨#[.pointer (some ⟨g, 0, none⟩), .slice (some ⟨mb, mo, none⟩) mn c2, undef, undef, .int .i64 (i : Int), .pointer (some ⟨g5, 0, none⟩), .int .i64 (i : Int), .pointer (some ⟨g, 0, none⟩), .pointer (some ⟨g, 0, none⟩), .pointer (some ⟨g, 1, none⟩), .slice (some ⟨gv, 0, none⟩) m c, .int .i64 (m : Int), .bool true, u13, u14, .pointer (some ⟨g, 0, none⟩), .pointer (some ⟨g, 0, none⟩), .pointer (some ⟨g, 1, none⟩), .slice (some ⟨gv, 0, none⟩) m c, .int .i64 (i : Int), .pointer (some ⟨gv, i * 2, none⟩), .agg #[.int .i64 (xn : Int), .slice (some ⟨b1, o1, none⟩) 256 cc1], .int .i64 (i : Int), .slice (some ⟨mb, mo, none⟩) mn c2, .int .i64 (mn : Int), .bool true, .pointer (some ⟨g, 0, none⟩), .pointer (some ⟨g, 0, none⟩), .pointer (some ⟨g, 0, none⟩), .slice (some ⟨s, 0, none⟩) n cs, .pointer (some ⟨g5, 0, none⟩), .int .i64 (xn : Int), .pointer (some ⟨g, 0, none⟩), .pointer (some ⟨g, 0, none⟩), .pointer (some ⟨g, 0, none⟩), .slice (some ⟨s, 0, none⟩) n cs, .pointer (some ⟨g5, 0, none⟩), .int .i64 (xn : Int), .pointer (some ⟨s, xn, none⟩), .slice (some ⟨bs, os, none⟩) 256 ccs, .pointer (some ⟨g5, 1, none⟩), .slice (some ⟨b1, o1, none⟩) 256 cc1, .slice (some ⟨mb, mo, none⟩) mn c2, .int .i64 (i : Int), .pointer (some ⟨mb, mo + i, none⟩), .int .i64 mk, u46, u47, undef, undef, undef, undef, undef, undef, undef, undef, undef], []⟩) (by kernel_rfl) (by kernel_rfl) (fun _ _ _ h => h) ?_
        refine any_comes (i := 20) (by kernel_rfl) (op_enter 64 #[.slice (some ⟨bs, os, none⟩) 256 ccs, .slice (some ⟨b1, o1, none⟩) 256 cc1, .int .i64 mk] (some 46) rfl (by kernel_rfl) (by kernel_rfl) (by kernel_rfl) (HTn.out.mono ?_))
        rintro e w7 ⟨⟨q, cq, rfl, hcq1, hcq2, hq1, hqR⟩, hb7⟩
        have hS7 := HS7.out w7 hb7
        refine ⟨_, rfl, hS7, ?_⟩
        refine any_asT (a' := ⟨#[.pointer (some ⟨g, 0, none⟩), .slice (some ⟨mb, mo, none⟩) mn c2, undef, undef, .int .i64 (i : Int), .pointer (some ⟨g5, 0, none⟩), .int .i64 (i : Int), .pointer (some ⟨g, 0, none⟩), .pointer (some ⟨g, 0, none⟩), .pointer (some ⟨g, 1, none⟩), .slice (some ⟨gv, 0, none⟩) m c, .int .i64 (m : Int), .bool true, u13, u14, .pointer (some ⟨g, 0, none⟩), .pointer (some ⟨g, 0, none⟩), .pointer (some ⟨g, 1, none⟩), .slice (some ⟨gv, 0, none⟩) m c, .int .i64 (i : Int), .pointer (some ⟨gv, i * 2, none⟩), .agg #[.int .i64 (xn : Int), .slice (some ⟨b1, o1, none⟩) 256 cc1], .int .i64 (i : Int), .slice (some ⟨mb, mo, none⟩) mn c2, .int .i64 (mn : Int), .bool true, .pointer (some ⟨g, 0, none⟩), .pointer (some ⟨g, 0, none⟩), .pointer (some ⟨g, 0, none⟩), .slice (some ⟨s, 0, none⟩) n cs, .pointer (some ⟨g5, 0, none⟩), .int .i64 (xn : Int), .pointer (some ⟨g, 0, none⟩), .pointer (some ⟨g, 0, none⟩), .pointer (some ⟨g, 0, none⟩), .slice (some ⟨s, 0, none⟩) n cs, .pointer (some ⟨g5, 0, none⟩), .int .i64 (xn : Int), .pointer (some ⟨s, xn, none⟩), .slice (some ⟨bs, os, none⟩) 256 ccs, .pointer (some ⟨g5, 1, none⟩), .slice (some ⟨b1, o1, none⟩) 256 cc1, .slice (some ⟨mb, mo, none⟩) mn c2, .int .i64 (i : Int), .pointer (some ⟨mb, mo + i, none⟩), .int .i64 mk, .slice (some ⟨q, 0, none⟩) 256 cq, u47, undef, undef, undef, undef, undef, undef, undef, undef, undef], []⟩) (by kernel_rfl) (listed' := #[true, true, true, true, true, true, true, true, true, true, true, true, true, true, true, true, true, true, true, true, true, false, false]) (by kernel_rfl) ?_
        refine any_left (by kernel_rfl) ?_
        refine wpAny_tail 21 (by kernel_rfl) (by kernel_rfl) ?_
        simp only [List.drop_succ_cons, List.drop_zero]
        obtain ⟨hR8, hT8, hB8, f8⟩ := HPut.out w7 q cq hb7 hcq1 hcq2 hq1 hqR
        have c8 := hS7.2.2.2.1
        clear hS hS7 hb7 hcq1 hcq2 hq1 hqR HTn HS7
        go_wp2
        refine ⟨⟨i + 1, by omega, by go_num, _, _, hR8, hT8, hB8⟩, ?_⟩
        simp [intOf]; omega
      · have d2 : decide ((i : Int) < (mn : Int)) = false := decide_eq_false (by omega)
        have d3 : decide (i < mn) = false := decide_eq_false hik
        have hbW : Below wr.heap.size wr (wr.alloc (.cells #[.int .i64 (xn : Int), .slice (some ⟨b1, o1, none⟩) 256 cc1] 109)) := (Below.refl _ _).alloc (Nat.le_refl _) _
        have HN : Hid (RD (wr.alloc (.cells #[.int .i64 (xn : Int), .slice (some ⟨b1, o1, none⟩) 256 cc1] 109)) g G B' (cr d masks (i + 1)) s cs (.slice (some ⟨gv, 0, none⟩) d.waits.length c) hs' hv) := by
          show RD _ _ _ _ _ _ _ _ _ _
          rw [cr_no d masks i hi2 (by have := Hmn.out; omega)]
          exact HR.out.under hbW
        have HT2 : Hid (Turns w (wr.alloc (.cells #[.int .i64 (xn : Int), .slice (some ⟨b1, o1, none⟩) 256 cc1] 109)) G G) := HT.out.trans (Turns.of_below hbW G)
        clear hxn hbW hik HR HT
        go_wp2
        refine ⟨⟨i + 1, by omega, by go_num, _, _, HN, HT2, HB⟩, ?_⟩
        simp [intOf]; omega
    · have him : i = m := by omega
      have hR := HR.out
      have hcr : cr d masks i = { d with safe := Dk.crashed masks d.safe d.waits 0 } := by
        unfold cr
        rw [him, Hm.out, List.take_length]
      rw [hcr] at hR
      have d0 : decide ((i : Int) < (m : Int)) = false := decide_eq_false (by omega)
      have d1 : decide (i < m) = false := decide_eq_false hlt
      have f1 : wr.frozen? ⟨g, 1, none⟩ = false := hR.fz 1
      have f2 : wr.frozen? ⟨g, 2, none⟩ = false := hR.fz 2
      have f3 : wr.frozen? ⟨g, 3, none⟩ = false := hR.fz 3
      have r2 : wr.cell? ⟨g, 2, none⟩ = some (.int .i64 d.left) := hR.r2
      have r3 : wr.cell? ⟨g, 3, none⟩ = some (.bool d.off) := hR.r3
      have HE := Lib.hid hR.on
      have HTE : Hid (Turns w (((wr.setCell ⟨g, 1, none⟩ (.slice none 0 0)).setCell ⟨g, 3, none⟩ (.bool false)).setCell ⟨g, 2, none⟩ (.int .i64 (-1))) G G) := ((HT.out.trans (Turns.set_ HP.out.gg 1 _)).trans (Turns.set_ HP.out.gg 3 _)).trans (Turns.set_ HP.out.gg 2 _)
      clear him hR hcr HR HT hlt hi
      go_wp2
      go_end0
      exact ⟨rfl, G, B', ⟨_, _, _, _, _, HE.out⟩, HTE.out, HB.out⟩
end
section
open Go.RowKit
theorem one_out {L : List UInt8} {n : Nat} (hn : n = L.length) {w : World} {e : Ending} {w' : World} (h : GivesOne L w e w') : ∃ A c, e = .returned (.slice A n c) ∧ RB w' w'.heap.size A L ∧ Below w.heap.size w w' := by
  obtain ⟨A, c, he, ho, hb⟩ := h
  exact ⟨A, c, by rw [hn]; exact he, own_rb ho, hb⟩
theorem rb_up {w w' : World} {A : Option Addr} {L : List UInt8} (h : RB w w.heap.size A L) (hb : Below w.heap.size w w') : RB w' w'.heap.size A L := (h.below hb).more hb.size
section
variable {K : Kps} {w0 w : World} {g q : Nat} {F G B : Nat → Prop} {d : Dk}
theorem alike_any (h : Two K w0 w g F d q G B d) (hl : d.load ≤ 100000) : Calls Tryz.prog 29 #[.pointer (some ⟨g, 0, none⟩), .pointer (some ⟨q, 0, none⟩)] w fun e w' => e = .returned (.bool true) ∧ Two K w0 w' g F d q G B d ∧ Below w.heap.size w w' := by
  obtain ⟨s, cs, V, hs, hv, hR⟩ := h.r
  obtain ⟨n, hn⟩ : ∃ n, n = d.safe.length := ⟨_, rfl⟩
  obtain ⟨m, hm⟩ : ∃ m, m = d.waits.length := ⟨_, rfl⟩
  obtain ⟨o, ho⟩ : ∃ o, o = d.off := ⟨_, rfl⟩
  obtain ⟨ni, hni⟩ : ∃ n, n = d.image.length := ⟨_, rfl⟩
  obtain ⟨ns, hns⟩ : ∃ n, n = d.sure.length := ⟨_, rfl⟩
  have hbR := hR.blk
  obtain ⟨A, c, hV⟩ : ∃ A c, V = .slice A m c := by
    obtain ⟨A, c, hV, _, _⟩ := hR.vform
    exact ⟨A, c, by rw [hm]; exact hV⟩
  subst hV
  rw [← hn] at hbR
  have HOff : Hid (∀ W, Two K w0 W g F d q G B d → Calls Tryz.prog 54 #[.pointer (some ⟨g, 0, none⟩)] W fun e w' => e = .returned (.bool o) ∧ W = w') := fun W hW => by rw [ho]; exact off_any hW.p.disk
  have HWt : Hid (∀ W, Two K w0 W g F d q G B d → Calls Tryz.prog 55 #[.pointer (some ⟨g, 0, none⟩)] W fun e w' => e = .returned (.int .i64 (m : Int)) ∧ W = w') := fun W hW => by rw [hm]; exact waits_any hW.p.disk
  have HBl : Hid (∀ W, Two K w0 W g F d q G B d → Calls Tryz.prog 40 #[.pointer (some ⟨g, 0, none⟩)] W fun e w' => e = .returned (.int .i64 (n : Int)) ∧ W = w') := fun W hW => by rw [hn]; exact blocks_any hW.p.disk
  have HIm : Hid (∀ W, Two K w0 W g F d q G B d → Calls Tryz.prog 56 #[.pointer (some ⟨g, 0, none⟩)] W fun e w' => ∃ A c, e = .returned (.slice A ni c) ∧ RB w' w'.heap.size A d.image ∧ Below W.heap.size W w') := fun W hW => (image_any hW.p.disk).mono fun e w' hh => one_out hni hh
  have HSa : Hid (∀ W, Two K w0 W g F d q G B d → Calls Tryz.prog 58 #[.pointer (some ⟨g, 0, none⟩)] W fun e w' => ∃ A c, e = .returned (.slice A ns c) ∧ RB w' w'.heap.size A d.sure ∧ Below W.heap.size W w') := fun W hW => (safe_any hW.p.disk).mono fun e w' hh => one_out hns hh
  have HRI : Hid (∀ W, Two K w0 W g F d q G B d → Calls Tryz.prog 57 #[.pointer (some ⟨q, 0, none⟩)] W fun e w' => ∃ A c, e = .returned (.slice A ni c) ∧ RB w' w'.heap.size A d.image ∧ Below W.heap.size W w') := fun W hW => (rimage_any hW.r hl).mono fun e w' hh => one_out hni hh
  have HRS : Hid (∀ W, Two K w0 W g F d q G B d → Calls Tryz.prog 59 #[.pointer (some ⟨q, 0, none⟩)] W fun e w' => ∃ A c, e = .returned (.slice A ns c) ∧ RB w' w'.heap.size A d.sure ∧ Below W.heap.size W w') := fun W hW => (rsure_any hW.r).mono fun e w' hh => one_out hns hh
  have HNi := Lib.hid hni
  have HNs := Lib.hid hns
  have hqlt := hbR.lt
  have HC : Hid (∀ W, Below w.heap.size w W → W.cell? ⟨q, 0, none⟩ = some (.slice (some ⟨s, 0, none⟩) n cs) ∧ W.cell? ⟨q, 1, none⟩ = some (.slice A m c) ∧ W.cell? ⟨q, 3, none⟩ = some (.bool o)) := fun W hb => by
    have h1 := Blk.below hbR hb hqlt
    rw [ho]
    exact ⟨by rw [Blk.cell h1]; rfl, by rw [Blk.cell h1]; rfl, by rw [Blk.cell h1]; rfl⟩
  have hT := h
  clear h hl hR hbR hn hm ho hni hns hqlt
  go_enter Tryz.func29, Tryz.ntmps29
  go_wp2
  have b0 : Below w.heap.size w w.drew := (Below.refl _ _).drew
  have t0 : Two K w0 w.drew g F d q G B d := hT.more b0
  have hS0 := HC.out _ b0
  clear hT
  go_region_held_law (fun w' => w'.cell? ⟨q, 0, none⟩ = some (.slice (some ⟨s, 0, none⟩) n cs) ∧ w'.cell? ⟨q, 1, none⟩ = some (.slice A m c) ∧ w'.cell? ⟨q, 3, none⟩ = some (.bool o))
    (first | exact hS0 | exact hS1 | exact hS2 | exact hS3 | exact hS4)
    (first
      | (go_at_call 54; (with_reducible refine (HOff.out _ t0).mono ?_); rintro e w1 ⟨rfl, rfl⟩)
      | (go_at_call 55; (with_reducible refine (HWt.out _ t0).mono ?_); rintro e w1 ⟨rfl, rfl⟩)
      | (go_at_call 40; (with_reducible refine (HBl.out _ t0).mono ?_); rintro e w1 ⟨rfl, rfl⟩)
      | (go_at_call 56; (with_reducible refine (HIm.out _ t0).mono ?_); rintro e w1 ⟨A1, c1, rfl, r1, k1⟩; have b1 := b0.trans (k1.mono b0.size); have t1 := t0.more k1; have hS1 := HC.out _ b1; have s1 := aw_str r1 ni c1 HNi.out)
      | (go_at_call 57; (with_reducible refine (HRI.out _ t1).mono ?_); rintro e w2 ⟨A2, c2, rfl, r2, k2⟩; have b2 := b1.trans (k2.mono b1.size); have t2 := t1.more k2; have hS2 := HC.out _ b2; have s21 := aw_str (rb_up r1 k2) ni c1 HNi.out; have s2 := aw_str r2 ni c2 HNi.out)
      | (go_at_call 58; (with_reducible refine (HSa.out _ t2).mono ?_); rintro e w3 ⟨A3, c3, rfl, r3, k3⟩; have b3 := b2.trans (k3.mono b2.size); have t3 := t2.more k3; have hS3 := HC.out _ b3; have s3 := aw_str r3 ns c3 HNs.out)
      | (go_at_call 59; (with_reducible refine (HRS.out _ t3).mono ?_); rintro e w4 ⟨A4, c4, rfl, r4, k4⟩; have b4 := b3.trans (k4.mono b3.size); have t4 := t3.more k4; have hS4 := HC.out _ b4; have s43 := aw_str (rb_up r3 k4) ns c3 HNs.out; have s4 := aw_str r4 ns c4 HNs.out))
  all_goals first
    | (go_ret; exact ⟨rfl, t4, b4⟩)
    | (go_wp2; go_ret; exact ⟨rfl, t4, b4⟩)
end
end
end Go.Proofs.YtghenhacndaelaaGreat
