/- Lemmas under the proofs of this place: WalPWriteM, WalPSmall. No statement is proved here. -/
import Derived.Test.YtghenhacndaelaaBu13
import Derived.Test.YtghenhacndaelaaBu28
import Derived.Test.YtghenhacndaelaaBu21
import Derived.Test.YtghenhacndaelaaBu23
import Derived.Test.YtghenhacndaelaaBu14
import Derived.Test.YtghenhacndaelaaBu04
import Derived.Deep.QuietTactic
import Derived.BigQuiet
set_option linter.unusedSimpArgs false
set_option linter.unusedVariables false
set_option maxRecDepth 100000
set_option maxHeartbeats 16000000
namespace Go.Proofs.Ytghenhacndaelaa
section
open Go.RowKit Go.Shelf
open Wal
def padC (b : List UInt8) (i : Nat) : List UInt8 := (b.drop (256 * i)).take 256 ++ List.replicate (256 - chunkL b.length i) 0
theorem chunk_take (b : List UInt8) (i : Nat) (hi : i < chunkN b.length) : ((b.drop (256 * i)).take 256).length = chunkL b.length i := by
  unfold chunkN at hi
  unfold chunkL
  rw [List.length_take, List.length_drop]
  split <;> omega
theorem padC_length (b : List UInt8) (i : Nat) (hi : i < chunkN b.length) : (padC b i).length = 256 := by
  unfold padC
  rw [List.length_append, chunk_take b i hi, List.length_replicate]
  unfold chunkL
  split <;> omega
theorem chunk_blk (lb R : List UInt8) (i : Nat) (hi : i < chunkN (endL lb ++ R).length) : blkW (allW lb R) (lb.length / 256 + i) = padC (endL lb ++ R) i := by
  have hlen : (endL lb ++ R).length = lb.length % 256 + R.length := by rw [List.length_append, endL_length]
  obtain ⟨p, hp⟩ : ∃ p, p = lb.length - lb.length % 256 := ⟨_, rfl⟩
  have hpm : p = 256 * (lb.length / 256) := by omega
  have h1 : allW lb R = lb.take p ++ ((endL lb ++ R) ++ List.replicate (padN (lb.length + R.length)) 0) := by
    unfold allW endL
    rw [← hp]
    generalize padN (lb.length + R.length) = z
    conv => lhs; rw [← List.take_append_drop p lb]
    simp only [List.append_assoc]
  have h2 : (lb.take p).length = p := by rw [List.length_take]; omega
  have h3 : padN (lb.length + R.length) = padN (endL lb ++ R).length := by unfold padN; rw [hlen]; omega
  rw [h3] at h1
  obtain ⟨b, hb⟩ : ∃ b, b = endL lb ++ R := ⟨_, rfl⟩
  rw [← hb] at h1 hi ⊢
  unfold blkW
  rw [h1, show 256 * (lb.length / 256 + i) = (lb.take p).length + 256 * i by rw [h2]; omega, ← List.drop_drop, List.drop_left]
  unfold chunkN at hi
  rw [List.drop_append_of_le_length (by omega)]
  unfold padC
  have hx : (b.drop (256 * i)).length = b.length - 256 * i := List.length_drop
  by_cases hc : 256 ≤ b.length - 256 * i
  · rw [List.take_append_of_le_length (by omega)]
    have : chunkL b.length i = 256 := by unfold chunkL; rw [if_neg (by omega)]
    rw [this]
    simp
  · have hcl : chunkL b.length i = b.length - 256 * i := by unfold chunkL; rw [if_pos (by omega)]; omega
    rw [List.take_append, List.take_of_length_le (show (b.drop (256 * i)).length ≤ 256 by omega), hcl, hx]
    congr 1
    have hpd : padN b.length = 256 - (b.length - 256 * i) := by unfold padN; omega
    rw [hpd, List.take_of_length_le (by simp)]
theorem chunk_count (lb R : List UInt8) : (allW lb R).length / 256 - lb.length / 256 = chunkN (endL lb ++ R).length := by
  have hlen : (endL lb ++ R).length = lb.length % 256 + R.length := by rw [List.length_append, endL_length]
  rw [all_length, hlen]
  unfold padN chunkN
  omega
theorem splice_pad (b : List UInt8) (i : Nat) (hi : i < chunkN b.length) : splice (cells (List.replicate 256 0)) 0 (cells ((b.drop (256 * i)).take 256)) = cells (padC b i) := by
  unfold splice padC
  rw [← chunk_take b i hi, cells_append, cells_length, List.take_zero, List.nil_append, Nat.zero_add, cells_drop, List.drop_replicate]
theorem sub_rb13 {w : World} {B b0 o : Nat} {M : List UInt8} (h : RB w B (some ⟨b0, o, none⟩) M) (k q : Nat) : RB w B (some ⟨b0, o + k, none⟩) ((M.drop k).take q) := by
  refine ⟨by rw [cells_length]; simp, fun h0 => ?_⟩
  have hl : 0 < M.length := by
    rw [List.length_take, List.length_drop] at h0
    omega
  obtain ⟨ad, e, hb, hc⟩ := h.2 hl
  injection e with e
  subst e
  refine ⟨_, rfl, hb, fun j u hu => ?_⟩
  have e2 : (⟨b0, o + k, none⟩ : Addr).add j = (⟨b0, o, none⟩ : Addr).add (k + j) := by
    unfold Addr.add
    by_cases hj : j = 0 <;> by_cases hk : k = 0 <;> simp [hj, hk, Nat.add_assoc]
  rw [e2]
  refine hc _ u ?_
  rw [← cells_take, ← cells_drop, List.getElem?_take] at hu
  split at hu
  · rw [List.getElem?_drop] at hu
    exact hu
  · cases hu
def CellsOnly (w : World) (F : Nat → Prop) : Prop := ∀ k, F k → ∃ t cs, Blk w k t cs
theorem PDisk.cellsF {w : World} {g : Nat} {F : Nat → Prop} {d : Dk} (h : PDisk w g F d) : PDisk w g (fun k => F k ∧ ∃ t cs, Blk w k t cs) d := by
  obtain ⟨a, ca, b, cb, n, V, ends, lf, h⟩ := h
  obtain ⟨s1, h1⟩ := h.safe
  obtain ⟨s2, h2⟩ := h.last
  exact ⟨a, ca, b, cb, n, V, ends, lf, h.blk, h.size, h.capa, h.capb, h.safe, h.last, h.wait, h.ab, ⟨h.fg, _, _, h.blk⟩, ⟨h.fa, _, _, h1⟩, ⟨h.fb, _, _, h2⟩, fun k hk => ⟨h.fv k hk, _, (own_lt h.wait hk).2⟩, fun k hk => h.flt k hk.1, h.good, h.ends_, h.left_⟩
theorem cellsF_only (w : World) (F : Nat → Prop) : CellsOnly w (fun k => F k ∧ ∃ t cs, Blk w k t cs) := fun k hk => hk.2
theorem turns_grow_row {V W : World} {row : Option Nat} (hg : V.grownBy W row) : Turns V W (fun k => row = some k) (fun k => row = some k) := Turns.grown hg (fun k e => e)
theorem pdisk_kept {V W : World} {g : Nat} {F : Nat → Prop} {d : Dk} {row : Option Nat} (h : PDisk V g F d) (hF : CellsOnly V F) (hg : V.grownBy W row) (hr : ∀ r, row = some r → ∃ o : Obj, V.heap[r]? = some o ∧ o.isCells = false) : PDisk W g F d ∧ CellsOnly W F := by
  have hno : ∀ k, F k → ¬ row = some k := fun k hk e => by
    obtain ⟨t, cs, hb⟩ := hF k hk
    obtain ⟨o, ho, hc⟩ := hr k e
    rw [show V.heap[k]? = _ from hb] at ho
    cases ho
    cases hc
  refine ⟨h.turns (turns_grow_row hg) hno, fun k hk => ?_⟩
  obtain ⟨t, cs, hb⟩ := hF k hk
  exact ⟨t, cs, hb.turns (turns_grow_row hg) (hno k hk)⟩
theorem turns_kept2 {U V W : World} {F F' : Nat → Prop} {row : Option Nat} (h : Turns U V F F') (hg : V.grownBy W row) (hr : ∀ r, row = some r → U.heap.size ≤ r) : Turns U W F F' :=
  ⟨hg.os.trans h.os, hg.tape.trans h.tape, hg.output.trans h.output, Nat.le_trans h.size hg.size,
   fun k hk hn => (hg.block k (Nat.lt_of_lt_of_le hk h.size) (fun e => by have := hr k e.symm; omega)).trans (h.block k hk hn), h.foot⟩
def stepsW (frm : Nat) (b : List UInt8) : Nat → List Nat → Dk → Option Dk
  | _, [], d => some d
  | k, j :: js, d => if (d.write ((frm + k : Nat) : Int) (padC b j)).2 = 0 then stepsW frm b (k + 1) js (d.write ((frm + k : Nat) : Int) (padC b j)).1 else none
theorem steps_snoc (frm : Nat) (b : List UInt8) (j : Nat) : ∀ (js : List Nat) (k : Nat) (d D : Dk), stepsW frm b k js d = some D → (D.write ((frm + (k + js.length) : Nat) : Int) (padC b j)).2 = 0 → stepsW frm b k (js ++ [j]) d = some (D.write ((frm + (k + js.length) : Nat) : Int) (padC b j)).1
  | [], k, d, D, h, hz => by
    simp only [stepsW, Option.some.injEq] at h
    subst h
    simp only [List.length_nil, Nat.add_zero] at hz ⊢
    simp only [List.nil_append, stepsW, if_pos hz]
  | x :: js, k, d, D, h, hz => by
    rw [stepsW] at h
    split at h
    · rename_i hx
      have ih := steps_snoc frm b j js (k + 1) _ D h
      rw [show k + 1 + js.length = k + (x :: js).length by simp; omega] at ih
      rw [List.cons_append, stepsW, if_pos hx]
      exact ih hz
    · cases h
theorem steps_all {frm k0 N : Nat} {b all : List UInt8} (hblk : ∀ i, i < N → blkW all (k0 + i) = padC b i) : ∀ (m s : Nat) (d D : Dk), s + m ≤ N → stepsW frm b (k0 + s) (List.range' s m) d = some D → writesW frm all m (k0 + s) d = (D, 0)
  | 0, s, d, D, _, h => by
    simp only [List.range'_zero, stepsW, Option.some.injEq] at h
    subst h; rfl
  | m + 1, s, d, D, hs, h => by
    rw [List.range'_succ, stepsW] at h
    split at h
    · rename_i hx
      rw [writesW, hblk s (by omega), if_pos hx]
      have := steps_all hblk m (s + 1) _ D (by omega) (by rw [show k0 + (s + 1) = k0 + s + 1 by omega]; exact h)
      rw [show k0 + (s + 1) = k0 + s + 1 by omega] at this
      exact this
    · cases h
theorem steps_bad {frm k0 N : Nat} {b all : List UInt8} (hblk : ∀ i, i < N → blkW all (k0 + i) = padC b i) : ∀ (m s M : Nat) (d D : Dk), m < M → s + M ≤ N → stepsW frm b (k0 + s) (List.range' s m) d = some D → (D.write ((frm + (k0 + s + m) : Nat) : Int) (padC b (s + m))).2 ≠ 0 → writesW frm all M (k0 + s) d = D.write ((frm + (k0 + s + m) : Nat) : Int) (padC b (s + m))
  | 0, s, M, d, D, hm, hs, h, hz => by
    simp only [List.range'_zero, stepsW, Option.some.injEq] at h
    subst h
    obtain ⟨M', rfl⟩ : ∃ M', M = M' + 1 := ⟨M - 1, by omega⟩
    simp only [Nat.add_zero] at hz ⊢
    rw [writesW, hblk s (by omega), if_neg hz]
  | m + 1, s, M, d, D, hm, hs, h, hz => by
    obtain ⟨M', rfl⟩ : ∃ M', M = M' + 1 := ⟨M - 1, by omega⟩
    rw [List.range'_succ, stepsW] at h
    split at h
    · rename_i hx
      rw [writesW, hblk s (by omega), if_pos hx]
      have ih := steps_bad hblk m (s + 1) M' (d.write ((frm + (k0 + s) : Nat) : Int) (padC b s)).1 D (by omega) (by omega) (by rw [show k0 + (s + 1) = k0 + s + 1 by omega]; exact h)
      rw [show k0 + (s + 1) + m = k0 + s + (m + 1) by omega, show s + 1 + m = s + (m + 1) by omega, show k0 + (s + 1) = k0 + s + 1 by omega] at ih
      exact ih hz
    · cases h
def WrI (W8 : World) (g q2 : Nat) (F : Nat → Prop) (frm k0 : Nat) (b : List UInt8) (d : Dk) (js : List Nat) (V : World) : Prop :=
  ∃ F' D, PDisk V g F' D ∧ CellsOnly V F' ∧ (∀ k, F' k → F k ∨ W8.heap.size ≤ k) ∧ Turns W8 V (fun k => F k ∨ k = q2) (fun k => F' k ∨ k = q2) ∧ Blk V q2 3 #[.int .i64 ((frm + (k0 + js.length) : Nat) : Int)] ∧ D.load ≤ d.load + 2 * js.length ∧ stepsW frm b k0 js d = some D
def WrX (W8 : World) (g q1 q2 : Nat) (F : Nat → Prop) (frm k0 : Nat) (b : List UInt8) (d : Dk) (c : Code) (js : List Nat) (V : World) : Prop :=
  c = .ret ∧ ∃ js0 j, js = js0 ++ [j] ∧ ∃ F' D0 D z, PDisk V g F' D ∧ CellsOnly V F' ∧ (∀ k, F' k → F k ∨ W8.heap.size ≤ k) ∧ Turns W8 V (fun k => F k ∨ k = q1 ∨ k = q2) (fun k => F' k ∨ k = q1 ∨ k = q2) ∧ Blk V q1 24 #[.int .i64 z] ∧ z ≠ 0 ∧ stepsW frm b k0 js0 d = some D0 ∧ D0.write ((frm + (k0 + js0.length) : Nat) : Int) (padC b j) = (D, z)
theorem wrI_own {β : Type} (f : β → List Nat) (W8 : World) (g q2 : Nat) (F : Nat → Prop) (frm k0 : Nat) (b : List UInt8) (d : Dk) : OwnFrom W8.heap.size (fun s V => WrI W8 g q2 F frm k0 b d (f s) V) := by
  rintro s V W row ⟨F', D, h1, h2, hft, h3, h4, h5, h6⟩ hg hr
  have hr' : ∀ r, row = some r → ∃ o : Obj, V.heap[r]? = some o ∧ o.isCells = false := fun r e => (hr r e).2
  obtain ⟨k1, k2⟩ := pdisk_kept h1 h2 hg hr'
  exact ⟨F', D, k1, k2, hft, turns_kept2 h3 hg (fun r e => (hr r e).1), blk_kept h4 hg hr', h5, h6⟩
theorem wrX_own {β : Type} (f : β → List Nat) (W8 : World) (g q1 q2 : Nat) (F : Nat → Prop) (frm k0 : Nat) (b : List UInt8) (d : Dk) (c : Code) : OwnFrom W8.heap.size (fun s V => WrX W8 g q1 q2 F frm k0 b d c (f s) V) := by
  rintro s V W row ⟨h0, js0, j, hj, F', D0, D, z, h1, h2, hft, h3, h4, h5, h6⟩ hg hr
  have hr' : ∀ r, row = some r → ∃ o : Obj, V.heap[r]? = some o ∧ o.isCells = false := fun r e => (hr r e).2
  obtain ⟨k1, k2⟩ := pdisk_kept h1 h2 hg hr'
  exact ⟨h0, js0, j, hj, F', D0, D, z, k1, k2, hft, turns_kept2 h3 hg (fun r e => (hr r e).1), blk_kept h4 hg hr', h5, h6⟩
theorem keeps_turns2 {B : Nat} {V W : World} {F F' : Nat → Prop} (h : Turns V W F F') (hF : ∀ k, F k → ∃ t cs, Blk V k t cs) : KeepsFrom B V W :=
  ⟨h.size, fun k o _ hk ho => by
    by_cases hf : F k
    · obtain ⟨t, cs, hb⟩ := hF k hf
      rw [show V.heap[k]? = _ from hb] at hk
      cases hk
      cases ho
    · exact (h.block k (Array.getElem?_eq_some_iff.1 hk).1 hf).trans hk⟩
theorem row_full {w : World} {base g n : Nat} {xs : List Value} (h : w.ownsRow base 5 1 (.slice (some ⟨g, 0, none⟩) n n) n xs) (h0 : 0 < n) : Blk w g 5 xs.toArray := by
  rcases h.2 with ⟨h1, _⟩ | ⟨k, cap, cur, he, h2, h3, h4, h5, h6, h7⟩
  · cases h1
  · simp only [Value.slice.injEq, Option.some.injEq, Addr.mk.injEq, and_true] at he
    obtain ⟨rfl, -, rfl⟩ := he
    have : cur.toList = xs := by
      rw [← h7, List.take_of_length_le]
      rw [Array.length_toList, h6]
      exact Nat.le_refl _
    have e : cur = xs.toArray := by rw [← this]
    rw [← e]
    exact h3
theorem turns_narrow {w W8 Z : World} {F F' X X' : Nat → Prop} (hb : Below w.heap.size w W8) (h : Turns W8 Z X X') (hX : ∀ k, X k → F k ∨ w.heap.size ≤ k) (hF : ∀ k, F' k → F k ∨ w.heap.size ≤ k) : Turns w Z F F' :=
  ⟨h.os.trans hb.os, h.tape.trans hb.tape, h.output.trans hb.output, Nat.le_trans hb.size h.size, fun k hk hn => (h.block k (Nat.lt_of_lt_of_le hk hb.size) (fun hx => by
    rcases hX k hx with h1 | h1
    · exact hn h1
    · omega)).trans (hb.block k hk), hF⟩
theorem list_round {P : Program} {ops : Array Oper} {Q : Exit → Act → World → Prop} {l n : Nat} (hL : ¬ LetsOut Q) : ∀ (rest : List Oper) (a : Act) (w : World), (∀ o ∈ rest, ∀ c, o.op ≠ .defer c) → wpList P ops Q rest a w → wpListIn (Fence.wide.inRound l) n P ops Q rest a w
  | [], a, w, _, h => h
  | o :: rest, a, w, hp, h => by
    unfold wpList at h
    unfold wpListIn
    split at h
    · rename_i hw
      simp only [hw, if_true]
      exact Oper.wpIn_mono (fun a w h' => list_round hL rest a w (fun o ho => hp o (List.mem_cons_of_mem _ ho)) h') (op_round (hp o List.mem_cons_self) hL h)
    · rename_i hw
      simp only [hw]
      exact ⟨fun _ _ => trivial, list_round hL rest _ _ (fun o ho => hp o (List.mem_cons_of_mem _ ho)) h⟩
theorem region_round_list {P : Program} {ops : Array Oper} {Q : Exit → Act → World → Prop} {l n id : Nat} {a : Act} {w : World} (R : Act → World → Prop) (hp : noDefer ops = true) (h : wpList P ops (Nrm R) ops.toList a w) (hQ : ∀ a w, R a w → Q .normal a w) : (Code.region id ops false).wpIn (Fence.wide.inRound l) n P Q a w := by
  refine Go.wpIn_mono (wpIn_region_list (list_round (nrm_lets R) _ a w (fun o ho c => ?_) h)) fun e a w h => ?_
  · obtain ⟨i, hi, rfl⟩ := List.getElem_of_mem ho
    exact noDefer_spec hp (i := i) (by simp at hi; simp [hi]) c
  · cases e <;> first | exact hQ _ _ h | exact h.elim
theorem region_round_lit {P : Program} {ops : List Oper} {Q : Exit → Act → World → Prop} {l n id : Nat} {a : Act} {w : World} (R : Act → World → Prop) (hp : noDefer ops.toArray = true) (h : wpList P ops.toArray (Nrm R) ops a w) (hQ : ∀ a w, R a w → Q .normal a w) : (Code.region id ops.toArray false).wpIn (Fence.wide.inRound l) n P Q a w :=
  region_round_list R hp (by simpa using h) hQ
end
section
open Go.RowKit
open Wal
theorem Try.logIsNil (g : Nat) (w : World) : Sem.run Try.prog (binOp BinOp.eql 29 (Value.pointer (some ⟨g, 0, none⟩)) (Value.pointer none)) w = Result.ok (Value.bool false) w := by kernel_rfl
theorem Try.logNilIs (w : World) : Sem.run Try.prog (binOp BinOp.eql 29 (Value.pointer none) (Value.pointer none)) w = Result.ok (Value.bool true) w := by kernel_rfl
theorem wwithin_gives (n a b : Int) (v : Bool) (hv : (decide (a ≤ n) && decide (n ≤ b)) = v) (w : World) : Calls Try.prog 23 #[.int .i64 n, .int .i64 a, .int .i64 b] w fun e w' => e = .returned (.bool v) ∧ w = w' := by
  by_cases h : a ≤ n
  · have d : decide (a ≤ n) = true := decide_eq_true h
    rw [d, Bool.true_and] at hv
    subst hv
    go_enter Try.func23, Try.ntmps23
    go_wp2
    go_ret
    exact ⟨rfl, rfl⟩
  · have d : decide (a ≤ n) = false := decide_eq_false h
    rw [d, Bool.false_and] at hv
    subst hv
    go_enter Try.func23, Try.ntmps23
    go_wp2
    go_ret
    exact ⟨rfl, rfl⟩
theorem wwithin_yes {n a b : Int} (h : a ≤ n ∧ n ≤ b) (w : World) : Calls Try.prog 23 #[.int .i64 n, .int .i64 a, .int .i64 b] w fun e w' => e = .returned (.bool true) ∧ w = w' :=
  wwithin_gives n a b true (by rw [decide_eq_true h.1, decide_eq_true h.2]; rfl) w
theorem wwithin_no {n a b : Int} (h : ¬ (a ≤ n ∧ n ≤ b)) (w : World) : Calls Try.prog 23 #[.int .i64 n, .int .i64 a, .int .i64 b] w fun e w' => e = .returned (.bool false) ∧ w = w' :=
  wwithin_gives n a b false (by
    by_cases h1 : a ≤ n
    · rw [decide_eq_true h1, decide_eq_false (fun h2 => h ⟨h1, h2⟩)]; rfl
    · rw [decide_eq_false h1]; rfl) w
def areW (frm bl all : Int) : Bool := decide (0 ≤ frm ∧ frm ≤ all - 1) && decide (1 ≤ bl ∧ bl ≤ all - frm)
theorem areblocks_any (frm bl : Int) (n : Nat) (hn : n ≤ 1000000) (w : World) : Calls Try.prog 21 #[.int .i64 frm, .int .i64 bl, .int .i64 (n : Int)] w fun e w' => e = .returned (.bool (areW frm bl n)) ∧ w = w' := by
  have y0 : IntKind.i64.wrap ((n : Int) - 1) = (n : Int) - 1 := IntWalk.i64_in _ (by omega)
  by_cases h0 : 0 ≤ frm ∧ frm ≤ (n : Int) - 1
  · have H0 : Hid (∀ W, Calls Try.prog 23 #[.int .i64 frm, .int .i64 0, .int .i64 ((n : Int) - 1)] W fun e w' => e = .returned (.bool true) ∧ W = w') := fun W => wwithin_yes h0 W
    have y1 : IntKind.i64.wrap ((n : Int) - frm) = (n : Int) - frm := IntWalk.i64_in _ (by omega)
    by_cases h1 : 1 ≤ bl ∧ bl ≤ (n : Int) - frm
    · have HV : Hid (areW frm bl n = true) := by show _ = _; unfold areW; rw [decide_eq_true h0, decide_eq_true h1]; rfl
      have H1 : Hid (∀ W, Calls Try.prog 23 #[.int .i64 bl, .int .i64 1, .int .i64 ((n : Int) - frm)] W fun e w' => e = .returned (.bool true) ∧ W = w') := fun W => wwithin_yes h1 W
      clear h0 h1
      go_enter Try.func21, Try.ntmps21
      go_wp2_with (first
        | (go_at_call 23; (with_reducible refine (H0.out _).mono ?_); rintro e w1 ⟨rfl, rfl⟩)
        | (go_at_call 23; (with_reducible refine (H1.out _).mono ?_); rintro e w1 ⟨rfl, rfl⟩))
      go_ret
      rw [HV.out]
      exact ⟨rfl, rfl⟩
    · have HV : Hid (areW frm bl n = false) := by show _ = _; unfold areW; rw [decide_eq_true h0, decide_eq_false h1]; rfl
      have H1 : Hid (∀ W, Calls Try.prog 23 #[.int .i64 bl, .int .i64 1, .int .i64 ((n : Int) - frm)] W fun e w' => e = .returned (.bool false) ∧ W = w') := fun W => wwithin_no h1 W
      clear h0 h1
      go_enter Try.func21, Try.ntmps21
      go_wp2_with (first
        | (go_at_call 23; (with_reducible refine (H0.out _).mono ?_); rintro e w1 ⟨rfl, rfl⟩)
        | (go_at_call 23; (with_reducible refine (H1.out _).mono ?_); rintro e w1 ⟨rfl, rfl⟩))
      go_ret
      rw [HV.out]
      exact ⟨rfl, rfl⟩
  · have H0 : Hid (∀ W, Calls Try.prog 23 #[.int .i64 frm, .int .i64 0, .int .i64 ((n : Int) - 1)] W fun e w' => e = .returned (.bool false) ∧ W = w') := fun W => wwithin_no h0 W
    have HV : Hid (areW frm bl n = false) := by show _ = _; unfold areW; rw [decide_eq_false h0]; rfl
    clear h0
    go_enter Try.func21, Try.ntmps21
    go_wp2_with (first
      | (go_at_call 23; (with_reducible refine (H0.out _).mono ?_); rintro e w1 ⟨rfl, rfl⟩))
    go_ret
    rw [HV.out]
    exact ⟨rfl, rfl⟩
section
variable {w : World} {g lg : Nat} {E : Nat → Prop} {l : Lg}
theorem wused_any (hL : PLog w lg g E l) {len : Nat} (hf : l.fit len) : Calls Try.prog 17 #[.pointer (some ⟨lg, 0, none⟩)] w fun e w' => e = .returned (.int .i64 ((used l : Nat) : Int)) ∧ w = w' := by
  obtain ⟨A, c, hL⟩ := hL
  have z0 := fun w' => Try.logIsNil lg w'
  have r3 := hL.r3
  clear hL hf
  generalize used l = u at *
  go_enter Try.func17, Try.ntmps17
  go_wp2
  go_ret
  exact ⟨rfl, rfl⟩
theorem wroom_any (hL : PLog w lg g E l) {len : Nat} (hf : l.fit len) : Calls Try.prog 16 #[.pointer (some ⟨lg, 0, none⟩)] w fun e w' => e = .returned (.int .i64 (((l.n : Nat) : Int) - ((used l : Nat) : Int))) ∧ ∃ n, w' = w.drewN n := by
  obtain ⟨A, c, hL⟩ := hL
  have z0 := fun w' => Try.logIsNil lg w'
  have r2 := hL.r2
  have r3 := hL.r3
  have h1 := hf.few
  have h2 : used l ≤ l.n := by have := hf.used; unfold used; omega
  have y0 : IntKind.i64.wrap (((l.n : Nat) : Int) - ((used l : Nat) : Int)) = ((l.n : Nat) : Int) - ((used l : Nat) : Int) := IntWalk.i64_in _ (by omega)
  clear hL hf
  generalize used l = u at *
  generalize l.n = n at *
  go_enter Try.func16, Try.ntmps16
  go_wp2
  go_quiet (fail)
  go_wp2
  go_ret
  exact ⟨rfl, nq, rfl⟩
theorem wdead_any (hL : PLog w lg g E l) : Calls Try.prog 18 #[.pointer (some ⟨lg, 0, none⟩)] w fun e w' => e = .returned (.bool l.gone) ∧ w = w' := by
  obtain ⟨A, c, hL⟩ := hL
  have z0 := fun w' => Try.logIsNil lg w'
  have r6 := hL.r6
  clear hL
  generalize l.gone = b at *
  go_enter Try.func18, Try.ntmps18
  go_wp2
  go_ret
  exact ⟨rfl, rfl⟩
end
theorem wroom_none0 (w : World) : Calls Try.prog 16 #[.pointer none] w fun e w' => e = .returned (.int .i64 0) ∧ w = w' := by
  have z0 := fun w' => Try.logNilIs w'
  go_enter Try.func16, Try.ntmps16
  go_wp2
  go_ret
  exact ⟨rfl, rfl⟩
theorem wused_none0 (w : World) : Calls Try.prog 17 #[.pointer none] w fun e w' => e = .returned (.int .i64 0) ∧ w = w' := by
  have z0 := fun w' => Try.logNilIs w'
  go_enter Try.func17, Try.ntmps17
  go_wp2
  go_ret
  exact ⟨rfl, rfl⟩
theorem wdead_none0 (w : World) : Calls Try.prog 18 #[.pointer none] w fun e w' => e = .returned (.bool true) ∧ w = w' := by
  have z0 := fun w' => Try.logNilIs w'
  go_enter Try.func18, Try.ntmps18
  go_wp2
  go_ret
  exact ⟨rfl, rfl⟩
theorem drewN_room (w : World) (n : Nat) : Below w.heap.size w (w.drewN n) := ⟨rfl, rfl, rfl, Nat.le_refl _, fun _ _ => rfl⟩
theorem wroom_none (w : World) : Calls Try.prog 16 #[.pointer none] w fun e w' => e = .returned (.int .i64 0) ∧ Below w.heap.size w w' := (wroom_none0 w).mono fun e w' ⟨h, h2⟩ => by subst h2; exact ⟨h, Below.refl _ _⟩
theorem wused_none (w : World) : Calls Try.prog 17 #[.pointer none] w fun e w' => e = .returned (.int .i64 0) ∧ Below w.heap.size w w' := (wused_none0 w).mono fun e w' ⟨h, h2⟩ => by subst h2; exact ⟨h, Below.refl _ _⟩
theorem wdead_none (w : World) : Calls Try.prog 18 #[.pointer none] w fun e w' => e = .returned (.bool true) ∧ Below w.heap.size w w' := (wdead_none0 w).mono fun e w' ⟨h, h2⟩ => by subst h2; exact ⟨h, Below.refl _ _⟩
end
end Go.Proofs.Ytghenhacndaelaa
