/- Lemmas under the proofs of this place: Keeps, SlB, WalPlain. No statement is proved here. -/
import Derived.Test.YtghenhacndaelaaBu05
import Derived.Test.YtghenhacndaelaaBu04
import Derived.Test.YtghenhacndaelaaBu02
import Derived.RangeFuncNested
import Derived.RangeFuncBound
import Derived.RangeFuncCalls
import Derived.RangeFuncLeaves
import Derived.Shelf.Abstract
import Derived.OwnWalkIn
import Derived.WalkKit
import Derived.TacticsInMore
import Derived.LoopNIn
import Derived.LoopIn
set_option linter.unusedSimpArgs false
set_option linter.unusedVariables false
namespace Go.Proofs.Ytghenhacndaelaa
section
open Go.RowKit Go.Shelf
def Upto (N : Nat) : Type := { i : Nat // i < N }
def KeepsAt (B : Nat) (W W' : World) : Prop := W'.cell? ⟨B, 0, none⟩ = W.cell? ⟨B, 0, none⟩
section
variable {V W : World} {row : Option Nat}
theorem blk_kept {g : Nat} {t : TypeId} {cs : Array Value} (h : Blk V g t cs) (hg : V.grownBy W row) (hr : ∀ r, row = some r → ∃ o : Obj, V.heap[r]? = some o ∧ o.isCells = false) : Blk W g t cs :=
  h.grown hg (fun e => by
    obtain ⟨o, ho, hc⟩ := hr g e.symm
    rw [show V.heap[g]? = _ from h] at ho
    cases ho
    cases hc)
end
theorem keepsAt_b {B : Nat} {w : World} (hB : B < w.heap.size) (W : World) (l : Nat) (o o' : Obj) (hl : w.heap.size ≤ l) (h : W.heap[l]? = some o) (_ : o.isCells = false) (_ : o.isWalk = false) : KeepsAt B W (W.putObj l o') :=
  World.cell?_of_block ((grownBy_putObj' W l o').block B (by have := (Array.getElem?_eq_some_iff.1 h).1; omega) (fun e => by cases e; omega))
end
section
open Go.RowKit
theorem add_at (a off s : Nat) : (⟨a, off, none⟩ : Addr).add s = ⟨a, off + s, none⟩ := by unfold Addr.add; split <;> simp_all
theorem sl_from (a off n c s : Nat) (i : Int) (hi : i = (s : Int)) (h1 : s ≤ n) (h2 : s < c) (W : World) :
    (Instr.sliceAt 38 (.slice (some ⟨a, off, none⟩) n c) (some (.int .i64 i)) none none).run Try.prog W = .ok (.slice (some ⟨a, off + s, none⟩) (n - s) (c - s)) W := by
  subst hi
  have hu : Try.prog.underlying 38 = some (.slice (Try.prog.elem 38)) := by kernel_rfl
  have he : Try.prog.elem 38 = 5 := by kernel_rfl
  have hsz : (sizeOf 5).run Try.prog W = .ok 1 W := by kernel_rfl
  have e : (s : Int).toNat = s := by omega
  rw [run_sliceAt_slice _ _ _ _ _ _ hu, run_slice_l _ _ _ _ _ hu .i64 (s : Int) (by omega) (by omega), he, hsz]
  simp only [Result.andThen_ok, e, sliced]
  rw [if_neg (show ¬ c = s by omega)]
  simp only [Option.map_some, Nat.mul_one, add_at]
theorem sl_to (a off n c h : Nat) (j : Int) (hj : j = (h : Int)) (h1 : h ≤ c) (h0 : 0 < c) (W : World) :
    (Instr.sliceAt 38 (.slice (some ⟨a, off, none⟩) n c) none (some (.int .i64 j)) none).run Try.prog W = .ok (.slice (some ⟨a, off, none⟩) h c) W := by
  subst hj
  have hu : Try.prog.underlying 38 = some (.slice (Try.prog.elem 38)) := by kernel_rfl
  have he : Try.prog.elem 38 = 5 := by kernel_rfl
  have hsz : (sizeOf 5).run Try.prog W = .ok 1 W := by kernel_rfl
  have e : (h : Int).toNat = h := by omega
  rw [run_sliceAt_slice _ _ _ _ _ _ hu, run_slice_h _ _ _ _ _ hu .i64 (h : Int) (by omega) (by omega), he, hsz]
  simp only [Result.andThen_ok, e, sliced]
  rw [if_neg (show ¬ c = 0 by omega)]
  simp only [Option.map_some, Nat.zero_mul, add_at, Nat.add_zero, Nat.sub_zero]
theorem sl_both (a off n c s h : Nat) (i j : Int) (hi : i = (s : Int)) (hj : j = (h : Int)) (h1 : s ≤ h) (h2 : h ≤ c) (h3 : s < c) (W : World) :
    (Instr.sliceAt 38 (.slice (some ⟨a, off, none⟩) n c) (some (.int .i64 i)) (some (.int .i64 j)) none).run Try.prog W = .ok (.slice (some ⟨a, off + s, none⟩) (h - s) (c - s)) W := by
  subst hi hj
  have hu : Try.prog.underlying 38 = some (.slice (Try.prog.elem 38)) := by kernel_rfl
  have he : Try.prog.elem 38 = 5 := by kernel_rfl
  have hsz : (sizeOf 5).run Try.prog W = .ok 1 W := by kernel_rfl
  have e : (h : Int).toNat = h := by omega
  have e2 : (s : Int).toNat = s := by omega
  rw [run_sliceAt_slice _ _ _ _ _ _ hu, run_slice_lh _ _ _ _ _ hu .i64 .i64 (s : Int) (h : Int) (by omega) (by omega) (by omega), he, hsz]
  simp only [Result.andThen_ok, e, e2, sliced]
  rw [if_neg (show ¬ c = s by omega)]
  simp only [Option.map_some, Nat.mul_one, add_at]
end
section
namespace Wal
abbrev Sec := Nat → Sd × Int
def scanR (sec : Sec) (at_ : Nat) (least most : Int) : Nat → Nat → List Sd → Option (List Sd)
  | 0, _, l => some l
  | f + 1, n, l =>
    if (sec (at_ + n)).2 ≠ 0 ∨ (sec (at_ + n)).1.number ≠ ((at_ + n : Nat) : Int) ∨ (n = 0 ∧ ¬ ((sec (at_ + n)).1.kind = 2 ∧ least ≤ (sec (at_ + n)).1.epoch ∧ (sec (at_ + n)).1.epoch ≤ most)) then none
    else if (sec (at_ + n)).1.left = 0 then some (l ++ [(sec (at_ + n)).1]) else scanR sec at_ least most f (n + 1) (l ++ [(sec (at_ + n)).1])
def recordW (sec : Sec) (N at_ : Nat) (least most : Int) : Option (List UInt8 × Nat) :=
  match scanR sec at_ least most (N - at_) 0 [] with
  | none => none
  | some l => if (joinS l).2 = true then some ((joinS l).1, l.length) else none
def recordsW (sec : Sec) (N : Nat) (least most : Int) : Nat → Nat → List (List UInt8) × Nat
  | 0, a => ([], a)
  | f + 1, a => match recordW sec N a least most with
    | none => ([], a)
    | some (t, n) => (t :: (recordsW sec N least most f (a + n)).1, (recordsW sec N least most f (a + n)).2)
def base (at_ : Nat) (e : Int) : Sd := ⟨2, e, (at_ : Int), 0, []⟩
def partW (at_ : Nat) (e : Int) (t : List UInt8) (i : Nat) : Sd := (base at_ e).part t (needN t.length) i
def RecAt (sec : Sec) (N at_ : Nat) (e : Int) (t : List UInt8) : Prop :=
  0 < needN t.length ∧ needN t.length ≤ 65536 ∧ at_ + needN t.length ≤ N ∧ ∀ i, i < needN t.length → sec (at_ + i) = (partW at_ e t i, 0)
def Sane (sec : Sec) : Prop := ∀ j, (sec j).2 = 0 → (sec j).1.may = true
section
variable {sec sec' : Sec} {N at_ u : Nat} {e least most : Int} {t : List UInt8} {R : List (List UInt8)}
theorem part_number (i : Nat) : (partW at_ e t i).number = ((at_ + i : Nat) : Int) := by
  show (at_ : Int) + (i : Int) = _
  omega
theorem part_left (i : Nat) : (partW at_ e t i).left = ((needN t.length - 1 - i : Nat) : Int) := rfl
theorem part_epoch (i : Nat) : (partW at_ e t i).epoch = e := rfl
theorem part_kind (i : Nat) : (partW at_ e t i).kind = if i = 0 then 2 else 3 := rfl
theorem scan_rec (h : RecAt sec N at_ e t) (h1 : least ≤ e) (h2 : e ≤ most) : ∀ (f k : Nat) (l : List Sd), k < needN t.length → needN t.length - k ≤ f → scanR sec at_ least most f k l = some (l ++ (List.range (needN t.length - k)).map fun i => partW at_ e t (k + i))
  | 0, k, l, hk, hf => by omega
  | f + 1, k, l, hk, hf => by
    have hs := h.2.2.2 k hk
    rw [scanR, hs, if_neg, part_left]
    · by_cases hl : k + 1 = needN t.length
      · rw [if_pos (by omega), show needN t.length - k = 1 by omega]
        rfl
      · rw [if_neg (by omega), scan_rec h h1 h2 f (k + 1) _ (by omega) (by omega)]
        rw [List.append_assoc, show needN t.length - k = (needN t.length - (k + 1)) + 1 by omega, List.range_succ_eq_map]
        simp only [List.map_cons, List.map_map, List.cons_append, List.nil_append, Nat.add_zero]
        congr 3
        refine List.map_congr_left fun i _ => ?_
        simp only [Function.comp]
        congr 1
        omega
    · rintro (h3 | h3 | ⟨rfl, h3⟩)
      · exact h3 rfl
      · exact h3 (part_number k)
      · exact h3 ⟨rfl, h1, h2⟩
theorem split_rec (hsn : Sane sec) (h : RecAt sec N at_ e t) : splitS (base at_ e) t = ((List.range (needN t.length)).map (partW at_ e t), 0) := by
  unfold splitS
  have h0 := h.1
  rw [if_neg (by omega), if_neg (by have := h.2.1; omega), if_pos]
  · rfl
  · refine List.all_eq_true.2 fun i hi => ?_
    have hi' := List.mem_range.1 hi
    have h2 := hsn (at_ + i) (by rw [h.2.2.2 i hi'])
    rw [h.2.2.2 i hi'] at h2
    exact h2
theorem rec_of (hsn : Sane sec) (h : RecAt sec N at_ e t) (h1 : least ≤ e) (h2 : e ≤ most) : recordW sec N at_ least most = some (t, needN t.length) := by
  have hN := h.2.2.1
  have h0 := h.1
  have hsp := split_rec hsn h
  have hj := join_split (base at_ e) t (by rw [hsp])
  rw [hsp] at hj
  unfold recordW
  rw [scan_rec h h1 h2 (N - at_) 0 [] h0 (by omega)]
  simp only [List.nil_append, Nat.sub_zero, Nat.zero_add]
  rw [hj]
  simp
theorem scan_some : ∀ (f k : Nat) (l m : List Sd), scanR sec at_ least most f k l = some m → ∃ n, n ≤ f ∧ m = l ++ (List.range n).map (fun i => (sec (at_ + (k + i))).1) ∧ (∀ i, i < n → (sec (at_ + (k + i))).2 = 0 ∧ (sec (at_ + (k + i))).1.number = ((at_ + (k + i) : Nat) : Int)) ∧ (k = 0 → 0 < n → (sec at_).1.kind = 2 ∧ least ≤ (sec at_).1.epoch ∧ (sec at_).1.epoch ≤ most)
  | 0, k, l, m, h => by
    rw [scanR] at h
    injection h with h
    exact ⟨0, Nat.le_refl _, by simp [h], fun i hi => by omega, fun _ h0 => by omega⟩
  | f + 1, k, l, m, h => by
    rw [scanR] at h
    split at h
    · cases h
    · rename_i hc
      have c1 : (sec (at_ + k)).2 = 0 := Classical.byContradiction fun hh => hc (.inl hh)
      have c2 : (sec (at_ + k)).1.number = ((at_ + k : Nat) : Int) := Classical.byContradiction fun hh => hc (.inr (.inl hh))
      have c3 : k = 0 → (sec at_).1.kind = 2 ∧ least ≤ (sec at_).1.epoch ∧ (sec at_).1.epoch ≤ most := fun hk => Classical.byContradiction fun hh => hc (.inr (.inr ⟨hk, by subst hk; exact hh⟩))
      split at h
      · injection h with h
        refine ⟨1, by omega, ?_, fun i hi => ?_, fun hk _ => c3 hk⟩
        · rw [← h]; rfl
        · obtain rfl : i = 0 := by omega
          exact ⟨c1, c2⟩
      · obtain ⟨n, hn, e1, e2, _⟩ := scan_some f (k + 1) _ m h
        refine ⟨n + 1, by omega, ?_, fun i hi => ?_, fun hk _ => c3 hk⟩
        · rw [e1, List.append_assoc, List.range_succ_eq_map]
          simp only [List.map_cons, List.map_map, List.cons_append, List.nil_append, Nat.add_zero]
          congr 3
          funext i
          simp only [Function.comp]
          rw [show k + 1 + i = k + (i + 1) by omega]
        · rcases Nat.eq_zero_or_pos i with h0 | h0
          · subst h0; exact ⟨c1, c2⟩
          · have := e2 (i - 1) (by omega)
            rwa [show k + 1 + (i - 1) = k + i by omega] at this
theorem rec_only {n : Nat} (h : recordW sec N at_ least most = some (t, n)) : ∃ e, least ≤ e ∧ e ≤ most ∧ RecAt sec N at_ e t ∧ n = needN t.length := by
  unfold recordW at h
  cases hs : scanR sec at_ least most (N - at_) 0 [] with
  | none => rw [hs] at h; cases h
  | some l =>
    rw [hs] at h
    simp only [] at h
    split at h
    · rename_i hj
      simp only [Option.some.injEq, Prod.mk.injEq] at h
      obtain ⟨h1, h2⟩ := h
      obtain ⟨m, hm, e1, e2, e3⟩ := scan_some _ _ _ _ hs
      rw [List.nil_append] at e1
      have hlen : l.length = m := by rw [e1]; simp
      unfold joinS at hj h1
      cases l with
      | nil => cases hj
      | cons x r =>
        simp only [] at hj h1
        by_cases hsp : splitS x ((x :: r).flatMap (·.data)) = (x :: r, 0)
        · rw [if_pos hsp] at h1
          simp only [] at h1
          rw [h1] at hsp
          have hm0 : 0 < m := by rw [← hlen]; simp
          have hx : x = (sec at_).1 := by
            have h5 := congrArg (fun l => l[0]?) e1
            simp only [List.getElem?_cons_zero, List.getElem?_map, List.getElem?_range hm0, Option.map_some, Option.some.injEq] at h5
            rw [h5]
            rfl
          obtain ⟨k1, k2, k3⟩ := e3 rfl hm0
          have k4 := e2 0 hm0
          rw [Nat.zero_add, Nat.add_zero] at k4
          refine ⟨(sec at_).1.epoch, k2, k3, ?_, ?_⟩
          · have hsc := split_cases x t
            rcases hsc with ⟨h6, h7⟩ | ⟨_, h7⟩
            · rw [hsp] at h6
              simp only [Prod.mk.injEq, and_true] at h6
              have hmn : m = needN t.length := by rw [← hlen, h6]; simp
              refine ⟨by omega, ?_, by omega, fun i hi => ?_⟩
              · unfold splitS at hsp
                rw [if_neg h7] at hsp
                by_cases hb : 65536 < needN t.length
                · rw [if_pos hb] at hsp; simp at hsp
                · omega
              · have h8 := e2 i (by omega)
                rw [Nat.zero_add] at h8
                have h9 : (sec (at_ + i)).1 = x.part t (needN t.length) i := by
                  have h5 := congrArg (fun l => l[i]?) (e1.symm.trans h6)
                  simp only [List.getElem?_map, List.getElem?_range hi, List.getElem?_range (show i < m by omega), Option.map_some, Option.some.injEq, Nat.zero_add] at h5
                  exact h5
                refine Prod.ext ?_ h8.1
                show (sec (at_ + i)).1 = partW at_ _ t i
                rw [h9, hx]
                unfold partW base Sd.part
                simp only [Sd.mk.injEq, and_true, true_and]
                refine ⟨by rw [k1], by rw [k4.2]⟩
            · rw [hsp] at h7; exact absurd rfl h7
          · rw [← h2, hlen]
            have h6 := (split_cases x t)
            rcases h6 with ⟨h6, _⟩ | ⟨_, h7⟩
            · rw [hsp] at h6
              simp only [Prod.mk.injEq, and_true] at h6
              rw [← hlen, h6]; simp
            · rw [hsp] at h7; exact absurd rfl h7
        · rw [if_neg hsp] at hj; cases hj
    · cases h
def Chain (sec : Sec) (N : Nat) (least most : Int) : Nat → List (List UInt8) → Nat → Prop
  | a, [], u => a = u
  | a, t :: R, u => (∃ e, least ≤ e ∧ e ≤ most ∧ RecAt sec N a e t) ∧ Chain sec N least most (a + needN t.length) R u
theorem records_chain (hsn : Sane sec) (hno : recordW sec N u least most = none) : ∀ (R : List (List UInt8)) (f a : Nat), Chain sec N least most a R u → R.length < f → recordsW sec N least most f a = (R, u)
  | [], f + 1, a, h, _ => by
    have h' : a = u := h
    subst h'
    rw [recordsW, hno]
  | t :: R, f + 1, a, h, hf => by
    obtain ⟨⟨e, h1, h2, h3⟩, h4⟩ := h
    rw [recordsW, rec_of hsn h3 h1 h2]
    have ih := records_chain hsn hno R f _ h4 (by simpa using hf)
    simp only [ih]
theorem chain_end : ∀ (R : List (List UInt8)) (a : Nat), Chain sec N least most a R u → a ≤ u ∧ (0 < R.length → u ≤ N)
  | [], a, h => ⟨Nat.le_of_eq h, fun h0 => absurd h0 (by simp)⟩
  | t :: R, a, h => by
    obtain ⟨⟨e, _, _, h3⟩, h4⟩ := h
    have ih := chain_end R _ h4
    refine ⟨by omega, fun _ => ?_⟩
    cases R with
    | nil =>
      have h5 : a + needN t.length = u := h4
      have := h3.2.2.1
      omega
    | cons t2 R2 => exact ih.2 (by simp)
theorem chain_same {most' : Int} (hm : most ≤ most') (hs : ∀ j, j < u → sec' j = sec j) : ∀ (R : List (List UInt8)) (a : Nat), Chain sec N least most a R u → Chain sec' N least most' a R u
  | [], a, h => h
  | t :: R, a, h => by
    obtain ⟨⟨e, h1, h2, h3⟩, h4⟩ := h
    have hu := (chain_end R _ h4).1
    exact ⟨⟨e, h1, Int.le_trans h2 hm, h3.1, h3.2.1, h3.2.2.1, fun i hi => (hs _ (by omega)).trans (h3.2.2.2 i hi)⟩, chain_same hm hs R _ h4⟩
theorem chain_more {v : Nat} (h2 : Chain sec N least most u [t] v) : ∀ (R : List (List UInt8)) (a : Nat), Chain sec N least most a R u → Chain sec N least most a (R ++ [t]) v
  | [], a, h => by
    have h' : a = u := h
    subst h'
    exact h2
  | x :: R, a, h => ⟨h.1, chain_more h2 R _ h.2⟩
def Stale (sec : Sec) (u : Nat) (e : Int) : Prop := ∀ j, u ≤ j → (sec j).2 = 0 → (sec j).1.number = (j : Int) → (sec j).1.epoch < e ∧ (u < j → (sec j).1.kind ≠ 2)
theorem Stale.next {e' : Int} (h : Stale sec u e) (he : e ≤ e') : Stale sec u e' := fun j h1 h2 h3 => ⟨Int.lt_of_lt_of_le (h j h1 h2 h3).1 he, (h j h1 h2 h3).2⟩
theorem no_rec {v : Nat} (h : ∀ h0 : (sec v).2 = 0, (sec v).1.number = (v : Int) → (sec v).1.kind ≠ 2) : recordW sec N v least most = none := by
  cases hr : recordW sec N v least most with
  | none => rfl
  | some x =>
    obtain ⟨t, n⟩ := x
    obtain ⟨e, _, _, h3, _⟩ := rec_only hr
    have h4 := h3.2.2.2 0 h3.1
    rw [Nat.add_zero] at h4
    exact absurd (by rw [h4]; rfl) (h (by rw [h4]) (by rw [h4]; exact part_number 0))
structure Area (sec : Sec) (N u : Nat) (e : Int) (R : List (List UInt8)) : Prop where
  sane : Sane sec
  chain : Chain sec N 1 e 0 R u
  stale : Stale sec u e
  none : recordW sec N u 1 e = none
theorem Area.wrote (h : Area sec N u e R) (hsn : Sane sec') (he : 1 ≤ e) (hn : 0 < needN t.length) (hb : needN t.length ≤ 65536) (hN : u + needN t.length ≤ N) (h1 : ∀ j, j < u → sec' j = sec j) (h2 : ∀ i, i < needN t.length → sec' (u + i) = (partW u e t i, 0)) (h3 : ∀ j, u + needN t.length ≤ j → sec' j = sec j ∨ (sec' j).2 ≠ 0) : Area sec' N (u + needN t.length) e (R ++ [t]) := by
  have hst : ∀ j, u + needN t.length ≤ j → (sec' j).2 = 0 → (sec' j).1.number = (j : Int) → (sec' j).1.epoch < e ∧ (sec' j).1.kind ≠ 2 := fun j hj h5 h6 => by
    rcases h3 j hj with h7 | h7
    · rw [h7] at h5 h6 ⊢
      have h8 := h.stale j (by omega) h5 h6
      exact ⟨h8.1, h8.2 (by omega)⟩
    · exact absurd h5 h7
  refine ⟨hsn, chain_more ⟨⟨e, he, Int.le_refl _, hn, hb, hN, h2⟩, rfl⟩ R 0 (chain_same (Int.le_refl _) h1 R 0 h.chain), fun j hj h5 h6 => ⟨(hst j hj h5 h6).1, fun _ => (hst j hj h5 h6).2⟩, no_rec fun h5 h6 => (hst _ (Nat.le_refl _) h5 h6).2⟩
theorem Area.torn (h : Area sec N u e R) (hsn : Sane sec') (he : 1 ≤ e) (hn : 0 < needN t.length) (hb : needN t.length ≤ 65536) (hN : u + needN t.length ≤ N) (h1 : ∀ j, j < u → sec' j = sec j) (h2 : ∀ i, i < needN t.length → sec' (u + i) = sec (u + i) ∨ sec' (u + i) = (partW u e t i, 0)) (h3 : ∀ j, u + needN t.length ≤ j → sec' j = sec j ∨ (sec' j).2 ≠ 0) :
    Area sec' N u (e + 1) R ∨ Area sec' N (u + needN t.length) (e + 1) (R ++ [t]) := by
  have hst : ∀ j, u < j → (sec' j).2 = 0 → (sec' j).1.number = (j : Int) → (sec' j).1.epoch < e + 1 ∧ (sec' j).1.kind ≠ 2 := fun j hj h5 h6 => by
    have old : sec' j = sec j → (sec' j).1.epoch < e + 1 ∧ (sec' j).1.kind ≠ 2 := fun h7 => by
      rw [h7] at h5 h6 ⊢
      have h8 := h.stale j (by omega) h5 h6
      exact ⟨by have := h8.1; omega, h8.2 hj⟩
    by_cases hj2 : j < u + needN t.length
    · obtain ⟨i, rfl⟩ : ∃ i, j = u + i := ⟨j - u, by omega⟩
      rcases h2 i (by omega) with h7 | h7
      · exact old h7
      · rw [h7]
        refine ⟨by show e < e + 1; omega, ?_⟩
        show (if i = 0 then (2 : Int) else 3) ≠ 2
        rw [if_neg (by omega)]
        omega
    · rcases h3 j (by omega) with h7 | h7
      · exact old h7
      · exact absurd h5 h7
  have hst0 : Stale sec' u (e + 1) := fun j hj h5 h6 => by
    rcases Nat.lt_or_ge u j with h8 | h8
    · exact ⟨(hst j h8 h5 h6).1, fun _ => (hst j h8 h5 h6).2⟩
    · obtain rfl : j = u := by omega
      refine ⟨?_, fun h9 => absurd h9 (Nat.lt_irrefl _)⟩
      rcases h2 0 hn with h7 | h7
      · rw [Nat.add_zero] at h7
        rw [h7] at h5 h6 ⊢
        have := (h.stale j hj h5 h6).1
        omega
      · rw [Nat.add_zero] at h7
        rw [h7]
        show e < e + 1
        omega
  by_cases hall : ∀ i, i < needN t.length → sec' (u + i) = (partW u e t i, 0)
  · right
    refine ⟨hsn, chain_more ⟨⟨e, he, by omega, hn, hb, hN, hall⟩, rfl⟩ R 0 (chain_same (by omega) h1 R 0 h.chain), fun j hj h5 h6 => ⟨(hst j (by omega) h5 h6).1, fun _ => (hst j (by omega) h5 h6).2⟩, no_rec fun h5 h6 => (hst _ (by omega) h5 h6).2⟩
  · left
    refine ⟨hsn, chain_same (by omega) h1 R 0 h.chain, hst0, ?_⟩
    cases hr : recordW sec' N u 1 (e + 1) with
    | none => rfl
    | some x =>
      exfalso
      obtain ⟨t', n⟩ := x
      obtain ⟨e', k1, k2, k3, _⟩ := rec_only hr
      have k4 := k3.2.2.2 0 k3.1
      by_cases hee : e' = e
      ·
        subst hee
        have hnew : ∀ i, i < needN t'.length → i < needN t.length ∧ sec' (u + i) = (partW u e' t i, 0) := fun i hi => by
          have k5 := k3.2.2.2 i hi
          have notold : sec' (u + i) ≠ sec (u + i) := fun h7 => by
            rw [h7] at k5
            have h8 := (h.stale (u + i) (by omega) (by rw [k5]) (by rw [k5]; exact part_number i)).1
            rw [k5] at h8
            exact Int.lt_irrefl _ h8
          by_cases hi2 : i < needN t.length
          · rcases h2 i hi2 with h7 | h7
            · exact absurd h7 notold
            · exact ⟨hi2, h7⟩
          · rcases h3 (u + i) (by omega) with h7 | h7
            · exact absurd h7 notold
            · rw [k5] at h7; exact absurd rfl h7
        have hl0 := (hnew 0 k3.1).2
        rw [k4] at hl0
        have hl : needN t'.length = needN t.length := by
          have h9 := congrArg (fun x : Sd × Int => x.1.left) hl0
          simp only [part_left] at h9
          have := k3.1
          omega
        exact hall fun i hi => (hnew i (by omega)).2
      ·
        have hold : ∀ i, i < needN t'.length → sec (u + i) = (partW u e' t' i, 0) := fun i hi => by
          have k5 := k3.2.2.2 i hi
          by_cases hi2 : i < needN t.length
          · rcases h2 i hi2 with h7 | h7
            · rw [← h7]; exact k5
            · rw [k5] at h7
              have h9 := congrArg (fun x : Sd × Int => x.1.epoch) h7
              simp only [part_epoch] at h9
              exact absurd h9 hee
          · rcases h3 (u + i) (by omega) with h7 | h7
            · rw [← h7]; exact k5
            · rw [k5] at h7; exact absurd rfl h7
        have h11 : e' < e := by
          have h12 := hold 0 k3.1
          rw [Nat.add_zero] at h12
          have h13 := (h.stale u (Nat.le_refl _) (by rw [h12]) (by rw [h12]; exact part_number 0)).1
          rw [h12] at h13
          exact h13
        have h10 := rec_of h.sane (show RecAt sec N u e' t' from ⟨k3.1, k3.2.1, k3.2.2.1, hold⟩) k1 (show e' ≤ e by omega)
        rw [h.none] at h10
        cases h10
end
end Wal
end
end Go.Proofs.Ytghenhacndaelaa
