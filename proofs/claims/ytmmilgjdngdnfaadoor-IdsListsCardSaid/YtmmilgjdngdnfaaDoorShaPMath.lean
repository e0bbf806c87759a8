/- Plain mathematics beside SHA-256: bytes that are shifted into words one by one; bytes that fill a block; the tail as it is laid from behind. Nothing of the program. -/
import Derived.Test.YtmmilgjdngdnfaaDoorShaParts
import Derived.Test.YtmmilgjdngdnfaaDoorShaPlain
set_option linter.unusedVariables false
namespace Go.Proofs.YtmmilgjdngdnfaaDoor

theorem word_acc (a b c d : UInt8) : ((((0 : UInt32) <<< 8 ||| a.toUInt32) <<< 8 ||| b.toUInt32) <<< 8 ||| c.toUInt32) <<< 8 ||| d.toUInt32 = wordL a b c d := by
  unfold wordL
  apply UInt32.toBitVec_inj.1
  simp only [UInt32.toBitVec_or, UInt32.toBitVec_shiftLeft]
  apply BitVec.eq_of_getLsbD_eq
  intro i hi
  simp [BitVec.getLsbD_or, BitVec.getLsbD_shiftLeft, Nat.sub_sub]
  have e1 : i - 24 < 32 := by omega
  have e2 : i - 16 < 32 := by omega
  have e3 : i - 8 < 32 := by omega
  by_cases h1 : i < 8
  · simp [h1, show i < 16 by omega, show i < 24 by omega]
  · by_cases h2 : i < 16
    · simp [h1, h2, hi, e1, e2, e3, show i < 24 by omega, show i - 8 < 8 by omega]
    · by_cases h3 : i < 24
      · simp [h1, h2, h3, hi, e1, e2, e3, show ¬ i - 8 < 8 by omega, show i - 16 < 8 by omega]
      · simp [h1, h2, h3, hi, e1, e2, e3, show ¬ i - 8 < 8 by omega, show ¬ i - 16 < 8 by omega]
/-- The words while the block's bytes are shifted in. -/
def spreadK (B : List UInt8) : Nat → List UInt32
  | 0 => List.replicate 64 0
  | n + 1 => (spreadK B n).set (n / 4) ((spreadK B n).getD (n / 4) 0 <<< 8 ||| (B.getD n 0).toUInt32)
theorem spreadK_length (B : List UInt8) : ∀ n, (spreadK B n).length = 64 := by
  intro n
  induction n with
  | zero => simp [spreadK]
  | succ n ih => simp [spreadK, ih]
theorem mid_get {α : Type} (S R : List α) (v d : α) (k : Nat) (h : S.length = k) : (S ++ v :: R).getD k d = v := by
  subst h; simp [List.getD]
theorem mid_set {α : Type} (S R : List α) (v u : α) (k : Nat) (h : S.length = k) : (S ++ v :: R).set k u = S ++ u :: R := by
  subst h; simp
theorem spreadK_four (B : List UInt8) : ∀ k, k ≤ 16 → spreadK B (4 * k) = schedK B k ++ List.replicate (64 - k) 0 := by
  intro k
  induction k with
  | zero => intro _; simp [spreadK, schedK]
  | succ k ih =>
    intro h
    have e : 64 - k = (64 - (k + 1)) + 1 := by omega
    have hs := ih (by omega)
    rw [e, List.replicate_succ] at hs
    have l := schedK_length B k
    have d1 : (4 * k + 1) / 4 = k := by omega
    have d2 : (4 * k + 2) / 4 = k := by omega
    have d3 : (4 * k + 3) / 4 = k := by omega
    have d0 : (4 * k) / 4 = k := by omega
    rw [show 4 * (k + 1) = 4 * k + 3 + 1 by omega, spreadK, spreadK, spreadK, spreadK, hs, d0, d1, d2, d3]
    rw [mid_get _ _ _ _ k l, mid_set _ _ _ _ k l, mid_get _ _ _ _ k l, mid_set _ _ _ _ k l, mid_get _ _ _ _ k l, mid_set _ _ _ _ k l, mid_get _ _ _ _ k l, mid_set _ _ _ _ k l, word_acc]
    rw [schedK, schedW, if_pos (by omega)]
    simp
/-- The words while the later ones are made. -/
def wordsK (B : List UInt8) (n : Nat) : List UInt32 := schedK B n ++ List.replicate (64 - n) 0
theorem wordsK_length (B : List UInt8) (n : Nat) (h : n ≤ 64) : (wordsK B n).length = 64 := by
  simp [wordsK, schedK_length]; omega
theorem wordsK_get (B : List UInt8) (n k : Nat) (h : k < n) : (wordsK B n).getD k 0 = (schedK B n).getD k 0 := by
  unfold wordsK
  simp [List.getD, List.getElem?_append_left (show k < (schedK B n).length by rw [schedK_length]; exact h)]
theorem wordsK_step (B : List UInt8) (n : Nat) (h0 : 16 ≤ n) (h : n < 64) :
    wordsK B (n + 1) = (wordsK B n).set n ((wordsK B n).getD (n - 16) 0 + sig0 ((wordsK B n).getD (n - 15) 0) + (wordsK B n).getD (n - 7) 0 + sig1 ((wordsK B n).getD (n - 2) 0)) := by
  rw [wordsK_get B n _ (by omega), wordsK_get B n _ (by omega), wordsK_get B n _ (by omega), wordsK_get B n _ (by omega)]
  unfold wordsK
  rw [show 64 - n = (64 - (n + 1)) + 1 by omega, List.replicate_succ, mid_set _ _ _ _ n (schedK_length B n), schedK, schedW, if_neg (by omega)]
  simp
theorem wordsK_last (B : List UInt8) : wordsK B 64 = schedK B 64 := by simp [wordsK]
theorem spreadK_last (B : List UInt8) : spreadK B 64 = wordsK B 16 := spreadK_four B 16 (by omega)

/-- Bytes that don't fill the block. -/
theorem state_small (L M : List UInt8) (h : L.length % 64 + M.length < 64) : stateL (L ++ M) = stateL L ∧ restL (L ++ M) = restL L ++ M := by
  have hl : (restL L ++ M).length / 64 = 0 := by rw [List.length_append, restL_length]; omega
  rw [stateL_append, restL_append, hl]
  exact ⟨rfl, by simp⟩
/-- Bytes that just fill it. -/
theorem state_full (L M : List UInt8) (h : L.length % 64 + M.length = 64) : stateL (L ++ M) = blockL (stateL L) (restL L ++ M) ∧ restL (L ++ M) = [] := by
  have hl0 : (restL L ++ M).length = 64 := by rw [List.length_append, restL_length]; omega
  have hl : (restL L ++ M).length / 64 = 1 := by rw [hl0]
  rw [stateL_append, restL_append, hl]
  refine ⟨?_, by rw [List.drop_eq_nil_iff]; omega⟩
  rw [blocksK, blocksK, List.take_of_length_le (by simp only [Nat.mul_zero, List.drop_zero]; omega)]
  simp
theorem splice_take {α : Type} (Z X : List α) (r : Nat) (h : r ≤ Z.length) : (Z.take r ++ X ++ Z.drop (r + X.length)).take (r + X.length) = Z.take r ++ X := by
  rw [List.take_append_of_le_length (by simp; omega), List.take_of_length_le (by simp; omega)]

/-- The lowest bytes of a number, the highest first. -/
def beK (m : Nat) : Nat → List UInt8
  | 0 => []
  | k + 1 => UInt8.ofNat (m / 256 ^ k) :: beK m k
theorem beK_length (m : Nat) : ∀ k, (beK m k).length = k := by
  intro k; induction k with
  | zero => rfl
  | succ k ih => simp [beK, ih]
/-- What stands behind so many bytes. -/
def tailB (n : Nat) : List UInt8 := [128] ++ List.replicate (noughts n) 0 ++ lenL (8 * n)
def tailK (n k : Nat) : List UInt8 := ([128] ++ List.replicate (noughts n) 0 ++ List.replicate (8 - k) 0) ++ beK (8 * n) k
theorem tailB_length (n : Nat) : (tailB n).length = 1 + noughts n + 8 := by simp [tailB, lenL]; omega
theorem tailK_length (n k : Nat) (h : k ≤ 8) : (tailK n k).length = 1 + noughts n + 8 := by simp [tailK, beK_length]; omega
theorem tailK_zero (n : Nat) : tailK n 0 = 128 :: List.replicate (noughts n + 8) 0 := by
  simp [tailK, beK, ← List.replicate_append_replicate]
theorem set_between {α : Type} (A B C : List α) (v u : α) (k : Nat) (h : A.length + B.length = k) : ((A ++ (B ++ [v])) ++ C).set k u = (A ++ B) ++ u :: C := by
  subst h
  simp
theorem tailK_step (n k : Nat) (h : k < 8) : tailK n (k + 1) = (tailK n k).set (noughts n + 8 - k) (UInt8.ofNat (8 * n / 256 ^ k)) := by
  unfold tailK
  have e : List.replicate (8 - k) (0 : UInt8) = List.replicate (8 - (k + 1)) 0 ++ [0] := by
    rw [show 8 - k = (8 - (k + 1)) + 1 by omega, List.replicate_succ']
  rw [e, beK, set_between _ _ _ _ _ _ (by simp; omega)]
theorem tailK_last (n k : Nat) (hk : k ≤ 8) (hn : 8 * n < 1099511627776) (h : 8 * n / 256 ^ k = 0) : tailK n k = tailB n := by
  unfold tailK tailB
  rw [List.append_assoc]
  congr 1
  generalize 8 * n = m at hn h
  have hz : ∀ j, k ≤ j → m / 256 ^ j = 0 := by
    intro j hj
    have h0 : (256 : Nat) ^ k ≤ 256 ^ j := Nat.pow_le_pow_right (by omega) hj
    have h1 : m < 256 ^ k := by
      rcases Nat.div_eq_zero_iff.1 h with h2 | h2
      · have := Nat.pow_pos (n := k) (show 0 < 256 by omega); omega
      · exact h2
    exact Nat.div_eq_of_lt (by omega)
  have z7 : m / 256 ^ 7 = 0 := Nat.div_eq_of_lt (by omega)
  have z6 : m / 256 ^ 6 = 0 := Nat.div_eq_of_lt (by omega)
  have z5 : m / 256 ^ 5 = 0 := Nat.div_eq_of_lt (by omega)
  have e : List.replicate (8 - k) (0 : UInt8) ++ beK m k = beK m 8 := by
    clear h
    obtain ⟨d, hd⟩ : ∃ d, d = 8 - k := ⟨_, rfl⟩
    induction d generalizing k with
    | zero => rw [← hd, show k = 8 by omega]; rfl
    | succ d ih =>
      have e1 : List.replicate (8 - k) (0 : UInt8) ++ beK m k = List.replicate (8 - (k + 1)) 0 ++ beK m (k + 1) := by
        rw [show 8 - k = (8 - (k + 1)) + 1 by omega, List.replicate_succ', beK, hz k (Nat.le_refl _), List.append_assoc]
        rfl
      rw [e1]
      exact ih (k + 1) (by omega) (fun j hj => hz j (by omega)) (by omega)
  rw [e]
  simp [beK, lenL, z7, z6, z5]
theorem padL_tail (L : List UInt8) : padL L = L ++ tailB L.length := by
  unfold padL tailB
  simp
theorem idL_state (L : List UInt8) : idL L = (stateL (padL L)).list.flatMap bytesW := rfl
theorem padL_whole (L : List UInt8) : (padL L).length % 64 = 0 := padL_length L

end Go.Proofs.YtmmilgjdngdnfaaDoor
