/- Plain mathematics of numbers as bytes: putting, getting, fixing, unfixing; nothing of the program. -/
import Init.Data.List.Lemmas
set_option linter.unusedVariables false
set_option linter.unusedSimpArgs false
namespace Go.Proofs.YtibaaideleinhaaDoor

theorem ofNat_toNat (n : Nat) (h : n < 256) : (UInt8.ofNat n).toNat = n := by
  simp [UInt8.toNat_ofNat', Nat.mod_eq_of_lt h]
theorem ofNat_byte (b : UInt8) : UInt8.ofNat b.toNat = b := by simp
theorem byte_lt (b : UInt8) : b.toNat < 256 := b.toNat_lt

/-- A number's bytes. -/
def putL (n : Nat) : List UInt8 :=
  if h : 128 ≤ n then UInt8.ofNat (n % 128 + 128) :: putL (n / 128) else [UInt8.ofNat n]
termination_by n
decreasing_by omega

theorem putL_big (n : Nat) (h : 128 ≤ n) : putL n = UInt8.ofNat (n % 128 + 128) :: putL (n / 128) := by
  rw [putL]; simp [h]
theorem putL_small (n : Nat) (h : n < 128) : putL n = [UInt8.ofNat n] := by
  rw [putL]; simp [Nat.not_le.2 h]

theorem putL_len_pos (n : Nat) : 0 < (putL n).length := by
  by_cases h : 128 ≤ n
  · rw [putL_big n h]; simp
  · rw [putL_small n (by omega)]; simp

theorem putL_len_le : ∀ (k n : Nat), n < 128 ^ (k + 1) → (putL n).length ≤ k + 1 := by
  intro k
  induction k with
  | zero => intro n h; rw [putL_small n (by simpa using h)]; simp
  | succ k ih =>
    intro n h
    by_cases hn : 128 ≤ n
    · rw [putL_big n hn]
      have := ih (n / 128) (by rw [Nat.pow_succ] at h; omega)
      simp; omega
    · rw [putL_small n (by omega)]; simp

theorem putL_len5 (n : Nat) (h : n ≤ 2147483647) : (putL n).length ≤ 5 := putL_len_le 4 n (by omega)

/-- The number that bytes begin with, and how many bytes it has: f rounds are left, i bytes are read, acc is what they hold. -/
def getAux : Nat → List UInt8 → Nat → Nat → Nat → Option (Nat × Nat)
  | 0, _, _, _, _ => none
  | _ + 1, [], _, _, _ => none
  | f + 1, b :: l, i, acc, q =>
    if 128 ≤ b.toNat then getAux f l (i + 1) (acc + b.toNat % 128 * q) (q * 128)
    else if 2147483647 < acc + b.toNat % 128 * q ∨ (0 < i ∧ b.toNat = 0) then none
    else some (acc + b.toNat % 128 * q, i + 1)

def getL (l : List UInt8) : Option (Nat × Nat) := getAux 5 l 0 0 1

theorem getAux_put : ∀ (f m : Nat) (rest : List UInt8) (i acc q : Nat), (putL m).length ≤ f → acc + m * q ≤ 2147483647 → 0 < q → (0 < i → 0 < m) →
    getAux f (putL m ++ rest) i acc q = some (acc + m * q, i + (putL m).length) := by
  intro f
  induction f with
  | zero => intro m rest i acc q h; have := putL_len_pos m; omega
  | succ f ih =>
    intro m rest i acc q hl hmax hq hi
    by_cases h : 128 ≤ m
    · rw [putL_big m h] at hl ⊢
      have hb : (UInt8.ofNat (m % 128 + 128)).toNat = m % 128 + 128 := ofNat_toNat _ (by omega)
      have e1 : (m % 128 + 128) % 128 = m % 128 := by omega
      have e2 : acc + m % 128 * q + m / 128 * (q * 128) = acc + m * q := by
        have : m * q = m % 128 * q + m / 128 * (q * 128) := by
          have h1 : m = m % 128 + 128 * (m / 128) := (Nat.mod_add_div m 128).symm
          calc m * q = (m % 128 + 128 * (m / 128)) * q := by rw [← h1]
            _ = m % 128 * q + m / 128 * (q * 128) := by rw [Nat.add_mul, Nat.mul_comm 128 (m / 128), Nat.mul_assoc, Nat.mul_comm 128 q]
        omega
      simp only [List.cons_append, getAux, hb, e1]
      rw [if_pos (by omega), ih (m / 128) rest (i + 1) _ (q * 128) (by simpa using hl) (by omega) (by omega) (fun _ => by omega), e2]
      simp; omega
    · rw [putL_small m (by omega)] at hl ⊢
      have hb : (UInt8.ofNat m).toNat = m := ofNat_toNat _ (by omega)
      have e1 : m % 128 = m := Nat.mod_eq_of_lt (by omega)
      simp only [List.cons_append, List.nil_append, getAux, hb, e1]
      rw [if_neg (by omega), if_neg (by intro hh; rcases hh with hh | ⟨h1, h2⟩ <;> omega)]
      simp

theorem getL_put (m : Nat) (rest : List UInt8) (h : m ≤ 2147483647) : getL (putL m ++ rest) = some (m, (putL m).length) := by
  have := getAux_put 5 m rest 0 0 1 (putL_len5 m h) (by omega) (by omega) (by omega)
  simpa [getL] using this

theorem getAux_some : ∀ (f : Nat) (l : List UInt8) (i acc q n k : Nat), getAux f l i acc q = some (n, k) →
    ∃ m, n = acc + m * q ∧ n ≤ 2147483647 ∧ k = i + (putL m).length ∧ (putL m).length ≤ l.length ∧ putL m = l.take (putL m).length ∧ (0 < i → 0 < m) := by
  intro f
  induction f with
  | zero => intro l i acc q n k h; cases l <;> simp [getAux] at h
  | succ f ih =>
    intro l i acc q n k h
    cases l with
    | nil => simp [getAux] at h
    | cons b l =>
      have hb := byte_lt b
      simp only [getAux] at h
      by_cases h1 : 128 ≤ b.toNat
      · rw [if_pos h1] at h
        obtain ⟨m', e1, e2, e3, e4, e5, e6⟩ := ih _ _ _ _ _ _ h
        have hm' := e6 (by omega)
        have hp : putL (b.toNat % 128 + 128 * m') = b :: putL m' := by
          rw [putL_big _ (by omega)]
          have a1 : (b.toNat % 128 + 128 * m') % 128 + 128 = b.toNat := by omega
          have a2 : (b.toNat % 128 + 128 * m') / 128 = m' := by omega
          rw [a1, a2, ofNat_byte]
        refine ⟨b.toNat % 128 + 128 * m', ?_, e2, ?_, ?_, ?_, fun _ => by omega⟩
        · rw [e1, Nat.add_mul, Nat.mul_comm 128 m', Nat.mul_assoc, Nat.mul_comm 128 q]; omega
        · rw [hp, e3]; simp; omega
        · rw [hp]; simpa using e4
        · rw [hp]; simp only [List.length_cons, List.take_succ_cons]; rw [← e5]
      · rw [if_neg h1] at h
        by_cases h2 : 2147483647 < acc + b.toNat % 128 * q ∨ (0 < i ∧ b.toNat = 0)
        · rw [if_pos h2] at h; cases h
        · rw [if_neg h2] at h
          simp only [Option.some.injEq, Prod.mk.injEq] at h
          have e1 : b.toNat % 128 = b.toNat := Nat.mod_eq_of_lt (by omega)
          rw [e1] at h h2
          have hp : putL b.toNat = [b] := by rw [putL_small _ (by omega), ofNat_byte]
          refine ⟨b.toNat, h.1.symm, by omega, ?_, ?_, ?_, fun hi => by omega⟩
          · rw [hp, ← h.2]; simp
          · rw [hp]; simp
          · rw [hp]; simp

theorem getL_some (l : List UInt8) (n k : Nat) (h : getL l = some (n, k)) : n ≤ 2147483647 ∧ k = (putL n).length ∧ k ≤ l.length ∧ putL n = l.take k := by
  obtain ⟨m, e1, e2, e3, e4, e5, _⟩ := getAux_some 5 l 0 0 1 n k h
  have hm : n = m := by omega
  subst hm
  have hk : k = (putL n).length := by omega
  subst hk
  exact ⟨e2, rfl, e4, e5⟩

/-- A number in so many bytes. -/
def fixL : Nat → Nat → List UInt8
  | 0, _ => []
  | k + 1, n => UInt8.ofNat (n % 256) :: fixL k (n / 256)
theorem fixL_length : ∀ (k n : Nat), (fixL k n).length = k := by
  intro k
  induction k with
  | zero => intro n; rfl
  | succ k ih => intro n; simp [fixL, ih]
/-- The number of so many bytes. -/
def unfixL : List UInt8 → Nat
  | [] => 0
  | b :: l => b.toNat + 256 * unfixL l
theorem unfix_fix : ∀ (k n : Nat), n < 256 ^ k → unfixL (fixL k n) = n := by
  intro k
  induction k with
  | zero => intro n h; simp [fixL, unfixL] at *; omega
  | succ k ih =>
    intro n h
    have h' : n / 256 < 256 ^ k := by rw [Nat.pow_succ] at h; omega
    simp only [fixL, unfixL, ih _ h']
    rw [ofNat_toNat _ (by omega)]
    omega
theorem fixL_get : ∀ (k n i : Nat) (h : i < k), (fixL k n)[i]? = some (UInt8.ofNat (n / 256 ^ i % 256)) := by
  intro k
  induction k with
  | zero => intro n i h; omega
  | succ k ih =>
    intro n i h
    cases i with
    | zero => simp [fixL]
    | succ i =>
      simp only [fixL, List.getElem?_cons_succ]
      rw [ih _ _ (by omega), Nat.div_div_eq_div_mul, Nat.pow_succ, Nat.mul_comm]
theorem unfixL_lt : ∀ (l : List UInt8), unfixL l < 256 ^ l.length := by
  intro l
  induction l with
  | nil => simp [unfixL]
  | cons b l ih => have := byte_lt b; simp only [unfixL, List.length_cons, Nat.pow_succ]; omega
theorem unfixL_append : ∀ (l m : List UInt8), unfixL (l ++ m) = unfixL l + 256 ^ l.length * unfixL m := by
  intro l m
  induction l with
  | nil => simp [unfixL]
  | cons b l ih => simp only [List.cons_append, unfixL, ih, List.length_cons, Nat.pow_succ, Nat.mul_add]; rw [← Nat.mul_assoc, Nat.mul_comm 256 (256 ^ l.length)]; omega

end Go.Proofs.YtibaaideleinhaaDoor
