/- Plain mathematics of digits: texts as digits, and digits as texts. Nothing of the program. -/
import Derived.Test.YtmmilgjdngdnfaaDoorIdsPlain
set_option linter.unusedVariables false
namespace Go.Proofs.YtmmilgjdngdnfaaDoor

def hexD : List UInt8 := [48, 49, 50, 51, 52, 53, 54, 55, 56, 57, 97, 98, 99, 100, 101, 102]
def hexd (n : Nat) : UInt8 := hexD.getD n 0
def hexB (b : UInt8) : List UInt8 := [hexd (b.toNat / 16), hexd (b.toNat % 16)]
def hexL (s : Bs) : Bs := s.flatMap hexB
/-- A digit's number; 16: it is none. -/
def digL (c : UInt8) : Nat :=
  if 48 ≤ c.toNat ∧ c.toNat ≤ 57 then c.toNat - 48 else if 97 ≤ c.toNat ∧ c.toNat ≤ 102 then c.toNat - 87 else if 65 ≤ c.toNat ∧ c.toNat ≤ 70 then c.toNat - 55 else 16
theorem digL_le (c : UInt8) : digL c ≤ 16 := by
  unfold digL
  split
  · omega
  · split
    · omega
    · split <;> omega
theorem digL_hexd : ∀ n, n < 16 → digL (hexd n) = n := by decide
/-- The bytes of the first 2k digits. -/
def parseK (s : Bs) : Nat → Option Bs
  | 0 => some []
  | k + 1 => match parseK s k with
    | none => none
    | some o => if digL (s.getD (2 * k) 0) = 16 ∨ digL (s.getD (2 * k + 1) 0) = 16 then none else some (o ++ [UInt8.ofNat (16 * digL (s.getD (2 * k) 0) + digL (s.getD (2 * k + 1) 0))])
def parseL (s : Bs) : Option Bs := if s.length = 64 then parseK s 32 else none
theorem parseK_length (s : Bs) : ∀ k o, parseK s k = some o → o.length = k
  | 0, o, h => by simp [parseK] at h; subst h; rfl
  | k + 1, o, h => by
    rw [parseK] at h
    cases hp : parseK s k with
    | none => rw [hp] at h; cases h
    | some o' =>
      rw [hp] at h
      simp only at h
      split at h
      · cases h
      · injection h with h
        rw [← h, List.length_append, parseK_length s k o' hp]
        rfl
theorem parseK_none (s : Bs) (k : Nat) (h : parseK s k = none) : ∀ j, k ≤ j → parseK s j = none := by
  intro j hj
  induction j with
  | zero => rw [show k = 0 by omega] at h; exact h
  | succ j ih =>
    rcases Nat.lt_or_ge j k with h1 | h1
    · rw [show j + 1 = k by omega]; exact h
    · rw [parseK, ih h1]
theorem hexL_length (s : Bs) : (hexL s).length = 2 * s.length := by
  induction s with
  | nil => rfl
  | cons a s ih => simp [hexL, hexB] at ih ⊢; omega
theorem hexL_get (s : Bs) : ∀ k, k < s.length → (hexL s).getD (2 * k) 0 = hexd ((s.getD k 0).toNat / 16) ∧ (hexL s).getD (2 * k + 1) 0 = hexd ((s.getD k 0).toNat % 16) := by
  induction s with
  | nil => intro k h; simp at h
  | cons a s ih =>
    intro k h
    have e : hexL (a :: s) = hexd (a.toNat / 16) :: hexd (a.toNat % 16) :: hexL s := rfl
    rw [e]
    cases k with
    | zero => exact ⟨rfl, rfl⟩
    | succ k =>
      have := ih k (by simpa using h)
      rw [show 2 * (k + 1) = 2 * k + 1 + 1 by omega]
      simpa using this
theorem parse_hexK (s : Bs) : ∀ k, k ≤ s.length → parseK (hexL s) k = some (s.take k)
  | 0, _ => by simp [parseK]
  | k + 1, h => by
    obtain ⟨h1, h2⟩ := hexL_get s k (by omega)
    have hb := (s.getD k 0).toNat_lt
    have d1 : digL (hexd ((s.getD k 0).toNat / 16)) = (s.getD k 0).toNat / 16 := digL_hexd _ (by omega)
    have d2 : digL (hexd ((s.getD k 0).toNat % 16)) = (s.getD k 0).toNat % 16 := digL_hexd _ (by omega)
    rw [parseK, parse_hexK s k (by omega)]
    simp only [h1, h2, d1, d2]
    rw [if_neg (by omega), List.take_succ_eq_append_getElem (by omega)]
    have e : 16 * ((s.getD k 0).toNat / 16) + (s.getD k 0).toNat % 16 = (s.getD k 0).toNat := by omega
    have e2 : s.getD k 0 = s[k] := by rw [List.getD, List.getElem?_eq_getElem (by omega)]; rfl
    rw [e, e2]
    simp
theorem parse_hex (s : Bs) : parseL (hexL s) = if s.length = 32 then some s else none := by
  unfold parseL
  rw [hexL_length]
  by_cases h : s.length = 32
  · rw [if_pos (by omega), if_pos h, parse_hexK s 32 (by omega), List.take_of_length_le (by omega)]
  · rw [if_neg (by omega), if_neg h]

end Go.Proofs.YtmmilgjdngdnfaaDoor
