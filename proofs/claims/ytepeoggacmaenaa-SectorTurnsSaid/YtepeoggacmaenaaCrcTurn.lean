/- Plain mathematics of turning four bytes in a row, one by one. Nothing of the program. -/
import Derived.Test.YtepeoggacmaenaaCrcPlain
set_option linter.unusedVariables false
namespace Go.Proofs.Ytepeoggacmaenaa

/-- The first k of the bytes from place p on, turned. -/
def turnK (S : List UInt8) (p : Nat) (ts : List UInt8) : Nat → List UInt8
  | 0 => S
  | k + 1 => (turnK S p ts k).set (p + k) ((turnK S p ts k).getD (p + k) 0 ^^^ ts.getD k 0)
theorem turnK_length (S : List UInt8) (p : Nat) (ts : List UInt8) : ∀ k, (turnK S p ts k).length = S.length := by
  intro k
  induction k with
  | zero => rfl
  | succ k ih => simp [turnK, ih]
theorem turnK_succ (S : List UInt8) (p : Nat) (ts : List UInt8) (k : Nat) (h : p + k < (turnK S p ts k).length) (h2 : k < ts.length) :
    turnK S p ts (k + 1) = (turnK S p ts k).set (p + k) ((turnK S p ts k)[p + k] ^^^ ts[k]) := by
  show (turnK S p ts k).set (p + k) _ = _
  rw [List.getD_eq_getElem?_getD, List.getD_eq_getElem?_getD, List.getElem?_eq_getElem h, List.getElem?_eq_getElem h2]
  rfl
theorem xorL_append : ∀ (a b c d : List UInt8), a.length = b.length → xorL (a ++ c) (b ++ d) = xorL a b ++ xorL c d := by
  intro a
  induction a with
  | nil => intro b c d h; cases b <;> simp_all [xorL]
  | cons x a ih =>
    intro b c d h
    cases b with
    | nil => simp at h
    | cons y b => simp only [List.cons_append, xorL]; rw [ih b c d (by simpa using h)]
theorem xorL_zeros : ∀ (a : List UInt8), xorL a (List.replicate a.length 0) = a := by
  intro a
  induction a with
  | nil => rfl
  | cons x a ih => simp only [List.length_cons, List.replicate_succ, xorL, ih]; simp
theorem turnK_parts (S1 S2 : List UInt8) (a b c d t0 t1 t2 t3 : UInt8) :
    turnK (S1 ++ (a :: b :: c :: d :: S2)) S1.length [t0, t1, t2, t3] 4 = S1 ++ ((a ^^^ t0) :: (b ^^^ t1) :: (c ^^^ t2) :: (d ^^^ t3) :: S2) := by
  simp [turnK, List.set_append_right]
theorem list_parts (S : List UInt8) (p m : Nat) (h : S.length = p + (4 + m)) : ∃ S1 a b c d S2, S = S1 ++ (a :: b :: c :: d :: S2) ∧ S1.length = p ∧ S2.length = m := by
  have h1 : (S.take p).length = p := by rw [List.length_take]; omega
  have h2 : (S.drop p).length = 4 + m := by rw [List.length_drop]; omega
  match hx : S.drop p, h2 with
  | a :: b :: c :: d :: S2, h2 =>
    refine ⟨S.take p, a, b, c, d, S2, ?_, h1, by simp at h2; omega⟩
    rw [← hx, List.take_append_drop]
  | [], h2 => simp at h2; omega
  | [_], h2 => simp at h2; omega
  | [_, _], h2 => simp at h2; omega
  | [_, _, _], h2 => simp at h2; omega
theorem turnK_burst (S : List UInt8) (p m : Nat) (t0 t1 t2 t3 : UInt8) (h : S.length = p + (4 + m)) : turnK S p [t0, t1, t2, t3] 4 = xorL S (burst p m t0 t1 t2 t3) := by
  obtain ⟨S1, a, b, c, d, S2, rfl, rfl, rfl⟩ := list_parts S p m h
  rw [turnK_parts]
  unfold burst
  rw [xorL_append _ _ _ _ (by simp), xorL_zeros]
  congr 1
  show _ = xorL (a :: b :: c :: d :: S2) (t0 :: t1 :: t2 :: t3 :: List.replicate S2.length 0)
  simp only [xorL, xorL_zeros]
theorem burst_length (p m : Nat) (a b c d : UInt8) : (burst p m a b c d).length = p + (4 + m) := by simp [burst]; omega
/-- Sealed bytes of which any within four in a row are turned are not sealed. -/
theorem turned_not (l : List UInt8) (p : Nat) (t0 t1 t2 t3 : UInt8) (hp : p ≤ l.length) (hne : ¬ (t0 = 0 ∧ t1 = 0 ∧ t2 = 0 ∧ t3 = 0)) : openL (turnK (sealL l) p [t0, t1, t2, t3] 4) = none := by
  have hl : (sealL l).length = p + (4 + (l.length - p)) := by rw [sealL_length]; omega
  rw [turnK_burst _ _ _ _ _ _ _ hl]
  exact turned l p (l.length - p) t0 t1 t2 t3 (by rw [hl, burst_length]) hne

end Go.Proofs.Ytepeoggacmaenaa
